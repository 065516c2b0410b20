import Derived.Test.YtcdehklcdipcfaaGreatRowOf
import Derived.Test.YtcdehklcdipcfaaGreatMgVa
/-
  Rows that lie in blocks of a known element type: plain lemmas, over any program. My own text.
-/
namespace Go.Proofs.YtcdehklcdipcfaaGreat.base
open Go.RowKit
set_option linter.unusedVariables false

/-- the cells at A, in a block of the type t, read as xs -/
def RdT (w : World) (t : TypeId) (A : Option Addr) (xs : List Value) : Prop :=
  xs ≠ [] → ∃ b off cs fr, A = some ⟨b, off, none⟩ ∧ w.heap[b]? = some (.cells cs t fr) ∧ ∀ j u, xs[j]? = some u → cs[off + j]? = some u
/-- no block of the type t has turned -/
def KeepT (t : TypeId) (w w' : World) : Prop := ∀ (b : Nat) (cs : Array Value) (fr : Nat × Nat), w.heap[b]? = some (.cells cs t fr) → w'.heap[b]? = some (.cells cs t fr)
section
variable {t e : TypeId} {w w' w'' : World} {A : Option Addr} {xs : List Value}
theorem KeepT.refl (t : TypeId) (w : World) : KeepT t w w := fun _ _ _ h => h
theorem KeepT.trans (h : KeepT t w w') (k : KeepT t w' w'') : KeepT t w w'' := fun b cs fr hb => k b cs fr (h b cs fr hb)
theorem KeepT.fresh (h : Fresh w w') : KeepT t w w' := fun b cs fr hb => (h.block b (Array.getElem?_eq_some_iff.1 hb).1).trans hb
theorem KeepT.grown {row : Option Nat} (h : w.grownBy w' row) (hr : ∀ g, row = some g → ∃ cs fr u, w.heap[g]? = some (.cells cs u fr) ∧ u ≠ t) : KeepT t w w' := fun b cs fr hb => by
  refine (h.block b (Array.getElem?_eq_some_iff.1 hb).1 fun e1 => ?_).trans hb
  obtain ⟨cs', fr', u, hq, hne⟩ := hr b e1.symm
  rw [hb] at hq
  injection hq with hq
  injection hq with _ ht
  exact hne ht.symm
theorem KeepT.but {g : Nat} {cs : List Value} (h : But g w w') (hb : Bk w g e cs) (hne : e ≠ t) : KeepT t w w' :=
  KeepT.grown h fun g' hg => by
    injection hg with hg
    subst hg
    exact ⟨_, _, _, hb, hne⟩
theorem KeepT.own {α : Type} {base k n c : Nat} {f : α → List Value} {l : List α} (h : w.grownBy w' (Value.slice A n c).ownBlock) (ho : OwnK w base e k A n c f l) (hne : e ≠ t) : KeepT t w w' :=
  KeepT.grown h fun g hg => by
    obtain ⟨_, _, cs, hq⟩ := ho.block g hg
    exact ⟨_, _, _, hq, hne⟩
theorem KeepT.own1 {base n c : Nat} {ys : List Value} (h : w.grownBy w' (Value.slice A n c).ownBlock) (ho : Own w base e A n c ys) (hne : e ≠ t) : KeepT t w w' :=
  KeepT.grown h fun g hg => by
    rcases ho.2 with ⟨h2, _⟩ | ⟨q, cap, cur, hv, hb, hq, r⟩
    · rw [h2] at hg; cases hg
    · rw [hv] at hg
      injection hg with hg
      subst hg
      exact ⟨_, _, _, hq, hne⟩
theorem RdT.nil (w : World) (t : TypeId) (A : Option Addr) : RdT w t A [] := fun h => absurd rfl h
theorem RdT.keep (h : RdT w t A xs) (k : KeepT t w w') : RdT w' t A xs := fun hne => by
  obtain ⟨b, off, cs, fr, h1, h2, h3⟩ := h hne
  exact ⟨b, off, cs, fr, h1, k _ _ _ h2, h3⟩
theorem RdT.fresh (h : RdT w t A xs) (k : Fresh w w') : RdT w' t A xs := h.keep (KeepT.fresh k)
theorem RdT.range (h : RdT w t A xs) {o : Nat} {vs : List Value} (h0 : vs ≠ []) (hv : ∀ j u, vs[j]? = some u → xs[o + j]? = some u) : ∃ b off, A = some ⟨b, off, none⟩ ∧ w.rangeAt b (off + o) vs := by
  have hne : xs ≠ [] := by
    rintro rfl
    cases vs with
    | nil => exact h0 rfl
    | cons v r => have := hv 0 v rfl; simp at this
  obtain ⟨b, off, cs, fr, h1, h2, h3⟩ := h hne
  refine ⟨b, off, h1, fun j u hu => ?_⟩
  rw [cell_of_row w b (off + o + j) cs t fr h2, Nat.add_assoc]
  exact h3 _ _ (hv j u hu)
theorem RdT.cell (h : RdT w t A xs) {j : Nat} {u : Value} (hu : xs[j]? = some u) : ∃ b off, A = some ⟨b, off, none⟩ ∧ w.cell? ⟨b, off + j, none⟩ = some u := by
  obtain ⟨b, off, h1, h2⟩ := h.range (o := j) (vs := [u]) (by simp) (fun i v hv => by
    cases i with
    | zero => simp at hv; subst hv; simpa using hu
    | succ i => simp at hv)
  exact ⟨b, off, h1, by simpa using h2 0 u rfl⟩
theorem RdT.of_own {base n c k : Nat} {α : Type} {f : α → List Value} {l : List α} (h : OwnK w base t k A n c f l) (hk : ∀ a, (f a).length = k) : RdT w t A (l.flatMap f) := fun hne => by
  rcases h.2 with ⟨hv, hn⟩ | ⟨g, cap, cur, hv, hb, hg, h1, h2, h3, h4⟩
  · exfalso
    have h5 := h.1
    rw [hn, Nat.zero_mul] at h5
    exact hne (List.eq_nil_of_length_eq_zero h5)
  · injection hv with hA _ _
    refine ⟨g, 0, cur, (0, 0), hA, hg, fun j u hu => ?_⟩
    rw [← h4, List.getElem?_take] at hu
    split at hu
    · rw [Nat.zero_add, ← Array.getElem?_toList]
      exact hu
    · cases hu
theorem RdT.of_own1 {base n c : Nat} (h : Own w base t A n c xs) : RdT w t A xs := fun hne => by
  rcases h.2 with ⟨hv, hn⟩ | ⟨g, cap, cur, hv, hb, hg, h1, h2, h3, h4⟩
  · exfalso
    have h5 := h.1
    rw [hn, Nat.zero_mul] at h5
    exact hne (List.eq_nil_of_length_eq_zero h5)
  · injection hv with hA _ _
    refine ⟨g, 0, cur, (0, 0), hA, hg, fun j u hu => ?_⟩
    rw [← h4, List.getElem?_take] at hu
    split at hu
    · rw [Nat.zero_add, ← Array.getElem?_toList]
      exact hu
    · cases hu
/-- a row of one-cell elements, as its head -/
theorem RdT.rd (h : RdT w t A xs) : Rd w w.heap.size A xs.length xs := ⟨rfl, fun hn => by
  obtain ⟨b, off, cs, fr, h1, h2, h3⟩ := h (by rintro rfl; simp at hn)
  refine ⟨b, off, h1, (Array.getElem?_eq_some_iff.1 h2).1, fun j u hu => ?_⟩
  rw [cell_of_row w b (off + j) cs t fr h2]
  exact h3 _ _ hu⟩
end
end Go.Proofs.YtcdehklcdipcfaaGreat.base
