/-
  Layer 14: what the laws take of the contracts. My own text.
-/
import Derived.Test.YtgbffkneidnmfaaAhoWak
import Derived.Test.YtgbffkneidnmfaaOpenRows
namespace Go.Proofs.Ytgbffkneidnmfaa.ahop
open Go.RowKit Go.Maps Go.Proofs.Ytgbffkneidnmfaa.base Go.Proofs.Ytgbffkneidnmfaa.aho
set_option linter.unusedVariables false
def flat (l : List Row) : Bs := (l.map (·.bs)).flatten
theorem byteInfo : (Try.prog.info? tU8).map (fun i => (i.zero, i.size, i.bytes)) = some (some (.int .u8 0), 1, 1) := by kernel_rfl
theorem flat_bound (l : List Row) (m : Nat) (h : ∀ r ∈ l, r.bs.length ≤ m) : (flat l).length ≤ m * l.length := by
  induction l with
  | nil => exact Nat.zero_le _
  | cons a r ih =>
    have h1 := h a (by simp)
    have h2 := ih fun x hx => h x (by simp [hx])
    unfold flat at h2 ⊢
    rw [List.map_cons, List.flatten_cons, List.length_append, List.length_cons, Nat.mul_add]
    omega
/-- how many are found -/
theorem many_cnt (W : List Bs) (t : Bs) : ((fvs W t).filter (fun z => decide (z ≥ 0))).length + cnt (fvs W t) = W.length := by
  unfold fvs cnt
  induction W with
  | nil => rfl
  | cons a r ih =>
    rw [List.map_cons, List.filter_cons, List.count_cons, List.length_cons, ← ih]
    have h1 := fv_ge a t
    by_cases h : fv a t = -1
    · rw [h]; simp; omega
    · have h2 : (decide (fv a t ≥ 0)) = true := by rw [decide_eq_true_iff]; omega
      have h3 : (fv a t == -1) = false := by rw [beq_eq_false_iff_ne]; exact h
      rw [if_pos h2, h3]
      simp
      omega
theorem cnt_zero (W : List Bs) (t : Bs) : cnt (fvs W t) = 0 ↔ (fvs W t).contains (-1) = false := by
  unfold cnt
  rw [List.count_eq_zero, Bool.eq_false_iff, ne_eq, List.contains_iff_mem]
theorem long_false {rows : List Row} {most : Nat} (h : longB rows most = false) : (∀ r ∈ rows, r.len ≤ most) ∧ rows.length ≤ 40 := by
  unfold longB at h
  rw [Bool.or_eq_false_iff, decide_eq_false_iff_not] at h
  refine ⟨fun r hr => ?_, by omega⟩
  have := List.any_eq_false.1 h.1 r hr
  simpa using this
theorem rows_len {w : World} {B n : Nat} {A : Option Addr} {rows : List Row} (h : RdRows w B A n rows) : rows.length = n ∧ ∀ r ∈ rows, r.bs.length = r.len := by
  refine ⟨by have := h.1.1; rwa [List.length_map] at this, fun r hr => by have := (h.2 r hr).1; rwa [List.length_map] at this⟩
theorem new_bad (rows : List Row) (WA : Option Addr) (nw wc B E : Nat) (w : World) (hr : RdRows w B WA nw rows) (hB : B ≤ w.heap.size) (hn : nw ≤ 100000) (hE : errA (lens rows) = E) (h0 : E ≠ 0) :
    Calls Try.prog 10 #[.slice WA nw wc] w fun e w' => e = .returned (.tuple #[.pointer none, iv (E : Nat)]) ∧ Fresh w w' :=
  (new_any rows WA nw wc B w hr hB hn).mono fun e w' h => by
    rcases h with ⟨h1, h2, h3⟩ | ⟨h1, _⟩
    · rw [hE] at h2; exact ⟨h2, h3⟩
    · exact absurd (hE.symm.trans h1) h0
theorem new_ok (rows : List Row) (WA : Option Addr) (nw wc B : Nat) (w : World) (hr : RdRows w B WA nw rows) (hB : B ≤ w.heap.size) (hn : nw ≤ 100000) (hE : errA (lens rows) = 0) :
    Calls Try.prog 10 #[.slice WA nw wc] w fun e w' => ∃ (q N n c : Nat) (P : List Bs) (A : Option Addr) (T : List Sv), e = .returned (.tuple #[.pointer (some ⟨q, 0, none⟩), iv 0]) ∧ Fresh w w' ∧ w.heap.size ≤ q ∧ WdAt w' q N (wordsOf rows) P A n c T :=
  (new_any rows WA nw wc B w hr hB hn).mono fun e w' h => by
    rcases h with ⟨h1, _⟩ | ⟨_, h2⟩
    · exact absurd hE h1
    · exact h2
theorem refErr (rows : List Row) (WA : Option Addr) (nw wc B E : Nat) (w : World) (hr : RdRows w B WA nw rows) (hn : nw ≤ 100000) (hE : errA (lens rows) = E) :
    Calls Try.prog 11 #[.slice WA nw wc] w fun e w' => e = .returned (iv (E : Nat)) ∧ w' = w := by
  subst hE
  exact refError_any rows WA nw wc B w hr hn
theorem rdA_in {w w' : World} {p g n : Nat} {A : Option Addr} {xs : List Value} (h : Rd w w.heap.size A n xs) (hf : Fresh w w') (hp : w.heap.size ≤ p) (hg : w.heap.size ≤ g) : RdA w' [p, g] A n xs :=
  RdA.of_rd (h.below hf (Nat.le_refl _)) hf.size (by simp; exact ⟨hp, hg⟩)
/-- a scan is kept where an own row of another's grows -/
theorem ScAt.beside {w w' : World} {p g N n c b m d : Nat} {W P : List Bs} {A E : Option Addr} {T : List Sv} {t : Bs} {e : TypeId} {xs : List Value} (h : ScAt w p g N W P A n c T t) (ho : Own w b e E m d xs) (hg : w.grownBy w' (Value.slice E m d).ownBlock) (h1 : N ≤ b) (h2 : p < b) (h3 : g < b) : ScAt w' p g N W P A n c T t :=
  h.keep fun i hi hc => hg.block i hi fun e1 => by
    have := (World.ownsRow.lt ho i e1.symm).1
    rcases hc with hc | rfl | rfl <;> omega
theorem own_turn {w w' : World} {p g b m d : Nat} {E : Option Addr} {e : TypeId} {xs : List Value} (ho : Own w b e E m d xs) (ht : Turn [p, g] [p, g] w w') (hp : p < b) (hg : g < b) : Own w' b e E m d xs :=
  own_keep ho fun i hi => by
    have h := World.ownsRow.lt ho i hi
    exact ht.block i h.2 (by simp; omega)
theorem cnt_le (W : List Bs) (t : Bs) : cnt (fvs W t) ≤ W.length := by
  have h1 : cnt (fvs W t) ≤ (fvs W t).length := List.count_le_length
  unfold fvs at h1 ⊢
  rwa [List.length_map] at h1
theorem first_len {W : List Bs} {t : Bs} : (fvs W t).length = W.length := by unfold fvs; rw [List.length_map]
end Go.Proofs.Ytgbffkneidnmfaa.ahop
