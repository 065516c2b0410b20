/-
  The contracts of spread, and of a symbol as a part. My own text.
-/
import Derived.Test.YtcmeoappddpmcaaDoorInfBits
namespace Go.Proofs.YtcmeoappddpmcaaDoor.infp
open Go.RowKit Go.Proofs.YtcmeoappddpmcaaDoor.base Go.Proofs.YtcmeoappddpmcaaDoor.num Go.Proofs.YtcmeoappddpmcaaDoor.bitnum Go.Proofs.YtcmeoappddpmcaaDoor.bitp Go.Proofs.YtcmeoappddpmcaaDoor.huffnum Go.Proofs.YtcmeoappddpmcaaDoor.huffp Go.Proofs.YtcmeoappddpmcaaDoor.infnum
set_option linter.unusedVariables false

section
variable {w : World} {g q p : Nat} {v : V} {bs : List UInt8} {rl : List Nat}
theorem spread_lt {k R n U T p p' : Nat} (hk : k < 32) (hR : 2 ≤ R) (hR4 : R ≤ 4) (h : spreadP k R U T p = .ok (n, p')) : n < 300000 := by
  unfold spreadP also at h
  cases ht : take (ownB k R) U T p with
  | error e => rw [ht] at h; cases h
  | ok x =>
    obtain ⟨t, p1⟩ := x
    rw [ht] at h
    change Except.ok (baseB k R + t, p1) = _ at h
    injection h with h
    injection h with h1 h2
    obtain ⟨ht1, _⟩ := take_lt ht
    have ho : ownB k R ≤ 15 := by
      unfold ownB
      have : k / R ≤ k / 2 := Nat.div_le_div_left hR (by omega)
      split <;> omega
    have hp := Nat.pow_le_pow_right (n := 2) (j := 15) (by omega) ho
    have hb : baseB k R ≤ 8 * 32768 := by
      unfold baseB
      split
      · omega
      · rename_i hn
        have ho2 : k / R - 1 ≤ 15 := by
          have : k / R ≤ k / 2 := Nat.div_le_div_left hR (by omega)
          omega
        exact Nat.mul_le_mul (by have := Nat.mod_lt k (show R > 0 by omega); omega) (Nat.pow_le_pow_right (n := 2) (j := 15) (by omega) ho2)
    omega

/-! what kind of cells a block has -/
def Ty (w : World) (b : Nat) (T : TypeId) : Prop := ∃ cs fr, w.heap[b]? = some (.cells cs T fr)
theorem Ty.uniq {b : Nat} {T T' : TypeId} (h : Ty w b T) (k : Ty w b T') : T = T' := by
  obtain ⟨cs, fr, h⟩ := h
  obtain ⟨cs', fr', k⟩ := k
  rw [h] at k
  injection k with k
  injection k with _ hT
theorem Bk.ty {b : Nat} {T : TypeId} {cs : List Value} (h : Bk w b T cs) : Ty w b T := ⟨_, _, h⟩
theorem Own.ty {base : Nat} {e : TypeId} {A : Option Addr} {n c : Nat} {xs : List Value} (h : Own w base e A n c xs) : ∀ b, (Value.slice A n c).ownBlock = some b → Ty w b e := by
  intro b hb
  rcases h.2 with ⟨hv, _⟩ | ⟨q, cap, cur, hv, _, hq, _⟩
  · rw [hv] at hb; cases hb
  · rw [hv] at hb
    simp only [Value.ownBlock, Option.some.injEq] at hb
    subst hb
    exact ⟨_, _, hq⟩
theorem CodeAt.ty {c : Nat} {ls cbl : List Nat} (h : CodeAt w c ls cbl) : ∀ b ∈ cbl, Ty w b tCode ∨ Ty w b tPair ∨ Ty w b tInt := by
  obtain ⟨R, d, rfl, h⟩ := h
  intro b hb
  rcases of_codeBl hb with rfl | rfl | ⟨k, hk, hb⟩
  · exact .inl (Bk.ty h.all)
  · exact .inr (.inl (Bk.ty h.codes))
  · exact .inr (.inr (Own.ty (h.own k hk) b hb))
/-- lengths that a code may have -/
def Fit (ls : List Nat) : Prop := tx ls 15 ≤ 32768 ∧ ∀ n ∈ ls, n ≤ 15

/-! a symbol as a part -/
theorem sym_lt {ls : List Nat} {U T p s p' : Nat} (h : sym ls U T p = .ok (s, p')) : s < ls.length ∧ p < p' := by
  unfold sym at h
  simp only at h
  split at h
  · cases h
  · rename_i hd
    split at h
    · cases h
    · injection h with h
      injection h with h1 h2
      obtain ⟨g1, g15, hlo, hhi⟩ := lev_of (Nat.not_le.1 hd)
      obtain ⟨s', hs', hx, _⟩ := pick g1 g15 hlo hhi
      rw [hs'] at h1
      have h1 : s' = s := h1
      subst h1
      exact ⟨(List.getElem?_eq_some_iff.1 hx).1, by omega⟩
end
end Go.Proofs.YtcmeoappddpmcaaDoor.infp
