/-
  A slice of strings that came in, as the walks take it. My own text.
-/
import Derived.Test.YtkkkjadfhimahaaDoorOpen
import Derived.Deep.Strs
namespace Go.Proofs.YtkkkjadfhimahaaDoor.base
open Go.RowKit Go.ChangeShapes Go.WideShapes
set_option linter.unusedVariables false
/-- a slice of strings that came in -/
def InStrs (W : World) (A : Option Addr) (n c : Nat) (l : List ByteArray) : Prop :=
  Rd W W.heap.size A n (l.map Value.string) ∧ n ≤ c ∧ c ≤ maxLen ∧ ∀ s ∈ l, s.size ≤ maxLen
theorem inStrs_of {H : Type} {enc : TypeId × Value → H} {P : Program} {W : World} {base : Nat} {held : Bool} {t e : TypeId} {fuel : Nat} {cs : List Value} {x : DataW H × List MemPlace}
    (ht : P.underlying t = some (.slice e)) (he : P.underlying e = some .string) (hc : P.cellsOf e = 1) (h : DataW.trod enc P W base (fun _ => true) held fuel t cs = some x) : ∃ A n c l, cs = [.slice A n c] ∧ InStrs W A n c l := by
  rcases Deep.open_strs ht he hc h with ⟨rfl, _⟩ | ⟨a, len, cap, m, Sx, rfl, _, hl, hm, hmm, _, hS⟩
  · exact ⟨none, 0, 0, [], rfl, Rd.nil _ _ _, Nat.le_refl _, by unfold maxLen; omega, fun s hs => by cases hs⟩
  · rw [if_pos rfl] at hmm
    subst hmm
    refine ⟨some a, len, m, (List.range len).map Sx, rfl, ⟨by simp, fun hn => ?_⟩, hl, hm, fun s hs => ?_⟩
    · obtain ⟨b, off, spot⟩ := a
      have h0 := (hS 0 (by omega)).1
      have hspot : spot = none := by simpa [Addr.add] using World.cell?_spot h0
      subst hspot
      have hlt := World.block_lt_of_cell? W _ h0
      refine ⟨b, off, rfl, by simpa [Addr.add] using hlt, fun j u hu => ?_⟩
      rw [List.map_map, List.getElem?_map] at hu
      by_cases hj : j < len
      · rw [List.getElem?_range hj] at hu
        have h2 := (hS j (by omega)).1
        have hadd : (⟨b, off, none⟩ : Addr).add j = ⟨b, off + j, none⟩ := by unfold Addr.add; split <;> simp_all
        rw [hadd] at h2
        rw [h2]
        exact hu
      · rw [List.getElem?_eq_none (by simp; omega)] at hu
        cases hu
    · obtain ⟨i, hi, rfl⟩ := List.mem_map.1 hs
      exact (hS i (by have := List.mem_range.1 hi; omega)).2
end Go.Proofs.YtkkkjadfhimahaaDoor.base
