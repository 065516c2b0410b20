/-
  An array of six ints that came in by value. My own text.
-/
import Derived.Test.YtgmpdkkpmgedjaaOpen
import Derived.Test.YtgmpdkkpmgedjaaDosNum
import Derived.OpenShut
namespace Go.Proofs.Ytgmpdkkpmgedjaa.base
open Go.RowKit Go.ChangeShapes Go.WideShapes Go.Proofs.Ytgmpdkkpmgedjaa.dosnum
set_option linter.unusedVariables false
theorem array6 {α : Type} {cs : Array α} (h : cs.size = 6) : ∃ c0 c1 c2 c3 c4 c5, cs = #[c0, c1, c2, c3, c4, c5] := by
  obtain ⟨l⟩ := cs
  match l, h with
  | [c0, c1, c2, c3, c4, c5], _ => exact ⟨c0, c1, c2, c3, c4, c5, rfl⟩
/-- six ints that fit -/
structure Six64 (m : Mo) : Prop where
  y : (Lit.int .i64 m.y).wf = true
  mo : (Lit.int .i64 m.mo).wf = true
  d : (Lit.int .i64 m.d).wf = true
  h : (Lit.int .i64 m.h).wf = true
  mi : (Lit.int .i64 m.mi).wf = true
  s : (Lit.int .i64 m.s).wf = true
theorem open_six {H : Type} {enc : TypeId × Value → H} {P : Program} {W : World} {base : Nat} {sp : Nat → Bool} {held : Bool} {r : Reach} {b0 : Nat} {t e : TypeId} {v : Value} {d : DataW H} {p : List MemPlace}
    (ht : P.underlying t = some (.array 6 e)) (he : P.underlying e = some (.int .i64)) (hC : P.cellsOf t = 6) (hE : P.cellsOf e = 1)
    (hv : Value.okWide P W r b0 t v) (h : DataW.Trod enc P W base sp held t v d p) :
    ∃ m : Mo, v = .agg #[.int .i64 m.y, .int .i64 m.mo, .int .i64 m.d, .int .i64 m.h, .int .i64 m.mi, .int .i64 m.s] ∧ Six64 m := by
  simp only [Value.okWide, ht] at hv
  obtain ⟨cs, rfl, hsz, _⟩ := hv
  rw [hC] at hsz
  obtain ⟨c0, c1, c2, c3, c4, c5, rfl⟩ := array6 hsz
  obtain ⟨fuel, hf⟩ := h
  obtain ⟨xs, m, _, _, _, hlen, hx⟩ := DataW.trod_array ht hf
  have g : ∀ i, i < 6 → ∃ y, xs[i]? = some y := fun i hi => ⟨xs[i]'(by omega), List.getElem?_eq_getElem (by omega)⟩
  have one : ∀ i c, i < 6 → ([c0, c1, c2, c3, c4, c5] : List Value)[i]? = some c → ∃ z, c = .int .i64 z ∧ (Lit.int .i64 z).wf = true := by
    intro i c hi hc
    obtain ⟨y, hy⟩ := g i hi
    have h1 := hx i hi
    rw [hy, hE, Nat.mul_one] at h1
    have hd : ((Value.agg #[c0, c1, c2, c3, c4, c5]).cells.toList.drop i).take 1 = [c] := by
      have hh : i = 0 ∨ i = 1 ∨ i = 2 ∨ i = 3 ∨ i = 4 ∨ i = 5 := by omega
      rcases hh with rfl | rfl | rfl | rfl | rfl | rfl <;> (simp at hc; subst hc; rfl)
    rw [hd] at h1
    obtain ⟨a, ea, _, wa⟩ := DataW.trod_int he h1
    injection ea with ea _
    exact ⟨a, ea, wa⟩
  obtain ⟨z0, rfl, w0⟩ := one 0 c0 (by omega) rfl
  obtain ⟨z1, rfl, w1⟩ := one 1 c1 (by omega) rfl
  obtain ⟨z2, rfl, w2⟩ := one 2 c2 (by omega) rfl
  obtain ⟨z3, rfl, w3⟩ := one 3 c3 (by omega) rfl
  obtain ⟨z4, rfl, w4⟩ := one 4 c4 (by omega) rfl
  obtain ⟨z5, rfl, w5⟩ := one 5 c5 (by omega) rfl
  exact ⟨⟨z0, z1, z2, z3, z4, z5⟩, rfl, ⟨w0, w1, w2, w3, w4, w5⟩⟩
end Go.Proofs.Ytgmpdkkpmgedjaa.base
