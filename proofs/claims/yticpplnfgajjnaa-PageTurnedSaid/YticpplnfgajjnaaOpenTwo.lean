/-
  An array of two numbers of 32 bits that came in by value. My own text.
-/
import Derived.Test.YticpplnfgajjnaaOpen
import Derived.OpenShut
namespace Go.Proofs.Yticpplnfgajjnaa.base
open Go.RowKit Go.ChangeShapes Go.WideShapes
set_option linter.unusedVariables false
theorem array2 {α : Type} {cs : Array α} (h : cs.size = 2) : ∃ c0 c1, cs = #[c0, c1] := by
  obtain ⟨l⟩ := cs
  match l, h with
  | [c0, c1], _ => exact ⟨c0, c1, rfl⟩
/-- two numbers -/
structure Two where
  p : Int
  q : Int
structure Two32 (m : Two) : Prop where
  p : (Lit.int .u32 m.p).wf = true
  q : (Lit.int .u32 m.q).wf = true
theorem open_two {H : Type} {enc : TypeId × Value → H} {P : Program} {W : World} {base : Nat} {sp : Nat → Bool} {held : Bool} {r : Reach} {b0 : Nat} {t e : TypeId} {v : Value} {d : DataW H} {p : List MemPlace}
    (ht : P.underlying t = some (.array 2 e)) (he : P.underlying e = some (.int .u32)) (hC : P.cellsOf t = 2) (hE : P.cellsOf e = 1)
    (hv : Value.okWide P W r b0 t v) (h : DataW.Trod enc P W base sp held t v d p) :
    ∃ m : Two, v = .agg #[.int .u32 m.p, .int .u32 m.q] ∧ Two32 m := by
  simp only [Value.okWide, ht] at hv
  obtain ⟨cs, rfl, hsz, _⟩ := hv
  rw [hC] at hsz
  obtain ⟨c0, c1, rfl⟩ := array2 hsz
  obtain ⟨fuel, hf⟩ := h
  obtain ⟨xs, m, _, _, _, hlen, hx⟩ := DataW.trod_array ht hf
  have g : ∀ i, i < 2 → ∃ y, xs[i]? = some y := fun i hi => ⟨xs[i]'(by omega), List.getElem?_eq_getElem (by omega)⟩
  have one : ∀ i c, i < 2 → ([c0, c1] : List Value)[i]? = some c → ∃ z, c = .int .u32 z ∧ (Lit.int .u32 z).wf = true := by
    intro i c hi hc
    obtain ⟨y, hy⟩ := g i hi
    have h1 := hx i hi
    rw [hy, hE, Nat.mul_one] at h1
    have hd : ((Value.agg #[c0, c1]).cells.toList.drop i).take 1 = [c] := by
      have hh : i = 0 ∨ i = 1 := by omega
      rcases hh with rfl | rfl <;> (simp at hc; subst hc; rfl)
    rw [hd] at h1
    obtain ⟨a, ea, _, wa⟩ := DataW.trod_int he h1
    injection ea with ea _
    exact ⟨a, ea, wa⟩
  obtain ⟨z0, rfl, w0⟩ := one 0 c0 (by omega) rfl
  obtain ⟨z1, rfl, w1⟩ := one 1 c1 (by omega) rfl
  exact ⟨⟨z0, z1⟩, rfl, ⟨w0, w1⟩⟩
end Go.Proofs.Yticpplnfgajjnaa.base
