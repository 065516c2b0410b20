import Derived.Test.YtmnegmebkmihhaaGreatDoorMgMay
import Derived.Test.YtmnegmebkmihhaaGreatDoorOpenActs
/-
  A slice of items that came in. My own text.
-/
namespace Go.Proofs.YtmnegmebkmihhaaGreatDoor.zipp
open Go.RowKit Go.WideShapes Go.Proofs.YtmnegmebkmihhaaGreatDoor.base Go.Proofs.YtmnegmebkmihhaaGreatDoor.num
set_option linter.unusedVariables false
/-- a slice of items that came in -/
def InItms (W : World) (A : Option Addr) (n c : Nat) (l : List Itm) : Prop :=
  ItmsAt W W.heap.size A n l ∧ n ≤ c ∧ c ≤ maxLen ∧ ∀ i ∈ l, (-9223372036854775808 ≤ i.dt ∧ i.dt ≤ 9223372036854775807) ∧ (-9223372036854775808 ≤ i.how ∧ i.how ≤ 9223372036854775807) ∧ i.n ≤ i.c ∧ i.c ≤ maxLen ∧ i.s.size ≤ maxLen
theorem inItms_of {H : Type} {enc : TypeId × Value → H} {P : Program} {W : World} {base : Nat} {held : Bool} {t e t8 : TypeId} {o0 o1 o2 o3 o4 o5 : Field} {fuel : Nat} {cs : List Value} {x : DataW H × List MemPlace}
    (ht : P.underlying t = some (.slice e)) (he : P.underlying e = some (.struct #[o0, o1, o2, o3, o4, o5])) (hone : Deep.oneCellFields P #[o0, o1, o2, o3, o4, o5] = true) (hC : P.cellsOf e = 6)
    (h0 : P.underlying o0.type = some .string) (h1 : P.underlying o1.type = some (.int .i64)) (h2 : P.underlying o2.type = some (.slice t8)) (h8 : P.underlying t8 = some (.int .u8)) (h8c : P.cellsOf t8 = 1) (h3 : P.underlying o3.type = some (.int .i64)) (h4 : P.underlying o4.type = some .bool) (h5 : P.underlying o5.type = some .bool)
    (h : DataW.trod enc P W base (fun _ => true) held fuel t cs = some x) : ∃ A n c l, cs = [.slice A n c] ∧ InItms W A n c l := by
  rcases elems_of ht he hone hC h with rfl | ⟨a, len, cap, ls, rfl, hl, hm, hls, hE⟩
  · exact ⟨none, 0, 0, [], rfl, ⟨rfl, fun h => absurd h (by omega), fun s hs => by cases hs⟩, Nat.le_refl _, by unfold maxLen; omega, fun a ha => by cases ha⟩
  · have hin := InElems.some_ hl hm hls hE (by simp)
    obtain ⟨l, hll, hlr⟩ := list_of (R := fun i (b : Itm) => ls[i]? = some (itmV b) ∧ (-9223372036854775808 ≤ b.dt ∧ b.dt ≤ 9223372036854775807) ∧ (-9223372036854775808 ≤ b.how ∧ b.how ≤ 9223372036854775807) ∧ b.n ≤ b.c ∧ b.c ≤ maxLen ∧ b.s.size ≤ maxLen ∧ Rd W W.heap.size b.A b.n (b.bs.map bv)) len fun i hi => by
      have hvs : ls[i]? = some (ls[i]'(by omega)) := List.getElem?_eq_getElem (by omega)
      obtain ⟨hlen, _, hf⟩ := hE i _ hvs
      generalize ls[i]'(by omega) = vs at *
      match vs, hlen with
      | [v0, v1, v2, v3, v4, v5], _ =>
        obtain ⟨_, _, e0⟩ := hf 0 o0 v0 rfl rfl
        obtain ⟨_, _, e1⟩ := hf 1 o1 v1 rfl rfl
        obtain ⟨_, _, e2⟩ := hf 2 o2 v2 rfl rfl
        obtain ⟨_, _, e3⟩ := hf 3 o3 v3 rfl rfl
        obtain ⟨_, _, e4⟩ := hf 4 o4 v4 rfl rfl
        obtain ⟨_, _, e5⟩ := hf 5 o5 v5 rfl rfl
        obtain ⟨s0, hs0, _, w0⟩ := DataW.trod_string h0 e0
        obtain ⟨z1, hz1, _, w1⟩ := DataW.trod_int h1 e1
        obtain ⟨z3, hz3, _, w3⟩ := DataW.trod_int h3 e3
        obtain ⟨b4, hb4, _⟩ := DataW.trod_bool h4 e4
        obtain ⟨b5, hb5, _⟩ := DataW.trod_bool h5 e5
        obtain ⟨A2, n2, c2, zs, hv2, r2⟩ : ∃ A2 n2 c2 zs, v2 = .slice A2 n2 c2 ∧ InRow .u8 W A2 n2 c2 zs := by
          rcases ChangeShapes.open_ints h2 h8 h8c e2 with ⟨hcs, _⟩ | ⟨x, l, c, zs, hcs, _, hl, hm, hz, _, hcell, hwz⟩
          · simp at hcs
            exact ⟨_, _, _, [], hcs, InRow.nil _ _⟩
          · simp at hcs
            exact ⟨_, _, _, _, hcs, InRow.some_ hl hm (by simpa using hz) hcell hwz⟩
        obtain ⟨xs, hb⟩ := r2.bytes
        have hk1 : -9223372036854775808 ≤ z1 ∧ z1 ≤ 9223372036854775807 := by simpa [Lit.wf, IntKind.min, IntKind.max, IntKind.signed, IntKind.bits] using w1
        have hk3 : -9223372036854775808 ≤ z3 ∧ z3 ≤ 9223372036854775807 := by simpa [Lit.wf, IntKind.min, IntKind.max, IntKind.signed, IntKind.bits] using w3
        simp at hs0 hz1 hz3 hb4 hb5
        subst hs0; subst hz1; subst hz3; subst hb4; subst hb5; subst hv2
        exact ⟨⟨s0, z1, A2, n2, c2, xs, z3, b4, b5⟩, hvs, hk1, hk3, hb.2.1, hb.2.2, w0, hb.1⟩
    have hmap : l.map itmV = ls := by
      refine List.ext_getElem? fun i => ?_
      by_cases hi : i < len
      · have hget : l[i]? = some (l[i]'(by omega)) := List.getElem?_eq_getElem (by omega)
        rw [List.getElem?_map, hget, (hlr i _ hget).1]
        rfl
      · rw [List.getElem?_eq_none (by simp; omega), List.getElem?_eq_none (by omega)]
    have hall : ∀ b ∈ l, ∃ i, l[i]? = some b := fun b hb => List.getElem?_of_mem hb
    refine ⟨some a, len, cap, l, rfl, ⟨hll, fun hn => ?_, fun s hs => ?_⟩, hl, hm, fun b hb => ?_⟩
    · obtain ⟨b, off, e1, hb, hc⟩ := hin.2.2.2 hn
      refine ⟨b, off, e1, hb, fun i s hs j v hv => ?_⟩
      have h1 := hc i (itmV s) (by rw [← hmap, List.getElem?_map, hs]; rfl) j v hv
      rw [← Nat.add_assoc] at h1
      exact h1
    · obtain ⟨i, hi⟩ := hall s hs
      exact (hlr i s hi).2.2.2.2.2.2
    · obtain ⟨i, hi⟩ := hall b hb
      have := hlr i b hi
      exact ⟨this.2.1, this.2.2.1, this.2.2.2.1, this.2.2.2.2.1, this.2.2.2.2.2.1⟩
end Go.Proofs.YtmnegmebkmihhaaGreatDoor.zipp
