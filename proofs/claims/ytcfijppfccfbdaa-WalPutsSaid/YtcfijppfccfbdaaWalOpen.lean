/-
  A slice of pages that came in. My own text.
-/
import Derived.Test.YtcfijppfccfbdaaWalLeaf
import Derived.Test.YtcfijppfccfbdaaOpenActs
namespace Go.Proofs.Ytcfijppfccfbdaa.walp
open Go.RowKit Go.WideShapes Go.Proofs.Ytcfijppfccfbdaa.base Go.Proofs.Ytcfijppfccfbdaa.num
set_option linter.unusedVariables false
/-- a slice of pages that came in -/
def InWs (W : World) (A : Option Addr) (n c : Nat) (l : List Wp) : Prop := WsAt W W.heap.size A n l ∧ n ≤ c ∧ c ≤ maxLen
theorem inWs_of {H : Type} {enc : TypeId × Value → H} {P : Program} {W : World} {base : Nat} {held : Bool} {t e t8 : TypeId} {o0 o1 : Field} {fuel : Nat} {cs : List Value} {x : DataW H × List MemPlace}
    (ht : P.underlying t = some (.slice e)) (he : P.underlying e = some (.struct #[o0, o1])) (hone : Deep.oneCellFields P #[o0, o1] = true) (hC : P.cellsOf e = 2)
    (h0 : P.underlying o0.type = some (.int .i64)) (h1 : P.underlying o1.type = some (.slice t8)) (h8 : P.underlying t8 = some (.int .u8)) (h8c : P.cellsOf t8 = 1)
    (h : DataW.trod enc P W base (fun _ => true) held fuel t cs = some x) : ∃ A n c l, cs = [.slice A n c] ∧ InWs W A n c l := by
  rcases elems_of ht he hone hC h with rfl | ⟨a, len, cap, ls, rfl, hl, hm, hls, hE⟩
  · exact ⟨none, 0, 0, [], rfl, WsAt.nil _ _ _, Nat.le_refl _, by unfold maxLen; omega⟩
  · have hin := InElems.some_ hl hm hls hE (by simp)
    obtain ⟨l, hll, hlr⟩ := list_of (R := fun i (b : Wp) => ls[i]? = some (wpV b) ∧ b.Ok ∧ Rd W W.heap.size b.A b.n (b.bs.map bv)) len fun i hi => by
      have hvs : ls[i]? = some (ls[i]'(by omega)) := List.getElem?_eq_getElem (by omega)
      obtain ⟨hlen, _, hf⟩ := hE i _ hvs
      generalize ls[i]'(by omega) = vs at *
      match vs, hlen with
      | [v0, v1], _ =>
        obtain ⟨_, _, e0⟩ := hf 0 o0 v0 rfl rfl
        obtain ⟨_, _, e1⟩ := hf 1 o1 v1 rfl rfl
        obtain ⟨z0, hz0, _, w0⟩ := DataW.trod_int h0 e0
        obtain ⟨A2, n2, c2, zs, hv2, r2⟩ : ∃ A2 n2 c2 zs, v1 = .slice A2 n2 c2 ∧ InRow .u8 W A2 n2 c2 zs := by
          rcases ChangeShapes.open_ints h1 h8 h8c e1 with ⟨hcs, _⟩ | ⟨x, l, c, zs, hcs, _, hl, hm, hz, _, hcell, hwz⟩
          · simp at hcs
            exact ⟨_, _, _, [], hcs, InRow.nil _ _⟩
          · simp at hcs
            exact ⟨_, _, _, _, hcs, InRow.some_ hl hm (by simpa using hz) hcell hwz⟩
        obtain ⟨xs, hb⟩ := r2.bytes
        have hk0 : -9223372036854775808 ≤ z0 ∧ z0 ≤ 9223372036854775807 := by simpa [Lit.wf, IntKind.min, IntKind.max, IntKind.signed, IntKind.bits] using w0
        simp at hz0
        subst hz0; subst hv2
        exact ⟨⟨z0, A2, n2, c2, xs⟩, hvs, ⟨hk0, hb.2.1, hb.2.2⟩, hb.1⟩
    have hmap : l.map wpV = ls := by
      refine List.ext_getElem? fun i => ?_
      by_cases hi : i < len
      · have hget : l[i]? = some (l[i]'(by omega)) := List.getElem?_eq_getElem (by omega)
        rw [List.getElem?_map, hget, (hlr i _ hget).1]
        rfl
      · rw [List.getElem?_eq_none (by simp; omega), List.getElem?_eq_none (by omega)]
    have hall : ∀ b ∈ l, ∃ i, l[i]? = some b := fun b hb => List.getElem?_of_mem hb
    refine ⟨some a, len, cap, l, rfl, ⟨hll, fun hn => ?_, fun s hs => ?_⟩, hl, hm⟩
    · obtain ⟨b, off, e1, hb, hc⟩ := hin.2.2.2 hn
      refine ⟨b, off, e1, hb, fun i s hs j v hv => ?_⟩
      have h1 := hc i (wpV s) (by rw [← hmap, List.getElem?_map, hs]; rfl) j v hv
      rw [← Nat.add_assoc] at h1
      exact h1
    · obtain ⟨i, hi⟩ := hall s hs
      exact ⟨(hlr i s hi).2.2, (hlr i s hi).2.1⟩
end Go.Proofs.Ytcfijppfccfbdaa.walp
