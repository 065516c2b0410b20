import Derived.Test.YtcmeoappddpmcaaDoorDefDyn2
/-
  Pack by the fixed codes, and by codes of its own; the bound for Fixed. My own text.
-/
namespace Go.Proofs.YtcmeoappddpmcaaDoor.defp
open Go.RowKit Go.Maps Go.Proofs.YtcmeoappddpmcaaDoor.base Go.Proofs.YtcmeoappddpmcaaDoor.num Go.Proofs.YtcmeoappddpmcaaDoor.bitnum Go.Proofs.YtcmeoappddpmcaaDoor.bitp Go.Proofs.YtcmeoappddpmcaaDoor.huffnum Go.Proofs.YtcmeoappddpmcaaDoor.huffp Go.Proofs.YtcmeoappddpmcaaDoor.infnum Go.Proofs.YtcmeoappddpmcaaDoor.infp
set_option linter.unusedVariables false
/-- the codes of a block of kind 1 -/
def fixD : List Nat := List.replicate 30 5
theorem fit_fixD : Fit fixD := ⟨by decide +kernel, by decide +kernel⟩
/-- how many bytes, and which number -/
def bytesF (l : List (Nat × Nat)) : Nat := (3 + (outs fixedLits fixD (l ++ [(256, 0)])).1 + 7) / 8
def numF (l : List (Nat × Nat)) : Nat := 3 + 8 * (outs fixedLits fixD (l ++ [(256, 0)])).2
theorem pack_fixed (A : Option Addr) (n c : Nat) (b : List UInt8) (w : World) (B : Nat) (hr : Rd w B A n (b.map bv)) (hB : B ≤ w.heap.size) (hn : n ≤ 16777216) :
    Calls Tryd.prog 6 #[.slice A n c, .int .i64 1] w fun e w' => ∃ (A1 : Option Addr) (c1 : Nat) (l : List (Nat × Nat)), e = .returned (.tuple #[.slice A1 (bytesF l) c1, .int .i64 0]) ∧ St b n l ∧ Own w' w.heap.size 5 A1 (bytesF l) c1 ((low (bytesF l) (numF l)).map bv) ∧ Fresh w w' := by
  have hst := stepsOf_any A n c b w B hr hB hn
  have HST := Lib.hid hst
  clear hst hr
  go_enter Tryd.func6, Tryd.ntmps6
  go_wp2_with (first
    | (go_at_call 11; (with_reducible refine HST.out.mono ?_); rintro e w1 ⟨A1, c1, l, rfl, hs, ho, hf⟩; have HS := Lib.hid hs; have HF := Lib.hid hf; have hfew := hs.few; have hfx := fixed_of fixedLits fixD rfl rfl fit_lits fit_fixD A1 (l.length + 1) c1 (l ++ [(256, 0)]) w.heap.size w1 ho (fun s h => ⟨(hs.ok s h).1, by have := (hs.ok s h).2.1; omega, (hs.ok s h).2.2⟩) (by omega); have HFX := Lib.hid hfx; clear hs ho hf hfx)
    | (go_at_call 10; (with_reducible refine HFX.out.mono ?_); rintro e w2 ⟨A2, c2, rfl, ho2, hf2⟩))
  go_ret2
  exact ⟨A2, c2, l, rfl, HS.out, own_low ho2 HF.out.size, HF.out.trans hf2⟩
theorem lits_nine : ∀ k, fixedLits.getD k 0 ≤ 9 := fun k => by
  rw [List.getD_eq_getElem?_getD]
  cases h : fixedLits[k]? with
  | none => exact Nat.zero_le _
  | some v =>
    have : ∀ x ∈ fixedLits, x ≤ 9 := by decide +kernel
    exact this v (List.mem_of_getElem? h)
theorem fixD_five : ∀ k, fixD.getD k 0 ≤ 5 := fun k => by
  rw [List.getD_eq_getElem?_getD]
  cases h : fixD[k]? with
  | none => exact Nat.zero_le _
  | some v =>
    have : ∀ x ∈ fixD, x ≤ 5 := by decide +kernel
    exact this v (List.mem_of_getElem? h)
/-- no more than nine bits for a byte, and ten more -/
theorem bytesF_few {b : List UInt8} {n : Nat} {l : List (Nat × Nat)} (h : St b n l) : bytesF l ≤ (9 * n + 10 + 7) / 8 := by
  unfold bytesF
  rw [outs_snoc]
  have h1 := outs_few fixedLits fixD lits_nine (by decide +kernel) fixD_five h
  have h2 : (out fixedLits fixD (256, 0)).1 ≤ 7 := by decide +kernel
  show (3 + (_ + _) + 7) / 8 ≤ _
  omega
/-- a block of kind 2 of these steps, as bytes, and as a number -/
def bytesD (l : List (Nat × Nat)) (TS TD : List Nat) (nS nD : Nat) (T : List Nat) (j : Nat) (ps : List Pt) : Nat := (3 + (cat (dynI nS nD T j ps)).1 + (outs TS TD l).1 + 7) / 8
def numD (l : List (Nat × Nat)) (TS TD : List Nat) (nS nD : Nat) (T : List Nat) (j : Nat) (ps : List Pt) : Nat := 5 + 2 ^ 3 * (cat (dynI nS nD T j ps)).2 + 2 ^ (3 + (cat (dynI nS nD T j ps)).1) * (outs TS TD l).2
theorem pack_dynamic (A : Option Addr) (n c : Nat) (b : List UInt8) (w : World) (B : Nat) (hr : Rd w B A n (b.map bv)) (hB : B ≤ w.heap.size) (hn : n ≤ 16777215) (hO : OrdD w) (hg : 0 < w.heap.size) :
    Calls Tryd.prog 6 #[.slice A n c, .int .i64 2] w fun e w' => ∃ (A1 : Option Addr) (c1 : Nat) (l : List (Nat × Nat)) (TS TD : List Nat) (nS nD : Nat) (T : List Nat) (j : Nat) (ps : List Pt), e = .returned (.tuple #[.slice A1 (bytesD (l ++ [(256, 0)]) TS TD nS nD T j ps) c1, .int .i64 0]) ∧ St b n l ∧ Told (l ++ [(256, 0)]) TS TD nS nD T j ps ∧ Own w' w.heap.size 5 A1 (bytesD (l ++ [(256, 0)]) TS TD nS nD T j ps) c1 ((low (bytesD (l ++ [(256, 0)]) TS TD nS nD T j ps) (numD (l ++ [(256, 0)]) TS TD nS nD T j ps)).map bv) ∧ Fresh w w' := by
  have hst := stepsOf_any A n c b w B hr hB (by omega)
  have HST := Lib.hid hst
  have HO := Lib.hid hO
  clear hst hr hO
  go_enter Tryd.func6, Tryd.ntmps6
  go_wp2_with (first
    | (go_at_call 11; (with_reducible refine HST.out.mono ?_); rintro e w1 ⟨A1, c1, l, rfl, hs, ho, hf⟩; have HS := Lib.hid hs; have HF := Lib.hid hf; have hfew := hs.few; have hfx := dynamic_any A1 (l.length + 1) c1 w.heap.size (l ++ [(256, 0)]) w1 ho (fun s h => ⟨(hs.ok s h).1, by have := (hs.ok s h).2.1; omega, (hs.ok s h).2.2⟩) (by omega) (HO.out.keep (hf.block _ hg)) (by have := hf.size; omega); have HFX := Lib.hid hfx; clear hs ho hf hfx)
    | (go_at_call 12; (with_reducible refine HFX.out.mono ?_); rintro e w2 ⟨TS, TD, nS, nD, T, j, ps, A2, c2, htold, rfl, ho2, hf2⟩))
  go_ret2
  exact ⟨A2, c2, l, TS, TD, nS, nD, T, j, ps, rfl, HS.out, htold, own_low ho2 HF.out.size, HF.out.trans hf2⟩
end Go.Proofs.YtcmeoappddpmcaaDoor.defp
