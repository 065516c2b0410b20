/-
  What the laws of layer 15 share: pages that were sealed are opened, or not; wakes. My own text.
-/
import Derived.Test.YticpplnfgajjnaaPagOpen
import Derived.Test.YticpplnfgajjnaaPagRef
import Derived.Test.YticpplnfgajjnaaSamG
import Derived.Test.YticpplnfgajjnaaZap
import Derived.Lib.SmallJoins
namespace Go.Proofs.Yticpplnfgajjnaa.pagp
open Go.RowKit Go.Proofs.Yticpplnfgajjnaa.base Go.Proofs.Yticpplnfgajjnaa.num Go.Proofs.Yticpplnfgajjnaa.word Go.Proofs.Yticpplnfgajjnaa.pagn
set_option linter.unusedVariables false

/-- what Open tells of a page that was sealed under a number -/
def gets (no : Nat) (other : Int) : Nat := if fit other = true then (if other = (no : Int) then 0 else 5) else 1
theorem fit_nat {z : Int} (h : fit z = true) : ∃ a : Nat, z = (a : Int) ∧ a < 16777216 := by
  simp only [fit, decide_eq_true_eq] at h
  exact ⟨z.toNat, by omega, by omega⟩
theorem fit_of (a : Nat) (h : a < 16777216) : fit a = true := by simp [fit]; omega

theorem open_sealed (no : Nat) (other : Int) (g c : Nat) (f : List UInt8) (w : World) (hf : f.length = 508) (hno : no < 16777216) (ho : (Lit.int .i64 other).wf = true) (hb : Bk w g tSheet ((page no f).map bv)) :
    Calls Try.prog 10 #[.int .i64 other, .slice (some ⟨g, 0, none⟩) 512 c] w fun e w' => Fresh w w' ∧ ∃ A n d, e = .returned (.tuple #[.slice A n d, .int .i64 (gets no other : Nat)]) ∧ (other = (no : Int) → n = 508 ∧ 508 ≤ d ∧ d ≤ maxLen ∧ Rd w' w'.heap.size A 508 (f.map bv)) := by
  have hpl := page_length no f hf
  have hr : Rd w w.heap.size (some ⟨g, 0, none⟩) 512 ((page no f).map bv) := by
    have := (bk_rd hb 0 512 (by omega)).up hb.inside
    rwa [List.drop_zero, List.take_of_length_le (by omega)] at this
  by_cases hfit : fit other = true
  · obtain ⟨a, rfl, ha⟩ := fit_nat hfit
    refine (open_512 a _ c (page no f) w ha hr).mono ?_
    rintro e w' ⟨hf1, hc⟩
    refine ⟨hf1, ?_⟩
    unfold gets
    rw [if_pos hfit]
    by_cases hh : a = no
    · subst hh
      rw [if_pos (by rw [page_take _ _ hf])] at hc
      obtain ⟨g', rfl, hg', hb'⟩ := hc
      rw [if_pos rfl]
      refine ⟨_, _, _, rfl, fun _ => ⟨rfl, Nat.le_refl _, by unfold maxLen; omega, ?_⟩⟩
      have := (bk_rd hb' 0 508 (by omega)).up hb'.inside
      rwa [List.drop_zero, page_take _ _ hf] at this
    · have hne : ¬ (page no f = page a ((page no f).take 508)) := fun e => hh (told_no a no (page no f) (by omega) (by omega) (by rw [(page_iff a _ hpl).1 e, told_page]))
      rw [if_neg hne] at hc
      rw [if_neg (by omega)]
      exact ⟨_, _, _, hc, fun e => absurd (by omega) hh⟩
  · have hff : fit other = false := by simpa using hfit
    refine (open_arg other _ 512 c w ho hff).mono ?_
    rintro e w' ⟨rfl, hf1⟩
    unfold gets
    rw [if_neg hfit]
    exact ⟨hf1, _, _, _, rfl, fun e => by subst e; exact absurd (fit_of no hno) hfit⟩

theorem rd97 (w : World) : Rd (w.alloc (.cells #[.int .u8 97] 5 (1, 2))) (w.heap.size + 1) (some ⟨w.heap.size, 0, none⟩) 1 (([97] : List UInt8).map bv) := Rd.mark w #[.int .u8 97] 5 _

set_option maxRecDepth 100000 in
theorem wakes_any (w : World) : Calls Try.prog 7 #[] w fun e w' => e = .returned (.bool true) ∧ Fresh w w' := by
  have hcv := Joins.run_convert_bytes_const_at (P := Try.prog) w 22 5 #[.int .u8 97] 1 1 w.heap.size rfl Try.underlying22 Try.underlying5
  have hsl := seal_ok 7 (some ⟨w.heap.size, 0, none⟩) 1 1 [97] (w.alloc (.cells #[.int .u8 97] 5 (1, 2))) (by omega) ((rd97 w).up (by simp)) (by omega)
  have hfl := fill_length [97] (by decide)
  have h0 : (fill [97])[0]? = some 97 := rfl
  generalize fill [97] = f at *
  have o7 := fun (W : World) (g : Nat) (hb : Bk W g tSheet ((page 7 f).map bv)) => open_sealed 7 7 g 512 f W hfl (by omega) (WalkArith.wf_i64 ⟨by omega, by omega⟩) hb
  have o8 := fun (W : World) (g : Nat) (hb : Bk W g tSheet ((page 7 f).map bv)) => open_sealed 7 8 g 512 f W hfl (by omega) (WalkArith.wf_i64 ⟨by omega, by omega⟩) hb
  have e7 : gets 7 7 = 0 := by decide
  have e8 : gets 7 8 = 5 := by decide
  simp only [e7] at o7
  simp only [e8] at o8
  generalize page 7 f = pg at *
  have HSL := Lib.hid hsl
  have H7 := Lib.hid o7
  have H8 := Lib.hid o8
  have HF0 := Lib.hid h0
  clear hsl o7 o8 e7 e8 hfl h0
  go_enter Try.func7, Try.ntmps7
  go_wp2_with (first
    | (go_at_call 8; (refine HSL.out.mono ?_); rintro e w1 ⟨g, rfl, hg, hf1, hb1⟩; clear hcv; have HF1 := Lib.hid ((Fresh.alloc w (.cells #[.int .u8 97] 5 (1, 2))).trans hf1); have HB1 := Lib.hid hb1; clear hf1 hb1)
    | (go_at_call 10; ((with_reducible refine (H7.out _ _ HB1.out).mono ?_); rintro e w2 ⟨hf2, A2, n2, d2, rfl, hq⟩; obtain ⟨rfl, hd1, hd2, hr2⟩ := hq rfl; have HF2 := Lib.hid (HF1.out.trans hf2); have HB2 := Lib.hid (HB1.out.fresh hf2); have HR2 := Lib.hid hr2; clear hf2 hr2 hq))
    | (go_at_call 10; ((with_reducible refine (H8.out _ _ HB2.out).mono ?_); rintro e w3 ⟨hf3, A3, n3, d3, rfl, hq⟩; have HF3 := Lib.hid (HF2.out.trans hf3); have hr3 := HR2.out.fresh hf3; obtain ⟨b, off, x, rfl, hbb, hx, hcx⟩ := hr3.at_ (k := 0) (by omega); rw [HF0.out] at hx; injection hx with hx; subst hx; rw [Nat.add_zero] at hcx; clear hf3 hr3 hq)))
  go_ret
  exact ⟨rfl, HF3.out⟩
end Go.Proofs.Yticpplnfgajjnaa.pagp
