/-
  The walk of the law WalGets. My own text.
-/
import Derived.Test.YtcfijppfccfbdaaWalLaw
import Derived.Test.YtcfijppfccfbdaaWalRGet
import Derived.Test.YtcfijppfccfbdaaOpen
namespace Go.Proofs.Ytcfijppfccfbdaa.walGets
open Go.RowKit Go.Proofs.Ytcfijppfccfbdaa.base Go.Proofs.Ytcfijppfccfbdaa.num Go.Proofs.Ytcfijppfccfbdaa.word Go.Proofs.Ytcfijppfccfbdaa.waln Go.Proofs.Ytcfijppfccfbdaa.walp
set_option linter.unusedVariables false
set_option maxRecDepth 100000 in
theorem walGets_walk (A0 : Option Addr) (n0 c0 : Nat) (x0 : List UInt8) (w : World) (b0 : InBytes w A0 n0 c0 x0) :
    Calls Try.prog 4 #[.slice A0 n0 c0] w fun e w' => e = .returned (.bool true) ∧ Below w.heap.size w w' := by
  obtain ⟨i0, hi0, hz0, hz1, hz2⟩ := info_parts word.byte_info
  obtain ⟨r0, hc0, hm0⟩ := b0
  have HW := Lib.hid (wakes_any w)
  by_cases hbig : 20000 < n0
  · clear r0
    go_enter Try.func4, Try.ntmps4
    go_wp2_with (go_at_call 7; (refine HW.out.mono ?_); rintro e w1 ⟨rfl, hf1⟩)
    go_ret
    exact ⟨rfl, hf1⟩
  · have HR := Lib.hid r0
    have HRG := Lib.hid (fun (W : World) (hf : Fresh w W) => refGet_any A0 n0 c0 x0 W (r0.fresh hf) hc0 hm0 (by omega))
    have HG := Lib.hid (fun (W : World) (A : Option Addr) (c : Nat) (B : Nat) (ho : base.Own W B tB A n0 c (x0.map bv)) => get_any A n0 c x0 W ho.rd ho.cap.1 ho.cap.2 (by omega))
    unfold maxLen at hm0
    clear r0
    cases hg : waln.get x0 with
    | bad k =>
      rw [hg] at HRG HG
      go_enter Try.func4, Try.ntmps4
      go_wp2_with (first
        | (go_at_call 7; (refine HW.out.mono ?_); rintro e w1 ⟨rfl, hf1⟩; have HF1 := Lib.hid hf1; have HO1 := Lib.hid (Own.made w1 tB #[] 0 rfl (by unfold maxLen; omega)); have HR1 := Lib.hid ((HR.out.fresh hf1).fresh (Fresh.alloc w1 (.cells #[] tB))); clear hf1)
        | ((with_reducible refine at_slot_ 14 ?_); refine wpList_append_rd _ rfl _ _ 23 rfl w1.heap.size 5 i0 _ 1 Try.underlying23 hi0 hz0 hz1 hz2 rfl _ 0 0 _ rfl HO1.out _ A0 n0 c0 _ rfl HR1.out (bv_one _) (by unfold maxLen; omega) (by omega) (by simp) ?_; intro A2 c2 w2 ho2 hg2; have hf2 : Fresh w1 w2 := (Fresh.alloc _ _).append HO1.out (Nat.le_refl _) hg2; rw [Nat.zero_add, List.nil_append] at ho2; have HF2 := Lib.hid (HF1.out.trans hf2); have HO2 := Lib.hid ho2; clear hf2 ho2 hg2)
        | (go_at_call 13; ((refine (HG.out _ _ _ _ HO2.out).mono ?_); rintro e w3 ⟨hf3, hq3⟩; cases hq3; have HF3 := Lib.hid (HF2.out.trans hf3); clear hf3))
        | (go_at_call 15; ((refine (HRG.out _ HF3.out).mono ?_); rintro e w4 ⟨hf4, hq4⟩; cases hq4; have HF4 := Lib.hid ((HF3.out.trans hf4).trans (Fresh.alloc w4 (.cells #[.slice none 0 0, .int .i64 (k : Nat)] tGot))); clear hf4))
        | (go_at_call 14; ((refine (sameB_any none none 0 0 0 0 [] [] _ (WsAt.nil _ _ _) (WsAt.nil _ _ _) (by omega) (by omega) true rfl).mono ?_); rintro e w5 ⟨rfl, hf5⟩)))
      go_ret
      exact ⟨rfl, HF4.out.trans hf5⟩
    | ok l =>
      rw [hg] at HRG HG
      go_enter Try.func4, Try.ntmps4
      go_wp2_with (first
        | (go_at_call 7; (refine HW.out.mono ?_); rintro e w1 ⟨rfl, hf1⟩; have HF1 := Lib.hid hf1; have HO1 := Lib.hid (Own.made w1 tB #[] 0 rfl (by unfold maxLen; omega)); have HR1 := Lib.hid ((HR.out.fresh hf1).fresh (Fresh.alloc w1 (.cells #[] tB))); clear hf1)
        | ((with_reducible refine at_slot_ 14 ?_); refine wpList_append_rd _ rfl _ _ 23 rfl w1.heap.size 5 i0 _ 1 Try.underlying23 hi0 hz0 hz1 hz2 rfl _ 0 0 _ rfl HO1.out _ A0 n0 c0 _ rfl HR1.out (bv_one _) (by unfold maxLen; omega) (by omega) (by simp) ?_; intro A2 c2 w2 ho2 hg2; have hf2 : Fresh w1 w2 := (Fresh.alloc _ _).append HO1.out (Nat.le_refl _) hg2; rw [Nat.zero_add, List.nil_append] at ho2; have HF2 := Lib.hid (HF1.out.trans hf2); have HO2 := Lib.hid ho2; clear hf2 ho2 hg2)
        | (go_at_call 13; ((refine (HG.out _ _ _ _ HO2.out).mono ?_); rintro e w3 ⟨hf3, A3, m3, c3, ws3, rfl, hw3, hl3, h31, h32⟩; have HF3 := Lib.hid (HF2.out.trans hf3); have HW3 := Lib.hid hw3; have HL3 := Lib.hid hl3; have HB3 := Lib.hid (Nat.le_trans h31 h32); clear hf3 hw3 hl3 h31 h32))
        | (go_at_call 15; ((refine (HRG.out _ HF3.out).mono ?_); rintro e w4 ⟨hf4, A4, m4, c4, ws4, rfl, hw4, hl4, h41, h42⟩; have hfa := Fresh.alloc w4 (.cells #[.slice A4 m4 c4, .int .i64 0] tGot); have HF4 := Lib.hid ((HF3.out.trans hf4).trans hfa); have HW3' := Lib.hid ((HW3.out.fresh hf4).fresh hfa); have HW4 := Lib.hid (hw4.fresh hfa); have HL4 := Lib.hid hl4; have HB4 := Lib.hid (Nat.le_trans h41 h42); clear hf4 hw4 hl4 h41 h42 hfa))
        | (go_at_call 14; ((refine (sameB_any A3 A4 m3 m4 c3 c4 ws3 ws4 _ HW3'.out HW4.out (by have := HB3.out; unfold maxLen at this; omega) (by have := HB4.out; unfold maxLen at this; omega) true (decide_eq_true (HL3.out.trans HL4.out.symm))).mono ?_); rintro e w5 ⟨rfl, hf5⟩)))
      go_ret
      exact ⟨rfl, HF4.out.trans hf5⟩
end Go.Proofs.Ytcfijppfccfbdaa.walGets
