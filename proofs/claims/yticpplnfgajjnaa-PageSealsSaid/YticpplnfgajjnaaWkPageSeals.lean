/-
  The walk of the law PageSeals. My own text.
-/
import Derived.Test.YticpplnfgajjnaaPagLaw
import Derived.Test.YticpplnfgajjnaaOpen
namespace Go.Proofs.Yticpplnfgajjnaa.pageSeals
open Go.RowKit Go.Proofs.Yticpplnfgajjnaa.base Go.Proofs.Yticpplnfgajjnaa.num Go.Proofs.Yticpplnfgajjnaa.word Go.Proofs.Yticpplnfgajjnaa.pagn Go.Proofs.Yticpplnfgajjnaa.pagp
set_option linter.unusedVariables false
theorem rep_bv (z : Nat) : List.replicate z (Value.int .u8 0) = (List.replicate z (0 : UInt8)).map bv := by rw [List.map_replicate]; rfl

set_option maxRecDepth 100000 in
set_option maxHeartbeats 2000000 in
theorem seals_core (no : Nat) (A1 : Option Addr) (n1 c1 : Nat) (x1 : List UInt8) (a2 : Int) (w : World) (hno : no < 16777216) (hn : n1 ≤ 508) (hr1 : Rd w w.heap.size A1 n1 (x1.map bv)) (w2 : (Lit.int .i64 a2).wf = true)
    (G : Nat) (hG : gets no a2 = G) (q : Bool) (hq1 : ((G : Int) == 0) = q) (hq2 : (a2 == (no : Int)) = q) (F : Bool) (hF : fit a2 = F) (hFG : F = true ∨ (F = false ∧ G = 1)) :
    Calls Try.prog 3 #[.int .i64 no, .slice A1 n1 c1, .int .i64 a2] w fun e w' => e = .returned (.bool true) ∧ Below w.heap.size w w' := by
  obtain ⟨i0, hi0, hz0, hz1, hz2⟩ := info_parts byte_info
  have hwk := wakes_any w
  have hrf := fun W => refFits_any no W
  rw [fit_of no hno] at hrf
  have hrf2 := fun W => refFits_any a2 W
  rw [hF] at hrf2
  have hlx : x1.length = n1 := by have := hr1.1; rwa [List.length_map] at this
  have hfe : x1 ++ List.replicate (508 - n1) 0 = fill x1 := by rw [fill, hlx]
  have hfl := fill_length x1 (by omega)
  have hsl := fun (W : World) (h : Rd W W.heap.size A1 n1 (x1.map bv)) => seal_ok no A1 n1 c1 x1 W hno h hn
  have hrb := fun (W : World) (h : Rd W W.heap.size A1 n1 (x1.map bv)) => refBytes_any no A1 n1 c1 x1 W hno h hn
  generalize fill x1 = f at *
  have o1 := fun (W : World) (g : Nat) (hb : Bk W g tSheet ((page no f).map bv)) => open_sealed no no g 512 f W hfl hno (WalkArith.wf_i64 ⟨by omega, by omega⟩) hb
  have o2 := fun (W : World) (g : Nat) (hb : Bk W g tSheet ((page no f).map bv)) => open_sealed no a2 g 512 f W hfl hno w2 hb
  have e1 : gets no (no : Int) = 0 := by unfold gets; rw [if_pos (fit_of no hno), if_pos rfl]
  simp only [e1] at o1
  simp only [hG] at o2
  have hpl := page_length no f hfl
  generalize page no f = pg at *
  have hrz := rep_bv (508 - n1)
  have hnn : n1 + (508 - n1) = 508 := by omega
  have HNN := Lib.hid hnn
  have hsub : (508 : Int) - (n1 : Int) = ((508 - n1 : Nat) : Int) := by omega
  have HWK := Lib.hid hwk
  have HRF := Lib.hid hrf
  have HRF2 := Lib.hid hrf2
  have HFE := Lib.hid hfe
  have HSL := Lib.hid hsl
  have HRB := Lib.hid hrb
  have O1 := Lib.hid o1
  have O2 := Lib.hid o2
  have HPL := Lib.hid hpl
  have HRZ := Lib.hid hrz
  have HSUB := Lib.hid hsub
  have HR1 := Lib.hid hr1
  have HQ1 := Lib.hid hq1
  have HQ2 := Lib.hid hq2
  have HFG := Lib.hid hFG
  have hone : fit (no : Int) = true := fit_of no hno
  clear hnn hwk hrf hrf2 hlx hfe hfl hsl hrb o1 o2 e1 hpl hrz hsub hr1 hFG hF hG hone w2
  rcases HFG.out with rfl | ⟨rfl, rfl⟩
  · have hqq : (q == q) = true := by simp
    go_enter Try.func3, Try.ntmps3
    go_wp2_with (first
      | (go_at_call 7; (refine HWK.out.mono ?_); rintro e wA ⟨rfl, hfA⟩; have HFA := Lib.hid hfA; clear hfA)
      | (go_at_call 8; ((refine (HSL.out _ (HR1.out.fresh HFA.out)).mono ?_); rintro e w3 ⟨g, rfl, hg, hf3, hb3⟩; have HF3 := Lib.hid (HFA.out.trans hf3); have HB3 := Lib.hid hb3; clear hf3 hb3 hg))
      | (go_at_call 9; ((with_reducible refine (HRF.out _).mono ?_); rintro e w4 ⟨rfl, rfl⟩))
      | (go_at_call 10; ((with_reducible refine (O1.out _ _ HB3.out).mono ?_); rintro e w5 ⟨hf5, A5, n5, d5, rfl, hq⟩; obtain ⟨rfl, hd51, hd52, hr5⟩ := hq trivial; have HF5 := Lib.hid (HF3.out.trans hf5); have HB5 := Lib.hid (HB3.out.fresh hf5); have HR5 := Lib.hid hr5; clear hf5 hr5 hq))
      | (go_at_call 10; ((with_reducible refine (O2.out _ _ HB5.out).mono ?_); rintro e w6 ⟨hf6, A6, n6, d6, rfl, hq⟩; have HF6 := Lib.hid (HF5.out.trans hf6); have HB6 := Lib.hid (HB5.out.fresh hf6); have HR6 := Lib.hid (HR5.out.fresh hf6); clear hf6 hq))
      | ((with_reducible refine at_slot_ 61 ?_); refine wpList_append_rd _ rfl _ _ 22 rfl w6.heap.size 5 i0 _ 1 Try.underlying22 hi0 hz0 hz1 hz2 rfl (some ⟨w6.heap.size, 0, none⟩) 0 0 [] rfl (Own.made w6 5 #[] 0 rfl (Nat.zero_le _)) w.heap.size A1 n1 c1 (x1.map bv) rfl (HR1.out.below (HF6.out.trans (Fresh.alloc _ _)) (Nat.le_refl _)) (bv_one x1) (by unfold maxLen; omega) (by omega) (by simp) ?_; intro A7 c7 w7 ho7 hg7; rw [Nat.zero_add, List.nil_append] at ho7; have hf7 : Fresh w6 w7 := (Fresh.alloc _ _).append (Own.made w6 5 #[] 0 rfl (Nat.zero_le _)) (Nat.le_refl _) hg7; have HF67 := Lib.hid hf7; have HO7 := Lib.hid ho7; clear hf7 ho7 hg7)
      | ((with_reducible refine at_slot_ 65 ?_); refine wpList_append_zeros _ rfl _ _ 22 3 rfl w6.heap.size 5 i0 .i64 Try.underlying22 Try.underlying3 hi0 hz0 hz1 hz2 A7 n1 c7 _ rfl HO7.out (508 - n1) _ rfl HSUB.out (by omega) HF67.out.size ?_; intro A8 c8 w8 ho8 hg8; have hf8 : Fresh w6 w8 := Fresh.append HF67.out HO7.out (Nat.le_refl _) hg8; rw [HRZ.out, ← List.map_append, HFE.out, HNN.out] at ho8; have HF8 := Lib.hid (HF6.out.trans hf8); have HB8 := Lib.hid (HB6.out.fresh hf8); have HR8 := Lib.hid (HR6.out.fresh hf8); have HO8 := Lib.hid ho8; clear hf8 ho8 hg8)
      | (go_at_call 12; ((refine (HRB.out _ (HR1.out.fresh HF8.out)).mono ?_); rintro e w9 ⟨A9, c9, rfl, hf9, ho9⟩; have HF9 := Lib.hid (HF8.out.trans hf9); have HB9 := Lib.hid (HB8.out.fresh hf9); have HR9 := Lib.hid (HR8.out.fresh hf9); have HO9 := Lib.hid ho9; have HO89 := Lib.hid (Own.fresh HO8.out hf9); clear hf9 ho9))
      | (go_at_call 11; ((with_reducible refine (same_gen (some ⟨g, 0, none⟩) A9 512 512 512 c9 pg pg _ _ _ (bk_rd' HB9.out HPL.out) HO9.out.rd (by omega) (by omega) true (by simp)).mono ?_); rintro e w10 ⟨rfl, hf10⟩; have HF10 := Lib.hid (HF9.out.trans hf10); have HR10 := Lib.hid (HR9.out.fresh hf10); have HO10 := Lib.hid (Own.fresh HO89.out hf10); clear hf10))
      | (go_at_call 11; ((with_reducible refine (same_gen A5 A8 508 508 d5 c8 f f _ _ _ HR10.out HO10.out.rd (by omega) (by omega) true (by simp)).mono ?_); rintro e w11 ⟨rfl, hf11⟩; have HF11 := Lib.hid (HF10.out.trans hf11); clear hf11))
      | (go_at_call 9; ((with_reducible refine (HRF2.out _).mono ?_); rintro e w12 ⟨rfl, rfl⟩)))
    go_ret
    exact ⟨rfl, HF11.out⟩
  · obtain rfl : q = false := by rw [← hq1]; rfl
    go_enter Try.func3, Try.ntmps3
    go_wp2_with (first
      | (go_at_call 7; (refine HWK.out.mono ?_); rintro e wA ⟨rfl, hfA⟩; have HFA := Lib.hid hfA; clear hfA)
      | (go_at_call 8; ((refine (HSL.out _ (HR1.out.fresh HFA.out)).mono ?_); rintro e w3 ⟨g, rfl, hg, hf3, hb3⟩; have HF3 := Lib.hid (HFA.out.trans hf3); have HB3 := Lib.hid hb3; clear hf3 hb3 hg))
      | (go_at_call 9; ((with_reducible refine (HRF.out _).mono ?_); rintro e w4 ⟨rfl, rfl⟩))
      | (go_at_call 10; ((with_reducible refine (O1.out _ _ HB3.out).mono ?_); rintro e w5 ⟨hf5, A5, n5, d5, rfl, hq⟩; obtain ⟨rfl, hd51, hd52, hr5⟩ := hq trivial; have HF5 := Lib.hid (HF3.out.trans hf5); have HB5 := Lib.hid (HB3.out.fresh hf5); have HR5 := Lib.hid hr5; clear hf5 hr5 hq))
      | (go_at_call 10; ((with_reducible refine (O2.out _ _ HB5.out).mono ?_); rintro e w6 ⟨hf6, A6, n6, d6, rfl, hq⟩; have HF6 := Lib.hid (HF5.out.trans hf6); have HB6 := Lib.hid (HB5.out.fresh hf6); have HR6 := Lib.hid (HR5.out.fresh hf6); clear hf6 hq))
      | ((with_reducible refine at_slot_ 61 ?_); refine wpList_append_rd _ rfl _ _ 22 rfl w6.heap.size 5 i0 _ 1 Try.underlying22 hi0 hz0 hz1 hz2 rfl (some ⟨w6.heap.size, 0, none⟩) 0 0 [] rfl (Own.made w6 5 #[] 0 rfl (Nat.zero_le _)) w.heap.size A1 n1 c1 (x1.map bv) rfl (HR1.out.below (HF6.out.trans (Fresh.alloc _ _)) (Nat.le_refl _)) (bv_one x1) (by unfold maxLen; omega) (by omega) (by simp) ?_; intro A7 c7 w7 ho7 hg7; rw [Nat.zero_add, List.nil_append] at ho7; have hf7 : Fresh w6 w7 := (Fresh.alloc _ _).append (Own.made w6 5 #[] 0 rfl (Nat.zero_le _)) (Nat.le_refl _) hg7; have HF67 := Lib.hid hf7; have HO7 := Lib.hid ho7; clear hf7 ho7 hg7)
      | ((with_reducible refine at_slot_ 65 ?_); refine wpList_append_zeros _ rfl _ _ 22 3 rfl w6.heap.size 5 i0 .i64 Try.underlying22 Try.underlying3 hi0 hz0 hz1 hz2 A7 n1 c7 _ rfl HO7.out (508 - n1) _ rfl HSUB.out (by omega) HF67.out.size ?_; intro A8 c8 w8 ho8 hg8; have hf8 : Fresh w6 w8 := Fresh.append HF67.out HO7.out (Nat.le_refl _) hg8; rw [HRZ.out, ← List.map_append, HFE.out, HNN.out] at ho8; have HF8 := Lib.hid (HF6.out.trans hf8); have HB8 := Lib.hid (HB6.out.fresh hf8); have HR8 := Lib.hid (HR6.out.fresh hf8); have HO8 := Lib.hid ho8; clear hf8 ho8 hg8)
      | (go_at_call 12; ((refine (HRB.out _ (HR1.out.fresh HF8.out)).mono ?_); rintro e w9 ⟨A9, c9, rfl, hf9, ho9⟩; have HF9 := Lib.hid (HF8.out.trans hf9); have HB9 := Lib.hid (HB8.out.fresh hf9); have HR9 := Lib.hid (HR8.out.fresh hf9); have HO9 := Lib.hid ho9; have HO89 := Lib.hid (Own.fresh HO8.out hf9); clear hf9 ho9))
      | (go_at_call 11; ((with_reducible refine (same_gen (some ⟨g, 0, none⟩) A9 512 512 512 c9 pg pg _ _ _ (bk_rd' HB9.out HPL.out) HO9.out.rd (by omega) (by omega) true (by simp)).mono ?_); rintro e w10 ⟨rfl, hf10⟩; have HF10 := Lib.hid (HF9.out.trans hf10); have HR10 := Lib.hid (HR9.out.fresh hf10); have HO10 := Lib.hid (Own.fresh HO89.out hf10); clear hf10))
      | (go_at_call 11; ((with_reducible refine (same_gen A5 A8 508 508 d5 c8 f f _ _ _ HR10.out HO10.out.rd (by omega) (by omega) true (by simp)).mono ?_); rintro e w11 ⟨rfl, hf11⟩; have HF11 := Lib.hid (HF10.out.trans hf11); clear hf11))
      | (go_at_call 9; ((with_reducible refine (HRF2.out _).mono ?_); rintro e w12 ⟨rfl, rfl⟩)))
    go_ret
    exact ⟨rfl, HF11.out⟩

theorem pageSeals_walk (a0 : Int) (A1 : Option Addr) (n1 c1 : Nat) (x1 : List UInt8) (a2 : Int) (w : World) (w0 : (Lit.int .i64 a0).wf = true) (b1 : InBytes w A1 n1 c1 x1) (w2 : (Lit.int .i64 a2).wf = true) :
    Calls Try.prog 3 #[.int .i64 a0, .slice A1 n1 c1, .int .i64 a2] w fun e w' => e = .returned (.bool true) ∧ Below w.heap.size w w' := by
  obtain ⟨r1, hc1, hm1⟩ := b1
  unfold maxLen at hm1
  have hwk := wakes_any w
  have HWK := Lib.hid hwk
  clear hwk
  by_cases hl : n1 ≤ 2000
  · by_cases hfit : fit a0 = true
    · obtain ⟨no, rfl, hno⟩ := fit_nat hfit
      by_cases hn : n1 ≤ 508
      · by_cases hf2 : fit a2 = true
        · by_cases he : a2 = (no : Int)
          · exact seals_core no A1 n1 c1 x1 a2 w hno hn r1 w2 0 (by unfold gets; rw [if_pos hf2, if_pos he]) true rfl (by rw [he]; simp) true hf2 (.inl rfl)
          · exact seals_core no A1 n1 c1 x1 a2 w hno hn r1 w2 5 (by unfold gets; rw [if_pos hf2, if_neg he]) false rfl (by rw [beq_eq_false_iff_ne]; exact he) true hf2 (.inl rfl)
        · exact seals_core no A1 n1 c1 x1 a2 w hno hn r1 w2 1 (by unfold gets; rw [if_neg hf2]) false rfl (by rw [beq_eq_false_iff_ne]; intro e; rw [e] at hf2; exact hf2 (fit_of no hno)) false (by simpa using hf2) (.inr ⟨rfl, rfl⟩)
      · have hs := fun W => seal_long no A1 n1 c1 W w0 hfit (by omega) (by unfold maxLen; omega)
        have hrf := fun W => refFits_any no W
        rw [hfit] at hrf
        have HS := Lib.hid hs
        have HRF := Lib.hid hrf
        have hd := Lib.hid (show decide (508 < (n1 : Int)) = true from decide_eq_true (by omega))
        clear hs hrf hfit w0 w2 r1
        go_enter Try.func3, Try.ntmps3
        go_wp2_with (first
          | (go_at_call 7; refine HWK.out.mono ?_; rintro e w2 ⟨rfl, hf2⟩; have HF2 := Lib.hid hf2; clear hf2)
          | (go_at_call 8; ((refine (HS.out _).mono ?_); rintro e w3 ⟨rfl, hf3⟩; have HF3 := Lib.hid (HF2.out.trans hf3); clear hf3))
          | (go_at_call 9; ((refine (HRF.out _).mono ?_); rintro e w4 ⟨rfl, rfl⟩)))
        go_ret
        exact ⟨rfl, HF3.out⟩
    · have hff : fit a0 = false := by simpa using hfit
      have hrf := fun W => refFits_any a0 W
      rw [hff] at hrf
      have ho := fun (W : World) => seal_arg a0 A1 n1 c1 W w0 hff
      have HO := Lib.hid ho
      have HRF := Lib.hid hrf
      clear ho hrf hfit hff w0 r1 w2
      go_enter Try.func3, Try.ntmps3
      go_wp2_with (first
        | (go_at_call 7; refine HWK.out.mono ?_; rintro e w2 ⟨rfl, hf2⟩; have HF2 := Lib.hid hf2; clear hf2)
        | (go_at_call 8; ((refine (HO.out _).mono ?_); rintro e w3 ⟨rfl, hf3⟩; have HF3 := Lib.hid (HF2.out.trans hf3); clear hf3))
        | (go_at_call 9; ((refine (HRF.out _).mono ?_); rintro e w4 ⟨rfl, rfl⟩)))
      go_ret
      exact ⟨rfl, HF3.out⟩
  · clear r1 w0 w2
    go_enter Try.func3, Try.ntmps3
    go_wp2_with (go_at_call 7; refine HWK.out.mono ?_; rintro e w2 ⟨rfl, hf2⟩; have HF2 := Lib.hid hf2; clear hf2)
    go_ret
    exact ⟨rfl, HF2.out⟩
end Go.Proofs.Yticpplnfgajjnaa.pageSeals
