/-
  The walk of the law PageOpens. My own text.
-/
import Derived.Test.YticpplnfgajjnaaPagLaw
import Derived.Test.YticpplnfgajjnaaOpen
namespace Go.Proofs.Yticpplnfgajjnaa.pageOpens
open Go.RowKit Go.Proofs.Yticpplnfgajjnaa.base Go.Proofs.Yticpplnfgajjnaa.num Go.Proofs.Yticpplnfgajjnaa.word Go.Proofs.Yticpplnfgajjnaa.pagn Go.Proofs.Yticpplnfgajjnaa.pagp
set_option linter.unusedVariables false

theorem fill_508 (f : List UInt8) (h : f.length = 508) : fill f = f := by rw [fill, h, Nat.sub_self, List.replicate_zero, List.append_nil]

theorem rd_508 {w : World} {g : Nat} {xs x5 : List UInt8} (h : Bk w g tSheet (xs.map bv)) (hl : xs.length = 512) (h5 : xs.take 508 = x5) : Rd w (g + 1) (some ⟨g, 0, none⟩) 508 (x5.map bv) := by
  have := bk_rd h 0 508 (by omega)
  rwa [List.drop_zero, h5] at this
set_option maxRecDepth 100000 in
theorem pageOpens_walk (a0 : Int) (A1 : Option Addr) (n1 c1 : Nat) (x1 : List UInt8) (w : World) (w0 : (Lit.int .i64 a0).wf = true) (b1 : InBytes w A1 n1 c1 x1) :
    Calls Try.prog 4 #[.int .i64 a0, .slice A1 n1 c1] w fun e w' => e = .returned (.bool true) ∧ Below w.heap.size w w' := by
  obtain ⟨r1, hc1, hm1⟩ := b1
  unfold maxLen at hm1
  have hwk := wakes_any w
  have HWK := Lib.hid hwk
  clear hwk
  have hrf := fun W => refFits_any a0 W
  by_cases hl : n1 ≤ 2000
  · by_cases hfit : fit a0 = true
    · obtain ⟨no, rfl, hno⟩ := fit_nat hfit
      rw [hfit] at hrf
      by_cases h512 : n1 = 512
      · subst h512
        have hlx : x1.length = 512 := by have := r1.1; rwa [List.length_map] at this
        have ho := fun (W : World) (h : Rd W W.heap.size A1 512 (x1.map bv)) => open_512 no A1 c1 x1 W hno h
        have hf5 : (x1.take 508).length = 508 := by rw [List.length_take, hlx]; rfl
        have hrb := fun (W : World) (h : Rd W W.heap.size A1 508 ((x1.take 508).map bv)) => refBytes_any no A1 508 c1 (x1.take 508) W hno h (by omega)
        rw [fill_508 _ hf5] at hrb
        have hr5 : Rd w w.heap.size A1 508 ((x1.take 508).map bv) := by
          obtain ⟨b, off, rfl, hb, hc⟩ := r1.2 (by omega)
          refine ⟨by rw [List.length_map, hf5], fun _ => ⟨b, off, rfl, hb, fun j u hu => hc j u ?_⟩⟩
          rw [List.map_take, List.getElem?_take] at hu
          split at hu
          · exact hu
          · cases hu
        have hpl := page_length no (x1.take 508) hf5
        generalize page no (x1.take 508) = pg at *
        generalize hx5 : x1.take 508 = x5 at *
        have HX5 := Lib.hid hx5
        have HF5 := Lib.hid hf5
        have HLX := Lib.hid hlx
        have HPL := Lib.hid hpl
        have HR1 := Lib.hid r1
        have HR5 := Lib.hid hr5
        have HRF := Lib.hid hrf
        have HRB := Lib.hid hrb
        by_cases he : x1 = pg
        · simp only [if_pos he] at ho
          have HO := Lib.hid ho
          have HE := Lib.hid he
          clear hx5 hf5 hlx hpl r1 hr5 hrf hrb ho he hfit w0
          go_enter Try.func4, Try.ntmps4
          go_wp2_with (first
            | (go_at_call 7; refine HWK.out.mono ?_; rintro e w2 ⟨rfl, hf2⟩; have HF2 := Lib.hid hf2; clear hf2)
            | (go_at_call 10; ((refine (HO.out _ (HR1.out.fresh HF2.out)).mono ?_); rintro e w3 ⟨hf3, g, rfl, hg, hb3⟩; have HF3 := Lib.hid (HF2.out.trans hf3); have HB3 := Lib.hid hb3; clear hf3 hb3 hg))
            | (go_at_call 9; ((refine (HRF.out _).mono ?_); rintro e w4 ⟨rfl, rfl⟩))
            | (go_at_call 12; ((refine (HRB.out _ (HR5.out.fresh HF3.out)).mono ?_); rintro e w5 ⟨A5, c5, rfl, hf5, ho5⟩; have HF5' := Lib.hid (HF3.out.trans hf5); have HO5 := Lib.hid ho5; have HB5 := Lib.hid (HB3.out.fresh hf5); clear hf5 ho5))
            | (go_at_call 11; ((with_reducible refine (same_gen A1 A5 512 512 c1 c5 x1 pg _ _ _ (HR1.out.fresh HF5'.out) HO5.out.rd (by omega) (by omega) true (by rw [HE.out]; simp)).mono ?_); rintro e w6 ⟨rfl, hf6⟩; have HF6 := Lib.hid (HF5'.out.trans hf6); have HB6 := Lib.hid (HB5.out.fresh hf6); clear hf6))
            | (go_at_call 11; ((with_reducible refine (same_gen (some ⟨g, 0, none⟩) A1 508 508 508 c1 x5 x5 _ _ _ (rd_508 HB6.out HLX.out HX5.out) (HR5.out.fresh HF6.out) (by omega) (by omega) true (by simp)).mono ?_); rintro e w7 ⟨rfl, hf7⟩; have HF7 := Lib.hid (HF6.out.trans hf7); clear hf7)))
          go_ret
          exact ⟨rfl, HF7.out⟩
        · simp only [if_neg he] at ho
          have HO := Lib.hid ho
          have HE := Lib.hid he
          clear hx5 hf5 hlx hpl r1 hr5 hrf hrb ho he hfit w0
          go_enter Try.func4, Try.ntmps4
          go_wp2_with (first
            | (go_at_call 7; refine HWK.out.mono ?_; rintro e w2 ⟨rfl, hf2⟩; have HF2 := Lib.hid hf2; clear hf2)
            | (go_at_call 10; ((refine (HO.out _ (HR1.out.fresh HF2.out)).mono ?_); rintro e w3 ⟨hf3, rfl⟩; have HF3 := Lib.hid (HF2.out.trans hf3); clear hf3))
            | (go_at_call 9; ((refine (HRF.out _).mono ?_); rintro e w4 ⟨rfl, rfl⟩))
            | (go_at_call 12; ((refine (HRB.out _ (HR5.out.fresh HF3.out)).mono ?_); rintro e w5 ⟨A5, c5, rfl, hf5, ho5⟩; have HF5' := Lib.hid (HF3.out.trans hf5); have HO5 := Lib.hid ho5; clear hf5 ho5))
            | (go_at_call 11; ((with_reducible refine (same_gen A1 A5 512 512 c1 c5 x1 pg _ _ _ (HR1.out.fresh HF5'.out) HO5.out.rd (by omega) (by omega) false (by simpa using HE.out)).mono ?_); rintro e w6 ⟨rfl, hf6⟩; have HF6 := Lib.hid (HF5'.out.trans hf6); clear hf6)))
          go_ret
          exact ⟨rfl, HF6.out⟩
      · have ho := fun (W : World) => open_size no A1 n1 c1 W w0 hfit h512 (by unfold maxLen; omega)
        have HO := Lib.hid ho
        have HRF := Lib.hid hrf
        have hb : (((n1 : Nat) : Int) != 512) = true := by rw [bne_iff_ne]; omega
        clear ho hrf h512 hfit w0 r1
        go_enter Try.func4, Try.ntmps4
        go_wp2_with (first
          | (go_at_call 7; refine HWK.out.mono ?_; rintro e w2 ⟨rfl, hf2⟩; have HF2 := Lib.hid hf2; clear hf2)
          | (go_at_call 10; ((refine (HO.out _).mono ?_); rintro e w3 ⟨rfl, hf3⟩; have HF3 := Lib.hid (HF2.out.trans hf3); clear hf3))
          | (go_at_call 9; ((refine (HRF.out _).mono ?_); rintro e w4 ⟨rfl, rfl⟩)))
        go_ret
        exact ⟨rfl, HF3.out⟩
    · have hff : fit a0 = false := by simpa using hfit
      rw [hff] at hrf
      have ho := fun (W : World) => open_arg a0 A1 n1 c1 W w0 hff
      have HO := Lib.hid ho
      have HRF := Lib.hid hrf
      clear ho hrf hfit hff w0 r1
      go_enter Try.func4, Try.ntmps4
      go_wp2_with (first
        | (go_at_call 7; refine HWK.out.mono ?_; rintro e w2 ⟨rfl, hf2⟩; have HF2 := Lib.hid hf2; clear hf2)
        | (go_at_call 10; ((refine (HO.out _).mono ?_); rintro e w3 ⟨rfl, hf3⟩; have HF3 := Lib.hid (HF2.out.trans hf3); clear hf3))
        | (go_at_call 9; ((refine (HRF.out _).mono ?_); rintro e w4 ⟨rfl, rfl⟩)))
      go_ret
      exact ⟨rfl, HF3.out⟩
  · clear hrf r1 w0
    go_enter Try.func4, Try.ntmps4
    go_wp2_with (go_at_call 7; refine HWK.out.mono ?_; rintro e w2 ⟨rfl, hf2⟩; have HF2 := Lib.hid hf2; clear hf2)
    go_ret
    exact ⟨rfl, HF2.out⟩
end Go.Proofs.Yticpplnfgajjnaa.pageOpens
