/-
  The walk of the law DosGets. My own text.
-/
import Derived.Test.YtgmpdkkpmgedjaaDosBack
import Derived.Test.YtgmpdkkpmgedjaaOpen
namespace Go.Proofs.Ytgmpdkkpmgedjaa.dosGets
open Go.RowKit Go.Proofs.Ytgmpdkkpmgedjaa.base Go.Proofs.Ytgmpdkkpmgedjaa.num Go.Proofs.Ytgmpdkkpmgedjaa.bitnum Go.Proofs.Ytgmpdkkpmgedjaa.dosnum Go.Proofs.Ytgmpdkkpmgedjaa.dosp
set_option linter.unusedVariables false
abbrev TM : TypeId := 25
set_option maxHeartbeats 16000000 in
theorem walk_bad (n : Int) (hn : -9223372036854775808 ≤ n ∧ n ≤ 9223372036854775807) (r : ¬ Right (parts n)) (w : World) : Calls Try.prog 4 #[.int .i64 n] w fun e w' => e = .returned (.bool true) ∧ Fresh w w' := by
  have hg := get_any n hn
  have ht := text_any n hn
  simp only [if_neg r] at hg ht
  have HG := Lib.hid hg
  have HT := Lib.hid ht
  have heq := fun V => eq_mom zero zero V
  have hgd := fun V x y => guard_mom .eql x y zero zero V
  rw [same_iff.2 rfl] at heq
  simp only [zero] at heq hgd
  have hz : ∀ V, Bk (World.alloc V (.cells #[.int .i64 0, .int .i64 0, .int .i64 0, .int .i64 0, .int .i64 0, .int .i64 0] TM)) V.heap.size TM (momL zero) := fun V => Bk.made V TM (momL zero).toArray
  have HZ := Lib.hid hz
  clear hg ht hz
  have hne : numI (parts n) = -1 := by rw [numI, if_neg r]
  by_cases h0 : n < 0
  · clear r hn hne
    go_enter Try.func4, Try.ntmps4
    go_wp2_with (first
      | (go_at_call 8; (refine (wakes_any _).mono ?_); rintro e w1 ⟨rfl, hf1⟩)
      | (go_at_call 13; (refine (HG.out _).mono ?_); rintro e w2 ⟨rfl, hf2⟩)
      | (go_at_call 14; (refine (HT.out _).mono ?_); rintro e w3 ⟨rfl, hf3⟩; obtain ⟨k0, k1, k2, k3, k4, k5⟩ := six ((HZ.out w2).fresh hf3); simp only [zero] at k0 k1 k2 k3 k4 k5))
    go_ret
    exact ⟨rfl, ((hf1.trans hf2).trans (Fresh.alloc _ _)).trans hf3⟩
  by_cases h1 : 4294967295 < n
  · clear r hn hne
    go_enter Try.func4, Try.ntmps4
    go_wp2_with (first
      | (go_at_call 8; (refine (wakes_any _).mono ?_); rintro e w1 ⟨rfl, hf1⟩)
      | (go_at_call 13; (refine (HG.out _).mono ?_); rintro e w2 ⟨rfl, hf2⟩)
      | (go_at_call 14; (refine (HT.out _).mono ?_); rintro e w3 ⟨rfl, hf3⟩; obtain ⟨k0, k1, k2, k3, k4, k5⟩ := six ((HZ.out w2).fresh hf3); simp only [zero] at k0 k1 k2 k3 k4 k5))
    go_ret
    exact ⟨rfl, ((hf1.trans hf2).trans (Fresh.alloc _ _)).trans hf3⟩
  have hp := parts_any n (by omega) (by omega)
  have hnn := fun A c B W hh hB => number_any A c (parts n) B W hh hB
  rw [hne] at hnn
  have HP := Lib.hid hp
  have NN := Lib.hid hnn
  have tn : ((-1 : Int) != n) = true := by rw [bne_iff_ne]; omega
  have t0 : decide (n < 0) = false := by rw [decide_eq_false_iff_not]; omega
  have t1 : decide (4294967295 < n) = false := by rw [decide_eq_false_iff_not]; omega
  clear r hn hne hp hnn h0 h1
  go_enter Try.func4, Try.ntmps4
  go_wp2_with (first
    | (go_at_call 8; (refine (wakes_any _).mono ?_); rintro e w1 ⟨rfl, hf1⟩)
    | (go_at_call 13; (refine (HG.out _).mono ?_); rintro e w2 ⟨rfl, hf2⟩)
    | (go_at_call 14; (refine (HT.out _).mono ?_); rintro e w3 ⟨rfl, hf3⟩)
    | (go_at_call 15; (refine (HP.out _).mono ?_); rintro e w4 ⟨g4, rfl, hm4, hf4, hg4⟩)
    | (go_at_call 10; (refine (NN.out _ _ (g4 + 1) _ (rd_mom hm4) hm4.inside).mono ?_); rintro e w5 ⟨rfl, hf5⟩; obtain ⟨k0, k1, k2, k3, k4, k5⟩ := six ((((HZ.out w2).fresh hf3).fresh hf4).fresh hf5); simp only [zero] at k0 k1 k2 k3 k4 k5))
  go_ret
  exact ⟨rfl, ((((hf1.trans hf2).trans (Fresh.alloc _ _)).trans hf3).trans hf4).trans hf5⟩
theorem twelve {w : World} {g2 g4 : Nat} {m : Mo} (h : Bk w g2 TM (momL m)) (k : MomI w g4 m) : w.cell? ⟨g2, 0, none⟩ = some (.int .i64 m.y) ∧ w.cell? ⟨g2, 1, none⟩ = some (.int .i64 m.mo) ∧ w.cell? ⟨g2, 2, none⟩ = some (.int .i64 m.d) ∧ w.cell? ⟨g2, 3, none⟩ = some (.int .i64 m.h) ∧ w.cell? ⟨g2, 4, none⟩ = some (.int .i64 m.mi) ∧ w.cell? ⟨g2, 5, none⟩ = some (.int .i64 m.s) ∧ w.cell? ⟨g4, 0, none⟩ = some (.int .i64 m.y) ∧ w.cell? ⟨g4, 1, none⟩ = some (.int .i64 m.mo) ∧ w.cell? ⟨g4, 2, none⟩ = some (.int .i64 m.d) ∧ w.cell? ⟨g4, 3, none⟩ = some (.int .i64 m.h) ∧ w.cell? ⟨g4, 4, none⟩ = some (.int .i64 m.mi) ∧ w.cell? ⟨g4, 5, none⟩ = some (.int .i64 m.s) :=
  ⟨h.cell rfl, h.cell rfl, h.cell rfl, h.cell rfl, h.cell rfl, h.cell rfl, k.cell rfl, k.cell rfl, k.cell rfl, k.cell rfl, k.cell rfl, k.cell rfl⟩
set_option maxHeartbeats 16000000 in
theorem walk_ok (n : Int) (hn : -9223372036854775808 ≤ n ∧ n ≤ 9223372036854775807) (r : Right (parts n)) (w : World) : Calls Try.prog 4 #[.int .i64 n] w fun e w' => e = .returned (.bool true) ∧ Fresh w w' := by
  have hg := get_any n hn
  have ht := text_any n hn
  simp only [if_pos r] at hg ht
  have hbd := parts_bd r
  have hp := parts_any n hbd.1 hbd.2
  have hrt := refText_any n hbd.1 hbd.2 r
  have hps := parse_any ⟨(textP n).toArray⟩ (textP n) rfl (by rw [textP_len]; unfold lenP maxLen; split <;> omega)
  rw [parse_text r] at hps
  have hnn := fun A c B W hh hB => number_any A c (parts n) B W hh hB
  have hne : numI (parts n) = n := by rw [numI, if_pos r, no_parts]
  rw [hne] at hnn
  obtain ⟨m, hm⟩ : ∃ m, parts n = m := ⟨_, rfl⟩
  obtain ⟨X, hX⟩ : ∃ X, (⟨(textP n).toArray⟩ : ByteArray) = X := ⟨_, rfl⟩
  rw [hm] at hg hp hnn
  rw [hX] at ht hrt hps
  have heq := fun V => eq_mom m m V
  have hgd := fun V x y => guard_mom .eql x y m m V
  rw [same_iff.2 rfl] at heq
  have hz : ∀ V, Bk (World.alloc V (.cells #[.int .i64 m.y, .int .i64 m.mo, .int .i64 m.d, .int .i64 m.h, .int .i64 m.mi, .int .i64 m.s] TM)) V.heap.size TM (momL m) := fun V => Bk.made V TM (momL m).toArray
  have HZ := Lib.hid hz
  have HG := Lib.hid hg
  have HT := Lib.hid ht
  have HP := Lib.hid hp
  have NN := Lib.hid hnn
  have HRT := Lib.hid hrt
  have HPS := Lib.hid hps
  have t0 : decide (n < 0) = false := by rw [decide_eq_false_iff_not]; omega
  have t1 : decide (4294967295 < n) = false := by rw [decide_eq_false_iff_not]; omega
  clear hg ht hp hnn hrt hps hz hm hX hbd hne r hn
  go_enter Try.func4, Try.ntmps4
  go_upto_region 9 with (first
    | (go_at_call 8; (refine (wakes_any _).mono ?_); rintro e w1 ⟨rfl, hf1⟩)
    | (go_at_call 13; (refine (HG.out _).mono ?_); rintro e w2 ⟨rfl, hf2⟩)
    | (go_at_call 14; (refine (HT.out _).mono ?_); rintro e w3 ⟨rfl, hf3⟩)
    | (go_at_call 10; (refine (NN.out _ _ (g4 + 1) _ (rd_mom hm4) hm4.inside).mono ?_); rintro e w5 ⟨rfl, hf5⟩; have HF5 := Lib.hid (((((hf1.trans hf2).trans (Fresh.alloc _ _)).trans hf3).trans hf4).trans hf5); have HM5 := Lib.hid ((((HZ.out w2).fresh hf3).fresh hf4).fresh hf5); clear hf1 hf2 hf3 hf4 hf5 hm4 hg4)
    | (go_at_call 15; (refine (HP.out _).mono ?_); rintro e w4 ⟨g4, rfl, hm4, hf4, hg4⟩)
    | (go_at_call 16; (refine (HPS.out _).mono ?_); rintro e w6 ⟨rfl, hf6⟩; have HF6 := Lib.hid (HF5.out.trans hf6); have HM6 := Lib.hid (HM5.out.fresh hf6); clear hf6))
  have hm2 := (HM6.out.fresh hf4).fresh (Fresh.drew w4)
  have hm9 := hm4.fresh (Fresh.drew w4)
  have HF9 := Lib.hid ((HF6.out.trans hf4).trans (Fresh.drew w4))
  obtain ⟨g2, hg2⟩ : ∃ g2, w2.heap.size = g2 := ⟨_, rfl⟩
  rw [hg2] at hm2
  have hk1 := twelve hm2 hm9
  have HM2 := Lib.hid hm2
  have HM9 := Lib.hid hm9
  clear hm2 hm9 hm4 hf4 hg4 HM5 HM6 HF5 HF6
  go_region_held3 (fun w' => w'.cell? ⟨g2, 0, none⟩ = some (.int .i64 m.y) ∧ w'.cell? ⟨g2, 1, none⟩ = some (.int .i64 m.mo) ∧ w'.cell? ⟨g2, 2, none⟩ = some (.int .i64 m.d) ∧ w'.cell? ⟨g2, 3, none⟩ = some (.int .i64 m.h) ∧ w'.cell? ⟨g2, 4, none⟩ = some (.int .i64 m.mi) ∧ w'.cell? ⟨g2, 5, none⟩ = some (.int .i64 m.s) ∧ w'.cell? ⟨g4, 0, none⟩ = some (.int .i64 m.y) ∧ w'.cell? ⟨g4, 1, none⟩ = some (.int .i64 m.mo) ∧ w'.cell? ⟨g4, 2, none⟩ = some (.int .i64 m.d) ∧ w'.cell? ⟨g4, 3, none⟩ = some (.int .i64 m.h) ∧ w'.cell? ⟨g4, 4, none⟩ = some (.int .i64 m.mi) ∧ w'.cell? ⟨g4, 5, none⟩ = some (.int .i64 m.s))
    (first | exact hk1 | exact HK2.out)
    (first | (go_at_call 17; (refine (HRT.out _).mono ?_); rintro e w7 ⟨rfl, hf7⟩; have HK2 := Lib.hid (twelve (HM2.out.fresh hf7) (HM9.out.fresh hf7)); have HF7 := Lib.hid (HF9.out.trans hf7); clear hf7))
  go_wp2
  go_ret
  exact ⟨by simp, HF7.out⟩
theorem dosGets_walk (a0 : Int) (w : World) (w0 : (Lit.int .i64 a0).wf = true) :
    Calls Try.prog 4 #[.int .i64 a0] w fun e w' => e = .returned (.bool true) ∧ Below w.heap.size w w' := by
  have hn : -9223372036854775808 ≤ a0 ∧ a0 ≤ 9223372036854775807 := by simpa [Lit.wf, IntKind.min, IntKind.max, IntKind.signed, IntKind.bits] using w0
  by_cases ra : Right (parts a0)
  · exact walk_ok a0 hn ra w
  · exact walk_bad a0 hn ra w
end Go.Proofs.Ytgmpdkkpmgedjaa.dosGets
