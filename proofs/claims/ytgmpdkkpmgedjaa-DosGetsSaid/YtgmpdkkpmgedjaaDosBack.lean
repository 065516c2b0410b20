/-
  A moment's text is read as it: plain mathematics; the reference's Text. My own text.
-/
import Derived.Test.YtgmpdkkpmgedjaaDosLex
import Derived.Test.YtgmpdkkpmgedjaaDosRef5
namespace Go.Proofs.Ytgmpdkkpmgedjaa.dosnum
set_option linter.unusedVariables false
theorem digit_dgt (z : Int) : digit (dgt z) = true := by
  simp only [digit, UInt8.le_iff_toNat_le, dgt_nat, Bool.and_eq_true, decide_eq_true_eq]
  have : (48 : UInt8).toNat = 48 := rfl
  have : (57 : UInt8).toNat = 57 := rfl
  omega
theorem acc_two {z : Int} (h : 0 ≤ z ∧ z ≤ 99) : acc [dgt (z / 10), dgt z] = z := by
  simp only [acc, List.foldl_cons, List.foldl_nil, dgt_nat]
  omega
theorem acc_four {z : Int} (h : 0 ≤ z ∧ z ≤ 9999) : acc [dgt (z / 1000), dgt (z / 100), dgt (z / 10), dgt z] = z := by
  simp only [acc, List.foldl_cons, List.foldl_nil, dgt_nat]
  omega
theorem dgt_congr {a b : Int} (h : a % 10 = b % 10) : dgt a = dgt b := by unfold dgt; rw [h]
theorem fit48 (z : Int) : fits 48 (dgt z) = true := by
  have := digit_dgt z
  simpa [fits, digit] using this
theorem read_long {m : Mo} (r : Right m) : readM (long m) = m := by
  obtain ⟨y1, y2, mo1, mo2, d1, d2, h1, h2, mi1, mi2, s1, s2⟩ := r
  have hd := days_bd m.y m.mo
  rw [long_is, readM, if_pos]
  · show (⟨acc [dgt (m.y / 1000), dgt (m.y / 100), dgt (m.y / 10), dgt m.y], acc [dgt (m.mo / 10), dgt m.mo], acc [dgt (m.d / 10), dgt m.d], acc [dgt (m.h / 10), dgt m.h], acc [dgt (m.mi / 10), dgt m.mi], acc [dgt (m.s / 10), dgt m.s]⟩ : Mo) = m
    rw [acc_four ⟨by omega, by omega⟩, acc_two ⟨by omega, by omega⟩, acc_two ⟨by omega, by omega⟩, acc_two ⟨by omega, by omega⟩, acc_two ⟨by omega, by omega⟩, acc_two ⟨by omega, by omega⟩]
  · simp only [fitsB, shp, fit48, Bool.and_true, Bool.true_and]
    rfl
theorem read_short {m : Mo} (r : Right m) (h0 : m.h = 0) (h1 : m.mi = 0) (h2 : m.s = 0) : readM ((long m).take 10) = m := by
  obtain ⟨y1, y2, mo1, mo2, d1, d2, _, _, _, _, _, _⟩ := r
  have hd := days_bd m.y m.mo
  rw [long_is]
  simp only [List.take_succ_cons, List.take_zero]
  rw [readM, if_pos]
  · show (⟨acc [dgt (m.y / 1000), dgt (m.y / 100), dgt (m.y / 10), dgt m.y], acc [dgt (m.mo / 10), dgt m.mo], acc [dgt (m.d / 10), dgt m.d], 0, 0, 0⟩ : Mo) = m
    rw [acc_four ⟨by omega, by omega⟩, acc_two ⟨by omega, by omega⟩, acc_two ⟨by omega, by omega⟩]
    obtain ⟨y, mo, d, h, mi, s⟩ := m
    simp only at h0 h1 h2
    rw [h0, h1, h2]
  · simp only [fitsB, shp, fit48, Bool.and_true, Bool.true_and]
    rfl
end Go.Proofs.Ytgmpdkkpmgedjaa.dosnum
namespace Go.Proofs.Ytgmpdkkpmgedjaa.dosp
open Go.RowKit Go.Proofs.Ytgmpdkkpmgedjaa.base Go.Proofs.Ytgmpdkkpmgedjaa.num Go.Proofs.Ytgmpdkkpmgedjaa.bitnum Go.Proofs.Ytgmpdkkpmgedjaa.dosnum
set_option linter.unusedVariables false
theorem parse_text {n : Int} (r : Right (parts n)) : parseP (textP n) = some n := by
  have hr : readM (textP n) = parts n := by
    unfold textP
    split
    · exact read_short r (by simp only [parts]; omega) (by simp only [parts]; omega) (by simp only [parts]; omega)
    · exact read_long r
  have hl : (textP n).length = 10 ∨ (textP n).length = 19 := by rw [textP_len]; unfold lenP; split <;> omega
  rw [parseP, hr, if_pos ⟨hl, r⟩, no_parts]
theorem two_is (n : Int) (h0 : 0 ≤ n) (h1 : n ≤ 99) (w : World) : Calls Try.prog 24 #[.int .i64 n] w fun e w' => e = .returned (.string ⟨#[dgt (n / 10), dgt n]⟩) ∧ ∃ q, w' = w.drewN q := by
  have h := two_any n h0 h1 w
  have e1 : dg (n / 10) = dgt (n / 10) := by unfold dg dgt; rw [Int.emod_eq_of_lt (by omega) (by omega)]
  have e2 : dg (n % 10) = dgt n := rfl
  rwa [e1, e2] at h
set_option maxHeartbeats 8000000 in
theorem refText_any (n : Int) (h0 : 0 ≤ n) (h1 : n ≤ 4294967295) (r : Right (parts n)) (w : World) : Calls Try.prog 17 #[.int .i64 n] w fun e w' => e = .returned (.string ⟨(textP n).toArray⟩) ∧ Fresh w w' := by
  have hp := parts_any n h0 h1
  obtain ⟨m, hm⟩ : ∃ m, parts n = m := ⟨_, rfl⟩
  rw [hm] at hp r
  have ht : textP n = if n % 65536 = 0 then (long m).take 10 else long m := by rw [textP, hm]
  rw [long_is] at ht
  obtain ⟨L, hL⟩ : ∃ L, textP n = L := ⟨_, rfl⟩
  rw [hL] at ht ⊢
  have HT := Lib.hid ht
  have g1 : dgt (m.y / 100 / 10) = dgt (m.y / 1000) := dgt_congr (by omega)
  have g2 : dgt (m.y % 100 / 10) = dgt (m.y / 10) := dgt_congr (by omega)
  have g3 : dgt (m.y % 100) = dgt m.y := dgt_congr (by omega)
  obtain ⟨y1, y2, mo1, mo2, d1, d2, hh1, hh2, mi1, mi2, s1, s2⟩ := r
  have hd := days_bd m.y m.mo
  have d3 : m.d ≤ 31 := by omega
  clear d2 hd ht hm hL
  have HP := Lib.hid hp
  clear hp
  have e1 : m.y.tdiv 100 = m.y / 100 := Int.tdiv_eq_ediv_of_nonneg (by omega)
  have e2 : m.y.tmod 100 = m.y % 100 := Int.tmod_eq_emod_of_nonneg (by omega)
  have e3 : IntKind.i64.wrap (m.y / 100) = m.y / 100 := IntWalk.i64_in _ (by omega)
  have e4 : n.tmod 65536 = n % 65536 := Int.tmod_eq_emod_of_nonneg h0
  have t0 := fun W => two_is (m.y / 100) (by omega) (by omega) W
  have t1 := fun W => two_is (m.y % 100) (by omega) (by omega) W
  have t2 := fun W => two_is m.mo (by omega) (by omega) W
  have t3 := fun W => two_is m.d (by omega) (by omega) W
  have t4 := fun W => two_is m.h (by omega) (by omega) W
  have t5 := fun W => two_is m.mi (by omega) (by omega) W
  have t6 := fun W => two_is m.s (by omega) (by omega) W
  have T0 := Lib.hid t0
  have T1 := Lib.hid t1
  have T2 := Lib.hid t2
  have T3 := Lib.hid t3
  have T4 := Lib.hid t4
  have T5 := Lib.hid t5
  have T6 := Lib.hid t6
  clear t0 t1 t2 t3 t4 t5 t6
  go_enter Try.func17, Try.ntmps17
  go_wp2_with (go_at_call 15; (refine (HP.out _).mono ?_); rintro e w1 ⟨g, rfl, hm1, hf1, hg1⟩; have HM1 := Lib.hid hm1; have HF1 := Lib.hid hf1; have k0 : w1.cell? ⟨g, 0, none⟩ = some (.int .i64 m.y) := hm1.cell rfl; have k1 : w1.cell? ⟨g, 1, none⟩ = some (.int .i64 m.mo) := hm1.cell rfl; have k2 : w1.cell? ⟨g, 2, none⟩ = some (.int .i64 m.d) := hm1.cell rfl; have k3 : w1.cell? ⟨g, 3, none⟩ = some (.int .i64 m.h) := hm1.cell rfl; have k4 : w1.cell? ⟨g, 4, none⟩ = some (.int .i64 m.mi) := hm1.cell rfl; have k5 : w1.cell? ⟨g, 5, none⟩ = some (.int .i64 m.s) := hm1.cell rfl; clear hm1 hf1 hg1)
  go_quiet (first | (with_reducible exact Calls.quiet_of (T0.out _)) | (with_reducible exact Calls.quiet_of (T1.out _)) | (with_reducible exact Calls.quiet_of (T2.out _)) | (with_reducible exact Calls.quiet_of (T3.out _)))
  by_cases hz : n % 65536 = 0
  · have hT := HT.out
    rw [if_pos hz] at hT
    have HT2 := Lib.hid hT
    clear hT
    go_wp2
    go_ret
    refine ⟨?_, HF1.out.trans (Fresh.drewN _ _)⟩
    rw [HT2.out]
    refine congrArg (fun s => Ending.returned (.string s)) ?_
    apply ByteArray.ext
    simp
  · have hT := HT.out
    rw [if_neg hz] at hT
    have HT2 := Lib.hid hT
    have tz : (n % 65536 == 0) = false := by rw [beq_eq_false_iff_ne]; exact hz
    clear hT
    go_wp2
    have k3' : (w1.drewN nq).cell? ⟨g, 3, none⟩ = some (.int .i64 m.h) := k3
    have k4' : (w1.drewN nq).cell? ⟨g, 4, none⟩ = some (.int .i64 m.mi) := k4
    have k5' : (w1.drewN nq).cell? ⟨g, 5, none⟩ = some (.int .i64 m.s) := k5
    have HF2 := Lib.hid (HF1.out.trans (Fresh.drewN w1 nq))
    clear k0 k1 k2 k3 k4 k5
    generalize w1.drewN nq = W2 at *
    go_quiet (first | (with_reducible exact Calls.quiet_of (T4.out _)) | (with_reducible exact Calls.quiet_of (T5.out _)) | (with_reducible exact Calls.quiet_of (T6.out _)))
    go_wp2
    go_ret
    refine ⟨?_, HF2.out.trans (Fresh.drewN _ _)⟩
    rw [HT2.out]
    refine congrArg (fun s => Ending.returned (.string s)) ?_
    apply ByteArray.ext
    simp
end Go.Proofs.Ytgmpdkkpmgedjaa.dosp
