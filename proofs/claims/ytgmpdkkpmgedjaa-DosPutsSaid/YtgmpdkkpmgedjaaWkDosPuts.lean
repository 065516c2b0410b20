/-
  The walk of the law DosPuts. My own text.
-/
import Derived.Test.YtgmpdkkpmgedjaaDosLaw
import Derived.Test.YtgmpdkkpmgedjaaDosRef3
import Derived.Test.YtgmpdkkpmgedjaaOpenSix
namespace Go.Proofs.Ytgmpdkkpmgedjaa.dosPuts
open Go.RowKit Go.Proofs.Ytgmpdkkpmgedjaa.base Go.Proofs.Ytgmpdkkpmgedjaa.num Go.Proofs.Ytgmpdkkpmgedjaa.bitnum Go.Proofs.Ytgmpdkkpmgedjaa.dosnum Go.Proofs.Ytgmpdkkpmgedjaa.dosp
set_option linter.unusedVariables false
set_option maxHeartbeats 4000000 in
/-- the law's own list -/
theorem list_any (m : Mo) (w : World) : Calls Try.prog 11 #[momV m] w fun e w' => ∃ g, e = .returned (.slice (some ⟨g, 0, none⟩) 6 6) ∧ MomI w' g m ∧ Fresh w w' ∧ w.heap.size ≤ g := by
  have hm := Bk.made (w.alloc (.cells (momL m).toArray 25)) 3 (momL m).toArray
  have hsz : (w.alloc (.cells (momL m).toArray 25)).heap.size = w.heap.size + 1 := by simp
  rw [hsz] at hm
  have HM := Lib.hid hm
  clear hm hsz
  go_enter Try.func11, Try.ntmps11
  go_wp2
  go_ret
  exact ⟨_, rfl, HM.out, (Fresh.alloc _ _).trans (Fresh.alloc _ _), by omega⟩
theorem momI_rd {w : World} {g : Nat} {m : Mo} (h : MomI w g m) : Rd w (g + 1) (some ⟨g, 0, none⟩) 6 (momL m) := ⟨rfl, fun _ => ⟨g, 0, rfl, by omega, fun j u hu => by rw [Nat.zero_add]; exact h.cell hu⟩⟩
set_option maxHeartbeats 8000000 in
theorem walk_ok (m : Mo) (r : Right m) (w : World) : Calls Try.prog 3 #[momV m] w fun e w' => e = .returned (.bool true) ∧ Fresh w w' := by
  have ha := Bk.made w 22 (momL m).toArray
  have HA := Lib.hid ha
  have HF := Lib.hid (Fresh.alloc w (.cells (momL m).toArray 22))
  clear ha
  have HR := Lib.hid r
  have hbd := no_bd r
  have hnum : numI m = no m := by rw [numI, if_pos r]
  have hg := get_any (no m) ⟨by omega, by omega⟩
  rw [parts_no r, if_pos r.even] at hg
  have pm := put_ok m r
  have hre := decide_eq_true r.even
  have re := right_any (dosnum.even m)
  rw [hre] at re
  have hnn := fun A c B W hh hB => number_any A c m B W hh hB
  rw [hnum] at hnn
  have hev : dosnum.even m = ⟨m.y, m.mo, m.d, m.h, m.mi, m.s / 2 * 2⟩ := rfl
  rw [hev] at hg re
  try simp only at hg re
  have heq := fun V => eq_mom ⟨m.y, m.mo, m.d, m.h, m.mi, m.s / 2 * 2⟩ ⟨m.y, m.mo, m.d, m.h, m.mi, m.s / 2 * 2⟩ V
  have hgd := fun V x y => guard_mom .eql x y ⟨m.y, m.mo, m.d, m.h, m.mi, m.s / 2 * 2⟩ ⟨m.y, m.mo, m.d, m.h, m.mi, m.s / 2 * 2⟩ V
  rw [show same ⟨m.y, m.mo, m.d, m.h, m.mi, m.s / 2 * 2⟩ ⟨m.y, m.mo, m.d, m.h, m.mi, m.s / 2 * 2⟩ = true from same_iff.2 rfl] at heq
  try simp only at heq hgd
  have HG := Lib.hid hg
  have PM := Lib.hid pm
  have RE := Lib.hid re
  have NN := Lib.hid hnn
  have s1 := r.s1
  have s2 := r.s2
  have es1 : m.s - m.s % 2 = m.s / 2 * 2 := by omega
  obtain ⟨X, hX⟩ : ∃ X, no m = X := ⟨_, rfl⟩
  rw [hX] at hbd
  have hb0 := hbd.1
  rw [hX] at HG PM NN
  clear hg pm re hnn hre hnum r hbd hX hev
  go_enter Try.func3, Try.ntmps3
  go_wp2_with (first
    | (go_at_call 8; (refine (wakes_any _).mono ?_); rintro e w1 ⟨rfl, hf1⟩; have HA1 := Lib.hid (HA.out.fresh hf1); have HF1 := Lib.hid (HF.out.trans hf1); obtain ⟨k0, k1, k2, k3, k4, k5⟩ : Six w1 w.heap.size m := ⟨HA1.out.cell rfl, HA1.out.cell rfl, HA1.out.cell rfl, HA1.out.cell rfl, HA1.out.cell rfl, HA1.out.cell rfl⟩; clear hf1)
    | (go_at_call 9; (with_reducible refine (PM.out _).mono ?_); rintro e w2 ⟨rfl, hf2⟩; have HM2 := Lib.hid ((Bk.made w1 25 (momL m).toArray).fresh hf2); have HF2 := Lib.hid ((HF1.out.trans (Fresh.alloc w1 (.cells (momL m).toArray 25))).trans hf2); clear k0 k1 k2 k3 k4 k5 hf2; obtain ⟨k0, k1, k2, k3, k4, k5⟩ := six HM2.out)
    | (go_at_call 11; (refine (list_any m _).mono ?_); rintro e w3 ⟨g3, rfl, hm3, hf3, hg3⟩; have HI3 := Lib.hid hm3; have HM3 := Lib.hid (HM2.out.fresh hf3); have HF3 := Lib.hid (HF2.out.trans hf3); clear k0 k1 k2 k3 k4 k5 hf3 hm3 hg3)
    | (go_at_call 10; (refine (NN.out _ _ (g3 + 1) _ (momI_rd HI3.out) HI3.out.inside).mono ?_); rintro e w4 ⟨rfl, hf4⟩; have HM4 := Lib.hid (HM3.out.fresh hf4); have HF4 := Lib.hid (HF3.out.trans hf4); clear hf4)
    | (go_at_call 13; (with_reducible refine (HG.out _).mono ?_); rintro e w5 ⟨rfl, hf5⟩; have hm5 := (HM4.out.fresh hf5).alloc (.cells #[.int .i64 m.y, .int .i64 m.mo, .int .i64 m.d, .int .i64 m.h, .int .i64 m.mi, .int .i64 (m.s / 2 * 2)] 25); have he5 := Bk.made w5 25 #[.int .i64 m.y, .int .i64 m.mo, .int .i64 m.d, .int .i64 m.h, .int .i64 m.mi, .int .i64 (m.s / 2 * 2)]; have hne : w1.heap.size ≠ w5.heap.size := (by have := (HM4.out.fresh hf5).inside; omega); have hf6 := hm5.free 5; obtain ⟨k0, k1, k2, k3, k4, k5⟩ := six hm5; have HM6 := Lib.hid (hm5.put 5 (.int .i64 (m.s / 2 * 2))); have HE6 := Lib.hid (he5.apart (p := ⟨w1.heap.size, 5, none⟩) (fun h => hne h.symm) (.int .i64 (m.s / 2 * 2))); have HF6 := Lib.hid (((HF4.out.trans hf5).trans (Fresh.alloc w5 (.cells #[.int .i64 m.y, .int .i64 m.mo, .int .i64 m.d, .int .i64 m.h, .int .i64 m.mi, .int .i64 (m.s / 2 * 2)] 25))).but (by have := HF1.out.size; omega) (But.put (g := w1.heap.size) (i := 5) _ (.int .i64 (m.s / 2 * 2)))); obtain ⟨j0, j1, j2, j3, j4, j5⟩ : Six _ w1.heap.size ⟨m.y, m.mo, m.d, m.h, m.mi, m.s / 2 * 2⟩ := ⟨HM6.out.cell rfl, HM6.out.cell rfl, HM6.out.cell rfl, HM6.out.cell rfl, HM6.out.cell rfl, HM6.out.cell rfl⟩; simp only at j0 j1 j2 j3 j4 j5; clear hm5 he5 hne hf5)
    | (go_at_call 12; (refine (RE.out _).mono ?_); rintro e w7 ⟨rfl, hf7⟩; clear k0 k1 k2 k3 k4 k5 j0 j1 j2 j3 j4 j5 hf6; have HM7 := Lib.hid (HM6.out.fresh hf7); have HE7 := Lib.hid (HE6.out.fresh hf7); have HF7 := Lib.hid (HF6.out.trans hf7); obtain ⟨k0, k1, k2, k3, k4, k5⟩ : Six w7 w1.heap.size ⟨m.y, m.mo, m.d, m.h, m.mi, m.s / 2 * 2⟩ := ⟨HM7.out.cell rfl, HM7.out.cell rfl, HM7.out.cell rfl, HM7.out.cell rfl, HM7.out.cell rfl, HM7.out.cell rfl⟩; obtain ⟨j0, j1, j2, j3, j4, j5⟩ : Six w7 w5.heap.size ⟨m.y, m.mo, m.d, m.h, m.mi, m.s / 2 * 2⟩ := ⟨HE7.out.cell rfl, HE7.out.cell rfl, HE7.out.cell rfl, HE7.out.cell rfl, HE7.out.cell rfl, HE7.out.cell rfl⟩; simp only at k0 k1 k2 k3 k4 k5 j0 j1 j2 j3 j4 j5; clear hf7))
  go_ret
  exact ⟨rfl, HF7.out⟩
set_option maxHeartbeats 8000000 in
theorem walk_bad (m : Mo) (r : ¬ Right m) (w : World) : Calls Try.prog 3 #[momV m] w fun e w' => e = .returned (.bool true) ∧ Fresh w w' := by
  have ha := Bk.made w 22 (momL m).toArray
  have HA := Lib.hid ha
  have HF := Lib.hid (Fresh.alloc w (.cells (momL m).toArray 22))
  clear ha
  have hnum : numI m = -1 := by rw [numI, if_neg r]
  have pm := put_bad m r
  have re := right_any m
  rw [decide_eq_false r] at re
  have hnn := fun A c B W hh hB => number_any A c m B W hh hB
  rw [hnum] at hnn
  have PM := Lib.hid pm
  have RE := Lib.hid re
  have NN := Lib.hid hnn
  clear pm re hnn hnum r
  go_enter Try.func3, Try.ntmps3
  go_wp2_with (first
    | (go_at_call 8; (refine (wakes_any _).mono ?_); rintro e w1 ⟨rfl, hf1⟩; have HA1 := Lib.hid (HA.out.fresh hf1); have HF1 := Lib.hid (HF.out.trans hf1); obtain ⟨k0, k1, k2, k3, k4, k5⟩ : Six w1 w.heap.size m := ⟨HA1.out.cell rfl, HA1.out.cell rfl, HA1.out.cell rfl, HA1.out.cell rfl, HA1.out.cell rfl, HA1.out.cell rfl⟩; clear hf1)
    | (go_at_call 9; (with_reducible refine (PM.out _).mono ?_); rintro e w2 ⟨rfl, hf2⟩; have HM2 := Lib.hid ((Bk.made w1 25 (momL m).toArray).fresh hf2); have HF2 := Lib.hid ((HF1.out.trans (Fresh.alloc w1 (.cells (momL m).toArray 25))).trans hf2); clear k0 k1 k2 k3 k4 k5 hf2; obtain ⟨k0, k1, k2, k3, k4, k5⟩ := six HM2.out)
    | (go_at_call 11; (refine (list_any m _).mono ?_); rintro e w3 ⟨g3, rfl, hm3, hf3, hg3⟩; have HI3 := Lib.hid hm3; have HM3 := Lib.hid (HM2.out.fresh hf3); have HF3 := Lib.hid (HF2.out.trans hf3); clear k0 k1 k2 k3 k4 k5 hf3 hm3 hg3)
    | (go_at_call 10; (refine (NN.out _ _ (g3 + 1) _ (momI_rd HI3.out) HI3.out.inside).mono ?_); rintro e w4 ⟨rfl, hf4⟩; have HM4 := Lib.hid (HM3.out.fresh hf4); have HF4 := Lib.hid (HF3.out.trans hf4); obtain ⟨k0, k1, k2, k3, k4, k5⟩ := six HM4.out; clear hf4)
    | (go_at_call 12; (refine (RE.out _).mono ?_); rintro e w7 ⟨rfl, hf7⟩; have HF7 := Lib.hid (HF4.out.trans hf7); clear hf7))
  go_ret
  exact ⟨rfl, HF7.out⟩
theorem dosPuts_walk (a0 : Mo) (w : World) (w0 : Six64 a0) :
    Calls Try.prog 3 #[.agg #[.int .i64 a0.y, .int .i64 a0.mo, .int .i64 a0.d, .int .i64 a0.h, .int .i64 a0.mi, .int .i64 a0.s]] w fun e w' => e = .returned (.bool true) ∧ Below w.heap.size w w' := by
  by_cases ra : Right a0
  · exact walk_ok a0 ra w
  · exact walk_bad a0 ra w
end Go.Proofs.Ytgmpdkkpmgedjaa.dosPuts
