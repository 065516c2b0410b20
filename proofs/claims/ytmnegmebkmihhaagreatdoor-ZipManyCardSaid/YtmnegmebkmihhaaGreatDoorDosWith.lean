import Derived.Test.YtmnegmebkmihhaaGreatDoorDosLeaf
import Derived.Test.YtmnegmebkmihhaaGreatDoorMgNam
/-
  The contract of within: a moment drawn to the nearest one that may be. My own text.
-/
namespace Go.Proofs.YtmnegmebkmihhaaGreatDoor.dosp
open Go.RowKit Go.Proofs.YtmnegmebkmihhaaGreatDoor.base Go.Proofs.YtmnegmebkmihhaaGreatDoor.num Go.Proofs.YtmnegmebkmihhaaGreatDoor.bitnum Go.Proofs.YtmnegmebkmihhaaGreatDoor.dosnum
set_option linter.unusedVariables false

set_option maxRecDepth 100000 in
set_option maxHeartbeats 2000000 in
theorem within_any (m : Mo) (w : World) : Calls Tryz.prog 112 #[momV m] w fun e w' => e = .returned (momV (within m)) ∧ Fresh w w' := by
  have hd : ∀ n lo hi W, Calls Tryz.prog 160 #[.int .i64 n, .int .i64 lo, .int .i64 hi] W fun e w' => e = .returned (.int .i64 (draw n lo hi)) ∧ W = w' := fun n lo hi W => draw_any n lo hi W
  have HD := Lib.hid hd
  clear hd
  go_enter Tryz.func112, Tryz.ntmps112
  go_wp2
  have hb := Bk.made w 62 #[.int .i64 m.y, .int .i64 m.mo, .int .i64 m.d, .int .i64 m.h, .int .i64 m.mi, .int .i64 m.s]
  have hb2 := hb.alloc (.cells #[.int .i64 0, .int .i64 0, .int .i64 0, .int .i64 0, .int .i64 0, .int .i64 0] 62)
  have hf := (Fresh.alloc w (.cells #[.int .i64 m.y, .int .i64 m.mo, .int .i64 m.d, .int .i64 m.h, .int .i64 m.mi, .int .i64 m.s] 62)).trans (Fresh.alloc _ (.cells #[.int .i64 0, .int .i64 0, .int .i64 0, .int .i64 0, .int .i64 0, .int .i64 0] 62))
  have hz := Bk.made (w.alloc (.cells #[.int .i64 m.y, .int .i64 m.mo, .int .i64 m.d, .int .i64 m.h, .int .i64 m.mi, .int .i64 m.s] 62)) 62 #[.int .i64 0, .int .i64 0, .int .i64 0, .int .i64 0, .int .i64 0, .int .i64 0]
  have hsz1 : (w.alloc (.cells #[.int .i64 m.y, .int .i64 m.mo, .int .i64 m.d, .int .i64 m.h, .int .i64 m.mi, .int .i64 m.s] 62)).heap.size = w.heap.size + 1 := by simp
  rw [hsz1] at hz
  clear hsz1
  obtain ⟨g, hg⟩ : ∃ g, w.heap.size = g := ⟨_, rfl⟩
  have hsz : ((w.alloc (.cells #[.int .i64 m.y, .int .i64 m.mo, .int .i64 m.d, .int .i64 m.h, .int .i64 m.mi, .int .i64 m.s] 62)).alloc (.cells #[.int .i64 0, .int .i64 0, .int .i64 0, .int .i64 0, .int .i64 0, .int .i64 0] 62)).heap.size = g + 2 := by simp [hg]
  rw [hg] at hb2 hz
  generalize ((w.alloc (.cells #[.int .i64 m.y, .int .i64 m.mo, .int .i64 m.d, .int .i64 m.h, .int .i64 m.mi, .int .i64 m.s] 62)).alloc (.cells #[.int .i64 0, .int .i64 0, .int .i64 0, .int .i64 0, .int .i64 0, .int .i64 0] 62)) = W at *
  have hk1 := six (hb2.fresh (Fresh.drew W))
  have hk2 := fun c t => six ((hb2.alloc (.cells c t)).fresh (Fresh.drew _))
  clear hb
  go_region_held3 (fun w' => w'.cell? ⟨g, 0, none⟩ = some (.int .i64 m.y) ∧ w'.cell? ⟨g, 1, none⟩ = some (.int .i64 m.mo) ∧ w'.cell? ⟨g, 2, none⟩ = some (.int .i64 m.d) ∧ w'.cell? ⟨g, 3, none⟩ = some (.int .i64 m.h) ∧ w'.cell? ⟨g, 4, none⟩ = some (.int .i64 m.mi) ∧ w'.cell? ⟨g, 5, none⟩ = some (.int .i64 m.s))
    (first | exact hk1 | exact hk2 _ _)
    (first | (go_at_call 160; refine (HD.out _ _ _ _).mono ?_; rintro e w1 ⟨rfl, rfl⟩))
  all_goals
    have hb3 := (hb2.alloc (.cells #[.int .i64 (draw m.y 1980 2107), .int .i64 (draw m.mo 1 12), .int .i64 0, .int .i64 (draw m.h 0 23), .int .i64 (draw m.mi 0 59), .int .i64 (draw m.s 0 59)] 62)).fresh (Fresh.drew _)
    have hb4 := (Bk.made W 62 #[.int .i64 (draw m.y 1980 2107), .int .i64 (draw m.mo 1 12), .int .i64 0, .int .i64 (draw m.h 0 23), .int .i64 (draw m.mi 0 59), .int .i64 (draw m.s 0 59)]).fresh (Fresh.drew _)
    have hz4 := (hz.alloc (.cells #[.int .i64 (draw m.y 1980 2107), .int .i64 (draw m.mo 1 12), .int .i64 0, .int .i64 (draw m.h 0 23), .int .i64 (draw m.mi 0 59), .int .i64 (draw m.s 0 59)] 62)).fresh (Fresh.drew _)
    have hf4 := (hf.trans (Fresh.alloc W (.cells #[.int .i64 (draw m.y 1980 2107), .int .i64 (draw m.mo 1 12), .int .i64 0, .int .i64 (draw m.h 0 23), .int .i64 (draw m.mi 0 59), .int .i64 (draw m.s 0 59)] 62))).trans (Fresh.drew _)
    rw [hsz] at hb4
    clear hk1 hk2 hb2 hf hz
    generalize (W.alloc (.cells #[.int .i64 (draw m.y 1980 2107), .int .i64 (draw m.mo 1 12), .int .i64 0, .int .i64 (draw m.h 0 23), .int .i64 (draw m.mi 0 59), .int .i64 (draw m.s 0 59)] 62)).drew = V at *
    rename_i hjunk
    clear hjunk
    go_wp2
    have hb5 := hb3.fresh (Fresh.drew V)
    have hb6 := hb4.fresh (Fresh.drew V)
    have hb7 := hb6.put 2 (i64 (within m).d)
    have hb8 := hb5.apart (p := ⟨g + 2, 2, none⟩) (by simp) (i64 (within m).d)
    have hk5 : V.drew.cell? ⟨g, 2, none⟩ = some (.int .i64 m.d) ∧ V.drew.cell? ⟨g + 2, 0, none⟩ = some (.int .i64 (draw m.y 1980 2107)) ∧ V.drew.cell? ⟨g + 2, 1, none⟩ = some (.int .i64 (draw m.mo 1 12)) := ⟨hb5.cell rfl, hb6.cell rfl, hb6.cell rfl⟩
    have hk6 : (V.drew.setCell ⟨g + 2, 2, none⟩ (i64 (within m).d)).cell? ⟨g, 2, none⟩ = some (.int .i64 m.d) ∧ (V.drew.setCell ⟨g + 2, 2, none⟩ (i64 (within m).d)).cell? ⟨g + 2, 0, none⟩ = some (.int .i64 (draw m.y 1980 2107)) ∧ (V.drew.setCell ⟨g + 2, 2, none⟩ (i64 (within m).d)).cell? ⟨g + 2, 1, none⟩ = some (.int .i64 (draw m.mo 1 12)) := ⟨hb8.cell rfl, hb7.cell rfl, hb7.cell rfl⟩
    have HY1 := Lib.hid (draw_bd (n := m.y) (lo := 1980) (hi := 2107) (by omega)).1
    have HY2 := Lib.hid (draw_bd (n := m.y) (lo := 1980) (hi := 2107) (by omega)).2
    have hfz := hb6.free 2
    have hc52 : V.drew.cell? ⟨g + 2, 2, none⟩ = some (.int .i64 0) := hb6.cell rfl
    have HB7 := Lib.hid hb7
    have HZ := Lib.hid ((hz4.fresh (Fresh.drew V)).apart (p := ⟨g + 2, 2, none⟩) (by simp) (i64 (within m).d))
    have HF5 := Lib.hid ((hf4.trans (Fresh.drew V)).but (by omega) (But.put (g := g + 2) (i := 2) V.drew (i64 (within m).d)))
    clear hb3 hb4 hb5 hb6 hb7 hb8 hf4 hz4
    go_region_held3 (fun w' => w'.cell? ⟨g, 2, none⟩ = some (.int .i64 m.d) ∧ w'.cell? ⟨g + 2, 0, none⟩ = some (.int .i64 (draw m.y 1980 2107)) ∧ w'.cell? ⟨g + 2, 1, none⟩ = some (.int .i64 (draw m.mo 1 12)))
      (first | exact hk5 | exact hk6)
      (first
      | (go_at_call 161; (with_reducible refine (days_any _ _ HY1.out HY2.out _).mono ?_); rintro e w1 ⟨rfl, rfl⟩)
      | (go_at_call 160; (with_reducible refine (HD.out _ _ _ _).mono ?_); rintro e w1 ⟨rfl, rfl⟩))
    have hc : (V.setCell ⟨g + 2, 2, none⟩ (i64 (draw m.d 1 (days (draw m.y 1980 2107) (draw m.mo 1 12))))).drew = V.drew.setCell ⟨g + 2, 2, none⟩ (i64 (within m).d) := rfl
    have hb9 : MomAt (V.setCell ⟨g + 2, 2, none⟩ (i64 (draw m.d 1 (days (draw m.y 1980 2107) (draw m.mo 1 12))))).drew (g + 2) (within m) := by rw [hc]; exact HB7.out
    have hz9 := HZ.out
    have hf9 := HF5.out
    rw [← hc] at hz9 hf9
    have hsix := six hb9
    rename_i hj
    clear hj hk5 hk6 hfz hc52 hc
    generalize (V.setCell ⟨g + 2, 2, none⟩ (i64 (draw m.d 1 (days (draw m.y 1980 2107) (draw m.mo 1 12))))).drew = U at *
    obtain ⟨s0, s1, s2, s3, s4, s5⟩ := hsix
    simp only [within] at s0 s1 s2 s3 s4 s5
    have R0 := Lib.hid (hz9.row #[.int .i64 (within m).y, .int .i64 (within m).mo, .int .i64 (within m).d, .int .i64 (within m).h, .int .i64 (within m).mi, .int .i64 (within m).s])
    have HZ9 := Lib.hid hz9
    have HF9 := Lib.hid hf9
    have HG := Lib.hid hg
    clear hz9 hf9 hb9 hg hsz
    go_wp2_with ((with_reducible (refine at_store_ 2 29 ?_)); refine wpList_store_row (o := ⟨none, _, _, _, _, _⟩) rfl 62 (.tmp 2) (.tmp 29) rfl (g + 1) #[.int .i64 (within m).y, .int .i64 (within m).mo, .int .i64 (within m).d, .int .i64 (within m).h, .int .i64 (within m).mi, .int .i64 (within m).s] rfl rfl 62 _ HZ9.out (by kernel_rfl) (by simp) (by kernel_rfl) ?_)
    have hg := HG.out
    exact bodyPost_ret (results_cell_row (p := 2) (by kernel_rfl) _ _ (g + 1) 62 #[.int .i64 (within m).y, .int .i64 (within m).mo, .int .i64 (within m).d, .int .i64 (within m).h, .int .i64 (within m).mi, .int .i64 (within m).s] (0, 0) _ rfl R0.out Tryz.underlying62 rfl (by kernel_rfl)) rfl ⟨rfl, HF9.out.but (by omega) (But.row _ _ _)⟩
end Go.Proofs.YtmnegmebkmihhaaGreatDoor.dosp
