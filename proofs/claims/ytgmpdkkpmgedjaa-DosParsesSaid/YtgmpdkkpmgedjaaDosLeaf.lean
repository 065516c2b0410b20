/-
  The contracts of layer 8's small functions: leap, days, draw, within, Right, midnight. My own text.
-/
import Derived.Test.YtgmpdkkpmgedjaaBlk
import Derived.Test.YtgmpdkkpmgedjaaDosNum
import Derived.Test.YtgmpdkkpmgedjaaChecked
import Derived.BigQuiet
import Derived.Deep.QuietTactic
import Derived.Deep.RegionHeld3
import Derived.Deep.RegionWith
namespace Go.Proofs.Ytgmpdkkpmgedjaa.dosp
open Go.RowKit Go.Proofs.Ytgmpdkkpmgedjaa.base Go.Proofs.Ytgmpdkkpmgedjaa.num Go.Proofs.Ytgmpdkkpmgedjaa.bitnum Go.Proofs.Ytgmpdkkpmgedjaa.dosnum
set_option linter.unusedVariables false

abbrev i64 (z : Int) : Value := .int .i64 z
/-- a moment as a value -/
abbrev momV (m : Mo) : Value := .agg #[.int .i64 m.y, .int .i64 m.mo, .int .i64 m.d, .int .i64 m.h, .int .i64 m.mi, .int .i64 m.s]

theorem leap_any (y : Int) (h1 : 1980 ≤ y) (h2 : y ≤ 2107) (w : World) : Calls Try.prog 28 #[.int .i64 y] w fun e w' => e = .returned (.bool (leap y)) ∧ w = w' := by
  go_enter Try.func28, Try.ntmps28
  go_wp2
  all_goals go_ret
  all_goals
    refine ⟨?_, rfl⟩
    refine congrArg (fun b => Ending.returned (.bool b)) ?_
    rw [Bool.eq_iff_iff]
    simp [leap, *]

theorem days_any (y m : Int) (h1 : 1980 ≤ y) (h2 : y ≤ 2107) (w : World) : Calls Try.prog 27 #[.int .i64 y, .int .i64 m] w fun e w' => e = .returned (.int .i64 (days y m)) ∧ w = w' := by
  have hl : ∀ W, Calls Try.prog 28 #[.int .i64 y] W fun e w' => e = .returned (.bool (leap y)) ∧ W = w' := fun W => leap_any y h1 h2 W
  have HL := Lib.hid hl
  clear hl
  obtain ⟨b, hb⟩ : ∃ b, leap y = b := ⟨_, rfl⟩
  have HB := Lib.hid hb
  clear hb
  cases b
  all_goals
    go_enter Try.func27, Try.ntmps27
    go_wp2_with (go_at_call 28; refine (HL.out _).mono ?_; rintro e w1 ⟨rfl, rfl⟩; rw [HB.out])
    all_goals go_ret
    all_goals
      refine ⟨?_, rfl⟩
      have hb := HB.out
      simp_all [days]

theorem ret_i64 {a b : Int} (h : a = b) : Ending.returned (.int .i64 a) = .returned (.int .i64 b) := by rw [h]
theorem draw_any (n lo hi : Int) (w : World) : Calls Try.prog 26 #[.int .i64 n, .int .i64 lo, .int .i64 hi] w fun e w' => e = .returned (.int .i64 (draw n lo hi)) ∧ w = w' := by
  go_enter Try.func26, Try.ntmps26
  go_wp2
  all_goals go_ret
  all_goals
    refine ⟨ret_i64 ?_, rfl⟩
    rename_i ha
    first | rw [if_pos h] at ha | rw [if_neg (by omega)] at ha
    unfold draw
    (repeat' split) <;> omega

theorem midnight_any (m : Mo) (w : World) : Calls Try.prog 21 #[momV m] w fun e w' => e = .returned (momV ⟨m.y, m.mo, m.d, 0, 0, 0⟩) ∧ Fresh w w' := by
  have hb := Bk.made (w.alloc (.cells #[.int .i64 m.y, .int .i64 m.mo, .int .i64 m.d, .int .i64 m.h, .int .i64 m.mi, .int .i64 m.s] 25)) 25 #[.int .i64 m.y, .int .i64 m.mo, .int .i64 m.d, .int .i64 0, .int .i64 0, .int .i64 0]
  have HB := Lib.hid hb
  clear hb
  go_enter Try.func21, Try.ntmps21
  go_wp2
  exact bodyPost_ret (results_cell_row (p := 2) (by kernel_rfl) _ _ (w.heap.size + 1) 25 #[.int .i64 m.y, .int .i64 m.mo, .int .i64 m.d, .int .i64 0, .int .i64 0, .int .i64 0] (0, 0) _ rfl (by have := HB.out; simpa [Bk] using this) Try.underlying25 rfl (by kernel_rfl)) rfl ⟨rfl, (Fresh.alloc w _).trans (Fresh.alloc _ _)⟩

/-- a block that holds a moment -/
abbrev MomAt (w : World) (g : Nat) (m : Mo) : Prop := Bk w g 25 [.int .i64 m.y, .int .i64 m.mo, .int .i64 m.d, .int .i64 m.h, .int .i64 m.mi, .int .i64 m.s]
abbrev Six (w : World) (g : Nat) (m : Mo) : Prop :=
  w.cell? ⟨g, 0, none⟩ = some (.int .i64 m.y) ∧ w.cell? ⟨g, 1, none⟩ = some (.int .i64 m.mo) ∧ w.cell? ⟨g, 2, none⟩ = some (.int .i64 m.d) ∧ w.cell? ⟨g, 3, none⟩ = some (.int .i64 m.h) ∧ w.cell? ⟨g, 4, none⟩ = some (.int .i64 m.mi) ∧ w.cell? ⟨g, 5, none⟩ = some (.int .i64 m.s)
theorem six {w : World} {g : Nat} {m : Mo} (h : MomAt w g m) : Six w g m := ⟨h.cell rfl, h.cell rfl, h.cell rfl, h.cell rfl, h.cell rfl, h.cell rfl⟩

end Go.Proofs.Ytgmpdkkpmgedjaa.dosp
