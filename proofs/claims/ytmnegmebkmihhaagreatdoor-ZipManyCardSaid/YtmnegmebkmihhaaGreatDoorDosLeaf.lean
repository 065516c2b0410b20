import Derived.Test.YtmnegmebkmihhaaGreatDoorBlk
import Derived.Test.YtmnegmebkmihhaaGreatDoorMgDnm
import Derived.Test.YtmnegmebkmihhaaGreatDoorChecked
import Derived.BigQuiet
import Derived.Deep.QuietTactic
import Derived.Deep.RegionHeld3
import Derived.Deep.RegionWith
/-
  The contracts of layer 8's small functions: leap, days, draw, within, Right, midnight. My own text.
-/
namespace Go.Proofs.YtmnegmebkmihhaaGreatDoor.dosp
open Go.RowKit Go.Proofs.YtmnegmebkmihhaaGreatDoor.base Go.Proofs.YtmnegmebkmihhaaGreatDoor.num Go.Proofs.YtmnegmebkmihhaaGreatDoor.bitnum Go.Proofs.YtmnegmebkmihhaaGreatDoor.dosnum
set_option linter.unusedVariables false

abbrev i64 (z : Int) : Value := .int .i64 z
/-- a moment as a value -/
abbrev momV (m : Mo) : Value := .agg #[.int .i64 m.y, .int .i64 m.mo, .int .i64 m.d, .int .i64 m.h, .int .i64 m.mi, .int .i64 m.s]

theorem leap_any (y : Int) (h1 : 1980 ≤ y) (h2 : y ≤ 2107) (w : World) : Calls Tryz.prog 195 #[.int .i64 y] w fun e w' => e = .returned (.bool (leap y)) ∧ w = w' := by
  go_enter Tryz.func195, Tryz.ntmps195
  go_wp2
  all_goals go_ret
  all_goals
    refine ⟨?_, rfl⟩
    refine congrArg (fun b => Ending.returned (.bool b)) ?_
    rw [Bool.eq_iff_iff]
    simp [leap, *]

theorem days_any (y m : Int) (h1 : 1980 ≤ y) (h2 : y ≤ 2107) (w : World) : Calls Tryz.prog 161 #[.int .i64 y, .int .i64 m] w fun e w' => e = .returned (.int .i64 (days y m)) ∧ w = w' := by
  have hl : ∀ W, Calls Tryz.prog 195 #[.int .i64 y] W fun e w' => e = .returned (.bool (leap y)) ∧ W = w' := fun W => leap_any y h1 h2 W
  have HL := Lib.hid hl
  clear hl
  obtain ⟨b, hb⟩ : ∃ b, leap y = b := ⟨_, rfl⟩
  have HB := Lib.hid hb
  clear hb
  cases b
  all_goals
    go_enter Tryz.func161, Tryz.ntmps161
    go_wp2_with (go_at_call 195; refine (HL.out _).mono ?_; rintro e w1 ⟨rfl, rfl⟩; rw [HB.out])
    all_goals go_ret
    all_goals
      refine ⟨?_, rfl⟩
      have hb := HB.out
      simp_all [days]

theorem ret_i64 {a b : Int} (h : a = b) : Ending.returned (.int .i64 a) = .returned (.int .i64 b) := by rw [h]
theorem draw_any (n lo hi : Int) (w : World) : Calls Tryz.prog 160 #[.int .i64 n, .int .i64 lo, .int .i64 hi] w fun e w' => e = .returned (.int .i64 (draw n lo hi)) ∧ w = w' := by
  go_enter Tryz.func160, Tryz.ntmps160
  go_wp2
  all_goals go_ret
  all_goals
    refine ⟨ret_i64 ?_, rfl⟩
    rename_i ha
    first | rw [if_pos h] at ha | rw [if_neg (by omega)] at ha
    unfold draw
    (repeat' split) <;> omega

/-- a block that holds a moment -/
abbrev MomAt (w : World) (g : Nat) (m : Mo) : Prop := Bk w g 62 [.int .i64 m.y, .int .i64 m.mo, .int .i64 m.d, .int .i64 m.h, .int .i64 m.mi, .int .i64 m.s]
abbrev Six (w : World) (g : Nat) (m : Mo) : Prop :=
  w.cell? ⟨g, 0, none⟩ = some (.int .i64 m.y) ∧ w.cell? ⟨g, 1, none⟩ = some (.int .i64 m.mo) ∧ w.cell? ⟨g, 2, none⟩ = some (.int .i64 m.d) ∧ w.cell? ⟨g, 3, none⟩ = some (.int .i64 m.h) ∧ w.cell? ⟨g, 4, none⟩ = some (.int .i64 m.mi) ∧ w.cell? ⟨g, 5, none⟩ = some (.int .i64 m.s)
theorem six {w : World} {g : Nat} {m : Mo} (h : MomAt w g m) : Six w g m := ⟨h.cell rfl, h.cell rfl, h.cell rfl, h.cell rfl, h.cell rfl, h.cell rfl⟩

end Go.Proofs.YtmnegmebkmihhaaGreatDoor.dosp
