import Derived.Test.YtcdehklcdipcfaaGreatMgPw
import Derived.Test.YtcdehklcdipcfaaGreatOpen
/-
  The walk of the law PagerNil. My own text.
-/
namespace Go.Proofs.YtcdehklcdipcfaaGreat.pagerNil
open Go.RowKit Go.Proofs.YtcdehklcdipcfaaGreat.base Go.Proofs.YtcdehklcdipcfaaGreat.pgrp
set_option linter.unusedVariables false

set_option maxRecDepth 100000 in
set_option maxHeartbeats 4000000 in
theorem pagerNil_walk (a0 : ByteArray) (w : World) (w0 : a0.size ≤ maxLen) : Calls Tryz.prog 6 #[.string a0] w fun e w' => e = .returned (.bool true) ∧ Below w.heap.size w w' := by
  clear w0
  have hb0 : ∀ (w : World) f, Calls Tryz.prog 11 #[vfs.fsPtr f, .string ⟨#[]⟩] w fun e w' => e = .returned (.tuple #[.pointer none, .int .i64 1]) ∧ w = w' := fun w f => open_bad w f ⟨#[]⟩ (by unfold maxLen; show 0 ≤ _; omega) (by decide)
  have hb1 : ∀ (w : World) f, Calls Tryz.prog 11 #[vfs.fsPtr f, .string ⟨#[65]⟩] w fun e w' => e = .returned (.tuple #[.pointer none, .int .i64 1]) ∧ w = w' := fun w f => open_bad w f ⟨#[65]⟩ (by unfold maxLen; show 1 ≤ _; omega) (by decide)
  have HB0 := Lib.hid hb0
  have HB1 := Lib.hid hb1
  clear hb0 hb1
  go_enter Tryz.func6, Tryz.ntmps6
  go_upto_region 8 with (first
    | (go_at_call 9; refine (wakes_any _).mono ?_; rintro e wA ⟨rfl, hfA⟩; have HFA := Lib.hid hfA; clear hfA)
    | (go_at_call 21; refine (alloc_nil _).mono ?_; rintro e w' ⟨rfl, rfl⟩)
    | (go_at_call 25; refine (read_nil _ _).mono ?_; rintro e w' ⟨rfl, rfl⟩)
    | (go_at_call 29; refine (frees_nil _).mono ?_; rintro e w' ⟨rfl, rfl⟩)
    | (go_at_call 11; refine (open_nil _ _).mono ?_; rintro e w' ⟨rfl, rfl⟩))
  go_upto_region 9 with (first
    | (go_at_call 10; refine (vfs.new_up _ 9 9 rfl (by omega) (by omega)).mono ?_; rintro e wB ⟨fB, bB, rfl, _, hfB, _⟩; have HFB := Lib.hid hfB; clear hfB)
    | (go_at_call 11; refine (HB0.out _ _).mono ?_; rintro e w' ⟨rfl, rfl⟩))
  go_upto_region 10 with (first
    | (go_at_call 10; refine (vfs.new_up _ 900 900 rfl (by omega) (by omega)).mono ?_; rintro e wC ⟨fC, bC, rfl, _, hfC, _⟩; have HFC := Lib.hid hfC; clear hfC)
    | (go_at_call 11; refine (HB1.out _ _).mono ?_; rintro e w' ⟨rfl, rfl⟩))
  go_wp2_with (first
    | (go_at_call 26; refine (free_nil _ _).mono ?_; rintro e w' ⟨rfl, rfl⟩)
    | (go_at_call 22; refine (write_nil _ _ _ _ _).mono ?_; rintro e w' ⟨rfl, rfl⟩)
    | (go_at_call 27; refine (setRoot_nil _ _ _).mono ?_; rintro e w' ⟨rfl, rfl⟩)
    | (go_at_call 14; refine (commit_nil _).mono ?_; rintro e w' ⟨rfl, rfl⟩)
    | (go_at_call 16; refine (abort_nil _).mono ?_; rintro e w' ⟨rfl, rfl⟩)
    | (go_at_call 28; refine (root_nil _ _).mono ?_; rintro e w' ⟨rfl, rfl⟩)
    | (go_at_call 23; refine (many_nil _).mono ?_; rintro e w' ⟨rfl, rfl⟩)
    | (go_at_call 30; refine (reads_nil _).mono ?_; rintro e w' ⟨rfl, rfl⟩)
    | (go_at_call 24; refine (changed_nil _).mono ?_; rintro e w' ⟨rfl, rfl⟩))
  go_ret
  exact ⟨rfl, ((HFA.out.trans HFB.out).trans HFC.out)⟩
end Go.Proofs.YtcdehklcdipcfaaGreat.pagerNil
