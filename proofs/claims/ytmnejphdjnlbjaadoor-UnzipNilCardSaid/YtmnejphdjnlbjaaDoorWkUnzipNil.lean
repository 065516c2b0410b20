/-
  The walk of the law UnzipNil. My own text.
-/
import Derived.Test.YtmnejphdjnlbjaaDoorUnzWak
import Derived.Test.YtmnejphdjnlbjaaDoorOpen
namespace Go.Proofs.YtmnejphdjnlbjaaDoor.unzipNil
open Go.RowKit Go.Proofs.YtmnejphdjnlbjaaDoor.base Go.Proofs.YtmnejphdjnlbjaaDoor.namp Go.Proofs.YtmnejphdjnlbjaaDoor.unzp
set_option linter.unusedVariables false
theorem next_nil (n : Int) (w : World) : Calls Tryd.prog 9 #[.pointer none, .int .i64 n] w fun e w' => e = .returned (.tuple #[.slice none 0 0, .int .i64 2]) ∧ w' = w := by
  go_enter Tryd.func9, Tryd.ntmps9
  go_wp2
  go_ret2
  exact ⟨rfl, rfl⟩
theorem done_nil (w : World) : Calls Tryd.prog 10 #[.pointer none] w fun e w' => e = .returned (.bool false) ∧ w' = w := by
  go_enter Tryd.func10, Tryd.ntmps10
  go_wp2
  go_ret
  exact ⟨rfl, rfl⟩
theorem held_nil (w : World) : Calls Tryd.prog 11 #[.pointer none] w fun e w' => e = .returned (.int .i64 0) ∧ w' = w := by
  go_enter Tryd.func11, Tryd.ntmps11
  go_wp2
  go_ret
  exact ⟨rfl, rfl⟩
set_option maxRecDepth 100000 in
set_option maxHeartbeats 4000000 in
theorem unzipNil_walk (a0 : Int) (w : World) (w0 : (Lit.int .i64 a0).wf = true) (hU : Laid w) :
    Calls Tryd.prog 4 #[.int .i64 a0] w fun e w' => e = .returned (.bool true) ∧ Below w.heap.size w w' := by
  have HW := Lib.hid (unzp.wakes_any w hU)
  clear hU w0
  go_enter Tryd.func4, Tryd.ntmps4
  go_wp2_with (first
    | (go_at_call 5; ((with_reducible refine HW.out.mono ?_); rintro e wA ⟨rfl, hfA⟩))
    | (go_at_call 9; ((with_reducible refine (next_nil _ _).mono ?_); rintro e w1 ⟨rfl, rfl⟩))
    | (go_at_call 10; ((with_reducible refine (done_nil _).mono ?_); rintro e w1 ⟨rfl, rfl⟩))
    | (go_at_call 11; ((with_reducible refine (held_nil _).mono ?_); rintro e w1 ⟨rfl, rfl⟩)))
  go_ret
  exact ⟨rfl, hfA⟩
end Go.Proofs.YtmnejphdjnlbjaaDoor.unzipNil
