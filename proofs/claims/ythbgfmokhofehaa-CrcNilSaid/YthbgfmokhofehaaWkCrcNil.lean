/-
  The walk of the law CrcNil. My own text.
-/
import Derived.Test.YthbgfmokhofehaaCrcUse
import Derived.Test.YthbgfmokhofehaaOpen
namespace Go.Proofs.Ythbgfmokhofehaa.crcNil
open Go.RowKit Go.Proofs.Ythbgfmokhofehaa.base Go.Proofs.Ythbgfmokhofehaa.crcnum Go.Proofs.Ythbgfmokhofehaa.crc
set_option linter.unusedVariables false

theorem crcNil_walk (A0 : Option Addr) (n0 c0 : Nat) (x0 : List UInt8) (w : World) (b0 : InBytes w A0 n0 c0 x0) :
    Calls Try.prog 5 #[.slice A0 n0 c0] w fun e w' => e = .returned (.bool true) ∧ Below w.heap.size w w' := by
  go_enter Try.func5, Try.ntmps5
  go_wp2_with (first
    | (go_at_call 7; refine (wakes_any _).mono ?_; rintro e wA ⟨rfl, hfA⟩)
    | (go_at_call 9; refine (add_nil _ _ _ _).mono ?_; rintro e w' ⟨rfl, rfl⟩)
    | (go_at_call 10; refine (sum_nil _).mono ?_; rintro e w' ⟨rfl, rfl⟩)
    | (go_at_call 12; refine (len_nil _).mono ?_; rintro e w' ⟨rfl, rfl⟩))
  go_ret
  exact ⟨rfl, hfA⟩
end Go.Proofs.Ythbgfmokhofehaa.crcNil
