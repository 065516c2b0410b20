/-
  The walk of the law BitsNil. My own text.
-/
import Derived.Test.YtelghdfikcodmaaBitsUse
import Derived.Test.YtelghdfikcodmaaOpen
namespace Go.Proofs.Ytelghdfikcodmaa.bitsNil
open Go.RowKit Go.Proofs.Ytelghdfikcodmaa.base Go.Proofs.Ytelghdfikcodmaa.num Go.Proofs.Ytelghdfikcodmaa.bitnum Go.Proofs.Ytelghdfikcodmaa.bitp
set_option linter.unusedVariables false

theorem bitsNil_walk (a0 : Int) (A1 : Option Addr) (n1 c1 : Nat) (x1 : List UInt8) (w : World) (w0 : (Lit.int .i64 a0).wf = true) (b1 : InBytes w A1 n1 c1 x1) :
    Calls Try.prog 6 #[.int .i64 a0, .slice A1 n1 c1] w fun e w' => e = .returned (.bool true) ∧ Below w.heap.size w w' := by
  go_enter Try.func6, Try.ntmps6
  go_wp2_with (first
    | (go_at_call 16; refine (wakes_any _).mono ?_; rintro e wA ⟨rfl, hfA⟩)
    | (go_at_call 25; refine (add_nil _ _ _ _).mono ?_; rintro e w' ⟨rfl, rfl⟩)
    | (go_at_call 24; refine (back_nil _ _).mono ?_; rintro e w' ⟨rfl, rfl⟩)
    | (go_at_call 30; refine (putw_nil _ _ _).mono ?_; rintro e w' ⟨rfl, rfl⟩)
    | (go_at_call 32; refine (code_nil _ _ _).mono ?_; rintro e w' ⟨rfl, rfl⟩)
    | (go_at_call 34; refine (alignw_nil _).mono ?_; rintro e w' ⟨rfl, rfl⟩)
    | (go_at_call 21; refine (bits_nil _ _).mono ?_; rintro e w' ⟨rfl, rfl⟩)
    | (go_at_call 20; refine (peek_nil _ _).mono ?_; rintro e w' ⟨rfl, rfl⟩)
    | (go_at_call 28; refine (has_nil _ _).mono ?_; rintro e w' ⟨rfl, rfl⟩)
    | (go_at_call 23; refine (align_nil _).mono ?_; rintro e w' ⟨rfl, rfl⟩)
    | (go_at_call 26; refine (left_nil _).mono ?_; rintro e w' ⟨rfl, rfl⟩)
    | (go_at_call 27; refine (mark_nil _).mono ?_; rintro e w' ⟨rfl, rfl⟩)
    | (go_at_call 35; refine (lenw_nil _).mono ?_; rintro e w' ⟨rfl, rfl⟩)
    | (go_at_call 36; refine (bytes_nil _).mono ?_; rintro e w' ⟨rfl, rfl⟩))
  go_ret
  exact ⟨rfl, hfA⟩
end Go.Proofs.Ytelghdfikcodmaa.bitsNil
