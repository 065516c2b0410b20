/-
  The law AhoNil's walk. My own text.
-/
import Derived.Test.YtgbffkneidnmfaaAhoWak
import Derived.Test.YtgbffkneidnmfaaOpen
namespace Go.Proofs.Ytgbffkneidnmfaa.ahoNil
open Go.RowKit Go.Proofs.Ytgbffkneidnmfaa.base Go.Proofs.Ytgbffkneidnmfaa.aho Go.Proofs.Ytgbffkneidnmfaa.ahop
set_option linter.unusedVariables false
theorem ahoNil_walk (A0 : Option Addr) (n0 c0 : Nat) (x0 : List UInt8) (w : World) (b0 : InBytes w A0 n0 c0 x0) :
    Calls Try.prog 5 #[.slice A0 n0 c0] w fun e w' => e = .returned (.bool true) ∧ Below w.heap.size w w' := by
  have hwk := wakes_any w
  have HWK := Lib.hid hwk
  clear hwk b0
  go_enter Try.func5, Try.ntmps5
  go_wp2_with (first
    | (go_at_call 8; (refine HWK.out.mono ?_); rintro e w1 ⟨rfl, hf1⟩; have HF1 := Lib.hid hf1; clear hf1)
    | (go_at_call 12; (refine (scan_nil _).mono ?_); rintro e w2 ⟨rfl, rfl⟩)
    | (go_at_call 13; (refine (put_nil _ _).mono ?_); rintro e w2 ⟨rfl, rfl⟩)
    | (go_at_call 16; (refine (first_nil _).mono ?_); rintro e w2 ⟨rfl, rfl⟩)
    | (go_at_call 17; (refine (all_nil _).mono ?_); rintro e w2 ⟨rfl, rfl⟩)
    | (go_at_call 18; (refine (len_nil _).mono ?_); rintro e w2 ⟨rfl, rfl⟩))
  go_ret
  exact ⟨rfl, HF1.out⟩
end Go.Proofs.Ytgbffkneidnmfaa.ahoNil
