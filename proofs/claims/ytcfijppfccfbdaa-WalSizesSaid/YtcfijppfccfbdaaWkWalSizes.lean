/-
  The walk of the law WalSizes. My own text.
-/
import Derived.Test.YtcfijppfccfbdaaWalLaw
import Derived.Test.YtcfijppfccfbdaaOpen
namespace Go.Proofs.Ytcfijppfccfbdaa.walSizes
open Go.RowKit Go.Proofs.Ytcfijppfccfbdaa.base Go.Proofs.Ytcfijppfccfbdaa.num Go.Proofs.Ytcfijppfccfbdaa.word Go.Proofs.Ytcfijppfccfbdaa.waln Go.Proofs.Ytcfijppfccfbdaa.walp
set_option linter.unusedVariables false
theorem walSizes_walk (a0 : Int) (w : World) (w0 : (Lit.int .i64 a0).wf = true) :
    Calls Try.prog 5 #[.int .i64 a0] w fun e w' => e = .returned (.bool true) ∧ Below w.heap.size w w' := by
  have h0 : -9223372036854775808 ≤ a0 ∧ a0 ≤ 9223372036854775807 := by simpa [Lit.wf, IntKind.min, IntKind.max, IntKind.signed, IntKind.bits] using w0
  have HW := Lib.hid (wakes_any w)
  have HS := Lib.hid (fun W : World => size_any a0 W h0)
  clear w0
  by_cases hn : a0 < 0
  · have hs : sizeI a0 = 0 := by unfold sizeI; rw [if_pos (.inl hn)]
    rw [hs] at HS
    clear hs
    go_enter Try.func5, Try.ntmps5
    go_wp2_with (first
      | (go_at_call 7; (refine HW.out.mono ?_); rintro e w1 ⟨rfl, hf1⟩)
      | (go_at_call 12; (refine (HS.out _).mono ?_); rintro e w2 ⟨rfl, rfl⟩))
    go_ret
    exact ⟨rfl, hf1⟩
  · by_cases hb : 4096 < a0
    · have hs : sizeI a0 = 0 := by unfold sizeI; rw [if_pos (.inr hb)]
      rw [hs] at HS
      clear hs
      go_enter Try.func5, Try.ntmps5
      go_wp2_with (first
        | (go_at_call 7; (refine HW.out.mono ?_); rintro e w1 ⟨rfl, hf1⟩)
        | (go_at_call 12; (refine (HS.out _).mono ?_); rintro e w2 ⟨rfl, rfl⟩))
      go_ret
      exact ⟨rfl, hf1⟩
    · have hs : sizeI a0 = 12 + 516 * a0 := by unfold sizeI; rw [if_neg (by omega)]
      rw [hs] at HS
      clear hs
      go_enter Try.func5, Try.ntmps5
      go_wp2_with (first
        | (go_at_call 7; (refine HW.out.mono ?_); rintro e w1 ⟨rfl, hf1⟩)
        | (go_at_call 12; (refine (HS.out _).mono ?_); rintro e w2 ⟨rfl, rfl⟩))
      go_ret
      exact ⟨rfl, hf1⟩
end Go.Proofs.Ytcfijppfccfbdaa.walSizes
