/-
  The contracts of layer 4's small functions: held, lowest, turned; the reference's Held, Number, Low, High, Bits, Bytes. My own text.
-/
import Derived.Test.YtdcdkafpmnlgoaaBitsNum
import Derived.Test.YtdcdkafpmnlgoaaBlk
import Derived.Test.YtdcdkafpmnlgoaaChecked
import Derived.BigQuiet
import Derived.Deep.QuietTactic
namespace Go.Proofs.Ytdcdkafpmnlgoaa.bitp
open Go.RowKit Go.Proofs.Ytdcdkafpmnlgoaa.base Go.Proofs.Ytdcdkafpmnlgoaa.num Go.Proofs.Ytdcdkafpmnlgoaa.bitnum
set_option linter.unusedVariables false

theorem ret_i64 {a b : Int} (h : a = b) : Ending.returned (.int .i64 a) = .returned (.int .i64 b) := by rw [h]

theorem held_any (x : Int) (w : World) : Calls Try.prog 25 #[.int .i64 x] w fun e w' => e = .returned (.int .i64 (held x)) ∧ w = w' := by
  by_cases h1 : x < 0
  · go_enter Try.func25, Try.ntmps25
    go_wp2
    go_ret
    exact ⟨ret_i64 (held_lo h1), rfl⟩
  · by_cases h7 : 24 < x
    · go_enter Try.func25, Try.ntmps25
      go_wp2
      go_ret
      exact ⟨ret_i64 (held_hi h7), rfl⟩
    · go_enter Try.func25, Try.ntmps25
      go_wp2
      all_goals go_ret
      all_goals exact ⟨ret_i64 (by have := held_mid (z := x) (by omega) (by omega); omega), rfl⟩

theorem lowest_any (n : Nat) (v : Int) (w : World) (hn : n ≤ 24) : Calls Try.prog 27 #[.int .i64 n, .int .i64 v] w fun e w' => e = .returned (.int .i64 (u64 v % 2 ^ n : Nat)) ∧ w = w' := by
  have hp := pow24 hn
  have e1 : wrap64 (wrap64 (2 ^ n) - 1) = 2 ^ n - 1 := by
    rw [pow2i]
    generalize 2 ^ n = p at hp
    rw [IntWalk.wrap64_in (p : Int) ⟨by omega, by omega⟩, IntWalk.wrap64_in ((p : Int) - 1) ⟨by omega, by omega⟩]
  have e2 := and_mask v n (by omega)
  go_enter Try.func27, Try.ntmps27
  go_wp2
  go_ret
  exact ⟨ret_i64 (by simp), rfl⟩

theorem info_int : (Try.prog.info? 3).map (fun i => (i.zero, i.size, i.bytes)) = some (some (.int .i64 0), 1, 8) := by kernel_rfl
end Go.Proofs.Ytdcdkafpmnlgoaa.bitp
