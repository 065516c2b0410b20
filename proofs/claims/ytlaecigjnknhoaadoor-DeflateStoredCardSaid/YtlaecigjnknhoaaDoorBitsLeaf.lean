/-
  The contracts of layer 4's small functions: held, lowest, turned; the reference's Held, Number, Low, High, Bits, Bytes. My own text.
-/
import Derived.Test.YtlaecigjnknhoaaDoorBitsNum
import Derived.Test.YtlaecigjnknhoaaDoorBlk
import Derived.Test.YtlaecigjnknhoaaDoorChecked
import Derived.BigQuiet
import Derived.Deep.QuietTactic
namespace Go.Proofs.YtlaecigjnknhoaaDoor.bitp
open Go.RowKit Go.Proofs.YtlaecigjnknhoaaDoor.base Go.Proofs.YtlaecigjnknhoaaDoor.num Go.Proofs.YtlaecigjnknhoaaDoor.bitnum
set_option linter.unusedVariables false

theorem ret_i64 {a b : Int} (h : a = b) : Ending.returned (.int .i64 a) = .returned (.int .i64 b) := by rw [h]

theorem held_any (x : Int) (w : World) : Calls Tryd.prog 74 #[.int .i64 x] w fun e w' => e = .returned (.int .i64 (held x)) ∧ w = w' := by
  by_cases h1 : x < 0
  · go_enter Tryd.func74, Tryd.ntmps74
    go_wp2
    go_ret
    exact ⟨ret_i64 (held_lo h1), rfl⟩
  · by_cases h7 : 24 < x
    · go_enter Tryd.func74, Tryd.ntmps74
      go_wp2
      go_ret
      exact ⟨ret_i64 (held_hi h7), rfl⟩
    · go_enter Tryd.func74, Tryd.ntmps74
      go_wp2
      all_goals go_ret
      all_goals exact ⟨ret_i64 (by have := held_mid (z := x) (by omega) (by omega); omega), rfl⟩

theorem lowest_any (n : Nat) (v : Int) (w : World) (hn : n ≤ 24) : Calls Tryd.prog 76 #[.int .i64 n, .int .i64 v] w fun e w' => e = .returned (.int .i64 (u64 v % 2 ^ n : Nat)) ∧ w = w' := by
  have hp := pow24 hn
  have e1 : wrap64 (wrap64 (2 ^ n) - 1) = 2 ^ n - 1 := by
    rw [pow2i]
    generalize 2 ^ n = p at hp
    rw [IntWalk.wrap64_in (p : Int) ⟨by omega, by omega⟩, IntWalk.wrap64_in ((p : Int) - 1) ⟨by omega, by omega⟩]
  have e2 := and_mask v n (by omega)
  go_enter Tryd.func76, Tryd.ntmps76
  go_wp2
  go_ret
  exact ⟨ret_i64 (by simp), rfl⟩

theorem turned_any (n : Nat) (v : Int) (w : World) (hn : n ≤ 24) :
    Calls Tryd.prog 101 #[.int .i64 n, .int .i64 v] w fun e w' => e = .returned (.int .i64 (rev n (u64 v) : Nat)) ∧ w = w' := by
  go_enter Tryd.func101, Tryd.ntmps101
  go_wp2
  go_loopw [1, 5, 7] (fun a b i wr => ∃ (k q : Nat) (z : Int), k ≤ n ∧ i = .int .i64 k ∧ a = .int .i64 z ∧ Hid (z = v / 2 ^ k) ∧ b = .int .i64 q ∧ Hid (q = rev k (u64 v)) ∧ q < 16777216 ∧ wr = w) (fun _ _ i _ => n - (intOf i).toNat)
  case atStart => exact ⟨0, 0, v, by omega, rfl, rfl, by simp [Hid], rfl, rfl, by omega, rfl⟩
  case round =>
    obtain ⟨k, q, z, hk, rfl, rfl, hz, rfl, hq, hql, rfl⟩ := hrel
    by_cases hlt : k < n
    · obtain ⟨b, hb⟩ : ∃ b : Nat, u64 v / 2 ^ k % 2 = b := ⟨_, rfl⟩
      have hb2 : b < 2 := by omega
      have h1 : bits .and .i64 z 1 = (b : Int) := by rw [and_one, hz.out, bit_of v k (by omega), hb]
      have h2 := or_bit q b (by omega) hb2
      rw [Int.mul_comm 2 (q : Int)] at h2
      have hr : Hid (2 * q + b = rev (k + 1) (u64 v)) := by show _ = _; rw [rev, hq.out, hb]
      have hr2 : 2 * q + b < 16777216 := by
        have := rev_lt (k + 1) (u64 v)
        have := (pow24 (k := k + 1) (by omega)).2
        have := hr.out
        omega
      have hz2 : Hid (z / 2 = v / 2 ^ (k + 1)) := by
        show _ = _
        rw [hz.out, Int.pow_succ, Int.ediv_ediv_of_nonneg]
        exact Int.le_of_lt (Int.pow_pos (by omega))
      have HB := Lib.hid hb
      clear hb
      go_wp2
      go_roundw
      case rel => exact ⟨k + 1, 2 * q + b, z / 2, by omega, by go_num, by go_num, hz2, by go_num, hr, hr2, trivial⟩
      case measure => simp [intOf]; omega
    · have h0 : k = n := by omega
      subst h0
      go_wp2
      go_ret
      exact ⟨ret_i64 (by rw [hq.out]), rfl⟩
theorem info_int : (Tryd.prog.info? 3).map (fun i => (i.zero, i.size, i.bytes)) = some (some (.int .i64 0), 1, 8) := by kernel_rfl
end Go.Proofs.YtlaecigjnknhoaaDoor.bitp
