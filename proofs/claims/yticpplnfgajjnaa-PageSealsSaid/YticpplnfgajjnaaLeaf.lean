/-
  The contracts of layer 1's small functions: word.held, ref.Wide, word.piece, bytes.Clone, word.Cut. My own text.
-/
import Derived.Test.YticpplnfgajjnaaBase
import Derived.Test.YticpplnfgajjnaaChecked
import Derived.BigQuiet
import Derived.Deep.QuietTactic
namespace Go.Proofs.Yticpplnfgajjnaa.word
open Go.RowKit Go.Proofs.Yticpplnfgajjnaa.base
set_option linter.unusedVariables false

/-- held within 1 to 7 -/
def wide (w : Int) : Nat := if w < 1 then 1 else if 7 < w then 7 else w.toNat
theorem wide_bd (w : Int) : 1 ≤ wide w ∧ wide w ≤ 7 := by unfold wide; split <;> (try split) <;> omega

theorem wide_lo {w : Int} (h : w < 1) : (1 : Int) = (wide w : Int) := by unfold wide; rw [if_pos h]; rfl
theorem wide_hi {w : Int} (h : 7 < w) : (7 : Int) = (wide w : Int) := by unfold wide; rw [if_neg (by omega), if_pos h]; rfl
theorem wide_mid {w : Int} (h1 : 1 ≤ w) (h7 : w ≤ 7) : w = (wide w : Int) := by unfold wide; rw [if_neg (by omega), if_neg (by omega)]; omega

theorem ret_i64 {a b : Int} (h : a = b) : Ending.returned (.int .i64 a) = .returned (.int .i64 b) := by rw [h]

theorem held_any (x : Int) (w : World) : Calls Try.prog 21 #[.int .i64 x] w fun e w' => e = .returned (.int .i64 (wide x)) ∧ w = w' := by
  by_cases h1 : x < 1
  · go_enter Try.func21, Try.ntmps21
    go_wp2
    go_ret
    exact ⟨ret_i64 (wide_lo h1), rfl⟩
  · by_cases h7 : 7 < x
    · go_enter Try.func21, Try.ntmps21
      go_wp2
      go_ret
      exact ⟨ret_i64 (wide_hi h7), rfl⟩
    · go_enter Try.func21, Try.ntmps21
      go_wp2
      all_goals go_ret
      all_goals exact ⟨ret_i64 (by have := wide_mid (w := x) (by omega) (by omega); omega), rfl⟩

theorem wide_any (x : Int) (w : World) : Calls Try.prog 20 #[.int .i64 x] w fun e w' => e = .returned (.int .i64 (wide x)) ∧ w = w' := by
  by_cases h1 : x < 1
  · go_enter Try.func20, Try.ntmps20
    go_wp2
    go_ret
    exact ⟨ret_i64 (wide_lo h1), rfl⟩
  · by_cases h7 : 7 < x
    · go_enter Try.func20, Try.ntmps20
      go_wp2
      go_ret
      exact ⟨ret_i64 (wide_hi h7), rfl⟩
    · go_enter Try.func20, Try.ntmps20
      go_wp2
      go_ret
      exact ⟨ret_i64 (wide_mid (by omega) (by omega)), rfl⟩

theorem byte_info : (Try.prog.info? 5).map (fun i => (i.zero, i.size, i.bytes)) = some (some (.int .u8 0), 1, 1) := by kernel_rfl

/-- the reference's Same, of two that are alike -/
theorem same_yes (A D : Option Addr) (n c d : Nat) (xs : List UInt8) (w : World) (B B' : Nat) (ha : Rd w B A n (xs.map bv)) (hd : Rd w B' D n (xs.map bv)) (hn : n ≤ maxLen) :
    Calls Try.prog 11 #[.slice A n c, .slice D n d] w fun e w' => e = .returned (.bool true) ∧ Fresh w w' := by
  unfold maxLen at hn
  go_enter Try.func11, Try.ntmps11
  go_wp2
  go_loopw [5] (fun i wr => ∃ (k q : Nat), k ≤ n ∧ i = .int .i64 k ∧ wr = w.drewN q) (fun i _ => n - (intOf i).toNat)
  case atStart => exact ⟨0, 0, by omega, rfl, rfl⟩
  case round =>
    obtain ⟨k, q, hk, rfl, rfl⟩ := hrel
    by_cases hlt : k < n
    · obtain ⟨b, off, x, rfl, hb, hx, hcx⟩ := ha.at_ hlt
      obtain ⟨b', off', x', rfl, hb', hx', hcx'⟩ := hd.at_ hlt
      have e : x = x' := by rw [hx] at hx'; injection hx'
      subst e
      clear hx hx' ha hd
      go_wp2
      go_quiet (fail)
      go_wp2
      go_roundw
      case rel => exact ⟨k + 1, _, by omega, by go_num, rfl⟩
      case measure => simp [intOf]; omega
    · go_wp2
      go_ret
      exact ⟨rfl, Fresh.drewN _ _⟩

theorem same_is (A D : Option Addr) (n n' c d : Nat) (xs : List UInt8) (w : World) (B B' : Nat) (ha : Rd w B A n (xs.map bv)) (hd : Rd w B' D n' (xs.map bv)) (hn : n ≤ maxLen) (hnn : n = n') :
    Calls Try.prog 11 #[.slice A n c, .slice D n' d] w fun e w' => e = .returned (.bool true) ∧ Fresh w w' := by
  subst hnn
  exact same_yes A D n c d xs w B B' ha hd hn

end Go.Proofs.Yticpplnfgajjnaa.word
