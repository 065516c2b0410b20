/-
  The contracts of crc.gone and ref02.Of. My own text.
-/
import Derived.Test.YtcfijppfccfbdaaBase
import Derived.Test.YtcfijppfccfbdaaCrcNum
import Derived.Test.YtcfijppfccfbdaaChecked
import Derived.BigQuiet
import Derived.Deep.QuietTactic
import Derived.Laws.BitsAllLaws
import Derived.IntWalk
namespace Go.Proofs.Ytcfijppfccfbdaa.crc
open Go.RowKit Go.Proofs.Ytcfijppfccfbdaa.base Go.Proofs.Ytcfijppfccfbdaa.crcnum
set_option linter.unusedVariables false

theorem and_one (n : Nat) (h : n < 4294967296) : bits .and .u32 (n : Int) 1 = ((n % 2 : Nat) : Int) := by
  have := u32_and_nat n 1 h (by decide)
  rw [Nat.and_one_is_mod] at this
  exact this
theorem xor_poly (n : Nat) (h : n < 4294967296) : bits .xor .u32 (n : Int) 3988292384 = ((n ^^^ poly : Nat) : Int) := u32_xor_nat n poly h (by decide)

theorem xor_half (n : Nat) (h : n < 4294967296) : bits .xor .u32 ((n : Int) / 2) 3988292384 = ((n / 2 ^^^ poly : Nat) : Int) := xor_poly (n / 2) (by omega)

theorem bit_eq (x q k : Nat) (hx : x < 256) (hq : q < 4294967296) : bits .xor .u32 (bits .and .u32 ((x : Int) / 2 ^ k) 1) (bits .and .u32 (q : Int) 1) = ((x / 2 ^ k % 2 ^^^ q % 2 : Nat) : Int) := by
  have h1 : (x : Int) / 2 ^ k = ((x / 2 ^ k : Nat) : Int) := by simp
  have h2 : x / 2 ^ k ≤ x := Nat.div_le_self _ _
  rw [h1, and_one _ (by omega), and_one _ hq, u32_xor_nat _ _ (by omega) (by omega)]
theorem bit_01 (a b : Nat) : a % 2 ^^^ b % 2 = 1 ∨ a % 2 ^^^ b % 2 = 0 := by
  rw [← mod_two_xor]; omega

theorem ret_u32 {a b : Int} (h : a = b) : Ending.returned (.int .u32 a) = .returned (.int .u32 b) := by rw [h]

theorem gone_any (n : Nat) (w : World) (hn : n < 4294967296) : Calls Try.prog 42 #[.int .u32 n] w fun e w' => e = .returned (.int .u32 (many 4 n : Nat)) ∧ w = w' := by
  go_enter Try.func42, Try.ntmps42
  go_wp2
  go_loop [0, 4] (fun s i => ∃ k m : Nat, k ≤ 4 ∧ i = .int .i64 k ∧ s = .int .u32 m ∧ m < 4294967296 ∧ Hid (m = many k n)) (fun _ i => 4 - (intOf i).toNat)
  case atStart => exact ⟨0, n, by omega, rfl, rfl, hn, rfl⟩
  case round =>
    obtain ⟨k, m, hk, rfl, rfl, hm, hM⟩ := hrel
    by_cases hlt : k < 4
    · have e1 := and_one m hm
      have e2 := xor_half m hm
      by_cases hodd : m % 2 = 1
      · have hone : one m = m / 2 ^^^ poly := by unfold one; rw [if_pos hodd]
        have hl := one_lt hm
        have HO := Lib.hid hone
        have HODD := Lib.hid hodd
        rw [hodd] at e1
        clear hone hodd
        go_wp2
        go_round
        case rel => exact ⟨k + 1, m / 2 ^^^ poly, by omega, by go_num, rfl, by rw [← HO.out]; exact hl, by show _ = one _; rw [← hM.out]; exact HO.out.symm⟩
        case measure => simp [intOf]; omega
      · have h0 : m % 2 = 0 := by omega
        have hone : one m = m / 2 := by unfold one; rw [if_neg hodd]
        have HO := Lib.hid hone
        rw [h0] at e1
        clear hone hodd h0
        go_wp2
        go_round
        case rel => exact ⟨k + 1, m / 2, by omega, by go_num, by go_num, by omega, by show _ = one _; rw [← hM.out]; exact HO.out.symm⟩
        case measure => simp [intOf]; omega
    · have h4 : k = 4 := by omega
      subst h4
      go_wp2
      go_ret
      exact ⟨ret_u32 (by rw [hM.out]), rfl⟩

/-- the reference's sum -/
theorem of_any (A : Option Addr) (n c : Nat) (bs : List UInt8) (w : World) (B : Nat) (hr : Rd w B A n (bs.map bv)) (hn : n ≤ maxLen) :
    Calls Try.prog 21 #[.slice A n c] w fun e w' => e = .returned (.int .u32 (sum bs : Nat)) ∧ w = w' := by
  unfold maxLen at hn
  go_enter Try.func21, Try.ntmps21
  go_wp2
  go_loop [3, 4] (fun s i => ∃ j r : Nat, j ≤ n ∧ i = .int .i64 j ∧ s = .int .u32 r ∧ r < 4294967296 ∧ Hid (r = over 4294967295 (bs.take j))) (fun _ i => n - (intOf i).toNat)
  case atStart => exact ⟨0, 4294967295, by omega, rfl, rfl, by omega, rfl⟩
  case round =>
    obtain ⟨j, r, hj, rfl, rfl, hr0, hR⟩ := hrel
    by_cases hlt : j < n
    · obtain ⟨b, off, x, rfl, hb, hx, hcx⟩ := hr.at_ hlt
      have HX := Lib.hid hx
      have hxb := x.toNat_lt
      clear hx
      go_wp2
      go_loop [3, 5] (fun s i => ∃ k q : Nat, k ≤ 8 ∧ i = .int .i64 k ∧ s = .int .u32 q ∧ q < 4294967296 ∧ Hid (q = steps k r x.toNat)) (fun _ i => 8 - (intOf i).toNat)
      case atStart => exact ⟨0, r, by omega, rfl, rfl, hr0, rfl⟩
      case round =>
        obtain ⟨k, q, hk, rfl, rfl, hq, hQ⟩ := hrel
        by_cases hlt2 : k < 8
        · have e1 := bit_eq x.toNat q k hxb hq
          have e2 := xor_half q hq
          rcases bit_01 (x.toNat / 2 ^ k) q with h1 | h1
          · have hs : bitIn q (x.toNat / 2 ^ k) = q / 2 ^^^ poly := by unfold bitIn; rw [if_pos h1]
            have hl := bitIn_lt (x.toNat / 2 ^ k) hq
            have HS := Lib.hid hs
            rw [h1] at e1
            clear hs h1
            go_wp2
            go_round
            case rel => exact ⟨k + 1, q / 2 ^^^ poly, by omega, by go_num, rfl, by rw [← HS.out]; exact hl, by show _ = bitIn _ _; rw [← hQ.out]; exact HS.out.symm⟩
            case measure => simp [intOf]; omega
          · have hs : bitIn q (x.toNat / 2 ^ k) = q / 2 := by unfold bitIn; rw [if_neg (by omega)]
            have HS := Lib.hid hs
            rw [h1] at e1
            clear hs h1 e2
            go_wp2
            go_round
            case rel => exact ⟨k + 1, q / 2, by omega, by go_num, by go_num, by omega, by show _ = bitIn _ _; rw [← hQ.out]; exact HS.out.symm⟩
            case measure => simp [intOf]; omega
        · have h8 : k = 8 := by omega
          subst h8
          go_wp2
          go_round
          case rel => exact ⟨j + 1, q, by omega, by go_num, rfl, hq, by show _ = _; rw [hQ.out, steps_byte _ _ hxb, hR.out, take_snoc _ _ _ HX.out, over_snoc]⟩
          case measure => simp [intOf]; omega
    · have hl : bs.length = n := by have := hr.1; rwa [List.length_map] at this
      have hs : 4294967295 - r = sum bs := by
        rw [hR.out, List.take_of_length_le (by omega)]; rfl
      have HS := Lib.hid hs
      clear hs hl
      go_wp2
      go_ret
      exact ⟨ret_u32 (by rw [← HS.out]; omega), rfl⟩
end Go.Proofs.Ytcfijppfccfbdaa.crc
