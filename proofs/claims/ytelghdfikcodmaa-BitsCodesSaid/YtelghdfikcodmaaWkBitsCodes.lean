/-
  The walk of the law BitsCodes. My own text.
-/
import Derived.Test.YtelghdfikcodmaaBitsUse
import Derived.Test.YtelghdfikcodmaaOpen
namespace Go.Proofs.Ytelghdfikcodmaa.bitsCodes
open Go.RowKit Go.Proofs.Ytelghdfikcodmaa.base Go.Proofs.Ytelghdfikcodmaa.num Go.Proofs.Ytelghdfikcodmaa.bitnum Go.Proofs.Ytelghdfikcodmaa.bitp
set_option linter.unusedVariables false


theorem bitsCodes_walk (a0 : Int) (a1 : Int) (w : World) (w0 : (Lit.int .u8 a0).wf = true) (w1 : (Lit.int .u32 a1).wf = true) :
    Calls Try.prog 8 #[.int .u8 a0, .int .u32 a1] w fun e w' => e = .returned (.bool true) ∧ Below w.heap.size w w' := by
  have hb0 : 0 ≤ a0 ∧ a0 ≤ 255 := by simpa [Lit.wf, IntKind.min, IntKind.max, IntKind.signed, IntKind.bits] using w0
  have hb1 : 0 ≤ a1 ∧ a1 ≤ 4294967295 := by simpa [Lit.wf, IntKind.min, IntKind.max, IntKind.signed, IntKind.bits] using w1
  obtain ⟨n, rfl⟩ := Int.eq_ofNat_of_zero_le hb0.1
  obtain ⟨V, rfl⟩ := Int.eq_ofNat_of_zero_le hb1.1
  clear w0 w1
  obtain ⟨k, hk⟩ : ∃ k, n % 25 = k := ⟨_, rfl⟩
  have hk24 : k ≤ 24 := by omega
  have hki : (n : Int) % 25 = (k : Int) := by omega
  have huV : u64 (V : Int) = V := u64_nat V (by omega)
  obtain ⟨Y, hY⟩ : ∃ Y, rev k V = Y := ⟨_, rfl⟩
  have hYl : Y < 2 ^ k := by rw [← hY]; exact rev_lt _ _
  have hp := pow24 hk24
  have hY2 : u64 (Y : Int) % 2 ^ k = Y := by rw [u64_nat _ (by omega), Nat.mod_eq_of_lt hYl]
  have HU := Lib.hid huV
  have HY := Lib.hid hY
  have HY2 := Lib.hid hY2
  have HK : Hid (held (k : Int) = k) := held_nat k hk24
  have e0 : (0 : Nat) + k = k := Nat.zero_add k
  have HE0 := Lib.hid e0
  clear huV hY hY2 hk e0
  go_enter Try.func8, Try.ntmps8
  go_wp2_with (first
    | (go_at_call 16; refine (wakes_any _).mono ?_; rintro e wA ⟨rfl, hfA⟩)
    | (go_at_call 29; (with_reducible refine (write_any wA).mono ?_); rintro e w1 ⟨g1, bl1, rfl, hW1, hS1⟩)
    | (go_at_call 29; (with_reducible refine (write_any w1).mono ?_); rintro e w2 ⟨g2, bl2, rfl, hW2, hS2⟩; have hT3 : ∀ b ∈ bl2, b ∉ bl1 := (fun b hb h => by have := hW1.1.inside b h; have := hS2.2 b hb; omega); have hW1' := hW1.fresh hS2.1)
    | (go_at_call 32; (refine (code_any g1 0 0 k Y _ _ bl1 w2 hW1' (by omega) HK.out (by rw [HU.out]; exact HY.out)).mono ?_); rintro e w3 ⟨rfl, bl3, hW3, hT3'⟩))
  have hW2' : WtrAt w3 g2 0 0 bl2 := hW2.turn hT3' hT3
  have hoff : ∀ b ∈ bl3, b ∉ bl2 := fun b hb h2 => hT3'.apart (hW2.1.inside b h2) (hT3 b h2) hb
  have hS3 : Since wA w3 bl3 := (hS1.fresh hS2.1).turn hT3'
  have hlow2 : ∀ b ∈ bl2, wA.heap.size ≤ b := fun b hb => Nat.le_trans hS1.1.size (hS2.2 b hb)
  clear hT3 hT3' hW2 hW1 hW1' hS1 hS2
  simp only [Nat.zero_add] at hW3
  go_loopw [8, 23] (fun t i wr => ∃ j q : Nat, j ≤ k ∧ i = .int .i64 j ∧ t = .int .i64 q ∧ Hid (q = rev j V) ∧ q < 16777216 ∧ wr = w3) (fun _ i _ => k - (intOf i).toNat)
  case atStart => exact ⟨0, 0, by omega, rfl, rfl, rfl, by omega, rfl⟩
  case round =>
    obtain ⟨j, q, hj, rfl, rfl, hq, hql, rfl⟩ := hrel
    by_cases hlt : j < k
    · obtain ⟨b, hb⟩ : ∃ b : Nat, V / 2 ^ j % 2 = b := ⟨_, rfl⟩
      have hb2 : b < 2 := by omega
      have h1 : bits .and .i64 ((V : Int) / 2 ^ j) 1 = (b : Int) := by rw [and_one, bit_of _ j (by omega), HU.out, hb]
      have hr : Hid (2 * q + b = rev (j + 1) V) := by show _ = _; rw [rev, hq.out, hb]
      have hr2 : 2 * q + b < 16777216 := by
        have := rev_lt (j + 1) V
        have := (pow24 (k := j + 1) (by omega)).2
        have := hr.out
        omega
      have HB := Lib.hid hb
      clear hb
      go_wp2
      go_roundw
      case rel => exact ⟨j + 1, 2 * q + b, by omega, by go_num, by go_num, hr, hr2, trivial⟩
      case measure => simp [intOf]; omega
    · have h0 : j = k := by omega
      subst h0
      have hqY : q = Y := by rw [hq.out, HY.out]
      subst hqY
      go_wp2_with (first
        | (go_at_call 30; (refine (put_any g2 0 0 j q _ _ bl2 wr hW2' (by omega) HK.out HY2.out).mono ?_); rintro e w4 ⟨rfl, bl4, hW4, hT4⟩; have hW3' := hW3.turn hT4 hoff; simp only [Nat.zero_add] at hW4; have hf4 := hT4.new hS3.1 hlow2)
        | (go_at_call 36; (with_reducible refine (bytes_is g1 _ j _ _ bl3 w4 hW3' (by omega) rfl rfl).mono ?_); rintro e w5 ⟨A5, c5, rfl, hf5, ho5⟩; have hW4' := hW4.fresh hf5; have hW3'' := hW3'.fresh hf5)
        | (go_at_call 36; (with_reducible refine (bytes_is g2 _ j _ _ bl4 w5 hW4' (by omega) rfl rfl).mono ?_); rintro e w6 ⟨A6, c6, rfl, hf6, ho6⟩)
        | (go_at_call 37; refine (same_yes A5 A6 _ _ _ _ w6 _ _ (Own.fresh ho5 hf6).rd ho6.rd (by unfold maxLen; omega)).mono ?_; rintro e w7 ⟨rfl, hf7⟩; have hA := (hW3''.fresh hf6).fresh hf7; have hB := (hW4'.fresh hf6).fresh hf7)
        | (go_at_call 35; (with_reducible refine (len_any g1 _ _ bl3 w7 hA).mono ?_); rintro e w8 ⟨rfl, rfl⟩)
        | (go_at_call 35; (with_reducible refine (len_any g2 _ _ bl4 w7 hB).mono ?_); rintro e w8 ⟨rfl, rfl⟩))
      go_ret
      exact ⟨rfl, hfA.trans (((hf4.trans hf5).trans hf6).trans hf7)⟩
end Go.Proofs.Ytelghdfikcodmaa.bitsCodes
