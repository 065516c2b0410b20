/-
  The walk of the law BitsBack. My own text.
-/
import Derived.Test.YtelghdfikcodmaaBitsUse
import Derived.Test.YtelghdfikcodmaaOpen
namespace Go.Proofs.Ytelghdfikcodmaa.bitsBack
open Go.RowKit Go.Proofs.Ytelghdfikcodmaa.base Go.Proofs.Ytelghdfikcodmaa.num Go.Proofs.Ytelghdfikcodmaa.bitnum Go.Proofs.Ytelghdfikcodmaa.bitp
set_option linter.unusedVariables false

theorem left_is (g : Nat) (bs : List UInt8) (p : Nat) (bl : List Nat) (z : Int) (w : World) (h : RdrAt w g bs p bl) (hp : p ≤ 8 * bs.length) (hn : bs.length ≤ 1099511627776) (hz : ((8 * bs.length - p : Nat) : Int) = z) :
    Calls Try.prog 26 #[ptr g] w fun e w' => e = .returned (.int .i64 z) ∧ Fresh w w' := by
  subst hz
  exact left_any g bs p bl w h hp hn

theorem bitsBack_walk (A0 : Option Addr) (n0 c0 : Nat) (x0 : List UInt8) (A1 : Option Addr) (n1 c1 : Nat) (x1 : List UInt8) (w : World) (b0 : InBytes w A0 n0 c0 x0) (b1 : InBytes w A1 n1 c1 x1) :
    Calls Try.prog 7 #[.slice A0 n0 c0, .slice A1 n1 c1] w fun e w' => e = .returned (.bool true) ∧ Below w.heap.size w w' := by
  obtain ⟨hr0, hn0, hm0⟩ := b0
  obtain ⟨hr1, hn1, hm1⟩ := b1
  have hl0 : x0.length = n0 := by have := hr0.1; rwa [List.length_map] at this
  unfold maxLen at hm0 hm1
  by_cases hbig : 200 < n0
  · go_enter Try.func7, Try.ntmps7
    go_wp2_with (go_at_call 16; refine (wakes_any _).mono ?_; rintro e wA ⟨rfl, hfA⟩)
    go_ret
    exact ⟨rfl, hfA⟩
  · by_cases hbig1 : 50 < n1
    · go_enter Try.func7, Try.ntmps7
      go_wp2_with (go_at_call 16; refine (wakes_any _).mono ?_; rintro e wA ⟨rfl, hfA⟩)
      go_ret
      exact ⟨rfl, hfA⟩
    · have HL0 := Lib.hid hl0
      clear hl0
      go_enter Try.func7, Try.ntmps7
      go_wp2_with (first
        | (go_at_call 16; refine (wakes_any _).mono ?_; rintro e wA ⟨rfl, hfA⟩)
        | (go_at_call 18; refine (read_one A0 n0 c0 x0 wA w.heap.size (hr0.below hfA (Nat.le_refl _)) hfA.size (by omega) wA.heap.size rfl).mono ?_; rintro e w1 ⟨g, bl, rfl, hR1, hS1⟩))
      have hl0 := HL0.out
      go_loopw [29] (fun i wr => ∃ (j p : Nat) (bl : List Nat), j ≤ n1 ∧ i = .int .i64 j ∧ p ≤ 8 * n0 ∧ RdrAt wr g x0 p bl ∧ Since wA wr bl) (fun i _ => n1 - (intOf i).toNat)
      case atStart => exact ⟨0, 0, bl, by omega, rfl, by omega, hR1, hS1⟩
      case round =>
        obtain ⟨j, p, bl, hj, rfl, hp, hR, hS⟩ := hrel
        by_cases hlt : j < n1
        · obtain ⟨b, off, x, rfl, hb, hx, hcx⟩ := (hr1.below (hfA.trans hS.1) (Nat.le_refl _)).at_ hlt
          have hxb := x.toNat_lt
          obtain ⟨k, hk⟩ : ∃ k, x.toNat % 25 = k := ⟨_, rfl⟩
          have hk24 : k ≤ 24 := by omega
          have hki : (x.toNat : Int) % 25 = (k : Int) := by omega
          have HK : Hid (held (k : Int) = k) := held_nat k hk24
          obtain ⟨P, hP⟩ : ∃ P : Int, ((8 * x0.length - p : Nat) : Int) = P := ⟨_, rfl⟩
          have HP := Lib.hid hP
          clear hx hP
          by_cases hfit : p + k ≤ 8 * n0
          · go_wp2_with (first
              | (go_at_call 27; (with_reducible refine (mark_any g x0 p bl wr hR).mono ?_); rintro e w2 ⟨rfl, rfl⟩)
              | (go_at_call 26; (with_reducible refine (left_is g x0 p bl P wr hR (by omega) (by omega) HP.out).mono ?_); rintro e w2 ⟨rfl, hf2⟩; have hR2 := hR.fresh hf2; have hS2 := hS.fresh hf2; clear hR hS)
              | (go_at_call 21; (with_reducible refine (bits_ok g x0 p bl _ k _ w2 hR2 (by omega) HK.out (by omega) rfl).mono ?_); rintro e w3 ⟨rfl, bl3, hR3, hT3⟩; have hS3 := hS2.turn hT3)
              | (go_at_call 24; (with_reducible refine (back_ok g x0 (p + k) p bl3 w3 hR3 (by omega) (by omega) (by omega)).mono ?_); rintro e w4 ⟨rfl, bl4, hR4, hT4⟩; have hS4 := hS3.turn hT4; clear hR2 hS2)
              | (go_at_call 26; (with_reducible refine (left_is g x0 p bl4 P w4 hR4 (by omega) (by omega) HP.out).mono ?_); rintro e w5 ⟨rfl, hf5⟩; have hR5 := hR4.fresh hf5; have hS5 := hS4.fresh hf5; clear hR4 hS4)
              | (go_at_call 21; (with_reducible refine (bits_ok g x0 p bl4 _ k _ w5 hR5 (by omega) HK.out (by omega) rfl).mono ?_); rintro e w6 ⟨rfl, bl6, hR6, hT6⟩; have hS6 := hS5.turn hT6))
            go_roundw
            case rel => exact ⟨j + 1, p + k, bl6, by omega, by go_num, by omega, hR6, hS6⟩
            case measure => simp [intOf]; omega
          · go_wp2_with (first
              | (go_at_call 27; (with_reducible refine (mark_any g x0 p bl wr hR).mono ?_); rintro e w2 ⟨rfl, rfl⟩)
              | (go_at_call 26; (with_reducible refine (left_is g x0 p bl P wr hR (by omega) (by omega) HP.out).mono ?_); rintro e w2 ⟨rfl, hf2⟩; have hR2 := hR.fresh hf2; have hS2 := hS.fresh hf2; clear hR hS)
              | (go_at_call 21; (with_reducible refine (bits_no g x0 p bl _ w2 hR2 (by omega) (by omega) (by rw [HK.out]; omega)).mono ?_); rintro e w3 ⟨rfl, bl3, hR3, hT3⟩; have hS3 := hS2.turn hT3)
              | (go_at_call 24; (with_reducible refine (back_ok g x0 p p bl3 w3 hR3 (by omega) (by omega) (by omega)).mono ?_); rintro e w4 ⟨rfl, bl4, hR4, hT4⟩; have hS4 := hS3.turn hT4; clear hR2 hS2)
              | (go_at_call 26; (with_reducible refine (left_is g x0 p bl4 P w4 hR4 (by omega) (by omega) HP.out).mono ?_); rintro e w5 ⟨rfl, hf5⟩; have hR5 := hR4.fresh hf5; have hS5 := hS4.fresh hf5; clear hR4 hS4)
              | (go_at_call 21; (with_reducible refine (bits_no g x0 p bl4 _ w5 hR5 (by omega) (by omega) (by rw [HK.out]; omega)).mono ?_); rintro e w6 ⟨rfl, bl6, hR6, hT6⟩; have hS6 := hS5.turn hT6))
            go_roundw
            case rel => exact ⟨j + 1, p, bl6, by omega, by go_num, by omega, hR6, hS6⟩
            case measure => simp [intOf]; omega
        · have h0 : j = n1 := by omega
          subst h0
          go_wp2
          go_ret
          exact ⟨rfl, hfA.trans hS.1⟩
end Go.Proofs.Ytelghdfikcodmaa.bitsBack
