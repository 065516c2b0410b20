/-
  The walk of the law CrcJoins. My own text.
-/
import Derived.Test.YthbgfmokhofehaaCrcUse
import Derived.Test.YthbgfmokhofehaaOpen
namespace Go.Proofs.Ythbgfmokhofehaa.crcJoins
open Go.RowKit Go.Proofs.Ythbgfmokhofehaa.base Go.Proofs.Ythbgfmokhofehaa.crcnum Go.Proofs.Ythbgfmokhofehaa.crc
set_option linter.unusedVariables false

theorem crcJoins_walk (A0 : Option Addr) (n0 c0 : Nat) (x0 : List UInt8) (A1 : Option Addr) (n1 c1 : Nat) (x1 : List UInt8) (A2 : Option Addr) (n2 c2 : Nat) (x2 : List UInt8) (w : World) (b0 : InBytes w A0 n0 c0 x0) (b1 : InBytes w A1 n1 c1 x1) (b2 : InBytes w A2 n2 c2 x2) :
    Calls Try.prog 6 #[.slice A0 n0 c0, .slice A1 n1 c1, .slice A2 n2 c2] w fun e w' => e = .returned (.bool true) ∧ Below w.heap.size w w' := by
  obtain ⟨s0, h0⟩ : ∃ s, sum x0 = s := ⟨_, rfl⟩
  obtain ⟨s1, h1⟩ : ∃ s, sum x1 = s := ⟨_, rfl⟩
  obtain ⟨t0, k0⟩ : ∃ s, sum (x0 ++ x2) = s := ⟨_, rfl⟩
  obtain ⟨t1, k1⟩ : ∃ s, sum (x1 ++ x2) = s := ⟨_, rfl⟩
  have hj := sum_joins x0 x1 x2
  rw [h0, h1, k0, k1] at hj
  have hd : ((((s0 : Nat) : Int) == ((s1 : Nat) : Int)) == (((t0 : Nat) : Int) == ((t1 : Nat) : Int))) = true := by
    rw [beq_iff_eq, Bool.eq_iff_iff, beq_iff_eq, beq_iff_eq]
    omega
  have HD := Lib.hid hd
  have H0 := Lib.hid h0
  have H1 := Lib.hid h1
  have K0 := Lib.hid k0
  have K1 := Lib.hid k1
  clear hd h0 h1 k0 k1 hj
  obtain ⟨r0, hc0, hm0⟩ := b0
  obtain ⟨r1, hc1, hm1⟩ := b1
  obtain ⟨r2, hc2, hm2⟩ := b2
  unfold maxLen at hm0 hm1 hm2
  by_cases hall : n0 ≤ 500 ∧ n2 ≤ 500 ∧ n0 = n1
  · obtain ⟨h500, h5002, rfl⟩ := hall
    go_enter Try.func6, Try.ntmps6
    go_wp2_with (first
      | (go_at_call 7; refine (wakes_any _).mono ?_; rintro e wA ⟨rfl, hfA⟩)
      | (go_at_call 13; (with_reducible refine (of_one A0 n0 c0 x0 wA w.heap.size s0 (r0.below hfA (Nat.le_refl _)) hfA.size (by omega) H0.out _ rfl).mono ?_); rintro e w1 ⟨rfl, hf1⟩; have hg1 : Fresh w w1 := (hfA.trans (Fresh.alloc _ _)).trans hf1)
      | (go_at_call 13; (with_reducible refine (of_one A1 n0 c1 x1 w1 w.heap.size s1 (r1.below hg1 (Nat.le_refl _)) hg1.size (by omega) H1.out _ rfl).mono ?_); rintro e w2 ⟨rfl, hf2⟩; have hg2 : Fresh w w2 := (hg1.trans (Fresh.alloc _ _)).trans hf2)
      | (go_at_call 13; (with_reducible refine (of_two A0 A2 n0 n2 c0 c2 x0 x2 w2 w.heap.size t0 (r0.below hg2 (Nat.le_refl _)) (r2.below hg2 (Nat.le_refl _)) hg2.size (by omega) (by omega) K0.out _ rfl).mono ?_); rintro e w3 ⟨rfl, hf3⟩; have hg3 : Fresh w w3 := (hg2.trans (Fresh.alloc _ _)).trans hf3)
      | (go_at_call 13; (with_reducible refine (of_two A1 A2 n0 n2 c1 c2 x1 x2 w3 w.heap.size t1 (r1.below hg3 (Nat.le_refl _)) (r2.below hg3 (Nat.le_refl _)) hg3.size (by omega) (by omega) K1.out _ rfl).mono ?_); rintro e w4 ⟨rfl, hf4⟩; have hg4 : Fresh w w4 := (hg3.trans (Fresh.alloc _ _)).trans hf4))
    go_ret
    exact ⟨congrArg (fun v => Ending.returned (.bool v)) HD.out, hg4⟩
  · by_cases h1 : 500 < n0
    · clear hall
      go_enter Try.func6, Try.ntmps6
      go_wp2_with (go_at_call 7; refine (wakes_any _).mono ?_; rintro e wA ⟨rfl, hfA⟩)
      all_goals go_ret
      all_goals exact ⟨rfl, hfA⟩
    · by_cases h2 : 500 < n2
      · clear hall
        go_enter Try.func6, Try.ntmps6
        go_wp2_with (go_at_call 7; refine (wakes_any _).mono ?_; rintro e wA ⟨rfl, hfA⟩)
        all_goals go_ret
        all_goals exact ⟨rfl, hfA⟩
      · have h3 : ((n0 : Int) != (n1 : Int)) = true := by rw [bne_iff_ne]; omega
        clear hall
        go_enter Try.func6, Try.ntmps6
        go_wp2_with (go_at_call 7; refine (wakes_any _).mono ?_; rintro e wA ⟨rfl, hfA⟩)
        all_goals go_ret
        all_goals exact ⟨rfl, hfA⟩
end Go.Proofs.Ythbgfmokhofehaa.crcJoins
