/-
  The reference's Same, of any two. My own text.
-/
import Derived.Test.YtcfijppfccfbdaaLeaf
namespace Go.Proofs.Ytcfijppfccfbdaa.word
open Go.RowKit Go.Proofs.Ytcfijppfccfbdaa.base
set_option linter.unusedVariables false
theorem same_gen (A D : Option Addr) (n m c d : Nat) (xs ys : List UInt8) (w : World) (B B' : Nat) (ha : Rd w B A n (xs.map bv)) (hd : Rd w B' D m (ys.map bv)) (hn : n ≤ 9223372036854775807) (hm : m ≤ 9223372036854775807) (b : Bool) (hb : decide (xs = ys) = b) :
    Calls Try.prog 10 #[.slice A n c, .slice D m d] w fun e w' => e = .returned (.bool b) ∧ Fresh w w' := by
  have hlx : xs.length = n := by have := ha.1; rwa [List.length_map] at this
  have hly : ys.length = m := by have := hd.1; rwa [List.length_map] at this
  by_cases hnm : n = m
  · subst hnm
    go_enter Try.func10, Try.ntmps10
    have tn : ((n : Int) != (n : Int)) = false := by simp
    go_wp2
    go_loopw [5] (fun i wr => ∃ (k q : Nat), k ≤ n ∧ i = .int .i64 k ∧ wr = w.drewN q ∧ Hid (xs.take k = ys.take k)) (fun i _ => n - (intOf i).toNat)
    case atStart => exact ⟨0, 0, by omega, rfl, rfl, Lib.hid rfl⟩
    case round =>
      obtain ⟨k, q, hk, rfl, rfl, hE⟩ := hrel
      by_cases hlt : k < n
      · obtain ⟨o, off, x, rfl, ho, hx, hcx⟩ := ha.at_ hlt
        obtain ⟨o', off', x', rfl, ho', hx', hcx'⟩ := hd.at_ hlt
        by_cases hxx : x = x'
        · subst hxx
          have hnext : Hid (xs.take (k + 1) = ys.take (k + 1)) := by
            show _ = _
            rw [List.take_add_one, List.take_add_one, hx, hx', hE.out]
          have te : ((x.toNat : Int) != (x.toNat : Int)) = false := by simp
          clear hx hx' ha hd hlx hly hb
          go_wp2
          go_quiet (fail)
          go_wp2
          go_roundw
          case rel => exact ⟨k + 1, _, by omega, by go_num, rfl, hnext⟩
          case measure => simp [intOf]; omega
        · have hne : x.toNat ≠ x'.toNat := fun e => hxx (UInt8.toNat_inj.1 e)
          have te : ((x.toNat : Int) != (x'.toNat : Int)) = true := by rw [bne_iff_ne]; omega
          have hbf : b = false := by
            rw [← hb, decide_eq_false_iff_not]
            intro e
            rw [e, hx'] at hx
            injection hx with hx
            exact hxx hx.symm
          subst hbf
          clear hx hx' ha hd hlx hly hb hE hne hxx
          go_wp2
          go_quiet (fail)
          go_wp2
          go_ret
          exact ⟨rfl, (Fresh.drewN _ _).trans (Fresh.drewN _ _)⟩
      · have hbt : b = true := by
          rw [← hb, decide_eq_true_iff]
          have h := hE.out
          rwa [List.take_of_length_le (by omega), List.take_of_length_le (by omega)] at h
        subst hbt
        clear hb hE
        go_wp2
        go_ret
        exact ⟨rfl, Fresh.drewN _ _⟩
  · have hbf : b = false := by
      rw [← hb, decide_eq_false_iff_not]
      intro e
      rw [e] at hlx
      omega
    subst hbf
    have tn : ((n : Int) != (m : Int)) = true := by rw [bne_iff_ne]; omega
    clear hb hlx hly
    go_enter Try.func10, Try.ntmps10
    go_wp2
    go_ret
    exact ⟨rfl, Fresh.refl _⟩
end Go.Proofs.Ytcfijppfccfbdaa.word
