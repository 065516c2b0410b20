/-
  The walk of the law WordGets. My own text.
-/
import Derived.Test.YtnhcolfldkaonaaPuts
import Derived.Test.YtnhcolfldkaonaaOpen
namespace Go.Proofs.Ytnhcolfldkaonaa.wordGets
open Go.RowKit Go.Proofs.Ytnhcolfldkaonaa.base Go.Proofs.Ytnhcolfldkaonaa.num Go.Proofs.Ytnhcolfldkaonaa.word
set_option linter.unusedVariables false

set_option maxHeartbeats 2000000 in
theorem wordGets_walk (A0 : Option Addr) (n0 c0 : Nat) (x0 : List UInt8) (a1 : Int) (a2 : Int) (w : World) (b0 : InBytes w A0 n0 c0 x0) (w1 : (Lit.int .i64 a1).wf = true) (w2 : (Lit.int .i64 a2).wf = true) :
    Calls Try.prog 4 #[.slice A0 n0 c0, .int .i64 a1, .int .i64 a2] w fun e w' => e = .returned (.bool true) ∧ Below w.heap.size w w' := by
  obtain ⟨hr, hc, hm⟩ := b0
  have hw := wide_bd a2
  have e1 := i64_bd w1
  have e2 := i64_bd w2
  have HM := Lib.hid hm
  have hm2 : c0 ≤ 9223372036854775807 := by unfold maxLen at hm; omega
  clear hm w1 w2
  by_cases hbig : 300 < n0
  · go_enter Try.func4, Try.ntmps4
    go_wp2_with (go_at_call 9; refine (wakes_any _).mono ?_; rintro e wA ⟨rfl, hfA⟩)
    go_ret
    exact ⟨rfl, hfA⟩
  · by_cases h1 : a1 < 0
    · go_enter Try.func4, Try.ntmps4
      go_wp2_with (first
        | (go_at_call 9; refine (wakes_any _).mono ?_; rintro e wA ⟨rfl, hfA⟩)
        | (go_at_call 16; refine (wide_any _ _).mono ?_; rintro e w' ⟨rfl, rfl⟩)
        | (go_at_call 15; refine (get_arg _ _ _ _ _ _ h1).mono ?_; rintro e w' ⟨rfl, rfl⟩)
        | (go_at_call 17; refine (cut_arg _ _ _ _ _ _ (.inl h1)).mono ?_; rintro e w' ⟨rfl, rfl⟩))
      go_ret
      exact ⟨rfl, hfA⟩
    · obtain ⟨p, rfl⟩ := Int.eq_ofNat_of_zero_le (show 0 ≤ a1 by omega)
      by_cases h2 : n0 < p
      · by_cases h3 : a2 < 0
        all_goals
          go_enter Try.func4, Try.ntmps4
          go_wp2_with (first
            | (go_at_call 9; refine (wakes_any _).mono ?_; rintro e wA ⟨rfl, hfA⟩)
            | (go_at_call 16; refine (wide_any _ _).mono ?_; rintro e w' ⟨rfl, rfl⟩)
            | (go_at_call 15; refine (get_end _ _ _ _ _ _ (by unfold maxLen; omega) (by omega) (by omega) (by omega)).mono ?_; rintro e w' ⟨rfl, rfl⟩)
            | (go_at_call 17; refine (cut_arg _ _ _ _ _ _ (.inr (by omega))).mono ?_; rintro e w' ⟨rfl, rfl⟩)
            | (go_at_call 17; refine (cut_end _ _ _ _ _ _ (by unfold maxLen; omega) (by omega) (by omega) (by omega) (by omega)).mono ?_; rintro e w' ⟨rfl, rfl⟩))
          go_ret
          exact ⟨rfl, hfA⟩
      · have hgot : ∀ W : World, Fresh w W → Rd W w.heap.size A0 n0 (x0.map bv) := fun W h => hr.below h (Nat.le_refl _)
        have HG := Lib.hid hgot
        obtain ⟨R, hR⟩ : ∃ R : Int, (num ((x0.drop p).take (wide a2)) : Int) = R := ⟨_, rfl⟩
        have HR := Lib.hid hR
        clear hgot hR
        have hnum : p + wide a2 ≤ n0 → ∀ W : World, Fresh w W → Rd W w.heap.size (A0.map (·.add p)) (wide a2) (((x0.drop p).take (wide a2)).map bv) := fun hh W h => by
          have := (hr.below h (Nat.le_refl _)).cut (lo := p) (hi := p + wide a2) (cap := c0) (by omega) hh hc
          rw [if_neg (by omega), show p + wide a2 - p = wide a2 from by omega, ← List.map_drop, ← List.map_take] at this
          exact this
        have HN0 := Lib.hid hnum
        clear hnum
        have hne : p + wide a2 ≤ n0 → ¬ c0 = p := by omega
        have HNE := Lib.hid hne
        clear hne
        have hnum : p + wide a2 ≤ n0 → ∀ W : World, Fresh w W → Rd W w.heap.size (A0.map (·.add p)) (wide a2) (((x0.drop p).take (wide a2)).map bv) := fun hh W h => by
          have := (hr.below h (Nat.le_refl _)).cut (lo := p) (hi := p + wide a2) (cap := c0) (by omega) hh hc
          rw [if_neg (by omega), show p + wide a2 - p = wide a2 from by omega, ← List.map_drop, ← List.map_take] at this
          exact this
        have HN0 := Lib.hid hnum
        clear hnum
        have hne : p + wide a2 ≤ n0 → ¬ c0 = p := by omega
        have HNE := Lib.hid hne
        clear hne
        have hnum : p + wide a2 ≤ n0 → ∀ W : World, Fresh w W → Rd W w.heap.size (A0.map (·.add p)) (wide a2) (((x0.drop p).take (wide a2)).map bv) := fun hh W h => by
          have := (hr.below h (Nat.le_refl _)).cut (lo := p) (hi := p + wide a2) (cap := c0) (by omega) hh hc
          rw [if_neg (by omega), show p + wide a2 - p = wide a2 from by omega, ← List.map_drop, ← List.map_take] at this
          exact this
        have HN0 := Lib.hid hnum
        clear hnum
        have hne : p + wide a2 ≤ n0 → ¬ c0 = p := by omega
        have HNE := Lib.hid hne
        clear hne
        have hcase : a2 < 0 ∨ (n0 : Int) - p < a2 ∨ (0 ≤ a2 ∧ a2 ≤ (n0 : Int) - p) := by omega
        have hcg : (n0 : Int) - p < wide a2 ∨ p + wide a2 ≤ n0 := by omega
        rcases hcase with hc2 | hc2 | ⟨hc2, hc3⟩
        · rcases hcg with hg | hg
          · have hd1 := hg
            go_enter Try.func4, Try.ntmps4
            go_wp2_with (first
              | (go_at_call 9; refine (wakes_any _).mono ?_; rintro e wA ⟨rfl, hfA⟩)
              | (go_at_call 16; refine (wide_any _ _).mono ?_; rintro e w' ⟨rfl, rfl⟩)
              | (go_at_call 15; refine (get_end _ _ _ _ _ _ (by unfold maxLen; omega) (by omega) (by omega) (by omega)).mono ?_; rintro e w' ⟨rfl, rfl⟩)
              | (go_at_call 17; refine (cut_arg _ _ _ _ _ _ (.inr hc2)).mono ?_; rintro e w' ⟨rfl, rfl⟩))
            go_ret
            exact ⟨rfl, hfA⟩
          · have HN := Lib.hid (HN0.out hg)
            have hne := HNE.out hg
            go_enter Try.func4, Try.ntmps4
            go_wp2_with (first
              | (go_at_call 9; refine (wakes_any _).mono ?_; rintro e wA ⟨rfl, hfA⟩)
              | (go_at_call 16; refine (wide_any _ _).mono ?_; rintro e w' ⟨rfl, rfl⟩)
              | (go_at_call 15; refine (get_is A0 n0 c0 x0 p a2 _ w.heap.size R (HG.out _ hfA) hc HM.out (by omega) (by omega) HR.out).mono ?_; rintro e w' ⟨rfl, rfl⟩)
              | (go_at_call 12; refine (number_is _ _ _ _ _ w.heap.size R (HN.out _ hfA) hw.2 HR.out).mono ?_; rintro e w' ⟨rfl, rfl⟩)
              | (go_at_call 17; refine (cut_arg _ _ _ _ _ _ (.inr hc2)).mono ?_; rintro e w' ⟨rfl, rfl⟩))
            go_ret
            exact ⟨rfl, hfA⟩
        · have hpos : 0 ≤ a2 := by omega
          rcases hcg with hg | hg
          · have hd1 := hg
            go_enter Try.func4, Try.ntmps4
            go_wp2_with (first
              | (go_at_call 9; refine (wakes_any _).mono ?_; rintro e wA ⟨rfl, hfA⟩)
              | (go_at_call 16; refine (wide_any _ _).mono ?_; rintro e w' ⟨rfl, rfl⟩)
              | (go_at_call 15; refine (get_end _ _ _ _ _ _ (by unfold maxLen; omega) (by omega) (by omega) (by omega)).mono ?_; rintro e w' ⟨rfl, rfl⟩)
              | (go_at_call 17; refine (cut_end _ _ _ _ _ _ (by unfold maxLen; omega) (by omega) (by omega) (by omega) hc2).mono ?_; rintro e w' ⟨rfl, rfl⟩))
            go_ret
            exact ⟨rfl, hfA⟩
          · have HN := Lib.hid (HN0.out hg)
            have hne := HNE.out hg
            go_enter Try.func4, Try.ntmps4
            go_wp2_with (first
              | (go_at_call 9; refine (wakes_any _).mono ?_; rintro e wA ⟨rfl, hfA⟩)
              | (go_at_call 16; refine (wide_any _ _).mono ?_; rintro e w' ⟨rfl, rfl⟩)
              | (go_at_call 15; refine (get_is A0 n0 c0 x0 p a2 _ w.heap.size R (HG.out _ hfA) hc HM.out (by omega) (by omega) HR.out).mono ?_; rintro e w' ⟨rfl, rfl⟩)
              | (go_at_call 12; refine (number_is _ _ _ _ _ w.heap.size R (HN.out _ hfA) hw.2 HR.out).mono ?_; rintro e w' ⟨rfl, rfl⟩)
              | (go_at_call 17; refine (cut_end _ _ _ _ _ _ (by unfold maxLen; omega) (by omega) (by omega) (by omega) hc2).mono ?_; rintro e w' ⟨rfl, rfl⟩))
            go_ret
            exact ⟨rfl, hfA⟩
        · obtain ⟨k, rfl⟩ := Int.eq_ofNat_of_zero_le hc2
          have hsame : ∀ W : World, Fresh w W → Rd W w.heap.size (if c0 = p then A0 else A0.map (·.add p)) k (((x0.drop p).take k).map bv) := fun W h => by
            have := (hr.below h (Nat.le_refl _)).cut (lo := p) (hi := p + k) (cap := c0) (by omega) (by omega) hc
            rw [show p + k - p = k from by omega, ← List.map_drop, ← List.map_take] at this
            exact this
          have HS0 := Lib.hid hsame
          clear hsame
          rcases hcg with hg | hg
          · by_cases hcp : c0 = p
            · have hs2 := HS0.out
              simp only [if_pos hcp] at hs2
              have HS := Lib.hid hs2
              clear hs2
              have hcp2 := hcp.symm
              clear hcp
              subst hcp2
              go_enter Try.func4, Try.ntmps4
              go_wp2_with (first
                | (go_at_call 9; refine (wakes_any _).mono ?_; rintro e wA ⟨rfl, hfA⟩)
                | (go_at_call 16; refine (wide_any _ _).mono ?_; rintro e w' ⟨rfl, rfl⟩)
                | (go_at_call 15; refine (get_end _ _ _ _ _ _ (by unfold maxLen; omega) (by omega) (by omega) (by omega)).mono ?_; rintro e w' ⟨rfl, rfl⟩)
                | (go_at_call 17; refine (cut_ok A0 n0 p x0 p k _ w.heap.size (HG.out _ hfA) hfA.size hc HM.out (by omega) (by omega)).mono ?_; rintro e wB ⟨A1, c1, rfl, hfB, ho1⟩)
                | (go_at_call 13; refine (same_yes _ _ k _ _ ((x0.drop p).take k) _ _ w.heap.size ho1.rd (HS.out _ (hfA.trans hfB)) (by unfold maxLen; omega)).mono ?_; rintro e wC ⟨rfl, hfC⟩))
              go_ret
              exact ⟨rfl, (hfA.trans hfB).trans hfC⟩
            · have hs2 := HS0.out
              simp only [if_neg hcp] at hs2
              have HS := Lib.hid hs2
              clear hs2
              go_enter Try.func4, Try.ntmps4
              go_wp2_with (first
                | (go_at_call 9; refine (wakes_any _).mono ?_; rintro e wA ⟨rfl, hfA⟩)
                | (go_at_call 16; refine (wide_any _ _).mono ?_; rintro e w' ⟨rfl, rfl⟩)
                | (go_at_call 15; refine (get_end _ _ _ _ _ _ (by unfold maxLen; omega) (by omega) (by omega) (by omega)).mono ?_; rintro e w' ⟨rfl, rfl⟩)
                | (go_at_call 17; refine (cut_ok A0 n0 c0 x0 p k _ w.heap.size (HG.out _ hfA) hfA.size hc HM.out (by omega) (by omega)).mono ?_; rintro e wB ⟨A1, c1, rfl, hfB, ho1⟩)
                | (go_at_call 13; refine (same_yes _ _ k _ _ ((x0.drop p).take k) _ _ w.heap.size ho1.rd (HS.out _ (hfA.trans hfB)) (by unfold maxLen; omega)).mono ?_; rintro e wC ⟨rfl, hfC⟩))
              go_ret
              exact ⟨rfl, (hfA.trans hfB).trans hfC⟩
          · have HN := Lib.hid (HN0.out hg)
            have hcp := HNE.out hg
            have hs2 := HS0.out
            simp only [if_neg hcp] at hs2
            have HS := Lib.hid hs2
            clear hs2
            go_enter Try.func4, Try.ntmps4
            go_wp2_with (first
              | (go_at_call 9; refine (wakes_any _).mono ?_; rintro e wA ⟨rfl, hfA⟩)
              | (go_at_call 16; refine (wide_any _ _).mono ?_; rintro e w' ⟨rfl, rfl⟩)
              | (go_at_call 15; refine (get_is A0 n0 c0 x0 p k _ w.heap.size R (HG.out _ hfA) hc HM.out (by omega) (by omega) HR.out).mono ?_; rintro e w' ⟨rfl, rfl⟩)
              | (go_at_call 12; refine (number_is _ _ _ _ _ w.heap.size R (HN.out _ hfA) hw.2 HR.out).mono ?_; rintro e w' ⟨rfl, rfl⟩)
              | (go_at_call 17; refine (cut_ok A0 n0 c0 x0 p k _ w.heap.size (HG.out _ hfA) hfA.size hc HM.out (by omega) (by omega)).mono ?_; rintro e wB ⟨A1, c1, rfl, hfB, ho1⟩)
              | (go_at_call 13; refine (same_yes _ _ k _ _ ((x0.drop p).take k) _ _ w.heap.size ho1.rd (HS.out _ (hfA.trans hfB)) (by unfold maxLen; omega)).mono ?_; rintro e wC ⟨rfl, hfC⟩))
            go_ret
            exact ⟨rfl, (hfA.trans hfB).trans hfC⟩

end Go.Proofs.Ytnhcolfldkaonaa.wordGets
