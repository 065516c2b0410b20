/-
  Layer 9's reference: May. My own text.
-/
import Derived.Test.YtaldbcfgfcdlhaaDoorNamRefs2
namespace Go.Proofs.YtaldbcfgfcdlhaaDoor.namp
open Go.RowKit Go.Proofs.YtaldbcfgfcdlhaaDoor.base Go.Proofs.YtaldbcfgfcdlhaaDoor.nam
set_option linter.unusedVariables false

set_option maxHeartbeats 4000000 in
set_option maxRecDepth 100000 in
theorem refMay_any (A : Option Addr) (n c : Nat) (bs : List UInt8) (rs : List Nat) (u : List UInt8) (ht : bs = tx rs ++ u) (hrn : ∀ r ∈ rs, Rn r) (hu : u = [] ∨ Bad u) (w : World) (B : Nat) (hr : Rd w B A n (bs.map bv)) (hB : B ≤ w.heap.size) (hn : n ≤ 4294967296) (hc : n ≤ c) (hcm : c ≤ maxLen) :
    Calls Tryd.prog 14 #[.slice A n c] w fun e w' => e = .returned (.bool (mayP rs u)) ∧ Fresh w w' := by
  have hl : bs.length = n := by have := hr.1; rwa [List.length_map] at this
  have hrd := read_any A n c bs rs u ht hrn hu w B hr hB hn hc hcm
  have hlen : (tx rs ++ u).length = n := by rw [← ht, hl]
  have HT := Lib.hid ht
  have HL := Lib.hid hl
  have HRD := Lib.hid hrd
  by_cases h1 : n < 1
  · have hp : mayP rs u = false := by rw [mayP, hlen, decide_eq_false (by omega)]; rfl
    rw [hp]
    have t1 : decide ((n : Int) < 1) = true := by rw [decide_eq_true_iff]; omega
    clear hrd ht hrn hu hr hlen hp h1 hl
    go_enter Tryd.func14, Tryd.ntmps14
    go_wp2_with (go_at_call 15; (refine HRD.out.mono ?_); rintro e w1 ⟨LA, m, lc, rfl, hf1, hm1, hrest⟩)
    go_ret
    exact ⟨rfl, hf1.trans (Fresh.alloc _ _)⟩
  by_cases h2 : 40 < n
  · have hp : mayP rs u = false := by rw [mayP, hlen, decide_eq_false (p := n ≤ 40) (by omega)]; simp
    rw [hp]
    have t1 : decide ((n : Int) < 1) = false := by rw [decide_eq_false_iff_not]; omega
    have t2 : decide ((n : Int) > 40) = true := by rw [decide_eq_true_iff]; omega
    have t3 : decide (40 < (n : Int)) = true := by rw [decide_eq_true_iff]; omega
    clear hrd ht hrn hu hr hlen hp h1 h2 hl
    go_enter Tryd.func14, Tryd.ntmps14
    go_wp2_with (go_at_call 15; (refine HRD.out.mono ?_); rintro e w1 ⟨LA, m, lc, rfl, hf1, hm1, hrest⟩)
    go_ret
    exact ⟨rfl, hf1.trans (Fresh.alloc _ _)⟩
  have t1 : decide ((n : Int) < 1) = false := by rw [decide_eq_false_iff_not]; omega
  have t2 : decide ((n : Int) > 40) = false := by rw [decide_eq_false_iff_not]; omega
  have t3 : decide (40 < (n : Int)) = false := by rw [decide_eq_false_iff_not]; omega
  rcases hu with hu | hub
  · have hp : mayP rs u = rs.all fun r => decide (32 ≤ r) && decide (r ≠ 127) := by
      rw [mayP, hlen, decide_eq_true (p := 1 ≤ n) (by omega), decide_eq_true (p := n ≤ 40) (by omega), decide_eq_true hu]; rfl
    rw [hp]
    have HU := Lib.hid hu
    have HRN := Lib.hid hrn
    have hmn : rs.length ≤ n := by
      have h1 := tx_le rs
      rw [List.length_append] at hlen
      omega
    clear hrd ht hrn hu hr hlen hp h1 h2 hl
    go_enter Tryd.func14, Tryd.ntmps14
    go_wp2_with (go_at_call 15; (refine HRD.out.mono ?_); rintro e w1 ⟨LA, m, lc, rfl, hf1, hm1, hrest⟩; (rw [decide_eq_true HU.out]); have hbl := Bk.made w1 tRunes #[.slice LA m lc, .bool true]; have k1 := hbl.cell (i := 1) rfl; have HBL := Lib.hid hbl; have HF1 := Lib.hid hf1; have HREST := Lib.hid (hrest HU.out); clear hf1 hrest hbl)
    have hml : m = rs.length := HREST.out.1
    have hll : Rd (w1.alloc (.cells #[.slice LA m lc, .bool true] tRunes)) w1.heap.size LA m (rv rs) := HREST.out.2.below (Fresh.alloc w1 (.cells #[.slice LA m lc, .bool true] tRunes)) (Nat.le_refl _)
    have hff : Fresh w (w1.alloc (.cells #[.slice LA m lc, .bool true] tRunes)) := HF1.out.trans (Fresh.alloc _ _)
    have HLL := Lib.hid hll
    have HFF := Lib.hid hff
    have HML := Lib.hid hml
    have hmb : m ≤ n := by omega
    obtain ⟨W, hW⟩ : ∃ W, w1.alloc (.cells #[.slice LA m lc, .bool true] tRunes) = W := ⟨_, rfl⟩
    rw [hW] at HLL HFF HBL k1
    have hW2 : w1.alloc (.cells #[.slice LA m lc, .bool true] tRunes) = W := hW
    clear hll hff hml hW
    rw [hW2]
    clear hW2
    have k0 := HBL.out.cell (i := 0) rfl
    go_loopw [4] (fun v wr => ∃ k : Nat, k ≤ m ∧ v = .int .i64 k ∧ Hid (((rs.take k).all fun r => decide (32 ≤ r) && decide (r ≠ 127)) = true) ∧ wr = W) (fun v _ => m - (intOf v).toNat)
    case atStart => exact ⟨0, Nat.zero_le _, rfl, rfl, rfl⟩
    case round =>
      obtain ⟨k, hk, rfl, hall, rfl⟩ := hrel
      by_cases hlt : k < m
      · obtain ⟨lb, lo, r, hLA, hlbB, hr, hcr⟩ := HLL.out.at_ (enc := fun x : Nat => iv (x : Int)) hlt
        subst hLA
        have HR := Lib.hid hr
        have hsplit : rs = rs.take k ++ r :: rs.drop (k + 1) := by
          have h1 := List.take_append_drop k rs
          obtain ⟨hl2, hg⟩ := List.getElem?_eq_some_iff.1 hr
          rw [List.drop_eq_getElem_cons hl2, hg] at h1
          exact h1.symm
        have HSP := Lib.hid hsplit
        clear hr hsplit
        by_cases b1 : r < 32
        · have c1 : decide ((r : Int) < 32) = true := by rw [decide_eq_true_iff]; omega
          have HB := Lib.hid b1
          clear b1
          go_wp2
          go_ret
          have hz : (rs.all fun r => decide (32 ≤ r) && decide (r ≠ 127)) = false := by
            rw [HSP.out, List.all_append, List.all_cons, decide_eq_false (p := 32 ≤ r) (by have := HB.out; omega)]; simp
          rw [hz]
          exact ⟨rfl, HFF.out⟩
        have c1 : decide ((r : Int) < 32) = false := by rw [decide_eq_false_iff_not]; omega
        by_cases b2 : r = 127
        · have c2 : ((r : Int) == 127) = true := by rw [beq_iff_eq]; omega
          have HB := Lib.hid b2
          clear b1 b2
          go_wp2
          go_ret
          have hz : (rs.all fun r => decide (32 ≤ r) && decide (r ≠ 127)) = false := by
            rw [HSP.out, List.all_append, List.all_cons, decide_eq_false (p := r ≠ 127) (fun h => h HB.out)]; simp
          rw [hz]
          exact ⟨rfl, HFF.out⟩
        · have c2 : ((r : Int) == 127) = false := by rw [beq_eq_false_iff_ne]; omega
          have HB1 := Lib.hid b1
          have HB2 := Lib.hid b2
          clear b1 b2
          go_wp2
          go_roundw
          case rel => exact ⟨k + 1, by omega, by go_num, by show _ = _; rw [take_snoc _ _ _ HR.out, List.all_append, hall.out, List.all_cons, List.all_nil, decide_eq_true (p := 32 ≤ r) (by have := HB1.out; omega), decide_eq_true (p := r ≠ 127) HB2.out]; rfl, trivial⟩
          case measure => simp [intOf]; omega
      · obtain rfl : k = m := by omega
        go_wp2
        go_ret
        have hal := hall.out
        rw [List.take_of_length_le (Nat.le_of_eq HML.out.symm)] at hal
        rw [hal]
        exact ⟨rfl, HFF.out⟩
  · have hp : mayP rs u = false := by rw [mayP, decide_eq_false (p := u = []) hub.1]; simp
    rw [hp]
    have HU := Lib.hid hub
    clear hrd ht hrn hub hr hlen hp h1 h2 hl
    go_enter Tryd.func14, Tryd.ntmps14
    go_wp2_with (go_at_call 15; (refine HRD.out.mono ?_); rintro e w1 ⟨LA, m, lc, rfl, hf1, hm1, hrest⟩; (rw [decide_eq_false HU.out.1]); have k1 := (Bk.made w1 tRunes #[.slice LA m lc, .bool false]).cell (i := 1) rfl)
    go_ret
    exact ⟨rfl, hf1.trans (Fresh.alloc _ _)⟩
end Go.Proofs.YtaldbcfgfcdlhaaDoor.namp
