import Derived.Test.YtmnegmebkmihhaaGreatDoorMgUzb
/-
  record's last: my own text.
-/
namespace Go.Proofs.YtmnegmebkmihhaaGreatDoor.recp
open Go.RowKit Go.Proofs.YtmnegmebkmihhaaGreatDoor.base Go.Proofs.YtmnegmebkmihhaaGreatDoor.num Go.Proofs.YtmnegmebkmihhaaGreatDoor.word Go.Proofs.YtmnegmebkmihhaaGreatDoor.recn
set_option linter.unusedVariables false
theorem lastAt_hit {xs : List UInt8} {lo j : Nat} (h : lo ≤ j) (he : ends xs j = true) : lastAt xs lo (j + 1) = some j := by
  rw [lastAt, if_neg (by omega), if_pos he]
theorem lastAt_next {xs : List UInt8} {lo j : Nat} (h : lo ≤ j) (he : ends xs j = false) : lastAt xs lo (j + 1) = lastAt xs lo j := by
  rw [lastAt, if_neg (by omega), if_neg (by rw [he]; simp)]
theorem lastAt_low {xs : List UInt8} {lo k : Nat} (h : k ≤ lo) : lastAt xs lo k = none := by
  cases k with
  | zero => rfl
  | succ j => rw [lastAt, if_pos (by omega)]
theorem lastAt_ends {xs : List UInt8} {lo k p : Nat} (h : lastAt xs lo k = some p) : ends xs p = true ∧ p < k ∧ lo ≤ p := by
  induction k with
  | zero => cases h
  | succ j ih =>
    by_cases hj : j < lo
    · rw [lastAt, if_pos hj] at h; cases h
    · by_cases he : ends xs j = true
      · rw [lastAt_hit (by omega) he] at h
        injection h with h
        subst h
        exact ⟨he, by omega, by omega⟩
      · rw [lastAt_next (by omega) (by simpa using he)] at h
        obtain ⟨h1, h2, h3⟩ := ih h
        exact ⟨h1, by omega, h3⟩
theorem ends_long {xs : List UInt8} {p : Nat} (h : ends xs p = true) : p + 22 ≤ xs.length := by
  unfold ends at h
  rw [Bool.and_eq_true, decide_eq_true_iff] at h
  omega
theorem ends_of {xs : List UInt8} {j n : Nat} (hn : xs.length = n) (hj : j + 22 ≤ n) (a b : Bool) (ha : ((xs.drop j).take 4 == [80, 75, 5, 6]) = a) (hb : decide (22 + nm (xs.drop j) 20 2 = n - j) = b) : ends xs j = (a && b) := by
  unfold ends sg
  rw [ha, ← hb, nm_drop, hn]
  congr 1
  rw [decide_eq_decide]
  omega
def LastIs (r : Option Nat) (e : Ending) : Prop :=
  match r with
  | none => e = .returned (.tuple #[.int .i64 0, .bool false])
  | some p => e = .returned (.tuple #[.int .i64 p, .bool true])
set_option maxRecDepth 100000 in
set_option maxHeartbeats 4000000 in
theorem last_small (A : Option Addr) (n c : Nat) (xs : List UInt8) (w : World) (B : Nat) (hr : Rd w B A n (xs.map bv)) (hB : B ≤ w.heap.size) (hc : n ≤ c) (hm : c ≤ maxLen) (hn : n ≤ 1099511627776) (hsz : n ≤ 65557) :
    Calls Tryz.prog 65 #[.slice A n c] w fun e w' => LastIs (lastAt xs (n - 65557) (n - 21)) e ∧ Fresh w w' := by
  have hlx : xs.length = n := by have := hr.1; rwa [List.length_map] at this
  have HLX := Lib.hid hlx
  by_cases hs : n < 22
  · have hif : ¬ (65557 : Int) < (n : Int) := by omega
    rw [show n - 21 = 0 from by omega]
    clear hlx hr
    go_enter Tryz.func65, Tryz.ntmps65
    go_wp2
    go_loopw [4] (fun i wr => i = .int .i64 ((n : Int) - 22) ∧ wr = w) (fun i _ => 0)
    case atStart => exact ⟨rfl, rfl⟩
    case round =>
      obtain ⟨rfl, rfl⟩ := hrel
      go_wp2
      go_ret2
      exact ⟨rfl, Fresh.refl _⟩
  · have hif : ¬ (65557 : Int) < (n : Int) := by omega
    have HR := Lib.hid hr
    clear hlx hr
    obtain ⟨lo, hlo0⟩ : ∃ lo, n - 65557 = lo := ⟨_, rfl⟩
    rw [hlo0]
    have hl0 : lo = 0 := by omega
    subst hl0
    clear hlo0
    go_enter Tryz.func65, Tryz.ntmps65
    go_wp2
    go_loopw [4] (fun i wr => ∃ (k : Nat) (z : Int), k ≤ n - 21 ∧ i = .int .i64 z ∧ z = (k : Int) - 1 ∧ Hid (lastAt xs 0 k = lastAt xs 0 (n - 21)) ∧ Fresh w wr) (fun i _ => (intOf i + 1).toNat)
    case atStart => exact ⟨n - 21, _, Nat.le_refl _, rfl, by omega, rfl, Fresh.refl _⟩
    case round =>
      obtain ⟨k, z, hk, rfl, hz, hL, hF⟩ := hrel
      by_cases hlo : 0 < k
      · obtain ⟨j, rfl⟩ : ∃ j, k = j + 1 := ⟨k - 1, by omega⟩
        obtain rfl : z = (j : Int) := by omega
        clear hz
        have hr1 := HR.out.keep fun i hi => hF.block i (by omega)
        have ht := hr1.cut (lo := j) (hi := n) (cap := c) (by omega) (Nat.le_refl _) hc
        rw [if_neg (by omega), ← List.map_drop, ← List.map_take, List.take_of_length_le (l := xs.drop j) (by rw [List.length_drop, HLX.out]; omega)] at ht
        have hbeg := begins_any (A.map (·.add j)) (n - j) (c - j) (xs.drop j) ⟨#[80, 75, 5, 6]⟩ [80, 75, 5, 6] wr B ht (by have := hF.size; omega) (by omega) (by unfold maxLen at *; omega) rfl rfl
        have hrea := fun W (h : Fresh wr W) b hb => reaches_any (A.map (·.add j)) (n - j) (c - j) (xs.drop j) W B (ht.keep fun i hi => h.block i (by have := hF.size; omega)) (by have := hF.size; have := h.size; omega) (by omega) (by unfold maxLen at *; omega) (by omega) (by omega) b hb
        have hen := ends_of HLX.out (j := j) (by omega)
        cases hsg : ((xs.drop j).take 4 == [80, 75, 5, 6]) with
        | false =>
          rw [hsg] at hbeg
          have he : ends xs j = false := hen false _ hsg rfl
          have HBEG := Lib.hid hbeg
          have HE := Lib.hid he
          clear hbeg hrea hen hsg he hr1 ht
          go_wp2_with (go_at_call 127; ((with_reducible refine HBEG.out.mono ?_); rintro e w1 ⟨rfl, hf1⟩))
          go_roundw
          case rel => exact ⟨j, _, by omega, rfl, by go_num, Lib.hid (by rw [← hL.out, lastAt_next (by omega) HE.out]), hF.trans hf1⟩
          case measure => simp [intOf]
        | true =>
          rw [hsg] at hbeg
          cases hre : decide (22 + nm (xs.drop j) 20 2 = n - j) with
          | false =>
            have he : ends xs j = false := hen true false hsg hre
            have hrea' := fun W h => hrea W h _ hre
            have HBEG := Lib.hid hbeg
            have HREA := Lib.hid hrea'
            have HE := Lib.hid he
            clear hbeg hrea hen hsg he hr1 ht hre hrea'
            go_wp2_with (first
              | (go_at_call 127; ((with_reducible refine HBEG.out.mono ?_); rintro e w1 ⟨rfl, hf1⟩))
              | (go_at_call 128; ((with_reducible refine (HREA.out _ hf1).mono ?_); rintro e w2 ⟨rfl, hf2⟩)))
            go_roundw
            case rel => exact ⟨j, _, by omega, rfl, by go_num, Lib.hid (by rw [← hL.out, lastAt_next (by omega) HE.out]), (hF.trans hf1).trans hf2⟩
            case measure => simp [intOf]
          | true =>
            have he : ends xs j = true := hen true true hsg hre
            have hrea' := fun W h => hrea W h _ hre
            have HBEG := Lib.hid hbeg
            have HREA := Lib.hid hrea'
            have HE := Lib.hid he
            clear hbeg hrea hen hsg he hr1 ht hre hrea'
            go_wp2_with (first
              | (go_at_call 127; ((with_reducible refine HBEG.out.mono ?_); rintro e w1 ⟨rfl, hf1⟩))
              | (go_at_call 128; ((with_reducible refine (HREA.out _ hf1).mono ?_); rintro e w2 ⟨rfl, hf2⟩)))
            go_ret2
            exact ⟨by rw [← hL.out, lastAt_hit (by omega) HE.out]; rfl, (hF.trans hf1).trans hf2⟩
      · have hn2 : lastAt xs 0 (n - 21) = none := by rw [← hL.out]; exact lastAt_low (by omega)
        have HN2 := Lib.hid hn2
        clear hn2
        go_wp2
        go_ret2
        exact ⟨by rw [HN2.out]; rfl, hF⟩
set_option maxRecDepth 100000 in
set_option maxHeartbeats 4000000 in
theorem last_big (A : Option Addr) (n c : Nat) (xs : List UInt8) (w : World) (B : Nat) (hr : Rd w B A n (xs.map bv)) (hB : B ≤ w.heap.size) (hc : n ≤ c) (hm : c ≤ maxLen) (hn : n ≤ 1099511627776) (hsz : 65557 < n) :
    Calls Tryz.prog 65 #[.slice A n c] w fun e w' => LastIs (lastAt xs (n - 65557) (n - 21)) e ∧ Fresh w w' := by
  have hlx : xs.length = n := by have := hr.1; rwa [List.length_map] at this
  have HLX := Lib.hid hlx
  by_cases hs : n < 22
  · omega
  · have hif : (65557 : Int) < (n : Int) := by omega
    have HR := Lib.hid hr
    clear hlx hr
    obtain ⟨lo, hlo0⟩ : ∃ lo, n - 65557 = lo := ⟨_, rfl⟩
    rw [hlo0]
    have hlo1 : (lo : Int) = (n : Int) - 65557 := by omega
    clear hlo0
    go_enter Tryz.func65, Tryz.ntmps65
    go_wp2
    go_loopw [4] (fun i wr => ∃ (k : Nat) (z : Int), k ≤ n - 21 ∧ i = .int .i64 z ∧ z = (k : Int) - 1 ∧ Hid (lastAt xs lo k = lastAt xs lo (n - 21)) ∧ Fresh w wr) (fun i _ => (intOf i + 1).toNat)
    case atStart => exact ⟨n - 21, _, Nat.le_refl _, rfl, by omega, rfl, Fresh.refl _⟩
    case round =>
      obtain ⟨k, z, hk, rfl, hz, hL, hF⟩ := hrel
      by_cases hlo : lo < k
      · obtain ⟨j, rfl⟩ : ∃ j, k = j + 1 := ⟨k - 1, by omega⟩
        obtain rfl : z = (j : Int) := by omega
        clear hz
        have hr1 := HR.out.keep fun i hi => hF.block i (by omega)
        have ht := hr1.cut (lo := j) (hi := n) (cap := c) (by omega) (Nat.le_refl _) hc
        rw [if_neg (by omega), ← List.map_drop, ← List.map_take, List.take_of_length_le (l := xs.drop j) (by rw [List.length_drop, HLX.out]; omega)] at ht
        have hbeg := begins_any (A.map (·.add j)) (n - j) (c - j) (xs.drop j) ⟨#[80, 75, 5, 6]⟩ [80, 75, 5, 6] wr B ht (by have := hF.size; omega) (by omega) (by unfold maxLen at *; omega) rfl rfl
        have hrea := fun W (h : Fresh wr W) b hb => reaches_any (A.map (·.add j)) (n - j) (c - j) (xs.drop j) W B (ht.keep fun i hi => h.block i (by have := hF.size; omega)) (by have := hF.size; have := h.size; omega) (by omega) (by unfold maxLen at *; omega) (by omega) (by omega) b hb
        have hen := ends_of HLX.out (j := j) (by omega)
        cases hsg : ((xs.drop j).take 4 == [80, 75, 5, 6]) with
        | false =>
          rw [hsg] at hbeg
          have he : ends xs j = false := hen false _ hsg rfl
          have HBEG := Lib.hid hbeg
          have HE := Lib.hid he
          clear hbeg hrea hen hsg he hr1 ht
          go_wp2_with (go_at_call 127; ((with_reducible refine HBEG.out.mono ?_); rintro e w1 ⟨rfl, hf1⟩))
          go_roundw
          case rel => exact ⟨j, _, by omega, rfl, by go_num, Lib.hid (by rw [← hL.out, lastAt_next (by omega) HE.out]), hF.trans hf1⟩
          case measure => simp [intOf]
        | true =>
          rw [hsg] at hbeg
          cases hre : decide (22 + nm (xs.drop j) 20 2 = n - j) with
          | false =>
            have he : ends xs j = false := hen true false hsg hre
            have hrea' := fun W h => hrea W h _ hre
            have HBEG := Lib.hid hbeg
            have HREA := Lib.hid hrea'
            have HE := Lib.hid he
            clear hbeg hrea hen hsg he hr1 ht hre hrea'
            go_wp2_with (first
              | (go_at_call 127; ((with_reducible refine HBEG.out.mono ?_); rintro e w1 ⟨rfl, hf1⟩))
              | (go_at_call 128; ((with_reducible refine (HREA.out _ hf1).mono ?_); rintro e w2 ⟨rfl, hf2⟩)))
            go_roundw
            case rel => exact ⟨j, _, by omega, rfl, by go_num, Lib.hid (by rw [← hL.out, lastAt_next (by omega) HE.out]), (hF.trans hf1).trans hf2⟩
            case measure => simp [intOf]
          | true =>
            have he : ends xs j = true := hen true true hsg hre
            have hrea' := fun W h => hrea W h _ hre
            have HBEG := Lib.hid hbeg
            have HREA := Lib.hid hrea'
            have HE := Lib.hid he
            clear hbeg hrea hen hsg he hr1 ht hre hrea'
            go_wp2_with (first
              | (go_at_call 127; ((with_reducible refine HBEG.out.mono ?_); rintro e w1 ⟨rfl, hf1⟩))
              | (go_at_call 128; ((with_reducible refine (HREA.out _ hf1).mono ?_); rintro e w2 ⟨rfl, hf2⟩)))
            go_ret2
            exact ⟨by rw [← hL.out, lastAt_hit (by omega) HE.out]; rfl, (hF.trans hf1).trans hf2⟩
      · have hn2 : lastAt xs lo (n - 21) = none := by rw [← hL.out]; exact lastAt_low (by omega)
        have HN2 := Lib.hid hn2
        clear hn2
        go_wp2
        go_ret2
        exact ⟨by rw [HN2.out]; rfl, hF⟩
theorem last_any (A : Option Addr) (n c : Nat) (xs : List UInt8) (w : World) (B : Nat) (hr : Rd w B A n (xs.map bv)) (hB : B ≤ w.heap.size) (hc : n ≤ c) (hm : c ≤ maxLen) (hn : n ≤ 1099511627776) :
    Calls Tryz.prog 65 #[.slice A n c] w fun e w' => LastIs (lastAt xs (n - 65557) (n - 21)) e ∧ Fresh w w' := by
  by_cases hsz : n ≤ 65557
  · exact last_small A n c xs w B hr hB hc hm hn hsz
  · exact last_big A n c xs w B hr hB hc hm hn (by omega)
end Go.Proofs.YtmnegmebkmihhaaGreatDoor.recp
