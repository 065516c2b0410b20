/-
  The contracts of layer 1's small functions: word.held, ref.Wide, word.piece, bytes.Clone, word.Cut. My own text.
-/
import Derived.Test.YtcfijppfccfbdaaBase
import Derived.Test.YtcfijppfccfbdaaChecked
import Derived.BigQuiet
import Derived.Deep.QuietTactic
namespace Go.Proofs.Ytcfijppfccfbdaa.word
open Go.RowKit Go.Proofs.Ytcfijppfccfbdaa.base
set_option linter.unusedVariables false

/-- held within 1 to 7 -/
def wide (w : Int) : Nat := if w < 1 then 1 else if 7 < w then 7 else w.toNat
theorem wide_bd (w : Int) : 1 ≤ wide w ∧ wide w ≤ 7 := by unfold wide; split <;> (try split) <;> omega

theorem wide_lo {w : Int} (h : w < 1) : (1 : Int) = (wide w : Int) := by unfold wide; rw [if_pos h]; rfl
theorem wide_hi {w : Int} (h : 7 < w) : (7 : Int) = (wide w : Int) := by unfold wide; rw [if_neg (by omega), if_pos h]; rfl
theorem wide_mid {w : Int} (h1 : 1 ≤ w) (h7 : w ≤ 7) : w = (wide w : Int) := by unfold wide; rw [if_neg (by omega), if_neg (by omega)]; omega

theorem ret_i64 {a b : Int} (h : a = b) : Ending.returned (.int .i64 a) = .returned (.int .i64 b) := by rw [h]

theorem held_any (x : Int) (w : World) : Calls Try.prog 33 #[.int .i64 x] w fun e w' => e = .returned (.int .i64 (wide x)) ∧ w = w' := by
  by_cases h1 : x < 1
  · go_enter Try.func33, Try.ntmps33
    go_wp2
    go_ret
    exact ⟨ret_i64 (wide_lo h1), rfl⟩
  · by_cases h7 : 7 < x
    · go_enter Try.func33, Try.ntmps33
      go_wp2
      go_ret
      exact ⟨ret_i64 (wide_hi h7), rfl⟩
    · go_enter Try.func33, Try.ntmps33
      go_wp2
      all_goals go_ret
      all_goals exact ⟨ret_i64 (by have := wide_mid (w := x) (by omega) (by omega); omega), rfl⟩

theorem wide_any (x : Int) (w : World) : Calls Try.prog 29 #[.int .i64 x] w fun e w' => e = .returned (.int .i64 (wide x)) ∧ w = w' := by
  by_cases h1 : x < 1
  · go_enter Try.func29, Try.ntmps29
    go_wp2
    go_ret
    exact ⟨ret_i64 (wide_lo h1), rfl⟩
  · by_cases h7 : 7 < x
    · go_enter Try.func29, Try.ntmps29
      go_wp2
      go_ret
      exact ⟨ret_i64 (wide_hi h7), rfl⟩
    · go_enter Try.func29, Try.ntmps29
      go_wp2
      go_ret
      exact ⟨ret_i64 (wide_mid (by omega) (by omega)), rfl⟩

/-- piece, refused: a place or a number below 0 -/
theorem piece_arg (A : Option Addr) (n c : Nat) (at_ k : Int) (w : World) (h : at_ < 0 ∨ k < 0) :
    Calls Try.prog 37 #[.slice A n c, .int .i64 at_, .int .i64 k] w fun e w' => e = .returned (.tuple #[.slice none 0 0, .int .i64 1]) ∧ w = w' := by
  by_cases h1 : at_ < 0
  · go_enter Try.func37, Try.ntmps37
    go_wp2
    go_ret2
    exact ⟨rfl, rfl⟩
  · have h2 : k < 0 := by omega
    clear h
    go_enter Try.func37, Try.ntmps37
    go_wp2
    go_ret2
    exact ⟨rfl, rfl⟩

/-- piece, refused: too few -/
theorem piece_end (A : Option Addr) (n c : Nat) (at_ k : Int) (w : World) (hn : n ≤ maxLen) (h1 : 0 ≤ at_) (h2 : 0 ≤ k) (hm : at_ ≤ 9223372036854775807) (h : (n : Int) - at_ < k) :
    Calls Try.prog 37 #[.slice A n c, .int .i64 at_, .int .i64 k] w fun e w' => e = .returned (.tuple #[.slice none 0 0, .int .i64 3]) ∧ w = w' := by
  unfold maxLen at hn
  go_enter Try.func37, Try.ntmps37
  go_wp2
  go_ret2
  exact ⟨rfl, rfl⟩

/-- piece: the slice itself, cut -/
theorem piece_ok (A : Option Addr) (n c : Nat) (xs : List Value) (at_ k : Nat) (w : World) (B : Nat) (hr : Rd w B A n xs) (hc : n ≤ c) (hm : c ≤ maxLen) (h : at_ + k ≤ n) :
    Calls Try.prog 37 #[.slice A n c, .int .i64 at_, .int .i64 k] w fun e w' =>
      ∃ A' c', e = .returned (.tuple #[.slice A' k c', .int .i64 0]) ∧ w = w' ∧ k ≤ c' ∧ c' ≤ maxLen ∧ Rd w' B A' k ((xs.drop at_).take k) := by
  have hcut := hr.cut (lo := at_) (hi := at_ + k) (cap := c) (by omega) h hc
  rw [show at_ + k - at_ = k from by omega] at hcut
  have H := Lib.hid hcut
  have H2 : RowKit.Hid (c ≤ maxLen) := hm
  unfold maxLen at hm
  clear hcut hr
  go_enter Try.func37, Try.ntmps37
  go_wp2
  all_goals go_ret2
  · refine ⟨_, _, rfl, rfl, by omega, by have := H2.out; omega, ?_⟩
    have := H.out
    rwa [if_pos (by assumption)] at this
  · refine ⟨_, _, rfl, rfl, by omega, by have := H2.out; omega, ?_⟩
    have := H.out
    rwa [if_neg (by assumption)] at this

theorem byte_info : (Try.prog.info? 5).map (fun i => (i.zero, i.size, i.bytes)) = some (some (.int .u8 0), 1, 1) := by kernel_rfl

/-- bytes.Clone: nil, or the same bytes in a new row -/
theorem clone_any (A : Option Addr) (n c : Nat) (xs : List UInt8) (w : World) (B : Nat) (hr : Rd w B A n (xs.map bv)) (hB : B ≤ w.heap.size) (hn : n ≤ 1099511627776) :
    Calls Try.prog 39 #[.slice A n c] w fun e w' => ∃ A' c', e = .returned (.slice A' n c') ∧ Fresh w w' ∧ Own w' w.heap.size 5 A' n c' (xs.map bv) := by
  obtain ⟨i0, hi0, hz0, hz1, hz2⟩ := info_parts byte_info
  have heq : ∀ W, (binOp .eql 23 (.slice A n c) (.slice none 0 0)).run Try.prog W = .ok (.bool A.isNone) W := fun W => run_slice_is_nil W 23 5 A n c Try.underlying23
  rcases A with _ | a
  · have h0 : n = 0 := by
      rcases Nat.eq_zero_or_pos n with h0 | h0
      · exact h0
      · obtain ⟨b, off, h, _⟩ := hr.2 h0
        cases h
    subst h0
    have hx : xs = [] := by have := hr.1; rw [List.length_map] at this; exact List.eq_nil_of_length_eq_zero this
    subst hx
    go_enter Try.func39, Try.ntmps39
    go_wp2
    go_ret
    exact ⟨_, _, rfl, Fresh.refl _, Own.nil _ _ _⟩
  · go_enter Try.func39, Try.ntmps39
    go_wp2_with (first
      | (at_builtin; refine wpList_append_rd _ rfl _ _ 23 rfl w.heap.size 5 i0 _ 1 Try.underlying23 hi0 hz0 hz1 hz2 rfl (some ⟨w.heap.size, 0, none⟩) 0 0 [] rfl (Own.made w 5 #[] 0 rfl (Nat.zero_le _)) B (some a) n c (xs.map bv) rfl (hr.alloc hB _) (bv_one xs) (by unfold maxLen; omega) (by omega) (by simp) ?_; intro A1 c1 w1 hown1 hg1))
    go_ret
    rw [Nat.zero_add, List.nil_append] at hown1
    exact ⟨A1, c1, rfl, (Fresh.alloc w _).append (Own.made w 5 #[] 0 rfl (Nat.zero_le _)) (Nat.le_refl _) hg1, hown1⟩

theorem cut_arg (A : Option Addr) (n c : Nat) (at_ k : Int) (w : World) (h : at_ < 0 ∨ k < 0) :
    Calls Try.prog 32 #[.slice A n c, .int .i64 at_, .int .i64 k] w fun e w' => e = .returned (.tuple #[.slice none 0 0, .int .i64 1]) ∧ w = w' := by
  go_enter Try.func32, Try.ntmps32
  go_wp2_with (go_at_call 37; refine (piece_arg _ _ _ _ _ _ h).mono ?_; rintro e w' ⟨rfl, rfl⟩)
  go_ret2
  exact ⟨rfl, rfl⟩

theorem cut_end (A : Option Addr) (n c : Nat) (at_ k : Int) (w : World) (hn : n ≤ maxLen) (h1 : 0 ≤ at_) (h2 : 0 ≤ k) (hm : at_ ≤ 9223372036854775807) (h : (n : Int) - at_ < k) :
    Calls Try.prog 32 #[.slice A n c, .int .i64 at_, .int .i64 k] w fun e w' => e = .returned (.tuple #[.slice none 0 0, .int .i64 3]) ∧ w = w' := by
  go_enter Try.func32, Try.ntmps32
  go_wp2_with (go_at_call 37; refine (piece_end _ _ _ _ _ _ hn h1 h2 hm h).mono ?_; rintro e w' ⟨rfl, rfl⟩)
  go_ret2
  exact ⟨rfl, rfl⟩

theorem cut_ok (A : Option Addr) (n c : Nat) (xs : List UInt8) (at_ k : Nat) (w : World) (B : Nat) (hr : Rd w B A n (xs.map bv)) (hB : B ≤ w.heap.size) (hc : n ≤ c) (hm : c ≤ maxLen) (h : at_ + k ≤ n) (hn : n ≤ 1099511627776) :
    Calls Try.prog 32 #[.slice A n c, .int .i64 at_, .int .i64 k] w fun e w' =>
      ∃ A' c', e = .returned (.tuple #[.slice A' k c', .int .i64 0]) ∧ Fresh w w' ∧ Own w' w.heap.size 5 A' k c' (((xs.drop at_).take k).map bv) := by
  go_enter Try.func32, Try.ntmps32
  go_wp2_with (first
    | (go_at_call 37; refine (piece_ok _ _ _ _ _ _ _ B hr hc hm h).mono ?_; rintro e w' ⟨A1, c1, rfl, rfl, h1, h2, h3⟩; rw [← List.map_drop, ← List.map_take] at h3)
    | (go_at_call 39; refine (clone_any _ _ _ _ _ B h3 hB (by omega)).mono ?_; rintro e w' ⟨A2, c2, rfl, h4, h5⟩))
  go_ret2
  exact ⟨A2, c2, rfl, h4, h5⟩

/-- the reference's Same, of two that are alike -/
theorem same_yes (A D : Option Addr) (n c d : Nat) (xs : List UInt8) (w : World) (B B' : Nat) (ha : Rd w B A n (xs.map bv)) (hd : Rd w B' D n (xs.map bv)) (hn : n ≤ maxLen) :
    Calls Try.prog 10 #[.slice A n c, .slice D n d] w fun e w' => e = .returned (.bool true) ∧ Fresh w w' := by
  unfold maxLen at hn
  go_enter Try.func10, Try.ntmps10
  go_wp2
  go_loopw [5] (fun i wr => ∃ (k q : Nat), k ≤ n ∧ i = .int .i64 k ∧ wr = w.drewN q) (fun i _ => n - (intOf i).toNat)
  case atStart => exact ⟨0, 0, by omega, rfl, rfl⟩
  case round =>
    obtain ⟨k, q, hk, rfl, rfl⟩ := hrel
    by_cases hlt : k < n
    · obtain ⟨b, off, x, rfl, hb, hx, hcx⟩ := ha.at_ hlt
      obtain ⟨b', off', x', rfl, hb', hx', hcx'⟩ := hd.at_ hlt
      have e : x = x' := by rw [hx] at hx'; injection hx'
      subst e
      clear hx hx' ha hd
      go_wp2
      go_quiet (fail)
      go_wp2
      go_roundw
      case rel => exact ⟨k + 1, _, by omega, by go_num, rfl⟩
      case measure => simp [intOf]; omega
    · go_wp2
      go_ret
      exact ⟨rfl, Fresh.drewN _ _⟩

theorem same_is (A D : Option Addr) (n n' c d : Nat) (xs : List UInt8) (w : World) (B B' : Nat) (ha : Rd w B A n (xs.map bv)) (hd : Rd w B' D n' (xs.map bv)) (hn : n ≤ maxLen) (hnn : n = n') :
    Calls Try.prog 10 #[.slice A n c, .slice D n' d] w fun e w' => e = .returned (.bool true) ∧ Fresh w w' := by
  subst hnn
  exact same_yes A D n c d xs w B B' ha hd hn

theorem cut_is (A : Option Addr) (n c : Nat) (xs ys : List UInt8) (p q : Int) (k : Nat) (w : World) (B : Nat) (hr : Rd w B A n (xs.map bv)) (hB : B ≤ w.heap.size) (hc : n ≤ c) (hm : c ≤ maxLen) (hp : 0 ≤ p) (hq : q = (k : Int)) (h : p.toNat + k ≤ n) (hn : n ≤ 1099511627776)
    (hy : (xs.drop p.toNat).take k = ys) :
    Calls Try.prog 32 #[.slice A n c, .int .i64 p, .int .i64 q] w fun e w' =>
      ∃ A' c', e = .returned (.tuple #[.slice A' k c', .int .i64 0]) ∧ Fresh w w' ∧ Own w' w.heap.size 5 A' k c' (ys.map bv) := by
  subst hq
  subst hy
  have := cut_ok A n c xs p.toNat k w B hr hB hc hm h hn
  rwa [Int.toNat_of_nonneg hp] at this

end Go.Proofs.Ytcfijppfccfbdaa.word
