import Derived.Test.YtcdehklcdipcfaaGreatBase
import Derived.Test.YtcdehklcdipcfaaGreatChecked
import Derived.BigQuiet
import Derived.Deep.QuietTactic
import Derived.Test.YtcdehklcdipcfaaGreatMgNm
/- Several of my own texts, one behind the other. -/
/-
  The contracts of layer 1's small functions: word.held, ref.Wide, word.piece, bytes.Clone, word.Cut. My own text.
-/
namespace Go.Proofs.YtcdehklcdipcfaaGreat.word
open Go.RowKit Go.Proofs.YtcdehklcdipcfaaGreat.base
set_option linter.unusedVariables false

/-- held within 1 to 7 -/
def wide (w : Int) : Nat := if w < 1 then 1 else if 7 < w then 7 else w.toNat
theorem wide_bd (w : Int) : 1 ≤ wide w ∧ wide w ≤ 7 := by unfold wide; split <;> (try split) <;> omega

theorem wide_lo {w : Int} (h : w < 1) : (1 : Int) = (wide w : Int) := by unfold wide; rw [if_pos h]; rfl
theorem wide_hi {w : Int} (h : 7 < w) : (7 : Int) = (wide w : Int) := by unfold wide; rw [if_neg (by omega), if_pos h]; rfl
theorem wide_mid {w : Int} (h1 : 1 ≤ w) (h7 : w ≤ 7) : w = (wide w : Int) := by unfold wide; rw [if_neg (by omega), if_neg (by omega)]; omega

theorem ret_i64 {a b : Int} (h : a = b) : Ending.returned (.int .i64 a) = .returned (.int .i64 b) := by rw [h]

theorem held_any (x : Int) (w : World) : Calls Tryz.prog 85 #[.int .i64 x] w fun e w' => e = .returned (.int .i64 (wide x)) ∧ w = w' := by
  by_cases h1 : x < 1
  · go_enter Tryz.func85, Tryz.ntmps85
    go_wp2
    go_ret
    exact ⟨ret_i64 (wide_lo h1), rfl⟩
  · by_cases h7 : 7 < x
    · go_enter Tryz.func85, Tryz.ntmps85
      go_wp2
      go_ret
      exact ⟨ret_i64 (wide_hi h7), rfl⟩
    · go_enter Tryz.func85, Tryz.ntmps85
      go_wp2
      all_goals go_ret
      all_goals exact ⟨ret_i64 (by have := wide_mid (w := x) (by omega) (by omega); omega), rfl⟩

/-- piece, refused: a place or a number below 0 -/
theorem piece_arg (A : Option Addr) (n c : Nat) (at_ k : Int) (w : World) (h : at_ < 0 ∨ k < 0) :
    Calls Tryz.prog 163 #[.slice A n c, .int .i64 at_, .int .i64 k] w fun e w' => e = .returned (.tuple #[.slice none 0 0, .int .i64 1]) ∧ w = w' := by
  by_cases h1 : at_ < 0
  · go_enter Tryz.func163, Tryz.ntmps163
    go_wp2
    go_ret2
    exact ⟨rfl, rfl⟩
  · have h2 : k < 0 := by omega
    clear h
    go_enter Tryz.func163, Tryz.ntmps163
    go_wp2
    go_ret2
    exact ⟨rfl, rfl⟩

/-- piece, refused: too few -/
theorem piece_end (A : Option Addr) (n c : Nat) (at_ k : Int) (w : World) (hn : n ≤ maxLen) (h1 : 0 ≤ at_) (h2 : 0 ≤ k) (hm : at_ ≤ 9223372036854775807) (h : (n : Int) - at_ < k) :
    Calls Tryz.prog 163 #[.slice A n c, .int .i64 at_, .int .i64 k] w fun e w' => e = .returned (.tuple #[.slice none 0 0, .int .i64 3]) ∧ w = w' := by
  unfold maxLen at hn
  go_enter Tryz.func163, Tryz.ntmps163
  go_wp2
  go_ret2
  exact ⟨rfl, rfl⟩

/-- piece: the slice itself, cut -/
theorem piece_ok (A : Option Addr) (n c : Nat) (xs : List Value) (at_ k : Nat) (w : World) (B : Nat) (hr : Rd w B A n xs) (hc : n ≤ c) (hm : c ≤ maxLen) (h : at_ + k ≤ n) :
    Calls Tryz.prog 163 #[.slice A n c, .int .i64 at_, .int .i64 k] w fun e w' =>
      ∃ A' c', e = .returned (.tuple #[.slice A' k c', .int .i64 0]) ∧ w = w' ∧ k ≤ c' ∧ c' ≤ maxLen ∧ Rd w' B A' k ((xs.drop at_).take k) := by
  have hcut := hr.cut (lo := at_) (hi := at_ + k) (cap := c) (by omega) h hc
  rw [show at_ + k - at_ = k from by omega] at hcut
  have H := Lib.hid hcut
  have H2 : RowKit.Hid (c ≤ maxLen) := hm
  unfold maxLen at hm
  clear hcut hr
  go_enter Tryz.func163, Tryz.ntmps163
  go_wp2
  all_goals go_ret2
  · refine ⟨_, _, rfl, rfl, by omega, by have := H2.out; omega, ?_⟩
    have := H.out
    rwa [if_pos (by assumption)] at this
  · refine ⟨_, _, rfl, rfl, by omega, by have := H2.out; omega, ?_⟩
    have := H.out
    rwa [if_neg (by assumption)] at this

theorem byte_info : (Tryz.prog.info? 5).map (fun i => (i.zero, i.size, i.bytes)) = some (some (.int .u8 0), 1, 1) := by kernel_rfl

/-- bytes.Clone: nil, or the same bytes in a new row -/
theorem clone_any (A : Option Addr) (n c : Nat) (xs : List UInt8) (w : World) (B : Nat) (hr : Rd w B A n (xs.map bv)) (hB : B ≤ w.heap.size) (hn : n ≤ 1099511627776) :
    Calls Tryz.prog 165 #[.slice A n c] w fun e w' => ∃ A' c', e = .returned (.slice A' n c') ∧ Fresh w w' ∧ Own w' w.heap.size 5 A' n c' (xs.map bv) := by
  obtain ⟨i0, hi0, hz0, hz1, hz2⟩ := info_parts byte_info
  have heq : ∀ W, (binOp .eql 32 (.slice A n c) (.slice none 0 0)).run Tryz.prog W = .ok (.bool A.isNone) W := fun W => run_slice_is_nil W 32 5 A n c Tryz.underlying32
  rcases A with _ | a
  · have h0 : n = 0 := by
      rcases Nat.eq_zero_or_pos n with h0 | h0
      · exact h0
      · obtain ⟨b, off, h, _⟩ := hr.2 h0
        cases h
    subst h0
    have hx : xs = [] := by have := hr.1; rw [List.length_map] at this; exact List.eq_nil_of_length_eq_zero this
    subst hx
    go_enter Tryz.func165, Tryz.ntmps165
    go_wp2
    go_ret
    exact ⟨_, _, rfl, Fresh.refl _, Own.nil _ _ _⟩
  · go_enter Tryz.func165, Tryz.ntmps165
    go_wp2_with (first
      | (at_builtin; refine wpList_append_rd _ rfl _ _ 32 rfl w.heap.size 5 i0 _ 1 Tryz.underlying32 hi0 hz0 hz1 hz2 rfl (some ⟨w.heap.size, 0, none⟩) 0 0 [] rfl (Own.made w 5 #[] 0 rfl (Nat.zero_le _)) B (some a) n c (xs.map bv) rfl (hr.alloc hB _) (bv_one xs) (by unfold maxLen; omega) (by omega) (by simp) ?_; intro A1 c1 w1 hown1 hg1))
    go_ret
    rw [Nat.zero_add, List.nil_append] at hown1
    exact ⟨A1, c1, rfl, (Fresh.alloc w _).append (Own.made w 5 #[] 0 rfl (Nat.zero_le _)) (Nat.le_refl _) hg1, hown1⟩

theorem cut_arg (A : Option Addr) (n c : Nat) (at_ k : Int) (w : World) (h : at_ < 0 ∨ k < 0) :
    Calls Tryz.prog 142 #[.slice A n c, .int .i64 at_, .int .i64 k] w fun e w' => e = .returned (.tuple #[.slice none 0 0, .int .i64 1]) ∧ w = w' := by
  go_enter Tryz.func142, Tryz.ntmps142
  go_wp2_with (go_at_call 163; refine (piece_arg _ _ _ _ _ _ h).mono ?_; rintro e w' ⟨rfl, rfl⟩)
  go_ret2
  exact ⟨rfl, rfl⟩

theorem cut_end (A : Option Addr) (n c : Nat) (at_ k : Int) (w : World) (hn : n ≤ maxLen) (h1 : 0 ≤ at_) (h2 : 0 ≤ k) (hm : at_ ≤ 9223372036854775807) (h : (n : Int) - at_ < k) :
    Calls Tryz.prog 142 #[.slice A n c, .int .i64 at_, .int .i64 k] w fun e w' => e = .returned (.tuple #[.slice none 0 0, .int .i64 3]) ∧ w = w' := by
  go_enter Tryz.func142, Tryz.ntmps142
  go_wp2_with (go_at_call 163; refine (piece_end _ _ _ _ _ _ hn h1 h2 hm h).mono ?_; rintro e w' ⟨rfl, rfl⟩)
  go_ret2
  exact ⟨rfl, rfl⟩

theorem cut_ok (A : Option Addr) (n c : Nat) (xs : List UInt8) (at_ k : Nat) (w : World) (B : Nat) (hr : Rd w B A n (xs.map bv)) (hB : B ≤ w.heap.size) (hc : n ≤ c) (hm : c ≤ maxLen) (h : at_ + k ≤ n) (hn : n ≤ 1099511627776) :
    Calls Tryz.prog 142 #[.slice A n c, .int .i64 at_, .int .i64 k] w fun e w' =>
      ∃ A' c', e = .returned (.tuple #[.slice A' k c', .int .i64 0]) ∧ Fresh w w' ∧ Own w' w.heap.size 5 A' k c' (((xs.drop at_).take k).map bv) := by
  go_enter Tryz.func142, Tryz.ntmps142
  go_wp2_with (first
    | (go_at_call 163; refine (piece_ok _ _ _ _ _ _ _ B hr hc hm h).mono ?_; rintro e w' ⟨A1, c1, rfl, rfl, h1, h2, h3⟩; rw [← List.map_drop, ← List.map_take] at h3)
    | (go_at_call 165; refine (clone_any _ _ _ _ _ B h3 hB (by omega)).mono ?_; rintro e w' ⟨A2, c2, rfl, h4, h5⟩))
  go_ret2
  exact ⟨A2, c2, rfl, h4, h5⟩

/-- the reference's Same, of two that are alike -/
theorem same_yes (A D : Option Addr) (n c d : Nat) (xs : List UInt8) (w : World) (B B' : Nat) (ha : Rd w B A n (xs.map bv)) (hd : Rd w B' D n (xs.map bv)) (hn : n ≤ maxLen) :
    Calls Tryz.prog 49 #[.slice A n c, .slice D n d] w fun e w' => e = .returned (.bool true) ∧ Fresh w w' := by
  unfold maxLen at hn
  go_enter Tryz.func49, Tryz.ntmps49
  go_wp2
  go_loopw [5] (fun i wr => ∃ (k q : Nat), k ≤ n ∧ i = .int .i64 k ∧ wr = w.drewN q) (fun i _ => n - (intOf i).toNat)
  case atStart => exact ⟨0, 0, by omega, rfl, rfl⟩
  case round =>
    obtain ⟨k, q, hk, rfl, rfl⟩ := hrel
    by_cases hlt : k < n
    · obtain ⟨b, off, x, rfl, hb, hx, hcx⟩ := ha.at_ hlt
      obtain ⟨b', off', x', rfl, hb', hx', hcx'⟩ := hd.at_ hlt
      have e : x = x' := by rw [hx] at hx'; injection hx'
      subst e
      clear hx hx' ha hd
      go_wp2
      go_quiet (fail)
      go_wp2
      go_roundw
      case rel => exact ⟨k + 1, _, by omega, by go_num, rfl⟩
      case measure => simp [intOf]; omega
    · go_wp2
      go_ret
      exact ⟨rfl, Fresh.drewN _ _⟩

theorem same_is (A D : Option Addr) (n n' c d : Nat) (xs : List UInt8) (w : World) (B B' : Nat) (ha : Rd w B A n (xs.map bv)) (hd : Rd w B' D n' (xs.map bv)) (hn : n ≤ maxLen) (hnn : n = n') :
    Calls Tryz.prog 49 #[.slice A n c, .slice D n' d] w fun e w' => e = .returned (.bool true) ∧ Fresh w w' := by
  subst hnn
  exact same_yes A D n c d xs w B B' ha hd hn

theorem cut_is (A : Option Addr) (n c : Nat) (xs ys : List UInt8) (p q : Int) (k : Nat) (w : World) (B : Nat) (hr : Rd w B A n (xs.map bv)) (hB : B ≤ w.heap.size) (hc : n ≤ c) (hm : c ≤ maxLen) (hp : 0 ≤ p) (hq : q = (k : Int)) (h : p.toNat + k ≤ n) (hn : n ≤ 1099511627776)
    (hy : (xs.drop p.toNat).take k = ys) :
    Calls Tryz.prog 142 #[.slice A n c, .int .i64 p, .int .i64 q] w fun e w' =>
      ∃ A' c', e = .returned (.tuple #[.slice A' k c', .int .i64 0]) ∧ Fresh w w' ∧ Own w' w.heap.size 5 A' k c' (ys.map bv) := by
  subst hq
  subst hy
  have := cut_ok A n c xs p.toNat k w B hr hB hc hm h hn
  rwa [Int.toNat_of_nonneg hp] at this

end Go.Proofs.YtcdehklcdipcfaaGreat.word
/-
  The contracts of word.Get, word.Fits, ref.Number. My own text.
-/
namespace Go.Proofs.YtcdehklcdipcfaaGreat.word
open Go.RowKit Go.Proofs.YtcdehklcdipcfaaGreat.base Go.Proofs.YtcdehklcdipcfaaGreat.num
set_option linter.unusedVariables false

/-- word.Get, refused -/
theorem get_arg (A : Option Addr) (n c : Nat) (at_ k : Int) (w : World) (h : at_ < 0) :
    Calls Tryz.prog 140 #[.slice A n c, .int .i64 at_, .int .i64 k] w fun e w' => e = .returned (.tuple #[.int .i64 0, .int .i64 1]) ∧ w = w' := by
  go_enter Tryz.func140, Tryz.ntmps140
  go_wp2_with (first
    | (go_at_call 85; refine (held_any _ _).mono ?_; rintro e w' ⟨rfl, rfl⟩)
    | (go_at_call 163; refine (piece_arg _ _ _ _ _ _ (.inl h)).mono ?_; rintro e w' ⟨rfl, rfl⟩))
  go_ret2
  exact ⟨rfl, rfl⟩

theorem get_end (A : Option Addr) (n c : Nat) (at_ k : Int) (w : World) (hn : n ≤ maxLen) (h1 : 0 ≤ at_) (hm : at_ ≤ 9223372036854775807) (h : (n : Int) - at_ < wide k) :
    Calls Tryz.prog 140 #[.slice A n c, .int .i64 at_, .int .i64 k] w fun e w' => e = .returned (.tuple #[.int .i64 0, .int .i64 3]) ∧ w = w' := by
  go_enter Tryz.func140, Tryz.ntmps140
  go_wp2_with (first
    | (go_at_call 85; refine (held_any _ _).mono ?_; rintro e w' ⟨rfl, rfl⟩)
    | (go_at_call 163; refine (piece_end _ _ _ _ _ _ hn h1 (by omega) hm h).mono ?_; rintro e w' ⟨rfl, rfl⟩))
  go_ret2
  exact ⟨rfl, rfl⟩

theorem get_ok (A : Option Addr) (n c : Nat) (xs : List UInt8) (at_ : Nat) (k : Int) (w : World) (B : Nat) (hr : Rd w B A n (xs.map bv)) (hc : n ≤ c) (hm : c ≤ maxLen) (h : at_ + wide k ≤ n) :
    Calls Tryz.prog 140 #[.slice A n c, .int .i64 at_, .int .i64 k] w fun e w' => e = .returned (.tuple #[.int .i64 (num ((xs.drop at_).take (wide k))), .int .i64 0]) ∧ w = w' := by
  have hw := wide_bd k
  generalize hW : wide k = W at *
  have HW := Lib.hid hW
  clear hW
  have held : ∀ w, Calls Tryz.prog 85 #[.int .i64 k] w fun e w' => e = .returned (.int .i64 W) ∧ w = w' := fun w => by rw [← HW.out]; exact held_any k w
  have HH := Lib.hid held
  clear held
  go_enter Tryz.func140, Tryz.ntmps140
  go_wp2_with (first
    | (go_at_call 85; refine (HH.out _).mono ?_; rintro e w' ⟨rfl, rfl⟩)
    | (go_at_call 163; refine (piece_ok _ _ _ _ _ _ _ B hr hc hm h).mono ?_; rintro e w' ⟨A1, c1, rfl, rfl, h1, h2, h3⟩; rw [← List.map_drop, ← List.map_take] at h3))
  generalize hys : (xs.drop at_).take W = ys at *
  have HY := Lib.hid hys
  clear hys hr
  have hl : ys.length = W := by have := h3.1; rwa [List.length_map] at this
  have HL := Lib.hid hl
  clear hl
  go_loop [10, 26] (fun t i => ∃ k : Nat, k ≤ W ∧ i = .int .i64 k ∧ t = .int .i64 (num (ys.take k))) (fun _ i => W - (intOf i).toNat)
  case atStart => exact ⟨0, by omega, rfl, rfl⟩
  case round =>
    obtain ⟨k, hk, rfl, rfl⟩ := hrel
    by_cases hlt : k < W
    · obtain ⟨b, off, x, rfl, hb, hx, hcx⟩ := h3.at_ hlt
      have hd := num_take ys k x hx
      have hs := num_lt7 (ys.take (k + 1)) (by have := HL.out; rw [List.length_take]; omega)
      have h5 : num (ys.take k) < 72057594037927936 := by omega
      have h6 := x.toNat_lt
      have h7 : num (ys.take k) < 256 ^ k := by
        have := num_lt (ys.take k)
        rwa [List.length_take, Nat.min_eq_left (by have := HL.out; omega)] at this
      have H := Lib.hid hd
      clear hd hs hx
      go_wp2
      go_round
      case rel => exact ⟨k + 1, by omega, by go_num, by rw [H.out, or_high _ _ _ h7 (by omega) h6]⟩
      case measure => simp [intOf]; omega
    · have h0 : k = W := by omega
      subst h0
      go_wp2
      go_ret2
      refine ⟨?_, rfl⟩
      show Ending.returned (.tuple #[.int .i64 (num (ys.take k)), .int .i64 0]) = _
      rw [HY.out, List.take_of_length_le (Nat.le_of_eq HL.out)]

/-- all of them are from 0 to 256^w - 1 -/
def fits (k : Nat) (zs : List Int) : Bool := zs.all fun z => decide (0 ≤ z ∧ z < 256 ^ k)
theorem fits_take (k i : Nat) (zs : List Int) (z : Int) (h : zs[i]? = some z) (hf : fits k (zs.take i) = true) (hz : decide (0 ≤ z ∧ z < 256 ^ k) = true) : fits k (zs.take (i + 1)) = true := by
  rw [take_snoc _ _ _ h, fits, List.all_append, List.all_cons, List.all_nil, Bool.and_true]
  rw [fits] at hf
  rw [hf, hz]; rfl
theorem fits_no (k i : Nat) (zs : List Int) (z : Int) (h : zs[i]? = some z) (hz : decide (0 ≤ z ∧ z < 256 ^ k) = false) : fits k zs = false := by
  rw [fits, Bool.eq_false_iff]
  intro hall
  rw [List.all_eq_true] at hall
  have := hall z (List.mem_of_getElem? h)
  rw [hz] at this
  cases this

theorem not_t {b : Bool} (h : (!b) = true) : b = false := by cases b <;> first | rfl | cases h
theorem not_f {b : Bool} (h : (!b) = false) : b = true := by cases b <;> first | rfl | cases h
theorem i64_bd {z : Int} (h : (Lit.int .i64 z).wf = true) : -9223372036854775808 ≤ z ∧ z ≤ 9223372036854775807 := by
  simpa [Lit.wf, IntKind.min, IntKind.max, IntKind.signed, IntKind.bits] using h

theorem fits_any (A : Option Addr) (n c : Nat) (zs : List Int) (x : Int) (w : World) (B : Nat) (ha : Rd w B A n (zs.map iv)) (hn : n ≤ maxLen) (hz : ∀ z ∈ zs, (Lit.int .i64 z).wf = true) :
    Calls Tryz.prog 121 #[.int .i64 x, .slice A n c] w fun e w' => e = .returned (.bool (fits (wide x) zs)) ∧ w = w' := by
  have hw := wide_bd x
  generalize hW : wide x = W at *
  have HW := Lib.hid hW
  clear hW
  have held : ∀ w, Calls Tryz.prog 85 #[.int .i64 x] w fun e w' => e = .returned (.int .i64 W) ∧ w = w' := fun w => by rw [← HW.out]; exact held_any x w
  have HH := Lib.hid held
  clear held
  unfold maxLen at hn
  have hl : zs.length = n := by have := ha.1; rwa [List.length_map] at this
  have HL := Lib.hid hl
  clear hl
  go_enter Tryz.func121, Tryz.ntmps121
  go_wp2_with (go_at_call 85; refine (HH.out _).mono ?_; rintro e w' ⟨rfl, rfl⟩)
  go_loop [11] (fun i => ∃ k : Nat, k ≤ n ∧ i = .int .i64 k ∧ fits W (zs.take k) = true) (fun i => n - (intOf i).toNat)
  case atStart => exact ⟨0, by omega, rfl, rfl⟩
  case round =>
    obtain ⟨k, hk, rfl, hf⟩ := hrel
    by_cases hlt : k < n
    · obtain ⟨b, off, z, rfl, hb, hx, hcx⟩ := ha.at_ hlt
      have ht := fits_test z W (i64_bd (hz z (List.mem_of_getElem? hx))) hw
      have HT := Lib.hid ht
      have HX := Lib.hid hx
      have HF := Lib.hid hf
      clear ht hx hf hz ha
      go_wp2
      · have hb : (IntKind.u64.wrap z / 2 ^ (8 * W) != 0) = true := by assumption
        rw [HT.out] at hb
        go_ret
        exact ⟨by rw [fits_no W k zs z HX.out (not_t hb)]; rfl, rfl⟩
      · have hb : (IntKind.u64.wrap z / 2 ^ (8 * W) != 0) = false := by assumption
        rw [HT.out] at hb
        go_round
        case rel => exact ⟨k + 1, by omega, by go_num, fits_take W k zs z HX.out HF.out (not_f hb)⟩
        case measure => simp [intOf]; omega
    · have h0 : k = n := by omega
      subst h0
      have HF := Lib.hid hf
      clear hf
      go_wp2
      go_ret
      refine ⟨?_, rfl⟩
      have := HF.out
      rw [List.take_of_length_le (Nat.le_of_eq HL.out)] at this
      rw [this]; rfl

theorem get_is (A : Option Addr) (n c : Nat) (xs : List UInt8) (at_ : Int) (k : Int) (w : World) (B : Nat) (R : Int) (hr : Rd w B A n (xs.map bv)) (hc : n ≤ c) (hm : c ≤ maxLen) (h0 : 0 ≤ at_) (h : at_.toNat + wide k ≤ n) (hR : (num ((xs.drop at_.toNat).take (wide k)) : Int) = R) :
    Calls Tryz.prog 140 #[.slice A n c, .int .i64 at_, .int .i64 k] w fun e w' => e = .returned (.tuple #[.int .i64 R, .int .i64 0]) ∧ w = w' := by
  subst hR
  have := get_ok A n c xs at_.toNat k w B hr hc hm h
  rwa [Int.toNat_of_nonneg h0] at this

theorem fits_is (A : Option Addr) (n c : Nat) (zs : List Int) (x : Int) (w : World) (B : Nat) (b : Bool) (ha : Rd w B A n (zs.map iv)) (hn : n ≤ maxLen) (hz : ∀ z ∈ zs, (Lit.int .i64 z).wf = true) (hb : fits (wide x) zs = b) :
    Calls Tryz.prog 121 #[.int .i64 x, .slice A n c] w fun e w' => e = .returned (.bool b) ∧ w = w' := by
  subst hb
  exact fits_any A n c zs x w B ha hn hz

end Go.Proofs.YtcdehklcdipcfaaGreat.word
/-
  The contracts of word.Put and ref.Bytes, and of the law's wakes. My own text.
-/
namespace Go.Proofs.YtcdehklcdipcfaaGreat.word
open Go.RowKit Go.Proofs.YtcdehklcdipcfaaGreat.base Go.Proofs.YtcdehklcdipcfaaGreat.num
set_option linter.unusedVariables false

/-- numbers put, one behind the other -/
def puts (k : Nat) (zs : List Int) : List UInt8 := zs.flatMap fun z => low k (u64 z)

theorem put_any (A : Option Addr) (n c : Nat) (bs : List UInt8) (x : Int) (D : Option Addr) (m d : Nat) (zs : List Int) (w : World) (B B' : Nat) (ha : Rd w B A n (bs.map bv)) (hB : B ≤ w.heap.size)
    (hd : Rd w B' D m (zs.map iv)) (hB' : B' ≤ w.heap.size) (hz : ∀ z ∈ zs, (Lit.int .i64 z).wf = true) (hn : n ≤ 4294967296) (hm : m ≤ 4294967296) :
    Calls Tryz.prog 57 #[.slice A n c, .int .i64 x, .slice D m d] w fun e w' =>
      ∃ A' c', e = .returned (.slice A' (n + m * wide x) c') ∧ Fresh w w' ∧ Own w' w.heap.size 5 A' (n + m * wide x) c' ((bs ++ puts (wide x) zs).map bv) := by
  obtain ⟨i0, hi0, hz0, hz1, hz2⟩ := info_parts byte_info
  have hw := wide_bd x
  generalize hW : wide x = W at *
  have HW := Lib.hid hW
  clear hW
  have held : ∀ w, Calls Tryz.prog 85 #[.int .i64 x] w fun e w' => e = .returned (.int .i64 W) ∧ w = w' := fun w => by rw [← HW.out]; exact held_any x w
  have HH := Lib.hid held
  clear held
  have hmul : (n : Int) + (W : Int) * (m : Int) = ((n + m * W : Nat) : Int) := by rw [Nat.mul_comm]; simp
  have hmw : m * W ≤ 4294967296 * 7 := Nat.mul_le_mul hm hw.2
  have hb1 : 0 ≤ (W : Int) * (m : Int) := by omega
  have hb2 : (W : Int) * (m : Int) ≤ 30064771072 := by omega
  have HM := Lib.hid hmul
  clear hmul
  have hlz : zs.length = m := by have := hd.1; rwa [List.length_map] at this
  have HLZ := Lib.hid hlz
  clear hlz
  go_enter Tryz.func57, Tryz.ntmps57
  go_wp2_with (first
    | (at_make; refine wpList_make_own _ rfl _ _ 32 rfl w.heap.size 5 i0 _ 1 Tryz.underlying32 hi0 hz0 hz1 _ _ _ (n + m * W) rfl rfl HM.out (by rw [hz2]; omega) (by unfold maxLen; omega) (Nat.le_refl _) ?_; intro w1 hown1 hg1)
    | (at_builtin; refine wpList_append_rd _ rfl _ _ 32 rfl w.heap.size 5 i0 _ 1 Tryz.underlying32 hi0 hz0 hz1 hz2 rfl _ 0 _ _ rfl hown1 B A n c _ rfl (ha.below (below_of_grown hg1 (Nat.le_refl _) (fun k hk => by cases hk)) hB) (bv_one bs) (by unfold maxLen; omega) (by omega) hg1.size ?_; intro A2 c2 w2 hown2 hg2)
    | (go_at_call 85; refine (HH.out _).mono ?_; rintro e w' ⟨rfl, rfl⟩))
  have hf1 : Fresh w w1 := below_of_grown hg1 (Nat.le_refl _) (fun k hk => by cases hk)
  have hf2 : Fresh w w2 := hf1.append hown1 (Nat.le_refl _) hg2
  rw [Nat.zero_add] at hown2
  clear hown1 hg1 hg2 hf1
  go_loopw [7, 26] (fun v i wr => ∃ (k c N : Nat) (A : Option Addr), k ≤ m ∧ i = .int .i64 k ∧ v = .slice A N c ∧ Hid (N = n + k * W) ∧ Fresh w wr ∧ Own wr w.heap.size 5 A N c ((bs ++ puts W (zs.take k)).map bv)) (fun _ i _ => m - (intOf i).toNat)
  case atStart => exact ⟨0, c2, n, A2, by omega, rfl, rfl, by simp [Hid], hf2, by simpa [puts] using hown2⟩
  case round =>
    obtain ⟨k, c3, N, A3, hk, rfl, rfl, hN, hf3, hown3⟩ := hrel
    have hkm : k * W ≤ m * W := Nat.mul_le_mul_right _ hk
    have hNb : N ≤ 34359738368 := by have := hN.out; omega
    by_cases hlt : k < m
    · obtain ⟨b, off, z, rfl, hb, hx, hcx⟩ := (hd.below hf3 hB').at_ hlt
      have HX := Lib.hid hx
      clear hx
      go_wp2
      go_loopw [7, 31] (fun v i wr => ∃ (j c : Nat) (A : Option Addr), j ≤ W ∧ i = .int .i64 j ∧ v = .slice A (N + j) c ∧ Fresh w wr ∧ Own wr w.heap.size 5 A (N + j) c ((bs ++ puts W (zs.take k) ++ low j (u64 z)).map bv)) (fun _ i _ => W - (intOf i).toNat)
      case atStart => exact ⟨0, c3, A3, by omega, rfl, rfl, hf3, by simpa [low] using hown3⟩
      case round =>
        obtain ⟨j, c4, A4, hj, rfl, rfl, hf4, hown4⟩ := hrel
        by_cases hlt2 : j < W
        · go_wp2_with (at_builtin; refine wpList_append_rd _ rfl _ _ 32 rfl w.heap.size 5 i0 _ 1 Tryz.underlying32 hi0 hz0 hz1 hz2 rfl A4 (N + j) c4 _ rfl (Own.fresh hown4 (Fresh.alloc _ _)) (wr.heap.size + 1) (some ⟨wr.heap.size, 0, none⟩) 1 1 [.int .u8 (z / 2 ^ (8 * j) % 256)] rfl (Rd.lit wr #[.int .u8 (z / 2 ^ (8 * j) % 256)] 5) (one_one _ _) (by unfold maxLen; omega) (by omega) (by have := hf4.size; simp; omega) ?_; intro A5 c5 w5 hown5 hg5)
          have hl : (bs ++ puts W (zs.take k) ++ low j (u64 z)).map bv ++ [Value.int .u8 (z / 2 ^ (8 * j) % 256)] = (bs ++ puts W (zs.take k) ++ low (j + 1) (u64 z)).map bv := by
            rw [low_succ, ← List.append_assoc, List.map_append (l₂ := [UInt8.ofNat _]), List.map_cons, List.map_nil, bv, ← byte_shr z j (by omega)]
          have hfr1 : Fresh w w5 := (hf4.trans (Fresh.alloc _ _)).append (Own.fresh hown4 (Fresh.alloc _ _)) (Nat.le_refl _) hg5
          rw [hl] at hown5
          clear hl hg5
          go_roundw
          case rel => exact ⟨j + 1, c5, A5, by omega, by go_num, rfl, hfr1, hown5⟩
          case measure => simp [intOf]; omega
        · have h0 : j = W := by omega
          subst h0
          go_wp2
          have hp : puts j (zs.take (k + 1)) = puts j (zs.take k) ++ low j (u64 z) := by
            rw [take_snoc _ _ _ HX.out, puts, List.flatMap_append, List.flatMap_cons, List.flatMap_nil, List.append_nil]; rfl
          have hN2 : N + j = n + (k + 1) * j := by rw [hN.out, Nat.succ_mul, Nat.add_assoc]
          have HP := Lib.hid hp
          have HN2 := Lib.hid hN2
          clear hp hN2
          go_roundw
          case rel => exact ⟨k + 1, c4, N + j, A4, by omega, by go_num, rfl, HN2, hf4, by rw [HP.out, ← List.append_assoc]; exact hown4⟩
          case measure => simp [intOf]; omega
    · have h0 : k = m := by omega
      subst h0
      go_wp2
      go_ret
      have e1 := HLZ.out
      have e2 := hN.out
      rw [List.take_of_length_le (Nat.le_of_eq e1), e2] at hown3
      exact ⟨A3, c3, by rw [← e2]; rfl, hf3, hown3⟩

theorem back (z : Int) (k : Nat) (hz : -9223372036854775808 ≤ z ∧ z ≤ 9223372036854775807) (hk : k ≤ 7) : (((u64 z % 256 ^ k : Nat) : Int) == z) = fits k [z] := by
  have hp : (256 : Nat) ^ k ≤ 72057594037927936 := pow7 hk
  have h0 : 0 < (256 : Nat) ^ k := Nat.pow_pos (by omega)
  have e : (256 : Int) ^ k = ((256 ^ k : Nat) : Int) := by simp
  unfold fits
  rw [List.all_cons, List.all_nil, Bool.and_true, e]
  generalize (256 : Nat) ^ k = p at *
  have hm := Nat.mod_lt (u64 z) h0
  by_cases h : 0 ≤ z ∧ z < (p : Int)
  · have h1 : u64 z = z.toNat := by unfold u64; omega
    have h2 : u64 z % p = z.toNat := by rw [h1]; exact Nat.mod_eq_of_lt (by omega)
    rw [h2, decide_eq_true h, beq_iff_eq]
    omega
  · rw [decide_eq_false h, beq_eq_false_iff_ne]
    omega

theorem puts_length (k : Nat) (zs : List Int) : (puts k zs).length = zs.length * k := by
  induction zs with
  | nil => simp [puts]
  | cons z r ih =>
    rw [puts, List.flatMap_cons, List.length_append, low_length, List.length_cons, Nat.succ_mul]
    rw [puts] at ih
    omega
theorem puts_snoc (k : Nat) (zs : List Int) (j : Nat) (z : Int) (h : zs[j]? = some z) : puts k (zs.take j) ++ puts k [z] = puts k (zs.take (j + 1)) := by
  rw [take_snoc _ _ _ h, puts, puts, puts, List.flatMap_append]
theorem puts_get (k : Nat) (zs : List Int) (i : Nat) (z : Int) (h : zs[i]? = some z) : ((puts k zs).drop (i * k)).take k = low k (u64 z) := by
  induction zs generalizing i with
  | nil => simp at h
  | cons y r ih =>
    rw [puts, List.flatMap_cons]
    cases i with
    | zero =>
      simp only [List.getElem?_cons_zero, Option.some.injEq] at h
      subst h
      rw [Nat.zero_mul, List.drop_zero, List.take_append_of_le_length (by rw [low_length]; omega), List.take_of_length_le (by rw [low_length]; omega)]
    | succ i =>
      rw [List.getElem?_cons_succ] at h
      have := ih i h
      rw [puts] at this
      rw [Nat.succ_mul, Nat.add_comm, ← List.drop_drop, List.drop_left' (low_length k _), this]

theorem put_is (A : Option Addr) (n c : Nat) (bs : List UInt8) (x : Int) (D : Option Addr) (m d : Nat) (zs : List Int) (w : World) (B B' : Nat) (N : Nat) (ys : List UInt8) (ha : Rd w B A n (bs.map bv)) (hB : B ≤ w.heap.size)
    (hd : Rd w B' D m (zs.map iv)) (hB' : B' ≤ w.heap.size) (hz : ∀ z ∈ zs, (Lit.int .i64 z).wf = true) (hn : n ≤ 4294967296) (hm : m ≤ 4294967296) (hN : n + m * wide x = N) (hy : bs ++ puts (wide x) zs = ys) :
    Calls Tryz.prog 57 #[.slice A n c, .int .i64 x, .slice D m d] w fun e w' =>
      ∃ A' c', e = .returned (.slice A' N c') ∧ Fresh w w' ∧ Own w' w.heap.size 5 A' N c' (ys.map bv) := by
  subst hN
  subst hy
  exact put_any A n c bs x D m d zs w B B' ha hB hd hB' hz hn hm

end Go.Proofs.YtcdehklcdipcfaaGreat.word
