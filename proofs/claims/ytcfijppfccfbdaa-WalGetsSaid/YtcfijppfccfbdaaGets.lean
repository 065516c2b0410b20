/-
  The contracts of word.Get, word.Fits, ref.Number. My own text.
-/
import Derived.Test.YtcfijppfccfbdaaLeaf
import Derived.Test.YtcfijppfccfbdaaNum
namespace Go.Proofs.Ytcfijppfccfbdaa.word
open Go.RowKit Go.Proofs.Ytcfijppfccfbdaa.base Go.Proofs.Ytcfijppfccfbdaa.num
set_option linter.unusedVariables false

/-- the reference's Number, of up to seven bytes -/
theorem number_any (A : Option Addr) (n c : Nat) (xs : List UInt8) (w : World) (B : Nat) (ha : Rd w B A n (xs.map bv)) (hn : n ≤ 7) :
    Calls Try.prog 25 #[.slice A n c] w fun e w' => e = .returned (.int .i64 (num xs)) ∧ w = w' := by
  have hl : xs.length = n := by have := ha.1; rwa [List.length_map] at this
  have HL := Lib.hid hl
  clear hl
  go_enter Try.func25, Try.ntmps25
  go_wp2
  go_loop [3, 4] (fun t i => ∃ k : Nat, k ≤ n ∧ i = .int .i64 ((k : Int) - 1) ∧ t = .int .i64 (num (xs.drop k))) (fun _ i => (intOf i + 1).toNat)
  case atStart => exact ⟨n, by omega, rfl, by rw [List.drop_of_length_le (by have := HL.out; omega)]; rfl⟩
  case round =>
    obtain ⟨k, hk, rfl, rfl⟩ := hrel
    by_cases hlt : 0 < k
    · obtain ⟨j, rfl⟩ : ∃ j, k = j + 1 := ⟨k - 1, by omega⟩
      obtain ⟨b, off, x, rfl, hb, hx, hcx⟩ := ha.at_ (k := j) (by omega)
      have hd := num_drop xs j x hx
      have hs := num_lt7 (xs.drop j) (by have := HL.out; rw [List.length_drop]; omega)
      have h1 : num (xs.drop (j + 1)) < 281474976710656 := by omega
      have h2 := x.toNat_lt
      have H := Lib.hid hd
      clear hd hs hx ha
      go_wp2
      go_round
      case rel => exact ⟨j, by omega, by go_num, by rw [H.out]; go_num⟩
      case measure => simp [intOf]
    · have h0 : k = 0 := by omega
      subst h0
      go_wp2
      go_ret
      exact ⟨rfl, rfl⟩

/-- word.Get, refused -/
theorem get_arg (A : Option Addr) (n c : Nat) (at_ k : Int) (w : World) (h : at_ < 0) :
    Calls Try.prog 30 #[.slice A n c, .int .i64 at_, .int .i64 k] w fun e w' => e = .returned (.tuple #[.int .i64 0, .int .i64 1]) ∧ w = w' := by
  go_enter Try.func30, Try.ntmps30
  go_wp2_with (first
    | (go_at_call 33; refine (held_any _ _).mono ?_; rintro e w' ⟨rfl, rfl⟩)
    | (go_at_call 37; refine (piece_arg _ _ _ _ _ _ (.inl h)).mono ?_; rintro e w' ⟨rfl, rfl⟩))
  go_ret2
  exact ⟨rfl, rfl⟩

theorem get_end (A : Option Addr) (n c : Nat) (at_ k : Int) (w : World) (hn : n ≤ maxLen) (h1 : 0 ≤ at_) (hm : at_ ≤ 9223372036854775807) (h : (n : Int) - at_ < wide k) :
    Calls Try.prog 30 #[.slice A n c, .int .i64 at_, .int .i64 k] w fun e w' => e = .returned (.tuple #[.int .i64 0, .int .i64 3]) ∧ w = w' := by
  go_enter Try.func30, Try.ntmps30
  go_wp2_with (first
    | (go_at_call 33; refine (held_any _ _).mono ?_; rintro e w' ⟨rfl, rfl⟩)
    | (go_at_call 37; refine (piece_end _ _ _ _ _ _ hn h1 (by omega) hm h).mono ?_; rintro e w' ⟨rfl, rfl⟩))
  go_ret2
  exact ⟨rfl, rfl⟩

theorem get_ok (A : Option Addr) (n c : Nat) (xs : List UInt8) (at_ : Nat) (k : Int) (w : World) (B : Nat) (hr : Rd w B A n (xs.map bv)) (hc : n ≤ c) (hm : c ≤ maxLen) (h : at_ + wide k ≤ n) :
    Calls Try.prog 30 #[.slice A n c, .int .i64 at_, .int .i64 k] w fun e w' => e = .returned (.tuple #[.int .i64 (num ((xs.drop at_).take (wide k))), .int .i64 0]) ∧ w = w' := by
  have hw := wide_bd k
  generalize hW : wide k = W at *
  have HW := Lib.hid hW
  clear hW
  have held : ∀ w, Calls Try.prog 33 #[.int .i64 k] w fun e w' => e = .returned (.int .i64 W) ∧ w = w' := fun w => by rw [← HW.out]; exact held_any k w
  have HH := Lib.hid held
  clear held
  go_enter Try.func30, Try.ntmps30
  go_wp2_with (first
    | (go_at_call 33; refine (HH.out _).mono ?_; rintro e w' ⟨rfl, rfl⟩)
    | (go_at_call 37; refine (piece_ok _ _ _ _ _ _ _ B hr hc hm h).mono ?_; rintro e w' ⟨A1, c1, rfl, rfl, h1, h2, h3⟩; rw [← List.map_drop, ← List.map_take] at h3))
  generalize hys : (xs.drop at_).take W = ys at *
  have HY := Lib.hid hys
  clear hys hr
  have hl : ys.length = W := by have := h3.1; rwa [List.length_map] at this
  have HL := Lib.hid hl
  clear hl
  go_loop [10, 26] (fun t i => ∃ k : Nat, k ≤ W ∧ i = .int .i64 k ∧ t = .int .i64 (num (ys.take k))) (fun _ i => W - (intOf i).toNat)
  case atStart => exact ⟨0, by omega, rfl, rfl⟩
  case round =>
    obtain ⟨k, hk, rfl, rfl⟩ := hrel
    by_cases hlt : k < W
    · obtain ⟨b, off, x, rfl, hb, hx, hcx⟩ := h3.at_ hlt
      have hd := num_take ys k x hx
      have hs := num_lt7 (ys.take (k + 1)) (by have := HL.out; rw [List.length_take]; omega)
      have h5 : num (ys.take k) < 72057594037927936 := by omega
      have h6 := x.toNat_lt
      have h7 : num (ys.take k) < 256 ^ k := by
        have := num_lt (ys.take k)
        rwa [List.length_take, Nat.min_eq_left (by have := HL.out; omega)] at this
      have H := Lib.hid hd
      clear hd hs hx
      go_wp2
      go_round
      case rel => exact ⟨k + 1, by omega, by go_num, by rw [H.out, or_high _ _ _ h7 (by omega) h6]⟩
      case measure => simp [intOf]; omega
    · have h0 : k = W := by omega
      subst h0
      go_wp2
      go_ret2
      refine ⟨?_, rfl⟩
      show Ending.returned (.tuple #[.int .i64 (num (ys.take k)), .int .i64 0]) = _
      rw [HY.out, List.take_of_length_le (Nat.le_of_eq HL.out)]

/-- all of them are from 0 to 256^w - 1 -/
def fits (k : Nat) (zs : List Int) : Bool := zs.all fun z => decide (0 ≤ z ∧ z < 256 ^ k)
theorem fits_take (k i : Nat) (zs : List Int) (z : Int) (h : zs[i]? = some z) (hf : fits k (zs.take i) = true) (hz : decide (0 ≤ z ∧ z < 256 ^ k) = true) : fits k (zs.take (i + 1)) = true := by
  rw [take_snoc _ _ _ h, fits, List.all_append, List.all_cons, List.all_nil, Bool.and_true]
  rw [fits] at hf
  rw [hf, hz]; rfl
theorem fits_no (k i : Nat) (zs : List Int) (z : Int) (h : zs[i]? = some z) (hz : decide (0 ≤ z ∧ z < 256 ^ k) = false) : fits k zs = false := by
  rw [fits, Bool.eq_false_iff]
  intro hall
  rw [List.all_eq_true] at hall
  have := hall z (List.mem_of_getElem? h)
  rw [hz] at this
  cases this

theorem not_t {b : Bool} (h : (!b) = true) : b = false := by cases b <;> first | rfl | cases h
theorem not_f {b : Bool} (h : (!b) = false) : b = true := by cases b <;> first | rfl | cases h
theorem i64_bd {z : Int} (h : (Lit.int .i64 z).wf = true) : -9223372036854775808 ≤ z ∧ z ≤ 9223372036854775807 := by
  simpa [Lit.wf, IntKind.min, IntKind.max, IntKind.signed, IntKind.bits] using h

theorem fits_any (A : Option Addr) (n c : Nat) (zs : List Int) (x : Int) (w : World) (B : Nat) (ha : Rd w B A n (zs.map iv)) (hn : n ≤ maxLen) (hz : ∀ z ∈ zs, (Lit.int .i64 z).wf = true) :
    Calls Try.prog 26 #[.int .i64 x, .slice A n c] w fun e w' => e = .returned (.bool (fits (wide x) zs)) ∧ w = w' := by
  have hw := wide_bd x
  generalize hW : wide x = W at *
  have HW := Lib.hid hW
  clear hW
  have held : ∀ w, Calls Try.prog 33 #[.int .i64 x] w fun e w' => e = .returned (.int .i64 W) ∧ w = w' := fun w => by rw [← HW.out]; exact held_any x w
  have HH := Lib.hid held
  clear held
  unfold maxLen at hn
  have hl : zs.length = n := by have := ha.1; rwa [List.length_map] at this
  have HL := Lib.hid hl
  clear hl
  go_enter Try.func26, Try.ntmps26
  go_wp2_with (go_at_call 33; refine (HH.out _).mono ?_; rintro e w' ⟨rfl, rfl⟩)
  go_loop [11] (fun i => ∃ k : Nat, k ≤ n ∧ i = .int .i64 k ∧ fits W (zs.take k) = true) (fun i => n - (intOf i).toNat)
  case atStart => exact ⟨0, by omega, rfl, rfl⟩
  case round =>
    obtain ⟨k, hk, rfl, hf⟩ := hrel
    by_cases hlt : k < n
    · obtain ⟨b, off, z, rfl, hb, hx, hcx⟩ := ha.at_ hlt
      have ht := fits_test z W (i64_bd (hz z (List.mem_of_getElem? hx))) hw
      have HT := Lib.hid ht
      have HX := Lib.hid hx
      have HF := Lib.hid hf
      clear ht hx hf hz ha
      go_wp2
      · have hb : (IntKind.u64.wrap z / 2 ^ (8 * W) != 0) = true := by assumption
        rw [HT.out] at hb
        go_ret
        exact ⟨by rw [fits_no W k zs z HX.out (not_t hb)]; rfl, rfl⟩
      · have hb : (IntKind.u64.wrap z / 2 ^ (8 * W) != 0) = false := by assumption
        rw [HT.out] at hb
        go_round
        case rel => exact ⟨k + 1, by omega, by go_num, fits_take W k zs z HX.out HF.out (not_f hb)⟩
        case measure => simp [intOf]; omega
    · have h0 : k = n := by omega
      subst h0
      have HF := Lib.hid hf
      clear hf
      go_wp2
      go_ret
      refine ⟨?_, rfl⟩
      have := HF.out
      rw [List.take_of_length_le (Nat.le_of_eq HL.out)] at this
      rw [this]; rfl

theorem number_is (A : Option Addr) (n c : Nat) (xs : List UInt8) (w : World) (B : Nat) (R : Int) (ha : Rd w B A n (xs.map bv)) (hn : n ≤ 7) (hR : (num xs : Int) = R) :
    Calls Try.prog 25 #[.slice A n c] w fun e w' => e = .returned (.int .i64 R) ∧ w = w' := by
  subst hR
  exact number_any A n c xs w B ha hn

theorem get_is (A : Option Addr) (n c : Nat) (xs : List UInt8) (at_ : Int) (k : Int) (w : World) (B : Nat) (R : Int) (hr : Rd w B A n (xs.map bv)) (hc : n ≤ c) (hm : c ≤ maxLen) (h0 : 0 ≤ at_) (h : at_.toNat + wide k ≤ n) (hR : (num ((xs.drop at_.toNat).take (wide k)) : Int) = R) :
    Calls Try.prog 30 #[.slice A n c, .int .i64 at_, .int .i64 k] w fun e w' => e = .returned (.tuple #[.int .i64 R, .int .i64 0]) ∧ w = w' := by
  subst hR
  have := get_ok A n c xs at_.toNat k w B hr hc hm h
  rwa [Int.toNat_of_nonneg h0] at this

theorem fits_is (A : Option Addr) (n c : Nat) (zs : List Int) (x : Int) (w : World) (B : Nat) (b : Bool) (ha : Rd w B A n (zs.map iv)) (hn : n ≤ maxLen) (hz : ∀ z ∈ zs, (Lit.int .i64 z).wf = true) (hb : fits (wide x) zs = b) :
    Calls Try.prog 26 #[.int .i64 x, .slice A n c] w fun e w' => e = .returned (.bool b) ∧ w = w' := by
  subst hb
  exact fits_any A n c zs x w B ha hn hz

end Go.Proofs.Ytcfijppfccfbdaa.word
