/-
  The contracts of word.Get, word.Fits, ref.Number. My own text.
-/
import Derived.Test.YticpplnfgajjnaaLeaf
import Derived.Test.YticpplnfgajjnaaNum
namespace Go.Proofs.Yticpplnfgajjnaa.word
open Go.RowKit Go.Proofs.Yticpplnfgajjnaa.base Go.Proofs.Yticpplnfgajjnaa.num
set_option linter.unusedVariables false

/-- all of them are from 0 to 256^w - 1 -/
def fits (k : Nat) (zs : List Int) : Bool := zs.all fun z => decide (0 ≤ z ∧ z < 256 ^ k)
theorem fits_take (k i : Nat) (zs : List Int) (z : Int) (h : zs[i]? = some z) (hf : fits k (zs.take i) = true) (hz : decide (0 ≤ z ∧ z < 256 ^ k) = true) : fits k (zs.take (i + 1)) = true := by
  rw [take_snoc _ _ _ h, fits, List.all_append, List.all_cons, List.all_nil, Bool.and_true]
  rw [fits] at hf
  rw [hf, hz]; rfl
theorem fits_no (k i : Nat) (zs : List Int) (z : Int) (h : zs[i]? = some z) (hz : decide (0 ≤ z ∧ z < 256 ^ k) = false) : fits k zs = false := by
  rw [fits, Bool.eq_false_iff]
  intro hall
  rw [List.all_eq_true] at hall
  have := hall z (List.mem_of_getElem? h)
  rw [hz] at this
  cases this

theorem not_t {b : Bool} (h : (!b) = true) : b = false := by cases b <;> first | rfl | cases h
theorem not_f {b : Bool} (h : (!b) = false) : b = true := by cases b <;> first | rfl | cases h
theorem i64_bd {z : Int} (h : (Lit.int .i64 z).wf = true) : -9223372036854775808 ≤ z ∧ z ≤ 9223372036854775807 := by
  simpa [Lit.wf, IntKind.min, IntKind.max, IntKind.signed, IntKind.bits] using h

theorem fits_any (A : Option Addr) (n c : Nat) (zs : List Int) (x : Int) (w : World) (B : Nat) (ha : Rd w B A n (zs.map iv)) (hn : n ≤ maxLen) (hz : ∀ z ∈ zs, (Lit.int .i64 z).wf = true) :
    Calls Try.prog 17 #[.int .i64 x, .slice A n c] w fun e w' => e = .returned (.bool (fits (wide x) zs)) ∧ w = w' := by
  have hw := wide_bd x
  generalize hW : wide x = W at *
  have HW := Lib.hid hW
  clear hW
  have held : ∀ w, Calls Try.prog 21 #[.int .i64 x] w fun e w' => e = .returned (.int .i64 W) ∧ w = w' := fun w => by rw [← HW.out]; exact held_any x w
  have HH := Lib.hid held
  clear held
  unfold maxLen at hn
  have hl : zs.length = n := by have := ha.1; rwa [List.length_map] at this
  have HL := Lib.hid hl
  clear hl
  go_enter Try.func17, Try.ntmps17
  go_wp2_with (go_at_call 21; refine (HH.out _).mono ?_; rintro e w' ⟨rfl, rfl⟩)
  go_loop [11] (fun i => ∃ k : Nat, k ≤ n ∧ i = .int .i64 k ∧ fits W (zs.take k) = true) (fun i => n - (intOf i).toNat)
  case atStart => exact ⟨0, by omega, rfl, rfl⟩
  case round =>
    obtain ⟨k, hk, rfl, hf⟩ := hrel
    by_cases hlt : k < n
    · obtain ⟨b, off, z, rfl, hb, hx, hcx⟩ := ha.at_ hlt
      have ht := fits_test z W (i64_bd (hz z (List.mem_of_getElem? hx))) hw
      have HT := Lib.hid ht
      have HX := Lib.hid hx
      have HF := Lib.hid hf
      clear ht hx hf hz ha
      go_wp2
      · have hb : (IntKind.u64.wrap z / 2 ^ (8 * W) != 0) = true := by assumption
        rw [HT.out] at hb
        go_ret
        exact ⟨by rw [fits_no W k zs z HX.out (not_t hb)]; rfl, rfl⟩
      · have hb : (IntKind.u64.wrap z / 2 ^ (8 * W) != 0) = false := by assumption
        rw [HT.out] at hb
        go_round
        case rel => exact ⟨k + 1, by omega, by go_num, fits_take W k zs z HX.out HF.out (not_f hb)⟩
        case measure => simp [intOf]; omega
    · have h0 : k = n := by omega
      subst h0
      have HF := Lib.hid hf
      clear hf
      go_wp2
      go_ret
      refine ⟨?_, rfl⟩
      have := HF.out
      rw [List.take_of_length_le (Nat.le_of_eq HL.out)] at this
      rw [this]; rfl

theorem fits_is (A : Option Addr) (n c : Nat) (zs : List Int) (x : Int) (w : World) (B : Nat) (b : Bool) (ha : Rd w B A n (zs.map iv)) (hn : n ≤ maxLen) (hz : ∀ z ∈ zs, (Lit.int .i64 z).wf = true) (hb : fits (wide x) zs = b) :
    Calls Try.prog 17 #[.int .i64 x, .slice A n c] w fun e w' => e = .returned (.bool b) ∧ w = w' := by
  subst hb
  exact fits_any A n c zs x w B ha hn hz

end Go.Proofs.Yticpplnfgajjnaa.word
