/-
  The walk of the law DeflateStored. My own text.
-/
import Derived.Test.YtcmeoappddpmcaaDoorDefRef
import Derived.Test.YtcmeoappddpmcaaDoorOpen
import Derived.Lib.SmallJoins
namespace Go.Proofs.YtcmeoappddpmcaaDoor.deflateStored
open Go.RowKit Go.Proofs.YtcmeoappddpmcaaDoor.base Go.Proofs.YtcmeoappddpmcaaDoor.num Go.Proofs.YtcmeoappddpmcaaDoor.bitp Go.Proofs.YtcmeoappddpmcaaDoor.infp Go.Proofs.YtcmeoappddpmcaaDoor.defp
set_option linter.unusedVariables false
theorem chop_one : chop 1 [97] = [1, 1, 0, 254, 255, 97] := by
  rw [chop_small 1 (by decide)]
  decide
theorem char_rd (w : World) : Rd ((w.alloc (.cells #[.int .u8 97] 5 (1, 2)))) (w.heap.size + 1) (some ⟨w.heap.size, 0, none⟩) 1 (([97] : List UInt8).map bv) := Rd.mark w #[.int .u8 97] 5 (1, 2)
set_option maxRecDepth 100000 in
set_option maxHeartbeats 4000000 in
theorem wakes_any (w : World) : Calls Tryd.prog 5 #[] w fun e w' => e = .returned (.bool true) ∧ Fresh w w' := by
  have hcv := Joins.run_convert_bytes_const_at (P := Tryd.prog) w 22 5 #[.int .u8 97] 1 1 w.heap.size rfl Tryd.underlying22 Tryd.underlying5
  go_enter Tryd.func5, Tryd.ntmps5
  go_wp2_with (first
    | (go_at_call 6; clear hcv; (with_reducible refine (pack_stored _ 1 1 [97] _ (w.heap.size + 1) (char_rd w) (by simp) (by omega) (Nat.le_refl _) (by unfold maxLen; omega)).mono ?_); rintro e w2 ⟨A1, m1, c1, rfl, hl1, ho1, hf1⟩; rw [chop_one] at hl1 ho1; subst hl1)
    | (go_at_call 7; refine (same_yes A1 _ 6 _ _ [1, 1, 0, 254, 255, 97] _ _ (w2.heap.size + 1) (Own.fresh ho1 (Fresh.alloc _ _)).rd (Rd.lit w2 #[.int .u8 1, .int .u8 1, .int .u8 0, .int .u8 254, .int .u8 255, .int .u8 97] 5) (by unfold maxLen; omega)).mono ?_; rintro e w5 ⟨rfl, hf5⟩))
  go_ret
  exact ⟨rfl, (((Fresh.alloc _ _).trans hf1).trans (Fresh.alloc _ _)).trans hf5⟩
/-- the same bytes, so many times -/
def again : Nat → List UInt8 → List UInt8
  | 0, _ => []
  | k + 1, bs => again k bs ++ bs
theorem again_len (bs : List UInt8) : ∀ k, (again k bs).length = k * bs.length
  | 0 => by simp [again]
  | k + 1 => by rw [again, List.length_append, again_len bs k, Nat.succ_mul]
set_option maxRecDepth 100000 in
set_option maxHeartbeats 8000000 in
theorem deflateStored_walk (A0 : Option Addr) (n0 c0 : Nat) (x0 : List UInt8) (a1 : Int) (w : World) (b0 : InBytes w A0 n0 c0 x0) (w1 : (Lit.int .u8 a1).wf = true) :
    Calls Tryd.prog 3 #[.slice A0 n0 c0, .int .u8 a1] w fun e w' => e = .returned (.bool true) ∧ Below w.heap.size w w' := by
  obtain ⟨i0, hi0, hz0, hz1, hz2⟩ := info_parts info_byte
  obtain ⟨hr0, hn0, hm0⟩ := b0
  have h1 : 0 ≤ a1 ∧ a1 ≤ 255 := by simpa [Lit.wf, IntKind.min, IntKind.max, IntKind.signed, IntKind.bits] using w1
  obtain ⟨t, rfl⟩ := Int.eq_ofNat_of_zero_le h1.1
  have ht : t ≤ 255 := by omega
  have hl0 : x0.length = n0 := by have := hr0.1; rwa [List.length_map] at this
  unfold maxLen at hm0
  have HR0 := Lib.hid hr0
  have HL0 := Lib.hid hl0
  clear hr0 w1 h1 hl0
  by_cases hbig : 1000 < n0
  · go_enter Tryd.func3, Tryd.ntmps3
    go_wp2_with (go_at_call 5; refine (wakes_any _).mono ?_; rintro e wA ⟨rfl, hfA⟩)
    go_ret
    exact ⟨rfl, hfA⟩
  go_enter Tryd.func3, Tryd.ntmps3
  go_wp2_with (go_at_call 5; refine (wakes_any _).mono ?_; rintro e wA ⟨rfl, hfA⟩)
  go_loopw [5, 16] (fun va vi wr => ∃ (j m d : Nat) (D : Option Addr), j ≤ 1 + t ∧ vi = .int .i64 j ∧ va = .slice D m d ∧ Hid ((again j x0).length = m) ∧ m ≤ j * 1000 ∧ Own wr w.heap.size 5 D m d ((again j x0).map bv) ∧ Fresh w wr) (fun _ vi _ => 1 + t - (intOf vi).toNat)
  case atStart => exact ⟨0, 0, 0, none, by omega, rfl, rfl, rfl, by omega, Own.nil _ _ _, hfA⟩
  case round =>
    obtain ⟨j, m, d, D, hj, rfl, rfl, hm, hm1, hown, hfr⟩ := hrel
    by_cases hlt : j < 1 + t
    · have hr := HR0.out.below hfr (Nat.le_refl _)
      have hjt : (j : Int) < 1 + (t : Int) := by omega
      go_wp2_with (at_builtin; refine wpList_append_rdx _ rfl (.tmp 18) (.tmp 19) 22 rfl w.heap.size 5 i0 _ 1 Tryd.underlying22 hi0 hz0 hz1 hz2 rfl D m d ((again j x0).map bv) rfl hown w.heap.size A0 n0 c0 (x0.map bv) rfl hr (bv_one x0) (by unfold maxLen; omega) (by omega) hfr.size ?_; intro A1 c1 w1 ho1 hg1 hw1; have hf1 := hfr.append hown (Nat.le_refl _) hg1; rw [← List.map_append] at ho1; have HO1 := Lib.hid ho1; clear ho1 hown hg1 hw1)
      have hm2 : (again (j + 1) x0).length = m + n0 := by rw [again, List.length_append, hm.out, HL0.out]
      have HM2 := Lib.hid hm2
      clear hm2 hjt
      go_roundw
      case rel => exact ⟨j + 1, m + n0, c1, A1, by omega, by go_num, rfl, HM2.out, by omega, HO1.out, hf1⟩
      case measure => simp [intOf]; omega
    · have hjt : ¬ (j : Int) < 1 + (t : Int) := by omega
      have hcap := hown.cap
      have hp := pack_stored D m d (again j x0) wr wr.heap.size hown.rd (Nat.le_refl _) (by omega) hcap.1 hcap.2
      have HOWN := Lib.hid hown
      have HCAP := Lib.hid hcap
      clear hown hcap
      go_wp2_with (first
        | (go_at_call 6; (with_reducible refine hp.mono ?_); rintro e w2 ⟨A1, m1, c1, rfl, hl1, ho1, hf1⟩; clear hp; have hs := refStored_any D m d (again j x0) w2 w2.heap.size (HOWN.out.fresh hf1).rd (Nat.le_refl _) (by omega) HCAP.out.1 HCAP.out.2; have HL1 := Lib.hid hl1; have HO1 := Lib.hid ho1; clear hl1 ho1)
        | (go_at_call 8; (with_reducible refine hs.mono ?_); rintro e w3 ⟨A2, m2, c2, rfl, hl2, ho2, hf2⟩; clear hs; rw [HL1.out] at hl2; subst hl2; have hq := same_yes A1 A2 m1 c1 c2 (chop m (again j x0)) w3 _ _ (HO1.out.fresh hf2).rd ho2.rd (by have := ho2.cap; omega); clear ho2)
        | (go_at_call 7; (with_reducible refine hq.mono ?_); rintro e w4 ⟨rfl, hf4⟩; clear hq))
      go_ret
      exact ⟨rfl, ((hfr.trans hf1).trans hf2).trans hf4⟩
end Go.Proofs.YtcmeoappddpmcaaDoor.deflateStored
