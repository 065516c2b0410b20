/-
  The walk of the law WordCuts. My own text.
-/
import Derived.Test.YtnhcolfldkaonaaPuts
import Derived.Test.YtnhcolfldkaonaaOpen
import Derived.Deep.DeepCutAuto
namespace Go.Proofs.Ytnhcolfldkaonaa.wordCuts
open Go.RowKit Go.Proofs.Ytnhcolfldkaonaa.base Go.Proofs.Ytnhcolfldkaonaa.num Go.Proofs.Ytnhcolfldkaonaa.word
set_option linter.unusedVariables false

theorem after {w wc w1 w2 w4 : World} {A0 A1 A2 A3 : Option Addr} {n0 k m c1 c2 c3 : Nat} {x0 y1 y2 : List UInt8} (hr : Rd w w.heap.size A0 n0 (x0.map bv)) (hfB : Fresh w wc) (hf1 : Fresh wc w1) (hf2 : Fresh w1 w2)
    (ho1 : Own w1 wc.heap.size 5 A1 k c1 (y1.map bv)) (ho2 : Own w2 w1.heap.size 5 A2 m c2 (y2.map bv)) (ho4 : Own w4 wc.heap.size 5 A3 (k + m) c3 (y1.map bv ++ y2.map bv))
    (hg : w2.grownBy w4 (Value.slice A1 k c1).ownBlock) (hx : y1 ++ y2 = x0) : Rd w4 w4.heap.size A3 (k + m) (x0.map bv) ∧ Rd w4 w.heap.size A0 n0 (x0.map bv) ∧ Fresh w w4 := by
  have hf : Fresh w w4 := (((hfB.trans hf1).trans hf2)).append (Own.fresh ho1 hf2) hfB.size hg
  refine ⟨?_, hr.below hf (Nat.le_refl _), hf⟩
  rw [← hx, List.map_append]
  exact ho4.rd

set_option maxHeartbeats 2000000 in
theorem wordCuts_walk (A0 : Option Addr) (n0 c0 : Nat) (x0 : List UInt8) (a1 : Int) (w : World) (b0 : InBytes w A0 n0 c0 x0) (w1 : (Lit.int .u16 a1).wf = true) :
    Calls Try.prog 7 #[.slice A0 n0 c0, .int .u16 a1] w fun e w' => e = .returned (.bool true) ∧ Below w.heap.size w w' := by
  obtain ⟨hr, hc, hm⟩ := b0
  have h1 : 0 ≤ a1 ∧ a1 ≤ 65535 := by simpa [Lit.wf, IntKind.min, IntKind.max, IntKind.signed, IntKind.bits] using w1
  obtain ⟨a, rfl⟩ := Int.eq_ofNat_of_zero_le h1.1
  have HM := Lib.hid hm
  have hm2 : c0 ≤ 9223372036854775807 := by unfold maxLen at hm; omega
  clear hm w1
  obtain ⟨i0, hi0, hz0, hz1, hz2⟩ := info_parts byte_info
  by_cases hbig : 300 < n0
  · go_enter Try.func7, Try.ntmps7
    go_wp2_with (go_at_call 9; refine (wakes_any _).mono ?_; rintro e wA ⟨rfl, hfA⟩)
    go_ret
    exact ⟨rfl, hfA⟩
  · have hlx : x0.length = n0 := by have := hr.1; rwa [List.length_map] at this
    have HLX := Lib.hid hlx
    clear hlx
    have hmod : 0 ≤ (a : Int) % ((n0 : Int) + 1) ∧ (a : Int) % ((n0 : Int) + 1) < (n0 : Int) + 1 := ⟨Int.emod_nonneg _ (by omega), Int.emod_lt_of_pos _ (by omega)⟩
    go_enter Try.func7, Try.ntmps7
    go_upto_region 5 with (first
      | (go_at_call 9; refine (wakes_any _).mono ?_; rintro e wA ⟨rfl, hfA⟩))
    go_cut [5] (fun s wx => ∃ k : Nat, k ≤ n0 ∧ s = .int .i64 k ∧ Fresh w wx)
    case first =>
      go_wp2
      go_meet
      exact ⟨((a : Int) % ((n0 : Int) + 1)).toNat, by omega, by rw [Int.toNat_of_nonneg hmod.1], hfA⟩
    case rest =>
      obtain ⟨k, hk, rfl, hfB⟩ := hcut
      clear hmod
      obtain ⟨m, hm⟩ : ∃ m, n0 = k + m := ⟨n0 - k, by omega⟩
      have hx1 : ((x0.drop (0 : Int).toNat).take k) ++ ((x0.drop (k : Int).toNat).take m) = x0 := by
        show (x0.drop 0).take k ++ (x0.drop (k : Int).toNat).take m = x0
        rw [Int.toNat_natCast, List.drop_zero, List.take_of_length_le (l := x0.drop k) (by rw [List.length_drop, HLX.out]; omega), List.take_append_drop]
      have HX1 := Lib.hid hx1
      have HK := Lib.hid hm
      have hk1 : k + m ≤ n0 := by omega
      have hk2 : n0 ≤ k + m := by omega
      clear hx1 hm
      by_cases hk0 : 0 < k
      all_goals
        go_wp2_with (first
          | (go_at_call 17; (with_reducible refine (cut_is A0 n0 c0 x0 _ 0 (k : Int) k wc w.heap.size (hr.below hfB (Nat.le_refl _)) hfB.size hc HM.out (by omega) rfl (by simpa using hk) (by omega) rfl).mono ?_); rintro e w1 ⟨A1, c1, rfl, hf1, ho1⟩)
          | (go_at_call 17; (with_reducible refine (cut_is A0 n0 c0 x0 _ (k : Int) ((n0 : Int) - (k : Int)) m w1 w.heap.size (hr.below (hfB.trans hf1) (Nat.le_refl _)) (hfB.trans hf1).size hc HM.out (by omega) (by omega) (by omega) (by omega) rfl).mono ?_); rintro e w2 ⟨A2, c2, rfl, hf2, ho2⟩)
          | (go_at_call 15; refine (get_end A1 k c1 _ 2 _ (by unfold maxLen; omega) (by omega) (by omega) (by rw [show wide 2 = 2 from by decide]; omega)).mono ?_; rintro e w3 ⟨rfl, rfl⟩)
          | (at_builtin; refine wpList_append_rd_if _ rfl _ _ 22 rfl wc.heap.size 5 i0 _ 1 Try.underlying22 hi0 hz0 hz1 hz2 rfl A1 k c1 _ rfl (Own.fresh ho1 hf2) w2.heap.size A2 m c2 _ rfl ho2.rd (bv_one _) (by unfold maxLen; omega) (by omega) (hf1.trans hf2).size ?_; intro A3 c3 w4 ho4 hg4; have HH4 := after hr hfB hf1 hf2 ho1 ho2 ho4 hg4 HX1.out)
          | (go_at_call 13; refine (same_is A3 A0 (k + m) n0 c3 c0 x0 w4 w4.heap.size w.heap.size HH4.1 HH4.2.1 (by unfold maxLen; omega) HK.out.symm).mono ?_; rintro e w5 ⟨rfl, hf5⟩))
        go_ret
        exact ⟨rfl, HH4.2.2.trans hf5⟩

end Go.Proofs.Ytnhcolfldkaonaa.wordCuts
