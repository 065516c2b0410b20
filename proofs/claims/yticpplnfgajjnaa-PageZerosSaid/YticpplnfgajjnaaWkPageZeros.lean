/-
  The walk of the law PageZeros. My own text.
-/
import Derived.Test.YticpplnfgajjnaaPagLaw
import Derived.Test.YticpplnfgajjnaaOpen
namespace Go.Proofs.Yticpplnfgajjnaa.pageZeros
open Go.RowKit Go.Proofs.Yticpplnfgajjnaa.base Go.Proofs.Yticpplnfgajjnaa.num Go.Proofs.Yticpplnfgajjnaa.word Go.Proofs.Yticpplnfgajjnaa.pagn Go.Proofs.Yticpplnfgajjnaa.pagp
set_option linter.unusedVariables false
theorem rep_bv (z : Nat) : List.replicate z (Value.int .u8 0) = (List.replicate z (0 : UInt8)).map bv := by rw [List.map_replicate]; rfl

set_option maxRecDepth 100000 in
theorem pageZeros_walk (a0 : Int) (A1 : Option Addr) (n1 c1 : Nat) (x1 : List UInt8) (a2 : Int) (w : World) (w0 : (Lit.int .u16 a0).wf = true) (b1 : InBytes w A1 n1 c1 x1) (s1 : c1 * 1 ≤ 140737488351232) (w2 : (Lit.int .u8 a2).wf = true) :
    Calls Try.prog 6 #[.int .u16 a0, .slice A1 n1 c1, .int .u8 a2] w fun e w' => e = .returned (.bool true) ∧ Below w.heap.size w w' := by
  obtain ⟨i0, hi0, hz0, hz1, hz2⟩ := info_parts byte_info
  have h0 : 0 ≤ a0 ∧ a0 ≤ 65535 := by simpa [Lit.wf, IntKind.min, IntKind.max, IntKind.signed, IntKind.bits] using w0
  have h2 : 0 ≤ a2 ∧ a2 ≤ 255 := by simpa [Lit.wf, IntKind.min, IntKind.max, IntKind.signed, IntKind.bits] using w2
  obtain ⟨no, rfl⟩ := Int.eq_ofNat_of_zero_le h0.1
  obtain ⟨z, rfl⟩ := Int.eq_ofNat_of_zero_le h2.1
  obtain ⟨r1, hc1, hm1⟩ := b1
  unfold maxLen at hm1
  clear w0 w2
  have e0 : IntKind.i64.wrap (no : Int) = (no : Int) := by rw [IntKind.wrap_i64]; omega
  have e2 : IntKind.i64.wrap (z : Int) = (z : Int) := by rw [IntKind.wrap_i64]; omega
  have hwk := wakes_any w
  have HWK := Lib.hid hwk
  clear hwk
  by_cases hl : n1 + z ≤ 508
  · have hlx : x1.length = n1 := by have := r1.1; rwa [List.length_map] at this
    have hfz : fill (x1 ++ List.replicate z 0) = fill x1 := fill_zeros x1 z (by omega)
    have hrz := rep_bv z
    have hx2 : (x1 ++ List.replicate z 0).length = n1 + z := by rw [List.length_append, List.length_replicate, hlx]
    have S1 := fun (W : World) (h : Rd W W.heap.size A1 n1 (x1.map bv)) => seal_ok no A1 n1 c1 x1 W (by omega) h (by omega)
    have S2 := fun (W : World) (A : Option Addr) (c : Nat) (h : Rd W W.heap.size A (n1 + z) ((x1 ++ List.replicate z 0).map bv)) => seal_ok no A (n1 + z) c _ W (by omega) h (by omega)
    rw [hfz] at S2
    have hpl := page_length no (fill x1) (fill_length x1 (by omega))
    generalize page no (fill x1) = pg at *
    obtain ⟨x2, hx2e⟩ : ∃ y, x1 ++ List.replicate z 0 = y := ⟨_, rfl⟩
    rw [hx2e] at hx2
    simp only [hx2e] at S2
    have HX2E := Lib.hid hx2e
    have H1 := Lib.hid S1
    have H2 := Lib.hid S2
    have HRZ := Lib.hid hrz
    have HX2 := Lib.hid hx2
    have HPL := Lib.hid hpl
    clear S1 S2 hrz hx2 hpl hfz hlx hx2e
    go_enter Try.func6, Try.ntmps6
    go_wp2_with (first
      | (go_at_call 7; refine HWK.out.mono ?_; rintro e wA ⟨rfl, hfA⟩; have HFA := Lib.hid hfA; clear hfA)
      | (go_at_call 8; ((with_reducible refine (H1.out _ (r1.fresh HFA.out)).mono ?_); rintro e w2 ⟨g1, rfl, hg1, hf2, hb2⟩; have HF2 := Lib.hid (HFA.out.trans hf2); have HB2 := Lib.hid hb2; clear hf2 hb2 hg1))
      | ((with_reducible refine at_slot_ 31 ?_); refine wpList_append_rd _ rfl _ _ 22 rfl w2.heap.size 5 i0 _ 1 Try.underlying22 hi0 hz0 hz1 hz2 rfl (some ⟨w2.heap.size, 0, none⟩) 0 0 [] rfl (Own.made w2 5 #[] 0 rfl (Nat.zero_le _)) w.heap.size A1 n1 c1 (x1.map bv) rfl (r1.below (HF2.out.trans (Fresh.alloc _ _)) (Nat.le_refl _)) (bv_one x1) (by unfold maxLen; omega) (by omega) (by simp) ?_; intro A3 c3 w3 ho3 hg3; rw [Nat.zero_add, List.nil_append] at ho3; have hf3 : Fresh w2 w3 := (Fresh.alloc _ _).append (Own.made w2 5 #[] 0 rfl (Nat.zero_le _)) (Nat.le_refl _) hg3; have HF3 := Lib.hid (HF2.out.trans hf3); have HB3 := Lib.hid (HB2.out.fresh hf3); have HO3 := Lib.hid ho3; have HF23 := Lib.hid hf3; clear hf3 ho3 hg3)
      | ((with_reducible refine at_slot_ 34 ?_); refine wpList_append_zeros _ rfl _ _ 22 3 rfl w2.heap.size 5 i0 .i64 Try.underlying22 Try.underlying3 hi0 hz0 hz1 hz2 A3 n1 c3 _ rfl HO3.out z _ rfl rfl (by omega) HF23.out.size ?_; intro A4 c4 w4 ho4 hg4; have hf4 : Fresh w2 w4 := Fresh.append HF23.out HO3.out (Nat.le_refl _) hg4; rw [HRZ.out, ← List.map_append, HX2E.out] at ho4; have HF4 := Lib.hid (HF2.out.trans hf4); have HB4 := Lib.hid (HB2.out.fresh hf4); have HO4 := Lib.hid ho4; clear hf4 ho4 hg4)
      | (go_at_call 8; ((refine (H2.out _ _ _ HO4.out.rd).mono ?_); rintro e w5 ⟨g5, rfl, hg5, hf5, hb5⟩; have HF5 := Lib.hid (HF4.out.trans hf5); have HB5 := Lib.hid (HB4.out.fresh hf5); have HB55 := Lib.hid hb5; clear hf5 hb5 hg5))
      | (go_at_call 11; ((refine (same_gen _ _ 512 512 512 512 pg pg _ (g1 + 1) (g5 + 1) (bk_rd' HB5.out HPL.out) (bk_rd' HB55.out HPL.out) (by omega) (by omega) true (by simp)).mono ?_); rintro e w6 ⟨rfl, hf6⟩; have HF6 := Lib.hid (HF5.out.trans hf6))))
    go_ret
    exact ⟨rfl, HF6.out⟩
  · have hb : 508 < (n1 : Int) + (z : Int) := by omega
    have hb2 : (n1 : Int) + (z : Int) ≤ 9223372036854775807 := by omega
    clear hl
    go_enter Try.func6, Try.ntmps6
    go_wp2_with (go_at_call 7; refine HWK.out.mono ?_; rintro e wA ⟨rfl, hfA⟩)
    go_ret
    exact ⟨rfl, hfA⟩
end Go.Proofs.Yticpplnfgajjnaa.pageZeros
