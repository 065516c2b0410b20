/-
  The walk of the law NameDecodes. My own text.
-/
import Derived.Test.YtaldbcfgfcdlhaaDoorNamLaw
import Derived.Test.YtaldbcfgfcdlhaaDoorOpen
namespace Go.Proofs.YtaldbcfgfcdlhaaDoor.nameDecodes
open Go.RowKit Go.Proofs.YtaldbcfgfcdlhaaDoor.base Go.Proofs.YtaldbcfgfcdlhaaDoor.nam Go.Proofs.YtaldbcfgfcdlhaaDoor.namp
set_option linter.unusedVariables false
set_option maxHeartbeats 800000 in
set_option maxRecDepth 100000 in
theorem nameDecodes_walk (A0 : Option Addr) (n0 c0 : Nat) (x0 : List UInt8) (w : World) (b0 : InBytes w A0 n0 c0 x0) (hU : Laid w) :
    Calls Tryd.prog 3 #[.slice A0 n0 c0] w fun e w' => e = .returned (.bool true) ∧ Below w.heap.size w w' := by
  obtain ⟨i0, hi0, hz0, hz1, hz2⟩ := info_parts info_byte9
  obtain ⟨hr, hc, hcm⟩ := b0
  have hl : x0.length = n0 := by have := hr.1; rwa [List.length_map] at this
  have HW := Lib.hid (wakes_any w hU)
  have HU := Lib.hid hU
  have HR := Lib.hid hr
  have HL := Lib.hid hl
  by_cases hbig : 300 < n0
  · have t1 : decide ((n0 : Int) > 300) = true := by rw [decide_eq_true_iff]; omega
    have t2 : decide (300 < (n0 : Int)) = true := by rw [decide_eq_true_iff]; omega
    clear hr hl hc hcm hbig hU
    go_enter Tryd.func3, Tryd.ntmps3
    go_wp2_with (go_at_call 7; (refine HW.out.mono ?_); rintro e w1 ⟨rfl, hf1⟩)
    go_ret
    exact ⟨rfl, hf1⟩
  have t1 : decide ((n0 : Int) > 300) = false := by rw [decide_eq_false_iff_not]; omega
  have t2 : decide (300 < (n0 : Int)) = false := by rw [decide_eq_false_iff_not]; omega
  have hnb : n0 ≤ 300 := by omega
  have hboth := fun told => both_any told x0 (by omega)
  have HB := Lib.hid hboth
  have HC := Lib.hid hc
  have HCM := Lib.hid hcm
  clear hr hl hcm hbig hU hboth hc
  go_enter Tryd.func3, Tryd.ntmps3
  go_wp2_with (go_at_call 7; (refine HW.out.mono ?_); rintro e w1 ⟨rfl, hf1⟩; have HF1 := Lib.hid hf1; clear hf1)
  have hbo := Bk.made w1 4 #[.bool false, .bool true]
  have HBO := Lib.hid hbo
  have HFB := Lib.hid (Fresh.trans HF1.out (Fresh.alloc w1 (.cells #[.bool false, .bool true] 4)))
  clear hbo
  go_loopw [15] (fun v wr => ∃ k : Nat, k ≤ 2 ∧ v = .int .i64 k ∧ Bk wr w1.heap.size 4 [.bool false, .bool true] ∧ Fresh w wr) (fun v _ => 2 - (intOf v).toNat)
  case atStart => exact ⟨0, by omega, rfl, HBO.out, HFB.out⟩
  case round =>
    obtain ⟨k, hk, rfl, hb, hfr⟩ := hrel
    by_cases hlt : k < 2
    · obtain ⟨told, htold⟩ : ∃ told, [Value.bool false, Value.bool true][k]? = some (.bool told) := by
        rcases (show k = 0 ∨ k = 1 by omega) with rfl | rfl
        · exact ⟨false, rfl⟩
        · exact ⟨true, rfl⟩
      have hcell := hb.cell htold
      obtain ⟨L, is, hL0, hLl, hP, hRf⟩ := HB.out told
      obtain ⟨S, hS⟩ : ∃ S, (⟨L.toArray⟩ : ByteArray) = S := ⟨_, rfl⟩
      rw [hS] at hP
      unfold NameIs at hRf
      have HP := Lib.hid hP
      have HRF := Lib.hid hRf
      have HBK := Lib.hid hb
      have HF := Lib.hid hfr
      have hstr := fun W A c m B h => run_str_rd (P := Tryd.prog) W 22 9 5 Tryd.underlying22 Tryd.underlying5 Tryd.underlying9 A c m B L h
      rw [hS] at hstr
      have HSTR := Lib.hid hstr
      have tk : decide ((k : Int) < 2) = true := by rw [decide_eq_true_iff]; omega
      have hkk : k ≤ 1 := by omega
      have hS0 : is = false → S = ⟨#[]⟩ := fun h => by rw [← hS, hL0 h]
      clear hb hfr htold hP hRf hstr hL0 hLl hS
      cases is with
      | true =>
        clear hS0
        go_wp2_with (first
          | (at_builtin; refine wpList_append_rd _ rfl _ _ 22 rfl wr.heap.size 5 i0 _ 1 Tryd.underlying22 hi0 hz0 hz1 hz2 rfl (some ⟨wr.heap.size, 0, none⟩) 0 0 [] rfl (Own.made wr 5 #[] 0 rfl (Nat.zero_le _)) w.heap.size A0 n0 c0 (x0.map bv) rfl ((HR.out.below HF.out (Nat.le_refl _)).below (Fresh.alloc wr (.cells #[] 5)) HF.out.size) (bv_one _) (by unfold maxLen; omega) (by omega) (by simp) ?_; intro A2 c2 w2 ho2 hg2; have HX2 := Lib.hid (Fresh.append (Fresh.alloc wr (.cells #[] 5)) (Own.made wr 5 #[] 0 rfl (Nat.zero_le _)) (Nat.le_refl _) hg2); have HF2 := Lib.hid (Fresh.trans HF.out HX2.out); have hrd2 : Rd w2 w2.heap.size A2 n0 (x0.map bv) := (by have h := Own.rd ho2; rwa [Nat.zero_add, List.nil_append] at h); have HO2 := Lib.hid hrd2; clear ho2 hg2 hrd2)
          | (go_at_call 8; (refine (HP.out w2 A2 n0 c2 w2.heap.size HO2.out (Nat.le_refl _) (HU.out.fresh HF2.out)).mono ?_); rintro e w3 ⟨rfl, hf3⟩; have HX3 := Lib.hid (Fresh.trans HX2.out hf3); have HF3 := Lib.hid (Fresh.trans HF.out HX3.out); clear hf3)
          | (go_at_call 9; (refine (HRF.out w3 A0 n0 c0 w.heap.size (HR.out.below HF3.out (Nat.le_refl _)) HF3.out.size HC.out HCM.out).mono ?_); rintro e w4 ⟨A4, m4, c4, rfl, hm4, hf4, hr4⟩; have hbx := Bk.made w4 tName #[.slice A4 m4 c4, .bool true]; have k0 := hbx.cell (i := 0) rfl; have k1 := hbx.cell (i := 1) rfl; have hst := HSTR.out (w4.alloc (.cells #[.slice A4 m4 c4, .bool true] tName)) A4 c4 m4 _ (hr4.fresh (Fresh.alloc w4 (.cells #[.slice A4 m4 c4, .bool true] tName))); have HX4 := Lib.hid ((Fresh.trans HX3.out hf4).trans (Fresh.alloc w4 (.cells #[.slice A4 m4 c4, .bool true] tName))); clear hf4 hr4 hbx hm4))
        have hb9 := HBK.out.fresh HX4.out
        have hf9 : Fresh w _ := Fresh.trans HF.out HX4.out
        exact ⟨⟨k + 1, by omega, by go_num, hb9, hf9⟩, by simp [intOf]; omega⟩
      | false =>
        have hSe := hS0 rfl
        rw [hSe] at HP HSTR
        clear hS0 hSe
        go_wp2_with (first
          | (at_builtin; refine wpList_append_rd _ rfl _ _ 22 rfl wr.heap.size 5 i0 _ 1 Tryd.underlying22 hi0 hz0 hz1 hz2 rfl (some ⟨wr.heap.size, 0, none⟩) 0 0 [] rfl (Own.made wr 5 #[] 0 rfl (Nat.zero_le _)) w.heap.size A0 n0 c0 (x0.map bv) rfl ((HR.out.below HF.out (Nat.le_refl _)).below (Fresh.alloc wr (.cells #[] 5)) HF.out.size) (bv_one _) (by unfold maxLen; omega) (by omega) (by simp) ?_; intro A2 c2 w2 ho2 hg2; have HX2 := Lib.hid (Fresh.append (Fresh.alloc wr (.cells #[] 5)) (Own.made wr 5 #[] 0 rfl (Nat.zero_le _)) (Nat.le_refl _) hg2); have HF2 := Lib.hid (Fresh.trans HF.out HX2.out); have hrd2 : Rd w2 w2.heap.size A2 n0 (x0.map bv) := (by have h := Own.rd ho2; rwa [Nat.zero_add, List.nil_append] at h); have HO2 := Lib.hid hrd2; clear ho2 hg2 hrd2)
          | (go_at_call 8; (refine (HP.out w2 A2 n0 c2 w2.heap.size HO2.out (Nat.le_refl _) (HU.out.fresh HF2.out)).mono ?_); rintro e w3 ⟨rfl, hf3⟩; have HX3 := Lib.hid (Fresh.trans HX2.out hf3); have HF3 := Lib.hid (Fresh.trans HF.out HX3.out); clear hf3)
          | (go_at_call 9; (refine (HRF.out w3 A0 n0 c0 w.heap.size (HR.out.below HF3.out (Nat.le_refl _)) HF3.out.size HC.out HCM.out).mono ?_); rintro e w4 ⟨A4, m4, c4, rfl, hm4, hf4, hr4⟩; have hbx := Bk.made w4 tName #[.slice A4 m4 c4, .bool false]; have k0 := hbx.cell (i := 0) rfl; have k1 := hbx.cell (i := 1) rfl; have hst := HSTR.out (w4.alloc (.cells #[.slice A4 m4 c4, .bool false] tName)) A4 c4 m4 _ (hr4.fresh (Fresh.alloc w4 (.cells #[.slice A4 m4 c4, .bool false] tName))); have HX4 := Lib.hid ((Fresh.trans HX3.out hf4).trans (Fresh.alloc w4 (.cells #[.slice A4 m4 c4, .bool false] tName))); clear hf4 hr4 hbx hm4))
        have hb9 := HBK.out.fresh HX4.out
        have hf9 : Fresh w _ := Fresh.trans HF.out HX4.out
        exact ⟨⟨k + 1, by omega, by go_num, hb9, hf9⟩, by simp [intOf]; omega⟩
    · go_wp2
      go_ret
      exact ⟨rfl, hfr⟩
end Go.Proofs.YtaldbcfgfcdlhaaDoor.nameDecodes
