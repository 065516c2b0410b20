/-
  The law AhoFinds' walk. My own text.
-/
import Derived.Test.YtgbffkneidnmfaaAhoLaw
namespace Go.Proofs.Ytgbffkneidnmfaa.ahoFinds
open Go.RowKit Go.Proofs.Ytgbffkneidnmfaa.base Go.Proofs.Ytgbffkneidnmfaa.aho Go.Proofs.Ytgbffkneidnmfaa.ahop
set_option linter.unusedVariables false
set_option maxRecDepth 100000 in
set_option maxHeartbeats 4000000 in
theorem ahoFinds_walk (A0 : Option Addr) (n0 c0 : Nat) (x0 : List Row) (A1 : Option Addr) (n1 c1 : Nat) (x1 : List Row) (w : World) (b0 : InRows w A0 n0 c0 x0) (b1 : InRows w A1 n1 c1 x1) :
    Calls Try.prog 3 #[.slice A0 n0 c0, .slice A1 n1 c1] w fun e w' => e = .returned (.bool true) ∧ Below w.heap.size w w' := by
  obtain ⟨i0, hi0, hz0, hz1, hz2⟩ := info_parts intInfo
  obtain ⟨j0, hj0, hy0, hy1, hy2⟩ := info_parts byteInfo
  obtain ⟨hr0, hm0, hM0, _⟩ := b0
  obtain ⟨hr1, hm1, hM1, _⟩ := b1
  obtain ⟨hl0, hb0⟩ := rows_len hr0
  obtain ⟨hl1, hb1⟩ := rows_len hr1
  have hwk := wakes_any w
  have hlg0 : ∀ V, Fresh w V → Calls Try.prog 9 #[.slice A0 n0 c0, .int .i64 100] V fun e w' => e = .returned (.bool (longB x0 100)) ∧ w' = V := fun V hV => long_any x0 A0 n0 c0 w.heap.size 100 V (hr0.fresh (Nat.le_refl _) hV) (by omega) (by omega)
  have hlg1 : ∀ V, Fresh w V → Calls Try.prog 9 #[.slice A1 n1 c1, .int .i64 300] V fun e w' => e = .returned (.bool (longB x1 300)) ∧ w' = V := fun V hV => long_any x1 A1 n1 c1 w.heap.size 300 V (hr1.fresh (Nat.le_refl _) hV) (by omega) (by omega)
  have HR0 := Lib.hid hr0
  have HR1 := Lib.hid hr1
  have HL0 := Lib.hid hl0
  have HL1 := Lib.hid hl1
  have HB0 := Lib.hid hb0
  have HB1 := Lib.hid hb1
  have HWK := Lib.hid hwk
  clear hr0 hr1 hb0 hb1 hl0 hl1 hwk
  cases g0 : longB x0 100 with
  | true =>
    rw [g0] at hlg0
    have HLG0 := Lib.hid hlg0
    clear hlg0 hlg1 g0
    go_enter Try.func3, Try.ntmps3
    go_wp2_with (first
      | (go_at_call 8; (refine HWK.out.mono ?_); rintro e w1 ⟨rfl, hf1⟩; have HF1 := Lib.hid hf1; clear hf1)
      | (go_at_call 9; (with_reducible refine (HLG0.out _ HF1.out).mono ?_); rintro e w2 ⟨rfl, rfl⟩))
    go_ret
    exact ⟨rfl, HF1.out⟩
  | false =>
  cases g1 : longB x1 300 with
  | true =>
    rw [g0] at hlg0
    rw [g1] at hlg1
    have HLG0 := Lib.hid hlg0
    have HLG1 := Lib.hid hlg1
    clear hlg0 hlg1 g0 g1
    go_enter Try.func3, Try.ntmps3
    go_wp2_with (first
      | (go_at_call 8; (refine HWK.out.mono ?_); rintro e w1 ⟨rfl, hf1⟩; have HF1 := Lib.hid hf1; clear hf1)
      | (go_at_call 9; (with_reducible refine (HLG0.out _ HF1.out).mono ?_); rintro e w2 ⟨rfl, rfl⟩)
      | (go_at_call 9; (with_reducible refine (HLG1.out _ HF1.out).mono ?_); rintro e w2 ⟨rfl, rfl⟩))
    go_ret
    exact ⟨rfl, HF1.out⟩
  | false =>
  obtain ⟨q0, r0⟩ := long_false g0
  obtain ⟨q1, r1⟩ := long_false g1
  rw [HL0.out] at r0
  rw [HL1.out] at r1
  have HQ1 := Lib.hid q1
  have HQ0 := Lib.hid q0
  rw [g0] at hlg0
  rw [g1] at hlg1
  have HLG0 := Lib.hid hlg0
  have HLG1 := Lib.hid hlg1
  clear hlg0 hlg1 g0 g1 q0 q1
  obtain ⟨E, hE⟩ : ∃ E, errA (lens x0) = E := ⟨_, rfl⟩
  have hre : ∀ V, Fresh w V → Calls Try.prog 11 #[.slice A0 n0 c0] V fun e w' => e = .returned (iv (E : Nat)) ∧ w' = V := fun V hV => refErr x0 A0 n0 c0 w.heap.size E V (HR0.out.fresh (Nat.le_refl _) hV) (by omega) hE
  by_cases hE0 : E = 0
  · subst hE0
    have hnw : ∀ V, Fresh w V → _ := fun V hV => new_ok x0 A0 n0 c0 w.heap.size V (HR0.out.fresh (Nat.le_refl _) hV) hV.size (by omega) hE
    have HNW := Lib.hid hnw
    have HRE := Lib.hid hre
    clear hnw hre hE
    go_enter Try.func3, Try.ntmps3
    go_upto_region 10 with (first
      | (go_at_call 8; (refine HWK.out.mono ?_); rintro e w1 ⟨rfl, hf1⟩; have HF1 := Lib.hid hf1; clear hf1)
      | (go_at_call 9; (with_reducible refine (HLG0.out _ HF1.out).mono ?_); rintro e w2 ⟨rfl, rfl⟩)
      | (go_at_call 9; (with_reducible refine (HLG1.out _ HF1.out).mono ?_); rintro e w2 ⟨rfl, rfl⟩)
      | (go_at_call 10; (refine (HNW.out _ HF1.out).mono ?_); rintro e w3 ⟨q, N, n, c, P, A, T, rfl, hf3, hq3, hwd⟩; have HF3 := Lib.hid (HF1.out.trans hf3); have HWD := Lib.hid hwd; clear hf3 hwd)
      | (go_at_call 11; (with_reducible refine (HRE.out _ HF3.out).mono ?_); rintro e w2 ⟨rfl, hw2⟩; replace hw2 := hw2.symm; subst hw2))
    have hsc := scan_any q N (wordsOf x0) P A n c T w3 HWD.out
    have HSC := Lib.hid hsc
    clear hsc
    go_wp2_with (go_at_call 12; (refine HSC.out.mono ?_); rintro e w6 ⟨p, g, rfl, hs6, hp6, hg6, hf6⟩; have HS6 := Lib.hid hs6; have HF6 := Lib.hid (HF3.out.trans hf6); have hpg : w.heap.size ≤ p ∧ w.heap.size ≤ g := (by have := HF3.out.size; omega); clear hs6 hp6 hg6 hf6)
    obtain ⟨lp, lg⟩ := HS6.out.low
    obtain ⟨i1, i2, i3⟩ := HS6.out.inside
    have hWl : (wordsOf x0).length = n0 := by unfold wordsOf; rw [List.length_map]; exact HL0.out
    have HWL := Lib.hid hWl
    have hc0 : cnt (fvs (wordsOf x0) []) = n0 := by
      have h1 := HS6.out
      have h2 := many_cnt (wordsOf x0) []
      rw [fvs_nil HWD.out.ne, hWl] at h2 ⊢
      unfold cnt
      rw [List.count_replicate_self]
    have HC0 := Lib.hid hc0
    obtain ⟨B, hB⟩ : ∃ B, w6.heap.size = B := ⟨_, rfl⟩
    have hBw : w.heap.size ≤ B := by rw [← hB]; exact HF6.out.size
    have HBB := Lib.hid hB
    clear hWl hc0 HSC
    rw [hB] at i1 i2 i3
    clear hB
    go_loopw [8, 9, 48] (fun v u z wr => ∃ (k q8 n8 c8 : Nat) (A8 : Option Addr), v = .slice A8 n8 c8 ∧ u = iv (q8 : Nat) ∧ z = iv (k : Nat) ∧ k ≤ n1 ∧ n8 ≤ 300 * k ∧ Hid ((flat (x1.take k)).length = n8) ∧ Own wr B tU8 A8 n8 c8 ((flat (x1.take k)).map bv) ∧ Hid (q8 + cnt (fvs (wordsOf x0) (flat (x1.take k))) = n0) ∧ Hid (ScAt wr p g N (wordsOf x0) P A n c T (flat (x1.take k))) ∧ Hid (Fresh w wr) ∧ B ≤ wr.heap.size) (fun _ _ z _ => n1 - (intOf z).toNat)
    case atStart => exact ⟨0, 0, 0, 0, none, rfl, rfl, rfl, Nat.zero_le _, Nat.zero_le _, rfl, Own.nil _ _ _, Lib.hid (by rw [Nat.zero_add]; exact HC0.out), HS6, HF6, by rw [HBB.out]; exact Nat.le_refl _⟩
    case round =>
      obtain ⟨k, q8, n8, c8, A8, rfl, rfl, rfl, hk, hn8, hfl, hown, hq8, hsc, hfr, hBr⟩ := hrel
      by_cases hlt : k < n1
      · obtain ⟨x, hx⟩ : ∃ x, x1[k]? = some x := ⟨_, List.getElem?_eq_getElem (by rw [HL1.out]; exact hlt)⟩
        have hxm := List.mem_of_getElem? hx
        obtain ⟨wb, wo, hA1, hwb, hwc⟩ := HR1.out.1.2 (by omega)
        subst hA1
        have hcx : wr.cell? ⟨wb, wo + k, none⟩ = some (.slice x.at_ x.len x.cap) := (World.cell?_of_block (hfr.out.block wb hwb)).trans (hwc k _ (by rw [List.getElem?_map, hx]; rfl))
        have hrx : Rd w w.heap.size x.at_ x.len (x.bs.map bv) := HR1.out.2 x hxm
        have hxl := HB1.out x hxm
        have hx300 := HQ1.out x hxm
        have htk : flat (x1.take (k + 1)) = flat (x1.take k) ++ x.bs := by
          unfold flat
          rw [List.take_add_one, hx]
          simp
        obtain ⟨L, hL⟩ : ∃ L, x.len = L := ⟨_, rfl⟩
        rw [hL] at hcx hrx hxl hx300
        have hrx2 : Rd wr w.heap.size x.at_ L (x.bs.map bv) := hrx.below hfr.out (Nat.le_refl _)
        have HRX := Lib.hid hrx
        have HRX2 := Lib.hid hrx2
        have HXL := Lib.hid hxl
        have HTK := Lib.hid htk
        have HOWN := Lib.hid hown
        clear hx hxm hwc hrx hrx2 hxl htk hL hown
        obtain ⟨n9, hn9⟩ : ∃ n9, n8 + L = n9 := ⟨_, rfl⟩
        go_upto_region 17 with (at_builtin; refine wpList_append_rd _ rfl (.tmp 52) (.tmp 53) 32 rfl B tU8 j0 _ 1 Try.underlying32 hj0 hy0 hy1 hy2 rfl A8 n8 c8 ((flat (x1.take k)).map bv) rfl HOWN.out w.heap.size x.at_ L x.cap (x.bs.map bv) rfl HRX2.out (bv_one _) (by unfold maxLen; omega) (by omega) hBr ?_; intro A9 c9 w9 h2 h3; rw [hn9] at h2 ⊢; have H2 := Lib.hid h2; have H3 := Lib.hid h3; clear h2 h3)
        have HN9 := Lib.hid hn9
        have hn9b : n9 ≤ 300 * (k + 1) := by omega
        clear hn9
        have hsc9 := ScAt.beside hsc.out HOWN.out H3.out i3 i1 i2
        have hf9 : Fresh w w9 := Fresh.append hfr.out HOWN.out (by omega) H3.out
        have hB9 : B ≤ w9.heap.size := Nat.le_trans hBr H3.out.size
        have hput := put_any x.at_ L x.cap x.bs hsc9 (rdA_in HRX.out hf9 hpg.1 hpg.2) (by omega) (by rw [hfl.out]; omega)
        have HPUT := Lib.hid hput
        have HF9 := Lib.hid hf9
        clear hsc9 hf9 hput
        go_upto_region 18 with (go_at_call 13; (refine HPUT.out.mono ?_); rintro e w10 ⟨R, rfl, hR, hs10, ht10⟩; have HR10 := Lib.hid hR; have HS10 := Lib.hid hs10; have HT10 := Lib.hid ht10; clear hR hs10 ht10)
        obtain ⟨tt, htt⟩ : ∃ tt, flat (x1.take k) ++ x.bs = tt := ⟨_, rfl⟩
        have hown10 : Own w10 B tU8 A9 n9 c9 (tt.map bv) := by
          have h := own_turn H2.out HT10.out i1 i2
          rwa [← List.map_append, htt] at h
        rw [htt] at HR10 HS10 HTK
        have httl : tt.length = n9 := by rw [← htt, List.length_append, hfl.out, HXL.out]; exact HN9.out
        have hf10 : Fresh w w10 := HT10.out.new HF9.out (by simp; exact hpg)
        have hB10 : B ≤ w10.heap.size := Nat.le_trans hB9 HT10.out.size
        obtain ⟨F, hF⟩ : ∃ F, fvs (wordsOf x0) tt = F := ⟨_, rfl⟩
        have hFl : F.length = n0 := by rw [← hF, first_len]; exact HWL.out
        have hFat : ∀ (j : Nat) (y : Row), x0[j]? = some y → F[j]? = some (fv y.bs tt) := fun j y hy => by
          rw [← hF]
          unfold fvs wordsOf
          rw [List.getElem?_map, List.getElem?_map, hy]
          rfl
        obtain ⟨B2, hB2⟩ : ∃ B2, w10.heap.size = B2 := ⟨_, rfl⟩
        have HOWN10 := Lib.hid hown10
        have HTTL := Lib.hid httl
        have HF10 := Lib.hid hf10
        have HF := Lib.hid hF
        have HFL := Lib.hid hFl
        have HFAT := Lib.hid hFat
        have HB2 := Lib.hid hB2
        have HTT := Lib.hid htt
        rw [hB2] at hB10
        clear hown10 httl hf10 hF hFl hFat hB2 htt H2 H3 HT10 HPUT HOWN HRX HRX2 HF9 hB9 hcx
        go_wp2
        go_loopw [13, 14, 60] (fun v u z wr => ∃ (j a n13 c13 : Nat) (A13 : Option Addr), v = .slice A13 n13 c13 ∧ u = iv (a : Nat) ∧ z = iv (j : Nat) ∧ j ≤ n0 ∧ a ≤ j ∧ n13 ≤ j ∧ Own wr B2 tInt A13 n13 c13 ((F.take j).map iv) ∧ Hid (a = ((F.take j).filter (fun z => decide (z ≥ 0))).length) ∧ Hid (Fresh w10 wr) ∧ B2 ≤ wr.heap.size) (fun _ _ z _ => n0 - (intOf z).toNat)
        case atStart => exact ⟨0, 0, 0, 0, none, rfl, rfl, rfl, Nat.zero_le _, Nat.le_refl _, Nat.le_refl _, Own.nil _ _ _, Lib.hid rfl, Lib.hid (Fresh.refl _), by rw [HB2.out]; exact Nat.le_refl _⟩
        case round =>
          obtain ⟨j, a, n13, c13, A13, rfl, rfl, rfl, hj, haj, hn13, hown13, ha, hfrj, hBj⟩ := hrel
          by_cases hlt2 : j < n0
          · obtain ⟨y, hy⟩ : ∃ y, x0[j]? = some y := ⟨_, List.getElem?_eq_getElem (by rw [HL0.out]; exact hlt2)⟩
            have hym := List.mem_of_getElem? hy
            obtain ⟨vb, vo, hA0, hvb, hvc⟩ := HR0.out.1.2 (by omega)
            subst hA0
            have hcy : wr.cell? ⟨vb, vo + j, none⟩ = some (.slice y.at_ y.len y.cap) := (World.cell?_of_block ((HF10.out.trans hfrj.out).block vb hvb)).trans (hvc j _ (by rw [List.getElem?_map, hy]; rfl))
            have hry : Rd wr wr.heap.size y.at_ y.len (y.bs.map bv) := (HR0.out.2 y hym).fresh (HF10.out.trans hfrj.out)
            have hyl : y.len ≤ 100 := HQ0.out y hym
            have hrf := refFirst_any A9 y.at_ n9 y.len c9 y.cap wr.heap.size tt y.bs wr (HOWN10.out.fresh hfrj.out).rd hry (by omega) (by omega)
            have hFj := HFAT.out j y hy
            obtain ⟨zz, hzz⟩ : ∃ zz, fv y.bs tt = zz := ⟨_, rfl⟩
            rw [hzz] at hrf hFj
            have htkF : F.take (j + 1) = F.take j ++ [zz] := by rw [List.take_add_one, hFj]; rfl
            have HRF := Lib.hid hrf
            have HTKF := Lib.hid htkF
            have HO13 := Lib.hid hown13
            have hw1 : IntKind.i64.wrap ((a : Int) + 1) = (a : Int) + 1 := IntWalk.i64_in _ (by omega)
            clear hy hym hvc hry hrf hFj hzz htkF hown13
            go_upto_region 24 with (go_at_call 14; (refine HRF.out.mono ?_); rintro e w11 ⟨rfl, qq, hw11⟩; have HW11 := Lib.hid (show Fresh wr w11 from hw11 ▸ Fresh.drewN _ _); clear hw11)
            have hf11 : Fresh wr (w11.alloc (.cells #[iv zz] tInt)) := HW11.out.trans (Fresh.alloc _ _)
            have hB11 : B2 ≤ (w11.alloc (.cells #[iv zz] tInt)).heap.size := Nat.le_trans hBj hf11.size
            have HF11 := Lib.hid hf11
            clear hf11
            go_upto_region 25 with (at_builtin; refine wpList_append_rd _ rfl (.tmp 67) (.tmp 69) 34 rfl B2 tInt i0 _ 8 Try.underlying34 hi0 hz0 hz1 hz2 rfl A13 n13 c13 ((F.take j).map iv) rfl (HO13.out.fresh HF11.out) (w11.heap.size + 1) (some ⟨w11.heap.size, 0, none⟩) 1 1 [iv zz] rfl (Rd.lit w11 #[iv zz] tInt) (one_one _ _) (by unfold maxLen; omega) (by omega) hB11 ?_; intro A14 c14 w12 h2 h3; have H2 := Lib.hid h2; have H3 := Lib.hid h3; clear h2 h3)
            have hown14 : Own w12 B2 tInt A14 (n13 + 1) c14 ((F.take (j + 1)).map iv) := by
              have h := H2.out
              rw [HTKF.out, List.map_append]
              exact h
            have hf12 : Fresh w10 w12 := Fresh.append (hfrj.out.trans HF11.out) (HO13.out.fresh HF11.out) (by rw [HB2.out]; exact Nat.le_refl _) H3.out
            have hB12 : B2 ≤ w12.heap.size := by rw [← HB2.out]; exact hf12.size
            have HO14 := Lib.hid hown14
            have HF12 := Lib.hid hf12
            clear hown14 hf12 H2 H3 HRF
            by_cases hzp : 0 ≤ zz
            · have HA2 : Hid (a + 1 = ((F.take (j + 1)).filter (fun z => decide (z ≥ 0))).length) := Lib.hid (by
                rw [HTKF.out, List.filter_append, List.length_append, ← ha.out]
                have : decide (zz ≥ 0) = true := by rw [decide_eq_true_iff]; omega
                simp [List.filter, this])
              go_wp2
              go_roundw
              case rel => exact ⟨j + 1, a + 1, n13 + 1, c14, A14, rfl, by go_num, by go_num, by omega, by omega, by omega, HO14.out, HA2, HF12, hB12⟩
              case measure => simp [intOf]; omega
            · have HA2 : Hid (a = ((F.take (j + 1)).filter (fun z => decide (z ≥ 0))).length) := Lib.hid (by
                rw [HTKF.out, List.filter_append, List.length_append, ← ha.out]
                have : decide (zz ≥ 0) = false := by rw [decide_eq_false_iff_not]; omega
                simp [List.filter, this])
              go_wp2
              go_roundw
              case rel => exact ⟨j + 1, a, n13 + 1, c14, A14, rfl, rfl, by go_num, by omega, by omega, by omega, HO14.out, HA2, HF12, hB12⟩
              case measure => simp [intOf]; omega
          · have hjn : j = n0 := by omega
            subst hjn
            have hFt : F.take j = F := List.take_of_length_le (by rw [HFL.out]; exact Nat.le_refl _)
            rw [hFt] at hown13 ha
            have hn13e : n13 = j := by have := hown13.1; rw [List.length_map, HFL.out] at this; omega
            subst hn13e
            have hsc12 := HS10.out.fresh hfrj.out
            have hfi := first_any hsc12
            rw [HF.out, HWL.out] at hfi
            have hacnt : a = q8 + R := by
              have h1 := many_cnt (wordsOf x0) tt
              rw [HF.out, HWL.out] at h1
              have h2 := ha.out
              have h3 := hq8.out
              have h4 := HR10.out
              rw [HF.out] at h4
              omega
            have hsub : IntKind.i64.wrap ((a : Int) - (q8 : Int)) = (R : Int) := by rw [IntWalk.i64_in _ (by omega)]; omega
            obtain ⟨bb, hbb⟩ : ∃ bb, ((a : Int) == (n13 : Int)) = bb := ⟨_, rfl⟩
            have hall : ∀ V, Fresh wr V → Calls Try.prog 17 #[.pointer (some ⟨p, 0, none⟩)] V fun e w' => e = .returned (.bool bb) ∧ w' = V := fun V hV => (all_any (hsc12.fresh hV)).mono fun e w' ⟨h1, h2⟩ => ⟨by
              rw [h1]
              congr 2
              rw [← hbb, Bool.eq_iff_iff, Bool.not_eq_true', ← cnt_zero, beq_iff_eq]
              have h3 := many_cnt (wordsOf x0) tt
              rw [HF.out, HWL.out] at h3
              have h4 := ha.out
              rw [HF.out]
              omega, h2⟩
            have hlen : ∀ V, Fresh wr V → Calls Try.prog 18 #[.pointer (some ⟨p, 0, none⟩)] V fun e w' => e = .returned (iv (n9 : Nat)) ∧ w' = V := fun V hV => by rw [← HTTL.out]; exact len_any (hsc12.fresh hV)
            have HFI := Lib.hid hfi
            have HALL := Lib.hid hall
            have HLEN := Lib.hid hlen
            have HO13 := Lib.hid hown13
            have HAC := Lib.hid hacnt
            have hFl2 : F.length ≤ 100000 := by rw [HFL.out]; omega
            clear hFt hsc12 hfi hacnt hall hlen hown13
            go_upto_region 30 with (first
              | (go_at_call 16; (refine HFI.out.mono ?_); rintro e w8 ⟨A18, c18, rfl, ho8, hf8⟩; have HO8 := Lib.hid ho8; have HF8 := Lib.hid hf8; clear ho8 hf8)
              | (go_at_call 15; (refine (ints_any A18 A13 n13 n13 c18 c13 w8.heap.size w8.heap.size F F w8 HO8.out.rd (HO13.out.fresh HF8.out).rd (by omega) (by omega)).mono ?_); rintro e w9 ⟨⟨r, rfl, hr⟩, qq, hw9⟩; obtain rfl : r = true := hr.2 rfl; have HF9 := Lib.hid (show Fresh wr w9 from hw9 ▸ HF8.out.trans (Fresh.drewN _ _)); clear hr hw9)
              | (go_at_call 17; (with_reducible refine (HALL.out _ HF9.out).mono ?_); rintro e w15 ⟨rfl, hw15⟩; replace hw15 := hw15.symm; subst hw15)
              | (go_at_call 18; (with_reducible refine (HLEN.out _ HF9.out).mono ?_); rintro e w15 ⟨rfl, hw15⟩; replace hw15 := hw15.symm; subst hw15))
            have HOX := Lib.hid (HOWN10.out.fresh (hfrj.out.trans HF9.out))
            have HSX := Lib.hid (HS10.out.fresh (hfrj.out.trans HF9.out))
            have HFX := Lib.hid (HF10.out.trans (hfrj.out.trans HF9.out))
            have hBX : B ≤ w9.heap.size := by have := HF9.out.size; omega
            go_wp2
            go_roundw
            case rel => exact ⟨k + 1, a, n9, c9, A9, rfl, rfl, by go_num, by omega, hn9b, Lib.hid (by rw [HTK.out]; exact HTTL.out), by rw [HTK.out]; exact HOX.out, Lib.hid (by rw [HTK.out, HF.out]; have h1 := HAC.out; have h2 := HR10.out; have h3 := hq8.out; rw [HF.out] at h2; omega), Lib.hid (by rw [HTK.out]; exact HSX.out), HFX, hBX⟩
            case measure => simp [intOf]; omega
      · have hkn : k = n1 := by omega
        subst hkn
        go_wp2
        go_ret
        exact ⟨rfl, hfr.out⟩
  · have hnw : ∀ V, Fresh w V → _ := fun V hV => new_bad x0 A0 n0 c0 w.heap.size E V (HR0.out.fresh (Nat.le_refl _) hV) hV.size (by omega) hE hE0
    have hE1 : ((E : Int) != 0) = true := by rw [bne_iff_ne]; omega
    have HNW := Lib.hid hnw
    have HRE := Lib.hid hre
    clear hnw hre hE hE0
    go_enter Try.func3, Try.ntmps3
    go_wp2_with (first
      | (go_at_call 8; (refine HWK.out.mono ?_); rintro e w1 ⟨rfl, hf1⟩; have HF1 := Lib.hid hf1; clear hf1)
      | (go_at_call 9; (with_reducible refine (HLG0.out _ HF1.out).mono ?_); rintro e w2 ⟨rfl, rfl⟩)
      | (go_at_call 9; (with_reducible refine (HLG1.out _ HF1.out).mono ?_); rintro e w2 ⟨rfl, rfl⟩)
      | (go_at_call 10; (refine (HNW.out _ HF1.out).mono ?_); rintro e w3 ⟨rfl, hf3⟩; have HF3 := Lib.hid (HF1.out.trans hf3); clear hf3)
      | (go_at_call 11; (with_reducible refine (HRE.out _ HF3.out).mono ?_); rintro e w2 ⟨rfl, hw2⟩; replace hw2 := hw2.symm; subst hw2))
    go_ret
    exact ⟨rfl, HF3.out⟩
end Go.Proofs.Ytgbffkneidnmfaa.ahoFinds
