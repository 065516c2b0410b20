/-
  The law AhoSame's walk. My own text.
-/
import Derived.Test.YtgbffkneidnmfaaAhoLaw
import Derived.Test.YtgbffkneidnmfaaCutB
namespace Go.Proofs.Ytgbffkneidnmfaa.ahoSame
open Go.RowKit Go.Proofs.Ytgbffkneidnmfaa.base Go.Proofs.Ytgbffkneidnmfaa.aho Go.Proofs.Ytgbffkneidnmfaa.ahop
set_option linter.unusedVariables false
theorem byteSize : (Try.prog.info? 5).map (·.size) = some 1 := by kernel_rfl
set_option maxRecDepth 100000 in
set_option maxHeartbeats 4000000 in
theorem ahoSame_walk (A0 : Option Addr) (n0 c0 : Nat) (x0 : List Row) (A1 : Option Addr) (n1 c1 : Nat) (x1 : List UInt8) (a2 : Int) (w : World) (b0 : InRows w A0 n0 c0 x0) (b1 : InBytes w A1 n1 c1 x1) (w2 : (Lit.int .u16 a2).wf = true) :
    Calls Try.prog 7 #[.slice A0 n0 c0, .slice A1 n1 c1, .int .u16 a2] w fun e w' => e = .returned (.bool true) ∧ Below w.heap.size w w' := by
  obtain ⟨hr0, hm0, hM0, _⟩ := b0
  obtain ⟨hr1, hm1, hM1⟩ := b1
  obtain ⟨hl0, hb0⟩ := rows_len hr0
  have hx1l : x1.length = n1 := by have := hr1.1; rwa [List.length_map] at this
  have ha2 : 0 ≤ a2 ∧ a2 ≤ 65535 := by simpa [Lit.wf, IntKind.min, IntKind.max, IntKind.signed, IntKind.bits] using w2
  clear w2
  unfold maxLen at hM1
  have hwk := wakes_any w
  have hlg0 : ∀ V, Fresh w V → Calls Try.prog 9 #[.slice A0 n0 c0, .int .i64 100] V fun e w' => e = .returned (.bool (longB x0 100)) ∧ w' = V := fun V hV => long_any x0 A0 n0 c0 w.heap.size 100 V (hr0.fresh (Nat.le_refl _) hV) (by omega) (by omega)
  have HR0 := Lib.hid hr0
  have HR1 := Lib.hid hr1
  have HL0 := Lib.hid hl0
  have HX1 := Lib.hid hx1l
  have HWK := Lib.hid hwk
  clear hr0 hr1 hb0 hl0 hwk hx1l
  cases g0 : longB x0 100 with
  | true =>
    rw [g0] at hlg0
    have HLG0 := Lib.hid hlg0
    clear hlg0 g0
    go_enter Try.func7, Try.ntmps7
    go_wp2_with (first
      | (go_at_call 8; (refine HWK.out.mono ?_); rintro e w1 ⟨rfl, hf1⟩; have HF1 := Lib.hid hf1; clear hf1)
      | (go_at_call 9; (with_reducible refine (HLG0.out _ HF1.out).mono ?_); rintro e w2 ⟨rfl, hw2⟩; replace hw2 := hw2.symm; subst hw2))
    go_ret
    exact ⟨rfl, HF1.out⟩
  | false =>
  obtain ⟨q0, r0⟩ := long_false g0
  rw [HL0.out] at r0
  rw [g0] at hlg0
  have HLG0 := Lib.hid hlg0
  clear hlg0 g0 q0
  by_cases h300 : 300 < n1
  · have t1 : decide ((n1 : Int) > 300) = true := by rw [decide_eq_true_iff]; omega
    go_enter Try.func7, Try.ntmps7
    go_wp2_with (first
      | (go_at_call 8; (refine HWK.out.mono ?_); rintro e w1 ⟨rfl, hf1⟩; have HF1 := Lib.hid hf1; clear hf1)
      | (go_at_call 9; (with_reducible refine (HLG0.out _ HF1.out).mono ?_); rintro e w2 ⟨rfl, hw2⟩; replace hw2 := hw2.symm; subst hw2))
    go_ret
    exact ⟨rfl, HF1.out⟩
  have t1 : decide ((n1 : Int) > 300) = false := by rw [decide_eq_false_iff_not]; omega
  obtain ⟨E, hE⟩ : ∃ E, errA (lens x0) = E := ⟨_, rfl⟩
  have hre : ∀ V, Fresh w V → Calls Try.prog 11 #[.slice A0 n0 c0] V fun e w' => e = .returned (iv (E : Nat)) ∧ w' = V := fun V hV => refErr x0 A0 n0 c0 w.heap.size E V (HR0.out.fresh (Nat.le_refl _) hV) (by omega) hE
  by_cases hE0 : E = 0
  · subst hE0
    have hnw : ∀ V, Fresh w V → _ := fun V hV => new_ok x0 A0 n0 c0 w.heap.size V (HR0.out.fresh (Nat.le_refl _) hV) hV.size (by omega) hE
    have HNW := Lib.hid hnw
    have HRE := Lib.hid hre
    clear hnw hre hE
    go_enter Try.func7, Try.ntmps7
    go_upto_region 8 with (first
      | (go_at_call 8; (refine HWK.out.mono ?_); rintro e w1 ⟨rfl, hf1⟩; have HF1 := Lib.hid hf1; clear hf1)
      | (go_at_call 9; (with_reducible refine (HLG0.out _ HF1.out).mono ?_); rintro e w2 ⟨rfl, hw2⟩; replace hw2 := hw2.symm; subst hw2)
      | (go_at_call 11; (with_reducible refine (HRE.out _ HF1.out).mono ?_); rintro e w2 ⟨rfl, hw2⟩; replace hw2 := hw2.symm; subst hw2)
      | (go_at_call 10; (refine (HNW.out _ HF1.out).mono ?_); rintro e w3 ⟨q, N, n, c, P, A, T, rfl, hf3, hq3, hwd⟩; have HF3 := Lib.hid (HF1.out.trans hf3); have HWD := Lib.hid hwd; clear hf3 hwd))
    have hsc : ∀ V, Fresh w3 V → _ := fun V hV => scan_any q N (wordsOf x0) P A n c T V (HWD.out.fresh hV)
    have HSC := Lib.hid hsc
    clear hsc
    have hsz3 := HF3.out.size
    go_upto_region 9 with (first
      | (go_at_call 12; (refine (HSC.out _ (HF4.out.trans HF5.out)).mono ?_); rintro e w6 ⟨p3, g3, rfl, hs6, hp6, hg6, hf6⟩; have HS6 := Lib.hid hs6; have HF6 := Lib.hid hf6; clear hs6 hf6)
      | (go_at_call 12; (refine (HSC.out _ HF4.out).mono ?_); rintro e w5 ⟨p2, g2, rfl, hs5, hp5, hg5, hf5⟩; have HS5 := Lib.hid hs5; have HF5 := Lib.hid hf5; clear hs5 hf5)
      | (go_at_call 12; (refine (HSC.out _ (Fresh.refl _)).mono ?_); rintro e w4 ⟨p1, g1, rfl, hs4, hp4, hg4, hf4⟩; have HS4 := Lib.hid hs4; have HF4 := Lib.hid hf4; clear hs4 hf4))
    obtain ⟨l1, l2⟩ := HS4.out.low
    obtain ⟨l3, l4⟩ := HS5.out.low
    obtain ⟨l5, l6⟩ := HS6.out.low
    obtain ⟨i1, i2, i3⟩ := HS4.out.inside
    obtain ⟨i4, i5, i6⟩ := HS5.out.inside
    obtain ⟨i7, i8, i9⟩ := HS6.out.inside
    have hz4 := HF4.out.size
    have hz5 := HF5.out.size
    have hz6 := HF6.out.size
    have hs1 := (HS4.out.fresh HF5.out).fresh HF6.out
    have hs2 := HS5.out.fresh HF6.out
    have hfw : Fresh w w6 := ((HF3.out.trans HF4.out).trans HF5.out).trans HF6.out
    obtain ⟨k, hk⟩ : ∃ k : Nat, a2.tmod ((n1 : Int) + 1) = (k : Int) := ⟨(a2.tmod ((n1 : Int) + 1)).toNat, by rw [Int.toNat_of_nonneg (Int.tmod_nonneg _ ha2.1)]⟩
    have hkn : k ≤ n1 := by
      have := Int.tmod_lt_of_pos a2 (show (0 : Int) < (n1 : Int) + 1 by omega)
      omega
    have hw1 : IntKind.i64.wrap ((n1 : Int) + 1) = (n1 : Int) + 1 := IntWalk.i64_in _ (by omega)
    have hw2 : IntKind.i64.wrap a2 = a2 := IntWalk.i64_in _ (by omega)
    have hw3 : IntKind.i64.wrap (k : Int) = (k : Int) := IntWalk.i64_in _ (by omega)
    have hne1 : ((n1 : Int) + 1 == 0) = false := by rw [beq_eq_false_iff_ne]; omega
    have HS1 := Lib.hid hs1
    have HS2 := Lib.hid hs2
    have HFW := Lib.hid hfw
    clear hs1 hs2 hfw HS4 HS5
    have hput1 := put_any A1 n1 c1 x1 HS1.out (rdA_in HR1.out HFW.out (by omega) (by omega)) (by omega) (by simp)
    have HPUT1 := Lib.hid hput1
    clear hput1
    go_upto_region 11 with (go_at_call 13; (refine HPUT1.out.mono ?_); rintro e w7 ⟨R1, rfl, hR1, hs7, ht7⟩; have HR1x := Lib.hid hR1; have HS7 := Lib.hid hs7; have HT7 := Lib.hid ht7; clear hR1 hs7 ht7)
    have hWl : (wordsOf x0).length = n0 := by unfold wordsOf; rw [List.length_map]; exact HL0.out
    have hcb : ∀ t, cnt (fvs (wordsOf x0) t) ≤ 40 := fun t => Nat.le_trans (cnt_le _ _) (by omega)
    rw [List.nil_append] at HR1x HS7
    have hs27 : ScAt w7 p2 g2 N (wordsOf x0) P A n c T [] := ScAt.turn HS2.out HT7.out l1 l2 (by omega) (by omega) (by omega) (by omega)
    have hf7 : Fresh w w7 := HT7.out.new HFW.out (by simp; omega)
    obtain ⟨D, hD⟩ : ∃ D, (if c1 = k then A1 else A1.map (·.add k)) = D := ⟨_, rfl⟩
    have hrD : Rd w w.heap.size D (n1 - k) ((x1.drop k).map bv) := by
      have h := HR1.out.cut (lo := k) (hi := n1) (cap := c1) hkn (Nat.le_refl _) hm1
      rw [List.take_of_length_le (by rw [List.length_drop, List.length_map, HX1.out]; exact Nat.le_refl _), hD, ← List.map_drop] at h
      exact h
    have hrH : Rd w w.heap.size A1 k ((x1.take k).map bv) := by
      obtain ⟨h1, h2⟩ := HR1.out
      refine ⟨by rw [List.length_map, List.length_take, HX1.out]; omega, fun h0 => ?_⟩
      obtain ⟨b, off, e1, hb, hc⟩ := h2 (by omega)
      refine ⟨b, off, e1, hb, fun j u hu => hc j u ?_⟩
      rw [List.map_take, List.getElem?_take] at hu
      split at hu
      · exact hu
      · cases hu
    have hfd : Fresh w w7.drew := hf7.trans (Fresh.drew _)
    have hpa := put_any A1 k c1 (x1.take k) (hs27.fresh (Fresh.drew _)) (rdA_in hrH hfd (by omega) (by omega)) (by omega) (by simp)
    rw [List.nil_append] at hpa
    have hpb : ∀ V, ScAt V p2 g2 N (wordsOf x0) P A n c T (x1.take k) → Fresh w V → Calls Try.prog 13 #[.pointer (some ⟨p2, 0, none⟩), .slice D (n1 - k) (c1 - k)] V fun e w' => ∃ R : Nat, e = .returned (iv (R : Nat)) ∧ R + cnt (fvs (wordsOf x0) x1) = cnt (fvs (wordsOf x0) (x1.take k)) ∧ ScAt w' p2 g2 N (wordsOf x0) P A n c T x1 ∧ Turn [p2, g2] [p2, g2] V w' := fun V hV hf => by
      have h := put_any D (n1 - k) (c1 - k) (x1.drop k) hV (rdA_in hrD hf (by omega) (by omega)) (by omega) (by rw [List.length_take]; omega)
      rw [List.take_append_drop] at h
      exact h
    have HPA := Lib.hid hpa
    have HPB := Lib.hid hpb
    have HFD := Lib.hid hfd
    have HF7 := Lib.hid hf7
    have HWL := Lib.hid hWl
    have HCB := Lib.hid hcb
    have HDD := Lib.hid hD
    have hpg2 : w.heap.size ≤ p2 ∧ w.heap.size ≤ g2 := by omega
    have hkc : k ≤ c1 := by omega
    clear hpa hpb hfd hf7 hrD hrH hs27 hWl hcb hD hk HPUT1 HSC
    have key : ∀ (D' : Option Addr), D' = D → Hid (∀ V, ScAt V p2 g2 N (wordsOf x0) P A n c T (x1.take k) → Fresh w V → Calls Try.prog 13 #[.pointer (some ⟨p2, 0, none⟩), .slice D' (n1 - k) (c1 - k)] V fun e w' => ∃ R : Nat, e = .returned (iv (R : Nat)) ∧ R + cnt (fvs (wordsOf x0) x1) = cnt (fvs (wordsOf x0) (x1.take k)) ∧ ScAt w' p2 g2 N (wordsOf x0) P A n c T x1 ∧ Turn [p2, g2] [p2, g2] V w') := fun D' h => by subst h; exact HPB
    go_region_law (first
      | ((with_reducible refine ast_slot_ 57 ?_); go_simp; (refine HPA.out.mono ?_); rintro e w8 ⟨R2, rfl, hR2, hs8, ht8⟩; have HR2 := Lib.hid hR2; have HS8 := Lib.hid hs8; have HT8 := Lib.hid ht8; have hb2 : R2 ≤ 40 := (by have := HCB.out []; omega); clear hR2 hs8 ht8)
      | ((with_reducible refine ast_slot_ 62 ?_); go_simp; (refine ((key _ HDD.out).out _ HS8.out (HT8.out.new HFD.out (by simp; exact hpg2))).mono ?_); rintro e w9 ⟨R3, rfl, hR3, hs9, ht9⟩; have HR3 := Lib.hid hR3; have HS9 := Lib.hid hs9; have HT9 := Lib.hid (HT8.out.trans ht9); have hb3 : R3 ≤ 40 := (by have := HCB.out (x1.take k); omega); have hwR : IntKind.i64.wrap ((R2 : Int) + (R3 : Int)) = (R2 : Int) + (R3 : Int) := IntWalk.i64_in _ (by omega); clear hR3 hs9 ht9))
    have hs36 : ScAt w9 p3 g3 N (wordsOf x0) P A n c T [] := (ScAt.turn (ScAt.turn HS6.out HT7.out l1 l2 (by omega) (by omega) (by omega) (by omega)) (Turn.fresh (Fresh.drew w7)) l3 l4 (by omega) (by omega) (by omega) (by omega)).turn HT9.out l3 l4 (by omega) (by omega) (by omega) (by omega)
    have hs19 : ScAt w9 p1 g1 N (wordsOf x0) P A n c T x1 := (HS7.out.fresh (Fresh.drew w7)).turn HT9.out l3 l4 (by omega) (by omega) (by omega) (by omega)
    have hf9 : Fresh w w9 := HT9.out.new HFD.out (by simp; exact hpg2)
    have hm : (R2 : Int) + (R3 : Int) = (R1 : Int) := by
      have h1 := HR1x.out
      have h2 := HR2.out
      have h3 := HR3.out
      omega
    have hR1 : R1 ≤ 80 := by omega
    have HS36 := Lib.hid hs36
    have HS19 := Lib.hid hs19
    have HF9 := Lib.hid hf9
    have HM := Lib.hid hm
    clear hs36 hs19 hf9 hm
    rw [HDD.out]
    go_wp2
    go_loopw [15, 66] (fun v u wr => ∃ (i q : Nat), v = iv (q : Nat) ∧ u = iv (i : Nat) ∧ i ≤ n1 ∧ q ≤ 40 ∧ Hid (q + cnt (fvs (wordsOf x0) (x1.take i)) = cnt (fvs (wordsOf x0) [])) ∧ Hid (ScAt wr p3 g3 N (wordsOf x0) P A n c T (x1.take i)) ∧ Hid (Turn [p3, g3] [p3, g3] w9 wr)) (fun _ u _ => n1 - (intOf u).toNat)
    case atStart => exact ⟨0, 0, rfl, rfl, Nat.zero_le _, Nat.zero_le _, Lib.hid (by rw [List.take_zero, Nat.zero_add]), HS36, Lib.hid (Turn.refl _ _)⟩
    case round =>
      obtain ⟨i, q, rfl, rfl, hi, hq40, hq, hsc, htn⟩ := hrel
      by_cases hlt : i < n1
      · have hpg3 : w.heap.size ≤ p3 ∧ w.heap.size ≤ g3 := by omega
        have hfr : Fresh w wr := htn.out.new HF9.out (by simp; exact hpg3)
        have hr1r : Rd wr w.heap.size A1 n1 (x1.map bv) := HR1.out.below hfr (Nat.le_refl _)
        have htk : x1.take i ++ (x1.drop i).take 1 = x1.take (i + 1) := by rw [← List.take_add]
        have hpt : ∀ D', Rd wr w.heap.size D' (i + 1 - i) (((x1.map bv).drop i).take (i + 1 - i)) → Calls Try.prog 13 #[.pointer (some ⟨p3, 0, none⟩), .slice D' 1 (c1 - i)] wr fun e w' => ∃ R : Nat, e = .returned (iv (R : Nat)) ∧ R + cnt (fvs (wordsOf x0) (x1.take (i + 1))) = cnt (fvs (wordsOf x0) (x1.take i)) ∧ ScAt w' p3 g3 N (wordsOf x0) P A n c T (x1.take (i + 1)) ∧ Turn [p3, g3] [p3, g3] wr w' := fun D' hD => by
          have e : i + 1 - i = 1 := by omega
          rw [e, ← List.map_drop, ← List.map_take] at hD
          have h := put_any D' 1 (c1 - i) ((x1.drop i).take 1) hsc.out (RdA.of_rd hD hfr.size (by simp; exact hpg3)) (by omega) (by rw [List.length_take]; omega)
          rw [htk] at h
          exact h
        have HPT := Lib.hid hpt
        have HR1R := Lib.hid hr1r
        clear hpt hr1r hfr htk
        have hi1 : IntKind.i64.wrap ((i : Int) + 1) = (i : Int) + 1 := IntWalk.i64_in _ (by omega)
        go_wp2_with (first
          | ((with_reducible (refine at_slot_ 75 ?_)); refine wpList_cut2 rfl 32 5 (.tmp 71) (.tmp 72) (.tmp 74) rfl Try.underlying32 byteSize A1 n1 c1 i (i + 1) w.heap.size (x1.map bv) rfl rfl rfl HR1R.out (by omega) (by omega) hm1 ?_; intro D' hD')
          | (go_at_call 13; (with_reducible refine (HPT.out _ hD').mono ?_); rintro e w10 ⟨R4, rfl, hR4, hs10, ht10⟩; have HR4 := Lib.hid hR4; have HS10 := Lib.hid hs10; have HT10 := Lib.hid (htn.out.trans ht10); have hq4 : q + R4 ≤ 40 := (by have h1 := hq.out; have h2 := HCB.out []; omega); have hwq : IntKind.i64.wrap ((q : Int) + (R4 : Int)) = (q : Int) + (R4 : Int) := IntWalk.i64_in _ (by omega); clear hR4 hs10 ht10))
        go_roundw
        case rel => exact ⟨i + 1, q + R4, by go_num, by go_num, by omega, hq4, Lib.hid (by have h1 := hq.out; have h2 := HR4.out; omega), HS10, HT10⟩
        case measure => simp [intOf]; omega
      · have hin : i = n1 := by omega
        subst hin
        have htk : x1.take i = x1 := List.take_of_length_le (by rw [HX1.out]; exact Nat.le_refl _)
        rw [htk] at hq hsc
        have hqR : q = R1 := by
          have h1 := hq.out
          have h2 := HR1x.out
          omega
        subst hqR
        have hs1 : ScAt wr p1 g1 N (wordsOf x0) P A n c T x1 := HS19.out.turn htn.out l5 l6 (by omega) (by omega) (by omega) (by omega)
        have hs2 : ScAt wr p2 g2 N (wordsOf x0) P A n c T x1 := HS9.out.turn htn.out l5 l6 (by omega) (by omega) (by omega) (by omega)
        have hfr : Fresh w wr := htn.out.new HF9.out (by simp; omega)
        have hF1 : ∀ V, Fresh wr V → _ := fun V hV => first_any (hs1.fresh hV)
        have hF2 : ∀ V, Fresh wr V → _ := fun V hV => first_any (hs2.fresh hV)
        have hF3 : ∀ V, Fresh wr V → _ := fun V hV => first_any (hsc.out.fresh hV)
        have HX1F := Lib.hid hF1
        have HX2F := Lib.hid hF2
        have HX3F := Lib.hid hF3
        have HFR := Lib.hid hfr
        have hmm := HM.out
        have HI := HS19.out.many.2
        obtain ⟨F, hF⟩ : ∃ F, fvs (wordsOf x0) x1 = F := ⟨_, rfl⟩
        rw [hF] at HX1F HX2F HX3F
        obtain ⟨W, hW⟩ : ∃ W, (wordsOf x0).length = W := ⟨_, rfl⟩
        rw [hW] at HX1F HX2F HX3F HI
        clear hF1 hF2 hF3 hs1 hs2 hfr htk HR1x HR2 HR3 hF hW
        go_wp2_with (first
          | (go_at_call 16; (with_reducible refine (HX3F.out _ (by first | exact HFC.out | exact Fresh.refl _)).mono ?_); rintro e w11 ⟨A13, c13, rfl, ho, hf⟩; have HO3 := Lib.hid ho; have HO1 := Lib.hid (HO1.out.fresh hf); have HFC := Lib.hid (HFC.out.trans hf); clear ho hf)
          | (go_at_call 16; (with_reducible refine (HX2F.out _ (by first | exact HFC.out | exact Fresh.refl _)).mono ?_); rintro e w11 ⟨A12, c12, rfl, ho, hf⟩; have HO2 := Lib.hid ho; have HO1 := Lib.hid (HO1.out.fresh hf); have HFC := Lib.hid (HFC.out.trans hf); clear ho hf)
          | (go_at_call 16; (with_reducible refine (HX1F.out _ HFC.out).mono ?_); rintro e w12 ⟨A11, c11, rfl, ho, hf⟩; have HO1 := Lib.hid ho; have HFC := Lib.hid (HFC.out.trans hf); clear ho hf)
          | (go_at_call 16; (with_reducible refine (HX1F.out _ (Fresh.refl _)).mono ?_); rintro e w11 ⟨A11, c11, rfl, ho, hf⟩; have HO1 := Lib.hid ho; have HFC := Lib.hid hf; clear ho hf)
          | (go_at_call 15; (refine (ints_any A11 A13 W W c11 c13 _ _ F F _ HO1.out.rd HO3.out.rd (by omega) (by omega)).mono ?_); rintro e w13 ⟨⟨r, rfl, hr⟩, qq, hw13⟩; obtain rfl : r = true := hr.2 rfl; have HFE := Lib.hid (show Fresh wr w13 from hw13 ▸ HFC.out.trans (Fresh.drewN _ _)); clear hr hw13)
          | (go_at_call 15; (refine (ints_any A11 A12 W W c11 c12 _ _ F F _ HO1.out.rd HO2.out.rd (by omega) (by omega)).mono ?_); rintro e w13 ⟨⟨r, rfl, hr⟩, qq, hw13⟩; obtain rfl : r = true := hr.2 rfl; have HFC := Lib.hid (show Fresh wr w13 from hw13 ▸ HFC.out.trans (Fresh.drewN _ _)); clear hr hw13))
        go_ret
        exact ⟨rfl, HFR.out.trans HFE.out⟩
  · have hE1 : ((E : Int) != 0) = true := by rw [bne_iff_ne]; omega
    have HRE := Lib.hid hre
    clear hre hE hE0
    go_enter Try.func7, Try.ntmps7
    go_wp2_with (first
      | (go_at_call 8; (refine HWK.out.mono ?_); rintro e w1 ⟨rfl, hf1⟩; have HF1 := Lib.hid hf1; clear hf1)
      | (go_at_call 9; (with_reducible refine (HLG0.out _ HF1.out).mono ?_); rintro e w2 ⟨rfl, hw2⟩; replace hw2 := hw2.symm; subst hw2)
      | (go_at_call 11; (with_reducible refine (HRE.out _ HF1.out).mono ?_); rintro e w2 ⟨rfl, hw2⟩; replace hw2 := hw2.symm; subst hw2))
    go_ret
    exact ⟨rfl, HF1.out⟩
end Go.Proofs.Ytgbffkneidnmfaa.ahoSame
