/-
  The law AhoOrder's walk. My own text.
-/
import Derived.Test.YtgbffkneidnmfaaAhoLaw
import Derived.Test.YtgbffkneidnmfaaZipApx
namespace Go.Proofs.Ytgbffkneidnmfaa.ahoOrder
open Go.RowKit Go.Proofs.Ytgbffkneidnmfaa.base Go.Proofs.Ytgbffkneidnmfaa.aho Go.Proofs.Ytgbffkneidnmfaa.ahop
set_option linter.unusedVariables false
theorem rowInfo : (Try.prog.info? 32).map (fun i => (i.zero, i.size, i.bytes)) = some (some (.slice none 0 0), 1, 24) := by kernel_rfl
theorem rowSize : (Try.prog.info? 32).map (·.size) = some 1 := by kernel_rfl
theorem val_one (l : List Row) : ∀ u ∈ l.map Row.val, u.oneCell' = true := by
  intro u hu
  obtain ⟨x, _, rfl⟩ := List.mem_map.1 hu
  rfl
/-- turned about -/
def tu {α : Type} (l : List α) (k : Nat) : List α := l.drop k ++ l.take k
theorem tu_perm {α : Type} (l : List α) (k : Nat) : (tu l k).Perm l := by
  unfold tu
  refine List.perm_append_comm.trans ?_
  rw [List.take_append_drop]
theorem tu_map {α β : Type} (f : α → β) (l : List α) (k : Nat) : (tu l k).map f = tu (l.map f) k := by
  unfold tu
  rw [List.map_append, List.map_drop, List.map_take]
theorem tu_len {α : Type} (l : List α) (k : Nat) : (tu l k).length = l.length := (tu_perm l k).length_eq
theorem errA_perm {l l' : List Nat} (h : l.Perm l') : errA l = errA l' := by
  unfold errA
  have h1 : ∀ p : Nat → Bool, l.any p = l'.any p := fun p => by
    rw [Bool.eq_iff_iff, List.any_eq_true, List.any_eq_true]
    exact ⟨fun ⟨x, hx, hp⟩ => ⟨x, h.mem_iff.1 hx, hp⟩, fun ⟨x, hx, hp⟩ => ⟨x, h.mem_iff.2 hx, hp⟩⟩
  rw [h.length_eq, h1, h1]
theorem cnt_tu (W : List Bs) (k : Nat) (t : Bs) : cnt (fvs (tu W k) t) = cnt (fvs W t) := by
  unfold cnt fvs
  exact ((tu_perm W k).map _).count_eq _
theorem tu_at {α : Type} {l : List α} {k n i m : Nat} {x : α} (hl : l.length = n) (hk : k < n) (hx : l[i]? = some x) (hm : m = if k ≤ i then i - k else i + n - k) : (tu l k)[m]? = some x := by
  have hi := (List.getElem?_eq_some_iff.1 hx).1
  unfold tu
  by_cases h : k ≤ i
  · rw [if_pos h] at hm
    subst hm
    rw [List.getElem?_append_left (by rw [List.length_drop]; omega), List.getElem?_drop]
    have e : k + (i - k) = i := by omega
    rw [e]; exact hx
  · rw [if_neg h] at hm
    subst hm
    rw [List.getElem?_append_right (by rw [List.length_drop]; omega), List.length_drop, List.getElem?_take]
    have e : i + n - k - (l.length - k) = i := by omega
    rw [e, if_pos (by omega)]
    exact hx
theorem tmod_is {n k i : Nat} (hk : k < n) (hi : i < n) : ((i : Int) + (n : Int) - (k : Int)).tmod (n : Int) = ((if k ≤ i then i - k else i + n - k : Nat) : Int) := by
  have h1 : (i : Int) + (n : Int) - (k : Int) = ((i + n - k : Nat) : Int) := by omega
  have h2 : ((i + n - k : Nat) : Int).tmod (n : Int) = (((i + n - k) % n : Nat) : Int) := rfl
  rw [h1, h2]
  congr 1
  by_cases h : k ≤ i
  · rw [if_pos h]
    have e : i + n - k = (i - k) + n := by omega
    rw [e, Nat.add_mod_right, Nat.mod_eq_of_lt (by omega)]
  · rw [if_neg h, Nat.mod_eq_of_lt (by omega)]
set_option maxRecDepth 100000 in
set_option maxHeartbeats 4000000 in
theorem ahoOrder_walk (A0 : Option Addr) (n0 c0 : Nat) (x0 : List Row) (A1 : Option Addr) (n1 c1 : Nat) (x1 : List UInt8) (a2 : Int) (w : World) (b0 : InRows w A0 n0 c0 x0) (b1 : InBytes w A1 n1 c1 x1) (w2 : (Lit.int .u8 a2).wf = true) :
    Calls Try.prog 6 #[.slice A0 n0 c0, .slice A1 n1 c1, .int .u8 a2] w fun e w' => e = .returned (.bool true) ∧ Below w.heap.size w w' := by
  obtain ⟨i0, hi0, hz0, hz1, hz2⟩ := info_parts rowInfo
  obtain ⟨hr0, hm0, hM0, _⟩ := b0
  obtain ⟨hr1, hm1, hM1⟩ := b1
  obtain ⟨hl0, hb0⟩ := rows_len hr0
  have hx1l : x1.length = n1 := by have := hr1.1; rwa [List.length_map] at this
  have ha2 : 0 ≤ a2 ∧ a2 ≤ 255 := by simpa [Lit.wf, IntKind.min, IntKind.max, IntKind.signed, IntKind.bits] using w2
  clear w2
  have hwk := wakes_any w
  have hlg0 : ∀ V, Fresh w V → Calls Try.prog 9 #[.slice A0 n0 c0, .int .i64 100] V fun e w' => e = .returned (.bool (longB x0 100)) ∧ w' = V := fun V hV => long_any x0 A0 n0 c0 w.heap.size 100 V (hr0.fresh (Nat.le_refl _) hV) (by omega) (by omega)
  have HR0 := Lib.hid hr0
  have HR1 := Lib.hid hr1
  have HL0 := Lib.hid hl0
  have HX1 := Lib.hid hx1l
  have HWK := Lib.hid hwk
  clear hr0 hr1 hb0 hl0 hwk hx1l
  cases g0 : longB x0 100 with
  | true =>
    rw [g0] at hlg0
    have HLG0 := Lib.hid hlg0
    clear hlg0 g0
    go_enter Try.func6, Try.ntmps6
    go_wp2_with (first
      | (go_at_call 8; (refine HWK.out.mono ?_); rintro e w1 ⟨rfl, hf1⟩; have HF1 := Lib.hid hf1; clear hf1)
      | (go_at_call 9; (with_reducible refine (HLG0.out _ HF1.out).mono ?_); rintro e w2 ⟨rfl, hw2⟩; replace hw2 := hw2.symm; subst hw2))
    go_ret
    exact ⟨rfl, HF1.out⟩
  | false =>
  obtain ⟨q0, r0⟩ := long_false g0
  rw [HL0.out] at r0
  rw [g0] at hlg0
  have HLG0 := Lib.hid hlg0
  clear hlg0 g0 q0
  by_cases h300 : 300 < n1
  · have t1 : decide ((n1 : Int) > 300) = true := by rw [decide_eq_true_iff]; omega
    go_enter Try.func6, Try.ntmps6
    go_wp2_with (first
      | (go_at_call 8; (refine HWK.out.mono ?_); rintro e w1 ⟨rfl, hf1⟩; have HF1 := Lib.hid hf1; clear hf1)
      | (go_at_call 9; (with_reducible refine (HLG0.out _ HF1.out).mono ?_); rintro e w2 ⟨rfl, hw2⟩; replace hw2 := hw2.symm; subst hw2))
    go_ret
    exact ⟨rfl, HF1.out⟩
  have t1 : decide ((n1 : Int) > 300) = false := by rw [decide_eq_false_iff_not]; omega
  obtain ⟨E, hE⟩ : ∃ E, errA (lens x0) = E := ⟨_, rfl⟩
  have hre : ∀ V, Fresh w V → Calls Try.prog 11 #[.slice A0 n0 c0] V fun e w' => e = .returned (iv (E : Nat)) ∧ w' = V := fun V hV => refErr x0 A0 n0 c0 w.heap.size E V (HR0.out.fresh (Nat.le_refl _) hV) (by omega) hE
  by_cases hE0 : E = 0
  · subst hE0
    have hn0 : 0 < n0 := by
      have hll : (lens x0).length = n0 := by unfold lens; rw [List.length_map]; exact HL0.out
      by_cases h : n0 = 0
      · unfold errA at hE
        rw [if_pos (.inl (by omega))] at hE
        omega
      · omega
    have hnw : ∀ V, Fresh w V → _ := fun V hV => new_ok x0 A0 n0 c0 w.heap.size V (HR0.out.fresh (Nat.le_refl _) hV) hV.size (by omega) hE
    have hE2 : ∀ k, errA (lens (tu x0 k)) = 0 := fun k => by
      rw [← hE]
      unfold lens
      rw [tu_map]
      exact errA_perm (tu_perm _ k)
    obtain ⟨k, hk⟩ : ∃ k : Nat, a2.tmod (n0 : Int) = (k : Int) := ⟨(a2.tmod (n0 : Int)).toNat, by rw [Int.toNat_of_nonneg (Int.tmod_nonneg _ ha2.1)]⟩
    have hkn : k < n0 := by
      have := Int.tmod_lt_of_pos a2 (show (0 : Int) < (n0 : Int) by omega)
      omega
    have hkn2 : k ≤ n0 := by omega
    have hkc : k ≤ c0 := by omega
    have hw2 : IntKind.i64.wrap a2 = a2 := IntWalk.i64_in _ (by omega)
    have hw3 : IntKind.i64.wrap (k : Int) = (k : Int) := IntWalk.i64_in _ (by omega)
    have hne1 : ((n0 : Int) == 0) = false := by rw [beq_eq_false_iff_ne]; omega
    have HNW := Lib.hid hnw
    have HRE := Lib.hid hre
    have HE2 := Lib.hid hE2
    clear hnw hre hE hE2
    go_enter Try.func6, Try.ntmps6
    go_upto_region 6 with (first
      | (go_at_call 8; (refine HWK.out.mono ?_); rintro e w1 ⟨rfl, hf1⟩; have HF1 := Lib.hid hf1; clear hf1)
      | (go_at_call 9; (with_reducible refine (HLG0.out _ HF1.out).mono ?_); rintro e w2 ⟨rfl, hw2⟩; replace hw2 := hw2.symm; subst hw2)
      | (go_at_call 11; (with_reducible refine (HRE.out _ HF1.out).mono ?_); rintro e w2 ⟨rfl, hw2⟩; replace hw2 := hw2.symm; subst hw2))
    have hrD : Rd w w.heap.size (if c0 = k then A0 else A0.map (·.add k)) (n0 - k) ((x0.drop k).map Row.val) := by
      have h := HR0.out.1.cut (lo := k) (hi := n0) (cap := c0) hkn2 (Nat.le_refl _) hm0
      rw [List.take_of_length_le (by rw [List.length_drop, List.length_map, HL0.out]; exact Nat.le_refl _), ← List.map_drop] at h
      exact h
    have hrH : Rd w w.heap.size A0 k ((x0.take k).map Row.val) := by
      obtain ⟨h1, h2⟩ := HR0.out.1
      refine ⟨by rw [List.length_map, List.length_take, HL0.out]; omega, fun h0 => ?_⟩
      obtain ⟨b, off, e1, hb, hc⟩ := h2 (by omega)
      refine ⟨b, off, e1, hb, fun j u hu => hc j u ?_⟩
      rw [List.map_take, List.getElem?_take] at hu
      split at hu
      · exact hu
      · cases hu
    obtain ⟨D, hD⟩ : ∃ D, (if c0 = k then A0 else A0.map (·.add k)) = D := ⟨_, rfl⟩
    have hnk : n0 - k + k = n0 := by omega
    have fa : Fresh w1 (w1.alloc (.cells #[] 32)).drew := (Fresh.alloc _ _).trans (Fresh.drew _)
    have hmade : Own (w1.alloc (.cells #[] 32)).drew w1.heap.size 32 (some ⟨w1.heap.size, 0, none⟩) 0 0 [] := (Own.made w1 32 #[] 0 rfl (by unfold maxLen; omega)).fresh (Fresh.drew _)
    have hrD2 := hrD.below (HF1.out.trans fa) (Nat.le_refl _)
    have hza : w1.heap.size ≤ (w1.alloc (.cells #[] 32)).drew.heap.size := fa.size
    have hzw := HF1.out.size
    have HRD := Lib.hid hrD2
    have HRH := Lib.hid hrH
    have HDD := Lib.hid hD
    have HNK := Lib.hid hnk
    have HFA := Lib.hid fa
    have HMADE := Lib.hid hmade
    have HK := Lib.hid hk
    clear hrD hrD2 hrH hD hnk fa hmade hk
    go_region_law (first
      | ((with_reducible refine ast_slot_ 39 ?_); refine step_append_rdx (by rfl) (.tmp 35) (.tmp 38) 22 (by rfl) w1.heap.size 32 i0 _ 24 Try.underlying22 hi0 hz0 hz1 hz2 rfl (some ⟨w1.heap.size, 0, none⟩) 0 0 [] (by rfl) HMADE.out w.heap.size _ (n0 - k) (c0 - k) ((x0.drop k).map Row.val) (by rfl) HRD.out (val_one _) (by unfold maxLen; omega) (by omega) hza ?_; intro A4 c4 w4 hown4 hg4 hat4; rw [Nat.zero_add] at hown4; rw [Nat.zero_add]; have HO4 := Lib.hid hown4; have HF4 := Lib.hid (Fresh.append HFA.out HMADE.out (Nat.le_refl _) hg4); clear hown4 hg4 hat4)
      | ((with_reducible refine ast_slot_ 43 ?_); refine step_append_rdx (by rfl) (.tmp 39) (.tmp 42) 22 (by rfl) w1.heap.size 32 i0 _ 24 Try.underlying22 hi0 hz0 hz1 hz2 rfl A4 (n0 - k) c4 _ (by rfl) HO4.out w.heap.size A0 k c0 ((x0.take k).map Row.val) (by rfl) (HRH.out.below (HF1.out.trans HF4.out) (Nat.le_refl _)) (val_one _) (by unfold maxLen; omega) (by omega) HF4.out.size ?_; intro A5 c5 w5 hown5 hg5 hat5; rw [HNK.out] at hown5; rw [HNK.out]; have HO5 := Lib.hid hown5; have HF5 := Lib.hid (Fresh.append HF4.out HO4.out (Nat.le_refl _) hg5); clear hown5 hg5 hat5))
    all_goals rw [HDD.out]
    all_goals
      have hrows5 : RdRows w5 w5.heap.size A5 n0 (tu x0 k) := by
        have h := HO5.out.rd
        rw [List.nil_append, ← List.map_append] at h
        refine ⟨h, fun r hr => ?_⟩
        exact (HR0.out.2 r ((tu_perm x0 k).mem_iff.1 hr)).fresh (HF1.out.trans HF5.out)
      have hf5 : Fresh w w5 := HF1.out.trans HF5.out
      have hnw2 : ∀ V, Fresh w5 V → _ := fun V hV => new_ok (tu x0 k) A5 n0 c5 w5.heap.size V (hrows5.fresh (Nat.le_refl _) hV) hV.size (by omega) (HE2.out k)
      have hWk : wordsOf (tu x0 k) = tu (wordsOf x0) k := by unfold wordsOf; exact tu_map _ _ _
      rw [hWk] at hnw2
      have hWl : (wordsOf x0).length = n0 := by unfold wordsOf; rw [List.length_map]; exact HL0.out
      have hWl2 : (tu (wordsOf x0) k).length = n0 := by rw [tu_len]; exact hWl
      obtain ⟨W, hW⟩ : ∃ W, wordsOf x0 = W := ⟨_, rfl⟩
      rw [hW] at HNW hnw2 hWl hWl2
      have HNW2 := Lib.hid hnw2
      have HWL := Lib.hid hWl
      have HWL2 := Lib.hid hWl2
      have HF5w := Lib.hid hf5
      clear hrows5 hf5 hnw2 hWk hWl hWl2 hW HO4 HO5 HRD HRH HMADE HFA
      go_upto_region 9 with (first
        | (go_at_call 10; (with_reducible refine (HNW2.out _ HF6.out).mono ?_); rintro e w7 ⟨q2, N2, nn2, cc2, P2, AA2, T2, rfl, hf7, hq7, hwd2⟩; have HF7 := Lib.hid hf7; have HWD2 := Lib.hid hwd2; clear hf7 hwd2)
        | (go_at_call 10; (with_reducible refine (HNW.out _ HF5w.out).mono ?_); rintro e w6 ⟨q1, N1, nn1, cc1, P1, AA1, T1, rfl, hf6, hq6, hwd1⟩; have HF6 := Lib.hid hf6; have HWD1 := Lib.hid hwd1; clear hf6 hwd1))
      have hsc1 : ∀ V, Fresh w6 V → _ := fun V hV => scan_any q1 N1 W P1 AA1 nn1 cc1 T1 V (HWD1.out.fresh hV)
      have hsc2 : ∀ V, Fresh w7 V → _ := fun V hV => scan_any q2 N2 (tu W k) P2 AA2 nn2 cc2 T2 V (HWD2.out.fresh hV)
      have HSC1 := Lib.hid hsc1
      have HSC2 := Lib.hid hsc2
      have hlow1 := HWD1.out.low
      have hlow2 := HWD2.out.low
      have hin1 := HWD1.out.bk.inside
      have hin2 := HWD2.out.bk.inside
      have z5 := HF5w.out.size
      have z6 := HF6.out.size
      have z7 := HF7.out.size
      clear hsc1 hsc2 HNW HNW2
      go_upto_region 12 with (first
        | (go_at_call 12; (with_reducible refine (HSC2.out _ HF8.out).mono ?_); rintro e w9 ⟨p2, g2, rfl, hs9, hp9, hg9, hf9⟩; have HS9 := Lib.hid hs9; have HF9 := Lib.hid hf9; clear hs9 hf9)
        | (go_at_call 12; (with_reducible refine (HSC1.out _ HF7.out).mono ?_); rintro e w8 ⟨p1, g1, rfl, hs8, hp8, hg8, hf8⟩; have HS8 := Lib.hid hs8; have HF8 := Lib.hid hf8; clear hs8 hf8))
      obtain ⟨l1, l2⟩ := HS8.out.low
      obtain ⟨l3, l4⟩ := HS9.out.low
      obtain ⟨i1, i2, i3⟩ := HS8.out.inside
      obtain ⟨i4, i5, i6⟩ := HS9.out.inside
      have z8 := HF8.out.size
      have z9 := HF9.out.size
      have hfw : Fresh w w9 := (((HF5w.out.trans HF6.out).trans HF7.out).trans HF8.out).trans HF9.out
      have hpg1 : w.heap.size ≤ p1 ∧ w.heap.size ≤ g1 := by omega
      have hpg2 : w.heap.size ≤ p2 ∧ w.heap.size ≤ g2 := by omega
      have hput1 := put_any A1 n1 c1 x1 (HS8.out.fresh HF9.out) (rdA_in HR1.out hfw hpg1.1 hpg1.2) (by omega) (by simp)
      rw [List.nil_append] at hput1
      have hput2 : ∀ V, Turn [p1, g1] [p1, g1] w9 V → Calls Try.prog 13 #[.pointer (some ⟨p2, 0, none⟩), .slice A1 n1 c1] V fun e w' => ∃ R : Nat, e = .returned (iv (R : Nat)) ∧ R + cnt (fvs (tu W k) x1) = cnt (fvs (tu W k) []) ∧ ScAt w' p2 g2 N2 (tu W k) P2 AA2 nn2 cc2 T2 x1 ∧ Turn [p2, g2] [p2, g2] V w' := fun V hV => by
        have hs : ScAt V p2 g2 N2 (tu W k) P2 AA2 nn2 cc2 T2 [] := HS9.out.keep fun i hi hc => hV.block i hi (by
          simp only [List.mem_cons, List.not_mem_nil, or_false, not_or]
          rcases hc with hc | rfl | rfl
          · have h1 : N2 ≤ w7.heap.size := by omega
            have h2 : w7.heap.size ≤ p1 := by omega
            have h3 : w7.heap.size ≤ g1 := by omega
            omega
          · omega
          · omega)
        have hf : Fresh w V := hV.new hfw (by simp; exact hpg1)
        have h := put_any A1 n1 c1 x1 hs (rdA_in HR1.out hf hpg2.1 hpg2.2) (by omega) (by simp)
        rw [List.nil_append] at h
        exact h
      have HPUT1 := Lib.hid hput1
      have HPUT2 := Lib.hid hput2
      have HFW := Lib.hid hfw
      clear hput1 hput2 hfw HSC1 HSC2
      go_upto_region 14 with (first
        | (go_at_call 13; (with_reducible refine HPUT1.out.mono ?_); rintro e w10 ⟨R1, rfl, hR1, hs10, ht10⟩; have HRR1 := Lib.hid hR1; have HS10 := Lib.hid hs10; have HT10 := Lib.hid ht10; clear hR1 hs10 ht10)
        | (go_at_call 13; (with_reducible refine (HPUT2.out _ HT10.out).mono ?_); rintro e w11 ⟨R2, rfl, hR2, hs11, ht11⟩; obtain rfl : R2 = R1 := (by have h1 := HRR1.out; rw [cnt_tu, cnt_tu] at hR2; omega); have HS11 := Lib.hid hs11; have HT11 := Lib.hid ht11; clear hR2 hs11 ht11))
      obtain ⟨F, hF⟩ : ∃ F, fvs W x1 = F := ⟨_, rfl⟩
      have hF2 : fvs (tu W k) x1 = tu F k := by rw [← hF]; unfold fvs; exact tu_map _ _ _
      have hFl : F.length = n0 := by rw [← hF, first_len]; exact HWL.out
      have hs1 : ScAt w11 p1 g1 N1 W P1 AA1 nn1 cc1 T1 x1 := HS10.out.keep fun i hi hc => HT11.out.block i hi (by
        simp only [List.mem_cons, List.not_mem_nil, or_false, not_or]
        rcases hc with hc | rfl | rfl <;> omega)
      have hfr1 : ∀ V, Fresh w11 V → _ := fun V hV => first_any (hs1.fresh hV)
      have hfr2 : ∀ V, Fresh w11 V → _ := fun V hV => first_any (HS11.out.fresh hV)
      rw [hF, HWL.out] at hfr1
      rw [hF2, HWL2.out] at hfr2
      have hf11 : Fresh w w11 := HT11.out.new (HT10.out.new HFW.out (by simp; exact hpg1)) (by simp; exact hpg2)
      have HFR1 := Lib.hid hfr1
      have HFR2 := Lib.hid hfr2
      have HFL := Lib.hid hFl
      have HF11 := Lib.hid hf11
      clear hF hF2 hFl hs1 hfr1 hfr2 hf11 HPUT1 HPUT2
      go_wp2
      go_loopw [73] (fun v wr => ∃ i : Nat, v = iv (i : Nat) ∧ i ≤ n0 ∧ Hid (Fresh w11 wr)) (fun v _ => n0 - (intOf v).toNat)
      case atStart => exact ⟨0, rfl, Nat.zero_le _, Lib.hid (Fresh.refl _)⟩
      case round =>
        obtain ⟨i, rfl, hi, hfr⟩ := hrel
        by_cases hlt : i < n0
        · obtain ⟨zz, hzz⟩ : ∃ zz, F[i]? = some zz := ⟨_, List.getElem?_eq_getElem (by rw [HFL.out]; exact hlt)⟩
          obtain ⟨m, hm⟩ : ∃ m, m = (if k ≤ i then i - k else i + n0 - k) := ⟨_, rfl⟩
          have hmz := tu_at HFL.out hkn hzz hm
          have htm := tmod_is hkn hlt
          rw [← hm] at htm
          have hmn : m < n0 := by
            rw [hm]
            split <;> omega
          have hnz : ¬ n0 = 0 := by omega
          have hA1 : IntKind.i64.wrap ((i : Int) + (n0 : Int)) = (i : Int) + (n0 : Int) := IntWalk.i64_in _ (by omega)
          have hA2 : IntKind.i64.wrap ((i : Int) + (n0 : Int) - (k : Int)) = (i : Int) + (n0 : Int) - (k : Int) := IntWalk.i64_in _ (by omega)
          have hA3 : IntKind.i64.wrap (m : Int) = (m : Int) := IntWalk.i64_in _ (by omega)
          have hca := HFR1.out wr.drew (hfr.out.trans (Fresh.drew _))
          have HCA := Lib.hid hca
          have HZZ := Lib.hid hzz
          have HMZ := Lib.hid hmz
          clear hca hzz hmz hm
          go_wp2
          go_region_law (first
            | ((with_reducible refine ast_slot_ 77 ?_); go_simp; (refine HCA.out.mono ?_); rintro e w12 ⟨A11, c11, rfl, ho, hf⟩; obtain ⟨q11, hq11, hc11⟩ := own_at ho (i := i) (v := iv zz) (by rw [List.getElem?_map, HZZ.out]; rfl); subst hq11; have HO := Lib.hid ho; have HF12 := Lib.hid ((hfr.out.trans (Fresh.drew wr)).trans hf); clear ho hf)
            | ((with_reducible refine ast_slot_ 82 ?_); go_simp; (refine (HFR2.out _ HF12.out).mono ?_); rintro e w13 ⟨A12, c12, rfl, ho, hf⟩; obtain ⟨q12, hq12, hc12⟩ := own_at ho (i := m) (v := iv zz) (by rw [List.getElem?_map, HMZ.out]; rfl); subst hq12; obtain ⟨q13, hq13, hc13⟩ := own_at (HO.out.fresh hf) (i := i) (v := iv zz) (by rw [List.getElem?_map, HZZ.out]; rfl); injection hq13 with hq13; injection hq13 with hq13; subst hq13; have HF13 := Lib.hid (HF12.out.trans hf); clear ho hf))
          all_goals go_wp2
          all_goals
            go_roundw
            case rel => exact ⟨i + 1, by go_num, by omega, HF13⟩
            case measure => simp [intOf]; omega
        · have hin : i = n0 := by omega
          subst hin
          go_wp2
          go_ret
          exact ⟨rfl, HF11.out.trans hfr.out⟩
  · have hE1 : ((E : Int) != 0) = true := by rw [bne_iff_ne]; omega
    have HRE := Lib.hid hre
    clear hre hE hE0
    go_enter Try.func6, Try.ntmps6
    go_wp2_with (first
      | (go_at_call 8; (refine HWK.out.mono ?_); rintro e w1 ⟨rfl, hf1⟩; have HF1 := Lib.hid hf1; clear hf1)
      | (go_at_call 9; (with_reducible refine (HLG0.out _ HF1.out).mono ?_); rintro e w2 ⟨rfl, hw2⟩; replace hw2 := hw2.symm; subst hw2)
      | (go_at_call 11; (with_reducible refine (HRE.out _ HF1.out).mono ?_); rintro e w2 ⟨rfl, hw2⟩; replace hw2 := hw2.symm; subst hw2))
    go_ret
    exact ⟨rfl, HF1.out⟩
end Go.Proofs.Ytgbffkneidnmfaa.ahoOrder
