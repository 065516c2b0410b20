import Derived.Test.YtcmeoappddpmcaaDoorDefStored
/-
  The reference's Stored. My own text.
-/
namespace Go.Proofs.YtcmeoappddpmcaaDoor.defp
open Go.RowKit Go.Proofs.YtcmeoappddpmcaaDoor.base Go.Proofs.YtcmeoappddpmcaaDoor.num Go.Proofs.YtcmeoappddpmcaaDoor.bitnum Go.Proofs.YtcmeoappddpmcaaDoor.bitp Go.Proofs.YtcmeoappddpmcaaDoor.infp
set_option linter.unusedVariables false
set_option maxRecDepth 100000 in
set_option maxHeartbeats 8000000 in
theorem refStored_any (A : Option Addr) (n c : Nat) (bs : List UInt8) (w : World) (B : Nat) (hr : Rd w B A n (bs.map bv)) (hB : B ≤ w.heap.size) (hn : n ≤ 16777216) (hc : n ≤ c) (hcm : c ≤ maxLen) :
    Calls Tryd.prog 8 #[.slice A n c] w fun e w' => ∃ A1 m c1, e = .returned (.slice A1 m c1) ∧ (chop n bs).length = m ∧ Own w' w.heap.size 5 A1 m c1 ((chop n bs).map bv) ∧ Fresh w w' := by
  obtain ⟨i0, hi0, hz0, hz1, hz2⟩ := info_parts info_byte
  have hl : bs.length = n := by have := hr.1; rwa [List.length_map] at this
  obtain ⟨T, hT⟩ : ∃ T, chop n bs = T := ⟨_, rfl⟩
  have hTl : T.length ≤ 6 * n + 5 := by rw [← hT]; have := chop_len n bs; omega
  rw [hT]
  unfold maxLen at hcm
  have HR := Lib.hid hr
  have HT := Lib.hid hT
  have HL := Lib.hid hl
  clear hr hT hl
  go_enter Tryd.func8, Tryd.ntmps8
  go_wp2
  go_loopw [3, 4] (fun vo va wr => ∃ (at' m d k : Nat) (D : Option Addr) (out : List UInt8), va = .int .i64 at' ∧ vo = .slice D m d ∧ at' ≤ n + 65535 ∧ Own wr w.heap.size 5 D m d (out.map bv) ∧ Fresh w wr ∧
    Hid ((at' ≤ n ∧ (at' = 0 ∨ at' < n) ∧ out ++ chop k (bs.drop at') = T ∧ n - at' ≤ 65535 * (k + 1)) ∨ (0 < at' ∧ n ≤ at' ∧ out = T))) (fun _ va _ => n + 70000 - (intOf va).toNat)
  case atStart => exact ⟨0, 0, 0, n, none, [], rfl, rfl, by omega, Own.nil _ _ _, Fresh.refl _, .inl ⟨Nat.zero_le _, .inl rfl, by rw [List.drop_zero]; exact HT.out, by omega⟩⟩
  case round =>
    obtain ⟨at', m, d, k, D, out, rfl, rfl, hat, hown, hfr, hcase⟩ := hrel
    rcases hcase.out with ⟨h1, h2, h3, h4⟩ | ⟨h1, h2, h3⟩
    · have hm : m ≤ T.length := by
        have e1 := hown.1
        rw [List.length_map, Nat.mul_one] at e1
        have e2 := congrArg List.length h3
        rw [List.length_append] at e2
        omega
      have H3 := Lib.hid h3
      have H4 := Lib.hid h4
      have hrr : ∀ W, Fresh w W → ∀ L, at' + L ≤ n → Rd W B (if c = at' then A else A.map (·.add at')) L (((bs.drop at').take L).map bv) := fun W h L hL => by
        have := (Rd.later HR.out hB (Fresh.refl w) h).cut (lo := at') (hi := at' + L) (cap := c) (by omega) hL hc
        rwa [← List.map_drop, Nat.add_sub_cancel_left, ← List.map_take] at this
      have hrr0 : ∀ W, Fresh w W → ∀ L, L ≤ n → Rd W B A L ((bs.take L).map bv) := fun W h L hL => by
        have := rd_first (Rd.later HR.out hB (Fresh.refl w) h) hL
        rwa [← List.map_take] at this
      have HRR := Lib.hid hrr
      have HRR0 := Lib.hid hrr0
      have hoL := fun o : Obj => Own.fresh hown (Fresh.alloc wr o)
      have hfL := fun o : Obj => hfr.trans (Fresh.alloc wr o)
      have HOL := Lib.hid hoL
      have HFL := Lib.hid hfL
      have hszr := hfr.size
      clear h3 h4 hcase hrr hrr0 hoL hfL hown hfr
      by_cases hlast : n ≤ at' + 65535
      · obtain ⟨L, hL⟩ : ∃ L, n - at' = L := ⟨_, rfl⟩
        have hL1 : (n : Int) - (at' : Int) = (L : Int) := by omega
        have hL2 : L ≤ 65535 := by omega
        have hge : (n : Int) ≤ (at' : Int) + 65535 := by omega
        by_cases h0 : at' = 0
        · subst h0
          obtain rfl : n = L := by omega
          have hlit := ahead_rd wr true n 1 ((n : Int) % 256) ((n : Int) / 256) ((65535 - (n : Int)) % 256) ((65535 - (n : Int)) / 256) (by omega) rfl (by omega) (by omega) (by omega) (by omega)
          have HLIT := Lib.hid hlit
          clear hlit
          go_wp2_with (first
            | (at_builtin; refine wpList_append_rdx _ rfl (.tmp 29) (.tmp 45) 22 rfl w.heap.size 5 i0 _ 1 Tryd.underlying22 hi0 hz0 hz1 hz2 rfl D m d (out.map bv) rfl (HOL.out _) (wr.heap.size + 1) (some ⟨wr.heap.size, 0, none⟩) 5 5 ((infnum.ahead true n).map bv) rfl HLIT.out (bv_one _) (by unfold maxLen; omega) (by omega) (by simp; omega) ?_; intro A1 c1 w1 ho1 hg1 hw1; have hf1 := (HFL.out _).append (HOL.out _) (Nat.le_refl _) hg1; rw [← List.map_append] at ho1; clear hg1 hw1)
            | (at_builtin; refine wpList_append_rdx _ rfl (.tmp 47) (.tmp 51) 22 rfl w.heap.size 5 i0 _ 1 Tryd.underlying22 hi0 hz0 hz1 hz2 rfl A1 (m + 5) c1 _ rfl ho1 B A n c ((bs.take n).map bv) rfl (HRR0.out _ hf1 n (by omega)) (bv_one _) (by unfold maxLen; omega) (by omega) hf1.size ?_; intro A2 c2 w2 ho2 hg2 hw2; have hf2 := hf1.append ho1 (Nat.le_refl _) hg2; rw [← List.map_append] at ho2; have HO2 := Lib.hid ho2; clear ho2 ho1 hg2 hw2))
          have hsl : (bs.take n).length = n := by simp only [List.length_take, HL.out]; omega
          have he : out ++ infnum.ahead true n ++ bs.take n = out ++ infnum.stored true (bs.take n) := by rw [infnum.stored, hsl, List.append_assoc]
          have ho3 := HO2.out
          rw [he] at ho3
          have hT2 : out ++ infnum.stored true (bs.take n) = T := by
            have := H3.out
            rw [chop_small k (by rw [List.length_drop, HL.out]; omega)] at this
            rw [List.drop_zero] at this
            rwa [List.take_of_length_le (Nat.le_of_eq HL.out)]
          rw [hT2] at ho3
          have HO3 := Lib.hid ho3
          clear ho3 HO2 he hsl hT2
          go_roundw
          case rel => exact ⟨0 + 65535, m + 5 + n, c2, k, A2, T, by go_num, rfl, by omega, HO3.out, hf2, .inr ⟨by omega, by omega, rfl⟩⟩
          case measure => simp [intOf] <;> omega
        · have hne : ¬ c = at' := by omega
          have hltn : (at' : Int) < (n : Int) := by omega
          have h0i : ((at' : Int) == 0) = false := by simp; omega
          have hlit := ahead_rd wr true L 1 ((L : Int) % 256) ((L : Int) / 256) ((65535 - (L : Int)) % 256) ((65535 - (L : Int)) / 256) (by omega) rfl (by omega) (by omega) (by omega) (by omega)
          have HLIT := Lib.hid hlit
          clear hlit
          go_wp2_with (first
            | (at_builtin; refine wpList_append_rdx _ rfl (.tmp 29) (.tmp 45) 22 rfl w.heap.size 5 i0 _ 1 Tryd.underlying22 hi0 hz0 hz1 hz2 rfl D m d (out.map bv) rfl (HOL.out _) (wr.heap.size + 1) (some ⟨wr.heap.size, 0, none⟩) 5 5 ((infnum.ahead true L).map bv) rfl HLIT.out (bv_one _) (by unfold maxLen; omega) (by omega) (by simp; omega) ?_; intro A1 c1 w1 ho1 hg1 hw1; have hf1 := (HFL.out _).append (HOL.out _) (Nat.le_refl _) hg1; rw [← List.map_append] at ho1; clear hg1 hw1)
            | (at_builtin; refine wpList_append_rdx _ rfl (.tmp 47) (.tmp 51) 22 rfl w.heap.size 5 i0 _ 1 Tryd.underlying22 hi0 hz0 hz1 hz2 rfl A1 (m + 5) c1 _ rfl ho1 B (A.map fun x => x.add at') L (c - at') (((bs.drop at').take L).map bv) rfl ((by have := HRR.out _ hf1 L (by omega); rwa [if_neg hne] at this)) (bv_one _) (by unfold maxLen; omega) (by omega) hf1.size ?_; intro A2 c2 w2 ho2 hg2 hw2; have hf2 := hf1.append ho1 (Nat.le_refl _) hg2; rw [← List.map_append] at ho2; have HO2 := Lib.hid ho2; clear ho2 ho1 hg2 hw2))
          have hsl : ((bs.drop at').take L).length = L := by simp only [List.length_take, List.length_drop, HL.out]; omega
          have he : out ++ infnum.ahead true L ++ (bs.drop at').take L = out ++ infnum.stored true ((bs.drop at').take L) := by rw [infnum.stored, hsl, List.append_assoc]
          have ho3 := HO2.out
          rw [he] at ho3
          have hT2 : out ++ infnum.stored true ((bs.drop at').take L) = T := by
            have := H3.out
            rw [chop_small k (by rw [List.length_drop, HL.out]; omega)] at this
            rwa [List.take_of_length_le (by rw [List.length_drop, HL.out]; omega)]
          rw [hT2] at ho3
          have HO3 := Lib.hid ho3
          clear ho3 HO2 he hsl hT2
          go_roundw
          case rel => exact ⟨at' + 65535, m + 5 + L, c2, k, A2, T, by go_num, rfl, by omega, HO3.out, hf2, .inr ⟨by omega, by omega, rfl⟩⟩
          case measure => simp [intOf] <;> omega
      · have hlt : ¬ (n : Int) ≤ (at' : Int) + 65535 := by omega
        by_cases h0 : at' = 0
        · subst h0
          have hlit := ahead_rd wr false 65535 0 ((65535 : Int) % 256) ((65535 : Int) / 256) ((65535 - (65535 : Int)) % 256) ((65535 - (65535 : Int)) / 256) (by omega) rfl (by omega) (by omega) (by omega) (by omega)
          have HLIT := Lib.hid hlit
          clear hlit
          go_wp2_with (first
            | (at_builtin; refine wpList_append_rdx _ rfl (.tmp 29) (.tmp 45) 22 rfl w.heap.size 5 i0 _ 1 Tryd.underlying22 hi0 hz0 hz1 hz2 rfl D m d (out.map bv) rfl (HOL.out _) (wr.heap.size + 1) (some ⟨wr.heap.size, 0, none⟩) 5 5 ((infnum.ahead false 65535).map bv) rfl HLIT.out (bv_one _) (by unfold maxLen; omega) (by omega) (by simp; omega) ?_; intro A1 c1 w1 ho1 hg1 hw1; have hf1 := (HFL.out _).append (HOL.out _) (Nat.le_refl _) hg1; rw [← List.map_append] at ho1; clear hg1 hw1)
            | (at_builtin; refine wpList_append_rdx _ rfl (.tmp 47) (.tmp 51) 22 rfl w.heap.size 5 i0 _ 1 Tryd.underlying22 hi0 hz0 hz1 hz2 rfl A1 (m + 5) c1 _ rfl ho1 B A 65535 c ((bs.take 65535).map bv) rfl (HRR0.out _ hf1 65535 (by omega)) (bv_one _) (by unfold maxLen; omega) (by omega) hf1.size ?_; intro A2 c2 w2 ho2 hg2 hw2; have hf2 := hf1.append ho1 (Nat.le_refl _) hg2; rw [← List.map_append] at ho2; have HO2 := Lib.hid ho2; clear ho2 ho1 hg2 hw2))
          have hsl : (bs.take 65535).length = 65535 := by simp only [List.length_take, HL.out]; omega
          have he : out ++ infnum.ahead false 65535 ++ bs.take 65535 = out ++ infnum.stored false (bs.take 65535) := by rw [infnum.stored, hsl, List.append_assoc]
          have ho3 := HO2.out
          rw [he] at ho3
          obtain ⟨k', rfl⟩ : ∃ k', k = k' + 1 := ⟨k - 1, by have := H4.out; omega⟩
          have hT2 : (out ++ infnum.stored false (bs.take 65535)) ++ chop k' (bs.drop (0 + 65535)) = T := by
            have := H3.out
            rw [chop_big k' (by rw [List.length_drop, HL.out]; omega), ← List.append_assoc, List.drop_drop] at this
            rw [List.drop_zero] at this
            exact this
          have h42 : n - (0 + 65535) ≤ 65535 * (k' + 1) := by have := H4.out; omega
          have HT2 := Lib.hid hT2
          have HO3 := Lib.hid ho3
          have H42 := Lib.hid h42
          clear ho3 HO2 he hsl hT2 h42 H3 H4
          go_roundw
          case rel => exact ⟨0 + 65535, m + 5 + 65535, c2, k', A2, _, by first | go_num | (congr 1; omega), rfl, by omega, HO3.out, hf2, .inl ⟨by omega, .inr (by omega), HT2.out, H42.out⟩⟩
          case measure => simp [intOf] <;> omega
        · have hne : ¬ c = at' := by omega
          have hltn : (at' : Int) < (n : Int) := by omega
          have h0i : ((at' : Int) == 0) = false := by simp; omega
          obtain ⟨E, hE⟩ : ∃ E, at' + 65535 = E := ⟨_, rfl⟩
          have hE1 : (at' : Int) + 65535 = (E : Int) := by omega
          have hE2 : (E : Int) - (at' : Int) = 65535 := by omega
          have hE3 : E - at' = 65535 := by omega
          have hE4 : (E : Int) ≤ (n : Int) := by omega
          have hE5 : (at' : Int) ≤ (E : Int) := by omega
          have hE6 : (E : Int) ≤ (c : Int) := by omega
          have hE7 : ¬ (n : Int) ≤ (E : Int) := by omega
          clear hlt
          have hlit := ahead_rd wr false 65535 0 ((65535 : Int) % 256) ((65535 : Int) / 256) ((65535 - (65535 : Int)) % 256) ((65535 - (65535 : Int)) / 256) (by omega) rfl (by omega) (by omega) (by omega) (by omega)
          have HLIT := Lib.hid hlit
          clear hlit
          go_wp2_with (first
            | (at_builtin; refine wpList_append_rdx _ rfl (.tmp 29) (.tmp 45) 22 rfl w.heap.size 5 i0 _ 1 Tryd.underlying22 hi0 hz0 hz1 hz2 rfl D m d (out.map bv) rfl (HOL.out _) (wr.heap.size + 1) (some ⟨wr.heap.size, 0, none⟩) 5 5 ((infnum.ahead false 65535).map bv) rfl HLIT.out (bv_one _) (by unfold maxLen; omega) (by omega) (by simp; omega) ?_; intro A1 c1 w1 ho1 hg1 hw1; have hf1 := (HFL.out _).append (HOL.out _) (Nat.le_refl _) hg1; rw [← List.map_append] at ho1; clear hg1 hw1)
            | (at_builtin; refine wpList_append_rdx _ rfl (.tmp 47) (.tmp 51) 22 rfl w.heap.size 5 i0 _ 1 Tryd.underlying22 hi0 hz0 hz1 hz2 rfl A1 (m + 5) c1 _ rfl ho1 B (A.map fun x => x.add at') 65535 (c - at') (((bs.drop at').take 65535).map bv) rfl ((by have := HRR.out _ hf1 65535 (by omega); rwa [if_neg hne] at this)) (bv_one _) (by unfold maxLen; omega) (by omega) hf1.size ?_; intro A2 c2 w2 ho2 hg2 hw2; have hf2 := hf1.append ho1 (Nat.le_refl _) hg2; rw [← List.map_append] at ho2; have HO2 := Lib.hid ho2; clear ho2 ho1 hg2 hw2))
          have hsl : ((bs.drop at').take 65535).length = 65535 := by simp only [List.length_take, List.length_drop, HL.out]; omega
          have he : out ++ infnum.ahead false 65535 ++ (bs.drop at').take 65535 = out ++ infnum.stored false ((bs.drop at').take 65535) := by rw [infnum.stored, hsl, List.append_assoc]
          have ho3 := HO2.out
          rw [he] at ho3
          obtain ⟨k', rfl⟩ : ∃ k', k = k' + 1 := ⟨k - 1, by have := H4.out; omega⟩
          have hT2 : (out ++ infnum.stored false ((bs.drop at').take 65535)) ++ chop k' (bs.drop (at' + 65535)) = T := by
            have := H3.out
            rw [chop_big k' (by rw [List.length_drop, HL.out]; omega), ← List.append_assoc, List.drop_drop] at this
            exact this
          have h42 : n - (at' + 65535) ≤ 65535 * (k' + 1) := by have := H4.out; omega
          have HT2 := Lib.hid hT2
          have HO3 := Lib.hid ho3
          have H42 := Lib.hid h42
          clear ho3 HO2 he hsl hT2 h42 H3 H4
          go_roundw
          case rel => exact ⟨at' + 65535, m + 5 + 65535, c2, k', A2, _, by first | go_num | (congr 1; omega), rfl, by omega, HO3.out, hf2, .inl ⟨by omega, .inr (by omega), HT2.out, H42.out⟩⟩
          case measure => simp [intOf] <;> omega
    · subst h3
      have h0i : ((at' : Int) == 0) = false := by simp; omega
      have hnlt : ¬ (at' : Int) < (n : Int) := by omega
      clear hcase
      go_wp2
      go_ret
      have hTl2 : out.length = m := by have := hown.1; rw [List.length_map, Nat.mul_one] at this; exact this
      exact ⟨D, m, d, rfl, hTl2, hown, hfr⟩
end Go.Proofs.YtcmeoappddpmcaaDoor.defp
