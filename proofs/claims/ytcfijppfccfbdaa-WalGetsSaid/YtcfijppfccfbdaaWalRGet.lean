/-
  The reference's Get of batches. My own text.
-/
import Derived.Test.YtcfijppfccfbdaaWalGet
import Derived.Test.YtcfijppfccfbdaaWalRef2
import Derived.Test.YtcfijppfccfbdaaWalSame
import Derived.Test.YtcfijppfccfbdaaWalRLoop
namespace Go.Proofs.Ytcfijppfccfbdaa.walp
open Go.RowKit Go.Proofs.Ytcfijppfccfbdaa.base Go.Proofs.Ytcfijppfccfbdaa.num Go.Proofs.Ytcfijppfccfbdaa.word Go.Proofs.Ytcfijppfccfbdaa.waln
set_option linter.unusedVariables false

/-- what the reference tells -/
def RGotIs (w' : World) (e : Ending) : Got → Prop
  | .bad k => e = .returned (.agg #[.slice none 0 0, .int .i64 (k : Nat)])
  | .ok l => ∃ A m cc ws, e = .returned (.agg #[.slice A m cc, .int .i64 0]) ∧ WsAt w' w'.heap.size A m ws ∧ ws.map Wp.pg = l ∧ m ≤ cc ∧ cc ≤ maxLen
set_option maxRecDepth 100000 in
set_option maxHeartbeats 4000000 in
theorem refGet_any (A : Option Addr) (n c : Nat) (bs : List UInt8) (w : World) (hr : Rd w w.heap.size A n (bs.map bv)) (hc : n ≤ c) (hm : c ≤ maxLen) (hn : n ≤ 65536) :
    Calls Try.prog 15 #[.slice A n c] w fun e w' => Fresh w w' ∧ RGotIs w' e (waln.get bs) := by
  have hl := Rd.len8 hr
  unfold maxLen at hm
  by_cases h4 : n < 4
  · rw [get_bad bs (by rw [told_short bs (by omega)]; simp), told_short bs (by omega)]
    have HR0 := Lib.hid (got_zero w)
    have HF0 := Lib.hid (Fresh.alloc w (.cells #[.slice none 0 0, .int .i64 0] tGot))
    clear hr hl
    go_enter Try.func15, Try.ntmps15
    go_wp2_with ((with_reducible refine at_store_ 2 10 ?_); refine wpList_store_blk rfl tGot (.tmp 2) (.tmp 10) rfl w.heap.size 0 tGot (gv none 0 0 0) (gv none 0 0 3) rfl rfl HR0.out (by decide) (gv_one _ _ _ _) size_got ?_; intro wS hbS hutS; rw [splice_all (cur := gv none 0 0 0) (vs := gv none 0 0 3) rfl] at hbS; have HBS := Lib.hid hbS; have HUT := Lib.hid hutS; clear hbS hutS)
    exact bodyPost_ret (results_cell_row (p := 2) (by kernel_rfl) _ _ w.heap.size tGot #[.slice none 0 0, .int .i64 3] (0, 0) _ rfl (by have := HBS.out; simpa [Bk, gv] using this) Try.underlying40 rfl (by kernel_rfl)) rfl ⟨HF0.out.but (Nat.le_refl _) HUT.out, rfl⟩
  · obtain ⟨b, off, rfl, hb, hcell⟩ := hr.2 (by omega)
    have r1 := take_rd hr 0 4 (by omega) (by omega)
    rw [List.drop_zero, Nat.add_zero] at r1
    have hm4 : ∀ (W : World) (g : Nat) (hf : Fresh w W), g = W.heap.size → ∀ d, Calls Try.prog 10 #[.slice (some ⟨b, off, none⟩) 4 d, .slice (some ⟨g, 0, none⟩) 4 4] (W.alloc (.cells #[.int .u8 105, .int .u8 113, .int .u8 106, .int .u8 49] tB)) fun e w' => e = .returned (.bool (decide (bs.take 4 = mk4))) ∧ Fresh (W.alloc (.cells #[.int .u8 105, .int .u8 113, .int .u8 106, .int .u8 49] tB)) w' := fun W g hf hg d => by
      subst hg
      exact same_gen _ _ 4 4 d 4 (bs.take 4) mk4 _ w.heap.size (W.heap.size + 1) ((r1.below hf (Nat.le_refl _)).alloc hf.size _) (Rd.lit W #[.int .u8 105, .int .u8 113, .int .u8 106, .int .u8 49] tB) (by omega) (by omega) _ rfl
    have hs4 := fun (g d : Nat) (hg : g = (w.alloc (.cells #[.slice none 0 0, .int .i64 0] tGot)).heap.size) => hm4 (w.alloc (.cells #[.slice none 0 0, .int .i64 0] tGot)) g (Fresh.alloc _ _) hg d
    by_cases hmk : bs.take 4 = mk4
    · rw [decide_eq_true hmk] at hs4
      have HSM := Lib.hid hs4
      by_cases h8 : n < 8
      · rw [get_bad bs (by rw [told_eight bs (by omega) hmk (by omega)]; simp), told_eight bs (by omega) hmk (by omega)]
        clear hr hl r1 hm4 hs4 hmk hcell
        go_enter Try.func15, Try.ntmps15
        go_wp2_with (first
          | (go_at_call 10; (refine (HSM.out _ _ (by simp)).mono ?_); rintro e w2 ⟨rfl, hf2⟩; have hf2' := (Fresh.alloc (w.alloc (.cells #[.slice none 0 0, .int .i64 0] tGot)) (.cells #[.int .u8 105, .int .u8 113, .int .u8 106, .int .u8 49] tB)).trans hf2; have HF2 := Lib.hid ((Fresh.alloc w (.cells #[.slice none 0 0, .int .i64 0] tGot)).trans hf2'); have HR2 := Lib.hid ((got_zero w).fresh hf2'); clear hf2 hf2')
          | ((with_reducible refine at_store_ 2 20 ?_); refine wpList_store_blk rfl tGot (.tmp 2) (.tmp 20) rfl w.heap.size 0 tGot (gv none 0 0 0) (gv none 0 0 3) rfl rfl HR2.out (by decide) (gv_one _ _ _ _) size_got ?_; intro wS hbS hutS; rw [splice_all (cur := gv none 0 0 0) (vs := gv none 0 0 3) rfl] at hbS; have HBS := Lib.hid hbS; have HUT := Lib.hid hutS; clear hbS hutS))
        exact bodyPost_ret (results_cell_row (p := 2) (by kernel_rfl) _ _ w.heap.size tGot #[.slice none 0 0, .int .i64 3] (0, 0) _ rfl (by have := HBS.out; simpa [Bk, gv] using this) Try.underlying40 rfl (by kernel_rfl)) rfl ⟨HF2.out.but (Nat.le_refl _) HUT.out, rfl⟩
      · have r2 := take_rd hr 4 4 (by omega) (by omega)
        have hnu := fun (W : World) (hf : Fresh w W) (d : Nat) => word.number_any (some ⟨b, off + 4, none⟩) 4 d ((bs.drop 4).take 4) W w.heap.size (r2.below hf (Nat.le_refl _)) (by omega)
        by_cases hbig : 4096 < num ((bs.drop 4).take 4)
        · rw [get_bad bs (by rw [told_many bs (by omega) hmk (by omega) hbig]; simp), told_many bs (by omega) hmk (by omega) hbig]
          generalize num ((bs.drop 4).take 4) = N at *
          have HNU := Lib.hid hnu
          have hN : (4096 : Int) < (N : Int) := by omega
          clear hr hl r1 hm4 hs4 hmk hcell r2 hnu hbig
          go_enter Try.func15, Try.ntmps15
          go_wp2_with (first
            | (go_at_call 10; (refine (HSM.out _ _ (by simp)).mono ?_); rintro e w2 ⟨rfl, hf2⟩; have hf2' := (Fresh.alloc (w.alloc (.cells #[.slice none 0 0, .int .i64 0] tGot)) (.cells #[.int .u8 105, .int .u8 113, .int .u8 106, .int .u8 49] tB)).trans hf2; have HF2 := Lib.hid ((Fresh.alloc w (.cells #[.slice none 0 0, .int .i64 0] tGot)).trans hf2'); have HR2 := Lib.hid ((got_zero w).fresh hf2'); clear hf2 hf2')
            | (go_at_call 25; (refine (HNU.out _ HF2.out _).mono ?_); rintro e w3 ⟨rfl, rfl⟩)
            | ((with_reducible refine at_store_ 2 26 ?_); refine wpList_store_blk rfl tGot (.tmp 2) (.tmp 26) rfl w.heap.size 0 tGot (gv none 0 0 0) (gv none 0 0 4) rfl rfl HR2.out (by decide) (gv_one _ _ _ _) size_got ?_; intro wS hbS hutS; rw [splice_all (cur := gv none 0 0 0) (vs := gv none 0 0 4) rfl] at hbS; have HBS := Lib.hid hbS; have HUT := Lib.hid hutS; clear hbS hutS))
          exact bodyPost_ret (results_cell_row (p := 2) (by kernel_rfl) _ _ w.heap.size tGot #[.slice none 0 0, .int .i64 4] (0, 0) _ rfl (by have := HBS.out; simpa [Bk, gv] using this) Try.underlying40 rfl (by kernel_rfl)) rfl ⟨HF2.out.but (Nat.le_refl _) HUT.out, rfl⟩
        · have htl := told_ok bs (by omega) hmk (by omega) hbig
          rw [get_behind bs (by rw [htl]), htl]
          simp only
          generalize num ((bs.drop 4).take 4) = m at *
          have HNU := Lib.hid hnu
          have hle : m ≤ 4096 := by omega
          obtain ⟨E, hE⟩ : ∃ E : Nat, E = 8 + 516 * m := ⟨_, rfl⟩
          have hEi : 8 + 516 * (m : Int) = (E : Int) := by omega
          have hm4' : ¬ (4096 : Int) < (m : Int) := by omega
          unfold behind
          by_cases h1 : n < 12 + 516 * m
          · rw [if_pos (by omega)]
            have h1' : (n : Int) < (E : Int) + 4 := by omega
            have HE := Lib.hid hE
            clear hr hl r1 hm4 hs4 hmk hcell r2 hnu hbig htl hE h1 hle
            go_enter Try.func15, Try.ntmps15
            go_wp2_with (first
              | (go_at_call 10; (refine (HSM.out _ _ (by simp)).mono ?_); rintro e w2 ⟨rfl, hf2⟩; have hf2' := (Fresh.alloc (w.alloc (.cells #[.slice none 0 0, .int .i64 0] tGot)) (.cells #[.int .u8 105, .int .u8 113, .int .u8 106, .int .u8 49] tB)).trans hf2; have HF2 := Lib.hid ((Fresh.alloc w (.cells #[.slice none 0 0, .int .i64 0] tGot)).trans hf2'); have HR2 := Lib.hid ((got_zero w).fresh hf2'); clear hf2 hf2')
              | (go_at_call 25; (refine (HNU.out _ HF2.out _).mono ?_); rintro e w3 ⟨rfl, rfl⟩)
              | ((with_reducible refine at_store_ 2 35 ?_); refine wpList_store_blk rfl tGot (.tmp 2) (.tmp 35) rfl w.heap.size 0 tGot (gv none 0 0 0) (gv none 0 0 3) rfl rfl HR2.out (by decide) (gv_one _ _ _ _) size_got ?_; intro wS hbS hutS; rw [splice_all (cur := gv none 0 0 0) (vs := gv none 0 0 3) rfl] at hbS; have HBS := Lib.hid hbS; have HUT := Lib.hid hutS; clear hbS hutS))
            exact bodyPost_ret (results_cell_row (p := 2) (by kernel_rfl) _ _ w.heap.size tGot #[.slice none 0 0, .int .i64 3] (0, 0) _ rfl (by have := HBS.out; simpa [Bk, gv] using this) Try.underlying40 rfl (by kernel_rfl)) rfl ⟨HF2.out.but (Nat.le_refl _) HUT.out, rfl⟩
          · rw [if_neg (by omega), ← hE]
            have h1' : ¬ (n : Int) < (E : Int) + 4 := by omega
            have hE4 : E + 4 ≤ n := by omega
            have hE8 : 8 ≤ E := by omega
            have b1 : (E : Int) ≤ (c : Int) := by omega
            have b2 : (E : Int) + 4 ≤ (c : Int) := by omega
            have b3 : (0 : Int) ≤ (E : Int) + 4 := by omega
            have b4 : ((E : Int) + 4).toNat = E + 4 := by omega
            have b5 : ¬ c = E := by omega
            have b6 : IntKind.i64.wrap ((E : Int) + 4) = (E : Int) + 4 := by rw [IntKind.wrap_i64]; omega
            have b7 : (E : Int) ≤ (E : Int) + 4 := by omega
            have b8 : E + 4 - E = 4 := by omega
            have q1 := take_rd hr 0 E (by omega) (by omega)
            rw [List.drop_zero, Nat.add_zero] at q1
            have q2 := take_rd hr E 4 (by omega) (by omega)
            have hsl := crcnum.sum_lt (bs.take E)
            have hof := fun (W : World) (hf : Fresh w W) (d : Nat) => crc.of_is (some ⟨b, off, none⟩) E d (bs.take E) _ W w.heap.size (q1.below hf (Nat.le_refl _)) (by unfold maxLen; omega) rfl
            have hnq := fun (W : World) (hf : Fresh w W) (d : Nat) => word.number_any (some ⟨b, off + E, none⟩) 4 d ((bs.drop E).take 4) W w.heap.size (q2.below hf (Nat.le_refl _)) (by omega)
            generalize crcnum.sum (bs.take E) = S at *
            generalize num ((bs.drop E).take 4) = T at *
            have hS : IntKind.i64.wrap (S : Int) = (S : Int) := by rw [IntKind.wrap_i64]; omega
            have HOF := Lib.hid hof
            have HNQ := Lib.hid hnq
            have HE := Lib.hid hE
            by_cases hST : T = S
            · rw [if_pos hST]
              subst hST
              obtain ⟨L, hLd⟩ : ∃ L, L = pgs m (bs.drop 8) := ⟨_, rfl⟩
              rw [← hLd]
              obtain ⟨t, htd⟩ : ∃ t, t = rise (-1) (L.map Prod.fst) := ⟨_, rfl⟩
              rw [← htd]
              have HLD := Lib.hid hLd
              have HTD := Lib.hid htd
              have hR := fun (W : World) (AA : Option Addr) (k cc : Nat) (ws : List Wp) (f : Nat → Pg) (gq : Nat) (h : RAt w W gq k AA cc ws f) => rising_any AA k cc ws W W.heap.size h.all (Nat.le_refl _)
              have HRS := Lib.hid hR
              have HRR := Lib.hid hr
              have HLB := Lib.hid hl
              clear hr hl r1 hm4 hs4 hmk hcell r2 hnu hbig htl hE h1 hle q1 q2 hof hnq hsl hR hLd htd
              have tt : ((T : Int) != (T : Int)) = false := by simp
              go_enter Try.func15, Try.ntmps15
              go_wp2_with (first
                | (go_at_call 10; (refine (HSM.out _ _ (by simp)).mono ?_); rintro e w2 ⟨rfl, hf2⟩; have hf2' := (Fresh.alloc (w.alloc (.cells #[.slice none 0 0, .int .i64 0] tGot)) (.cells #[.int .u8 105, .int .u8 113, .int .u8 106, .int .u8 49] tB)).trans hf2; have HF2 := Lib.hid ((Fresh.alloc w (.cells #[.slice none 0 0, .int .i64 0] tGot)).trans hf2'); have HR2 := Lib.hid ((got_zero w).fresh hf2'); clear hf2 hf2')
                | (go_at_call 25; (refine (HNU.out _ HF2.out _).mono ?_); rintro e w3 ⟨rfl, rfl⟩))
              go_region_held3 (fun _ => True) (exact trivial) (first
                | ((go_at_call 25; (with_reducible refine (HNQ.out _ (HF2.out.trans (Fresh.drew _)) _).mono ?_); rintro e w4 ⟨rfl, rfl⟩))
                | ((go_at_call 21; (with_reducible refine (HOF.out _ (HF2.out.trans (Fresh.drew _)) _).mono ?_); rintro e w5 ⟨rfl, rfl⟩)))
              go_wp2
              have HW1 := Lib.hid (show RAt w (w2.alloc (.cells #[.slice none 0 0, .int .i64 0] tGot)).drew w2.heap.size 0 none 0 [] (pg (bs.drop 8)) from ⟨(got_zero w2).fresh (Fresh.drew _), OwnK.nil _ _ _ _ _, rfl, (fun p hp => by cases hp), (HR2.out.alloc _).fresh (Fresh.drew _), (HF2.out.trans (Fresh.alloc _ _)).trans (Fresh.drew _), by have := HR2.out.inside; exact this⟩)
              generalize hgq : w2.heap.size = gq at *
              generalize hW1 : (w2.alloc (.cells #[.slice none 0 0, .int .i64 0] tGot)).drew = W1 at *
              clear hW1 hgq
              obtain ⟨i0, hi0, hz0, hz1, hz2⟩ := info_parts write_info
              go_loopw [6] (fun i wr => ∃ (k p : Nat) (AA : Option Addr) (cc : Nat) (ws : List Wp), k ≤ m ∧ i = .int .i64 p ∧ Hid (p = 8 + 516 * k) ∧ RAt w wr gq k AA cc ws (pg (bs.drop 8))) (fun i _ => E - (intOf i).toNat)
              case atStart => exact ⟨0, 8, none, 0, [], by omega, rfl, rfl, HW1.out⟩
              case round =>
                obtain ⟨k, p, AA, cc, ws, hk, rfl, hp, hA⟩ := hrel
                have hpE : p ≤ E := by have := hp.out; have := HE.out; omega
                by_cases hlt : k < m
                · have hpE2 : p + 516 ≤ E := by have := hp.out; have := HE.out; omega
                  have hpE3 : (p : Int) < (E : Int) := by omega
                  have c1 : (p : Int) ≤ (p : Int) + 4 := by omega
                  have c2 : (p : Int) + 4 ≤ (c : Int) := by omega
                  have c3 : IntKind.i64.wrap ((p : Int) + 4) = (p : Int) + 4 := by rw [IntKind.wrap_i64]; omega
                  have c4 : IntKind.i64.wrap ((p : Int) + 516) = (p : Int) + 516 := by rw [IntKind.wrap_i64]; omega
                  have c5 : (p : Int) + 4 ≤ (p : Int) + 516 := by omega
                  have c6 : (p : Int) + 516 ≤ (c : Int) := by omega
                  have c7 : ((p : Int) + 4).toNat = p + 4 := by omega
                  have c8 : ((p : Int) + 516).toNat = p + 516 := by omega
                  have c9 : p + 4 - p = 4 := by omega
                  have c10 : p + 516 - (p + 4) = 512 := by omega
                  have c11 : ¬ c = p := by omega
                  have c12 : ¬ c = p + 4 := by omega
                  have c13 : (0 : Int) ≤ (p : Int) + 4 := by omega
                  have s1 := take_rd HRR.out p 4 (by omega) (by omega)
                  have s2 := take_rd HRR.out (p + 4) 512 (by omega) (by omega)
                  have hn4 := word.number_any (some ⟨b, off + p, none⟩) 4 (c - p) ((bs.drop p).take 4) wr.drew w.heap.size (s1.below (hA.fr.trans (Fresh.drew _)) (Nat.le_refl _)) (by omega)
                  have hpg : pg (bs.drop 8) k = (((num ((bs.drop p).take 4) : Nat) : Int), (bs.drop (p + 4)).take 512) := by
                    have := hp.out
                    subst this
                    simp only [pg, List.drop_drop, Nat.add_assoc]
                  have hnb := num_lt ((bs.drop p).take 4)
                  have hnl : ((bs.drop p).take 4).length ≤ 4 := by rw [List.length_take]; omega
                  have hnb2 : num ((bs.drop p).take 4) < 4294967296 := Nat.lt_of_lt_of_le hnb (Nat.pow_le_pow_right (by omega) hnl)
                  generalize num ((bs.drop p).take 4) = R at *
                  have HN4 := Lib.hid hn4
                  have HPG := Lib.hid hpg
                  have hA1 := hA.fresh (Fresh.drew wr)
                  have k1 : wr.drew.cell? ⟨gq, 0, none⟩ = some (.slice AA k cc) := hA1.bk.cell (i := 0) rfl
                  have HA1 := Lib.hid hA1
                  have HA := Lib.hid hA
                  have HS2 := Lib.hid s2
                  clear hn4 hpg hA1 hA s1 s2 hnb hnl HRR
                  have HB := Lib.hid ((HA.out.fresh (Fresh.alloc wr (.cells #[.int .i64 (R : Nat), .slice (some ⟨b, off + (p + 4), none⟩) 512 (c - (p + 4))] tWrite))).fresh (Fresh.drew _))
                  have k2 : (wr.alloc (.cells #[.int .i64 (R : Nat), .slice (some ⟨b, off + (p + 4), none⟩) 512 (c - (p + 4))] tWrite)).drew.cell? ⟨gq, 0, none⟩ = some (.slice AA k cc) := HB.out.bk.cell (i := 0) rfl
                  have HK := Lib.hid (show Bk (wr.alloc (.cells #[.int .i64 (R : Nat), .slice (some ⟨b, off + (p + 4), none⟩) 512 (c - (p + 4))] tWrite)).drew wr.heap.size tWrite (wpV ⟨(R : Nat), some ⟨b, off + (p + 4), none⟩, 512, c - (p + 4), (bs.drop (p + 4)).take 512⟩) from (Bk.made wr tWrite #[.int .i64 (R : Nat), .slice (some ⟨b, off + (p + 4), none⟩) 512 (c - (p + 4))]).fresh (Fresh.drew _))
                  have hk4 : k ≤ 4096 := by omega
                  go_wp2
                  go_region_law (first
                    | ((with_reducible refine bst_slot_ 62 ?_); go_simp; (refine HN4.out.mono ?_); rintro e w3 ⟨rfl, rfl⟩)
                    | ((with_reducible refine bst_slot_ 71 ?_); refine bstep_append_cells (by rfl) (.tmp 56) (.tmp 70) tWrites (by rfl) w.heap.size tWrite i0 _ 2 32 Try.underlying22 hi0 hz0 hz1 hz2 rfl (by omega) wpV AA k cc ws (by rfl) HB.out.row wr.heap.size ⟨(R : Nat), some ⟨b, off + (p + 4), none⟩, 512, c - (p + 4), (bs.drop (p + 4)).take 512⟩ (by rfl) HK.out rfl (wpV_one _) (by omega) (by omega) HB.out.fr.size ?_; intro A4 c4 w4 hown4 hg4 hat4; obtain ⟨hb4, hA4⟩ := HB.out.step hg4 hown4 HPG.out.symm (HS2.out.below HB.out.fr (Nat.le_refl _)) ⟨⟨by simp only; omega, by simp only; omega⟩, by simp only; omega, by simp only; unfold maxLen; omega⟩; have k5 := hb4.cell (i := 0) rfl; have k6 := hb4.free 0; have HA4 := Lib.hid hA4; clear hb4 hA4 hown4 hg4 hat4))
                  all_goals go_wp2
                  all_goals go_roundw
                  all_goals first
                    | exact ⟨k + 1, p + 516, A4, c4, _, by omega, by go_num, by show _ = _; have := hp.out; omega, HA4.out⟩
                    | (simp [intOf]; omega)
                · obtain rfl : k = m := by omega
                  have hpE4 : ¬ (p : Int) < (E : Int) := by have := hp.out; have := HE.out; omega
                  have hL : ws.map Wp.pg = L := hA.pgs.trans HLD.out.symm
                  have ht : rise (-1) (nos ws) = t := by rw [HTD.out, ← hL, nos_pg]
                  have hk4 : k ≤ 4096 := by omega
                  have hri := HRS.out wr AA k cc ws _ gq hA (by omega) t ht
                  have HL := Lib.hid hL
                  have k1 : wr.cell? ⟨gq, 0, none⟩ = some (.slice AA k cc) := hA.bk.cell (i := 0) rfl
                  have HRI := Lib.hid hri
                  have HA := Lib.hid hA
                  have HCAP := Lib.hid hA.row.cap
                  clear hri hA ht hL HRR HTD
                  cases t with
                  | true =>
                    go_wp2_with (first
                      | (go_at_call 19; (refine HRI.out.mono ?_); rintro e w7 ⟨rfl, hf7⟩; have HA7 := Lib.hid (HA.out.fresh hf7); clear hf7)
                      | ((with_reducible refine at_slot_ 78 ?_); refine wpList_load_blk rfl tGot (.tmp 5) rfl gq 0 2 tGot (gv AA k cc 0) rfl HA7.out.bk (by simp) _ Try.underlying40 rfl size_got ?_)
                      | ((with_reducible refine at_store_ 2 78 ?_); refine wpList_store_blk rfl tGot (.tmp 2) (.tmp 78) rfl w.heap.size 0 tGot (gv none 0 0 0) (gv AA k cc 0) rfl rfl HA7.out.res (by simp) (gv_one _ _ _ _) size_got ?_; intro wS hbS hutS; rw [splice_all (cur := gv none 0 0 0) (vs := gv AA k cc 0) rfl] at hbS; have HBS := Lib.hid hbS; have HUT := Lib.hid hutS; clear hbS hutS))
                    exact bodyPost_ret (results_cell_row (p := 2) (by kernel_rfl) _ _ w.heap.size tGot #[.slice AA k cc, .int .i64 0] (0, 0) _ rfl (by have := HBS.out; simpa [Bk, gv] using this) Try.underlying40 rfl (by kernel_rfl)) rfl ⟨HA7.out.fr.but (Nat.le_refl _) HUT.out, AA, k, cc, ws, rfl, HA7.out.out HUT.out, HL.out, HCAP.out.1, HCAP.out.2⟩
                  | false =>
                    go_wp2_with (first
                      | (go_at_call 19; (refine HRI.out.mono ?_); rintro e w7 ⟨rfl, hf7⟩; have HA7 := Lib.hid (HA.out.fresh hf7); clear hf7)
                      | ((with_reducible refine at_store_ 2 77 ?_); refine wpList_store_blk rfl tGot (.tmp 2) (.tmp 77) rfl w.heap.size 0 tGot (gv none 0 0 0) (gv none 0 0 4) rfl rfl HA7.out.res (by decide) (gv_one _ _ _ _) size_got ?_; intro wS hbS hutS; rw [splice_all (cur := gv none 0 0 0) (vs := gv none 0 0 4) rfl] at hbS; have HBS := Lib.hid hbS; have HUT := Lib.hid hutS; clear hbS hutS))
                    exact bodyPost_ret (results_cell_row (p := 2) (by kernel_rfl) _ _ w.heap.size tGot #[.slice none 0 0, .int .i64 4] (0, 0) _ rfl (by have := HBS.out; simpa [Bk, gv] using this) Try.underlying40 rfl (by kernel_rfl)) rfl ⟨HA7.out.fr.but (Nat.le_refl _) HUT.out, rfl⟩
            · rw [if_neg hST]
              have hne : ((T : Int) != (S : Int)) = true := by rw [bne_iff_ne]; omega
              clear hr hl r1 hm4 hs4 hmk hcell r2 hnu hbig htl hE h1 hle q1 q2 hof hnq hST hsl
              go_enter Try.func15, Try.ntmps15
              go_wp2_with (first
                | (go_at_call 10; (refine (HSM.out _ _ (by simp)).mono ?_); rintro e w2 ⟨rfl, hf2⟩; have hf2' := (Fresh.alloc (w.alloc (.cells #[.slice none 0 0, .int .i64 0] tGot)) (.cells #[.int .u8 105, .int .u8 113, .int .u8 106, .int .u8 49] tB)).trans hf2; have HF2 := Lib.hid ((Fresh.alloc w (.cells #[.slice none 0 0, .int .i64 0] tGot)).trans hf2'); have HR2 := Lib.hid ((got_zero w).fresh hf2'); clear hf2 hf2')
                | (go_at_call 25; (refine (HNU.out _ HF2.out _).mono ?_); rintro e w3 ⟨rfl, rfl⟩))
              go_region_held3 (fun _ => True) (exact trivial) (first
                | ((go_at_call 25; (with_reducible refine (HNQ.out _ (HF2.out.trans (Fresh.drew _)) _).mono ?_); rintro e w4 ⟨rfl, rfl⟩))
                | ((go_at_call 21; (with_reducible refine (HOF.out _ (HF2.out.trans (Fresh.drew _)) _).mono ?_); rintro e w5 ⟨rfl, rfl⟩)))
              have HR3 := Lib.hid (HR2.out.fresh (Fresh.drew w2))
              go_wp2_with ((with_reducible refine at_store_ 2 48 ?_); refine wpList_store_blk rfl tGot (.tmp 2) (.tmp 48) rfl w.heap.size 0 tGot (gv none 0 0 0) (gv none 0 0 5) rfl rfl HR3.out (by decide) (gv_one _ _ _ _) size_got ?_; intro wS hbS hutS; rw [splice_all (cur := gv none 0 0 0) (vs := gv none 0 0 5) rfl] at hbS; have HBS := Lib.hid hbS; have HUT := Lib.hid hutS; clear hbS hutS)
              exact bodyPost_ret (results_cell_row (p := 2) (by kernel_rfl) _ _ w.heap.size tGot #[.slice none 0 0, .int .i64 5] (0, 0) _ rfl (by have := HBS.out; simpa [Bk, gv] using this) Try.underlying40 rfl (by kernel_rfl)) rfl ⟨(HF2.out.trans (Fresh.drew w2)).but (Nat.le_refl _) HUT.out, rfl⟩
    · rw [decide_eq_false hmk] at hs4
      have HSM := Lib.hid hs4
      rw [get_bad bs (by rw [told_mark bs (by omega) hmk]; simp), told_mark bs (by omega) hmk]
      clear hr hl r1 hm4 hs4 hmk hcell
      go_enter Try.func15, Try.ntmps15
      go_wp2_with (first
        | (go_at_call 10; (refine (HSM.out _ _ (by simp)).mono ?_); rintro e w2 ⟨rfl, hf2⟩; have hf2' := (Fresh.alloc (w.alloc (.cells #[.slice none 0 0, .int .i64 0] tGot)) (.cells #[.int .u8 105, .int .u8 113, .int .u8 106, .int .u8 49] tB)).trans hf2; have HF2 := Lib.hid ((Fresh.alloc w (.cells #[.slice none 0 0, .int .i64 0] tGot)).trans hf2'); have HR2 := Lib.hid ((got_zero w).fresh hf2'); clear hf2 hf2')
        | ((with_reducible refine at_store_ 2 16 ?_); refine wpList_store_blk rfl tGot (.tmp 2) (.tmp 16) rfl w.heap.size 0 tGot (gv none 0 0 0) (gv none 0 0 4) rfl rfl HR2.out (by decide) (gv_one _ _ _ _) size_got ?_; intro wS hbS hutS; rw [splice_all (cur := gv none 0 0 0) (vs := gv none 0 0 4) rfl] at hbS; have HBS := Lib.hid hbS; have HUT := Lib.hid hutS; clear hbS hutS))
      exact bodyPost_ret (results_cell_row (p := 2) (by kernel_rfl) _ _ w.heap.size tGot #[.slice none 0 0, .int .i64 4] (0, 0) _ rfl (by have := HBS.out; simpa [Bk, gv] using this) Try.underlying40 rfl (by kernel_rfl)) rfl ⟨HF2.out.but (Nat.le_refl _) HUT.out, rfl⟩
end Go.Proofs.Ytcfijppfccfbdaa.walp
