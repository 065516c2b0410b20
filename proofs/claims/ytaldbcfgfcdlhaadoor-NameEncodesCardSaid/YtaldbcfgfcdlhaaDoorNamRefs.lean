/-
  Layer 9's reference: Decode, Encode, May. My own text.
-/
import Derived.Test.YtaldbcfgfcdlhaaDoorNamRead
import Derived.Test.YtaldbcfgfcdlhaaDoorNamPage
import Derived.Deep.RegionLaw
import Derived.Deep.RegionHeld3
import Derived.Deep.AppendLies
namespace Go.Proofs.YtaldbcfgfcdlhaaDoor.namp
open Go.RowKit Go.Proofs.YtaldbcfgfcdlhaaDoor.base Go.Proofs.YtaldbcfgfcdlhaaDoor.nam
set_option linter.unusedVariables false

abbrev tName : TypeId := 28
theorem info_byte9 : (Tryd.prog.info? 5).map (fun i => (i.zero, i.size, i.bytes)) = some (some (.int .u8 0), 1, 1) := by kernel_rfl
/-- what the reference's Decode and Encode tell: bytes, and a sign -/
def NameIs (bs : List UInt8) (is : Bool) (w : World) (e : Ending) (w' : World) : Prop :=
  ∃ A m c, e = .returned (.agg #[.slice A m c, .bool is]) ∧ m = bs.length ∧ Fresh w w' ∧ Rd w' w'.heap.size A m (bs.map bv)
theorem page_at {w : World} {B : Nat} {A : Option Addr} (h : Rd w B A 128 pageV) {j : Nat} (hj : j < 128) : ∃ b off, A = some ⟨b, off, none⟩ ∧ b < B ∧ w.cell? ⟨b, off + j, none⟩ = some (iv (pageR (128 + j) : Nat)) := by
  obtain ⟨b, off, e, hb, hc⟩ := h.2 (by omega)
  refine ⟨b, off, e, hb, hc j _ ?_⟩
  have hj2 : j < upperL.length := by rw [upper_len]; omega
  rw [pageV, List.getElem?_map, List.getElem?_eq_getElem hj2, pageR, if_neg (by omega), show 128 + j - 128 = j by omega, List.getD_eq_getElem?_getD, List.getElem?_eq_getElem hj2]
  rfl
theorem st_slot_ {P : Program} {ops : Array Oper} {a : Act} {w : World} {K : Act → World → Prop} {Q : Exit → Act → World → Prop} {E : Prop} {t : TypeId} (d : Nat) {op : Op} {ps : String} {af gd} (h : if Region.wanted (⟨some d, op, t, ps, af, gd⟩ : Oper) (yielded ops a.tmps) = true then Oper.wp P ⟨some d, op, t, ps, af, gd⟩ a w K Q else E) :
    if Region.wanted (⟨some d, op, t, ps, af, gd⟩ : Oper) (yielded ops a.tmps) = true then Oper.wp P ⟨some d, op, t, ps, af, gd⟩ a w K Q else E := h
theorem utf_row (R : Nat) (hR : R < 2097152) (w : World) :
    Calls Tryd.prog 19 #[.int .i64 (R : Nat)] w fun e w' => ∃ b5 c5, e = .returned (.slice (some ⟨b5, 0, none⟩) (wid R) c5) ∧ Fresh w w' ∧ Own w' w.heap.size 5 (some ⟨b5, 0, none⟩) (wid R) c5 ((en R).map bv) := by
  refine (utf_any R hR w).mono ?_
  rintro e w' ⟨A, c, rfl, hf, ho⟩
  obtain ⟨g, cap, hv, hb, hlt⟩ := World.ownsRow.form ho (by have := (wid_bd R).1; omega)
  injection hv with hA _ hc
  subst hA
  exact ⟨g, c, rfl, hf, ho⟩
theorem own_news {w : World} {base g n c : Nat} {e : TypeId} {xs : List Value} (h : Own w base e (some ⟨g, 0, none⟩) n c xs) : ∀ j u, xs[j]? = some u → w.cell? ((⟨g, 0, none⟩ : Addr).add j) = some u := fun j u hj => World.ownsRow.cells h (g := g) rfl j u hj
set_option maxHeartbeats 4000000 in
set_option maxRecDepth 100000 in
theorem refDecode_page (A : Option Addr) (n c : Nat) (bs : List UInt8) (w : World) (B : Nat) (hr : Rd w B A n (bs.map bv)) (hB : B ≤ w.heap.size) (hn : n ≤ 4294967296) :
    Calls Tryd.prog 9 #[.slice A n c, .bool false] w (NameIs (tx (pgs bs)) true w) := by
  obtain ⟨i0, hi0, hz0, hz1, hz2⟩ := info_parts info_byte9
  have hl : bs.length = n := by have := hr.1; rwa [List.length_map] at this
  have b1 := Bk.made w tName #[.slice none 0 0, .bool false]
  have f1 := Fresh.alloc w (.cells #[.slice none 0 0, .bool false] tName)
  have hs1 : (w.alloc (.cells #[.slice none 0 0, .bool false] tName)).heap.size = w.heap.size + 1 := by simp
  have HL := Lib.hid hl
  have HR := Lib.hid hr
  have HB1 := Lib.hid b1
  have HF1 := Lib.hid f1
  have HS1 := Lib.hid hs1
  have hpg := fun W => page_any W
  have HPG := Lib.hid hpg
  clear hl hr b1 f1 hs1 hpg
  go_enter Tryd.func9, Tryd.ntmps9
  go_wp2_with (go_at_call 18; (refine (HPG.out _).mono ?_); rintro e w1 ⟨A1, c1, rfl, hf1, ho1⟩; have HFP := Lib.hid hf1; have HOP := Lib.hid ho1; clear hf1 ho1)
  have b2 := HB1.out.fresh HFP.out
  have f2 := HF1.out.trans HFP.out
  have b4 := Bk.made w1 tName #[.slice none 0 0, .bool true]
  have b3 := b2.alloc (.cells #[.slice none 0 0, .bool true] tName)
  have f3 := f2.trans (Fresh.alloc w1 (.cells #[.slice none 0 0, .bool true] tName))
  have p3 := (HOP.out.rd.fresh (Fresh.alloc w1 (.cells #[.slice none 0 0, .bool true] tName)))
  obtain ⟨g, hg⟩ : ∃ g, w1.heap.size = g := ⟨_, rfl⟩
  have hgw : w.heap.size < g := by have := b2.inside; omega
  rw [hg] at b4
  have hp1 : Rd w1 w1.heap.size A1 128 pageV := HOP.out.rd
  have HPP := Lib.hid hp1
  have HB2 := Lib.hid b2
  have HF2 := Lib.hid f2
  have HB4 := Lib.hid b4
  have HG := Lib.hid hg
  clear b2 b3 b4 f2 f3 p3 hp1
  rw [hg]
  clear hg
  go_loopw [7] (fun v wr => ∃ (k m c2 : Nat) (A2 : Option Addr), k ≤ n ∧ v = .int .i64 k ∧ Hid (m = (tx (pgs (bs.take k))).length) ∧ m ≤ 4 * k ∧ Bk wr g tName [.slice A2 m c2, .bool true] ∧ Own wr (g + 1) 5 A2 m c2 ((tx (pgs (bs.take k))).map bv) ∧ Fresh w1 wr) (fun v _ => n - (intOf v).toNat)
  case atStart => exact ⟨0, 0, 0, none, Nat.zero_le _, rfl, rfl, by omega, HB4.out, Own.nil _ _ _, Fresh.alloc _ _⟩
  case round =>
    obtain ⟨k, m, c2, A2, hk, rfl, hm, hm4, hb, hown, hfr⟩ := hrel
    by_cases hlt : k < n
    · obtain ⟨b, off, x, rfl, hbB, hx, hcx⟩ := ((HR.out.below (w' := w1) HF2.out hB).below (w' := wr) hfr (by have := HF2.out.size; omega)).at_ hlt
      obtain ⟨R, hRR⟩ : ∃ R, pageR x.toNat = R := ⟨_, rfl⟩
      have hxb := x.toNat_lt
      have hRl : R < 55296 := by rw [← hRR]; exact pageR_rn ⟨x.toNat, hxb⟩
      have hut := fun W => utf_row R (by omega) W
      obtain ⟨D, hD⟩ : ∃ D, wid R = D := ⟨_, rfl⟩
      have hD1 := (wid_bd R).1
      have hD4 := (wid_bd R).2
      rw [hD] at hut hD1 hD4
      have hDl : (en R).length = D := by rw [en_len, hD]
      have HDL := Lib.hid hDl
      clear hD hDl
      have hs : tx (pgs (bs.take k)) ++ en R = tx (pgs (bs.take (k + 1))) := by
        rw [take_snoc _ _ _ hx, ← hRR]
        simp [tx, pgs]
      have hc0 := hb.cell (i := 0) rfl
      have HS := Lib.hid hs
      have HUT := Lib.hid hut
      have HB := Lib.hid hb
      have HO := Lib.hid hown
      have HF := Lib.hid hfr
      have hpw : Rd wr w1.heap.size A1 128 pageV := HPP.out.below hfr (Nat.le_refl _)
      by_cases h128 : x.toNat < 128
      · have hR0 : x.toNat = R := by rw [← hRR, pageR, if_pos h128]
        rw [bv, hR0] at hcx
        have t1 : decide ((R : Int) ≥ 128) = false := by rw [decide_eq_false_iff_not]; omega
        have t2 : decide (128 ≤ (R : Int)) = false := by rw [decide_eq_false_iff_not]; omega
        clear hs hut hb hown hfr hpw h128 hR0 hRR hx hxb
        go_wp2
        have hc1 : wr.drew.cell? ⟨g, 0, none⟩ = some (.slice A2 m c2) := hc0
        go_region_law (first
          | ((with_reducible refine st_slot_ 39 ?_); go_simp; (refine (HUT.out _).mono ?_); rintro e w2 ⟨b5, c5, rfl, hf2, ho2⟩; have HF2b := Lib.hid hf2; have HO2 := Lib.hid ho2; have k2 := (show w2.cell? ⟨g, 0, none⟩ = some (.slice A2 m c2) from ((HB.out.fresh (Fresh.drew wr)).fresh hf2).cell rfl); clear hf2 ho2)
          | ((with_reducible refine st_slot_ 40 ?_); (refine step_append_lies _ (by rfl) (.tmp 37) (.tmp 39) 22 (by rfl) (g + 1) 5 i0 _ 1 1 Tryd.underlying22 hi0 hz0 hz1 hz2 rfl (by omega) (.slice A2 m c2) m ((tx (pgs (bs.take k))).map bv) (by rfl) ((HO.out.fresh (Fresh.drew wr)).fresh HF2b.out) ⟨b5, 0, none⟩ D c5 ((en R).map bv) (by rfl) (by rw [List.length_map, HDL.out, Nat.mul_one]) (own_news HO2.out) (bv_one _) (by omega) (by unfold maxLen; omega) (by omega) (by have := HB.out.inside; have := HF2b.out.size; simp at this; omega) _ rfl ?_; (intro gg cap w4 hown hgrow hat hlt4; have HOWN := Lib.hid hown; have HGROW := Lib.hid hgrow; have hb4 := Bk.grown ((HB.out.fresh (Fresh.drew wr)).fresh HF2b.out) hgrow (Own.ne_block ((HO.out.fresh (Fresh.drew wr)).fresh HF2b.out) ((HB.out.fresh (Fresh.drew wr)).fresh HF2b.out) (by decide)); have HB4b := Lib.hid hb4; have HK2 := Lib.hid (show w4.cell? ⟨g, 0, none⟩ = some (.slice A2 m c2) from hb4.cell rfl); have k4 := hb4.cell (i := 0) rfl; have f4 := hb4.free 0; clear hown hgrow hat hb4))))
        all_goals
          have q1 := HB4b.out.put 0 (.slice (some ⟨gg, 0, none⟩) (m + D) cap)
          have q2 : Own (w4.setCell ⟨g, 0, none⟩ (.slice (some ⟨gg, 0, none⟩) (m + D) cap)) (g + 1) 5 (some ⟨gg, 0, none⟩) (m + D) cap ((tx (pgs (bs.take (k + 1)))).map bv) := by
            have h1 := Own.but HOWN.out (But.put (g := g) (i := 0) w4 (.slice (some ⟨gg, 0, none⟩) (m + D) cap)) (Own.ne_block HOWN.out HB4b.out (by decide))
            rwa [← List.map_append, HS.out] at h1
          have q3 : Fresh w1 (w4.setCell ⟨g, 0, none⟩ (.slice (some ⟨gg, 0, none⟩) (m + D) cap)) := by
            have h1 : Fresh w1 w2 := (HF.out.trans (Fresh.drew wr)).trans HF2b.out
            have h2 : Fresh w1 w4 := Fresh.append h1 ((HO.out.fresh (Fresh.drew wr)).fresh HF2b.out) (by rw [HG.out]; omega) HGROW.out
            exact h2.but (by rw [HG.out]; exact Nat.le_refl _) (But.put _ _)
          have q4 : Hid (m + D = (tx (pgs (bs.take (k + 1)))).length) := by show _ = _; rw [← HS.out, List.length_append, ← hm.out, HDL.out]
          have Q1 := Lib.hid q1
          have Q2 := Lib.hid q2
          have Q3 := Lib.hid q3
          clear q1 q2 q3 k4 f4 k2 hc1 hc0
          go_wp2
          go_roundw
          case rel => exact ⟨k + 1, m + D, cap, some ⟨gg, 0, none⟩, by omega, by go_num, q4, by omega, Q1.out, Q2.out, Q3.out⟩
          case measure => simp [intOf]; omega
      · obtain ⟨j, hj⟩ : ∃ j, x.toNat = 128 + j := ⟨x.toNat - 128, by omega⟩
        have hj128 : j < 128 := by omega
        obtain ⟨pb, po, hA1, hpb, hpc⟩ := page_at hpw hj128
        rw [← hj, hRR] at hpc
        obtain ⟨z, hz⟩ : ∃ z : Int, (x.toNat : Int) = z := ⟨_, rfl⟩
        rw [bv, hz] at hcx
        have t1 : decide (z ≥ 128) = true := by rw [decide_eq_true_iff]; omega
        have t2 : decide (128 ≤ z) = true := by rw [decide_eq_true_iff]; omega
        have e1 : z - 128 = (j : Int) := by omega
        have zb : 0 ≤ z := by omega
        have zc : z ≤ 255 := by omega
        subst hA1
        clear hs hut hb hown hfr hpw h128 hRR hx hxb hj hz
        go_wp2
        have hc1 : wr.drew.cell? ⟨g, 0, none⟩ = some (.slice A2 m c2) := hc0
        go_region_law (first
          | ((with_reducible refine st_slot_ 39 ?_); go_simp; (refine (HUT.out _).mono ?_); rintro e w2 ⟨b5, c5, rfl, hf2, ho2⟩; have HF2b := Lib.hid hf2; have HO2 := Lib.hid ho2; have k2 := (show w2.cell? ⟨g, 0, none⟩ = some (.slice A2 m c2) from ((HB.out.fresh (Fresh.drew wr)).fresh hf2).cell rfl); clear hf2 ho2)
          | ((with_reducible refine st_slot_ 40 ?_); (refine step_append_lies _ (by rfl) (.tmp 37) (.tmp 39) 22 (by rfl) (g + 1) 5 i0 _ 1 1 Tryd.underlying22 hi0 hz0 hz1 hz2 rfl (by omega) (.slice A2 m c2) m ((tx (pgs (bs.take k))).map bv) (by rfl) ((HO.out.fresh (Fresh.drew wr)).fresh HF2b.out) ⟨b5, 0, none⟩ D c5 ((en R).map bv) (by rfl) (by rw [List.length_map, HDL.out, Nat.mul_one]) (own_news HO2.out) (bv_one _) (by omega) (by unfold maxLen; omega) (by omega) (by have := HB.out.inside; have := HF2b.out.size; simp at this; omega) _ rfl ?_; (intro gg cap w4 hown hgrow hat hlt4; have HOWN := Lib.hid hown; have HGROW := Lib.hid hgrow; have hb4 := Bk.grown ((HB.out.fresh (Fresh.drew wr)).fresh HF2b.out) hgrow (Own.ne_block ((HO.out.fresh (Fresh.drew wr)).fresh HF2b.out) ((HB.out.fresh (Fresh.drew wr)).fresh HF2b.out) (by decide)); have HB4b := Lib.hid hb4; have HK2 := Lib.hid (show w4.cell? ⟨g, 0, none⟩ = some (.slice A2 m c2) from hb4.cell rfl); have k4 := hb4.cell (i := 0) rfl; have f4 := hb4.free 0; clear hown hgrow hat hb4))))
        all_goals
          have q1 := HB4b.out.put 0 (.slice (some ⟨gg, 0, none⟩) (m + D) cap)
          have q2 : Own (w4.setCell ⟨g, 0, none⟩ (.slice (some ⟨gg, 0, none⟩) (m + D) cap)) (g + 1) 5 (some ⟨gg, 0, none⟩) (m + D) cap ((tx (pgs (bs.take (k + 1)))).map bv) := by
            have h1 := Own.but HOWN.out (But.put (g := g) (i := 0) w4 (.slice (some ⟨gg, 0, none⟩) (m + D) cap)) (Own.ne_block HOWN.out HB4b.out (by decide))
            rwa [← List.map_append, HS.out] at h1
          have q3 : Fresh w1 (w4.setCell ⟨g, 0, none⟩ (.slice (some ⟨gg, 0, none⟩) (m + D) cap)) := by
            have h1 : Fresh w1 w2 := (HF.out.trans (Fresh.drew wr)).trans HF2b.out
            have h2 : Fresh w1 w4 := Fresh.append h1 ((HO.out.fresh (Fresh.drew wr)).fresh HF2b.out) (by rw [HG.out]; omega) HGROW.out
            exact h2.but (by rw [HG.out]; exact Nat.le_refl _) (But.put _ _)
          have q4 : Hid (m + D = (tx (pgs (bs.take (k + 1)))).length) := by show _ = _; rw [← HS.out, List.length_append, ← hm.out, HDL.out]
          have Q1 := Lib.hid q1
          have Q2 := Lib.hid q2
          have Q3 := Lib.hid q3
          clear q1 q2 q3 k4 f4 k2 hc1 hc0
          go_wp2
          go_roundw
          case rel => exact ⟨k + 1, m + D, cap, some ⟨gg, 0, none⟩, by omega, by go_num, q4, by omega, Q1.out, Q2.out, Q3.out⟩
          case measure => simp [intOf]; omega
    · obtain rfl : k = n := by omega
      have HB := Lib.hid hb
      have HO := Lib.hid hown
      have HF := Lib.hid hfr
      have hz := HB2.out.fresh hfr
      have HZ := Lib.hid hz
      clear hb hown hfr hz
      go_wp2_with (first
        | ((with_reducible refine at_slot_ 42 ?_); refine wpList_load_blk rfl tName _ rfl g 0 2 tName [.slice A2 m c2, .bool true] rfl HB.out (by simp) _ Tryd.underlying28 rfl (by kernel_rfl) ?_)
        | ((with_reducible refine at_store_ 4 42 ?_); refine wpList_store_blk rfl _ _ _ rfl w.heap.size 0 tName _ [.slice A2 m c2, .bool true] rfl rfl HZ.out (by simp) (by intro v hv; simp at hv; rcases hv with rfl | rfl <;> rfl) (by kernel_rfl) ?_; intro w2 hb3 hbut2))
      have hb4 : w2.heap[w.heap.size]? = some (.cells #[.slice A2 m c2, .bool true] tName (0, 0)) := hb3
      refine bodyPost_ret (results_cell_row (p := 4) (by kernel_rfl) _ _ w.heap.size tName #[.slice A2 m c2, .bool true] (0, 0) _ rfl hb4 Tryd.underlying28 rfl (by kernel_rfl)) rfl ?_
      have hob := HO.out.but hbut2 (Own.ne_block HO.out HZ.out (by decide))
      rw [List.take_of_length_le (Nat.le_of_eq HL.out)] at hob
      have hm2 := hm.out
      rw [List.take_of_length_le (Nat.le_of_eq HL.out)] at hm2
      have hff : Fresh w w2 := Fresh.but (Fresh.trans HF2.out HF.out) (Nat.le_refl _) hbut2
      have hfin : NameIs (tx (pgs bs)) true w (.returned (.agg #[.slice A2 m c2, .bool true])) w2 := ⟨A2, m, c2, rfl, hm2, hff, hob.rd⟩
      exact hfin
end Go.Proofs.YtaldbcfgfcdlhaaDoor.namp
