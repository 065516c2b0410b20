/-
  Layer 9's reference: Decode as UTF-8, Encode, May. My own text.
-/
import Derived.Test.YtaldbcfgfcdlhaaDoorNamRefs
import Derived.Test.YtaldbcfgfcdlhaaDoorNamEnc
import Derived.BigQuiet
import Derived.Deep.QuietTactic
namespace Go.Proofs.YtaldbcfgfcdlhaaDoor.namp
open Go.RowKit Go.Proofs.YtaldbcfgfcdlhaaDoor.base Go.Proofs.YtaldbcfgfcdlhaaDoor.nam
set_option linter.unusedVariables false

theorem Rd.far {w w' : World} {B n : Nat} {A : Option Addr} {xs : List Value} (h : Rd w B A n xs) (hB : B ≤ w.heap.size) (hf : Fresh w w') : Rd w' w'.heap.size A n xs := (h.below hf hB).up (Nat.le_trans hB hf.size)
theorem field_is (A : Option Addr) (m c : Nat) (b : Bool) (W : World) : (Instr.field tRunes (.agg #[.slice A m c, .bool b]) 1).run Tryd.prog W = .ok (.bool b) W := by
  simp [Instr.field, run_underlying Tryd.underlying38, asAgg, part, sizeOf, typeInfo]
set_option maxHeartbeats 4000000 in
set_option maxRecDepth 100000 in
theorem refDecode_told (A : Option Addr) (n c : Nat) (bs : List UInt8) (rs : List Nat) (u : List UInt8) (ht : bs = tx rs ++ u) (hrn : ∀ r ∈ rs, Rn r) (hu : u = [] ∨ Bad u) (w : World) (B : Nat) (hr : Rd w B A n (bs.map bv)) (hB : B ≤ w.heap.size) (hn : n ≤ 4294967296) (hc : n ≤ c) (hcm : c ≤ maxLen) :
    Calls Tryd.prog 9 #[.slice A n c, .bool true] w (NameIs (if u = [] then bs else []) (decide (u = [])) w) := by
  have hl : bs.length = n := by have := hr.1; rwa [List.length_map] at this
  have hrd := fun W h => read_any A n c bs rs u ht hrn hu W B h
  have b1 := Bk.made w tName #[.slice none 0 0, .bool false]
  have f1 := Fresh.alloc w (.cells #[.slice none 0 0, .bool false] tName)
  have hr1 := hr.below f1 hB
  have HR := Lib.hid hr
  have HR1 := Lib.hid hr1
  have HL := Lib.hid hl
  have HRD := Lib.hid hrd
  have HB1 := Lib.hid b1
  have HF1 := Lib.hid f1
  have HCM := Lib.hid hcm
  clear hl hrd b1 f1 hr hr1 ht hrn hcm
  rcases hu with hu | hu
  · rw [decide_eq_true hu, if_pos hu]
    have HU := Lib.hid hu
    clear hu
    go_enter Tryd.func9, Tryd.ntmps9
    go_wp2_with (first
      | (go_at_call 15; (refine (HRD.out _ HR1.out (by simp; omega) hn hc HCM.out).mono ?_); rintro e w1 ⟨A1, m1, c1, rfl, hf1, hm1, hrest⟩; (rw [decide_eq_true HU.out]); have hfld := field_is A1 m1 c1 true w1; have HFR := Lib.hid hf1; have hbz := HB1.out.fresh hf1; have HBZ := Lib.hid hbz; clear hf1 hbz hrest)
      | ((with_reducible refine at_store_ 4 14 ?_); refine wpList_store_blk rfl _ _ _ rfl w.heap.size 0 tName _ [.slice A n c, .bool true] rfl rfl HBZ.out (by simp) (by intro v hv; simp at hv; rcases hv with rfl | rfl <;> rfl) (by kernel_rfl) ?_; intro w2 hb3 hbut2))
    have hb4 : w2.heap[w.heap.size]? = some (.cells #[.slice A n c, .bool true] tName (0, 0)) := hb3
    refine bodyPost_ret (results_cell_row (p := 4) (by kernel_rfl) _ _ w.heap.size tName #[.slice A n c, .bool true] (0, 0) _ rfl hb4 Tryd.underlying28 rfl (by kernel_rfl)) rfl ?_
    have hff : Fresh w w2 := Fresh.but (Fresh.trans HF1.out HFR.out) (Nat.le_refl _) hbut2
    have hfin : NameIs bs true w (.returned (.agg #[.slice A n c, .bool true])) w2 := ⟨A, n, c, rfl, HL.out.symm, hff, Rd.far HR.out hB hff⟩
    exact hfin
  · rw [decide_eq_false hu.1, if_neg hu.1]
    have HU := Lib.hid hu
    clear hu
    go_enter Tryd.func9, Tryd.ntmps9
    go_wp2_with (first
      | (go_at_call 15; (refine (HRD.out _ HR1.out (by simp; omega) hn hc HCM.out).mono ?_); rintro e w1 ⟨A1, m1, c1, rfl, hf1, hm1, hrest⟩; (rw [decide_eq_false HU.out.1]); have hfld := field_is A1 m1 c1 false w1; have HFR := Lib.hid hf1; have hbz := HB1.out.fresh hf1; have HBZ := Lib.hid hbz; clear hf1 hbz hrest)
      | ((with_reducible refine at_store_ 4 15 ?_); refine wpList_store_blk rfl _ _ _ rfl w.heap.size 0 tName _ [.slice none 0 0, .bool false] rfl rfl HBZ.out (by simp) (by intro v hv; simp at hv; rcases hv with rfl | rfl <;> rfl) (by kernel_rfl) ?_; intro w2 hb3 hbut2))
    have hb4 : w2.heap[w.heap.size]? = some (.cells #[.slice none 0 0, .bool false] tName (0, 0)) := hb3
    refine bodyPost_ret (results_cell_row (p := 4) (by kernel_rfl) _ _ w.heap.size tName #[.slice none 0 0, .bool false] (0, 0) _ rfl hb4 Tryd.underlying28 rfl (by kernel_rfl)) rfl ?_
    have hff : Fresh w w2 := Fresh.but (Fresh.trans HF1.out HFR.out) (Nat.le_refl _) hbut2
    have hfin : NameIs [] false w (.returned (.agg #[.slice none 0 0, .bool false])) w2 := ⟨none, 0, 0, rfl, rfl, hff, Rd.nil _ _ _⟩
    exact hfin
/-- what the reference's inner loop has found in k rounds -/
def cK (r k : Nat) : Int := match pageB r with
  | some b => if b < 128 + k then (b : Int) else -1
  | none => -1
theorem pageB_high {r b : Nat} (h : pageB r = some b) (hr : 128 ≤ r) : 128 ≤ b := by
  have := pageB_some h
  by_cases hb : b < 128
  · have h2 := this.2
    rw [pageR, if_pos hb] at h2
    omega
  · omega
theorem cK_zero {r : Nat} (hr : 128 ≤ r) : cK r 0 = -1 := by
  unfold cK
  cases h : pageB r with
  | none => rfl
  | some b =>
    have := pageB_high h hr
    simp only
    rw [if_neg (by omega)]
theorem cK_hit {r k : Nat} (hk : k < 128) (h : pageR (128 + k) = r) : cK r (k + 1) = 128 + (k : Int) := by
  have := pageB_R ⟨128 + k, by omega⟩
  simp only at this
  rw [h] at this
  unfold cK
  rw [this]
  simp only
  rw [if_pos (by omega)]
  omega
theorem cK_miss {r k : Nat} (hk : k < 128) (h : pageR (128 + k) ≠ r) : cK r (k + 1) = cK r k := by
  unfold cK
  cases hp : pageB r with
  | none => rfl
  | some b =>
    simp only
    have hb := pageB_some hp
    by_cases h1 : b < 128 + k
    · rw [if_pos h1, if_pos (by omega)]
    · have : b ≠ 128 + k := fun e => by rw [e] at hb; exact h hb.2
      rw [if_neg h1, if_neg (by omega)]
theorem cK_end {r : Nat} : cK r 128 = match pageB r with
  | some b => (b : Int)
  | none => -1 := by
  unfold cK
  cases hp : pageB r with
  | none => rfl
  | some b =>
    have hb := (pageB_some hp).1
    simp only
    rw [if_pos (by omega)]
theorem cK_bd (r k : Nat) : -1 ≤ cK r k ∧ cK r k ≤ 255 := by
  unfold cK
  cases hp : pageB r with
  | none => simp
  | some b =>
    have hb := (pageB_some hp).1
    simp only
    split <;> omega

set_option maxHeartbeats 8000000 in
set_option maxRecDepth 100000 in
theorem refEncode_any (A : Option Addr) (n c : Nat) (bs : List UInt8) (rs : List Nat) (u : List UInt8) (ht : bs = tx rs ++ u) (hrn : ∀ r ∈ rs, Rn r) (hu : u = [] ∨ Bad u) (w : World) (B : Nat) (hr : Rd w B A n (bs.map bv)) (hB : B ≤ w.heap.size) (hn : n ≤ 4294967296) (hc : n ≤ c) (hcm : c ≤ maxLen) :
    Calls Tryd.prog 11 #[.slice A n c] w (NameIs (encB rs u) (encT rs u) w) := by
  obtain ⟨i0, hi0, hz0, hz1, hz2⟩ := info_parts info_byte9
  have hl : bs.length = n := by have := hr.1; rwa [List.length_map] at this
  have hrd := fun W h => read_any A n c bs rs u ht hrn hu W B h
  have b1 := Bk.made w tName #[.slice none 0 0, .bool false]
  have f1 := Fresh.alloc w (.cells #[.slice none 0 0, .bool false] tName)
  have hr1 := hr.below f1 hB
  have HR := Lib.hid hr
  have HR1 := Lib.hid hr1
  have HL := Lib.hid hl
  have HT := Lib.hid ht
  have HRN := Lib.hid hrn
  have HRD := Lib.hid hrd
  have HB1 := Lib.hid b1
  have HF1 := Lib.hid f1
  have HCM := Lib.hid hcm
  have hpg := fun W => page_any W
  have HPG := Lib.hid hpg
  clear hl hrd b1 f1 hr hr1 ht hrn hcm hpg
  rcases hu with hu | hu
  · have HU := Lib.hid hu
    clear hu
    go_enter Tryd.func11, Tryd.ntmps11
    go_wp2_with (go_at_call 15; (refine (HRD.out _ HR1.out (by simp; omega) hn hc HCM.out).mono ?_); rintro e w1 ⟨LA, m, lc, rfl, hf1, hm1, hrest⟩; (rw [decide_eq_true HU.out]); have HFR := Lib.hid hf1; have HREST := Lib.hid (hrest HU.out); clear hf1 hrest)
    go_wp2_with (go_at_call 18; (refine (HPG.out _).mono ?_); rintro e w2 ⟨PA, pc, rfl, hf2, ho2⟩; have HFP := Lib.hid hf2; have HOP := Lib.hid ho2; clear hf2 ho2)
    have hz2 := ((HB1.out.fresh HFR.out).alloc (.cells #[.slice LA m lc, .bool true] tRunes)).fresh HFP.out
    have hl2 := (Bk.made w1 tRunes #[.slice LA m lc, .bool true]).fresh HFP.out
    have hll : Rd w2 w1.heap.size LA m (rv rs) := (HREST.out.2.below (Fresh.alloc w1 (.cells #[.slice LA m lc, .bool true] tRunes)) (Nat.le_refl _)).below HFP.out (by simp)
    have hpp : Rd w2 w2.heap.size PA 128 pageV := HOP.out.rd
    have hff : Fresh w w2 := ((Fresh.trans HF1.out HFR.out).trans (Fresh.alloc w1 (.cells #[.slice LA m lc, .bool true] tRunes))).trans HFP.out
    have hx4 := Bk.made w2 tName #[.slice none 0 0, .bool false]
    obtain ⟨g, hg⟩ : ∃ g, w2.heap.size = g := ⟨_, rfl⟩
    obtain ⟨gl, hgl⟩ : ∃ gl, w1.heap.size = gl := ⟨_, rfl⟩
    have hgl2 : gl < g := by have := hl2.inside; omega
    have hgw : w.heap.size < g := by have := hz2.inside; omega
    rw [hg] at hx4 hpp
    rw [hgl] at hl2 hll ⊢
    have hml : m = rs.length := HREST.out.1
    have hmn : m ≤ n := by
      have h1 := tx_le rs
      have h2 := congrArg List.length HT.out
      rw [HL.out, List.length_append] at h2
      omega
    have HZ2 := Lib.hid hz2
    have HL2 := Lib.hid hl2
    have HLL := Lib.hid hll
    have HPP := Lib.hid hpp
    have HFF := Lib.hid hff
    have HX4 := Lib.hid hx4
    have HG := Lib.hid hg
    have HML := Lib.hid hml
    clear hz2 hl2 hll hpp hff hx4 hgl hml
    rw [hg]
    clear hg
    go_loopw [6] (fun v wr => ∃ (k c2 : Nat) (A2 : Option Addr), k ≤ m ∧ v = .int .i64 k ∧ Hid ((rs.take k).all hasB = true) ∧ Bk wr g tName [.slice A2 k c2, .bool false] ∧ Own wr (g + 1) 5 A2 k c2 (((rs.take k).map bR9).map bv) ∧ Fresh w2 wr) (fun v _ => m - (intOf v).toNat)
    case atStart => exact ⟨0, 0, none, Nat.zero_le _, rfl, rfl, HX4.out, Own.nil _ _ _, Fresh.alloc _ _⟩
    case round =>
      obtain ⟨k, c2, A2, hk, rfl, hall, hb, hown, hfr⟩ := hrel
      have hbl := HL2.out.fresh hfr
      have hc0 := hbl.cell (i := 0) rfl
      by_cases hlt : k < m
      · obtain ⟨lb, lo, r, hLA, hlbB, hr, hcr⟩ := (HLL.out.below hfr (by rw [HG.out]; omega)).at_ (enc := fun x : Nat => iv (x : Int)) hlt
        subst hLA
        have hrr : Rn r := HRN.out r (List.mem_of_getElem? hr)
        have hrl := hrr.le
        have HB := Lib.hid hb
        have HO := Lib.hid hown
        have HF := Lib.hid hfr
        have HRK := Lib.hid hr
        have HBL := Lib.hid hbl
        have hpw : Rd wr g PA 128 pageV := HPP.out.below hfr (by rw [HG.out]; exact Nat.le_refl _)
        by_cases h128 : r < 128
        · have t1 : decide ((r : Int) ≥ 128) = false := by rw [decide_eq_false_iff_not]; omega
          have t2 : decide (128 ≤ (r : Int)) = false := by rw [decide_eq_false_iff_not]; omega
          have HPB := Lib.hid (pageB_low h128)
          have t3 : decide ((r : Int) < 0) = false := by rw [decide_eq_false_iff_not]; omega
          have e8 : IntKind.u8.wrap (r : Int) = (r : Int) := w8 _ r rfl (by omega)
          have x0 := hb.cell (i := 0) rfl
          clear hb hown hfr hr hbl hpw h128 hrr
          go_wp2_with (at_builtin; refine wpList_append_rd _ rfl _ _ 22 rfl (g + 1) 5 i0 _ 1 Tryd.underlying22 hi0 hz0 hz1 hz2 rfl A2 k c2 _ rfl (Own.fresh HO.out (Fresh.alloc _ _)) (wr.heap.size + 1) (some ⟨wr.heap.size, 0, none⟩) 1 1 [.int .u8 (r : Nat)] rfl (Rd.lit wr #[.int .u8 (r : Nat)] 5) (one_one _ _) (by unfold maxLen; omega) (by omega) (by have := HB.out.inside; simp; omega) ?_; intro A3 c3 w3 hown3 hg3; have hne3 := Own.ne_block (Own.fresh HO.out (Fresh.alloc wr (.cells #[.int .u8 (r : Nat)] 5))) (HB.out.alloc (.cells #[.int .u8 (r : Nat)] 5)) (by decide); have hb5 := (HB.out.alloc (.cells #[.int .u8 (r : Nat)] 5)).grown hg3 hne3; have k3 := hb5.cell (i := 0) rfl; have f3 := hb5.free 0; have HB5 := Lib.hid hb5; have HO3 := Lib.hid hown3; have HG3 := Lib.hid hg3; clear hb5 hown3 hg3 hne3)
          have q1 := HB5.out.put 0 (.slice A3 (k + 1) c3)
          have hln : ((rs.take k).map bR9).map bv ++ [Value.int .u8 (r : Nat)] = ((rs.take (k + 1)).map bR9).map bv := by
            rw [take_snoc _ _ _ HRK.out, List.map_append, List.map_append, bR9_is HPB.out]; rfl
          have q2 : Own (w3.setCell ⟨g, 0, none⟩ (.slice A3 (k + 1) c3)) (g + 1) 5 A3 (k + 1) c3 (((rs.take (k + 1)).map bR9).map bv) := by
            have h1 := Own.but HO3.out (But.put (g := g) (i := 0) w3 (.slice A3 (k + 1) c3)) (Own.ne_block HO3.out HB5.out (by decide))
            rwa [hln] at h1
          have q3 : Fresh w2 (w3.setCell ⟨g, 0, none⟩ (.slice A3 (k + 1) c3)) := by
            have h2 : Fresh w2 w3 := Fresh.append (HF.out.trans (Fresh.alloc _ _)) (Own.fresh HO.out (Fresh.alloc _ _)) (by rw [HG.out]; omega) HG3.out
            exact h2.but (by rw [HG.out]; exact Nat.le_refl _) (But.put _ _)
          have q4 : Hid ((rs.take (k + 1)).all hasB = true) := by show _ = _; rw [take_snoc _ _ _ HRK.out, List.all_append, hall.out]; simp [hasB, HPB.out]
          exact ⟨⟨k + 1, c3, A3, by omega, by go_num, q4, q1, q2, q3⟩, by simp [intOf]; omega⟩
        · obtain ⟨N0, hN0⟩ : ∃ N0 : Nat, N0 = 128 := ⟨_, rfl⟩
          have hr128 : 128 ≤ r := by omega
          have t1 : decide ((r : Int) ≥ 128) = true := by rw [decide_eq_true_iff]; omega
          have t2 : decide (128 ≤ (r : Int)) = true := by rw [decide_eq_true_iff]; omega
          have HPW := Lib.hid hpw
          have HZC := Lib.hid (cK_zero hr128)
          clear hb hown hfr hr hbl hpw h128 hrr hN0 N0
          go_wp2
          go_loopw [7, 8] (fun vc vk wq => ∃ (q j : Nat), j ≤ 128 ∧ vk = .int .i64 j ∧ vc = .int .i64 (cK r j) ∧ wq = wr.drewN q) (fun _ vk _ => 128 - (intOf vk).toNat)
          case atStart => exact ⟨0, 0, by omega, rfl, by rw [HZC.out], rfl⟩
          case round =>
            obtain ⟨q, j, hj, rfl, rfl, rfl⟩ := hrel
            by_cases hj128 : j < 128
            · obtain ⟨pb, po, hPA, hpb, hpc⟩ := page_at HPW.out hj128
              subst hPA
              obtain ⟨R, hR⟩ : ∃ R, pageR (128 + j) = R := ⟨_, rfl⟩
              rw [hR] at hpc
              have tj : decide ((j : Int) < 128) = true := by rw [decide_eq_true_iff]; omega
              have hjb : j ≤ 127 := by omega
              have hcb := cK_bd r j
              by_cases heq : R = r
              · have hnew := cK_hit hj128 (hR.trans heq)
                have HNEW := Lib.hid hnew
                have te : ((R : Int) == (r : Int)) = true := by rw [beq_iff_eq, heq]
                have HEQ := Lib.hid heq
                clear hnew heq hj128 hR hcb
                go_wp2
                go_quiet (fail)
                go_wp2
                exact ⟨⟨_, j + 1, by omega, by go_num, by rw [HNEW.out], rfl⟩, by simp [intOf]; omega⟩
              · have hnew := cK_miss hj128 (fun h => heq (hR.symm.trans h))
                have HNEW := Lib.hid hnew
                have te : ((R : Int) == (r : Int)) = false := by rw [beq_eq_false_iff_ne]; omega
                clear hnew heq hj128 hR hcb
                go_wp2
                go_quiet (fail)
                go_wp2
                exact ⟨⟨_, j + 1, by omega, by go_num, by rw [HNEW.out], rfl⟩, by simp [intOf]; omega⟩
            · obtain rfl : j = 128 := by omega
              have hce := cK_end (r := r)
              obtain ⟨V, hV⟩ : ∃ V, wr.drewN q = V := ⟨_, rfl⟩
              have hbV : Bk V g tName [.slice A2 k c2, .bool false] := by rw [← hV]; exact HB.out.fresh (Fresh.drewN _ _)
              have hoV : Own V (g + 1) 5 A2 k c2 (((rs.take k).map bR9).map bv) := by rw [← hV]; exact HO.out.fresh (Fresh.drewN _ _)
              have hfV : Fresh w2 V := by rw [← hV]; exact HF.out.trans (Fresh.drewN _ _)
              rw [hV]
              have x0 := hbV.cell (i := 0) rfl
              have HBq := Lib.hid hbV
              have HOq := Lib.hid hoV
              have HFq := Lib.hid hfV
              clear hbV hoV hfV hV hj128 hj
              cases hpb : pageB r with
              | none =>
                rw [hpb] at hce
                simp only at hce
                have HPB := Lib.hid hpb
                rw [hce]
                have hzq := HZ2.out.fresh HFq.out
                have HZQ := Lib.hid hzq
                clear hpb hce hzq
                go_wp2_with ((with_reducible refine at_store_ 2 53 ?_); refine wpList_store_blk rfl _ _ _ rfl w.heap.size 0 tName _ [.slice A n c, .bool true] rfl rfl HZQ.out (by simp) (by intro v hv; simp at hv; rcases hv with rfl | rfl <;> rfl) (by kernel_rfl) ?_; intro w5 hb3 hbut2)
                have hb4 : w5.heap[w.heap.size]? = some (.cells #[.slice A n c, .bool true] tName (0, 0)) := hb3
                refine bodyPost_ret (results_cell_row (p := 2) (by kernel_rfl) _ _ w.heap.size tName #[.slice A n c, .bool true] (0, 0) _ rfl hb4 Tryd.underlying28 rfl (by kernel_rfl)) rfl ?_
                have hff2 : Fresh w w5 := Fresh.but (Fresh.trans HFF.out HFq.out) (Nat.le_refl _) hbut2
                have hnb : rs.all hasB = false := by
                  rw [← Bool.not_eq_true, List.all_eq_true]
                  intro h
                  have := h r (List.mem_of_getElem? HRK.out)
                  rw [hasB, HPB.out] at this
                  cases this
                have hb9 : encB rs u = bs := by rw [encB, if_neg (fun h => by rw [hnb] at h; cases h.2), HT.out]
                have he9 : encT rs u = true := by rw [encT, hnb]; simp
                have hfin : NameIs (encB rs u) (encT rs u) w (.returned (.agg #[.slice A n c, .bool true])) w5 := by
                  rw [hb9, he9]
                  exact ⟨A, n, c, rfl, HL.out.symm, hff2, Rd.far HR.out hB hff2⟩
                exact hfin
              | some b9 =>
                rw [hpb] at hce
                simp only at hce
                have HPB := Lib.hid hpb
                have hb256 := (pageB_some hpb).1
                have e8 : IntKind.u8.wrap (b9 : Int) = (b9 : Int) := w8 _ b9 rfl hb256
                have t3 : decide ((b9 : Int) < 0) = false := by rw [decide_eq_false_iff_not]; omega
                rw [hce]
                clear hpb hce hb256
                go_wp2_with (at_builtin; refine wpList_append_rd _ rfl _ _ 22 rfl (g + 1) 5 i0 _ 1 Tryd.underlying22 hi0 hz0 hz1 hz2 rfl A2 k c2 _ rfl (Own.fresh HOq.out (Fresh.alloc _ _)) (V.heap.size + 1) (some ⟨V.heap.size, 0, none⟩) 1 1 [.int .u8 (b9 : Nat)] rfl (Rd.lit V #[.int .u8 (b9 : Nat)] 5) (one_one _ _) (by unfold maxLen; omega) (by omega) (by have := HBq.out.inside; simp; omega) ?_; intro A3 c3 w3 hown3 hg3; have hne3 := Own.ne_block (Own.fresh HOq.out (Fresh.alloc V (.cells #[.int .u8 (b9 : Nat)] 5))) (HBq.out.alloc (.cells #[.int .u8 (b9 : Nat)] 5)) (by decide); have hb5 := (HBq.out.alloc (.cells #[.int .u8 (b9 : Nat)] 5)).grown hg3 hne3; have k3 := hb5.cell (i := 0) rfl; have f3 := hb5.free 0; have HB5 := Lib.hid hb5; have HO3 := Lib.hid hown3; have HG3 := Lib.hid hg3; clear hb5 hown3 hg3 hne3)
                have q1 := HB5.out.put 0 (.slice A3 (k + 1) c3)
                have hln : ((rs.take k).map bR9).map bv ++ [Value.int .u8 (b9 : Nat)] = ((rs.take (k + 1)).map bR9).map bv := by
                  rw [take_snoc _ _ _ HRK.out, List.map_append, List.map_append, bR9_is HPB.out]; rfl
                have q2 : Own (w3.setCell ⟨g, 0, none⟩ (.slice A3 (k + 1) c3)) (g + 1) 5 A3 (k + 1) c3 (((rs.take (k + 1)).map bR9).map bv) := by
                  have h1 := Own.but HO3.out (But.put (g := g) (i := 0) w3 (.slice A3 (k + 1) c3)) (Own.ne_block HO3.out HB5.out (by decide))
                  rwa [hln] at h1
                have q3 : Fresh w2 (w3.setCell ⟨g, 0, none⟩ (.slice A3 (k + 1) c3)) := by
                  have h2 : Fresh w2 w3 := Fresh.append (HFq.out.trans (Fresh.alloc _ _)) (Own.fresh HOq.out (Fresh.alloc _ _)) (by rw [HG.out]; omega) HG3.out
                  exact h2.but (by rw [HG.out]; exact Nat.le_refl _) (But.put _ _)
                have q4 : Hid ((rs.take (k + 1)).all hasB = true) := by show _ = _; rw [take_snoc _ _ _ HRK.out, List.all_append, hall.out]; simp [hasB, HPB.out]
                exact ⟨⟨k + 1, c3, A3, by omega, by go_num, q4, q1, q2, q3⟩, by simp [intOf]; omega⟩
      · obtain rfl : k = m := by omega
        have HB := Lib.hid hb
        have HO := Lib.hid hown
        have HF := Lib.hid hfr
        have hz := HZ2.out.fresh hfr
        have HZ := Lib.hid hz
        clear hb hown hfr hz hbl
        go_wp2_with (first
          | ((with_reducible refine at_slot_ 61 ?_); refine wpList_load_blk rfl tName _ rfl g 0 2 tName [.slice A2 k c2, .bool false] rfl HB.out (by simp) _ Tryd.underlying28 rfl (by kernel_rfl) ?_)
          | ((with_reducible refine at_store_ 2 61 ?_); refine wpList_store_blk rfl _ _ _ rfl w.heap.size 0 tName _ [.slice A2 k c2, .bool false] rfl rfl HZ.out (by simp) (by intro v hv; simp at hv; rcases hv with rfl | rfl <;> rfl) (by kernel_rfl) ?_; intro w5 hb3 hbut2))
        have hb4 : w5.heap[w.heap.size]? = some (.cells #[.slice A2 k c2, .bool false] tName (0, 0)) := hb3
        refine bodyPost_ret (results_cell_row (p := 2) (by kernel_rfl) _ _ w.heap.size tName #[.slice A2 k c2, .bool false] (0, 0) _ rfl hb4 Tryd.underlying28 rfl (by kernel_rfl)) rfl ?_
        have hob := HO.out.but hbut2 (Own.ne_block HO.out HZ.out (by decide))
        have hal := hall.out
        rw [List.take_of_length_le (Nat.le_of_eq HML.out.symm)] at hob hal
        have hff2 : Fresh w w5 := Fresh.but (Fresh.trans HFF.out HF.out) (Nat.le_refl _) hbut2
        have hb9 : encB rs u = rs.map bR9 := by rw [encB, if_pos ⟨HU.out, hal⟩]
        have he9 : encT rs u = false := by rw [encT, HU.out, hal]; rfl
        have hfin : NameIs (encB rs u) (encT rs u) w (.returned (.agg #[.slice A2 k c2, .bool false])) w5 := by
          rw [hb9, he9]
          exact ⟨A2, k, c2, rfl, by rw [List.length_map]; exact HML.out, hff2, hob.rd⟩
        exact hfin
  · have HU := Lib.hid hu
    clear hu
    have hb : encB rs u = bs := by rw [encB, if_neg (fun h => HU.out.1 h.1), HT.out]
    have he : encT rs u = true := by rw [encT, decide_eq_false HU.out.1]; rfl
    rw [hb, he]
    clear hb he
    go_enter Tryd.func11, Tryd.ntmps11
    go_wp2_with (first
      | (go_at_call 15; (refine (HRD.out _ HR1.out (by simp; omega) hn hc HCM.out).mono ?_); rintro e w1 ⟨LA, m, lc, rfl, hf1, hm1, hrest⟩; (rw [decide_eq_false HU.out.1]); have HFR := Lib.hid hf1; have hbz := (HB1.out.fresh hf1).alloc (.cells #[.slice LA m lc, .bool false] tRunes); have HBZ := Lib.hid hbz; have k1 := (Bk.made w1 tRunes #[.slice LA m lc, .bool false]).cell (i := 1) rfl; clear hf1 hbz hrest)
      | ((with_reducible refine at_store_ 2 15 ?_); refine wpList_store_blk rfl _ _ _ rfl w.heap.size 0 tName _ [.slice A n c, .bool true] rfl rfl HBZ.out (by simp) (by intro v hv; simp at hv; rcases hv with rfl | rfl <;> rfl) (by kernel_rfl) ?_; intro w2 hb3 hbut2))
    have hb4 : w2.heap[w.heap.size]? = some (.cells #[.slice A n c, .bool true] tName (0, 0)) := hb3
    refine bodyPost_ret (results_cell_row (p := 2) (by kernel_rfl) _ _ w.heap.size tName #[.slice A n c, .bool true] (0, 0) _ rfl hb4 Tryd.underlying28 rfl (by kernel_rfl)) rfl ?_
    have hff : Fresh w w2 := Fresh.but ((Fresh.trans HF1.out HFR.out).trans (Fresh.alloc _ _)) (Nat.le_refl _) hbut2
    have hfin : NameIs bs true w (.returned (.agg #[.slice A n c, .bool true])) w2 := ⟨A, n, c, rfl, HL.out.symm, hff, Rd.far HR.out hB hff⟩
    exact hfin
end Go.Proofs.YtaldbcfgfcdlhaaDoor.namp
