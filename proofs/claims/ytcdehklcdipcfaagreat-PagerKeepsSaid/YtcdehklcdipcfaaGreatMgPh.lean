import Derived.Test.YtcdehklcdipcfaaGreatPgrNum
import Derived.Test.YtcdehklcdipcfaaGreatPagOpen
import Derived.Lib.SmallJoins
import Derived.Deep.DeepCutAuto
import Derived.BigQuiet
import Derived.Deep.RegionWith
import Derived.Deep.MidRow
/- Several of my own texts, one behind the other. -/
/-
  pager's small functions of blocks and of what page 0 tells. My own text.
-/
namespace Go.Proofs.YtcdehklcdipcfaaGreat.pgrp
open Go.RowKit Go.Proofs.YtcdehklcdipcfaaGreat.base Go.Proofs.YtcdehklcdipcfaaGreat.num Go.Proofs.YtcdehklcdipcfaaGreat.word Go.Proofs.YtcdehklcdipcfaaGreat.pagn Go.Proofs.YtcdehklcdipcfaaGreat.pgr Go.Proofs.YtcdehklcdipcfaaGreat.pagp
set_option linter.unusedVariables false

abbrev tBlk : TypeId := 92
abbrev tHd : TypeId := 71
def zb : Bs := List.replicate 508 0
def blkV (b : Bs) : Value := .agg (b.map bv).toArray
def hdV (h : Hd) : Value := .agg (h.nums.map iv).toArray
theorem blkZero (w : World) : (zeroValue tBlk).run Tryz.prog w = .ok (blkV zb) w := by kernel_rfl
theorem hdZero (w : World) : (zeroValue tHd).run Tryz.prog w = .ok (hdV hd0) w := by kernel_rfl
theorem size_blk : (Tryz.prog.info? tBlk).map (·.size) = some 508 := by kernel_rfl
theorem size_hd : (Tryz.prog.info? tHd).map (·.size) = some 10 := by kernel_rfl

theorem hasRoot_any (h : Hd) (k : Int) (w : World) :
    Calls Tryz.prog 58 #[hdV h, .int .i64 k] w fun e w' => e = .returned (.bool (decide (0 ≤ k ∧ k < 8))) ∧ Fresh w w' := by
  unfold hdV
  generalize (h.nums.map iv).toArray = X at *
  by_cases h0 : 0 ≤ k
  · by_cases h1 : k < 8
    · rw [decide_eq_true ⟨h0, h1⟩]
      go_enter Tryz.func58, Tryz.ntmps58
      go_wp2
      go_ret
      exact ⟨rfl, Fresh.alloc _ _⟩
    · rw [decide_eq_false (fun h => h1 h.2)]
      go_enter Tryz.func58, Tryz.ntmps58
      go_wp2
      go_ret
      exact ⟨rfl, Fresh.alloc _ _⟩
  · rw [decide_eq_false (fun h => h0 h.1)]
    go_enter Tryz.func58, Tryz.ntmps58
    go_wp2
    go_ret
    exact ⟨rfl, Fresh.alloc _ _⟩
theorem has_any (h : Hd) (no : Int) (w : World) :
    Calls Tryz.prog 54 #[hdV h, .int .i64 no] w fun e w' => e = .returned (.bool (decide (0 ≤ no ∧ no < h.many))) ∧ Fresh w w' := by
  have hb := Bk.made w tHd (h.nums.map iv).toArray
  rw [List.toList_toArray] at hb
  have hc := hb.cell (i := 0) (v := .int .i64 h.many) rfl
  unfold hdV
  generalize (h.nums.map iv).toArray = X at *
  clear hb
  by_cases h0 : 0 ≤ no
  · by_cases h1 : no < (h.many : Int)
    · rw [decide_eq_true ⟨h0, h1⟩]
      go_enter Tryz.func54, Tryz.ntmps54
      go_wp2
      go_ret
      exact ⟨rfl, Fresh.alloc _ _⟩
    · rw [decide_eq_false (fun h => h1 h.2)]
      go_enter Tryz.func54, Tryz.ntmps54
      go_wp2
      go_ret
      exact ⟨rfl, Fresh.alloc _ _⟩
  · rw [decide_eq_false (fun h => h0 h.1)]
    go_enter Tryz.func54, Tryz.ntmps54
    go_wp2
    go_ret
    exact ⟨rfl, Fresh.alloc _ _⟩
set_option maxRecDepth 100000 in
theorem blockOf_any (A : Option Addr) (n c : Nat) (bs : Bs) (w : World) (hr : Rd w w.heap.size A n (bs.map bv)) (hn : n ≤ 508) :
    Calls Tryz.prog 55 #[.slice A n c] w fun e w' => e = .returned (blkV (fill bs)) ∧ Fresh w w' := by
  have hl : bs.length = n := by have := hr.1; rwa [List.length_map] at this
  have hz := blkZero
  have hsp : splice (zb.map bv) 0 (bs.map bv) = (fill bs).map bv := by
    rw [splice, List.take_zero, List.nil_append, List.length_map, fill, List.map_append, Nat.zero_add, hl, ← List.map_drop, zb, List.drop_replicate]
  have hzl : (zb.map bv).length = 508 := by rw [List.length_map]; rfl
  have hfl := fill_length bs (by omega)
  unfold blkV at hz ⊢
  generalize zb.map bv = Z at *
  generalize fill bs = cs at *
  have hb2 : Bk ((w.alloc (.cells Z.toArray tBlk)).alloc (.cells Z.toArray tBlk)) (w.heap.size + 1) tBlk Z := by
    have := Bk.made (w.alloc (.cells Z.toArray tBlk)) tBlk Z.toArray
    rwa [World.size_alloc, List.toList_toArray] at this
  have hr2 : Rd ((w.alloc (.cells Z.toArray tBlk)).alloc (.cells Z.toArray tBlk)) w.heap.size A n (bs.map bv) := (hr.alloc (Nat.le_refl _) _).alloc (by simp) _
  have hbV : Bk (w.alloc (.cells Z.toArray tBlk)) w.heap.size tBlk Z := by have := Bk.made w tBlk Z.toArray; rwa [List.toList_toArray] at this
  have hbe : Below (w.heap.size + 1) (w.alloc (.cells Z.toArray tBlk)) ((w.alloc (.cells Z.toArray tBlk)).alloc (.cells Z.toArray tBlk)) := by
    have := Fresh.alloc (w.alloc (.cells Z.toArray tBlk)) (.cells Z.toArray tBlk)
    rwa [Fresh, World.size_alloc] at this
  have HBV := Lib.hid hbV
  have HBE := Lib.hid hbe
  clear hbV hbe
  have HB2 := Lib.hid hb2
  have HR2 := Lib.hid hr2
  have hs4 : splice Z 0 (cs.map bv) = cs.map bv := by
    rw [splice, List.take_zero, List.nil_append, List.drop_of_length_le (by rw [List.length_map]; omega), List.append_nil]
  have HS4 := Lib.hid hs4
  clear hs4
  have HSP := Lib.hid hsp
  have HZL := Lib.hid hzl
  have HL := Lib.hid hl
  have HFL := Lib.hid hfl
  clear hsp hzl hl hfl hb2 hr2 hr
  go_enter Tryz.func55, Tryz.ntmps55
  go_wp2_with (first
    | ((with_reducible refine at_slot_ 6 ?_); refine wpList_copy_splice rfl (.tmp 4) (.tmp 5) 32 32 rfl 5 Tryz.underlying32 size_byte (some ⟨w.heap.size + 1, 0, none⟩) A 508 508 n c rfl rfl (w.heap.size + 1) 0 Z tBlk HB2.out (bs.map bv) (by rw [List.length_map, HL.out]; exact (Nat.min_eq_left (by omega)).symm) (fun hp => ⟨rfl, Rd.src' HR2.out (by rw [List.length_map, HL.out] at hp; exact hp)⟩) (by rw [List.length_map, HL.out, HZL.out]; omega) (bv_ones _) (w.heap.size + 1) (w.alloc (.cells Z.toArray tBlk)) HBE.out (Nat.le_refl _) ?_; intro w2 hg2 hf2; rw [HSP.out] at hg2; have HF2 := Lib.hid hf2; clear hf2)
    | ((with_reducible refine at_slot_ 7 ?_); refine wpList_load_row (o := ⟨some 7, _, _, _, _, _⟩) rfl tBlk (.tmp 3) rfl (w.heap.size + 1) rfl tBlk (cs.map bv).toArray (0, 0) _ hg2.out Tryz.underlying92 rfl (by rw [size_blk, List.size_toArray, List.length_map, HFL.out]) ?_)
    | ((with_reducible refine at_store_ 2 7 ?_); refine wpList_store_blk rfl tBlk (.tmp 2) (.tmp 7) rfl w.heap.size 0 tBlk Z (cs.map bv) rfl rfl (HBV.out.below HF2.out (by omega)) (by rw [List.length_map, HFL.out, HZL.out]; omega) (bv_ones _) (by rw [size_blk, List.length_map, HFL.out]) ?_; intro w3 hg3 hb3; rw [HS4.out] at hg3))
  exact bodyPost_ret (results_cell_row (p := 2) (by kernel_rfl) _ _ w.heap.size tBlk (cs.map bv).toArray (0, 0) _ rfl hg3 Tryz.underlying92 rfl (by rw [size_blk, List.size_toArray, List.length_map, HFL.out])) rfl ⟨rfl, ((Fresh.alloc w (.cells Z.toArray tBlk)).trans (HF2.out.mono (by rw [World.size_alloc]; exact Nat.le_refl _))).but (Nat.le_refl _) hb3⟩
theorem wide4 : word.wide 4 = 4 := by decide
theorem number_any (b : Bs) (hb : b.length = 508) (i : Nat) (hi : i ≤ 126) (w : World) :
    Calls Tryz.prog 111 #[blkV b, .int .i64 i] w fun e w' => e = .returned (.int .i64 (numAt b i : Nat)) ∧ Fresh w w' := by
  have hm := Bk.made w tBlk (b.map bv).toArray
  rw [List.toList_toArray] at hm
  have hrd := bk_rd' hm hb
  have hg := word.get_ok (some ⟨w.heap.size, 0, none⟩) 508 508 b (4 * i) 4 _ _ hrd (Nat.le_refl _) (by unfold maxLen; omega) (by rw [wide4]; omega)
  rw [wide4] at hg
  have e : ((4 * i : Nat) : Int) = 4 * (i : Int) := by omega
  rw [e] at hg
  unfold blkV numAt
  have HG := Lib.hid hg
  clear hg hrd hm hb
  go_enter Tryz.func111, Tryz.ntmps111
  go_wp2_with (go_at_call 140; refine HG.out.mono ?_; rintro e w' ⟨rfl, rfl⟩)
  go_ret
  exact ⟨rfl, Fresh.alloc _ _⟩
theorem bk_rdv {w : World} {g : Nat} {t : TypeId} {xs : List Value} (h : Bk w g t xs) (off n : Nat) (hn : off + n ≤ xs.length) : Rd w (g + 1) (some ⟨g, off, none⟩) n ((xs.drop off).take n) := by
  refine ⟨by rw [List.length_take, List.length_drop]; omega, fun _ => ⟨g, off, rfl, by omega, fun j u hu => h.cell ?_⟩⟩
  rw [List.getElem?_take] at hu
  split at hu
  · rwa [List.getElem?_drop] at hu
  · cases hu
theorem nums_wf {h : Hd} (k : h.Ok) : ∀ z ∈ h.nums, (Lit.int .i64 z).wf = true := by
  intro z hz
  have hb : 0 ≤ z ∧ z ≤ 65536 := by
    unfold Hd.nums at hz
    rcases List.mem_cons.1 hz with rfl | hz
    · have := k.many; omega
    · rcases List.mem_cons.1 hz with rfl | hz
      · have := k.first; omega
      · obtain ⟨r, hr, rfl⟩ := List.mem_map.1 hz
        have := k.roots r hr; omega
  exact WalkArith.wf_i64 ⟨by omega, by omega⟩
theorem puts_app (a b : List Int) : puts 4 (a ++ b) = puts 4 a ++ puts 4 b := List.flatMap_append ..
set_option maxRecDepth 100000 in
theorem head_block_any (h : Hd) (hk : h.Ok) (w : World) :
    Calls Tryz.prog 74 #[hdV h] w fun e w' => e = .returned (blkV (hdB h)) ∧ Fresh w w' := by
  have hz := blkZero
  have hzl : (zb.map bv).length = 508 := by rw [List.length_map]; rfl
  have hn := nums_wf hk
  have hnl := Hd.nums_len hk.eight
  obtain ⟨rs, hrs⟩ : ∃ rs, h.roots.map (fun (r : Nat) => (r : Int)) = rs := ⟨_, rfl⟩
  have hnums : h.nums = [(h.many : Int), (h.first : Int)] ++ rs := by rw [← hrs]; rfl
  have hhl := hdB_len hk.eight
  have hB : hdB h = fill ((mk4p ++ puts 4 [(h.many : Int), (h.first : Int)]) ++ puts 4 rs) := by unfold hdB; rw [hnums, puts_app, List.append_assoc]
  have hm := Bk.made w tHd (h.nums.map iv).toArray
  rw [List.toList_toArray] at hm
  have hx0 : (h.nums.map iv).toArray[0]? = some (.int .i64 h.many) := by rw [List.getElem?_toArray]; rfl
  have hx1 : (h.nums.map iv).toArray[1]? = some (.int .i64 h.first) := by rw [List.getElem?_toArray]; rfl
  have hrl : rs.length = 8 := by rw [← hrs, List.length_map, hk.eight]
  have hrd := bk_rdv hm 2 8 (by rw [List.length_map, hnl]; omega)
  have hrr : ((h.nums.map iv).drop 2).take 8 = rs.map iv := by
    rw [hnums, List.map_append, List.drop_left' (by rfl), List.take_of_length_le (by rw [List.length_map, hrl]; omega)]
  rw [hrr] at hrd
  have hw1 : ∀ z ∈ [(h.many : Int), (h.first : Int)], (Lit.int .i64 z).wf = true := fun z hz => hn z (by rw [hnums]; exact List.mem_append_left _ hz)
  have hw2 : ∀ z ∈ rs, (Lit.int .i64 z).wf = true := fun z hz => hn z (by rw [hnums]; exact List.mem_append_right _ hz)
  have hl1 : (mk4p ++ puts 4 [(h.many : Int), (h.first : Int)]).length = 12 := by rw [List.length_append, puts_len]; rfl
  have hl2 : ((mk4p ++ puts 4 [(h.many : Int), (h.first : Int)]) ++ puts 4 rs).length = 44 := by rw [List.length_append, hl1, puts_len, hrl]
  unfold hdV blkV
  unfold blkV at hz
  generalize (h.nums.map iv).toArray = X at *
  rw [hB]
  rw [hB] at hhl
  generalize zb.map bv = Z at *
  obtain ⟨p1, hp1⟩ : ∃ p1, mk4p ++ puts 4 [(h.many : Int), (h.first : Int)] = p1 := ⟨_, rfl⟩
  rw [hp1] at hl1 hl2 hhl ⊢
  obtain ⟨p2, hp2⟩ : ∃ p2, p1 ++ puts 4 rs = p2 := ⟨_, rfl⟩
  rw [hp2] at hl2 hhl ⊢
  have hcv := Joins.run_convert_bytes_const_at (P := Tryz.prog) ((w.alloc (.cells X tHd)).alloc (.cells Z.toArray tBlk)) 32 5 #[.int .u8 105, .int .u8 113, .int .u8 100, .int .u8 98] 4 4 (w.heap.size + 2) (by simp) Tryz.underlying32 Tryz.underlying5
  obtain ⟨W2, hW2⟩ : ∃ W2, (w.alloc (.cells X tHd)).alloc (.cells Z.toArray tBlk) = W2 := ⟨_, rfl⟩
  have hs2 : W2.heap.size = w.heap.size + 2 := by rw [← hW2]; simp
  have hr1 := Rd.mark W2 #[Value.int .u8 105, .int .u8 113, .int .u8 100, .int .u8 98] 5 (4, 5)
  rw [hs2] at hr1
  obtain ⟨W3, hW3⟩ : ∃ W3, W2.alloc (.cells #[Value.int .u8 105, .int .u8 113, .int .u8 100, .int .u8 98] 5 (4, 5)) = W3 := ⟨_, rfl⟩
  have hs3 : W3.heap.size = w.heap.size + 3 := by rw [← hW3, World.size_alloc, hs2]
  rw [hW3] at hr1
  have hr2 := Rd.lit W3 #[Value.int .i64 h.many, .int .i64 h.first] 3
  rw [hs3] at hr2
  obtain ⟨W4, hW4⟩ : ∃ W4, W3.alloc (.cells #[Value.int .i64 h.many, .int .i64 h.first] 3) = W4 := ⟨_, rfl⟩
  have hf3 : Fresh w W3 := by rw [← hW3, ← hW2]; exact ((Fresh.alloc _ _).trans (Fresh.alloc _ _)).trans (Fresh.alloc _ _)
  have hr1' : Rd W4 (w.heap.size + 3) (some ⟨w.heap.size + 2, 0, none⟩) 4 (mk4p.map bv) := by rw [← hW4]; exact hr1.alloc (by omega) _
  rw [hW4] at hr2
  have hf4 : Fresh w W4 := by rw [← hW4]; exact hf3.trans (Fresh.alloc _ _)
  have hs4 : W4.heap.size = w.heap.size + 4 := by rw [← hW4, World.size_alloc, hs3]
  have hrd4 : Rd W4 (w.heap.size + 1) (some ⟨w.heap.size, 2, none⟩) 8 (rs.map iv) := by
    rw [← hW4, ← hW3, ← hW2]
    exact (((hrd.alloc (by simp) _).alloc (by simp) _).alloc (by simp) _)
  have hbz : Bk W4 (w.heap.size + 1) tBlk Z := by
    have := Bk.made (w.alloc (.cells X tHd)) tBlk Z.toArray
    rw [World.size_alloc, List.toList_toArray] at this
    rw [← hW4, ← hW3, ← hW2]
    exact (this.alloc _).alloc _
  have pu1 := word.put_is (some ⟨w.heap.size + 2, 0, none⟩) 4 4 mk4p 4 (some ⟨w.heap.size + 3, 0, none⟩) 2 2 [(h.many : Int), (h.first : Int)] W4 _ _ 12 p1 hr1' (by omega) hr2 (by omega) hw1 (by omega) (by omega) (by rw [wide4]) (by rw [wide4]; exact hp1)
  have pu2 := fun (W : World) (A : Option Addr) (c : Nat) (hA : Rd W W.heap.size A 12 (p1.map bv)) (hf : Fresh W4 W) => word.put_is A 12 c p1 4 (some ⟨w.heap.size, 2, none⟩) 8 8 rs W _ _ 44 p2 hA (Nat.le_refl _) (hrd4.below hf (by omega)) (by have := hf.size; omega) hw2 (by omega) (by omega) (by rw [wide4]) (by rw [wide4]; exact hp2)
  have bo := fun (W : World) (A : Option Addr) (c : Nat) (hA : Rd W W.heap.size A 44 (p2.map bv)) => blockOf_any A 44 c p2 W hA (by omega)
  have hsp : splice Z 0 ((fill p2).map bv) = (fill p2).map bv := by
    rw [splice, List.take_zero, List.nil_append, List.drop_of_length_le (by rw [List.length_map, hhl, hzl]; omega), List.append_nil]
  have hfl : ((fill p2).map bv).length = 508 := by rw [List.length_map, hhl]
  have hone : ∀ v ∈ (fill p2).map bv, v.oneCell' = true := bv_ones _
  unfold blkV at bo
  generalize (fill p2).map bv = F at *
  have HP1 := Lib.hid pu1
  have HP2 := Lib.hid pu2
  have HBO := Lib.hid bo
  have HF4 := Lib.hid hf4
  have HS4 := Lib.hid hs4
  have HBZ := Lib.hid hbz
  have HSP := Lib.hid hsp
  have HFL := Lib.hid hfl
  have HZL := Lib.hid hzl
  have HW4 : Hid (((w.alloc (.cells X tHd)).alloc (.cells Z.toArray tBlk)).alloc (.cells #[Value.int .u8 105, .int .u8 113, .int .u8 100, .int .u8 98] 5 (4, 5)) = W3) := by rw [hW2]; exact Lib.hid hW3
  have HW5 := Lib.hid hW4
  have HONE := Lib.hid hone
  clear hrr hrd hw1 hw2 hp1 hp2 hhl hzl hm hl1 hl2 hB hnums hrs hrl hnl hn hk pu1 pu2 bo hf4 hs4 hbz hsp hfl hW2 hW3 hW4 hs2 hs3 hr1 hr1' hr2 hf3 hrd4 hone
  go_enter Tryz.func74, Tryz.ntmps74
  go_wp2_with (first
    | (go_at_call 57; rw [HW4.out, HW5.out]; refine HP1.out.mono ?_; rintro e w5 ⟨A5, c5, rfl, hf5, ho5⟩; have HF5 := Lib.hid hf5; have HO5 := Lib.hid ho5; clear hf5 ho5 hcv)
    | (go_at_call 57; refine (HP2.out _ _ _ HO5.out.rd HF5.out).mono ?_; rintro e w6 ⟨A6, c6, rfl, hf6, ho6⟩; have HF6 := Lib.hid hf6; have HO6 := Lib.hid ho6; clear hf6 ho6)
    | (go_at_call 55; refine (HBO.out _ _ _ HO6.out.rd).mono ?_; rintro e w7 ⟨rfl, hf7⟩; have HF7 := Lib.hid ((HF5.out.trans HF6.out).trans hf7); clear hf7)
    | ((with_reducible refine at_store_ 2 16 ?_); refine wpList_store_blk rfl tBlk (.tmp 2) (.tmp 16) rfl (w.heap.size + 1) 0 tBlk Z F rfl rfl (HBZ.out.fresh HF7.out) (by rw [HFL.out, HZL.out]; omega) HONE.out (by rw [size_blk, HFL.out]) ?_; intro w8 hg8 hb8; rw [HSP.out] at hg8))
  exact bodyPost_ret (results_cell_row (p := 2) (by kernel_rfl) _ _ (w.heap.size + 1) tBlk F.toArray (0, 0) _ rfl hg8 Tryz.underlying92 rfl (by rw [size_blk, List.size_toArray, HFL.out])) rfl ⟨rfl, (HF4.out.trans HF7.out).but (by omega) hb8⟩
end Go.Proofs.YtcdehklcdipcfaaGreat.pgrp
/-
  pager's headOf, head.right; blocks that are compared. My own text.
-/
namespace Go.Proofs.YtcdehklcdipcfaaGreat.pgrp
open Go.RowKit Go.Proofs.YtcdehklcdipcfaaGreat.base Go.Proofs.YtcdehklcdipcfaaGreat.num Go.Proofs.YtcdehklcdipcfaaGreat.word Go.Proofs.YtcdehklcdipcfaaGreat.pagn Go.Proofs.YtcdehklcdipcfaaGreat.pgr Go.Proofs.YtcdehklcdipcfaaGreat.pagp
set_option linter.unusedVariables false

theorem any_load {P : Program} {ops : Array Oper} {o : Oper} {a : Act} {w : World} {K : Act → World → Prop} {Q : Exit → Act → World → Prop} {E : Prop} (hgd : o.guard = none) (ty : TypeId) (x : Operand) (ho : o.op = .load ty x)
    (g : Nat) (hx : a.eval x = .pointer (some ⟨g, 0, none⟩)) (t : TypeId) (cs : List Value) (d : TypeDesc) (hg : Bk w g t cs)
    (hu : P.underlying ty = some d) (hd : (match d with | .struct _ | .array _ _ => true | _ => false) = true) (m : Nat) (hi : (P.info? ty).map (·.size) = some m) (hm : cs.length = m)
    (h : K (a.put o.dst (.agg cs.toArray)) w) : if Region.wanted o (yielded ops a.tmps) = true then Oper.wp P o a w K Q else E := by
  have hw : Region.wanted o (yielded ops a.tmps) = true := by simp [Region.wanted, hgd]
  rw [if_pos hw]
  exact wp_load_row ty x ho g hx t cs.toArray (0, 0) d hg hu hd (by rw [hi]; simp [hm]) h
theorem any_store {P : Program} {ops : Array Oper} {o : Oper} {a : Act} {w : World} {K : Act → World → Prop} {Q : Exit → Act → World → Prop} {E : Prop} (hgd : o.guard = none) (ty : TypeId) (x y : Operand) (ho : o.op = .store ty x y)
    (g : Nat) (cs : List Value) (hx : a.eval x = .pointer (some ⟨g, 0, none⟩)) (hy : a.eval y = .agg cs.toArray) (t : TypeId) (old : List Value) (hg : Bk w g t old) (m : Nat) (hi : (P.info? ty).map (·.size) = some m) (hm : cs.length = m) (hmo : old.length = m)
    (h1 : ∀ v ∈ cs, v.oneCell' = true) (h : K (a.put o.dst undef) (w.setRow g cs.toArray)) : if Region.wanted o (yielded ops a.tmps) = true then Oper.wp P o a w K Q else E := by
  have hw : Region.wanted o (yielded ops a.tmps) = true := by simp [Region.wanted, hgd]
  rw [if_pos hw]
  exact wp_store_row ty x y ho g cs.toArray hx hy t old.toArray hg (by rw [hi]; simp [hm]) (by simp [hm, hmo]) (by rw [Array.all_eq_true_iff_forall_mem]; intro v hv; exact h1 v (by simpa using hv)) h
theorem row_at {α : Type} (f : α → Value) (a b z : Value) (rs : List α) (k : Nat) (hk : k < 8) (hl : rs.length = 8) : ([a, b] ++ ((rs.take k).map f ++ List.replicate (8 - k) z))[2 + k]? = some z := by
  rw [List.getElem?_append_right (by simp), List.getElem?_append_right (by simp; omega)]
  simp only [List.length_cons, List.length_nil, List.length_map, List.length_take]
  rw [List.getElem?_replicate, if_pos (by omega)]
theorem row_set {α : Type} (f : α → Value) (a b z : Value) (rs : List α) (k : Nat) (r : α) (hk : k < 8) (hl : rs.length = 8) (hr : rs[k]? = some r) :
    ([a, b] ++ ((rs.take k).map f ++ List.replicate (8 - k) z)).set (2 + k) (f r) = [a, b] ++ ((rs.take (k + 1)).map f ++ List.replicate (8 - (k + 1)) z) := by
  rw [List.set_append_right _ _ (by simp), List.set_append_right _ _ (by simp; omega)]
  congr 1
  rw [take_snoc _ _ _ hr, List.map_append, List.append_assoc]
  congr 1
  obtain ⟨m, hm⟩ : ∃ m, 8 - k = m + 1 := ⟨7 - k, by omega⟩
  rw [hm, List.replicate_succ, show 8 - (k + 1) = m by omega]
  simp only [List.length_cons, List.length_nil, List.length_map, List.length_take]
  rw [show 2 + k - (0 + 1 + 1) - min k rs.length = 0 by omega]
  rfl
theorem ten_one {a b : Int} : ∀ v ∈ [iv a, iv b, iv 0, iv 0, iv 0, iv 0, iv 0, iv 0, iv 0, iv 0], v.oneCell' = true := by
  intro v hv
  simp only [List.mem_cons, List.not_mem_nil, or_false] at hv
  rcases hv with rfl | rfl | rfl | rfl | rfl | rfl | rfl | rfl | rfl | rfl <;> rfl
theorem stored {w W : World} {g3 g : Nat} {X old cs : List Value} {t u : TypeId} (hg : Bk W g3 t old) (hb : Bk W g u X) (hf : Fresh w W) (hlt : w.heap.size ≤ g3) (hgl : g < g3) :
    Bk (W.setRow g3 cs.toArray) g3 t cs ∧ Bk (W.setRow g3 cs.toArray) g u X ∧ Fresh w (W.setRow g3 cs.toArray) := by
  have h1 := But.setRow (g := g3) W cs.toArray
  exact ⟨by simpa using hg.row cs.toArray, hb.old (h1.block _ hb.inside (by intro e; injection e with e; omega)), hf.but hlt h1⟩
set_option maxRecDepth 100000 in
set_option maxHeartbeats 2000000 in
theorem headOf_any (h : Hd) (hk : h.Ok) (w : World) :
    Calls Tryz.prog 96 #[blkV (hdB h)] w fun e w' => e = .returned (hdV h) ∧ Fresh w w' := by
  have hbl := hdB_len hk.eight
  have hn1 := numAt_hdB 0 h.many (nums_many h) (by have := hk.many; omega)
  have hn2 := numAt_hdB 1 h.first (nums_first h) (by have := hk.first; omega)
  have hnr : ∀ k r, h.roots[k]? = some r → numAt (hdB h) (3 + k) = r := fun k r hr => by
    have := numAt_hdB (k + 2) r (nums_root h k r hr) (by have := hk.roots r (List.mem_of_getElem? hr); omega)
    rwa [show k + 2 + 1 = 3 + k by omega] at this
  have hnu := fun i hi W => number_any (hdB h) hbl i hi W
  have hm := Bk.made w tBlk ((hdB h).map bv).toArray
  rw [List.toList_toArray] at hm
  generalize hdB h = b at *
  have hsz : (Tryz.prog.info? tBlk).map (·.size) = some (b.map bv).length := by rw [size_blk, List.length_map, hbl]
  have hu := Tryz.underlying92
  have h1 := fun W => hnu 1 (by omega) W
  have h2 := fun W => hnu 2 (by omega) W
  rw [hn1] at h1
  rw [hn2] at h2
  have H1 := Lib.hid h1
  have H2 := Lib.hid h2
  have HNU := Lib.hid hnu
  have HNR := Lib.hid hnr
  have HBL := Lib.hid hbl
  have HK := Lib.hid hk
  clear h1 h2 hnu hnr hbl hk hn1 hn2
  have hz := hdZero
  unfold hdV hd0 at hz
  simp only [Hd.nums, List.map_cons, List.map_nil] at hz
  have hrg := fun (W : World) (hW : Bk W w.heap.size tBlk (b.map bv)) => Bk.range hW
  have HRG := Lib.hid hrg
  clear hrg
  unfold blkV at *
  have HXL := Lib.hid (show (b.map bv).length = 508 by rw [List.length_map, HBL.out])
  generalize hX : b.map bv = X at *
  go_enter Tryz.func96, Tryz.ntmps96
  go_upto_region 1 with (fail)
  have hk0 : (((w.alloc (.cells X.toArray tBlk)).alloc (.cells #[.int .i64 0, .int .i64 0, .int .i64 0, .int .i64 0, .int .i64 0, .int .i64 0, .int .i64 0, .int .i64 0, .int .i64 0, .int .i64 0] tHd)).drew).rangeAt w.heap.size 0 X := HRG.out _ ((hm.alloc _).fresh (Fresh.drew _))
  have hfW : Fresh w (((w.alloc (.cells X.toArray tBlk)).alloc (.cells #[.int .i64 0, .int .i64 0, .int .i64 0, .int .i64 0, .int .i64 0, .int .i64 0, .int .i64 0, .int .i64 0, .int .i64 0, .int .i64 0] tHd)).drew) := ((Fresh.alloc _ _).trans (Fresh.alloc _ _)).trans (Fresh.drew _)
  have hbx : Bk (((w.alloc (.cells X.toArray tBlk)).alloc (.cells #[.int .i64 0, .int .i64 0, .int .i64 0, .int .i64 0, .int .i64 0, .int .i64 0, .int .i64 0, .int .i64 0, .int .i64 0, .int .i64 0] tHd)).drew) w.heap.size tBlk X := ((hm.alloc _).fresh (Fresh.drew _))
  have hzb := (Bk.made (w.alloc (.cells X.toArray tBlk)) tHd #[.int .i64 0, .int .i64 0, .int .i64 0, .int .i64 0, .int .i64 0, .int .i64 0, .int .i64 0, .int .i64 0, .int .i64 0, .int .i64 0])
  rw [World.size_alloc] at hzb
  have HZB := Lib.hid hzb
  clear hzb
  have HM := Lib.hid hbx
  have HFW := Lib.hid hfW
  clear hm hfW hbx
  generalize ((w.alloc (.cells X.toArray tBlk)).alloc (.cells #[.int .i64 0, .int .i64 0, .int .i64 0, .int .i64 0, .int .i64 0, .int .i64 0, .int .i64 0, .int .i64 0, .int .i64 0, .int .i64 0] tHd)) = W0 at *
  have HB := HM
  have HF := Lib.hid (Fresh.drew W0)
  have HBB := Lib.hid (show Bk W0 w.heap.size tBlk X from HM.out)
  have HFW0 := Lib.hid (show Fresh w W0 from ⟨HFW.out.os, HFW.out.tape, HFW.out.output, HFW.out.size, HFW.out.block⟩)
  have HFF := Lib.hid (Fresh.refl W0)
  have HLT0 := Lib.hid HBB.out.inside
  clear hk0
  go_cut [3] (fun v wx => ∃ g3, v = .pointer (some ⟨g3, 0, none⟩) ∧ Bk wx g3 tHd ([iv h.many, iv h.first] ++ List.replicate 8 (iv 0)) ∧ Bk wx w.heap.size tBlk X ∧ Fresh W0 wx ∧ W0.heap.size ≤ g3)
  case first =>
    refine wp_region_held_drew (S := fun w' => w'.rangeAt w.heap.size 0 X) (by kernel_rfl) (Bk.range HB.out) (fun hHeld => ?_)
    refine wpAnyH_take (i := 0) (oi := ⟨some 5, _, _, _, _, _⟩) (v := .agg X.toArray) rfl (by decide +kernel) (by decide +kernel) (by decide +kernel) (fun _ _ _ h => h) (yieldsIf_load_mid (by rfl) tBlk (.tmp 1) rfl w.heap.size 0 rfl X _ (fun w hw => hw) hu (by rfl) hsz) (by assumption) ?_
    simp only [Act.put, List.setIfInBounds_toArray, List.set_cons_zero, List.set_cons_succ]
    refine wpAnyH_take (i := 2) (oi := ⟨some 7, _, _, _, _, _⟩) (v := .agg X.toArray) rfl (by decide +kernel) (by decide +kernel) (by decide +kernel) (fun _ _ _ h => h) (yieldsIf_load_mid (by rfl) tBlk (.tmp 1) rfl w.heap.size 0 rfl X _ (fun w hw => hw) hu (by rfl) hsz) (by assumption) ?_
    simp only [Act.put, List.setIfInBounds_toArray, List.set_cons_zero, List.set_cons_succ]
    have hlt := (HB.out).inside
    have HLT := Lib.hid hlt
    clear hlt hHeld
    have hgo : ∀ V, Fresh W0.drew V → w.heap.size < V.heap.size := fun V h => Nat.lt_of_lt_of_le HLT.out h.size
    have HGO := Lib.hid hgo
    clear hgo
    refine wpAnyH_ready (rs := [1, 5]) (by decide +kernel) (by simp) (AllReadyH.cons rfl (fun K hK => ?_) (AllReadyH.cons rfl (fun K hK => ?_) (AllReadyH.nil)))
    · skip
      go_simp
      refine (H1.out _).mono ?_
      rintro e w1 ⟨rfl, hf⟩
      have HB1 := Lib.hid (HB.out.fresh hf)
      have HF1 := Lib.hid (HF.out.trans hf)
      skip
      clear hf
      refine hK.out _ _ (Bk.range HB1.out) (fun hHeld => ?_)
      clear hK K
      refine wpAnyH_ready (rs := [3, 5]) (by decide +kernel) (by simp) (AllReadyH.cons rfl (fun K hK => ?_) (AllReadyH.cons rfl (fun K hK => ?_) (AllReadyH.nil)))
      · skip
        go_simp
        refine (H2.out _).mono ?_
        rintro e w2 ⟨rfl, hf⟩
        have HB2 := Lib.hid (HB1.out.fresh hf)
        have HF2 := Lib.hid (HF1.out.trans hf)
        skip
        clear hf
        refine hK.out _ _ (Bk.range HB2.out) (fun hHeld => ?_)
        clear hK K
        refine wpAnyH_take (i := 4) (oi := ⟨some 9, _, _, _, _, _⟩) (v := .agg #[iv h.many, iv h.first, iv 0, iv 0, iv 0, iv 0, iv 0, iv 0, iv 0, iv 0]) rfl (by decide +kernel) (by decide +kernel) (by decide +kernel) (fun _ _ _ h => h) (Or.inl ⟨by rfl, fun w' hw' => by go_simp⟩) (by assumption) ?_
        simp only [Act.put, List.setIfInBounds_toArray, List.set_cons_zero, List.set_cons_succ]
        refine wpAnyH_ready (rs := [5]) (by decide +kernel) (by simp) (AllReadyH.cons rfl (fun K hK => ?_) (AllReadyH.nil))
        go_simp
        obtain ⟨g3, hg3⟩ : ∃ g3, w2.heap.size = g3 := ⟨_, rfl⟩
        have hb := Bk.made w2 tHd #[iv ((0 : Nat) : Int), iv ((0 : Nat) : Int), iv ((0 : Nat) : Int), iv ((0 : Nat) : Int), iv ((0 : Nat) : Int), iv ((0 : Nat) : Int), iv ((0 : Nat) : Int), iv ((0 : Nat) : Int), iv ((0 : Nat) : Int), iv ((0 : Nat) : Int)]
        rw [hg3] at hb
        have HG3 := Lib.hid hb
        have HB3 := Lib.hid (HB2.out.alloc (.cells #[iv ((0 : Nat) : Int), iv ((0 : Nat) : Int), iv ((0 : Nat) : Int), iv ((0 : Nat) : Int), iv ((0 : Nat) : Int), iv ((0 : Nat) : Int), iv ((0 : Nat) : Int), iv ((0 : Nat) : Int), iv ((0 : Nat) : Int), iv ((0 : Nat) : Int)] tHd))
        have HF3 := Lib.hid (HF2.out.trans (Fresh.alloc w2 (.cells #[iv ((0 : Nat) : Int), iv ((0 : Nat) : Int), iv ((0 : Nat) : Int), iv ((0 : Nat) : Int), iv ((0 : Nat) : Int), iv ((0 : Nat) : Int), iv ((0 : Nat) : Int), iv ((0 : Nat) : Int), iv ((0 : Nat) : Int), iv ((0 : Nat) : Int)] tHd)))
        have hg0 : W0.heap.size ≤ g3 := by have := HF2.out.size; omega
        rw [hg3]
        clear hb
        refine hK.out _ _ (Bk.range HB3.out) (fun hHeld => ?_)
        clear hK K
        refine wpAnyH_ready (rs := [6]) (by decide +kernel) (by simp) (AllReadyH.cons rfl (fun K hK => ?_) AllReadyH.nil)
        refine any_store rfl tHd (.tmp 3) (.tmp 9) rfl g3 [iv h.many, iv h.first, iv 0, iv 0, iv 0, iv 0, iv 0, iv 0, iv 0, iv 0] rfl rfl tHd _ HG3.out 10 size_hd rfl rfl ten_one ?_
        obtain ⟨e1, e2, e3⟩ := stored HG3.out HB3.out HF3.out hg0 (by have := HLT0.out; omega)
        refine hK.out _ _ (Bk.range e2) (fun hHeld => ?_)
        refine wpAnyH_done (by decide +kernel) ?_ _
        (try go_wp2); go_meet; exact ⟨g3, rfl, e1, e2, e3, hg0⟩
      · skip
        go_simp
        obtain ⟨g3, hg3⟩ : ∃ g3, w1.heap.size = g3 := ⟨_, rfl⟩
        have hb := Bk.made w1 tHd #[iv ((0 : Nat) : Int), iv ((0 : Nat) : Int), iv ((0 : Nat) : Int), iv ((0 : Nat) : Int), iv ((0 : Nat) : Int), iv ((0 : Nat) : Int), iv ((0 : Nat) : Int), iv ((0 : Nat) : Int), iv ((0 : Nat) : Int), iv ((0 : Nat) : Int)]
        rw [hg3] at hb
        have HG2 := Lib.hid hb
        have HB2 := Lib.hid (HB1.out.alloc (.cells #[iv ((0 : Nat) : Int), iv ((0 : Nat) : Int), iv ((0 : Nat) : Int), iv ((0 : Nat) : Int), iv ((0 : Nat) : Int), iv ((0 : Nat) : Int), iv ((0 : Nat) : Int), iv ((0 : Nat) : Int), iv ((0 : Nat) : Int), iv ((0 : Nat) : Int)] tHd))
        have HF2 := Lib.hid (HF1.out.trans (Fresh.alloc w1 (.cells #[iv ((0 : Nat) : Int), iv ((0 : Nat) : Int), iv ((0 : Nat) : Int), iv ((0 : Nat) : Int), iv ((0 : Nat) : Int), iv ((0 : Nat) : Int), iv ((0 : Nat) : Int), iv ((0 : Nat) : Int), iv ((0 : Nat) : Int), iv ((0 : Nat) : Int)] tHd)))
        have hg0 : W0.heap.size ≤ g3 := by have := HF1.out.size; omega
        rw [hg3]
        clear hb
        refine hK.out _ _ (Bk.range HB2.out) (fun hHeld => ?_)
        clear hK K
        refine wpAnyH_ready (rs := [3]) (by decide +kernel) (by simp) (AllReadyH.cons rfl (fun K hK => ?_) (AllReadyH.nil))
        go_simp
        refine (H2.out _).mono ?_
        rintro e w3 ⟨rfl, hf⟩
        have HB3 := Lib.hid (HB2.out.fresh hf)
        have HF3 := Lib.hid (HF2.out.trans hf)
        have HG3 := Lib.hid (HG2.out.fresh hf)
        clear hf
        refine hK.out _ _ (Bk.range HB3.out) (fun hHeld => ?_)
        clear hK K
        refine wpAnyH_take (i := 4) (oi := ⟨some 9, _, _, _, _, _⟩) (v := .agg #[iv h.many, iv h.first, iv 0, iv 0, iv 0, iv 0, iv 0, iv 0, iv 0, iv 0]) rfl (by decide +kernel) (by decide +kernel) (by decide +kernel) (fun _ _ _ h => h) (Or.inl ⟨by rfl, fun w' hw' => by go_simp⟩) (by assumption) ?_
        simp only [Act.put, List.setIfInBounds_toArray, List.set_cons_zero, List.set_cons_succ]
        refine wpAnyH_ready (rs := [6]) (by decide +kernel) (by simp) (AllReadyH.cons rfl (fun K hK => ?_) AllReadyH.nil)
        refine any_store rfl tHd (.tmp 3) (.tmp 9) rfl g3 [iv h.many, iv h.first, iv 0, iv 0, iv 0, iv 0, iv 0, iv 0, iv 0, iv 0] rfl rfl tHd _ HG3.out 10 size_hd rfl rfl ten_one ?_
        obtain ⟨e1, e2, e3⟩ := stored HG3.out HB3.out HF3.out hg0 (by have := HLT0.out; omega)
        refine hK.out _ _ (Bk.range e2) (fun hHeld => ?_)
        refine wpAnyH_done (by decide +kernel) ?_ _
        (try go_wp2); go_meet; exact ⟨g3, rfl, e1, e2, e3, hg0⟩
    · skip
      go_simp
      obtain ⟨g3, hg3⟩ : ∃ g3, W0.heap.size = g3 := ⟨_, rfl⟩
      have hb := Bk.made W0 tHd #[iv ((0 : Nat) : Int), iv ((0 : Nat) : Int), iv ((0 : Nat) : Int), iv ((0 : Nat) : Int), iv ((0 : Nat) : Int), iv ((0 : Nat) : Int), iv ((0 : Nat) : Int), iv ((0 : Nat) : Int), iv ((0 : Nat) : Int), iv ((0 : Nat) : Int)]
      rw [hg3] at hb
      have HG1 := Lib.hid (hb.fresh (Fresh.drew _))
      have HB1 := Lib.hid ((HBB.out.alloc (.cells #[iv ((0 : Nat) : Int), iv ((0 : Nat) : Int), iv ((0 : Nat) : Int), iv ((0 : Nat) : Int), iv ((0 : Nat) : Int), iv ((0 : Nat) : Int), iv ((0 : Nat) : Int), iv ((0 : Nat) : Int), iv ((0 : Nat) : Int), iv ((0 : Nat) : Int)] tHd)).fresh (Fresh.drew _))
      have HF1 := Lib.hid ((HFF.out.trans (Fresh.alloc W0 (.cells #[iv ((0 : Nat) : Int), iv ((0 : Nat) : Int), iv ((0 : Nat) : Int), iv ((0 : Nat) : Int), iv ((0 : Nat) : Int), iv ((0 : Nat) : Int), iv ((0 : Nat) : Int), iv ((0 : Nat) : Int), iv ((0 : Nat) : Int), iv ((0 : Nat) : Int)] tHd))).trans (Fresh.drew _))
      have hg0 : W0.heap.size ≤ g3 := by omega
      rw [hg3]
      clear hb
      refine hK.out _ _ (Bk.range HB1.out) (fun hHeld => ?_)
      clear hK K
      refine wpAnyH_ready (rs := [1]) (by decide +kernel) (by simp) (AllReadyH.cons rfl (fun K hK => ?_) (AllReadyH.nil))
      go_simp
      refine (H1.out _).mono ?_
      rintro e w2 ⟨rfl, hf⟩
      have HB2 := Lib.hid (HB1.out.fresh hf)
      have HF2 := Lib.hid (HF1.out.trans hf)
      have HG2 := Lib.hid (HG1.out.fresh hf)
      clear hf
      refine hK.out _ _ (Bk.range HB2.out) (fun hHeld => ?_)
      clear hK K
      refine wpAnyH_ready (rs := [3]) (by decide +kernel) (by simp) (AllReadyH.cons rfl (fun K hK => ?_) (AllReadyH.nil))
      go_simp
      refine (H2.out _).mono ?_
      rintro e w3 ⟨rfl, hf⟩
      have HB3 := Lib.hid (HB2.out.fresh hf)
      have HF3 := Lib.hid (HF2.out.trans hf)
      have HG3 := Lib.hid (HG2.out.fresh hf)
      clear hf
      refine hK.out _ _ (Bk.range HB3.out) (fun hHeld => ?_)
      clear hK K
      refine wpAnyH_take (i := 4) (oi := ⟨some 9, _, _, _, _, _⟩) (v := .agg #[iv h.many, iv h.first, iv 0, iv 0, iv 0, iv 0, iv 0, iv 0, iv 0, iv 0]) rfl (by decide +kernel) (by decide +kernel) (by decide +kernel) (fun _ _ _ h => h) (Or.inl ⟨by rfl, fun w' hw' => by go_simp⟩) (by assumption) ?_
      simp only [Act.put, List.setIfInBounds_toArray, List.set_cons_zero, List.set_cons_succ]
      refine wpAnyH_ready (rs := [6]) (by decide +kernel) (by simp) (AllReadyH.cons rfl (fun K hK => ?_) AllReadyH.nil)
      refine any_store rfl tHd (.tmp 3) (.tmp 9) rfl g3 [iv h.many, iv h.first, iv 0, iv 0, iv 0, iv 0, iv 0, iv 0, iv 0, iv 0] rfl rfl tHd _ HG3.out 10 size_hd rfl rfl ten_one ?_
      obtain ⟨e1, e2, e3⟩ := stored HG3.out HB3.out HF3.out hg0 (by have := HLT0.out; omega)
      refine hK.out _ _ (Bk.range e2) (fun hHeld => ?_)
      refine wpAnyH_done (by decide +kernel) ?_ _
      (try go_wp2); go_meet; exact ⟨g3, rfl, e1, e2, e3, hg0⟩
  case rest =>
    obtain ⟨g3, rfl, hg3, hbx, hfx, hlt⟩ := hcut
    clear HB HF HBB HFF HM
    go_wp2
    go_loopw [10] (fun i wr => ∃ k : Nat, k ≤ 8 ∧ i = .int .i64 k ∧ Bk wr g3 tHd ([iv h.many, iv h.first] ++ ((h.roots.take k).map (fun (r : Nat) => iv (r : Int)) ++ List.replicate (8 - k) (iv 0))) ∧ Bk wr w.heap.size tBlk X ∧ Fresh W0 wr) (fun i _ => 8 - (intOf i).toNat)
    case atStart => exact ⟨0, by omega, rfl, hg3, hbx, hfx⟩
    case round =>
      obtain ⟨k, hk8, rfl, hgk, hbk, hfk⟩ := hrel
      by_cases hlt8 : k < 8
      · obtain ⟨r, hr⟩ : ∃ r, h.roots[k]? = some r := ⟨_, List.getElem?_eq_getElem (by rw [HK.out.eight]; exact hlt8)⟩
        have hnum := fun W => HNU.out (3 + k) (by omega) W
        rw [HNR.out k r hr] at hnum
        have hnum' : ∀ (z : Int), z = 3 + (k : Int) → ∀ W, Calls Tryz.prog 111 #[.agg X.toArray, .int .i64 z] W fun e w' => e = .returned (.int .i64 (r : Nat)) ∧ Fresh W w' := fun z hz W => by
          subst hz
          have e : ((3 + k : Nat) : Int) = 3 + (k : Int) := by omega
          rw [← e]; exact hnum W
        have HN := Lib.hid hnum'
        clear hnum hnum'
        have HBK := Lib.hid hbk
        have HGK := Lib.hid hgk
        have HFK := Lib.hid hfk
        clear hbk hgk hfk
        go_wp2_with (first
          | ((with_reducible refine at_slot_ 14 ?_); refine wpList_load_row (o := ⟨some 14, _, _, _, _, _⟩) rfl tBlk (.tmp 1) rfl w.heap.size rfl tBlk X.toArray (0, 0) _ HBK.out Tryz.underlying92 rfl (by rw [size_blk, List.size_toArray, HXL.out]) ?_)
          | (go_at_call 111; refine (HN.out _ (by omega) _).mono ?_; rintro e w1 ⟨rfl, hf1⟩; have hgk1 := HGK.out.fresh hf1; have hfz := hgk1.free (2 + k); have hcl := hgk1.cell (row_at (fun (r : Nat) => iv (r : Int)) (iv h.many) (iv h.first) (iv 0) h.roots k hlt8 HK.out.eight); have HF1 := Lib.hid hf1; have HG1 := Lib.hid hgk1; clear hf1 hgk1))
        have hb1 := But.put (g := g3) (i := 2 + k) w1 (.int .i64 (r : Nat))
        have hgk2 := HG1.out.put (2 + k) (.int .i64 (r : Nat))
        rw [show ([iv (h.many : Int), iv (h.first : Int)] ++ ((h.roots.take k).map (fun (r : Nat) => iv (r : Int)) ++ List.replicate (8 - k) (iv 0))).set (2 + k) (.int .i64 (r : Nat)) = _ from row_set (fun (r : Nat) => iv (r : Int)) (iv h.many) (iv h.first) (iv 0) h.roots k r hlt8 HK.out.eight hr] at hgk2
        refine ⟨⟨k + 1, by omega, by go_num, hgk2, (HBK.out.fresh HF1.out).old (hb1.block _ (HBK.out.fresh HF1.out).inside (by intro e; injection e with e; have := HLT0.out; omega)), (HFK.out.trans HF1.out).but hlt hb1⟩, by simp [intOf]; omega⟩
      · have : k = 8 := by omega
        subst this
        have hle : h.nums.map iv = [iv h.many, iv h.first] ++ ((h.roots.take 8).map (fun (r : Nat) => iv (r : Int)) ++ List.replicate (8 - 8) (iv 0)) := by
          rw [List.take_of_length_le (by rw [HK.out.eight]; omega)]
          simp [Hd.nums]
        have hll : (h.nums.map iv).length = 10 := by rw [List.length_map, Hd.nums_len HK.out.eight]
        rw [← hle] at hgk
        have HGK := Lib.hid hgk
        have HFK := Lib.hid hfk
        have HLL := Lib.hid hll
        have hone : ∀ v ∈ h.nums.map iv, v.oneCell' = true := iv_one _
        have HONE := Lib.hid hone
        clear hle hgk hfk hll hone hbk
        have hsp : splice [Value.int .i64 0, .int .i64 0, .int .i64 0, .int .i64 0, .int .i64 0, .int .i64 0, .int .i64 0, .int .i64 0, .int .i64 0, .int .i64 0] 0 (h.nums.map iv) = h.nums.map iv := by
          rw [splice, List.take_zero, List.nil_append, List.drop_of_length_le (by rw [HLL.out]; exact Nat.le_refl _), List.append_nil]
        have HSP := Lib.hid hsp
        clear hsp
        go_wp2_with (first
          | ((with_reducible refine at_slot_ 21 ?_); refine wpList_load_row (o := ⟨some 21, _, _, _, _, _⟩) rfl tHd (.tmp 3) rfl g3 rfl tHd (h.nums.map iv).toArray (0, 0) _ HGK.out Tryz.underlying71 rfl (by rw [size_hd, List.size_toArray, HLL.out]) ?_)
          | ((with_reducible refine at_store_ 2 21 ?_); refine wpList_store_blk rfl tHd (.tmp 2) (.tmp 21) rfl (w.heap.size + 1) 0 tHd _ (h.nums.map iv) rfl rfl (HZB.out.fresh HFK.out) (by rw [HLL.out]; exact Nat.le_refl _) HONE.out (by rw [size_hd, HLL.out]) ?_; intro w8 hg8 hb8; rw [HSP.out] at hg8))
        exact bodyPost_ret (results_cell_row (p := 2) (by kernel_rfl) _ _ (w.heap.size + 1) tHd (h.nums.map iv).toArray (0, 0) _ rfl hg8 Tryz.underlying71 rfl (by rw [size_hd, List.size_toArray, HLL.out])) rfl ⟨rfl, (HFW0.out.trans (HFK.out)).but (by omega) hb8⟩
end Go.Proofs.YtcdehklcdipcfaaGreat.pgrp
/-
  pager's head.right; blocks that are compared. My own text.
-/
namespace Go.Proofs.YtcdehklcdipcfaaGreat.pgrp
open Go.RowKit Go.Proofs.YtcdehklcdipcfaaGreat.base Go.Proofs.YtcdehklcdipcfaaGreat.num Go.Proofs.YtcdehklcdipcfaaGreat.word Go.Proofs.YtcdehklcdipcfaaGreat.pagn Go.Proofs.YtcdehklcdipcfaaGreat.pgr Go.Proofs.YtcdehklcdipcfaaGreat.pagp
set_option linter.unusedVariables false

theorem wpList_load_row_if {P : Program} {w : World} {ops : Array Oper} {rest : List Oper} {o : Oper} {a : Act} {Q : Exit → Act → World → Prop} (hgd : Region.wanted o (yielded ops a.tmps) = true) (ty : TypeId) (x : Operand) (ho : o.op = .load ty x)
    (g : Nat) (hx : a.eval x = .pointer (some ⟨g, 0, none⟩)) (t : TypeId) (cs : Array Value) (fr : Nat × Nat) (d : TypeDesc) (hg : w.heap[g]? = some (.cells cs t fr))
    (hu : P.underlying ty = some d) (hd : (match d with | .struct _ | .array _ _ => true | _ => false) = true) (hi : (P.info? ty).map (·.size) = some cs.size)
    (h : wpList P ops Q rest (a.put o.dst (.agg cs)) w) : wpList P ops Q (o :: rest) a w :=
  wpList_step fun K hK => by
    rw [if_pos hgd]
    exact wp_load_row ty x ho g hx t cs fr d hg hu hd hi (hK _ _ h)
theorem wpList_index_run {P : Program} {w : World} {ops : Array Oper} {rest : List Oper} {o : Oper} {a : Act} {Q : Exit → Act → World → Prop} (hgd : o.guard = none) (ty : TypeId) (x k : Operand) (ho : o.op = .index ty x k) (vx vk v : Value) (hx : a.eval x = vx) (hk : a.eval k = vk) (hr : (Instr.index ty vx vk).run P w = .ok v w)
    (h : wpList P ops Q rest (a.put o.dst v) w) : wpList P ops Q (o :: rest) a w := by
  refine wpList_plain hgd fun K hK => ?_
  unfold Oper.wp execOp
  simp only [ho, hx, hk, hr, Sem.run_bind, Sem.run_pure, Result.andThen_ok]
  exact hK _ _ h
abbrev tRoots : TypeId := 69
theorem plain_int : Tryz.prog.plainKey 3 = true := by kernel_rfl
theorem int_info : (Tryz.prog.info? 3).map (·.size) = some 1 := by kernel_rfl
theorem size_roots : (Tryz.prog.info? tRoots).map (·.size) = some 8 := by kernel_rfl
theorem index_root (xs : List Value) (k : Nat) (v : Value) (hk : k < 8) (h : xs[k]? = some v) (W : World) : (Instr.index tRoots (.agg xs.toArray) (.int .i64 k)).run Tryz.prog W = .ok v W := by
  have hp : (part 3 xs.toArray k).run Tryz.prog W = .ok v W := run_part_plain W plain_int (by rw [List.getElem?_toArray, h])
  have hs : (sizeOf 3).run Tryz.prog W = .ok 1 W := by kernel_rfl
  have hl : (0 : Int) ≤ (k : Int) ∧ (k : Int) < ((8 : Nat) : Int) := by omega
  unfold Instr.index
  simp [asIntOf, run_underlying Tryz.underlying69, hl, hs, hp, Result.andThen]
  intro hh
  omega
set_option maxRecDepth 100000 in
set_option maxHeartbeats 2000000 in
theorem right_any (h : Hd) (hk : h.Good) (w : World) :
    Calls Tryz.prog 97 #[hdV h] w fun e w' => e = .returned (.bool true) ∧ Fresh w w' := by
  have hm := Bk.made w tHd (h.nums.map iv).toArray
  rw [List.toList_toArray] at hm
  have hx0 : (h.nums.map iv).toArray[0]? = some (.int .i64 h.many) := by rw [List.getElem?_toArray]; rfl
  have hx1 : (h.nums.map iv).toArray[1]? = some (.int .i64 h.first) := by rw [List.getElem?_toArray]; rfl
  have hl : (h.nums.map iv).length = 10 := by rw [List.length_map, Hd.nums_len hk.eight]
  have hmany : ¬ ((65536 : Int) < (h.many : Int)) := by have := hk.many; omega
  have hha := fun (z : Int) W => has_any h z W
  have hf : decide ((0 : Int) ≤ (h.first : Int) ∧ (h.first : Int) < h.many) = true := by have := hk.first; simp; omega
  have h1 := fun W => hha h.first W
  rw [hf] at h1
  have hroot : ∀ k r, h.roots[k]? = some r → ∀ W, Calls Tryz.prog 54 #[hdV h, .int .i64 (r : Nat)] W fun e w' => e = .returned (.bool true) ∧ Fresh W w' := fun k r hr W => by
    have := hha r W
    have e : decide ((0 : Int) ≤ (r : Int) ∧ (r : Int) < h.many) = true := by have := hk.roots r (List.mem_of_getElem? hr); simp; omega
    rwa [e] at this
  have hdr : ((h.nums.map iv).drop 2).take 8 = h.roots.map (fun (r : Nat) => iv (r : Int)) := by
    have : h.nums.map iv = iv h.many :: iv h.first :: h.roots.map (fun (r : Nat) => iv (r : Int)) := by simp [Hd.nums]
    rw [this, List.drop_succ_cons, List.drop_succ_cons, List.drop_zero, List.take_of_length_le (by rw [List.length_map, hk.eight]; omega)]
  unfold hdV at h1 hroot ⊢
  have H1 := Lib.hid h1
  have HROOT := Lib.hid hroot
  have HK := Lib.hid hk
  have HL := Lib.hid hl
  have HDR := Lib.hid hdr
  have HM := Lib.hid hm
  clear hha h1 hroot hk hf hl hdr hm
  have hmx := heap_alloc_new w (.cells (h.nums.map iv).toArray tHd)
  have hxs : (h.nums.map iv).toArray.size = 10 := by rw [List.size_toArray, HL.out]
  have hxd : ∀ W g, W.heap[g]? = some (.cells (h.nums.map iv).toArray tHd (0, 0)) → Bk W g tHd (h.nums.map iv) := fun W g h => h
  generalize hX : (h.nums.map iv).toArray = X at *
  have HXD := Lib.hid hxd
  have HXS := Lib.hid hxs
  have HMX := Lib.hid hmx
  clear hmx hxs hX hxd HM
  go_enter Tryz.func97, Tryz.ntmps97
  go_wp2_with (first
    | ((with_reducible refine at_slot_ 9 ?_); refine wpList_load_row_if (o := ⟨some 9, _, _, _, _, _⟩) rfl tHd (.tmp 1) rfl w.heap.size rfl tHd X (0, 0) _ HMX.out Tryz.underlying71 rfl (by rw [size_hd, HXS.out]) ?_)
    | (go_at_call 54; refine (H1.out _).mono ?_; rintro e w1 ⟨rfl, hf1⟩; have HF1 := Lib.hid hf1; clear hf1)
    | ((with_reducible refine at_slot_ 16 ?_); refine wpList_load_blk rfl tRoots (.tmp 15) rfl w.heap.size 2 8 tHd (h.nums.map iv) rfl (Bk.fresh (HXD.out _ _ HMX.out) HF1.out) (by rw [HL.out]; omega) _ Tryz.underlying69 rfl size_roots ?_; rw [HDR.out]))
  go_loopw [17] (fun i wr => ∃ k : Nat, k ≤ 8 ∧ i = .int .i64 k ∧ Fresh w1 wr) (fun i _ => 8 - (intOf i).toNat)
  case atStart => exact ⟨0, by omega, rfl, Fresh.refl _⟩
  case round =>
    obtain ⟨k, hk8, rfl, hfk⟩ := hrel
    by_cases hlt8 : k < 8
    · obtain ⟨r, hr⟩ : ∃ r, h.roots[k]? = some r := ⟨_, List.getElem?_eq_getElem (by rw [HK.out.eight]; exact hlt8)⟩
      have hir := fun W => index_root (h.roots.map (fun (r : Nat) => iv (r : Int))) k (iv (r : Int)) hlt8 (by rw [List.getElem?_map, hr]; rfl) W
      have HN := Lib.hid (HROOT.out k r hr)
      have HIR := Lib.hid hir
      have HFK := Lib.hid hfk
      have HWX := Lib.hid (((HF1.out.trans hfk).block w.heap.size (by simp)).trans HMX.out)
      clear hir hfk
      go_wp2_with (first
        | ((with_reducible refine at_slot_ 19 ?_); refine wpList_index_run rfl tRoots (.tmp 16) (.tmp 17) rfl _ _ _ rfl rfl (HIR.out _) ?_)
        | ((with_reducible refine at_slot_ 20 ?_); refine wpList_load_row (o := ⟨some 20, _, _, _, _, _⟩) rfl tHd (.tmp 1) rfl w.heap.size rfl tHd X (0, 0) _ HWX.out Tryz.underlying71 rfl (by rw [size_hd, HXS.out]) ?_)
        | (go_at_call 54; refine (HN.out _).mono ?_; rintro e w2 ⟨rfl, hf2⟩; have HF2 := Lib.hid hf2; clear hf2))
      exact ⟨⟨k + 1, by omega, by go_num, HFK.out.trans HF2.out⟩, by simp [intOf]; omega⟩
    · have : k = 8 := by omega
      subst this
      go_wp2
      go_ret
      exact ⟨rfl, ((Fresh.alloc _ _).trans HF1.out).trans hfk⟩
end Go.Proofs.YtcdehklcdipcfaaGreat.pgrp
