/-
  pager's next, again: Alloc of a page that was free. My own text.
-/
import Derived.Test.YtcdehklcdipcfaaGreatPgrFre
namespace Go.Proofs.YtcdehklcdipcfaaGreat.pgrp
open Go.RowKit Go.Maps Go.Proofs.YtcdehklcdipcfaaGreat.base Go.Proofs.YtcdehklcdipcfaaGreat.num Go.Proofs.YtcdehklcdipcfaaGreat.word Go.Proofs.YtcdehklcdipcfaaGreat.pagn Go.Proofs.YtcdehklcdipcfaaGreat.pgr Go.Proofs.YtcdehklcdipcfaaGreat.waln Go.Proofs.YtcdehklcdipcfaaGreat.walp Go.Proofs.YtcdehklcdipcfaaGreat.pagp
open Go.Proofs.YtcdehklcdipcfaaGreat.vfsnum hiding Bs
open Go.Proofs.YtcdehklcdipcfaaGreat.vfs (FsAt fsPtr Did tFS intKey key_int)
set_option linter.unusedVariables false
set_option linter.unusedSimpArgs false

set_option maxRecDepth 100000 in
set_option maxHeartbeats 4000000 in
theorem next_any (w : World) (p f : Nat) (m : Mm) (bl : List Nat) (h : MemAt w p f m bl) (b : Bs) (hb : b.length = 508) (n : Nat) (hn : numAt b 0 = n) (hno : n < m.hd.many) :
    Calls Tryz.prog 81 #[pgPtr p, blkV b] w fun e w' => e = .returned (.tuple #[.int .i64 (n : Nat), .int .i64 0]) ∧ Fresh w w' := by
  have hnu := fun W => number_any b hb 0 (by omega) W
  rw [hn] at hnu
  have hha := fun W => has_yes m.hd n hno W
  have hbx := Bk.made w tBlk (b.map bv).toArray
  rw [List.toList_toArray] at hbx
  obtain ⟨cur, hbc, hl, hh⟩ := mem_head h
  have hX : (b.map bv).length = 508 := by rw [List.length_map, hb]
  have HNU := Lib.hid hnu
  have HHA := Lib.hid hha
  have HBX := Lib.hid hbx
  have HB := Lib.hid hbc
  have HL := Lib.hid hl
  have HHH := Lib.hid hh
  have HX := Lib.hid hX
  clear hnu hha hbx hbc hl hh hX h hb hn hno
  unfold hdV at HHA
  unfold blkV at HNU ⊢
  go_enter Tryz.func81, Tryz.ntmps81
  go_wp2_with (first
    | ((with_reducible refine at_slot_ 7 ?_); refine wpList_load_row (o := ⟨some 7, _, _, _, _, _⟩) rfl tBlk (.tmp 3) rfl w.heap.size rfl tBlk (b.map bv).toArray (0, 0) _ HBX.out Tryz.underlying92 rfl (by rw [size_blk, List.size_toArray, HX.out]) ?_)
    | (go_at_call 111; refine (HNU.out _).mono ?_; rintro e w1 ⟨rfl, hf1⟩; have HF1 := Lib.hid ((Fresh.alloc _ _).trans hf1); clear hf1)
    | ((with_reducible (refine at_slot_ 12 ?_)); refine wpList_load_blk rfl tHd (.tmp 11) rfl p 3 10 tPgr cur rfl (HB.out.fresh HF1.out) (by rw [HL.out]; omega) _ Tryz.underlying71 rfl size_hd ?_; rw [HHH.out])
    | (go_at_call 54; refine (HHA.out _).mono ?_; rintro e w2 ⟨rfl, hf2⟩; have HF2 := Lib.hid (HF1.out.trans hf2); clear hf2))
  go_ret2
  exact ⟨rfl, HF2.out⟩
set_option maxRecDepth 100000 in
set_option maxHeartbeats 8000000 in
theorem again_any (w : World) (p f : Nat) (m : Mm) (bl : List Nat) (h : MemAt w p f m bl) (a : Fs) (b1 : List Nat) (C : List Bs) (hF : FsAt w f a b1) (hC : HasC a C) (b : Bs) (r : Bool) (hl : LookIs m C m.hd.first b r) (hbl : b.length = 508) (n : Nat) (hn : numAt b 0 = n) (hnm : n < m.hd.many) (hrd : m.rd < 4611686018427387903) (h1 : Hd) (hh1 : h1 = { m.hd with first := n }) :
    Calls Tryz.prog 51 #[pgPtr p] w (MDid w p f bl (.tuple #[.int .i64 (m.hd.first : Nat), .int .i64 0]) { m with rd := m.rd + r.toNat, hd := h1, ch := putE (putE m.ch 0 (hdB h1)) m.hd.first zb, sh := dropE (dropE m.sh 0) m.hd.first }) := by
  have hok := of_ok h
  have hfi := hok.hd.first
  have hmy := hok.hd.many
  have hh : h1.Ok := by subst hh1; exact ⟨hok.hd.eight, hok.hd.many, by show n ≤ _; omega, hok.hd.roots⟩
  have hlk := fun W (q : Fresh w W) => look_any W p f m bl (h.fresh q) a b1 C (hF.fresh q) hC m.hd.first hfi b r hl hbl
  have hnx := fun W (q : Fresh w W) => next_any W p f m bl (h.fresh q) b hbl n hn hnm
  have hcn := fun W bl' (hM : MemAt W p f m bl') => count_any W p f m bl' hM r hrd
  have htu := fun W bl' (hM : MemAt W p f { m with rd := m.rd + r.toNat } bl') => turn_any W p f _ bl' hM h1 hh
  have hcg := fun W bl' (hM : MemAt W p f { m with rd := m.rd + r.toNat, hd := h1, ch := putE m.ch 0 (hdB h1), sh := dropE m.sh 0 } bl') => change_any W p f _ bl' hM m.hd.first zb hfi (by rfl)
  have hme := fun W (q : Fresh w W) => h.fresh q
  obtain ⟨cur, hb, hl2, hhd⟩ := mem_head h
  have hz := hdZero
  have hzB := blkZero
  have hX := nums10 hok.hd
  have hX1 := nums10 hh
  have hset : (m.hd.nums.map iv).set 1 (iv (n : Int)) = h1.nums.map iv := by subst hh1; rfl
  have h1c : (m.hd.nums.map iv)[1]? = some (.int .i64 (m.hd.first : Nat)) := rfl
  have hin := h.inside
  have hXB : (b.map bv).length = 508 := by rw [List.length_map, hbl]
  have hzl : (zb.map bv).length = 508 := by rw [List.length_map]; rfl
  have hnb : (m.hd.first : Int) ≤ 65536 := by omega
  have HLK := Lib.hid hlk
  have HNX := Lib.hid hnx
  have HCN := Lib.hid hcn
  have HTU := Lib.hid htu
  have HCG := Lib.hid hcg
  have HME := Lib.hid hme
  have HB := Lib.hid hb
  have HL := Lib.hid hl2
  have HHD := Lib.hid hhd
  have HX := Lib.hid hX
  have HX1 := Lib.hid hX1
  have HSET := Lib.hid hset
  have H1C := Lib.hid h1c
  have HIN := Lib.hid hin
  have HXB := Lib.hid hXB
  have HZB := Lib.hid hzl
  have HONE := Lib.hid (hd_one m.hd)
  have HONB := Lib.hid (blk_one b)
  clear hlk hnx hcn htu hcg hme hb hl2 hhd hX hX1 hset h1c hin h hok hh hh1 hXB hzl hfi hmy hF hC hl hbl hn hnm hrd
  unfold hdV at HTU hz
  unfold blkV at HLK HNX HCG hzB
  have hZl : (hd0.nums.map iv).length = 10 := rfl
  generalize hd0.nums.map iv = Z at *
  have HZL := Lib.hid hZl
  clear hZl
  go_enter Tryz.func51, Tryz.ntmps51
  go_wp2_with (first
    | ((with_reducible (refine at_slot_ 12 ?_)); refine wpList_load_blk rfl tHd (.tmp 11) rfl p 3 10 tPgr cur rfl HB.out (by rw [HL.out]; omega) _ Tryz.underlying71 rfl size_hd ?_; rw [HHD.out])
    | ((with_reducible (refine at_store_ 4 12 ?_)); refine wpList_store_new rfl tHd (.tmp 4) (.tmp 12) rfl w.heap.size (m.hd.nums.map iv) rfl rfl w Z.toArray tHd rfl (by simp) (by rw [List.size_toArray, HX.out, HZL.out]) HONE.out (by rw [size_hd, HX.out]) ?_; intro w2 hbw2 hfw2 hltw2; have hc2 := hbw2.cell H1C.out; have HB2 := Lib.hid hbw2; have HF2 := Lib.hid hfw2; clear hbw2 hfw2 hltw2)
    | (go_at_call 80; refine (HLK.out _ HF2.out).mono ?_; rintro e w3 ⟨rfl, hf3⟩; have HF3 := Lib.hid (HF2.out.trans hf3); have HB3 := Lib.hid (HB2.out.fresh hf3); clear hf3 hc2)
    | ((with_reducible (refine at_store_ 6 19 ?_)); refine wpList_store_new rfl tBlk (.tmp 6) (.tmp 19) rfl w3.heap.size (b.map bv) rfl rfl w3 (zb.map bv).toArray tBlk rfl (by simp) (by rw [List.size_toArray, HZB.out, HXB.out]) HONB.out (by rw [size_blk, HXB.out]) ?_; intro w4 hbw4 hfw4 hltw4; have HBB := Lib.hid hbw4; have HF4 := Lib.hid (HF3.out.trans hfw4); have HB4 := Lib.hid (HB3.out.fresh hfw4); clear hbw4 hfw4 hltw4)
    | ((with_reducible (refine at_slot_ 27 ?_)); refine wpList_load_row (o := ⟨some 27, _, _, _, _, _⟩) rfl tBlk (.tmp 6) rfl w3.heap.size rfl tBlk (b.map bv).toArray (0, 0) _ HBB.out Tryz.underlying92 rfl (by rw [size_blk, List.size_toArray, HXB.out]) ?_)
    | (go_at_call 81; refine (HNX.out _ HF4.out).mono ?_; rintro e w5 ⟨rfl, hf5⟩; have hb5 := HB4.out.fresh hf5; have hc5 := hb5.cell H1C.out; have hz5 := hb5.free 1; have hb6 := hb5.put 1 (iv (n : Int)); rw [HSET.out] at hb6; have HB6 := Lib.hid hb6; have HF6 := Lib.hid ((HF4.out.trans hf5).but (Nat.le_refl _) (But.put (g := w.heap.size) (i := 1) w5 (iv (n : Int)))); clear hf5 hb5 hb6)
    | (go_at_call 82; refine (HCN.out _ bl (HME.out _ HF6.out)).mono ?_; intro e w7 hk7; obtain ⟨rfl, bl7, hM7, hT7⟩ := hk7; have hgn : w.heap.size ∉ bl := (fun hm => by have h1 := HIN.out _ hm; omega); have HB7 := Lib.hid (box_stay HB6.out hT7 hgn); have HM7 := Lib.hid hM7; have HT7 := Lib.hid ((vfs.Turn.fresh (S := bl) HF6.out).trans hT7); clear hM7 hT7 hgn)
    | ((with_reducible (refine at_slot_ 41 ?_)); refine wpList_load_row (o := ⟨some 41, _, _, _, _, _⟩) rfl tHd (.tmp 4) rfl w.heap.size rfl tHd (h1.nums.map iv).toArray (0, 0) _ HB7.out Tryz.underlying71 rfl (by rw [size_hd, List.size_toArray, HX1.out]) ?_)
    | (go_at_call 52; refine (HTU.out _ bl7 HM7.out).mono ?_; intro e w8 hk8; obtain ⟨rfl, bl8, hM8, hT8⟩ := hk8; have HM8 := Lib.hid hM8; have HT8 := Lib.hid (HT7.out.trans hT8); clear hM8 hT8)
    | ((with_reducible (refine at_slot_ 45 ?_)); refine wpList_buildTo rfl tBlk #[] rfl (some 45) rfl (zb.map bv).toArray blkBuilt ?_)
    | (go_at_call 53; refine (HCG.out _ bl8 HM8.out).mono ?_; intro e w9 hk9; obtain ⟨rfl, bl9, hM9, hT9⟩ := hk9))
  go_ret2
  exact ⟨rfl, bl9, hM9, HT8.out.trans hT9⟩
end Go.Proofs.YtcdehklcdipcfaaGreat.pgrp
