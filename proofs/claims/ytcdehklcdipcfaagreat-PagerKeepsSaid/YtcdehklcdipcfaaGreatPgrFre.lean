/-
  pager's Free; next; Alloc of a page that was free. My own text.
-/
import Derived.Test.YtcdehklcdipcfaaGreatPgrArg
namespace Go.Proofs.YtcdehklcdipcfaaGreat.pgrp
open Go.RowKit Go.Maps Go.Proofs.YtcdehklcdipcfaaGreat.base Go.Proofs.YtcdehklcdipcfaaGreat.num Go.Proofs.YtcdehklcdipcfaaGreat.word Go.Proofs.YtcdehklcdipcfaaGreat.pagn Go.Proofs.YtcdehklcdipcfaaGreat.pgr Go.Proofs.YtcdehklcdipcfaaGreat.waln Go.Proofs.YtcdehklcdipcfaaGreat.walp Go.Proofs.YtcdehklcdipcfaaGreat.pagp
open Go.Proofs.YtcdehklcdipcfaaGreat.vfsnum hiding Bs
open Go.Proofs.YtcdehklcdipcfaaGreat.vfs (FsAt fsPtr Did tFS intKey key_int)
set_option linter.unusedVariables false
set_option linter.unusedSimpArgs false

/-- what a free page has -/
def freeB (n : Nat) : Bs := fill (puts 4 [(n : Int)])
theorem freeB_len (n : Nat) : (freeB n).length = 508 := fill_length _ (by rw [puts_len]; show 4 * 1 ≤ 508; omega)
set_option maxRecDepth 100000 in
set_option maxHeartbeats 4000000 in
theorem free_ok (w : World) (p f : Nat) (m : Mm) (bl : List Nat) (h : MemAt w p f m bl) (hde : m.dead = false) (no : Nat) (hn0 : no ≠ 0) (hno : no < m.hd.many) (h1 : Hd) (hh1 : h1 = { m.hd with first := no }) :
    Calls Tryz.prog 26 #[pgPtr p, .int .i64 no] w (MDid w p f bl (.int .i64 0) { m with hd := h1, ch := putE (putE m.ch no (freeB m.hd.first)) 0 (hdB h1), sh := dropE (dropE m.sh no) 0 }) := by
  have hst := state_any w p f m bl h hde
  have hok := of_ok h
  have hno2 : no ≤ 65536 := by have := hok.hd.many; omega
  have hfi := hok.hd.first
  have hh : h1.Ok := by subst hh1; exact ⟨hok.hd.eight, hok.hd.many, hno2, hok.hd.roots⟩
  have hha := fun W => has_yes m.hd no hno W
  have hcg := fun W (q : Fresh w W) => change_any W p f m bl (h.fresh q) no (freeB m.hd.first) hno2 (freeB_len _)
  have htu := fun W bl' (hM : MemAt W p f { m with ch := putE m.ch no (freeB m.hd.first), sh := dropE m.sh no } bl') => turn_any W p f _ bl' hM h1 hh
  have hpu := fun (W : World) (A : Option Addr) (hA : Rd W W.heap.size A 1 ([(m.hd.first : Int)].map iv)) => word.put_is none 0 0 [] 4 A 1 1 [(m.hd.first : Int)] W W.heap.size W.heap.size 4 (puts 4 [(m.hd.first : Int)]) (Rd.nil _ _ _) (Nat.le_refl _) hA (Nat.le_refl _) (fun z hz => by rw [List.mem_singleton] at hz; subst hz; exact WalkArith.wf_i64 ⟨by omega, by omega⟩) (by omega) (by omega) (by rw [wide4]) (by rw [wide4]; rfl)
  have hbo := fun (W : World) (A : Option Addr) (c : Nat) (hA : Rd W W.heap.size A 4 ((puts 4 [(m.hd.first : Int)]).map bv)) => blockOf_any A 4 c _ W hA (by omega)
  obtain ⟨cur, hb, hl, hhd⟩ := mem_head h
  have hz := hdZero
  have hX := nums10 hok.hd
  have hX1 := nums10 hh
  have hset : (m.hd.nums.map iv).set 1 (iv (no : Int)) = h1.nums.map iv := by subst hh1; rfl
  have h1c : (m.hd.nums.map iv)[1]? = some (.int .i64 (m.hd.first : Nat)) := rfl
  have hin := h.inside
  have hne : (((no : Nat) : Int) == 0) = false := by simp; omega
  have hnb : (no : Int) ≤ 65536 := by omega
  have HS := Lib.hid hst
  have HHA := Lib.hid hha
  have HCG := Lib.hid hcg
  have HTU := Lib.hid htu
  have HPU := Lib.hid hpu
  have HBO := Lib.hid hbo
  have HB := Lib.hid hb
  have HL := Lib.hid hl
  have HHD := Lib.hid hhd
  have HX := Lib.hid hX
  have HX1 := Lib.hid hX1
  have HSET := Lib.hid hset
  have H1C := Lib.hid h1c
  have HIN := Lib.hid hin
  have HONE := Lib.hid (hd_one m.hd)
  clear hst hha hcg htu hpu hbo hb hl hhd hX hX1 hset h1c hin h hok hh hh1 hde hfi hno2
  unfold hdV at HTU hz HHA
  have hZl : (hd0.nums.map iv).length = 10 := rfl
  generalize hd0.nums.map iv = Z at *
  have HZL := Lib.hid hZl
  clear hZl
  have hfb : fill (puts 4 [(m.hd.first : Int)]) = freeB m.hd.first := rfl
  rw [hfb] at HBO
  clear hfb
  unfold blkV at HCG HBO
  go_enter Tryz.func26, Tryz.ntmps26
  go_wp2_with (first
    | (go_at_call 40; refine HS.out.mono ?_; rintro e w0 ⟨rfl, rfl⟩)
    | ((with_reducible (refine at_slot_ 18 ?_)); refine wpList_load_blk_if (by rfl) tHd (.tmp 17) rfl p 3 10 tPgr cur rfl HB.out (by rw [HL.out]; omega) _ Tryz.underlying71 rfl size_hd ?_; rw [HHD.out])
    | (go_at_call 54; refine (HHA.out _).mono ?_; rintro e w1 ⟨rfl, hf1⟩; have HF1 := Lib.hid hf1; clear hf1)
    | ((with_reducible (refine at_slot_ 26 ?_)); refine wpList_load_blk rfl tHd (.tmp 25) rfl p 3 10 tPgr cur rfl (HB.out.fresh HF1.out) (by rw [HL.out]; omega) _ Tryz.underlying71 rfl size_hd ?_; rw [HHD.out])
    | ((with_reducible (refine at_store_ 6 26 ?_)); refine wpList_store_new rfl tHd (.tmp 6) (.tmp 26) rfl w1.heap.size (m.hd.nums.map iv) rfl rfl w1 Z.toArray tHd rfl (by simp) (by rw [List.size_toArray, HX.out, HZL.out]) HONE.out (by rw [size_hd, HX.out]) ?_; intro w2 hbw2 hfw2 hltw2; have hc2 := hbw2.cell H1C.out; have HB2 := Lib.hid hbw2; have HF2 := Lib.hid hfw2; clear hbw2 hfw2 hltw2)
    | (go_at_call 57; refine (HPU.out _ _ (by rw [World.size_alloc]; exact Rd.lit w2 #[Value.int .i64 (m.hd.first : Nat)] 3)).mono ?_; rintro e w5 ⟨A5, c5, rfl, hf5, ho5⟩; have HF5 := Lib.hid ((Fresh.alloc _ _).trans hf5); have HO5 := Lib.hid ho5; clear hf5 ho5)
    | (go_at_call 55; refine (HBO.out _ _ _ HO5.out.rd).mono ?_; rintro e w7 ⟨rfl, hf7⟩; have HF7 := Lib.hid (HF5.out.trans hf7); clear hf7)
    | (go_at_call 53; refine (HCG.out _ ((HF1.out.trans HF2.out).trans HF7.out)).mono ?_; intro e w8 hk8; obtain ⟨rfl, bl8, hM8, hT8⟩ := hk8; have hgn : w1.heap.size ∉ bl := (fun hm => by have h1 := HIN.out _ hm; have h2 := HF1.out.size; omega); have hb7 := HB2.out.fresh HF7.out; have hb8 := box_stay hb7 hT8 hgn; have hc8 := hb8.cell H1C.out; have hz8 := hb8.free 1; have hn8 := hT8.apart hb7.inside hgn; have hb9 := hb8.put 1 (iv (no : Int)); rw [HSET.out] at hb9; have hM9 := hM8.keep (w' := w8.setCell ⟨w1.heap.size, 1, none⟩ (iv (no : Int))) (fun b hb => (But.put (g := w1.heap.size) (i := 1) w8 (iv (no : Int))).block b (hM8.inside b hb) (by intro e; injection e with e; exact hn8 (e ▸ hb))); have hT9 := put_new_box ((vfs.Turn.fresh (S := bl) ((HF1.out.trans HF2.out).trans HF7.out)).trans hT8) (But.put (g := w1.heap.size) (i := 1) w8 (iv (no : Int))) HF1.out.size; have HB9 := Lib.hid hb9; have HM9 := Lib.hid hM9; have HT9 := Lib.hid hT9; clear hM8 hT8 hb7 hb8 hn8 hgn hb9 hM9 hT9 hc2)
    | ((with_reducible (refine at_slot_ 38 ?_)); refine wpList_load_row (o := ⟨some 38, _, _, _, _, _⟩) rfl tHd (.tmp 6) rfl w1.heap.size rfl tHd (h1.nums.map iv).toArray (0, 0) _ HB9.out Tryz.underlying71 rfl (by rw [size_hd, List.size_toArray, HX1.out]) ?_)
    | (go_at_call 52; refine (HTU.out _ bl8 HM9.out).mono ?_; intro e w10 hk10; obtain ⟨rfl, bl10, hM10, hT10⟩ := hk10))
  go_ret
  exact ⟨rfl, bl10, hM10, HT9.out.trans hT10⟩
end Go.Proofs.YtcdehklcdipcfaaGreat.pgrp
