/-
  pager's batch. My own text.
-/
import Derived.Test.YtcdehklcdipcfaaGreatPgrBat
import Derived.Test.YtcdehklcdipcfaaGreatRowOf
import Derived.Test.YtcdehklcdipcfaaGreatKeep
namespace Go.Proofs.YtcdehklcdipcfaaGreat.pgrp
open Go.RowKit Go.Maps Go.Sort Go.Proofs.YtcdehklcdipcfaaGreat.base Go.Proofs.YtcdehklcdipcfaaGreat.num Go.Proofs.YtcdehklcdipcfaaGreat.word Go.Proofs.YtcdehklcdipcfaaGreat.pagn Go.Proofs.YtcdehklcdipcfaaGreat.pgr Go.Proofs.YtcdehklcdipcfaaGreat.waln Go.Proofs.YtcdehklcdipcfaaGreat.walp Go.Proofs.YtcdehklcdipcfaaGreat.pagp
open Go.Proofs.YtcdehklcdipcfaaGreat.vfsnum hiding Bs
open Go.Proofs.YtcdehklcdipcfaaGreat.vfs (FsAt fsPtr Did tFS intKey key_int)
set_option linter.unusedVariables false
set_option linter.unusedSimpArgs false

def batR (ch : List Ent) (z : Int) : Pg := (z, page z.toNat ((lookE ch z.toNat).getD []))
/-- what is written together -/
def batchL (m : Mm) : List Pg := (0, page 0 (hdB m.hd)) :: ((sortN m.ch).filter fun z => decide (z ≠ 0)).map (batR m.ch)
/-- a page that was sealed just now -/
def WpIs (W : World) (N : Nat) (s : Wp) : Prop := ∃ g, s.A = some ⟨g, 0, none⟩ ∧ s.n = 512 ∧ s.c = 512 ∧ N ≤ g ∧ Bk W g tSheet (s.bs.map bv) ∧ s.bs.length = 512 ∧ 0 ≤ s.no ∧ s.no ≤ 65536
theorem WpIs.fresh {W W' : World} {N : Nat} {s : Wp} (h : WpIs W N s) (q : Fresh W W') : WpIs W' N s := by
  obtain ⟨g, h1, h2, h3, h4, h5, h6⟩ := h
  exact ⟨g, h1, h2, h3, h4, h5.fresh q, h6⟩
theorem tWr_ne : tWr ≠ tSheet := by decide
theorem WpIs.grown {W W' : World} {N base n c : Nat} {A : Option Addr} {l : List Wp} {s : Wp} (h : WpIs W N s) (ho : OwnK W base tWr 2 A n c wpV l) (hg : W.grownBy W' (Value.slice A n c).ownBlock) : WpIs W' N s := by
  obtain ⟨g, h1, h2, h3, h4, h5, h6⟩ := h
  exact ⟨g, h1, h2, h3, h4, h5.grown hg (ho.ne h5 tWr_ne), h6⟩
theorem mem_sortN {ch : List Ent} {z : Int} (h : z ∈ sortN ch) : ∃ e ∈ ch, z = (e.1 : Int) := by
  have := (sortN_perm ch).mem_iff.1 h
  obtain ⟨e, he, rfl⟩ := List.mem_map.1 this
  exact ⟨e, he, rfl⟩
theorem lookE_mem {ch : List Ent} (hn : EntNd ch) {e : Ent} (he : e ∈ ch) : lookE ch e.1 = some e.2 := by
  cases h : lookE ch e.1 with
  | none => exact absurd rfl (lookE_none h e he)
  | some b =>
    have hb := lookE_some h
    by_cases heq : ((e.1, b) : Ent) = e
    · rw [← heq]
    · exfalso
      obtain ⟨s, t, hst⟩ := List.append_of_mem hb
      rw [hst] at he hn
      unfold EntNd at hn
      rw [List.pairwise_append, List.pairwise_cons] at hn
      rcases List.mem_append.1 he with h1 | h1
      · exact hn.2.2 _ h1 (e.1, b) (by simp) rfl
      · rcases List.mem_cons.1 h1 with h2 | h2
        · exact heq h2.symm
        · exact hn.2.1.1 _ h2 rfl
theorem filter_snoc {l : List Int} {k : Nat} {z : Int} (h : l[k]? = some z) (p : Int → Bool) : (l.take (k + 1)).filter p = (l.take k).filter p ++ if p z = true then [z] else [] := by
  rw [take_snoc _ _ _ h, List.filter_append, List.filter_cons, List.filter_nil]
theorem write_infoR : (Tryz.prog.info? tWr).map (fun i => (i.zero, i.size, i.bytes)) = some (some (.agg #[.int .i64 0, .slice none 0 0]), 2, 32) := by kernel_rfl
theorem wp_made {W W1 : World} {N g : Nat} {no : Int} {bs : Bs} (hg : N ≤ g) (hb : Bk W1 g tSheet (bs.map bv)) (hl : bs.length = 512) (h0 : 0 ≤ no) (h1 : no ≤ 65536) : WpIs W1 N ⟨no, some ⟨g, 0, none⟩, 512, 512, bs⟩ := ⟨g, rfl, rfl, rfl, hg, hb, hl, h0, h1⟩
set_option maxRecDepth 100000 in
set_option maxHeartbeats 4000000 in
theorem batch_any (w : World) (p f : Nat) (m : Mm) (bl : List Nat) (h : MemAt w p f m bl) (hlen : m.ch.length ≤ 65537) :
    Calls Tryz.prog 44 #[pgPtr p] w fun e w' => ∃ A n c l, e = .returned (.slice A n c) ∧ OwnK w' w.heap.size tWr 2 A n c wpV l ∧ (∀ s ∈ l, WpIs w' w.heap.size s) ∧ l.map Wp.pg = batchL m ∧ Fresh w w' := by
  obtain ⟨i0, hi0, hz0, hz1, hz2⟩ := info_parts write_infoR
  obtain ⟨mb, kb, Ao, no, co, ob, rfl, hnd, hb, hm, hk, ho, hok⟩ := h
  have hnd := nd_of_map hm
  have hbl := pg_len (f := f) (mb := mb) (kb := kb) (ov := .slice Ao no co) hok
  have hhd : ((pgCells f m mb kb (.slice Ao no co)).drop 3).take 10 = m.hd.nums.map iv := by
    unfold pgCells
    rw [List.drop_left' (by rfl), List.take_left' (nums10 hok.hd)]
  have hhb := fun W => head_block_any m.hd hok.hd W
  have hsl := fun W => sealed_any 0 (hdB m.hd) (hdB_len hok.hd.eight) (by omega) W
  have hnu := fun W (q : Fresh w W) => numbers_any W mb m.ch (hm.old (q.block mb hm.inside)) hlen
  have hpl : (page 0 (hdB m.hd)).length = 512 := page_length _ _ (hdB_len hok.hd.eight)
  have hX := nums10 hok.hd
  have HB := Lib.hid hb
  have HM := Lib.hid hm
  have HOK := Lib.hid hok
  have HND := Lib.hid hnd
  have HBL := Lib.hid hbl
  have HHD := Lib.hid hhd
  have HHB := Lib.hid hhb
  have HSL := Lib.hid hsl
  have HNU := Lib.hid hnu
  have HPL := Lib.hid hpl
  have HX := Lib.hid hX
  clear hnd hb hm hk ho hok hbl hhd hhb hsl hnu hpl hX
  unfold hdV at HHB
  go_enter Tryz.func44, Tryz.ntmps44
  go_wp2_with (first
    | ((with_reducible (refine at_slot_ 9 ?_)); refine wpList_load_blk rfl tHd (.tmp 8) rfl p 3 10 tPgr (pgCells f m mb kb (.slice Ao no co)) rfl HB.out (by rw [HBL.out]; omega) _ Tryz.underlying71 rfl size_hd ?_; rw [HHD.out])
    | (go_at_call 74; refine (HHB.out _).mono ?_; rintro e w1 ⟨rfl, hf1⟩; have HF1 := Lib.hid hf1; clear hf1)
    | (go_at_call 73; refine (HSL.out _).mono ?_; rintro e w2 ⟨g, rfl, hg2, hb2, hf2⟩; have HG2 := Lib.hid hg2; have HB2 := Lib.hid hb2; have HF2 := Lib.hid hf2; have HFA := Lib.hid ((HF1.out.trans hf2).trans (Fresh.alloc w2 (.cells #[.int .i64 0, .slice (some ⟨g, 0, none⟩) 512 512] tWr))); have hcm := (HB.out.fresh HFA.out).cell (pg_tail HOK.out 0); clear hg2 hb2 hf2)
    | (go_at_call 75; refine (HNU.out _ HFA.out).mono ?_; rintro e w3 ⟨A3, c3, rfl, ho3, hf3⟩; have HF3 := Lib.hid hf3; have HO3 := Lib.hid ho3; clear hf3 ho3 hcm))
  have hrow0 : OwnK w3 w.heap.size tWr 2 (some ⟨w2.heap.size, 0, none⟩) 1 1 wpV [⟨0, some ⟨g, 0, none⟩, 512, 512, page 0 (hdB m.hd)⟩] := by
    have hbk := (Bk.made w2 tWr #[.int .i64 0, .slice (some ⟨g, 0, none⟩) 512 512]).fresh HF3.out
    exact ⟨rfl, .inr ⟨w2.heap.size, 1, _, rfl, by have := (HF1.out.trans HF2.out).size; omega, hbk, Nat.le_refl _, by unfold maxLen; omega, rfl, rfl⟩⟩
  have hwp0 : WpIs w3 w.heap.size ⟨0, some ⟨g, 0, none⟩, 512, 512, page 0 (hdB m.hd)⟩ := ⟨g, rfl, rfl, rfl, by have h1 := HF1.out.size; have h2 := HG2.out; omega, (HB2.out.alloc _).fresh HF3.out, HPL.out, by simp only; omega, by simp only; omega⟩
  have hfw3 : Fresh w w3 := HFA.out.trans HF3.out
  have hsl : (sortN m.ch).length = m.ch.length := sortN_len m.ch
  have HSLN := Lib.hid hsl
  have HR0 := Lib.hid hrow0
  have HW0 := Lib.hid hwp0
  have HF03 := Lib.hid hfw3
  have hnb : (m.ch.length : Int) ≤ 65537 := by omega
  clear hrow0 hwp0 hfw3 hsl
  go_loopw [3, 19] (fun v i wr => ∃ (k : Nat) (A : Option Addr) (n c : Nat) (l : List Wp), k ≤ m.ch.length ∧ i = .int .i64 k ∧ v = .slice A n c ∧ Hid (OwnK wr w.heap.size tWr 2 A n c wpV l) ∧ Hid (∀ s ∈ l, WpIs wr w.heap.size s) ∧ Hid (Fresh w wr ∧ KeepT tI w3 wr) ∧ Hid (l.map Wp.pg = (0, page 0 (hdB m.hd)) :: (((sortN m.ch).take k).filter fun z => decide (z ≠ 0)).map (batR m.ch)) ∧ Hid (n ≤ k + 1)) (fun _ i _ => m.ch.length - (intOf i).toNat)
  case atStart => exact ⟨0, _, _, _, _, by omega, rfl, rfl, HR0, Lib.hid (fun s hs => by rw [List.mem_singleton] at hs; subst hs; exact HW0.out), Lib.hid ⟨HF03.out, KeepT.refl _ _⟩, Lib.hid (by simp [Wp.pg]), Lib.hid (by omega)⟩
  case round =>
    obtain ⟨k, A, n, c, l, hk, rfl, rfl, hrow, hwp, hfr, hmap, hn⟩ := hrel
    by_cases hlt : k < m.ch.length
    · obtain ⟨z, hz⟩ : ∃ z, (sortN m.ch)[k]? = some z := ⟨_, List.getElem?_eq_getElem (by rw [HSLN.out]; exact hlt)⟩
      obtain ⟨e0, he0, hze⟩ := mem_sortN (List.mem_of_getElem? hz)
      have hlk := lookE_mem HND.out he0
      have he1 := (HOK.out.ch e0 he0).1
      have he2 := (HOK.out.ch e0 he0).2
      have hsn := filter_snoc hz (fun z => decide (z ≠ 0))
      obtain ⟨b3, off3, rfl, hcell⟩ := ((RdT.of_own1 HO3.out).keep hfr.out.2).cell (j := k) (u := iv z) (by rw [List.getElem?_map, hz]; rfl)
      have hcm := (HB.out.fresh hfr.out.1).cell (pg_tail HOK.out 0)
      obtain ⟨en, eb⟩ := e0
      simp only at hlk he1 he2 hze
      subst hze
      have hpr : batR m.ch (en : Int) = ((en : Int), page en eb) := by unfold batR; rw [Int.toNat_natCast, hlk]; rfl
      have HSN := Lib.hid hsn
      have HPR := Lib.hid hpr
      have HE2 := Lib.hid he2
      have HLK := Lib.hid hlk
      clear hsn hpr he2 hlk he0 hz
      have hkb : (k : Int) + 1 ≤ 65537 := by omega
      by_cases hen : en = 0
      · subst hen
        clear HLK HPR HE2
        have hm2 : l.map Wp.pg = (0, page 0 (hdB m.hd)) :: (((sortN m.ch).take (k + 1)).filter fun z => decide (z ≠ 0)).map (batR m.ch) := by
          rw [hmap.out, HSN.out]; simp
        have HM2 := Lib.hid hm2
        clear HSN hm2
        go_wp2
        exact ⟨⟨k + 1, A, n, c, l, by omega, by go_num, rfl, hrow, hwp, hfr, HM2, Lib.hid (by have := hn.out; omega)⟩, by simp [intOf]; omega⟩
      · have hnz : ((en : Int) != 0) = true := by simp; omega
        have hnz2 : ¬ ((en : Nat) : Int) = 0 := by omega
        have hm2 : (l ++ [(⟨(en : Int), none, 512, 512, page en eb⟩ : Wp)]).map Wp.pg = (0, page 0 (hdB m.hd)) :: (((sortN m.ch).take (k + 1)).filter fun z => decide (z ≠ 0)).map (batR m.ch) := by
          rw [List.map_append, hmap.out, HSN.out, if_pos (by simpa using hnz2), List.map_append, show ([(en : Int)] : List Int).map (batR m.ch) = [batR m.ch (en : Int)] from rfl, HPR.out]
          rfl
        have HM2 := Lib.hid hm2
        have HIT := Lib.hid (kv_hit HLK.out)
        have HMK := Lib.hid (HM.out.old (hfr.out.1.block mb HM.out.inside))
        have HSE := Lib.hid (fun W => sealed_any en eb HE2.out (by omega) W)
        have hpl2 : (page en eb).length = 512 := page_length _ _ HE2.out
        have HPL2 := Lib.hid hpl2
        clear HSN hm2 HLK HPR hpl2
        go_wp2_with (first
          | ((with_reducible (refine at_slot_ 32 ?_)); refine wpList_look_hit _ rfl _ _ tMapB rfl tI tBlk intKey Tryz.underlying65 mb (kvB m.ch) rfl HMK.out (.int .i64 (en : Nat)) (blkV eb) _ rfl (key_int en (by omega)) HIT.out ?_)
          | (go_at_call 73; refine (HSE.out _).mono ?_; rintro e w4 ⟨g4, rfl, hg4, hb4, hf4⟩; have HG4 := Lib.hid hg4; have HB4 := Lib.hid hb4; have HF4 := Lib.hid hf4; have HBX := Lib.hid (Bk.made w4 tWr #[.int .i64 (en : Nat), .slice (some ⟨g4, 0, none⟩) 512 512]); clear hg4 hb4 hf4)
          | (at_builtin; refine wpList_append_cells _ rfl _ _ 80 rfl w.heap.size tWr i0 _ 2 32 Tryz.underlying80 hi0 hz0 hz1 hz2 rfl (by omega) wpV A n c l rfl ((hrow.out.fresh HF4.out).fresh (Fresh.alloc _ _)) w4.heap.size ⟨(en : Int), some ⟨g4, 0, none⟩, 512, 512, page en eb⟩ rfl HBX.out rfl (wpV_one _) (by have := hn.out; omega) (by have := hn.out; omega) (by have := (hfr.out.1.trans HF4.out).size; simp; omega) ?_; intro A5 c5 w5 hown5 hg5 hb5; have HO5 := Lib.hid hown5; have HG5 := Lib.hid hg5; clear hown5 hg5 hb5))
        have hfa4 := Fresh.alloc w4 (.cells #[.int .i64 (en : Nat), .slice (some ⟨g4, 0, none⟩) 512 512] tWr)
        have hrow4 := (hrow.out.fresh HF4.out).fresh hfa4
        have hf5 : Fresh w w5 := hrow4.append (hfr.out.1.trans (HF4.out.trans hfa4)) (Nat.le_refl _) HG5.out
        have hk5 : KeepT tI w3 w5 := (hfr.out.2.trans (KeepT.fresh (HF4.out.trans hfa4))).trans (KeepT.own HG5.out hrow4 (by decide))
        have hw5 : ∀ s ∈ l ++ [⟨(en : Int), some ⟨g4, 0, none⟩, 512, 512, page en eb⟩], WpIs w5 w.heap.size s := fun s hs => by
          rcases List.mem_append.1 hs with hs | hs
          · exact ((hwp.out s hs).fresh (HF4.out.trans hfa4)).grown hrow4 HG5.out
          · rw [List.mem_singleton] at hs
            subst hs
            have h0 : WpIs w4 w.heap.size ⟨(en : Int), some ⟨g4, 0, none⟩, 512, 512, page en eb⟩ := ⟨g4, rfl, rfl, rfl, Nat.le_trans hfr.out.1.size HG4.out, HB4.out, HPL2.out, by simp only; omega, by simp only; omega⟩
            exact (h0.fresh hfa4).grown hrow4 HG5.out
        have HW5 := Lib.hid hw5
        have HF5 := Lib.hid (show Fresh w w5 ∧ KeepT tI w3 w5 from ⟨hf5, hk5⟩)
        have HM5 := Lib.hid (show (l ++ [(⟨(en : Int), some ⟨g4, 0, none⟩, 512, 512, page en eb⟩ : Wp)]).map Wp.pg = (0, page 0 (hdB m.hd)) :: (((sortN m.ch).take (k + 1)).filter fun z => decide (z ≠ 0)).map (batR m.ch) by rw [← HM2.out, List.map_append, List.map_append]; rfl)
        exact ⟨⟨k + 1, A5, n + 1, c5, _, by omega, by go_num, rfl, HO5, HW5, HF5, HM5, Lib.hid (by have := hn.out; omega)⟩, by simp [intOf]; omega⟩
    · obtain rfl : k = m.ch.length := by omega
      go_wp2
      go_ret
      refine ⟨A, n, c, l, rfl, hrow.out, hwp.out, ?_, hfr.out.1⟩
      rw [hmap.out, List.take_of_length_le (by rw [HSLN.out]; exact Nat.le_refl _)]
      rfl
end Go.Proofs.YtcdehklcdipcfaaGreat.pgrp
