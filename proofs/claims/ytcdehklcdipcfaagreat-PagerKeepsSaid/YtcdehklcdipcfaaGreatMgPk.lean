import Derived.Test.YtcdehklcdipcfaaGreatPgrMem
import Derived.StillTailTactics
import Derived.Deep.AppendLies
/- Several of my own texts, one behind the other. -/
/-
  What a pager keeps: count, drop, keep. My own text.
-/
namespace Go.Proofs.YtcdehklcdipcfaaGreat.pgrp
open Go.RowKit Go.Maps Go.Proofs.YtcdehklcdipcfaaGreat.base Go.Proofs.YtcdehklcdipcfaaGreat.num Go.Proofs.YtcdehklcdipcfaaGreat.word Go.Proofs.YtcdehklcdipcfaaGreat.pagn Go.Proofs.YtcdehklcdipcfaaGreat.pgr Go.Proofs.YtcdehklcdipcfaaGreat.waln Go.Proofs.YtcdehklcdipcfaaGreat.walp Go.Proofs.YtcdehklcdipcfaaGreat.pagp
open Go.Proofs.YtcdehklcdipcfaaGreat.vfs (FsAt fsPtr Did tFS intKey key_int)
set_option linter.unusedVariables false
set_option linter.unusedSimpArgs false

abbrev shPtr (p : Nat) : Value := .pointer (some ⟨p, 24, none⟩)
abbrev pgPtr (p : Nat) : Value := .pointer (some ⟨p, 0, none⟩)
/-- a call is done on a pager's memory -/
def MDid (w : World) (p f : Nat) (bl : List Nat) (v : Value) (m : Mm) (e : Ending) (w' : World) : Prop := e = .returned v ∧ ∃ bl', MemAt w' p f m bl' ∧ VTurn bl bl' w w'
theorem MDid.same {w : World} {p f : Nat} {bl : List Nat} {m : Mm} (h : MemAt w p f m bl) (v : Value) : MDid w p f bl v m (.returned v) w := ⟨rfl, bl, h, vfs.Turn.refl _ _⟩

theorem count_any (w : World) (p f : Nat) (m : Mm) (bl : List Nat) (h : MemAt w p f m bl) (r : Bool) (hr : m.rd < 4611686018427387903) :
    Calls Tryz.prog 82 #[shPtr p, .bool r] w (MDid w p f bl (.tuple #[]) { m with rd := m.rd + r.toNat }) := by
  cases r with
  | false =>
    go_enter Tryz.func82, Tryz.ntmps82
    go_wp2
    go_end0
    exact MDid.same h _
  | true =>
    obtain ⟨mb, kb, A, n, c, ob, rfl, hnd, hb, hm, hk, ho, hok⟩ := h
    have hc := hb.cell (pg_tail hok 3)
    have hf := hb.free 26
    have hri : ((m.rd : Nat) : Int) < 4611686018427387903 := by omega
    have hres : ∀ w', w' = w.setCell ⟨p, 26, none⟩ (.int .i64 ((m.rd : Int) + 1)) → ∃ bl', MemAt w' p f { m with rd := m.rd + 1 } bl' ∧ VTurn (p :: mb :: kb :: ob) bl' w w' := by
      rintro w' rfl
      have hne : ∀ b ∈ mb :: kb :: ob, b ≠ p := fun b hbm e => by subst e; exact (List.nodup_cons.1 hnd).1 hbm
      have hb1 := hb.put 26 (.int .i64 ((m.rd : Int) + 1))
      rw [pg_set hok 3] at hb1
      refine ⟨_, ⟨mb, kb, A, n, c, ob, rfl, hnd, hb1, hm.old (Below.heap_setCell w ⟨p, 26, none⟩ _ mb (hne mb (by simp))), hk.old (Below.heap_setCell w ⟨p, 26, none⟩ _ kb (hne kb (by simp))), ho.keep fun b hbm => Below.heap_setCell w ⟨p, 26, none⟩ _ b (hne b (by simp [hbm])), ⟨hok.hd, hok.last, hok.ch, hok.sh, hok.few, by show m.rd + 1 < _; omega⟩⟩, vfs.Turn.but (But.put w _) (by simp)⟩
    have HR := Lib.hid hres
    clear hres hb hm hk ho hnd hok
    go_enter Tryz.func82, Tryz.ntmps82
    go_wp2
    go_end0
    exact ⟨rfl, HR.out _ rfl⟩

theorem sh_split {l : List Ent} {no : Nat} (h : ¬ ∀ e ∈ l, e.1 ≠ no) : ∃ l1 b l2, l = l1 ++ (no, b) :: l2 := by
  refine Classical.byContradiction fun hh => h fun e he hn => hh ?_
  obtain ⟨l1, l2, rfl⟩ := List.append_of_mem he
  exact ⟨l1, e.2, l2, by rw [← hn]⟩
def noS (l : List Ent) : List Int := l.map fun e => (e.1 : Int)
theorem noS_len (l : List Ent) : (noS l).length = l.length := by simp [noS]
theorem fst_i (l : List Ent) : (l.map Prod.fst).map (fun (x : Nat) => iv (x : Int)) = (noS l).map iv := by
  unfold noS; rw [List.map_map, List.map_map]; rfl
theorem getD_ints (l : List Ent) (j : Nat) (h : j < l.length) : (noS l).getD j 0 = (l[j].1 : Int) := by
  unfold noS
  rw [List.getD_eq_getElem?_getD, List.getElem?_map, List.getElem?_eq_getElem h]; rfl
set_option maxRecDepth 100000 in
set_option maxHeartbeats 2000000 in
theorem drop_any (w : World) (p f : Nat) (m : Mm) (bl : List Nat) (h : MemAt w p f m bl) (no : Nat) (hno : no ≤ 65536) :
    Calls Tryz.prog 83 #[shPtr p, .int .i64 no] w (MDid w p f bl (.tuple #[]) { m with sh := dropE m.sh no }) := by
  have h0 := h
  obtain ⟨mb, kb, A, n, c, ob, rfl, hnd, hb, hm, hk, ho, hok⟩ := h
  have hc0 := hb.cell (pg_tail hok 1)
  have hc1 := hb.cell (pg_tail hok 2)
  have hnd2 := nd_of_map hk
  have hshl : (m.sh.map Prod.fst).length = n := ho.1
  rw [List.length_map] at hshl
  by_cases hmiss : ∀ e ∈ m.sh, e.1 ≠ no
  · have hidx : Calls Tryz.prog 112 #[.slice A n c, .int .i64 no] w fun e w' => e = .returned (.int .i64 (-1)) ∧ w' = w := by
      rcases ho.2.2.2 with ⟨rfl, rfl, rfl⟩ | ⟨q, rest, rfl, rfl, hq, hr⟩
      · obtain rfl : n = 0 := by have := ho.2.1; omega
        exact Tryz.slices_Index_int_empty none 0 no w
      · have := Tryz.slices_Index_int q 0 n c (noS m.sh) no w (by rw [noS_len]; omega) (by have := hok.few; omega) (fun j hj => by
          rw [noS_len] at hj
          rw [fst_i] at hq
          refine hq.cell ?_
          rw [Nat.zero_add, getD_ints _ _ hj, List.getElem?_append_left (by rw [List.length_map, noS_len]; exact hj), List.getElem?_map, noS, List.getElem?_map, List.getElem?_eq_getElem hj]
          rfl)
        rw [Lib.idxOf_miss (noS m.sh) n no (fun j hj => by
          rw [getD_ints _ _ (by omega)]
          intro e
          exact hmiss m.sh[j] (List.getElem_mem (by omega)) (by omega))] at this
        exact this
    have e : { m with sh := dropE m.sh no } = m := by rw [dropE_none hmiss]
    rw [e]
    have HI := Lib.hid hidx
    have HH := Lib.hid h0
    clear hidx h0 hnd hb hm hk ho hok hmiss e hnd2 hshl
    go_enter Tryz.func83, Tryz.ntmps83
    go_wp2_with (go_at_call 112; refine HI.out.mono ?_; rintro e w1 ⟨rfl, rfl⟩)
    go_end0
    exact MDid.same HH.out _
  · obtain ⟨l1, b, l2, hsp⟩ := sh_split hmiss
    obtain ⟨i, hi⟩ : ∃ i, l1.length = i := ⟨_, rfl⟩
    have hnl : n = i + 1 + l2.length := by rw [← hshl, hsp, List.length_append, List.length_cons, hi]; omega
    have hde : dropE m.sh no = l1 ++ l2 := by rw [hsp]; exact dropE_mid (hsp ▸ hnd2)
    rcases ho.2.2.2 with ⟨rfl, rfl, rfl⟩ | ⟨q, rest, rfl, rfl, hq, hr⟩
    · have := ho.2.1; omega
    rw [fst_i] at hq
    have hcells : ∀ j, j < (noS m.sh).length → w.cell? ⟨q, 0 + j, none⟩ = some (.int .i64 ((noS m.sh).getD j 0)) := fun j hj => by
      rw [noS_len] at hj
      refine hq.cell ?_
      rw [Nat.zero_add, getD_ints _ _ hj, List.getElem?_append_left (by rw [List.length_map, noS_len]; exact hj), List.getElem?_map, noS, List.getElem?_map, List.getElem?_eq_getElem hj]
      rfl
    have hget : (noS m.sh).getD i 0 = (no : Int) := by
      rw [getD_ints _ _ (by omega)]
      have : m.sh[i]? = some (no, b) := by rw [hsp, List.getElem?_append_right (by omega), hi, Nat.sub_self]; rfl
      rw [List.getElem?_eq_getElem (by omega)] at this
      injection this with this
      rw [this]
    have hbefore : ∀ j, j < i → (noS m.sh).getD j 0 ≠ (no : Int) := fun j hj => by
      rw [getD_ints _ _ (by omega)]
      intro e
      have h1 : m.sh[j]? = some l1[j] := by rw [hsp, List.getElem?_append_left (by omega), List.getElem?_eq_getElem (by omega)]
      rw [List.getElem?_eq_getElem (by omega)] at h1
      injection h1 with h1
      have h2 := hnd2
      rw [hsp] at h2
      unfold EntNd at h2
      rw [List.pairwise_append] at h2
      have h3 := h2.2.2 l1[j] (List.getElem_mem (by omega)) (no, b) (by simp)
      rw [h1] at e
      exact h3 (by simp only; omega)
    have hidx := Tryz.slices_Index_int q 0 n c (noS m.sh) no w (by rw [noS_len]; omega) (by have := hok.few; omega) hcells
    rw [Lib.idxOf_hit (noS m.sh) n i no (by omega) (by rw [noS_len]; omega) hget hbefore] at hidx
    have hrow : ((((noS m.sh).take n).take i ++ ((noS m.sh).take n).drop (i + 1) ++ List.replicate (i + 1 - i) 0).map (Value.int .i64)) = (noS (l1 ++ l2)).map iv ++ [iv 0] := by
      rw [List.take_of_length_le (l := noS m.sh) (by rw [noS_len]; omega), hsp, Nat.add_sub_cancel_left]
      unfold noS
      simp only [List.map_append, List.map_cons]
      rw [List.take_append_of_le_length (by rw [List.length_map]; omega), List.take_of_length_le (by rw [List.length_map]; omega), List.drop_append, List.drop_of_length_le (by rw [List.length_map]; omega), List.length_map, hi, Nat.add_sub_cancel_left]
      simp
    have hdel := fun W (hW : Bk W q tI ((noS m.sh).map iv ++ rest)) => Tryz.slices_Delete_int_cells q 0 n c i (i + 1) (noS m.sh) W (by rw [noS_len]; omega) ho.2.1 (by have := ho.2.2.1; unfold maxLen at this; omega) (by omega) (by omega) (fun j hj => by
      rw [noS_len] at hj
      refine hW.cell ?_
      rw [Nat.zero_add, getD_ints _ _ hj, List.getElem?_append_left (by rw [List.length_map, noS_len]; exact hj), List.getElem?_map, noS, List.getElem?_map, List.getElem?_eq_getElem hj]
      rfl) (fun j hj => hW.free _)
    rw [hrow, show n - (i + 1 - i) = n - 1 by omega] at hdel
    have hdel' : Calls Tryz.prog 113 #[.slice (some ⟨q, 0, none⟩) n c, .int .i64 i, .int .i64 ((i : Int) + 1)] w fun e w' => e = .returned (.slice (some ⟨q, 0, none⟩) (n - 1) c) ∧ Bk w' q tI ((noS (l1 ++ l2)).map iv ++ (iv 0 :: rest)) ∧ But q w w' := by
      refine (hdel w hq).mono ?_
      rintro e w' ⟨rfl, z, rfl⟩
      have h1 : Bk (w.drewN z) q tI ((noS m.sh).map iv ++ rest) := hq.fresh (Fresh.drewN w z)
      have h2 := bk_cells (w := w) ((noS (l1 ++ l2)).map iv ++ [iv 0]) _ 0 (w.drewN z) h1 (by simp [noS_len]; omega)
      have h3 : splice ((noS m.sh).map iv ++ rest) 0 ((noS (l1 ++ l2)).map iv ++ [iv 0]) = (noS (l1 ++ l2)).map iv ++ (iv 0 :: rest) := by
        unfold splice
        rw [List.take_zero, List.nil_append, List.drop_append, List.drop_of_length_le (by simp [noS_len]; omega), List.nil_append]
        have : 0 + ((noS (l1 ++ l2)).map iv ++ [iv 0]).length - ((noS m.sh).map iv).length = 0 := by simp [noS_len]; omega
        rw [this, List.drop_zero, List.append_assoc]
        rfl
      rw [h3] at h2
      exact ⟨rfl, h2.1, (But.drewN w z).trans h2.2⟩
    have hqp : q ≠ p ∧ q ≠ mb ∧ q ≠ kb := by
      simp only [List.nodup_cons, List.mem_cons, List.not_mem_nil, or_false] at hnd
      exact ⟨fun e => hnd.1 (.inr (.inr e.symm)), fun e => hnd.2.1 (.inr e.symm), fun e => hnd.2.2.1 e.symm⟩
    have hpm : p ≠ mb ∧ p ≠ kb ∧ mb ≠ kb := by
      simp only [List.nodup_cons, List.mem_cons, List.not_mem_nil, or_false] at hnd
      exact ⟨fun e => hnd.1 (.inl e), fun e => hnd.1 (.inr (.inl e)), fun e => hnd.2.1 (.inl e)⟩
    have hperm : (kvB m.sh).Perm ((Value.int .i64 (no : Nat), blkV b) :: kvB (l1 ++ l2)) := by
      rw [hsp]
      unfold kvB
      rw [List.map_append, List.map_cons, List.map_append]
      exact List.perm_middle
    have hint : (0 : Int) ≤ (i : Int) := by omega
    have hib : (i : Int) ≤ 16 := by have := hok.few; omega
    have hnb : (n : Int) - 1 = ((n - 1 : Nat) : Int) := by omega
    have HI := Lib.hid hidx
    have HD := Lib.hid hdel'
    have HB := Lib.hid hb
    have HM := Lib.hid hm
    have HK := Lib.hid hk
    have HP := Lib.hid hperm
    have HOK := Lib.hid hok
    have HO := Lib.hid ho
    have HDE := Lib.hid hde
    have HND := Lib.hid hnd
    have HNL := Lib.hid hnl
    have HII := Lib.hid hi
    have HR := Lib.hid hr
    clear hidx hdel hdel' hb hm hk hperm hok ho hde hnd hnl hrow hbefore hget hcells hq hr hsp hnd2 hshl hmiss h0 hi hnb
    go_enter Tryz.func83, Tryz.ntmps83
    go_wp2_with (first
      | (go_at_call 112; refine HI.out.mono ?_; rintro e w1 ⟨rfl, rfl⟩)
      | (go_at_call 113; refine HD.out.mono ?_; rintro e w2 ⟨rfl, hq2, hbq⟩; have hb2 := HB.out.old (hbq.block p HB.out.inside (by intro e; injection e with e; exact hqp.1 e.symm)); have hfz := hb2.free 25; have hcz := hb2.cell (pg_tail HOK.out 2); have hcm := (hb2.put 25 (.slice (some ⟨q, 0, none⟩) (n - 1) c)); rw [pg_set HOK.out 2] at hcm; have hcm2 : Bk (w2.setCell ⟨p, 25, none⟩ (.slice (some ⟨q, 0, none⟩) (n - 1) c)) p tPgr (pgCells f m mb kb (.slice (some ⟨q, 0, none⟩) (n - 1) c)) := hcm; have hcn := hcm2.cell (pg_tail HOK.out 1); have hk3 : MapOf Tryz.prog tI (w2.setCell ⟨p, 25, none⟩ (.slice (some ⟨q, 0, none⟩) (n - 1) c)) kb (kvB m.sh) := HK.out.old ((Below.heap_setCell w2 ⟨p, 25, none⟩ _ kb (fun e => hpm.2.1 e.symm)).trans (hbq.block kb HK.out.inside (by intro e; injection e with e; exact hqp.2.2 e.symm))); have HCM := Lib.hid hcm2; have HQ2 := Lib.hid hq2; have HBQ := Lib.hid hbq; clear hq2 hbq hb2 hcm hcm2)
      | (at_delete; refine wpList_drop_hit _ rfl _ _ tMapB tI rfl tBlk intKey Tryz.underlying65 kb _ (kvB (l1 ++ l2)) (blkV b) rfl hk3 (.int .i64 (no : Nat)) _ rfl (key_int no (by omega)) HP.out ?_; intro w4 hm4 hb4))
    go_end0
    have hbp := But.put (g := p) (i := 25) w2 (.slice (some ⟨q, 0, none⟩) (n - 1) c)
    have hall : ∀ x, x < w1.heap.size → x ≠ q → x ≠ p → x ≠ kb → w4.heap[x]? = w1.heap[x]? := fun x hx h1 h2 h3 => by
      have e1 := HBQ.out.block x hx (by intro e; injection e with e; exact h1 e)
      have s1 := Nat.lt_of_lt_of_le hx HBQ.out.size
      have e2 := hbp.block x s1 (by intro e; injection e with e; exact h2 e)
      have s2 := Nat.lt_of_lt_of_le s1 hbp.size
      exact (hb4.block x s2 (by intro e; injection e with e; exact h3 e)).trans (e2.trans e1)
    refine ⟨rfl, [p, mb, kb, q], ⟨mb, kb, some ⟨q, 0, none⟩, n - 1, c, [q], rfl, HND.out, ?_, ?_, ?_, ?_, ⟨HOK.out.hd, HOK.out.last, HOK.out.ch, dropE_ok HOK.out.sh, ?_, HOK.out.rd⟩⟩, ?_⟩
    · exact HCM.out.old (hb4.block p HCM.out.inside (by intro e; injection e with e; exact hpm.2.1 e))
    · exact HM.out.old (hall mb HM.out.inside (Ne.symm hqp.2.1) (Ne.symm hpm.1) hpm.2.2)
    · show MapOf _ _ _ _ (kvB (dropE m.sh no))
      rw [HDE.out]
      exact hm4
    · have hn := HNL.out
      have hi := HII.out
      have hr := HR.out
      refine ⟨?_, ?_, HO.out.2.2.1, .inr ⟨q, iv 0 :: rest, rfl, rfl, ?_, ?_⟩⟩
      · show ((dropE m.sh no).map Prod.fst).length = n - 1
        rw [HDE.out, List.length_map, List.length_append]; omega
      · omega
      · show Bk w4 q tI (((dropE m.sh no).map Prod.fst).map (fun (x : Nat) => iv (x : Int)) ++ iv 0 :: rest)
        rw [HDE.out, fst_i]
        have hs : q < w2.heap.size := HQ2.out.inside
        exact HQ2.out.old ((hb4.block q (Nat.lt_of_lt_of_le hs hbp.size) (by intro e; injection e with e; exact hqp.2.2 e)).trans (hbp.block q hs (by intro e; injection e with e; exact hqp.1 e)))
      · rw [List.length_cons]; omega
    · show (dropE m.sh no).length ≤ 16
      have := List.length_filter_le (fun e : Ent => decide (e.1 ≠ no)) m.sh
      have h2 := HOK.out.few
      unfold dropE
      omega
    · exact ((vfs.Turn.but HBQ.out (by simp)).trans (vfs.Turn.but hbp (by simp))).trans (vfs.Turn.but hb4 (by simp))
end Go.Proofs.YtcdehklcdipcfaaGreat.pgrp
/-
  What a pager keeps: keep. My own text.
-/
namespace Go.Proofs.YtcdehklcdipcfaaGreat.pgrp
open Go.RowKit Go.Maps Go.Proofs.YtcdehklcdipcfaaGreat.base Go.Proofs.YtcdehklcdipcfaaGreat.num Go.Proofs.YtcdehklcdipcfaaGreat.word Go.Proofs.YtcdehklcdipcfaaGreat.pagn Go.Proofs.YtcdehklcdipcfaaGreat.pgr Go.Proofs.YtcdehklcdipcfaaGreat.waln Go.Proofs.YtcdehklcdipcfaaGreat.walp Go.Proofs.YtcdehklcdipcfaaGreat.pagp
open Go.Proofs.YtcdehklcdipcfaaGreat.vfs (FsAt fsPtr Did tFS intKey key_int)
set_option linter.unusedVariables false
set_option linter.unusedSimpArgs false

theorem ints_info : (Tryz.prog.info? tI).map (fun i => (i.zero, i.size, i.bytes)) = some (some (.int .i64 0), 1, 8) := by kernel_rfl
theorem tail_drop {l : List Ent} (h : EntNd l) (e : Ent) (r : List Ent) (hl : l = e :: r) : dropE l e.1 = l.tail := by
  subst hl
  exact dropE_mid (l1 := []) h
/-- one more is kept: the map has it, the row its number -/
theorem MemAt.kept {w w4 w6 : World} {p f mb kb n c q2 c2 : Nat} {A : Option Addr} {ob : List Nat} {m : Mm} {no : Nat} {b : Bs}
    (hnd : (p :: mb :: kb :: ob).Nodup) (hb : Bk w p tPgr (pgCells f m mb kb (.slice A n c))) (hm : MapOf Tryz.prog tI w mb (kvB m.ch)) (hok : m.Ok) (hno : no ≤ 65536) (hbl : b.length = 508) (hn : m.sh.length ≤ 15)
    (hk4 : MapOf Tryz.prog tI w4 kb ((Value.int .i64 (no : Nat), blkV b) :: kvB m.sh)) (hb4 : But kb w w4) (hob : (Value.slice A n c).ownBlock.toList = ob)
    (hown : Own w6 0 tI (some ⟨q2, 0, none⟩) (n + 1) c2 ((m.sh.map Prod.fst).map (fun (x : Nat) => iv (x : Int)) ++ [iv (no : Int)]))
    (hg6 : w4.grownBy w6 (Value.slice A n c).ownBlock) (hat : (Value.slice A n c).ownBlock = some q2 ∨ w4.heap.size ≤ q2) :
    ∃ bl', MemAt (w6.setCell ⟨p, 25, none⟩ (.slice (some ⟨q2, 0, none⟩) (n + 1) c2)) p f { m with sh := m.sh ++ [(no, b)] } bl' ∧ VTurn (p :: mb :: kb :: ob) bl' w (w6.setCell ⟨p, 25, none⟩ (.slice (some ⟨q2, 0, none⟩) (n + 1) c2)) := by
  have hpm : p ≠ mb ∧ p ≠ kb ∧ mb ≠ kb := by
    simp only [List.nodup_cons, List.mem_cons] at hnd
    exact ⟨fun e => hnd.1 (.inl e), fun e => hnd.1 (.inr (.inl e)), fun e => hnd.2.1 (.inl e)⟩
  have hobn : ∀ x ∈ ob, x ≠ p ∧ x ≠ mb ∧ x ≠ kb := fun x hx => by
    simp only [List.nodup_cons, List.mem_cons] at hnd
    exact ⟨fun e => hnd.1 (.inr (.inr (e ▸ hx))), fun e => hnd.2.1 (.inr (e ▸ hx)), fun e => hnd.2.2.1 (e ▸ hx)⟩
  have hnotin : ∀ x, x = p ∨ x = mb ∨ x = kb → (Value.slice A n c).ownBlock ≠ some x := fun x hx e => by
    have h1 : x ∈ ob := by rw [← hob, e]; simp
    have h2 := hobn x h1
    rcases hx with rfl | rfl | rfl
    · exact h2.1 rfl
    · exact h2.2.1 rfl
    · exact h2.2.2 rfl
  have hq2 : q2 ≠ p ∧ q2 ≠ mb ∧ q2 ≠ kb := by
    have ip := hb.inside
    have im := hm.inside
    have ik := hk4.inside
    have is := hb4.size
    rcases hat with h | h
    · exact ⟨fun e => hnotin p (.inl rfl) (by rw [h, e]), fun e => hnotin mb (.inr (.inl rfl)) (by rw [h, e]), fun e => hnotin kb (.inr (.inr rfl)) (by rw [h, e])⟩
    · exact ⟨by omega, by omega, by omega⟩
  have hk6 : ∀ x, x < w.heap.size → x = p ∨ x = mb → w6.heap[x]? = w.heap[x]? := fun x hx hxp => by
    have e1 := hb4.block x hx (by intro e; injection e with e; rcases hxp with rfl | rfl; exact hpm.2.1 e; exact hpm.2.2 e)
    exact (hg6.block x (Nat.lt_of_lt_of_le hx hb4.size) (fun e => hnotin x (by rcases hxp with h | h; exact .inl h; exact .inr (.inl h)) e.symm)).trans e1
  have hbp := But.put (g := p) (i := 25) w6 (.slice (some ⟨q2, 0, none⟩) (n + 1) c2)
  have hb6 : Bk w6 p tPgr (pgCells f m mb kb (.slice A n c)) := hb.old (hk6 p hb.inside (.inl rfl))
  have hb7 := hb6.put 25 (.slice (some ⟨q2, 0, none⟩) (n + 1) c2)
  rw [pg_set hok 2] at hb7
  have hown' : Own w6 0 tI (some ⟨q2, 0, none⟩) (n + 1) c2 (((m.sh ++ [(no, b)]).map Prod.fst).map (fun (x : Nat) => iv (x : Int))) := by
    rw [List.map_append, List.map_append]; exact hown
  have ho := OrdAt.of_own hown'
  have hobe : (Value.slice (some ⟨q2, 0, none⟩) (n + 1) c2).ownBlock.toList = [q2] := rfl
  rw [hobe] at ho
  refine ⟨[p, mb, kb, q2], ⟨mb, kb, _, _, _, [q2], rfl, ?_, hb7, ?_, ?_, ?_, ⟨hok.hd, hok.last, hok.ch, ?_, ?_, hok.rd⟩⟩, ?_⟩
  · simp only [List.nodup_cons, List.mem_cons, List.not_mem_nil, or_false, not_false_eq_true, List.nodup_nil, and_true]
    exact ⟨by rintro (e | e | e); exact hpm.1 e; exact hpm.2.1 e; exact hq2.1 e.symm, by rintro (e | e); exact hpm.2.2 e; exact hq2.2.1 e.symm, fun e => hq2.2.2 e.symm⟩
  · exact hm.old ((Below.heap_setCell w6 ⟨p, 25, none⟩ _ mb (Ne.symm hpm.1)).trans (hk6 mb hm.inside (.inr rfl)))
  · have h1 : MapOf Tryz.prog tI w6 kb ((Value.int .i64 (no : Nat), blkV b) :: kvB m.sh) := hk4.old (hg6.block kb hk4.inside (fun e => hnotin kb (.inr (.inr rfl)) e.symm))
    have h2 := h1.old (w' := w6.setCell ⟨p, 25, none⟩ (.slice (some ⟨q2, 0, none⟩) (n + 1) c2)) (Below.heap_setCell w6 ⟨p, 25, none⟩ _ kb (Ne.symm hpm.2.1))
    refine h2.perm ?_
    unfold kvB
    rw [List.map_append]
    exact (List.perm_append_singleton _ _).symm
  · exact ho.keep fun x hx => by rw [List.mem_singleton] at hx; subst hx; exact Below.heap_setCell w6 ⟨p, 25, none⟩ _ x hq2.1
  · intro e he
    rcases List.mem_append.1 he with he | he
    · exact hok.sh e he
    · rw [List.mem_singleton] at he; subst he; exact ⟨hno, hbl⟩
  · show (m.sh ++ [(no, b)]).length ≤ 16
    rw [List.length_append]; simp; omega
  · refine (((vfs.Turn.but hb4 (by simp)).trans (vfs.Turn.of_grown hg6 (fun x hx => by rw [← hob, hx]; simp))).trans (vfs.Turn.but hbp (by simp))).to fun x hx => ?_
    simp only [List.mem_cons, List.not_mem_nil, or_false] at hx ⊢
    rcases hx with rfl | rfl | rfl | rfl
    · exact .inl (.inl rfl)
    · exact .inl (.inr (.inl rfl))
    · exact .inl (.inr (.inr (.inl rfl)))
    · rcases hat with h | h
      · exact .inl (.inr (.inr (.inr (by rw [← hob, h]; simp))))
      · exact .inr (Nat.le_trans hb4.size h)
theorem grown_trans {a b c : World} {r : Option Nat} (h : a.grownBy b r) (k : b.grownBy c r) : a.grownBy c r :=
  ⟨k.os.trans h.os, k.tape.trans h.tape, k.output.trans h.output, Nat.le_trans h.size k.size, fun i hi hne => (k.block i (Nat.lt_of_lt_of_le hi h.size) hne).trans (h.block i hi hne)⟩
theorem pg_apart {p mb kb n c : Nat} {A : Option Addr} {ob : List Nat} (hnd : (p :: mb :: kb :: ob).Nodup) (hob : (Value.slice A n c).ownBlock.toList = ob) :
    p ≠ mb ∧ p ≠ kb ∧ mb ≠ kb ∧ some p ≠ (Value.slice A n c).ownBlock ∧ some kb ≠ (Value.slice A n c).ownBlock ∧ kb ∉ ob := by
  simp only [List.nodup_cons, List.mem_cons] at hnd
  refine ⟨fun e => hnd.1 (.inl e), fun e => hnd.1 (.inr (.inl e)), fun e => hnd.2.1 (.inl e), fun e => ?_, fun e => ?_, hnd.2.2.1⟩
  · exact hnd.1 (.inr (.inr (by rw [← hob, ← e]; simp)))
  · exact hnd.2.2.1 (by rw [← hob, ← e]; simp)
theorem keep_len {l : List Ent} {no : Nat} (h : l.length ≤ 16) : (dropE l no).length ≤ 16 := Nat.le_trans (List.length_filter_le _ _) h
set_option maxRecDepth 100000 in
set_option maxHeartbeats 4000000 in
theorem keep_any (w : World) (p f : Nat) (m : Mm) (bl : List Nat) (h : MemAt w p f m bl) (no : Nat) (b : Bs) (hno : no ≤ 65536) (hbl : b.length = 508) :
    Calls Tryz.prog 84 #[shPtr p, .int .i64 no, blkV b] w (MDid w p f bl (.tuple #[]) { m with sh := keepE m.sh no b }) := by
  obtain ⟨i0, hi0, hz0, hz1, hz2⟩ := info_parts ints_info
  have hd := fun W (q : Fresh w W) => drop_any W p f m bl (h.fresh q) no hno
  have hbx := Bk.made w tBlk (b.map bv).toArray
  rw [List.toList_toArray] at hbx
  have hin := h.inside
  have hX : (b.map bv).length = 508 := by rw [List.length_map, hbl]
  have hMok : m.Ok := by obtain ⟨_, _, _, _, _, _, _, _, _, _, _, _, hok⟩ := h; exact hok
  have hnd0 : EntNd m.sh := by obtain ⟨_, _, _, _, _, _, _, _, _, _, hk, _, _⟩ := h; exact nd_of_map hk
  have hdl := keep_len (no := no) hMok.few
  obtain ⟨d, hde⟩ : ∃ d, dropE m.sh no = d := ⟨_, rfl⟩
  have hdnd : EntNd d := by rw [← hde]; exact dropE_nd hnd0
  have hdne : ∀ e ∈ d, e.1 ≠ no := by rw [← hde]; exact dropE_ne
  rw [hde] at hd hdl
  have hke : keepE m.sh no b = (if d.length = 16 then d.tail else d) ++ [(no, b)] := by unfold keepE; rw [hde]
  rw [hke]
  have HD := Lib.hid hd
  have HBX := Lib.hid hbx
  have HIN := Lib.hid hin
  have HX := Lib.hid hX
  have HOK := Lib.hid hMok
  clear hd hbx hin h hke hMok
  unfold blkV
  by_cases h16 : d.length = 16
  · rw [if_pos h16]
    obtain ⟨e0, r, hdr⟩ : ∃ e0 r, d = e0 :: r := by
      cases d with
      | nil => simp at h16
      | cons e0 r => exact ⟨e0, r, rfl⟩
    have htl : dropE d e0.1 = d.tail := tail_drop hdnd e0 r hdr
    have hl15 : d.tail.length ≤ 15 := by rw [List.length_tail]; omega
    have hmisst := kv_miss (l := d.tail) (n := no) (fun e he => hdne e (List.mem_of_mem_tail he))
    have HMT := Lib.hid hmisst
    have hdok : EntOk d := by rw [← hde]; exact dropE_ok HOK.out.sh
    have he0 : e0.1 ≤ 65536 := (hdok e0 (by rw [hdr]; simp)).1
    clear hmisst
    generalize d.tail = dt at *
    go_enter Tryz.func84, Tryz.ntmps84
    go_upto_region 2 with (go_at_call 83; refine (HD.out _ (Fresh.alloc _ _)).mono ?_; rintro e w1 ⟨rfl, bl1, hM1, hT1⟩)
    have hb1 := HBX.out.old (hT1.block w.heap.size (by simp) (fun hm => by have := HIN.out _ hm; omega))
    have HB1 := Lib.hid hb1
    have hnot : w.heap.size ∉ bl1 := fun hm => by
      rcases hT1.sub _ hm with h | h
      · have := HIN.out _ h; omega
      · simp at h
        omega
    have HNOT := Lib.hid hnot
    have HT1 := Lib.hid hT1
    have hd2 := drop_any w1 p f _ bl1 hM1 e0.1 he0
    simp only [] at hd2
    rw [htl] at hd2
    have HD2 := Lib.hid hd2
    clear hb1 hT1 hd2 hnot
    obtain ⟨mb, kb, A, n, c, ob, hbleq, hnd, hb, hm, hk, ho, hok⟩ := hM1
    have hn : n = d.length := by have := ho.1; rw [List.length_map] at this; exact this.symm
    subst hn
    have hc2 := hb.cell (pg_tail hok 2)
    have hnb : (((d.length : Nat) : Int) == 16) = true := by rw [h16]; rfl
    obtain ⟨q, rest, rfl, rfl, hq, hr⟩ : ∃ q rest, A = some ⟨q, 0, none⟩ ∧ ob = [q] ∧ Bk w1 q tI ((d.map Prod.fst).map (fun (x : Nat) => iv (x : Int)) ++ rest) ∧ d.length + rest.length = c := by
      rcases ho.2.2.2 with ⟨_, hc, _⟩ | h
      · have := ho.2.1; omega
      · exact h
    have hq0 : w1.cell? ⟨q, 0, none⟩ = some (.int .i64 (e0.1 : Nat)) := hq.cell (by rw [hdr]; rfl)
    rw [h16] at hc2
    clear hnd hb hm hk ho hok hq hr hdr hnb htl
    go_upto_region 4 with (go_at_call 83; refine HD2.out.mono ?_; rintro e w2 ⟨rfl, bl2, hM2, hT2⟩)
    clear hc2 hq0
    have hb2 := HB1.out.old (hT2.block w.heap.size HB1.out.inside HNOT.out)
    have HB2 := Lib.hid hb2
    have HTX := Lib.hid (HT1.out.trans hT2)
    clear hb2 hT2 hbleq
    obtain ⟨mb, kb, A, n, c, ob, rfl, hnd, hb, hm, hk, ho, hok⟩ := hM2
    have hn : n = dt.length := by have := ho.1; rw [List.length_map] at this; exact this.symm
    subst hn
    have hc1 := hb.cell (pg_tail hok 1)
    have hc2 := hb.cell (pg_tail hok 2)
    have hobin : ∀ x ∈ ob, x < w2.heap.size := fun x hx => by
      rcases ho.2.2.2 with ⟨_, _, rfl⟩ | ⟨q, rest, _, rfl, hq, _⟩
      · cases hx
      · rw [List.mem_singleton] at hx; subst hx; exact hq.inside
    have HOB := Lib.hid hobin
    clear hobin
    refine wp_region_still_tail 6 (by kernel_rfl) (by kernel_rfl) ?_
    simp only [List.take_succ_cons, List.take_zero, List.drop_succ_cons, List.drop_zero]
    iterate 5 still_step
    refine wpStill_load_blk rfl tBlk (.tmp 5) rfl w.heap.size 0 508 tBlk _ rfl (HB2.out.fresh (Fresh.drew _)) (by rw [HX.out]; exact Nat.le_refl _) _ Tryz.underlying92 rfl size_blk (b.map bv) (by rw [List.drop_zero, List.take_of_length_le (by rw [HX.out]; exact Nat.le_refl _)]) ?_
    refine wpStill_nil ?_
    have hown := ho.own
    have hap := pg_apart hnd hown.2
    have HB := Lib.hid hb
    have HO := Lib.hid ho
    have HM := Lib.hid hm
    have HND := Lib.hid hnd
    have HK := Lib.hid (hk.old (w' := w2.drew) rfl)
    have HOW := Lib.hid hown
    have HAP := Lib.hid hap
    have HOKd := Lib.hid hok
    clear hb ho hm hnd hk hown hap hok
    go_wp2_with (first
      | (at_mapUpdate; refine wpList_put_new _ rfl _ _ _ tMapB rfl tI tBlk intKey Tryz.underlying65 kb (kvB dt) rfl HK.out (.int .i64 (no : Nat)) (.agg (b.map bv).toArray) _ rfl rfl (key_int no (by omega)) HMT.out ?_; intro w4 hk4 hb4; have HK4 := Lib.hid hk4; have HB4 := Lib.hid (show But kb w2 w4 from ⟨hb4.os, hb4.tape, hb4.output, hb4.size, hb4.block⟩); have hbb4 := HB.out.old (HB4.out.block p HB.out.inside (by intro e; injection e with e; exact HAP.out.2.1 e)); have hd2 := hbb4.cell (pg_tail HOKd.out 2); have HBB4 := Lib.hid hbb4; have hown4 := (HO.out.keep (w' := w4) fun x hx => HB4.out.block x (HOB.out x hx) (by intro e; injection e with e; exact HAP.out.2.2.2.2.2 (e ▸ hx))).own; have HOW4 := Lib.hid hown4.1; clear hk4 hb4 hbb4 hown4)
      | (at_builtin; refine wpList_append_lies _ rfl (.tmp 33) (.tmp 35) tInts rfl 0 tI i0 (.int .i64 0) 1 8 Tryz.underlying53 hi0 hz0 hz1 hz2 rfl (by omega) (.slice A dt.length c) dt.length _ rfl (HOW4.out.alloc _) ⟨w4.heap.size, 0, none⟩ 1 1 [.int .i64 (no : Nat)] rfl rfl (World.news_of_block (heap_alloc_new w4 _)) (iv_one [(no : Int)]) (by omega) (by unfold maxLen; omega) (by omega) (Nat.zero_le _) (w4.heap.size + 1) (by simp) ?_; intro q2 c2 w6 hown6 hg6 hat6 hlt6; have HG6 := Lib.hid (grown_trans (Fresh.grown (Fresh.alloc w4 (.cells #[.int .i64 (no : Nat)] tI)) _) hg6); have hbb6 := HBB4.out.old (HG6.out.block p HBB4.out.inside HAP.out.2.2.2.1); have hf6 := hbb6.free 25; have he2 := hbb6.cell (pg_tail HOKd.out 2); have HOW6 := Lib.hid hown6; have HAT6 := Lib.hid hat6; clear hbb6 hown6 hg6 hat6))
    go_end0
    have hkp := MemAt.kept (m := { m with sh := dt }) HND.out HB.out HM.out HOKd.out hno hbl hl15 HK4.out HB4.out HOW.out.2 HOW6.out HG6.out (HAT6.out.imp id (fun e => by omega))
    obtain ⟨bl', h1, h2⟩ := hkp
    exact ⟨rfl, bl', h1, ((vfs.Turn.fresh (Fresh.alloc _ _)).trans HTX.out).trans h2⟩
  · rw [if_neg h16]
    have hl15 : d.length ≤ 15 := by omega
    have hmiss := kv_miss hdne
    have HMS := Lib.hid hmiss
    clear hmiss
    go_enter Tryz.func84, Tryz.ntmps84
    go_upto_region 2 with (go_at_call 83; refine (HD.out _ (Fresh.alloc _ _)).mono ?_; rintro e w1 ⟨rfl, bl1, hM1, hT1⟩)
    have hb1 := HBX.out.old (hT1.block w.heap.size (by simp) (fun hm => by have := HIN.out _ hm; omega))
    have HB1 := Lib.hid hb1
    have HT1 := Lib.hid hT1
    clear hb1 hT1
    obtain ⟨mb, kb, A, n, c, ob, rfl, hnd, hb, hm, hk, ho, hok⟩ := hM1
    have hn : n = d.length := by have := ho.1; rw [List.length_map] at this; exact this.symm
    subst hn
    have hc1 := hb.cell (pg_tail hok 1)
    have hc2 := hb.cell (pg_tail hok 2)
    have hnn : ((d.length : Nat) : Int) ≠ 16 := by omega
    have hnb : (((d.length : Nat) : Int) == 16) = false := by simpa using hnn
    have hobin : ∀ x ∈ ob, x < w1.heap.size := fun x hx => by
      rcases ho.2.2.2 with ⟨_, _, rfl⟩ | ⟨q, rest, _, rfl, hq, _⟩
      · cases hx
      · rw [List.mem_singleton] at hx; subst hx; exact hq.inside
    have HOB := Lib.hid hobin
    clear hobin
    go_upto_region 4 with (fail)
    refine wp_region_still_tail 6 (by kernel_rfl) (by kernel_rfl) ?_
    simp only [List.take_succ_cons, List.take_zero, List.drop_succ_cons, List.drop_zero]
    iterate 5 still_step
    refine wpStill_load_blk rfl tBlk (.tmp 5) rfl w.heap.size 0 508 tBlk _ rfl (HB1.out.fresh (Fresh.drew _)) (by rw [HX.out]; exact Nat.le_refl _) _ Tryz.underlying92 rfl size_blk (b.map bv) (by rw [List.drop_zero, List.take_of_length_le (by rw [HX.out]; exact Nat.le_refl _)]) ?_
    refine wpStill_nil ?_
    have hown := ho.own
    have hap := pg_apart hnd hown.2
    have HB := Lib.hid hb
    have HO := Lib.hid ho
    have HM := Lib.hid hm
    have HND := Lib.hid hnd
    have HK := Lib.hid (hk.old (w' := w1.drew) rfl)
    have HOW := Lib.hid hown
    have HAP := Lib.hid hap
    have HOKd := Lib.hid hok
    clear hb ho hm hnd hk hown hap hok
    go_wp2_with (first
      | (at_mapUpdate; refine wpList_put_new _ rfl _ _ _ tMapB rfl tI tBlk intKey Tryz.underlying65 kb (kvB d) rfl HK.out (.int .i64 (no : Nat)) (.agg (b.map bv).toArray) _ rfl rfl (key_int no (by omega)) HMS.out ?_; intro w4 hk4 hb4; have HK4 := Lib.hid hk4; have HB4 := Lib.hid (show But kb w1 w4 from ⟨hb4.os, hb4.tape, hb4.output, hb4.size, hb4.block⟩); have hbb4 := HB.out.old (HB4.out.block p HB.out.inside (by intro e; injection e with e; exact HAP.out.2.1 e)); have hd2 := hbb4.cell (pg_tail HOKd.out 2); have HBB4 := Lib.hid hbb4; have hown4 := (HO.out.keep (w' := w4) fun x hx => HB4.out.block x (HOB.out x hx) (by intro e; injection e with e; exact HAP.out.2.2.2.2.2 (e ▸ hx))).own; have HOW4 := Lib.hid hown4.1; clear hk4 hb4 hbb4 hown4)
      | (at_builtin; refine wpList_append_lies _ rfl (.tmp 33) (.tmp 35) tInts rfl 0 tI i0 (.int .i64 0) 1 8 Tryz.underlying53 hi0 hz0 hz1 hz2 rfl (by omega) (.slice A d.length c) d.length _ rfl (HOW4.out.alloc _) ⟨w4.heap.size, 0, none⟩ 1 1 [.int .i64 (no : Nat)] rfl rfl (World.news_of_block (heap_alloc_new w4 _)) (iv_one [(no : Int)]) (by omega) (by unfold maxLen; omega) (by omega) (Nat.zero_le _) (w4.heap.size + 1) (by simp) ?_; intro q2 c2 w6 hown6 hg6 hat6 hlt6; have HG6 := Lib.hid (grown_trans (Fresh.grown (Fresh.alloc w4 (.cells #[.int .i64 (no : Nat)] tI)) _) hg6); have hbb6 := HBB4.out.old (HG6.out.block p HBB4.out.inside HAP.out.2.2.2.1); have hf6 := hbb6.free 25; have he2 := hbb6.cell (pg_tail HOKd.out 2); have HOW6 := Lib.hid hown6; have HAT6 := Lib.hid hat6; clear hbb6 hown6 hg6 hat6))
    go_end0
    have hkp := MemAt.kept (m := { m with sh := d }) HND.out HB.out HM.out HOKd.out hno hbl hl15 HK4.out HB4.out HOW.out.2 HOW6.out HG6.out (HAT6.out.imp id (fun e => by omega))
    obtain ⟨bl', h1, h2⟩ := hkp
    exact ⟨rfl, bl', h1, ((vfs.Turn.fresh (Fresh.alloc _ _)).trans HT1.out).trans h2⟩
end Go.Proofs.YtcdehklcdipcfaaGreat.pgrp
/-
  pager's state, change, turn, giveUp. My own text.
-/
namespace Go.Proofs.YtcdehklcdipcfaaGreat.pgrp
open Go.RowKit Go.Maps Go.Proofs.YtcdehklcdipcfaaGreat.base Go.Proofs.YtcdehklcdipcfaaGreat.num Go.Proofs.YtcdehklcdipcfaaGreat.word Go.Proofs.YtcdehklcdipcfaaGreat.pagn Go.Proofs.YtcdehklcdipcfaaGreat.pgr Go.Proofs.YtcdehklcdipcfaaGreat.waln Go.Proofs.YtcdehklcdipcfaaGreat.walp Go.Proofs.YtcdehklcdipcfaaGreat.pagp
open Go.Proofs.YtcdehklcdipcfaaGreat.vfs (FsAt fsPtr Did tFS intKey key_int)
set_option linter.unusedVariables false
set_option linter.unusedSimpArgs false

theorem state_nil (w : World) : Calls Tryz.prog 40 #[.pointer none] w fun e w' => e = .returned (.int .i64 2) ∧ w = w' := by
  go_enter Tryz.func40, Tryz.ntmps40
  go_wp2
  go_ret
  exact ⟨rfl, rfl⟩
theorem state_any (w : World) (p f : Nat) (m : Mm) (bl : List Nat) (h : MemAt w p f m bl) (hd : m.dead = false) : Calls Tryz.prog 40 #[pgPtr p] w fun e w' => e = .returned (.int .i64 0) ∧ w = w' := by
  obtain ⟨mb, kb, A, n, c, ob, rfl, hnd, hb, hm, hk, ho, hok⟩ := h
  have hc := hb.cell (pg_tail hok 4)
  rw [hd] at hc
  clear hnd hb hm hk ho hok hd
  go_enter Tryz.func40, Tryz.ntmps40
  go_wp2
  go_ret
  exact ⟨rfl, rfl⟩
theorem putE_ok {l : List Ent} {no : Nat} {b : Bs} (h : EntOk l) (hno : no ≤ 65536) (hb : b.length = 508) : EntOk (putE l no b) := fun e he => by
  rcases List.mem_cons.1 he with rfl | he
  · exact ⟨hno, hb⟩
  · exact dropE_ok h e he
/-- the map of the changed pages turns -/
theorem MemAt.chput {w w' : World} {p f mb kb n c : Nat} {A : Option Addr} {ob : List Nat} {m : Mm} {ch : List Ent}
    (hnd : (p :: mb :: kb :: ob).Nodup) (hb : Bk w p tPgr (pgCells f m mb kb (.slice A n c))) (hk : MapOf Tryz.prog tI w kb (kvB m.sh)) (ho : OrdAt w A n c (m.sh.map Prod.fst) ob) (hok : m.Ok)
    (hm' : MapOf Tryz.prog tI w' mb (kvB ch)) (hbut : But mb w w') (hch : EntOk ch) :
    MemAt w' p f { m with ch := ch } (p :: mb :: kb :: ob) ∧ VTurn (p :: mb :: kb :: ob) (p :: mb :: kb :: ob) w w' := by
  have hap := pg_apart hnd ho.own.2
  have hobn : ∀ x ∈ ob, x ≠ mb := fun x hx e => by
    simp only [List.nodup_cons, List.mem_cons] at hnd
    exact hnd.2.1 (.inr (e ▸ hx))
  have hin : ∀ x ∈ ob, x < w.heap.size := fun x hx => by
    rcases ho.2.2.2 with ⟨_, _, rfl⟩ | ⟨q, rest, _, rfl, hq, _⟩
    · cases hx
    · rw [List.mem_singleton] at hx; subst hx; exact hq.inside
  refine ⟨⟨mb, kb, A, n, c, ob, rfl, hnd, ?_, hm', ?_, ?_, ⟨hok.hd, hok.last, hch, hok.sh, hok.few, hok.rd⟩⟩, vfs.Turn.but hbut (by simp)⟩
  · exact hb.old (hbut.block p hb.inside (by intro e; injection e with e; exact hap.1 e))
  · exact hk.old (hbut.block kb hk.inside (by intro e; injection e with e; exact hap.2.2.1 e.symm))
  · exact ho.keep fun x hx => hbut.block x (hin x hx) (by intro e; injection e with e; exact hobn x hx e)
set_option maxRecDepth 100000 in
set_option maxHeartbeats 4000000 in
theorem change_any (w : World) (p f : Nat) (m : Mm) (bl : List Nat) (h : MemAt w p f m bl) (no : Nat) (b : Bs) (hno : no ≤ 65536) (hbl : b.length = 508) :
    Calls Tryz.prog 53 #[pgPtr p, .int .i64 no, blkV b] w (MDid w p f bl (.tuple #[]) { m with ch := putE m.ch no b, sh := dropE m.sh no }) := by
  have hh := h.fresh (Fresh.alloc w (.cells (b.map bv).toArray tBlk))
  have hbx := Bk.made w tBlk (b.map bv).toArray
  rw [List.toList_toArray] at hbx
  obtain ⟨mb, kb, A, n, c, ob, rfl, hnd, hb, hm, hk, ho, hok⟩ := hh
  have hc0 := hb.cell (pg_tail hok 0)
  have hX : (b.map bv).length = 508 := by rw [List.length_map, hbl]
  have hchok := putE_ok (b := b) hok.ch hno hbl
  have hput := fun w4 (q : But mb (w.alloc (.cells (b.map bv).toArray tBlk)) w4) (hm4 : MapOf Tryz.prog tI w4 mb (kvB (putE m.ch no b))) => MemAt.chput hnd hb hk ho hok hm4 q hchok
  have HP := Lib.hid hput
  have HX := Lib.hid hX
  have HB0 := Lib.hid hbx
  have HF := Lib.hid (vfs.Turn.fresh (S := p :: mb :: kb :: ob) (Fresh.alloc w (.cells (b.map bv).toArray tBlk)))
  have hmch := nd_of_map hm
  have HM := Lib.hid (hm.old (w' := (w.alloc (.cells (b.map bv).toArray tBlk)).drew) rfl)
  have HDR := Lib.hid (fun W p f m bl h => drop_any W p f m bl h no hno)
  clear h hnd hb hm hk ho hok hchok hput hX hbx
  unfold blkV
  by_cases hmiss : ∀ e ∈ m.ch, e.1 ≠ no
  · have hpe : putE m.ch no b = (no, b) :: m.ch := by unfold putE; rw [dropE_none hmiss]
    have HPE := Lib.hid hpe
    have HMS := Lib.hid (kv_miss hmiss)
    clear hpe hmiss hmch
    go_enter Tryz.func53, Tryz.ntmps53
    go_upto_region 1 with (fail)
    generalize w.alloc (.cells (b.map bv).toArray tBlk) = W0 at *
    refine wp_region_still_tail 6 (by kernel_rfl) (by kernel_rfl) ?_
    simp only [List.take_succ_cons, List.take_zero, List.drop_succ_cons, List.drop_zero]
    iterate 5 still_step
    refine wpStill_load_blk rfl tBlk (.tmp 5) rfl w.heap.size 0 508 tBlk _ rfl (HB0.out.fresh (Fresh.drew _)) (by rw [HX.out]; exact Nat.le_refl _) _ Tryz.underlying92 rfl size_blk (b.map bv) (by rw [List.drop_zero, List.take_of_length_le (by rw [HX.out]; exact Nat.le_refl _)]) ?_
    refine wpStill_nil ?_
    go_wp2_with (first
      | (at_mapUpdate; refine wpList_put_new _ rfl _ _ _ tMapB rfl tI tBlk intKey Tryz.underlying65 mb (kvB m.ch) rfl HM.out (.int .i64 (no : Nat)) (.agg (b.map bv).toArray) _ rfl rfl (key_int no (by omega)) HMS.out ?_; intro w4 hm4 hb4; have hq := HP.out w4 ⟨hb4.os, hb4.tape, hb4.output, hb4.size, hb4.block⟩ (by rw [HPE.out]; exact hm4); have HQ1 := Lib.hid hq.1; have HQ2 := Lib.hid hq.2; clear hq hm4 hb4)
      | (go_at_call 83; refine (HDR.out _ p f _ _ HQ1.out).mono ?_; rintro e w5 ⟨rfl, bl5, hM5, hT5⟩))
    go_end0
    exact ⟨rfl, bl5, hM5, (HF.out.trans HQ2.out).trans hT5⟩
  · obtain ⟨l1, b0, l2, hsp⟩ := sh_split hmiss
    have hde : dropE m.ch no = l1 ++ l2 := by rw [hsp]; exact dropE_mid (hsp ▸ hmch)
    have hperm : (kvB m.ch).Perm ((Value.int .i64 (no : Nat), blkV b0) :: kvB (dropE m.ch no)) := by
      rw [hde, hsp]
      unfold kvB
      rw [List.map_append, List.map_cons, List.map_append]
      exact List.perm_middle
    have HPR := Lib.hid hperm
    clear hmiss hmch hsp hde hperm
    go_enter Tryz.func53, Tryz.ntmps53
    go_upto_region 1 with (fail)
    generalize w.alloc (.cells (b.map bv).toArray tBlk) = W0 at *
    refine wp_region_still_tail 6 (by kernel_rfl) (by kernel_rfl) ?_
    simp only [List.take_succ_cons, List.take_zero, List.drop_succ_cons, List.drop_zero]
    iterate 5 still_step
    refine wpStill_load_blk rfl tBlk (.tmp 5) rfl w.heap.size 0 508 tBlk _ rfl (HB0.out.fresh (Fresh.drew _)) (by rw [HX.out]; exact Nat.le_refl _) _ Tryz.underlying92 rfl size_blk (b.map bv) (by rw [List.drop_zero, List.take_of_length_le (by rw [HX.out]; exact Nat.le_refl _)]) ?_
    refine wpStill_nil ?_
    go_wp2_with (first
      | (at_mapUpdate; refine wpList_put_old _ rfl _ _ _ tMapB rfl tI tBlk intKey Tryz.underlying65 mb (kvB m.ch) (kvB (dropE m.ch no)) (blkV b0) rfl HM.out (.int .i64 (no : Nat)) (.agg (b.map bv).toArray) _ rfl rfl (key_int no (by omega)) HPR.out ?_; intro w4 hm4 hb4; have hq := HP.out w4 ⟨hb4.os, hb4.tape, hb4.output, hb4.size, hb4.block⟩ hm4; have HQ1 := Lib.hid hq.1; have HQ2 := Lib.hid hq.2; clear hq hm4 hb4)
      | (go_at_call 83; refine (HDR.out _ p f _ _ HQ1.out).mono ?_; rintro e w5 ⟨rfl, bl5, hM5, hT5⟩))
    go_end0
    exact ⟨rfl, bl5, hM5, (HF.out.trans HQ2.out).trans hT5⟩
theorem hd_one (h : Hd) : ∀ v ∈ h.nums.map iv, v.oneCell' = true := iv_one _
theorem pg_splice {f mb kb : Nat} {m : Mm} {ov : Value} (k : m.Ok) {h : Hd} (hk : h.Ok) : splice (pgCells f m mb kb ov) 3 (h.nums.map iv) = pgCells f { m with hd := h } mb kb ov := by
  unfold pgCells splice
  rw [List.take_left' (by rfl), nums10 hk, List.drop_append, List.drop_of_length_le (by simp), List.nil_append]
  have : 3 + 10 - [fsPtr f, Value.string dbN, .string logN].length = (m.hd.nums.map iv).length := by rw [nums10 k.hd]; rfl
  rw [this, List.drop_left' rfl]
theorem pg_splice2 {f mb kb : Nat} {m : Mm} {ov : Value} (k : m.Ok) {h : Hd} (hk : h.Ok) : splice (pgCells f m mb kb ov) 13 (h.nums.map iv) = pgCells f { m with last := h } mb kb ov := by
  have e : pgCells f m mb kb ov = ([fsPtr f, .string dbN, .string logN] ++ m.hd.nums.map iv) ++ (m.last.nums.map iv ++ [.map (some mb), .map (some kb), ov, .int .i64 (m.rd : Nat), .bool m.dead]) := by unfold pgCells; rw [List.append_assoc]
  have hl : ([fsPtr f, Value.string dbN, .string logN] ++ m.hd.nums.map iv).length = 13 := by rw [List.length_append, nums10 k.hd]; rfl
  rw [e]
  unfold splice
  rw [List.take_left' hl, nums10 hk, List.drop_append, List.drop_of_length_le (by rw [hl]; omega), List.nil_append, hl]
  have : 13 + 10 - 13 = (m.last.nums.map iv).length := by rw [nums10 k.last]
  rw [this, List.drop_left' rfl]
  unfold pgCells
  simp only [List.append_assoc]
/-- the pager's own cells turn -/
theorem MemAt.own {w w' : World} {p f mb kb n c : Nat} {A : Option Addr} {ob : List Nat} {m m' : Mm}
    (hnd : (p :: mb :: kb :: ob).Nodup) (hm : MapOf Tryz.prog tI w mb (kvB m.ch)) (hk : MapOf Tryz.prog tI w kb (kvB m.sh)) (ho : OrdAt w A n c (m.sh.map Prod.fst) ob)
    (hb' : Bk w' p tPgr (pgCells f m' mb kb (.slice A n c))) (hbut : But p w w') (hc : m'.ch = m.ch) (hs : m'.sh = m.sh) (hok : m'.Ok) :
    MemAt w' p f m' (p :: mb :: kb :: ob) ∧ VTurn (p :: mb :: kb :: ob) (p :: mb :: kb :: ob) w w' := by
  have hap := pg_apart hnd ho.own.2
  have hobn : ∀ x ∈ ob, x ≠ p := fun x hx e => by
    simp only [List.nodup_cons, List.mem_cons] at hnd
    exact hnd.1 (.inr (.inr (e ▸ hx)))
  have hin : ∀ x ∈ ob, x < w.heap.size := fun x hx => by
    rcases ho.2.2.2 with ⟨_, _, rfl⟩ | ⟨q, rest, _, rfl, hq, _⟩
    · cases hx
    · rw [List.mem_singleton] at hx; subst hx; exact hq.inside
  refine ⟨⟨mb, kb, A, n, c, ob, rfl, hnd, hb', ?_, ?_, ?_, hok⟩, vfs.Turn.but hbut (by simp)⟩
  · rw [hc]; exact hm.old (hbut.block mb hm.inside (by intro e; injection e with e; exact hap.1 e.symm))
  · rw [hs]; exact hk.old (hbut.block kb hk.inside (by intro e; injection e with e; exact hap.2.1 e.symm))
  · rw [hs]; exact ho.keep fun x hx => hbut.block x (hin x hx) (by intro e; injection e with e; exact hobn x hx e)
set_option maxRecDepth 100000 in
set_option maxHeartbeats 4000000 in
theorem turn_any (w : World) (p f : Nat) (m : Mm) (bl : List Nat) (h : MemAt w p f m bl) (hh : Hd) (hk : hh.Ok) :
    Calls Tryz.prog 52 #[pgPtr p, hdV hh] w (MDid w p f bl (.tuple #[]) { m with hd := hh, ch := putE m.ch 0 (hdB hh), sh := dropE m.sh 0 }) := by
  have h1 := h.fresh (Fresh.alloc w (.cells (hh.nums.map iv).toArray tHd))
  have hbx := Bk.made w tHd (hh.nums.map iv).toArray
  rw [List.toList_toArray] at hbx
  have hbne : w.heap.size ∉ bl := fun hm => by have := h.inside _ hm; omega
  obtain ⟨mb, kb, A, n, c, ob, rfl, hnd, hb, hm, hk', ho, hok⟩ := h1
  have hX : (hh.nums.map iv).length = 10 := nums10 hk
  have hown := fun w4 (q : But p (w.alloc (.cells (hh.nums.map iv).toArray tHd)) w4) (hb4 : Bk w4 p tPgr (pgCells f { m with hd := hh } mb kb (.slice A n c))) => MemAt.own (m := m) (m' := { m with hd := hh }) hnd hm hk' ho hb4 q rfl rfl ⟨hk, hok.last, hok.ch, hok.sh, hok.few, hok.rd⟩
  have hsp := pg_splice (f := f) (mb := mb) (kb := kb) (ov := .slice A n c) hok hk
  have hlen := pg_len (f := f) (mb := mb) (kb := kb) (ov := .slice A n c) hok
  have hpw : p ≠ w.heap.size := fun e => hbne (by rw [← e]; simp)
  have hhb := fun W => head_block_any hh hk W
  have hch := fun W p f m bl h => change_any W p f m bl h 0 (hdB hh) (by omega) (hdB_len hk.eight)
  have hone := hd_one hh
  have HO := Lib.hid hown
  have HX := Lib.hid hX
  have HBX := Lib.hid hbx
  have HB := Lib.hid hb
  have HSP := Lib.hid hsp
  have HLEN := Lib.hid hlen
  have HHB := Lib.hid hhb
  have HCH := Lib.hid hch
  have HONE := Lib.hid hone
  have HF := Lib.hid (vfs.Turn.fresh (S := p :: mb :: kb :: ob) (Fresh.alloc w (.cells (hh.nums.map iv).toArray tHd)))
  clear h hnd hb hm hk' ho hok hown hX hbx hsp hlen hhb hch hone hk hbne
  unfold hdV at *
  go_enter Tryz.func52, Tryz.ntmps52
  go_wp2_with (first
    | ((with_reducible refine at_slot_ 5 ?_); refine wpList_load_row (o := ⟨some 5, _, _, _, _, _⟩) rfl tHd (.tmp 3) rfl w.heap.size rfl tHd (hh.nums.map iv).toArray (0, 0) _ HBX.out Tryz.underlying71 rfl (by rw [size_hd, List.size_toArray, HX.out]) ?_)
    | ((with_reducible refine at_store_ 7 5 ?_); refine wpList_store_blk rfl tHd (.tmp 7) (.tmp 5) rfl p 3 tPgr _ (hh.nums.map iv) rfl rfl HB.out (by rw [HX.out, HLEN.out]; omega) HONE.out (by rw [size_hd, HX.out]) ?_; intro w2 hb2 hbu2; rw [HSP.out] at hb2; have hq := HO.out w2 hbu2 hb2; have HQ1 := Lib.hid hq.1; have HQ2 := Lib.hid hq.2; have HBX2 := Lib.hid (HBX.out.old (hbu2.block _ HBX.out.inside (by intro e; injection e with e; exact hpw e.symm))); clear hq hb2 hbu2)
    | ((with_reducible refine at_slot_ 9 ?_); refine wpList_load_row (o := ⟨some 9, _, _, _, _, _⟩) rfl tHd (.tmp 3) rfl w.heap.size rfl tHd (hh.nums.map iv).toArray (0, 0) _ HBX2.out Tryz.underlying71 rfl (by rw [size_hd, List.size_toArray, HX.out]) ?_)
    | (go_at_call 74; refine (HHB.out _).mono ?_; rintro e w3 ⟨rfl, hf3⟩; have HF3 := Lib.hid hf3; clear hf3)
    | (go_at_call 53; refine (HCH.out _ p f _ _ (HQ1.out.fresh HF3.out)).mono ?_; rintro e w4 ⟨rfl, bl4, hM4, hT4⟩))
  go_end0
  exact ⟨rfl, bl4, hM4, ((HF.out.trans HQ2.out).trans (vfs.Turn.fresh HF3.out)).trans hT4⟩
end Go.Proofs.YtcdehklcdipcfaaGreat.pgrp
/-
  pager's look. My own text.
-/
namespace Go.Proofs.YtcdehklcdipcfaaGreat.pgrp
open Go.RowKit Go.Maps Go.Proofs.YtcdehklcdipcfaaGreat.base Go.Proofs.YtcdehklcdipcfaaGreat.num Go.Proofs.YtcdehklcdipcfaaGreat.word Go.Proofs.YtcdehklcdipcfaaGreat.pagn Go.Proofs.YtcdehklcdipcfaaGreat.pgr Go.Proofs.YtcdehklcdipcfaaGreat.waln Go.Proofs.YtcdehklcdipcfaaGreat.walp Go.Proofs.YtcdehklcdipcfaaGreat.pagp
open Go.Proofs.YtcdehklcdipcfaaGreat.vfsnum hiding Bs
open Go.Proofs.YtcdehklcdipcfaaGreat.vfs (FsAt fsPtr Did tFS intKey key_int)
set_option linter.unusedVariables false
set_option linter.unusedSimpArgs false

/-- the store has the pages C -/
structure HasC (a : Fs) (C : List Bs) : Prop where
  ok : FsOk a
  up : a.down = false
  db : ∃ x, getF a.files dbN = some x ∧ x.bs = flat 0 C
  all : All508 C
  few : C.length ≤ 65536
/-- what look tells -/
def LookIs (m : Mm) (C : List Bs) (no : Nat) (b : Bs) (r : Bool) : Prop :=
  (lookE m.ch no = some b ∧ r = false) ∨ (lookE m.ch no = none ∧ lookE m.sh no = some b ∧ r = false) ∨ (lookE m.ch no = none ∧ lookE m.sh no = none ∧ C[no]? = some b ∧ r = true)
theorem pg_files {f mb kb : Nat} {m : Mm} {ov : Value} {i : Nat} (hi : i < 3) : (pgCells f m mb kb ov)[i]? = [fsPtr f, Value.string dbN, .string logN][i]? := by
  unfold pgCells
  rw [List.getElem?_append_left (by simpa using hi)]
theorem blk_one (b : Bs) : ∀ v ∈ b.map bv, v.oneCell' = true := bv_ones b
theorem read_has (w : World) (f : Nat) (a : Fs) (bl : List Nat) (C : List Bs) (no : Nat) (c : Bs) (h : FsAt w f a bl) (hc : HasC a C) (hn : C[no]? = some c) :
    Calls Tryz.prog 110 #[filV f, .int .i64 no] w fun e w' => e = .returned (.tuple #[blkV c, .int .i64 0]) ∧ Fresh w w' := by
  obtain ⟨hok, hup, ⟨x, hx, hxb⟩, hall, hfew⟩ := hc
  have hlt : no < C.length := by
    rcases Nat.lt_or_ge no C.length with h1 | h1
    · exact h1
    · rw [List.getElem?_eq_none h1] at hn; cases hn
  exact read_any w f a bl x no c h hok hup hx (hall c (List.mem_of_getElem? hn)) (by omega) (by rw [hxb]; exact flat_at C hall no c hn) (by rw [hxb, flat_len C 0 hall]; omega)
set_option maxRecDepth 100000 in
set_option maxHeartbeats 4000000 in
theorem look_any (w : World) (p f : Nat) (m : Mm) (bl : List Nat) (h : MemAt w p f m bl) (a : Fs) (b1 : List Nat) (C : List Bs) (hF : FsAt w f a b1) (hC : HasC a C) (no : Nat) (hno : no ≤ 65536) (b : Bs) (r : Bool) (hl : LookIs m C no b r) (hbl : b.length = 508) :
    Calls Tryz.prog 80 #[pgPtr p, .int .i64 no] w fun e w' => e = .returned (.tuple #[blkV b, .bool r, .int .i64 0]) ∧ Fresh w w' := by
  have hin := h.inside
  obtain ⟨mb, kb, A, n, c, ob, rfl, hnd, hb, hm, hk, ho, hok⟩ := h
  have hpw : p < w.heap.size := hb.inside
  have hX : (b.map bv).length = 508 := by rw [List.length_map, hbl]
  have hz := blkZero
  have hzl : (zb.map bv).length = 508 := by rw [List.length_map]; rfl
  have hzo := blk_one zb
  have hone := blk_one b
  have hb0 := Bk.made w tBlk (zb.map bv).toArray
  rw [List.toList_toArray] at hb0
  have hsp : splice (zb.map bv) 0 (b.map bv) = b.map bv := by rw [splice, List.take_zero, List.nil_append, List.drop_of_length_le (by rw [hX, hzl]; omega), List.append_nil]
  have HB := Lib.hid hb
  have HM := Lib.hid hm
  have HK := Lib.hid hk
  have HX := Lib.hid hX
  have HZL := Lib.hid hzl
  have HZO := Lib.hid hzo
  have HONE := Lib.hid hone
  have HB0 := Lib.hid hb0
  have HSP := Lib.hid hsp
  have HOK := Lib.hid hok
  clear hin hnd hb hm hk ho hok hzo hone hb0 hsp
  unfold blkV at hz
  clear hX hzl
  rcases hl with ⟨h1, rfl⟩ | ⟨h1, h2, rfl⟩ | ⟨h1, h2, h3, rfl⟩
  · have HHIT := Lib.hid (kv_hit h1)
    have hm0 : MapOf Tryz.prog tI (w.alloc (.cells (zb.map bv).toArray tBlk)) mb (kvB m.ch) := HM.out.old (Below.heap_alloc w _ mb HM.out.inside)
    have hc0 := (HB.out.alloc (.cells (zb.map bv).toArray tBlk)).cell (pg_tail (f := f) (mb := mb) (kb := kb) (ov := .slice A n c) (m := m) HOK.out 0)
    have HM0 := Lib.hid hm0
    clear hm0
    clear h1 hF hC
    unfold blkV
    go_enter Tryz.func80, Tryz.ntmps80
    go_wp2_with (first
      | ((with_reducible (refine at_slot_ 19 ?_)); refine wpList_look_hit_ok _ rfl _ _ tMapB rfl tI tBlk intKey Tryz.underlying65 mb (kvB m.ch) rfl HM0.out (.int .i64 (no : Nat)) (blkV b) _ rfl (key_int no (by omega)) HHIT.out ?_; unfold blkV)
      | ((with_reducible (refine at_store_ 7 20 ?_)); refine wpList_store_new rfl tBlk (.tmp 7) (.tmp 20) rfl (w.heap.size + 1) (b.map bv) rfl rfl (w.alloc (.cells (zb.map bv).toArray tBlk)) (zb.map bv).toArray tBlk rfl (by simp) (by rw [List.size_toArray, HZL.out, HX.out]) HONE.out (by rw [size_blk, HX.out]) ?_; intro w2 hbw2 hfw2 hltw2; have HBw2 := Lib.hid hbw2; have HFw2 := Lib.hid hfw2; clear hbw2 hfw2 hltw2)
      | ((with_reducible (refine at_slot_ 23 ?_)); refine wpList_load_row (o := ⟨some 23, _, _, _, _, _⟩) rfl tBlk (.tmp 7) rfl (w.heap.size + 1) rfl tBlk (b.map bv).toArray (0, 0) _ HBw2.out Tryz.underlying92 rfl (by rw [size_blk, List.size_toArray, HX.out]) ?_)
      | ((with_reducible (refine at_store_ 4 23 ?_)); refine wpList_store_blk rfl tBlk (.tmp 4) (.tmp 23) rfl w.heap.size 0 tBlk (zb.map bv) (b.map bv) rfl rfl (HB0.out.fresh HFw2.out) (by rw [HX.out, HZL.out]; omega) HONE.out (by rw [size_blk, HX.out]) ?_; intro w8 hg8 hb8; rw [HSP.out] at hg8))
    exact bodyPost_ret (results_row_tmp2 (p := 4) (u := 5) (v := 6) (by kernel_rfl) _ _ w.heap.size tBlk (b.map bv) _ rfl hg8 Tryz.underlying92 rfl (by rw [size_blk, HX.out])) rfl ⟨rfl, ((Fresh.alloc _ _).trans HFw2.out).but (Nat.le_refl _) hb8⟩
  · have HHIT := Lib.hid (kv_hit h2)
    have HMS := Lib.hid (kv_miss (lookE_none h1))
    have hm0 : MapOf Tryz.prog tI (w.alloc (.cells (zb.map bv).toArray tBlk)) mb (kvB m.ch) := HM.out.old (Below.heap_alloc w _ mb HM.out.inside)
    have hc0 := (HB.out.alloc (.cells (zb.map bv).toArray tBlk)).cell (pg_tail (f := f) (mb := mb) (kb := kb) (ov := .slice A n c) (m := m) HOK.out 0)
    have HM0 := Lib.hid hm0
    clear hm0
    clear h1 h2 hF hC
    unfold blkV
    go_enter Tryz.func80, Tryz.ntmps80
    go_wp2_with (first
      | ((with_reducible (refine at_slot_ 19 ?_)); refine wpList_look_miss_ok _ rfl _ _ tMapB rfl tI tBlk intKey Tryz.underlying65 (blkV zb) (blkZero _) mb (kvB m.ch) rfl HM0.out (.int .i64 (no : Nat)) _ rfl (key_int no (by omega)) HMS.out ?_; unfold blkV)
      | ((with_reducible (refine at_store_ 7 20 ?_)); refine wpList_store_new rfl tBlk (.tmp 7) (.tmp 20) rfl (w.heap.size + 1) (zb.map bv) rfl rfl (w.alloc (.cells (zb.map bv).toArray tBlk)) (zb.map bv).toArray tBlk rfl (by simp) (by rw [List.size_toArray]) HZO.out (by rw [size_blk, HZL.out]) ?_; intro w2 hbw2 hfw2 hltw2; have HBw2 := Lib.hid hbw2; have HFw2 := Lib.hid hfw2; have hck := (HB.out.fresh ((Fresh.alloc w (.cells (zb.map bv).toArray tBlk)).trans hfw2)).cell (pg_tail (f := f) (mb := mb) (kb := kb) (ov := .slice A n c) (m := m) HOK.out 1); have HK2 := Lib.hid (HK.out.old (((Fresh.alloc w (.cells (zb.map bv).toArray tBlk)).trans hfw2).block kb HK.out.inside)); clear hbw2 hfw2 hltw2)
      | ((with_reducible (refine at_slot_ 31 ?_)); refine wpList_look_hit_ok _ rfl _ _ tMapB rfl tI tBlk intKey Tryz.underlying65 kb (kvB m.sh) rfl HK2.out (.int .i64 (no : Nat)) (blkV b) _ rfl (key_int no (by omega)) HHIT.out ?_; unfold blkV)
      | ((with_reducible (refine at_store_ 9 32 ?_)); refine wpList_store_new rfl tBlk (.tmp 9) (.tmp 32) rfl w2.heap.size (b.map bv) rfl rfl w2 (zb.map bv).toArray tBlk rfl (by simp) (by rw [List.size_toArray, HZL.out, HX.out]) HONE.out (by rw [size_blk, HX.out]) ?_; intro w3 hbw3 hfw3 hltw3; have HBw3 := Lib.hid hbw3; have HFw3 := Lib.hid hfw3; clear hbw3 hfw3 hltw3)
      | ((with_reducible (refine at_slot_ 35 ?_)); refine wpList_load_row (o := ⟨some 35, _, _, _, _, _⟩) rfl tBlk (.tmp 9) rfl w2.heap.size rfl tBlk (b.map bv).toArray (0, 0) _ HBw3.out Tryz.underlying92 rfl (by rw [size_blk, List.size_toArray, HX.out]) ?_)
      | ((with_reducible (refine at_store_ 4 35 ?_)); refine wpList_store_blk rfl tBlk (.tmp 4) (.tmp 35) rfl w.heap.size 0 tBlk (zb.map bv) (b.map bv) rfl rfl (HB0.out.fresh (HFw2.out.trans HFw3.out)) (by rw [HX.out, HZL.out]; omega) HONE.out (by rw [size_blk, HX.out]) ?_; intro w8 hg8 hb8; rw [HSP.out] at hg8))
    exact bodyPost_ret (results_row_tmp2 (p := 4) (u := 5) (v := 6) (by kernel_rfl) _ _ w.heap.size tBlk (b.map bv) _ rfl hg8 Tryz.underlying92 rfl (by rw [size_blk, HX.out])) rfl ⟨rfl, (((Fresh.alloc _ _).trans HFw2.out).trans HFw3.out).but (Nat.le_refl _) hb8⟩
  · have HMS := Lib.hid (kv_miss (lookE_none h1))
    have HMK := Lib.hid (kv_miss (lookE_none h2))
    have HRD := Lib.hid (fun W (q : Fresh w W) => read_has W f a b1 C no b (hF.fresh q) hC h3)
    have hm0 : MapOf Tryz.prog tI (w.alloc (.cells (zb.map bv).toArray tBlk)) mb (kvB m.ch) := HM.out.old (Below.heap_alloc w _ mb HM.out.inside)
    have hc0 := (HB.out.alloc (.cells (zb.map bv).toArray tBlk)).cell (pg_tail (f := f) (mb := mb) (kb := kb) (ov := .slice A n c) (m := m) HOK.out 0)
    have HM0 := Lib.hid hm0
    clear hm0
    clear h1 h2 h3 hF hC
    unfold blkV at HRD ⊢
    go_enter Tryz.func80, Tryz.ntmps80
    go_wp2_with (first
      | ((with_reducible (refine at_slot_ 19 ?_)); refine wpList_look_miss_ok _ rfl _ _ tMapB rfl tI tBlk intKey Tryz.underlying65 (blkV zb) (blkZero _) mb (kvB m.ch) rfl HM0.out (.int .i64 (no : Nat)) _ rfl (key_int no (by omega)) HMS.out ?_; unfold blkV)
      | ((with_reducible (refine at_store_ 7 20 ?_)); refine wpList_store_new rfl tBlk (.tmp 7) (.tmp 20) rfl (w.heap.size + 1) (zb.map bv) rfl rfl (w.alloc (.cells (zb.map bv).toArray tBlk)) (zb.map bv).toArray tBlk rfl (by simp) (by rw [List.size_toArray]) HZO.out (by rw [size_blk, HZL.out]) ?_; intro w2 hbw2 hfw2 hltw2; have HBw2 := Lib.hid hbw2; have HFw2 := Lib.hid hfw2; have hck := (HB.out.fresh ((Fresh.alloc w (.cells (zb.map bv).toArray tBlk)).trans hfw2)).cell (pg_tail (f := f) (mb := mb) (kb := kb) (ov := .slice A n c) (m := m) HOK.out 1); have HK2 := Lib.hid (HK.out.old (((Fresh.alloc w (.cells (zb.map bv).toArray tBlk)).trans hfw2).block kb HK.out.inside)); clear hbw2 hfw2 hltw2)
      | ((with_reducible (refine at_slot_ 31 ?_)); refine wpList_look_miss_ok _ rfl _ _ tMapB rfl tI tBlk intKey Tryz.underlying65 (blkV zb) (blkZero _) kb (kvB m.sh) rfl HK2.out (.int .i64 (no : Nat)) _ rfl (key_int no (by omega)) HMK.out ?_; unfold blkV)
      | ((with_reducible (refine at_store_ 9 32 ?_)); refine wpList_store_new rfl tBlk (.tmp 9) (.tmp 32) rfl w2.heap.size (zb.map bv) rfl rfl w2 (zb.map bv).toArray tBlk rfl (by simp) (by rw [List.size_toArray]) HZO.out (by rw [size_blk, HZL.out]) ?_; intro w3 hbw3 hfw3 hltw3; have HBw3 := Lib.hid hbw3; have HFw3 := Lib.hid hfw3; have hbp3 := HB.out.fresh (((Fresh.alloc w (.cells (zb.map bv).toArray tBlk)).trans HFw2.out).trans hfw3); have hx0 := hbp3.cell (pg_files (f := f) (m := m) (mb := mb) (kb := kb) (ov := .slice A n c) (i := 0) (by omega)); have hx1 := hbp3.cell (pg_files (f := f) (m := m) (mb := mb) (kb := kb) (ov := .slice A n c) (i := 1) (by omega)); have hx2 := hbp3.cell (pg_files (f := f) (m := m) (mb := mb) (kb := kb) (ov := .slice A n c) (i := 2) (by omega)); clear hbp3; clear hbw3 hfw3 hltw3)
      | (go_at_call 110; refine (HRD.out _ (((Fresh.alloc w (.cells (zb.map bv).toArray tBlk)).trans HFw2.out).trans HFw3.out)).mono ?_; rintro e w4 ⟨rfl, hf4⟩; have HF4 := Lib.hid hf4; clear hf4)
      | ((with_reducible (refine at_store_ 11 43 ?_)); refine wpList_store_new rfl tBlk (.tmp 11) (.tmp 43) rfl w4.heap.size (b.map bv) rfl rfl w4 (zb.map bv).toArray tBlk rfl (by simp) (by rw [List.size_toArray, HZL.out, HX.out]) HONE.out (by rw [size_blk, HX.out]) ?_; intro w5 hbw5 hfw5 hltw5; have HBw5 := Lib.hid hbw5; have HFw5 := Lib.hid hfw5; clear hbw5 hfw5 hltw5)
      | ((with_reducible (refine at_slot_ 45 ?_)); refine wpList_load_row (o := ⟨some 45, _, _, _, _, _⟩) rfl tBlk (.tmp 11) rfl w4.heap.size rfl tBlk (b.map bv).toArray (0, 0) _ HBw5.out Tryz.underlying92 rfl (by rw [size_blk, List.size_toArray, HX.out]) ?_)
      | ((with_reducible (refine at_store_ 4 45 ?_)); refine wpList_store_blk rfl tBlk (.tmp 4) (.tmp 45) rfl w.heap.size 0 tBlk (zb.map bv) (b.map bv) rfl rfl (HB0.out.fresh (((HFw2.out.trans HFw3.out).trans HF4.out).trans HFw5.out)) (by rw [HX.out, HZL.out]; omega) HONE.out (by rw [size_blk, HX.out]) ?_; intro w8 hg8 hb8; rw [HSP.out] at hg8))
    exact bodyPost_ret (results_row_tmp2 (p := 4) (u := 5) (v := 6) (by kernel_rfl) _ _ w.heap.size tBlk (b.map bv) _ rfl hg8 Tryz.underlying92 rfl (by rw [size_blk, HX.out])) rfl ⟨rfl, (((((Fresh.alloc _ _).trans HFw2.out).trans HFw3.out).trans HF4.out).trans HFw5.out).but (Nat.le_refl _) hb8⟩
end Go.Proofs.YtcdehklcdipcfaaGreat.pgrp
/-
  pager's page. My own text.
-/
namespace Go.Proofs.YtcdehklcdipcfaaGreat.pgrp
open Go.RowKit Go.Maps Go.Proofs.YtcdehklcdipcfaaGreat.base Go.Proofs.YtcdehklcdipcfaaGreat.num Go.Proofs.YtcdehklcdipcfaaGreat.word Go.Proofs.YtcdehklcdipcfaaGreat.pagn Go.Proofs.YtcdehklcdipcfaaGreat.pgr Go.Proofs.YtcdehklcdipcfaaGreat.waln Go.Proofs.YtcdehklcdipcfaaGreat.walp Go.Proofs.YtcdehklcdipcfaaGreat.pagp
open Go.Proofs.YtcdehklcdipcfaaGreat.vfsnum hiding Bs
open Go.Proofs.YtcdehklcdipcfaaGreat.vfs (FsAt fsPtr Did tFS intKey key_int)
set_option linter.unusedVariables false
set_option linter.unusedSimpArgs false

/-- what page leaves -/
def pageM (m : Mm) (no : Nat) (b : Bs) (r : Bool) : Mm := { m with rd := m.rd + r.toNat, sh := if (lookE m.ch no).isSome = true then m.sh else keepE m.sh no b }
/-- a box stays -/
theorem box_stay {w w' : World} {g : Nat} {t : TypeId} {cs : List Value} {S S' : List Nat} (h : Bk w g t cs) (k : VTurn S S' w w') (hS : g ∉ S) : Bk w' g t cs := h.old (k.block g h.inside hS)
/-- a box of the call's own turns -/
theorem put_new_box {a b c : World} {S S' : List Nat} {g : Nat} (h : VTurn S S' a b) (k : But g b c) (hg : a.heap.size ≤ g) : VTurn S S' a c where
  os := k.os.trans h.os
  tape := k.tape.trans h.tape
  output := k.output.trans h.output
  size := Nat.le_trans h.size k.size
  block i hi hS := (k.block i (Nat.lt_of_lt_of_le hi h.size) (fun e => by injection e with e; omega)).trans (h.block i hi hS)
  sub := h.sub
set_option maxRecDepth 100000 in
set_option maxHeartbeats 4000000 in
theorem page_any (w : World) (p f : Nat) (m : Mm) (bl : List Nat) (h : MemAt w p f m bl) (a : Fs) (b1 : List Nat) (C : List Bs) (hF : FsAt w f a b1) (hC : HasC a C) (no : Nat) (hno : no ≤ 65536) (b : Bs) (r : Bool) (hl : LookIs m C no b r) (hbl : b.length = 508) (hrd : m.rd < 4611686018427387903 - 1) :
    Calls Tryz.prog 56 #[pgPtr p, .int .i64 no] w (MDid w p f bl (.tuple #[blkV b, .int .i64 0]) (pageM m no b r)) := by
  have hlk := fun W (q : Fresh w W) => look_any W p f m bl (h.fresh q) a b1 C (hF.fresh q) hC no hno b r hl hbl
  have hcn := fun W (q : Fresh w W) => count_any W p f m bl (h.fresh q) r (by omega)
  have hin := h.inside
  have hX : (b.map bv).length = 508 := by rw [List.length_map, hbl]
  have hz := blkZero
  have hzl : (zb.map bv).length = 508 := by rw [List.length_map]; rfl
  have hone := blk_one b
  have hzo := blk_one zb
  have hb0 := Bk.made w tBlk (zb.map bv).toArray
  rw [List.toList_toArray] at hb0
  have hsp : splice (zb.map bv) 0 (b.map bv) = b.map bv := by rw [splice, List.take_zero, List.nil_append, List.drop_of_length_le (by rw [hX, hzl]; omega), List.append_nil]
  have hne : ∀ W, Fresh w W → ∀ g, W.heap.size ≤ g → g ∉ bl := fun W q g hg hm => by have h1 := hin g hm; have h2 := q.size; omega
  have HLK := Lib.hid hlk
  have HCN := Lib.hid hcn
  have HX := Lib.hid hX
  have HZL := Lib.hid hzl
  have HONE := Lib.hid hone
  have HZO := Lib.hid hzo
  have HB0 := Lib.hid hb0
  have HSP := Lib.hid hsp
  have HNE := Lib.hid hne
  have HH := Lib.hid h
  clear hlk hcn hin hone hzo hb0 hsp hX hzl hne h hF hC hl
  unfold blkV at *
  cases hch : lookE m.ch no with
  | some b2 =>
    have hpm : pageM m no b r = { m with rd := m.rd + r.toNat } := by unfold pageM; rw [hch]; rfl
    rw [hpm]
    have HHIT := Lib.hid (kv_hit hch)
    have hb2l : (b2.map bv).length = 508 := by rw [List.length_map]; obtain ⟨_, _, _, _, _, _, _, _, _, _, _, _, hok⟩ := HH.out; exact (hok.ch _ (lookE_some hch)).2
    have HB2L := Lib.hid hb2l
    have HB2O := Lib.hid (blk_one b2)
    clear hpm hch hb2l
    go_enter Tryz.func56, Tryz.ntmps56
    go_wp2_with (first
      | (go_at_call 80; refine (HLK.out _ (Fresh.alloc _ _)).mono ?_; rintro e w1 ⟨rfl, hf1⟩; have HF1 := Lib.hid hf1; clear hf1)
      | ((with_reducible (refine at_store_ 6 15 ?_)); refine wpList_store_new rfl tBlk (.tmp 6) (.tmp 15) rfl w1.heap.size (b.map bv) rfl rfl w1 (zb.map bv).toArray tBlk rfl (by simp) (by rw [List.size_toArray, HZL.out, HX.out]) HONE.out (by rw [size_blk, HX.out]) ?_; intro w2 hbw2 hfw2 hltw2; have HBw2 := Lib.hid hbw2; have HFw2 := Lib.hid hfw2; clear hbw2 hfw2 hltw2)
      | (go_at_call 82; refine (HCN.out _ (((Fresh.alloc _ _).trans HF1.out).trans HFw2.out)).mono ?_; rintro e w3 ⟨rfl, bl3, hM3, hT3⟩; have HT3 := Lib.hid hT3; have HN6 := Lib.hid (HNE.out w1 ((Fresh.alloc _ _).trans HF1.out) w1.heap.size (Nat.le_refl _)); have HN4 := Lib.hid (HNE.out w (Fresh.refl w) w.heap.size (Nat.le_refl _)); have HB6 := Lib.hid (box_stay HBw2.out hT3 HN6.out); have HB4 := Lib.hid (box_stay (HB0.out.fresh (HF1.out.trans HFw2.out)) hT3 HN4.out); have HM3 := Lib.hid hM3; obtain ⟨mb, kb, A, n, c, ob, hbe, hnd, hb, hm, hk, ho, hok⟩ := hM3; have hc0 := hb.cell (pg_tail hok 0); have HMM := Lib.hid hm; clear hT3 hnd hb hm hk ho hok)
      | ((with_reducible (refine at_slot_ 33 ?_)); refine wpList_look_hit_ok _ rfl _ _ tMapB rfl tI tBlk intKey Tryz.underlying65 mb (kvB m.ch) rfl HMM.out (.int .i64 (no : Nat)) (blkV b2) _ rfl (key_int no (by omega)) HHIT.out ?_; unfold blkV)
      | ((with_reducible (refine at_store_ 9 34 ?_)); refine wpList_store_new rfl tBlk (.tmp 9) (.tmp 34) rfl w3.heap.size (b2.map bv) rfl rfl w3 (zb.map bv).toArray tBlk rfl (by simp) (by rw [List.size_toArray, HZL.out, HB2L.out]) HB2O.out (by rw [size_blk, HB2L.out]) ?_; intro w4 hbw4 hfw4 hltw4; have HFw4 := Lib.hid hfw4; clear hbw4 hfw4 hltw4)
      | ((with_reducible (refine at_slot_ 44 ?_)); refine wpList_load_row (o := ⟨some 44, _, _, _, _, _⟩) rfl tBlk (.tmp 6) rfl w1.heap.size rfl tBlk (b.map bv).toArray (0, 0) _ (HB6.out.fresh HFw4.out) Tryz.underlying92 rfl (by rw [size_blk, List.size_toArray, HX.out]) ?_)
      | ((with_reducible (refine at_store_ 4 44 ?_)); refine wpList_store_blk rfl tBlk (.tmp 4) (.tmp 44) rfl w.heap.size 0 tBlk (zb.map bv) (b.map bv) rfl rfl (HB4.out.fresh HFw4.out) (by rw [HX.out, HZL.out]; omega) HONE.out (by rw [size_blk, HX.out]) ?_; intro w8 hg8 hb8; rw [HSP.out] at hg8))
    have HA6 := Lib.hid (HT3.out.apart HBw2.out.inside HN6.out)
    have HA4 := Lib.hid (HT3.out.apart (HB0.out.fresh (HF1.out.trans HFw2.out)).inside HN4.out)
    have HT03 := Lib.hid ((vfs.Turn.fresh (S := bl) (((Fresh.alloc w (.cells (zb.map bv).toArray tBlk)).trans HF1.out).trans HFw2.out)).trans HT3.out)
    refine bodyPost_ret (results_row_tmp (p := 4) (u := 5) (by kernel_rfl) _ _ w.heap.size tBlk (b.map bv) _ rfl hg8 Tryz.underlying92 rfl (by rw [size_blk, HX.out])) rfl ⟨rfl, bl3, ?_, ?_⟩
    · exact (HM3.out.fresh HFw4.out).keep fun x hx => hb8.block x ((HM3.out.fresh HFw4.out).inside x hx) (by intro e; injection e with e; exact HA4.out (e ▸ hx))
    · exact put_new_box (HT03.out.trans (vfs.Turn.fresh HFw4.out)) hb8 (Nat.le_refl _)
  | none =>
    have hpm : pageM m no b r = { m with rd := m.rd + r.toNat, sh := keepE m.sh no b } := by unfold pageM; rw [hch]; rfl
    rw [hpm]
    have HMS := Lib.hid (kv_miss (lookE_none hch))
    have HKP := Lib.hid (fun W m2 bl2 (hM : MemAt W p f m2 bl2) => keep_any W p f m2 bl2 hM no b hno hbl)
    unfold blkV at HKP
    clear hpm hch
    go_enter Tryz.func56, Tryz.ntmps56
    go_upto_region 7 with (first
      | (go_at_call 80; refine (HLK.out _ (Fresh.alloc _ _)).mono ?_; rintro e w1 ⟨rfl, hf1⟩; have HF1 := Lib.hid hf1; clear hf1)
      | ((with_reducible (refine at_store_ 6 15 ?_)); refine wpList_store_new rfl tBlk (.tmp 6) (.tmp 15) rfl w1.heap.size (b.map bv) rfl rfl w1 (zb.map bv).toArray tBlk rfl (by simp) (by rw [List.size_toArray, HZL.out, HX.out]) HONE.out (by rw [size_blk, HX.out]) ?_; intro w2 hbw2 hfw2 hltw2; have HBw2 := Lib.hid hbw2; have HFw2 := Lib.hid hfw2; clear hbw2 hfw2 hltw2)
      | (go_at_call 82; refine (HCN.out _ (((Fresh.alloc _ _).trans HF1.out).trans HFw2.out)).mono ?_; rintro e w3 ⟨rfl, bl3, hM3, hT3⟩; have HT3 := Lib.hid hT3; have HN6 := Lib.hid (HNE.out w1 ((Fresh.alloc _ _).trans HF1.out) w1.heap.size (Nat.le_refl _)); have HN4 := Lib.hid (HNE.out w (Fresh.refl w) w.heap.size (Nat.le_refl _)); have HB6 := Lib.hid (box_stay HBw2.out hT3 HN6.out); have HB4 := Lib.hid (box_stay (HB0.out.fresh (HF1.out.trans HFw2.out)) hT3 HN4.out); have HM3 := Lib.hid hM3; obtain ⟨mb, kb, A, n, c, ob, hbe, hnd, hb, hm, hk, ho, hok⟩ := hM3; have hc0 := hb.cell (pg_tail hok 0); have HMM := Lib.hid hm; clear hT3 hnd hb hm hk ho hok)
      | ((with_reducible (refine at_slot_ 33 ?_)); refine wpList_look_miss_ok _ rfl _ _ tMapB rfl tI tBlk intKey Tryz.underlying65 (blkV zb) (blkZero _) mb (kvB m.ch) rfl HMM.out (.int .i64 (no : Nat)) _ rfl (key_int no (by omega)) HMS.out ?_; unfold blkV)
      | ((with_reducible (refine at_store_ 9 34 ?_)); refine wpList_store_new rfl tBlk (.tmp 9) (.tmp 34) rfl w3.heap.size (zb.map bv) rfl rfl w3 (zb.map bv).toArray tBlk rfl (by simp) (by rw [List.size_toArray]) HZO.out (by rw [size_blk, HZL.out]) ?_; intro w4 hbw4 hfw4 hltw4; have HFw4 := Lib.hid hfw4; clear hbw4 hfw4 hltw4))
    have HA6 := Lib.hid (HT3.out.apart HBw2.out.inside HN6.out)
    have HA4 := Lib.hid (HT3.out.apart (HB0.out.fresh (HF1.out.trans HFw2.out)).inside HN4.out)
    have HT03 := Lib.hid ((vfs.Turn.fresh (S := bl) (((Fresh.alloc w (.cells (zb.map bv).toArray tBlk)).trans HF1.out).trans HFw2.out)).trans HT3.out)
    clear hc0
    refine wp_region_still_tail 5 (by kernel_rfl) (by kernel_rfl) ?_
    simp only [List.take_succ_cons, List.take_zero, List.drop_succ_cons, List.drop_zero]
    iterate 4 still_step
    refine wpStill_load_blk rfl tBlk (.tmp 6) rfl w1.heap.size 0 508 tBlk _ rfl (HB6.out.fresh (HFw4.out.trans (Fresh.drew _))) (by rw [HX.out]; exact Nat.le_refl _) _ Tryz.underlying92 rfl size_blk (b.map bv) (by rw [List.drop_zero, List.take_of_length_le (by rw [HX.out]; exact Nat.le_refl _)]) ?_
    refine wpStill_nil ?_
    go_wp2_with (first
      | (go_at_call 84; refine (HKP.out _ _ bl3 (HM3.out.fresh (HFw4.out.trans (Fresh.drew _)))).mono ?_; rintro e w5 ⟨rfl, bl5, hM5, hT5⟩; have HT5 := Lib.hid ((vfs.Turn.fresh (S := bl3) (HFw4.out.trans (Fresh.drew _))).trans hT5); have HM5 := Lib.hid hM5; have HB65 := Lib.hid (box_stay HB6.out HT5.out HA6.out); have HB45 := Lib.hid (box_stay HB4.out HT5.out HA4.out); clear hT5 hM5)
      | ((with_reducible (refine at_slot_ 44 ?_)); refine wpList_load_row (o := ⟨some 44, _, _, _, _, _⟩) rfl tBlk (.tmp 6) rfl w1.heap.size rfl tBlk (b.map bv).toArray (0, 0) _ HB65.out Tryz.underlying92 rfl (by rw [size_blk, List.size_toArray, HX.out]) ?_)
      | ((with_reducible (refine at_store_ 4 44 ?_)); refine wpList_store_blk rfl tBlk (.tmp 4) (.tmp 44) rfl w.heap.size 0 tBlk (zb.map bv) (b.map bv) rfl rfl HB45.out (by rw [HX.out, HZL.out]; omega) HONE.out (by rw [size_blk, HX.out]) ?_; intro w8 hg8 hb8; rw [HSP.out] at hg8))
    refine bodyPost_ret (results_row_tmp (p := 4) (u := 5) (by kernel_rfl) _ _ w.heap.size tBlk (b.map bv) _ rfl hg8 Tryz.underlying92 rfl (by rw [size_blk, HX.out])) rfl ⟨rfl, bl5, ?_, ?_⟩
    · exact HM5.out.keep fun x hx => hb8.block x (HM5.out.inside x hx) (by intro e; injection e with e; exact HT5.out.apart HB4.out.inside HA4.out (e ▸ hx))
    · exact put_new_box (HT03.out.trans HT5.out) hb8 (Nat.le_refl _)
end Go.Proofs.YtcdehklcdipcfaaGreat.pgrp
