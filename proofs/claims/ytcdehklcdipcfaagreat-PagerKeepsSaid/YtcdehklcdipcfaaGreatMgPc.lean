import Derived.Test.YtcdehklcdipcfaaGreatPgrBat2
import GoSem.Builtin.Clear
import Derived.Test.YtcdehklcdipcfaaGreatMgPf
import Derived.Test.YtcdehklcdipcfaaGreatMgVd
/- Several of my own texts, one behind the other. -/
/-
  pager's may, giveUp; a map that is cleared. My own text.
-/
namespace Go.Proofs.YtcdehklcdipcfaaGreat.pgrp
open Go.RowKit Go.Maps Go.ChangeMaps Go.MapKept Go.Proofs.YtcdehklcdipcfaaGreat.base Go.Proofs.YtcdehklcdipcfaaGreat.num Go.Proofs.YtcdehklcdipcfaaGreat.word Go.Proofs.YtcdehklcdipcfaaGreat.pagn Go.Proofs.YtcdehklcdipcfaaGreat.pgr Go.Proofs.YtcdehklcdipcfaaGreat.waln Go.Proofs.YtcdehklcdipcfaaGreat.walp Go.Proofs.YtcdehklcdipcfaaGreat.pagp
open Go.Proofs.YtcdehklcdipcfaaGreat.vfsnum hiding Bs
open Go.Proofs.YtcdehklcdipcfaaGreat.vfs (FsAt fsPtr Did tFS intKey key_int)
set_option linter.unusedVariables false
set_option linter.unusedSimpArgs false

theorem MapOf.clear {P : Program} {k e t : TypeId} {w : World} {b : Nat} {kv : List (Value × Value)} (h : MapOf P k w b kv) (ht : P.underlying t = some (.map k e)) (ty : TypeId) :
    ∃ w', (Builtin.clear_ #[t] ty #[.map (some b)]).run P w = .ok (.tuple #[]) w' ∧ MapOf P k w' b [] ∧ But b w w' := by
  obtain ⟨es, clock, hb, hs, hk, hq⟩ := h
  refine ⟨setBlock w b (.map #[] clock), ?_, ⟨#[], clock, heap_setBlock_same hb _, stamped_empty clock, by simp, by simp⟩, But.setBlock_map hb⟩
  simp [Builtin.clear_, run_underlying ht, MapKept.run_getObj_map hb, MapKept.run_setObj_map _ hb, Result.andThen, setBlock]
theorem wpList_clear_map {P : Program} {w : World} {ops : Array Oper} {rest : List Oper} {o : Oper} {a : Act} {Q : Exit → Act → World → Prop} (hg : o.guard = none) (x : Operand) (t : TypeId) (hop : o.op = Op.call { callee := Callee.builtin Builtin.clear, args := #[x], argTypes := #[t] }) (k e : TypeId) (ht : P.underlying t = some (.map k e)) (b : Nat) (kv : List (Value × Value))
    (hx : a.eval x = .map (some b)) (h : MapOf P k w b kv) (hK : ∀ w', MapOf P k w' b [] → But b w w' → wpList P ops Q rest (a.put o.dst (.tuple #[])) w') : wpList P ops Q (o :: rest) a w := by
  refine wpList_plain hg fun K' hK' => ?_
  obtain ⟨w', hrun, h1, h2⟩ := MapOf.clear h ht o.type
  unfold Oper.wp
  simp [execOp, hop, resolve, invoke, builtin, hx, hrun, Result.andThen]
  exact hK' _ _ (hK w' h1 h2)
theorem pg_last {f mb kb : Nat} {m : Mm} {ov : Value} (k : m.Ok) : ((pgCells f m mb kb ov).drop 13).take 10 = m.last.nums.map iv := by
  have e : pgCells f m mb kb ov = ([fsPtr f, .string dbN, .string logN] ++ m.hd.nums.map iv) ++ (m.last.nums.map iv ++ [.map (some mb), .map (some kb), ov, .int .i64 (m.rd : Nat), .bool m.dead]) := by unfold pgCells; rw [List.append_assoc]
  rw [e, List.drop_left' (by rw [List.length_append, nums10 k.hd]; rfl), List.take_left' (nums10 k.last)]
theorem pg_head {f mb kb : Nat} {m : Mm} {ov : Value} (k : m.Ok) : ((pgCells f m mb kb ov).drop 3).take 10 = m.hd.nums.map iv := by
  unfold pgCells
  rw [List.drop_left' (by rfl), List.take_left' (nums10 k.hd)]
theorem ent_nil : EntOk [] := fun e he => by cases he
set_option maxRecDepth 100000 in
set_option maxHeartbeats 4000000 in
theorem giveUp_any (w : World) (p f : Nat) (m : Mm) (bl : List Nat) (h : MemAt w p f m bl) :
    Calls Tryz.prog 42 #[pgPtr p] w (MDid w p f bl (.tuple #[]) { m with hd := m.last, ch := [] }) := by
  obtain ⟨mb, kb, A, n, c, ob, rfl, hnd, hb, hm, hk, ho, hok⟩ := h
  have hown := fun w4 (q : But p w w4) (hb4 : Bk w4 p tPgr (pgCells f { m with hd := m.last } mb kb (.slice A n c))) => MemAt.own (m := m) (m' := { m with hd := m.last }) hnd hm hk ho hb4 q rfl rfl ⟨hok.last, hok.last, hok.ch, hok.sh, hok.few, hok.rd⟩
  have hsp := pg_splice (f := f) (mb := mb) (kb := kb) (ov := .slice A n c) hok hok.last
  have hlen := pg_len (f := f) (mb := mb) (kb := kb) (ov := .slice A n c) hok
  have hla := pg_last (f := f) (mb := mb) (kb := kb) (ov := .slice A n c) hok
  have hX := nums10 hok.last
  have HO := Lib.hid hown
  have HB := Lib.hid hb
  have HSP := Lib.hid hsp
  have HLEN := Lib.hid hlen
  have HLA := Lib.hid hla
  have HX := Lib.hid hX
  have HONE := Lib.hid (hd_one m.last)
  clear hnd hb hm hk ho hok hown hsp hlen hla hX
  go_enter Tryz.func42, Tryz.ntmps42
  go_upto_region 1 with (first
    | ((with_reducible (refine at_slot_ 6 ?_)); refine wpList_load_blk rfl tHd (.tmp 5) rfl p 13 10 tPgr _ rfl HB.out (by rw [HLEN.out]; omega) _ Tryz.underlying71 rfl size_hd ?_; rw [HLA.out])
    | ((with_reducible (refine at_store_ 8 6 ?_)); refine wpList_store_blk rfl tHd (.tmp 8) (.tmp 6) rfl p 3 tPgr _ (m.last.nums.map iv) rfl rfl HB.out (by rw [HX.out, HLEN.out]; omega) HONE.out (by rw [size_hd, HX.out]) ?_; intro w2 hb2 hbu2; rw [HSP.out] at hb2))
  obtain ⟨hM2, hT2⟩ := HO.out w2 hbu2 hb2
  clear hb2 hbu2
  have HT2 := Lib.hid hT2
  obtain ⟨mb2, kb2, A2, n2, c2, ob2, hbe, hnd2, hb2, hm2, hk2, ho2, hok2⟩ := hM2
  rw [hbe] at hnd2
  have HBE := Lib.hid hbe
  clear hbe
  have hcm := hb2.cell (pg_tail hok2 0)
  have hch := fun w4 (q : But mb2 w2 w4) (hm4 : MapOf Tryz.prog tI w4 mb2 (kvB [])) => MemAt.chput hnd2 hb2 hk2 ho2 hok2 hm4 q ent_nil
  have HCH := Lib.hid hch
  have HM2 := Lib.hid hm2
  clear hb2 hm2 hk2 ho2 hok2 hnd2 hch hT2
  go_wp2_with ((with_reducible (refine at_none_ ?_)); refine wpList_clear_map rfl (.tmp 12) tMapB rfl tI tBlk Tryz.underlying65 mb2 _ rfl HM2.out ?_; intro w4 hm4 hb4; have HQ := Lib.hid (HCH.out w4 hb4 hm4); clear hm4 hb4)
  go_end0
  rw [← HBE.out] at HQ
  exact ⟨rfl, _, HQ.out.1, HT2.out.trans HQ.out.2⟩
def manyOf (m : Mm) : Nat := m.ch.length + if (lookE m.ch 0).isSome = true then 0 else 1
set_option maxRecDepth 100000 in
set_option maxHeartbeats 4000000 in
theorem may_any (w : World) (p f : Nat) (m : Mm) (bl : List Nat) (h : MemAt w p f m bl) (a : Fs) (b1 : List Nat) (x : Fl) (hF : FsAt w f a b1) (hok : FsOk a) (hd : a.down = false) (hg : getF a.files dbN = some x) (hmy : manyOf m ≤ 4096) :
    Calls Tryz.prog 41 #[pgPtr p] w fun e w' => e = .returned (.int .i64 (if roomF a x (manyOf m) m.hd.many = true then 0 else 8)) ∧ Fresh w w' := by
  obtain ⟨mb, kb, A, n, c, ob, rfl, hnd, hb, hm, hk, ho, hmok⟩ := h
  have hrm := fun W (q : Fresh w W) => hasRoom_any W f a b1 x (manyOf m) m.hd.many (hF.fresh q) hok hd hg hmy hmok.hd.many
  have hsz := fun W (z : Int) (hz : z = (manyOf m : Nat)) => size_nat (manyOf m) z W hmy hz _ rfl
  have hkl : (kvB m.ch).length = m.ch.length := by unfold kvB; rw [List.length_map]
  have hcb : m.ch.length ≤ 4096 := by unfold manyOf at hmy; omega
  have hc0 := hb.cell (pg_tail hmok 0)
  have hcs : ∀ W, Fresh w W → W.cell? ⟨p, 0, none⟩ = some (fsPtr f) ∧ W.cell? ⟨p, 1, none⟩ = some (.string dbN) ∧ W.cell? ⟨p, 2, none⟩ = some (.string logN) ∧ W.cell? ⟨p, 3, none⟩ = some (.int .i64 (m.hd.many : Nat)) ∧ W.cell? ⟨p, 23, none⟩ = some (.map (some mb)) := fun W q =>
    ⟨(hb.fresh q).cell (pg_files (i := 0) (by omega)), (hb.fresh q).cell (pg_files (i := 1) (by omega)), (hb.fresh q).cell (pg_files (i := 2) (by omega)), (hb.fresh q).cell ((pg_hd hmok 0 (by omega)).trans rfl), (hb.fresh q).cell (pg_tail hmok 0)⟩
  have hzl : (zb.map bv).length = 508 := by rw [List.length_map]; rfl
  have hmp := hm.len Tryz.underlying65 tI
  have HRM := Lib.hid hrm
  have HSZ := Lib.hid hsz
  have HCS := Lib.hid hcs
  have HM := Lib.hid hm
  have HZL := Lib.hid hzl
  have HOK := Lib.hid hmok
  have HKL := Lib.hid hkl
  have hmb : (m.ch.length : Int) ≤ 4096 := by omega
  have HMY := Lib.hid hmy
  clear hrm hsz hcs hzl hnd hb hk ho hmok hF hok hd hg hmy hcb hm
  unfold manyOf at HRM HSZ HMY ⊢
  rw [hkl] at hmp
  clear hkl
  cases hl : lookE m.ch 0 with
  | some b0 =>
    rw [hl] at HRM HSZ HMY
    have hhit : (Value.int .i64 0, blkV b0) ∈ kvB m.ch := kv_hit hl
    have HHIT := Lib.hid hhit
    have hb0l : (b0.map bv).length = 508 := by rw [List.length_map]; exact (HOK.out.ch _ (lookE_some hl)).2
    have HB0L := Lib.hid hb0l
    have HB0O := Lib.hid (blk_one b0)
    clear hhit hl hb0l
    simp only [Option.isSome_some, if_true, Nat.add_zero] at *
    go_enter Tryz.func41, Tryz.ntmps41
    go_upto_region 7 with (first
      | ((with_reducible (refine at_slot_ 16 ?_)); refine wpList_look_hit_ok _ rfl _ _ tMapB rfl tI tBlk intKey Tryz.underlying65 mb (kvB m.ch) rfl HM.out (.int .i64 0) (blkV b0) _ rfl (key_int 0 (by omega)) HHIT.out ?_; unfold blkV)
      | ((with_reducible (refine at_store_ 4 17 ?_)); refine wpList_store_new rfl tBlk (.tmp 4) (.tmp 17) rfl w.heap.size (b0.map bv) rfl rfl w (zb.map bv).toArray tBlk rfl (by simp) (by rw [List.size_toArray, HZL.out, HB0L.out]) HB0O.out (by rw [size_blk, HB0L.out]) ?_; intro w4 hbw4 hfw4 hltw4; have HFw4 := Lib.hid hfw4; clear hbw4 hfw4 hltw4)
      | (go_at_call 68; refine (HSZ.out _ _ (by omega)).mono ?_; rintro e w5 ⟨rfl, rfl⟩))
    have hcc := HCS.out w4.drew (HFw4.out.trans (Fresh.drew _))
    obtain ⟨h0, h1, h2, h3, h4⟩ := hcc
    have HFD := Lib.hid (HFw4.out.trans (Fresh.drew w4))
    clear hc0 hmp
    refine wp_region_still_tail 10 (by kernel_rfl) (by kernel_rfl) ?_
    simp only [List.take_succ_cons, List.take_zero, List.drop_succ_cons, List.drop_zero]
    iterate 10 still_step
    refine wpStill_nil ?_
    cases hro : roomF a x m.ch.length m.hd.many with
    | true =>
      have hrr := HRM.out w4.drew HFD.out
      rw [hro] at hrr
      have HRR := Lib.hid hrr
      clear hrr
      go_wp2_with (go_at_call 69; refine HRR.out.mono ?_; rintro e w6 ⟨rfl, hf6⟩; have HF6 := Lib.hid hf6; clear hf6)
      all_goals go_ret
      all_goals exact ⟨rfl, HFD.out.trans HF6.out⟩
    | false =>
      have hrr := HRM.out w4.drew HFD.out
      rw [hro] at hrr
      have HRR := Lib.hid hrr
      clear hrr
      go_wp2_with (go_at_call 69; refine HRR.out.mono ?_; rintro e w6 ⟨rfl, hf6⟩; have HF6 := Lib.hid hf6; clear hf6)
      all_goals go_ret
      all_goals exact ⟨rfl, HFD.out.trans HF6.out⟩
  | none =>
    rw [hl] at HRM HSZ HMY
    have hmiss : ∀ p ∈ kvB m.ch, p.1 ≠ .int .i64 0 := kv_miss (n := 0) (lookE_none hl)
    have HMS := Lib.hid hmiss
    have HZO := Lib.hid (blk_one zb)
    clear hmiss hl
    simp only [Option.isSome_none, Bool.false_eq_true, if_false] at *
    go_enter Tryz.func41, Tryz.ntmps41
    go_upto_region 7 with (first
      | ((with_reducible (refine at_slot_ 16 ?_)); refine wpList_look_miss_ok _ rfl _ _ tMapB rfl tI tBlk intKey Tryz.underlying65 (blkV zb) (blkZero _) mb (kvB m.ch) rfl HM.out (.int .i64 0) _ rfl (key_int 0 (by omega)) HMS.out ?_; unfold blkV)
      | ((with_reducible (refine at_store_ 4 17 ?_)); refine wpList_store_new rfl tBlk (.tmp 4) (.tmp 17) rfl w.heap.size (zb.map bv) rfl rfl w (zb.map bv).toArray tBlk rfl (by simp) (by rw [List.size_toArray]) HZO.out (by rw [size_blk, HZL.out]) ?_; intro w4 hbw4 hfw4 hltw4; have HFw4 := Lib.hid hfw4; clear hbw4 hfw4 hltw4)
      | (go_at_call 68; refine (HSZ.out _ _ (by omega)).mono ?_; rintro e w5 ⟨rfl, rfl⟩))
    have hcc := HCS.out w4.drew (HFw4.out.trans (Fresh.drew _))
    obtain ⟨h0, h1, h2, h3, h4⟩ := hcc
    have HFD := Lib.hid (HFw4.out.trans (Fresh.drew w4))
    clear hc0 hmp
    refine wp_region_still_tail 10 (by kernel_rfl) (by kernel_rfl) ?_
    simp only [List.take_succ_cons, List.take_zero, List.drop_succ_cons, List.drop_zero]
    iterate 10 still_step
    refine wpStill_nil ?_
    cases hro : roomF a x (m.ch.length + 1) m.hd.many with
    | true =>
      have hrr := HRM.out w4.drew HFD.out
      rw [hro] at hrr
      have HRR := Lib.hid hrr
      clear hrr
      go_wp2_with (go_at_call 69; refine HRR.out.mono ?_; rintro e w6 ⟨rfl, hf6⟩; have HF6 := Lib.hid hf6; clear hf6)
      all_goals go_ret
      all_goals exact ⟨rfl, HFD.out.trans HF6.out⟩
    | false =>
      have hrr := HRM.out w4.drew HFD.out
      rw [hro] at hrr
      have HRR := Lib.hid hrr
      clear hrr
      go_wp2_with (go_at_call 69; refine HRR.out.mono ?_; rintro e w6 ⟨rfl, hf6⟩; have HF6 := Lib.hid hf6; clear hf6)
      all_goals go_ret
      all_goals exact ⟨rfl, HFD.out.trans HF6.out⟩
end Go.Proofs.YtcdehklcdipcfaaGreat.pgrp
/-
  pager's files: save. My own text.
-/
namespace Go.Proofs.YtcdehklcdipcfaaGreat.pgrp
open Go.RowKit Go.Maps Go.Proofs.YtcdehklcdipcfaaGreat.base Go.Proofs.YtcdehklcdipcfaaGreat.num Go.Proofs.YtcdehklcdipcfaaGreat.word Go.Proofs.YtcdehklcdipcfaaGreat.pagn Go.Proofs.YtcdehklcdipcfaaGreat.pgr Go.Proofs.YtcdehklcdipcfaaGreat.waln Go.Proofs.YtcdehklcdipcfaaGreat.walp
open Go.Proofs.YtcdehklcdipcfaaGreat.vfsnum hiding Bs
open Go.Proofs.YtcdehklcdipcfaaGreat.vfs (FsAt fsPtr Did tFS write_fs sync_fs cut_fs write_ok sync_ok cut_ok OffRow)
set_option linter.unusedVariables false
set_option linter.unusedSimpArgs false

theorem ne_bool {k : Int} (h : ¬ k = 0) : (k != 0) = true := by simpa using h
set_option maxRecDepth 100000 in
set_option maxHeartbeats 2000000 in
theorem save_any (w : World) (f : Nat) (a : Fs) (bl : List Nat) (A : Option Addr) (n c : Nat) (l : List Wp) (h : FsAt w f a bl) (hok : FsOk a) (hst : a.stamp + n + 10 < 4611686018427387904)
    (hl : WsS w bl A n l) (hno : ∀ s ∈ l, 0 ≤ s.no ∧ s.no < 16777216 ∧ s.n ≤ 1073741824) (L : List Pg) (hL : l.map Wp.pg = L) (hn : n ≤ 100) (hr : right L = true) :
    Calls Tryz.prog 43 #[filV f, .slice A n c] w (Did w f bl (saveF a L)) := by
  obtain ⟨k1, a1, hk1⟩ : ∃ k1 a1, noteF a 0 (batch L) = (k1, a1) := ⟨_, _, rfl⟩
  obtain ⟨k2, a2, hk2⟩ : ∃ k2 a2, noteF a1 (batch L).length done4 = (k2, a2) := ⟨_, _, rfl⟩
  obtain ⟨k3, a3, hk3⟩ : ∃ k3 a3, writeF a2 L = (k3, a3) := ⟨_, _, rfl⟩
  have hok1 : FsOk a1 := by have := noteF_ok (t := 0) (b := batch L) hok; rwa [hk1] at this
  have hok2 : FsOk a2 := by have := noteF_ok (t := (batch L).length) (b := done4) hok1; rwa [hk2] at this
  have hst1 : a1.stamp ≤ a.stamp + 1 := by have := noteF_stamp a 0 (batch L); rwa [hk1] at this
  have hst2 : a2.stamp ≤ a1.stamp + 1 := by have := noteF_stamp a1 (batch L).length done4; rwa [hk2] at this
  have hsv : saveF a L = if k1 = 0 then (if k2 = 0 then (k3, a3) else (k2, a2)) else (k1, a1) := by
    unfold saveF
    rw [hk1]
    simp only []
    rw [hk2]
    simp only []
    rw [hk3]
  have hlen : ∀ p ∈ L, p.2.length = 512 := (right_all hr).1
  have hLl : L.length = n := by rw [← hL, List.length_map, hl.1]
  obtain ⟨N, hN⟩ : ∃ N, 12 + 516 * n = N := ⟨_, rfl⟩
  have hbl : (batch L).length = N := by rw [batch_len L hlen, hLl, hN]
  have hNb : N ≤ 51612 := by omega
  have hput := fun W (q : Fresh w W) => put_ok A n c l W (hl.fresh q).ws hn (by rw [hL]; exact hr) N hN
  rw [hL] at hput
  have hnote := fun W (q : Fresh w W) A' c' (hA : VRd W bl A' N ((batch L).map bv)) (hc : N ≤ c' ∧ c' ≤ maxLen) => Did.part hk1 (note_any W f a bl 0 A' N c' (batch L) (h.fresh q) hok (by omega) hA (by omega) (by omega) hc.1 hc.2)
  rw [hbl] at hk2
  have hnote2 := fun W bl1 (hF : FsAt W f a1 bl1) A' (hA : VRd W bl1 A' 4 (done4.map bv)) => Did.part hk2 (note_any W f a1 bl1 N A' 4 4 done4 hF hok1 (by omega) hA (by omega) (by omega) (Nat.le_refl _) (by unfold maxLen; omega))
  have hwr := fun W bl2 (hF : FsAt W f a2 bl2) (hW : WsS W bl2 A n l) => Did.part hk3 (write_any W f a2 bl2 A n c l hF hok2 (by omega) hW hno L hL)
  have hbx := fun w1 bl1 (hT : VTurn bl bl1 (w.alloc (.cells #[fsPtr f, .string dbN, .string logN] tFiles)) w1) => boxF h hT
  have hws := fun w1 bl1 (hT : VTurn bl bl1 w w1) => hl.turn hT
  have hins := h.inside
  rw [hsv]
  have HP := Lib.hid hput
  have HN1 := Lib.hid hnote
  have HN2 := Lib.hid hnote2
  have HWR := Lib.hid hwr
  have HBX := Lib.hid hbx
  have HWS := Lib.hid hws
  have HIN := Lib.hid hins
  have HNB := Lib.hid hNb
  have hNi : (N : Int) ≤ 51612 := by omega
  clear hput hnote hnote2 hwr hbx hws hins hNb hsv hlen hLl hN hbl h hok hst hl hno hL hr hn hk1 hk2 hk3 hok1 hok2 hst1 hst2
  unfold filV
  by_cases h1 : k1 = 0
  · subst h1
    rw [if_pos rfl]
    by_cases h2 : k2 = 0
    · subst h2
      rw [if_pos rfl]
      go_enter Tryz.func43, Tryz.ntmps43
      go_wp2_with (first
        | (go_at_call 70; refine (HP.out _ (Fresh.alloc _ _)).mono ?_; rintro e w1 ⟨A1, c1, rfl, hf1, ho1⟩; have HF1 := Lib.hid ((Fresh.alloc w (.cells #[fsPtr f, .string dbN, .string logN] tFiles)).trans hf1); have HO1 := Lib.hid ho1; have HTX1 := Lib.hid (vfs.Turn.fresh (S := bl) hf1); have hb1 := HBX.out _ _ HTX1.out; have hc0 := hb1.cell (i := 0) rfl; have hc1 := hb1.cell (i := 1) rfl; have hc2 := hb1.cell (i := 2) rfl; clear hf1 ho1 hb1)
        | (clear hcv; go_at_call 71; refine (HN2.out _ bl1 (HF2.out.fresh (Fresh.alloc w2 (.cells #[.int .u8 100, .int .u8 111, .int .u8 110, .int .u8 101] 5 (4, 5)))) _ (vfs.RdA.lit #[.int .u8 100, .int .u8 111, .int .u8 110, .int .u8 101] 5 (4, 5) HF2.out.inside)).mono ?_; rintro e w3 ⟨rfl, bl2, hF3, hT3⟩; have HTX3 := Lib.hid ((HTX2.out.trans (vfs.Turn.fresh (Fresh.alloc w2 (.cells #[.int .u8 100, .int .u8 111, .int .u8 110, .int .u8 101] 5 (4, 5))))).trans hT3); have HF3 := Lib.hid hF3; have hb3 := HBX.out _ _ HTX3.out; clear hc0 hc1 hc2; have hc0 := hb3.cell (i := 0) rfl; have hc1 := hb3.cell (i := 1) rfl; have hc2 := hb3.cell (i := 2) rfl; clear hb3 hba; clear hT3 hF3)
        | (go_at_call 71; refine (HN1.out w1 HF1.out A1 c1 (vfs.Own.rdOff HO1.out (vfs.Own.off HO1.out (fun b hb => by have := HIN.out b hb; simp; omega))) HO1.out.cap).mono ?_; rintro e w2 ⟨rfl, bl1, hF2, hT2⟩; have HTX2 := Lib.hid (HTX1.out.trans hT2); have HF2 := Lib.hid hF2; have hb2 := HBX.out _ _ HTX2.out; clear hc0 hc1 hc2; have hc0 := hb2.cell (i := 0) rfl; have hc1 := hb2.cell (i := 1) rfl; have hc2 := hb2.cell (i := 2) rfl; have hba := hb2.alloc (.cells #[.int .u8 100, .int .u8 111, .int .u8 110, .int .u8 101] 5 (4, 5)); clear hb2; have hcv := Joins.run_convert_bytes_const_at (P := Tryz.prog) w2 32 5 #[.int .u8 100, .int .u8 111, .int .u8 110, .int .u8 101] 4 4 w2.heap.size rfl Tryz.underlying32 Tryz.underlying5; clear hT2 hF2)
        | (go_at_call 72; refine (HWR.out _ bl2 HF3.out (HWS.out _ _ ((vfs.Turn.fresh (Fresh.alloc w (.cells #[fsPtr f, .string dbN, .string logN] tFiles))).trans HTX3.out))).mono ?_; rintro e w4 ⟨rfl, bl3, hF4, hT4⟩))
      go_ret
      exact ⟨rfl, bl3, hF4, ((vfs.Turn.fresh (Fresh.alloc _ _)).trans HTX3.out).trans hT4⟩
    · rw [if_neg h2]
      have hkb := ne_bool h2
      clear HWR HWS
      go_enter Tryz.func43, Tryz.ntmps43
      go_wp2_with (first
        | (go_at_call 70; refine (HP.out _ (Fresh.alloc _ _)).mono ?_; rintro e w1 ⟨A1, c1, rfl, hf1, ho1⟩; have HF1 := Lib.hid ((Fresh.alloc w (.cells #[fsPtr f, .string dbN, .string logN] tFiles)).trans hf1); have HO1 := Lib.hid ho1; have HTX1 := Lib.hid (vfs.Turn.fresh (S := bl) hf1); have hb1 := HBX.out _ _ HTX1.out; have hc0 := hb1.cell (i := 0) rfl; have hc1 := hb1.cell (i := 1) rfl; have hc2 := hb1.cell (i := 2) rfl; clear hf1 ho1 hb1)
        | (clear hcv; go_at_call 71; refine (HN2.out _ bl1 (HF2.out.fresh (Fresh.alloc w2 (.cells #[.int .u8 100, .int .u8 111, .int .u8 110, .int .u8 101] 5 (4, 5)))) _ (vfs.RdA.lit #[.int .u8 100, .int .u8 111, .int .u8 110, .int .u8 101] 5 (4, 5) HF2.out.inside)).mono ?_; rintro e w3 ⟨rfl, bl2, hF3, hT3⟩; have HTX3 := Lib.hid ((HTX2.out.trans (vfs.Turn.fresh (Fresh.alloc w2 (.cells #[.int .u8 100, .int .u8 111, .int .u8 110, .int .u8 101] 5 (4, 5))))).trans hT3); have HF3 := Lib.hid hF3; clear hba; clear hT3 hF3)
        | (go_at_call 71; refine (HN1.out w1 HF1.out A1 c1 (vfs.Own.rdOff HO1.out (vfs.Own.off HO1.out (fun b hb => by have := HIN.out b hb; simp; omega))) HO1.out.cap).mono ?_; rintro e w2 ⟨rfl, bl1, hF2, hT2⟩; have HTX2 := Lib.hid (HTX1.out.trans hT2); have HF2 := Lib.hid hF2; have hb2 := HBX.out _ _ HTX2.out; clear hc0 hc1 hc2; have hc0 := hb2.cell (i := 0) rfl; have hc1 := hb2.cell (i := 1) rfl; have hc2 := hb2.cell (i := 2) rfl; have hba := hb2.alloc (.cells #[.int .u8 100, .int .u8 111, .int .u8 110, .int .u8 101] 5 (4, 5)); clear hb2; have hcv := Joins.run_convert_bytes_const_at (P := Tryz.prog) w2 32 5 #[.int .u8 100, .int .u8 111, .int .u8 110, .int .u8 101] 4 4 w2.heap.size rfl Tryz.underlying32 Tryz.underlying5; clear hT2 hF2))
      go_ret
      exact ⟨rfl, bl2, HF3.out, (vfs.Turn.fresh (Fresh.alloc _ _)).trans HTX3.out⟩
  · rw [if_neg h1]
    have hkb := ne_bool h1
    clear HWR HWS HN2
    go_enter Tryz.func43, Tryz.ntmps43
    go_wp2_with (first
      | (go_at_call 70; refine (HP.out _ (Fresh.alloc _ _)).mono ?_; rintro e w1 ⟨A1, c1, rfl, hf1, ho1⟩; have HF1 := Lib.hid ((Fresh.alloc w (.cells #[fsPtr f, .string dbN, .string logN] tFiles)).trans hf1); have HO1 := Lib.hid ho1; have HTX1 := Lib.hid (vfs.Turn.fresh (S := bl) hf1); have hb1 := HBX.out _ _ HTX1.out; have hc0 := hb1.cell (i := 0) rfl; have hc1 := hb1.cell (i := 1) rfl; have hc2 := hb1.cell (i := 2) rfl; clear hf1 ho1 hb1)
      | (go_at_call 71; refine (HN1.out w1 HF1.out A1 c1 (vfs.Own.rdOff HO1.out (vfs.Own.off HO1.out (fun b hb => by have := HIN.out b hb; simp; omega))) HO1.out.cap).mono ?_; rintro e w2 ⟨rfl, bl1, hF2, hT2⟩; have HTX2 := Lib.hid (HTX1.out.trans hT2); have HF2 := Lib.hid hF2;  clear hT2 hF2))
    go_ret
    exact ⟨rfl, bl1, HF2.out, (vfs.Turn.fresh (Fresh.alloc _ _)).trans HTX2.out⟩
end Go.Proofs.YtcdehklcdipcfaaGreat.pgrp
/-
  pager's Commit. My own text.
-/
namespace Go.Proofs.YtcdehklcdipcfaaGreat.pgrp
open Go.RowKit Go.Maps Go.Proofs.YtcdehklcdipcfaaGreat.base Go.Proofs.YtcdehklcdipcfaaGreat.num Go.Proofs.YtcdehklcdipcfaaGreat.word Go.Proofs.YtcdehklcdipcfaaGreat.pagn Go.Proofs.YtcdehklcdipcfaaGreat.pgr Go.Proofs.YtcdehklcdipcfaaGreat.waln Go.Proofs.YtcdehklcdipcfaaGreat.walp Go.Proofs.YtcdehklcdipcfaaGreat.pagp
open Go.Proofs.YtcdehklcdipcfaaGreat.vfsnum hiding Bs
open Go.Proofs.YtcdehklcdipcfaaGreat.vfs (FsAt fsPtr Did tFS intKey key_int)
set_option linter.unusedVariables false
set_option linter.unusedSimpArgs false

/-- a pager and its store: a call is done -/
def PDid (w : World) (p f : Nat) (b1 bl : List Nat) (v : Value) (a : Fs) (m : Mm) (e : Ending) (w' : World) : Prop :=
  e = .returned v ∧ ∃ b1' bl', FsAt w' f a b1' ∧ MemAt w' p f m bl' ∧ (∀ x ∈ bl', x ∉ b1') ∧ VTurn (b1 ++ bl) (b1' ++ bl') w w'
theorem mem_p {w w' : World} {p f : Nat} {b1 bl bl' : List Nat} {a : Fs} {m' : Mm} (h : FsAt w f a b1) (hd : ∀ x ∈ bl, x ∉ b1) (hm : MemAt w' p f m' bl') (k : VTurn bl bl' w w') :
    FsAt w' f a b1 ∧ (∀ x ∈ bl', x ∉ b1) ∧ VTurn (b1 ++ bl) (b1 ++ bl') w w' := by
  refine ⟨h.turn k (fun b hb hbl => hd b hbl hb), fun x hx hb => ?_, (k.from_ (fun x hx => List.mem_append_right _ hx)).to fun x hx => ?_⟩
  · rcases k.sub x hx with h1 | h1
    · exact hd x h1 hb
    · have := h.inside x hb; omega
  · rcases List.mem_append.1 hx with hx | hx
    · exact .inl (List.mem_append_left _ hx)
    · rcases k.sub x hx with h1 | h1
      · exact .inl (List.mem_append_right _ h1)
      · exact .inr h1
theorem sto_p {w w' : World} {p f : Nat} {b1 b1' bl : List Nat} {m : Mm} (h : MemAt w p f m bl) (hd : ∀ x ∈ bl, x ∉ b1) (k : VTurn b1 b1' w w') :
    MemAt w' p f m bl ∧ (∀ x ∈ bl, x ∉ b1') ∧ VTurn (b1 ++ bl) (b1' ++ bl) w w' := by
  refine ⟨h.turn k hd, fun x hx hb => ?_, (k.from_ (fun x hx => List.mem_append_left _ hx)).to fun x hx => ?_⟩
  · rcases k.sub x hb with h1 | h1
    · exact hd x hx h1
    · have := h.inside x hx; omega
  · rcases List.mem_append.1 hx with hx | hx
    · rcases k.sub x hx with h1 | h1
      · exact .inl (List.mem_append_left _ h1)
      · exact .inr h1
    · exact .inl (List.mem_append_right _ hx)
theorem PDid.of_mem {w w0 w' : World} {p f : Nat} {b1 b0 bl bl0 : List Nat} {v : Value} {a : Fs} {m : Mm} {e : Ending} (h : FsAt w0 f a b0) (hd : ∀ x ∈ bl0, x ∉ b0) (k : MDid w0 p f bl0 v m e w') (hT : VTurn (b1 ++ bl) (b0 ++ bl0) w w0) : PDid w p f b1 bl v a m e w' := by
  obtain ⟨he, bl', hm, hk⟩ := k
  obtain ⟨h1, h2, h3⟩ := mem_p h hd hm hk
  exact ⟨he, b0, bl', h1, hm, h2, hT.trans h3⟩
/-- what the batch of a pager brings to the store -/
theorem ws_of_bat {w w' : World} {A : Option Addr} {n c : Nat} {l : List Wp} {S : List Nat} (ho : OwnK w' w.heap.size tWr 2 A n c wpV l) (hw : ∀ s ∈ l, WpIs w' w.heap.size s) (hS : ∀ b ∈ S, b < w.heap.size) :
    WsS w' S A n l ∧ ∀ s ∈ l, 0 ≤ s.no ∧ s.no < 16777216 ∧ s.n ≤ 1073741824 := by
  have hln := ho.len wpV_len (by omega)
  refine ⟨⟨hln, fun hn => ?_, fun s hs => ?_⟩, fun s hs => ?_⟩
  · rcases ho.2 with ⟨hv, h0⟩ | ⟨g, cap, cur, hv, hb, hg, h1, h2, h3, h4⟩
    · omega
    · injection hv with hA hn' hc
      subst hA
      refine ⟨g, 0, rfl, (Array.getElem?_eq_some_iff.1 hg).1, fun hgs => by have := hS g hgs; omega, fun i s hi j v hv => ?_⟩
      obtain ⟨b, e1, _, _, e2⟩ := ho.at_ wpV_len (by omega) hi
      injection e1 with e1
      injection e1 with e1
      subst e1
      rw [Nat.zero_add]
      exact e2 j v hv
  · obtain ⟨g, h1, h2, h3, h4, h5, h6, h7, h8⟩ := hw s hs
    refine ⟨⟨by rw [List.length_map, h6, h2], fun _ => ⟨g, 0, h1, h5.inside, fun hgs => by have := hS g hgs; omega, fun j u hu => by rw [Nat.zero_add]; exact h5.cell hu⟩⟩, ⟨⟨by omega, by omega⟩, by omega, by rw [h3]; unfold maxLen; omega⟩⟩
  · obtain ⟨g, h1, h2, h3, h4, h5, h6, h7, h8⟩ := hw s hs
    exact ⟨h7, by omega, by omega⟩
theorem of_ok {w : World} {p f : Nat} {m : Mm} {bl : List Nat} (h : MemAt w p f m bl) : m.Ok := by obtain ⟨_, _, _, _, _, _, _, _, _, _, _, _, hok⟩ := h; exact hok
theorem commit_none (w : World) (p f : Nat) (a : Fs) (m : Mm) (b1 bl : List Nat) (hF : FsAt w f a b1) (h : MemAt w p f m bl) (hd : ∀ x ∈ bl, x ∉ b1) (hde : m.dead = false) (hch : m.ch = []) :
    Calls Tryz.prog 14 #[pgPtr p] w (PDid w p f b1 bl (.int .i64 0) a m) := by
  have hst := state_any w p f m bl h hde
  have h0 := h
  obtain ⟨mb, kb, A, n, c, ob, rfl, hnd, hb, hm, hk, ho, hok⟩ := h
  have hc0 := hb.cell (pg_tail hok 0)
  have hl := hm.len Tryz.underlying65 tI
  rw [hch] at hl
  have hl2 : (kvB []).length = 0 := rfl
  rw [hl2] at hl
  have HS := Lib.hid hst
  have HH := Lib.hid h0
  have HF := Lib.hid hF
  have HD := Lib.hid hd
  clear hst h0 hF hd hnd hb hm hk ho hok hl2 hch
  go_enter Tryz.func14, Tryz.ntmps14
  go_wp2_with (go_at_call 40; refine HS.out.mono ?_; rintro e w1 ⟨rfl, rfl⟩)
  go_ret
  exact ⟨rfl, b1, _, HF.out, HH.out, HD.out, vfs.Turn.refl _ _⟩
set_option maxRecDepth 100000 in
set_option maxHeartbeats 4000000 in
theorem commit_full (w : World) (p f : Nat) (a : Fs) (m : Mm) (b1 bl : List Nat) (x : Fl) (hF : FsAt w f a b1) (h : MemAt w p f m bl) (hd : ∀ x ∈ bl, x ∉ b1) (hde : m.dead = false) (hch : m.ch ≠ []) (hok : FsOk a) (hup : a.down = false) (hg : getF a.files dbN = some x)
    (hmy : manyOf m ≤ 4096) (hr : roomF a x (manyOf m) m.hd.many = false) :
    Calls Tryz.prog 14 #[pgPtr p] w (PDid w p f b1 bl (.int .i64 8) a { m with hd := m.last, ch := [] }) := by
  have hst := state_any w p f m bl h hde
  have hma := may_any w p f m bl h a b1 x hF hok hup hg hmy
  rw [hr] at hma
  have hgu := fun W (q : Fresh w W) => giveUp_any W p f m bl (h.fresh q)
  obtain ⟨mb, kb, A, n, c, ob, rfl, hnd, hb, hm, hk, ho, hmok⟩ := h
  have hc0 := hb.cell (pg_tail hmok 0)
  have hl := hm.len Tryz.underlying65 tI
  have hkl : (kvB m.ch).length = m.ch.length := by unfold kvB; rw [List.length_map]
  rw [hkl] at hl
  have hne : ((m.ch.length : Int) == 0) = false := by
    have : 0 < m.ch.length := List.length_pos_iff.2 hch
    simp; omega
  have HS := Lib.hid hst
  have HMA := Lib.hid hma
  have HGU := Lib.hid hgu
  have HF := Lib.hid hF
  have HD := Lib.hid hd
  clear hst hma hgu hF hd hnd hb hm hk ho hmok hkl hch hok hup hg hr hmy
  go_enter Tryz.func14, Tryz.ntmps14
  go_wp2_with (first
    | (go_at_call 40; refine HS.out.mono ?_; rintro e w1 ⟨rfl, rfl⟩)
    | (go_at_call 41; refine HMA.out.mono ?_; rintro e w1 ⟨rfl, hf1⟩; have HF1 := Lib.hid hf1; clear hf1)
    | (go_at_call 42; refine (HGU.out _ HF1.out).mono ?_; intro e w2 hk2; obtain ⟨rfl, bl2, hM2, hT2⟩ := hk2))
  go_ret
  obtain ⟨q1, q2, q3⟩ := mem_p (HF.out.fresh HF1.out) HD.out hM2 hT2
  exact ⟨rfl, b1, bl2, q1, hM2, q2, (vfs.Turn.fresh HF1.out).trans q3⟩
end Go.Proofs.YtcdehklcdipcfaaGreat.pgrp
/-
  pager's Write, Read, Alloc. My own text.
-/
namespace Go.Proofs.YtcdehklcdipcfaaGreat.pgrp
open Go.RowKit Go.Maps Go.Proofs.YtcdehklcdipcfaaGreat.base Go.Proofs.YtcdehklcdipcfaaGreat.num Go.Proofs.YtcdehklcdipcfaaGreat.word Go.Proofs.YtcdehklcdipcfaaGreat.pagn Go.Proofs.YtcdehklcdipcfaaGreat.pgr Go.Proofs.YtcdehklcdipcfaaGreat.waln Go.Proofs.YtcdehklcdipcfaaGreat.walp Go.Proofs.YtcdehklcdipcfaaGreat.pagp
open Go.Proofs.YtcdehklcdipcfaaGreat.vfsnum hiding Bs
open Go.Proofs.YtcdehklcdipcfaaGreat.vfs (FsAt fsPtr Did tFS intKey key_int)
set_option linter.unusedVariables false
set_option linter.unusedSimpArgs false

theorem wpList_load_blk_if {P : Program} {w : World} {ops : Array Oper} {rest : List Oper} {o : Oper} {a : Act} {Q : Exit → Act → World → Prop} (hgd : Region.wanted o (yielded ops a.tmps) = true) (ty : TypeId) (x : Operand) (ho : o.op = .load ty x) (g off n t : Nat) (cur : List Value) (hx : a.eval x = .pointer (some ⟨g, off, none⟩)) (hg : Bk w g t cur) (hfit : off + n ≤ cur.length)
    (d : TypeDesc) (hu : P.underlying ty = some d) (hd : d.isRow = true) (hi : (P.info? ty).map (·.size) = some n)
    (h : wpList P ops Q rest (a.put o.dst (.agg ((cur.drop off).take n).toArray)) w) : wpList P ops Q (o :: rest) a w :=
  wpList_step fun K hK => by
    rw [if_pos hgd]
    refine wp_load_mid ty x ho g off hx ((cur.drop off).take n) d (fun j v hv => hg.cell ?_) hu hd (by rw [hi, List.length_take, List.length_drop]; congr 1; omega) (hK _ _ h)
    rw [List.getElem?_take] at hv
    split at hv
    · rwa [List.getElem?_drop] at hv
    · cases hv
/-- what of a pager's cells the walks ask for -/
theorem mem_head {w : World} {p f : Nat} {m : Mm} {bl : List Nat} (h : MemAt w p f m bl) : ∃ cur, Bk w p tPgr cur ∧ cur.length = 28 ∧ (cur.drop 3).take 10 = m.hd.nums.map iv := by
  obtain ⟨mb, kb, A, n, c, ob, rfl, hnd, hb, hm, hk, ho, hmok⟩ := h
  exact ⟨_, hb, pg_len hmok, pg_head hmok⟩
theorem has_yes (h : Hd) (no : Nat) (hno : no < h.many) (w : World) : Calls Tryz.prog 54 #[hdV h, .int .i64 no] w fun e w' => e = .returned (.bool true) ∧ Fresh w w' := by
  have := has_any h no w
  rwa [decide_eq_true (show (0 : Int) ≤ (no : Int) ∧ (no : Int) < h.many by omega)] at this
theorem has_no (h : Hd) (no : Int) (hno : ¬ (0 ≤ no ∧ no < h.many)) (w : World) : Calls Tryz.prog 54 #[hdV h, .int .i64 no] w fun e w' => e = .returned (.bool false) ∧ Fresh w w' := by
  have := has_any h no w
  rwa [decide_eq_false hno] at this
set_option maxRecDepth 100000 in
set_option maxHeartbeats 4000000 in
theorem write_ok (w : World) (p f : Nat) (m : Mm) (bl : List Nat) (h : MemAt w p f m bl) (hde : m.dead = false) (no : Nat) (hn0 : no ≠ 0) (hno : no < m.hd.many) (A : Option Addr) (n c : Nat) (bs : Bs) (hr : Rd w w.heap.size A n (bs.map bv)) (hn : n ≤ 508) :
    Calls Tryz.prog 22 #[pgPtr p, .int .i64 no, .slice A n c] w (MDid w p f bl (.int .i64 0) { m with ch := putE m.ch no (fill bs), sh := dropE m.sh no }) := by
  have hlb : bs.length = n := by have := hr.1; rwa [List.length_map] at this
  have hst := state_any w p f m bl h hde
  have hha := fun W => has_yes m.hd no hno W
  have hbo := fun W (q : Fresh w W) => blockOf_any A n c bs W (hr.fresh q) hn
  have hno2 : no ≤ 65536 := by have := (of_ok h).hd.many; omega
  have hcg := fun W (q : Fresh w W) => change_any W p f m bl (h.fresh q) no (fill bs) hno2 (fill_length bs (by omega))
  obtain ⟨cur, hb, hl, hh⟩ := mem_head h
  have hz : (((no : Nat) : Int) == 0) = false := by simp; omega
  have hn1 : (n : Int) ≤ 508 := by omega
  have HS := Lib.hid hst
  have HHA := Lib.hid hha
  have HBO := Lib.hid hbo
  have HCG := Lib.hid hcg
  have HB := Lib.hid hb
  have HL := Lib.hid hl
  have HHH := Lib.hid hh
  clear hst hha hbo hcg hb hl hh h hr hlb hno2 hde
  unfold hdV at HHA
  go_enter Tryz.func22, Tryz.ntmps22
  go_wp2_with (first
    | (go_at_call 40; refine HS.out.mono ?_; rintro e w1 ⟨rfl, rfl⟩)
    | ((with_reducible (refine at_slot_ 19 ?_)); refine wpList_load_blk_if (by rfl) tHd (.tmp 18) rfl p 3 10 tPgr cur rfl HB.out (by rw [HL.out]; omega) _ Tryz.underlying71 rfl size_hd ?_; rw [HHH.out])
    | (go_at_call 54; refine (HHA.out _).mono ?_; rintro e w1 ⟨rfl, hf1⟩; have HF1 := Lib.hid hf1; clear hf1)
    | (go_at_call 55; refine (HBO.out _ HF1.out).mono ?_; rintro e w2 ⟨rfl, hf2⟩; have HF2 := Lib.hid (HF1.out.trans hf2); clear hf2)
    | (go_at_call 53; refine (HCG.out _ HF2.out).mono ?_; intro e w3 hk3; obtain ⟨rfl, bl3, hM3, hT3⟩ := hk3))
  go_ret
  exact ⟨rfl, bl3, hM3, (vfs.Turn.fresh HF2.out).trans hT3⟩
set_option maxRecDepth 100000 in
set_option maxHeartbeats 4000000 in
theorem read_ok (w : World) (p f : Nat) (m : Mm) (bl : List Nat) (h : MemAt w p f m bl) (hde : m.dead = false) (a : Fs) (b1 : List Nat) (C : List Bs) (hF : FsAt w f a b1) (hC : HasC a C) (no : Nat) (hno : no < m.hd.many) (b : Bs) (r : Bool) (hl : LookIs m C no b r) (hbl : b.length = 508) (hrd : m.rd < 4611686018427387903 - 1) :
    Calls Tryz.prog 25 #[pgPtr p, .int .i64 no] w fun e w' => ∃ g bl', e = .returned (.tuple #[.slice (some ⟨g, 0, none⟩) 508 508, .int .i64 0]) ∧ w.heap.size ≤ g ∧ g ∉ bl' ∧ Bk w' g tBlk (b.map bv) ∧ MemAt w' p f (pageM m no b r) bl' ∧ VTurn bl bl' w w' := by
  have hst := state_any w p f m bl h hde
  have hha := fun W => has_yes m.hd no hno W
  have hno2 : no ≤ 65536 := by have := (of_ok h).hd.many; omega
  have hpg := fun W (q : Fresh w W) => page_any W p f m bl (h.fresh q) a b1 C (hF.fresh q) hC no hno2 b r hl hbl hrd
  obtain ⟨cur, hb, hl', hh⟩ := mem_head h
  have hX : (b.map bv).length = 508 := by rw [List.length_map, hbl]
  have hzl : (zb.map bv).length = 508 := by rw [List.length_map]; rfl
  have hz := blkZero
  have HS := Lib.hid hst
  have HHA := Lib.hid hha
  have HPG := Lib.hid hpg
  have HB := Lib.hid hb
  have HL := Lib.hid hl'
  have HHH := Lib.hid hh
  have HX := Lib.hid hX
  have HZL := Lib.hid hzl
  have HONE := Lib.hid (blk_one b)
  clear hst hha hpg hb hl' hh h hF hC hl hX hzl hno2 hde
  unfold hdV at HHA
  unfold blkV at HPG hz
  go_enter Tryz.func25, Tryz.ntmps25
  go_wp2_with (first
    | (go_at_call 40; refine HS.out.mono ?_; rintro e w1 ⟨rfl, rfl⟩)
    | ((with_reducible (refine at_slot_ 17 ?_)); refine wpList_load_blk rfl tHd (.tmp 16) rfl p 3 10 tPgr cur rfl HB.out (by rw [HL.out]; omega) _ Tryz.underlying71 rfl size_hd ?_; rw [HHH.out])
    | (go_at_call 54; refine (HHA.out _).mono ?_; rintro e w1 ⟨rfl, hf1⟩; have HF1 := Lib.hid hf1; clear hf1)
    | (go_at_call 56; refine (HPG.out _ HF1.out).mono ?_; intro e w3 hk3; obtain ⟨rfl, bl3, hM3, hT3⟩ := hk3; have HM3 := Lib.hid hM3; have HT3 := Lib.hid ((vfs.Turn.fresh HF1.out).trans hT3); clear hM3 hT3)
    | ((with_reducible (refine at_store_ 7 25 ?_)); refine wpList_store_new rfl tBlk (.tmp 7) (.tmp 25) rfl w3.heap.size (b.map bv) rfl rfl w3 (zb.map bv).toArray tBlk rfl (by simp) (by rw [List.size_toArray, HZL.out, HX.out]) HONE.out (by rw [size_blk, HX.out]) ?_; intro w4 hbw4 hfw4 hltw4; have HBw4 := Lib.hid hbw4; have HFw4 := Lib.hid hfw4; clear hbw4 hfw4 hltw4))
  go_ret2
  exact ⟨w3.heap.size, bl3, rfl, HT3.out.size, fun hm => by have := HM3.out.inside _ hm; omega, HBw4.out, HM3.out.fresh HFw4.out, HT3.out.trans (vfs.Turn.fresh HFw4.out)⟩
theorem blkBuilt : Tryz.prog.built tBlk [] = some (zb.map bv).toArray := by kernel_rfl
set_option maxRecDepth 100000 in
set_option maxHeartbeats 4000000 in
theorem alloc_new (w : World) (p f : Nat) (m : Mm) (bl : List Nat) (h : MemAt w p f m bl) (hde : m.dead = false) (hf0 : m.hd.first = 0) (hmy : m.hd.many < 65536) (h1 : Hd) (hh1 : h1 = { m.hd with many := m.hd.many + 1 }) :
    Calls Tryz.prog 21 #[pgPtr p] w (MDid w p f bl (.tuple #[.int .i64 (m.hd.many : Nat), .int .i64 0]) { m with hd := h1, ch := putE (putE m.ch 0 (hdB h1)) m.hd.many zb, sh := dropE (dropE m.sh 0) m.hd.many }) := by
  have hst := state_any w p f m bl h hde
  have hok := of_ok h
  have hh : h1.Ok := by subst hh1; exact ⟨hok.hd.eight, by show m.hd.many + 1 ≤ _; omega, hok.hd.first, hok.hd.roots⟩
  have htu := fun W (q : Fresh w W) => turn_any W p f m bl (h.fresh q) h1 hh
  have hcg := fun W bl' (hM : MemAt W p f { m with hd := h1, ch := putE m.ch 0 (hdB h1), sh := dropE m.sh 0 } bl') => change_any W p f _ bl' hM m.hd.many zb (by omega) (by rfl)
  obtain ⟨cur, hb, hl, hhd⟩ := mem_head h
  have hcf : w.cell? ⟨p, 4, none⟩ = some (.int .i64 0) := by
    obtain ⟨mb, kb, A, n, c, ob, rfl, hnd, hb, hm, hk, ho, hmok⟩ := h
    have := hb.cell ((pg_hd hmok 1 (by omega)).trans (show (m.hd.nums.map iv)[1]? = some (.int .i64 (m.hd.first : Nat)) from rfl))
    rw [hf0] at this
    exact this
  have hz := hdZero
  have hX := nums10 hok.hd
  have hX1 := nums10 hh
  have hset : (m.hd.nums.map iv).set 0 (iv ((m.hd.many : Int) + 1)) = h1.nums.map iv := by subst hh1; rfl
  have h0c : (m.hd.nums.map iv)[0]? = some (.int .i64 (m.hd.many : Nat)) := rfl
  have h1c : (h1.nums.map iv)[0]? = some (.int .i64 ((m.hd.many : Int) + 1)) := by subst hh1; rfl
  have hin := h.inside
  have hmb : (m.hd.many : Int) < 65536 := by omega
  have hmne : (((m.hd.many : Nat) : Int) == 65536) = false := by simp; omega
  have HS := Lib.hid hst
  have HTU := Lib.hid htu
  have HCG := Lib.hid hcg
  have HB := Lib.hid hb
  have HL := Lib.hid hl
  have HHD := Lib.hid hhd
  have HX := Lib.hid hX
  have HX1 := Lib.hid hX1
  have HSET := Lib.hid hset
  have H0C := Lib.hid h0c
  have H1C := Lib.hid h1c
  have HIN := Lib.hid hin
  have HONE := Lib.hid (hd_one m.hd)
  clear hst htu hcg hb hl hhd hX hX1 hset h0c h1c hin h hok hh hh1 hde hf0
  unfold hdV at HTU hz
  have hZl : (hd0.nums.map iv).length = 10 := rfl
  generalize hd0.nums.map iv = Z at *
  have HZL := Lib.hid hZl
  clear hZl
  unfold blkV at HCG
  go_enter Tryz.func21, Tryz.ntmps21
  go_wp2_with (first
    | (go_at_call 40; refine HS.out.mono ?_; rintro e w1 ⟨rfl, rfl⟩)
    | ((with_reducible (refine at_slot_ 24 ?_)); refine wpList_load_blk rfl tHd (.tmp 23) rfl p 3 10 tPgr cur rfl HB.out (by rw [HL.out]; omega) _ Tryz.underlying71 rfl size_hd ?_; rw [HHD.out])
    | ((with_reducible (refine at_store_ 5 24 ?_)); refine wpList_store_new rfl tHd (.tmp 5) (.tmp 24) rfl w.heap.size (m.hd.nums.map iv) rfl rfl w Z.toArray tHd rfl (by simp) (by rw [List.size_toArray, HX.out, HZL.out]) HONE.out (by rw [size_hd, HX.out]) ?_; intro w4 hbw4 hfw4 hltw4; have hc4 := hbw4.cell H0C.out; have hz4 := hbw4.free 0; have hbw5 := hbw4.put 0 (iv ((m.hd.many : Int) + 1)); rw [HSET.out] at hbw5; have hc5 := hbw5.cell H1C.out; have HBw5 := Lib.hid hbw5; have HFw5 := Lib.hid (hfw4.but (Nat.le_refl _) (But.put (g := w.heap.size) (i := 0) w4 (iv ((m.hd.many : Int) + 1)))); clear hbw4 hfw4 hltw4 hbw5)
    | ((with_reducible (refine at_slot_ 33 ?_)); refine wpList_load_row (o := ⟨some 33, _, _, _, _, _⟩) rfl tHd (.tmp 5) rfl w.heap.size rfl tHd (h1.nums.map iv).toArray (0, 0) _ HBw5.out Tryz.underlying71 rfl (by rw [size_hd, List.size_toArray, HX1.out]) ?_)
    | (go_at_call 52; refine (HTU.out _ HFw5.out).mono ?_; intro e w6 hk6; obtain ⟨rfl, bl6, hM6, hT6⟩ := hk6; have hb6 := box_stay HBw5.out hT6 (fun hm => by have := HIN.out _ hm; omega); have hc6 := hb6.cell H1C.out; have HNB := Lib.hid (hT6.apart HBw5.out.inside (fun hm => by have := HIN.out _ hm; omega)); have HB6 := Lib.hid hb6; have HM6 := Lib.hid hM6; have HT6 := Lib.hid ((vfs.Turn.fresh HFw5.out).trans hT6); clear hM6 hT6 hb6 hc5 hc4)
    | ((with_reducible (refine at_slot_ 39 ?_)); refine wpList_buildTo rfl tBlk #[] rfl (some 39) rfl (zb.map bv).toArray blkBuilt ?_)
    | (go_at_call 53; refine (HCG.out _ bl6 HM6.out).mono ?_; intro e w7 hk7; obtain ⟨rfl, bl7, hM7, hT7⟩ := hk7; have hc7 := (box_stay HB6.out hT7 HNB.out).cell H1C.out; have HM7 := Lib.hid hM7; have HT7 := Lib.hid hT7; clear hM7 hT7))
  go_ret2
  exact ⟨rfl, bl7, HM7.out, HT6.out.trans HT7.out⟩
end Go.Proofs.YtcdehklcdipcfaaGreat.pgrp
