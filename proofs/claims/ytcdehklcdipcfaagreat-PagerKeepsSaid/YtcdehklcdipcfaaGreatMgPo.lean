import Derived.Test.YtcdehklcdipcfaaGreatMgPi
/- Several of my own texts, one behind the other. -/
/-
  pager's right: the names that a pager may have. My own text.
-/
namespace Go.Proofs.YtcdehklcdipcfaaGreat.pgrr
open Go.RowKit Go.Maps Go.Proofs.YtcdehklcdipcfaaGreat.base Go.Proofs.YtcdehklcdipcfaaGreat.vfsnum
open Go.Proofs.YtcdehklcdipcfaaGreat.vfs (ret_bool)
set_option linter.unusedVariables false

def rightP (s : ByteArray) : Bool := decide (1 ≤ s.size) && decide (s.size ≤ 20) && s.data.toList.all okByte
set_option maxHeartbeats 1000000 in
theorem rightPN_any (n : Nat) (w : World) (hn : n < 256) : Calls Tryz.prog 61 #[.int .u8 n] w fun e w' => e = .returned (.bool (okN n)) ∧ w = w' := by
  go_enter Tryz.func61, Tryz.ntmps61
  go_wp2
  all_goals
    go_ret
    exact ⟨ret_bool (by rw [Bool.eq_iff_iff]; unfold okN; simp; try omega), rfl⟩
theorem rightByte_any (c : UInt8) (w : World) (v : Int) (hv : v = (c.toNat : Nat)) : Calls Tryz.prog 61 #[.int .u8 v] w fun e w' => e = .returned (.bool (okByte c)) ∧ w = w' := by
  subst hv
  exact rightPN_any c.toNat w (by have := c.toNat_lt; omega)
theorem rightP_any (s : ByteArray) (w : World) (hs : s.size ≤ maxLen) : Calls Tryz.prog 31 #[.string s] w fun e w' => e = .returned (.bool (rightP s)) ∧ w = w' := by
  unfold maxLen at hs
  by_cases h1 : s.size < 1
  · have e : rightP s = false := by unfold rightP; simp; omega
    rw [e]
    clear e
    go_enter Tryz.func31, Tryz.ntmps31
    go_wp2
    all_goals go_ret
    all_goals exact ⟨rfl, rfl⟩
  · by_cases h2 : 20 < s.size
    · have e : rightP s = false := by unfold rightP; simp; omega
      rw [e]
      clear e
      go_enter Tryz.func31, Tryz.ntmps31
      go_wp2
      all_goals go_ret
      all_goals exact ⟨rfl, rfl⟩
    · have e : rightP s = s.data.toList.all okByte := by unfold rightP; simp; omega
      have E := Lib.hid e
      clear e
      have d1 : decide ((s.size : Int) < 1) = false := by simp; omega
      have d2 : decide ((20 : Int) < (s.size : Int)) = false := by simp; omega
      go_enter Tryz.func31, Tryz.ntmps31
      go_wp2
      go_loop [14] (fun t => ∃ k : Nat, k ≤ s.size ∧ t = .int .i64 k ∧ Hid ((s.data.toList.take k).all okByte = true)) (fun t => s.size - (intOf t).toNat)
      case atStart => exact ⟨0, Nat.zero_le _, rfl, rfl⟩
      case round =>
        obtain ⟨k, hk, rfl, hall⟩ := hrel
        by_cases hlt : k < s.size
        · have ht : s.data.toList.take (k + 1) = s.data.toList.take k ++ [s[k]] := by
            rw [List.take_succ_eq_append_getElem (by simpa using hlt)]; rfl
          have hsplit : s.data.toList = s.data.toList.take k ++ (s[k] :: s.data.toList.drop (k + 1)) := by
            have := List.take_append_drop (k + 1) s.data.toList
            rw [ht, List.append_assoc] at this
            exact this.symm
          cases hb : okByte s[k] with
          | true =>
            have HT := Lib.hid (show (s.data.toList.take (k + 1)).all okByte = true by rw [ht, List.all_append, hall.out]; simp [hb])
            have hc : ∀ (w : World) (v : Int), v = ((s[k]).toNat : Nat) → Calls Tryz.prog 61 #[.int .u8 v] w fun e w' => e = .returned (.bool (okByte (s[k]))) ∧ w = w' := fun w v hv => rightByte_any _ w v hv
            rw [hb] at hc
            clear ht hsplit hb
            go_wp2_with (go_at_call 61; refine (hc _ _ rfl).mono ?_; rintro e w' ⟨rfl, rfl⟩)
            go_round
            case rel => exact ⟨k + 1, by omega, by go_num, HT.out⟩
            case measure => simp [intOf]; omega
          | false =>
            have HT := Lib.hid (show s.data.toList.all okByte = false by rw [hsplit, List.all_append]; simp [hb])
            have hc : ∀ (w : World) (v : Int), v = ((s[k]).toNat : Nat) → Calls Tryz.prog 61 #[.int .u8 v] w fun e w' => e = .returned (.bool (okByte (s[k]))) ∧ w = w' := fun w v hv => rightByte_any _ w v hv
            rw [hb] at hc
            clear ht hsplit hb
            go_wp2_with (go_at_call 61; refine (hc _ _ rfl).mono ?_; rintro e w' ⟨rfl, rfl⟩)
            go_ret
            exact ⟨ret_bool (by rw [E.out]; exact HT.out.symm), rfl⟩
        · have hk2 : k = s.size := by omega
          have HT := Lib.hid (show s.data.toList.all okByte = true by have := hall.out; rwa [List.take_of_length_le (by simp; omega)] at this)
          go_wp2
          go_ret
          exact ⟨ret_bool (by rw [E.out]; exact HT.out.symm), rfl⟩
theorem right_x (w : World) : Calls Tryz.prog 31 #[.string ⟨#[120]⟩] w fun e w' => e = .returned (.bool true) ∧ w = w' := rightP_any ⟨#[120]⟩ w (by unfold maxLen; show 1 ≤ _; omega)
end Go.Proofs.YtcdehklcdipcfaaGreat.pgrr
/-
  pager's Open, where its files open and its begin is done. My own text.
-/
namespace Go.Proofs.YtcdehklcdipcfaaGreat.pgrp
open Go.RowKit Go.Maps Go.Proofs.YtcdehklcdipcfaaGreat.base Go.Proofs.YtcdehklcdipcfaaGreat.num Go.Proofs.YtcdehklcdipcfaaGreat.word Go.Proofs.YtcdehklcdipcfaaGreat.pagn Go.Proofs.YtcdehklcdipcfaaGreat.pgr Go.Proofs.YtcdehklcdipcfaaGreat.waln Go.Proofs.YtcdehklcdipcfaaGreat.walp Go.Proofs.YtcdehklcdipcfaaGreat.pagp
open Go.Proofs.YtcdehklcdipcfaaGreat.vfsnum hiding Bs
open Go.Proofs.YtcdehklcdipcfaaGreat.vfs (FsAt fsPtr Did tFS intKey key_int)
set_option linter.unusedVariables false
set_option linter.unusedSimpArgs false

/-- a pager is told, and its store -/
def Opened (w : World) (f : Nat) (b1 : List Nat) (a : Fs) (m : Mm) (e : Ending) (w' : World) : Prop :=
  ∃ p b' bl', e = .returned (.tuple #[pgPtr p, .int .i64 0]) ∧ FsAt w' f a b' ∧ MemAt w' p f m bl' ∧ (∀ x ∈ bl', x ∉ b') ∧ VTurn b1 (b' ++ bl') w w'
set_option maxRecDepth 100000 in
set_option maxHeartbeats 4000000 in
theorem open_with (w : World) (f : Nat) (a a2 a' : Fs) (m : Mm) (b1 : List Nat) (hF : FsAt w f a b1)
    (hop : ∀ W, FsAt W f a b1 → Calls Tryz.prog 34 #[filV f] W (Done W f b1 0 a2))
    (hbe : ∀ W p b bl, FsAt W f a2 b → MemAt W p f mm0 bl → (∀ x ∈ bl, x ∉ b) → Calls Tryz.prog 35 #[pgPtr p] W (PDid W p f b bl (.int .i64 0) a' m)) :
    Calls Tryz.prog 11 #[fsPtr f, .string ⟨#[120]⟩] w (Opened w f b1 a' m) := by
  have hmm := @run_makeMap Tryz.prog
  have hmd : ∀ (W : World) mb kb, mb ≠ kb → MapOf Tryz.prog tI W mb (kvB []) → MapOf Tryz.prog tI W kb (kvB []) → MemAt (W.alloc (.cells #[fsPtr f, .string dbN, .string logN, .int .i64 0, .int .i64 0, .int .i64 0, .int .i64 0, .int .i64 0, .int .i64 0, .int .i64 0, .int .i64 0, .int .i64 0, .int .i64 0, .int .i64 0, .int .i64 0, .int .i64 0, .int .i64 0, .int .i64 0, .int .i64 0, .int .i64 0, .int .i64 0, .int .i64 0, .int .i64 0, .map (some mb), .map (some kb), .slice none 0 0, .int .i64 0, .bool false] tPgr)) W.heap.size f mm0 [W.heap.size, mb, kb] := fun W mb kb h1 h2 h3 => mem_made h1 h2 h3
  have hmp := MapOf.made Tryz.prog tI
  have hri := pgrr.right_x
  have hfo := filesOf_any f
  have hsh := shelf_any
  have HMD := Lib.hid hmd
  have HMP := Lib.hid hmp
  have HF := Lib.hid hF
  have HOP := Lib.hid hop
  have HBE := Lib.hid hbe
  have HRI := Lib.hid hri
  have HFO := Lib.hid hfo
  have HSH := Lib.hid hsh
  clear hmd hmp hF hop hbe hri hfo hsh
  unfold filV at HFO HOP
  go_enter Tryz.func11, Tryz.ntmps11
  go_wp2_with (first
    | (go_at_call 31; refine (HRI.out _).mono ?_; rintro e w1 ⟨rfl, rfl⟩)
    | (go_at_call 32; refine (HFO.out _).mono ?_; rintro e w1 ⟨rfl, hf1⟩; have HF1 := Lib.hid hf1; clear hf1)
    | (go_at_call 33; refine (HSH.out _).mono ?_; rintro e w2 ⟨kb, rfl, hkb, hmk, hf2⟩; have hM := HMD.out w2 w1.heap.size kb (by have := hkb; simp at this; omega) ((HMP.out w1).old (hf2.block _ (by simp))) hmk; have HFW := Lib.hid ((HF1.out.trans (Fresh.alloc _ _)).trans hf2); have HIN := Lib.hid (show ∀ x ∈ [w2.heap.size, w1.heap.size, kb], w.heap.size ≤ x from fun x hx => by have h1 := HF1.out.size; have h2 := hf2.size; simp at h2 hkb hx; omega);  obtain ⟨cur, hb, hl, hh⟩ := mem_files hM; have HB := Lib.hid hb; have HL := Lib.hid hl; have HHH := Lib.hid hh; have HM := Lib.hid hM; clear hkb hmk hf2 hM hb hl hh)
    | ((with_reducible (refine at_slot_ 24 ?_)); refine wpList_load_blk rfl tFiles (.tmp 23) rfl w2.heap.size 0 3 tPgr cur rfl HB.out (by rw [HL.out]; omega) _ Tryz.underlying63 rfl size_files ?_; rw [HHH.out])
    | (go_at_call 34; refine (HOP.out _ (HF.out.fresh (HFW.out.trans (Fresh.alloc _ _)))).mono ?_; intro e w3 hk3; obtain ⟨rfl, b3, hF3, hT3⟩ := hk3; have hd0 : ∀ x ∈ [w2.heap.size, w1.heap.size, kb], x ∉ b1 := (fun x hx hm => by have h1 := HIN.out x hx; have h2 := HF.out.inside _ hm; omega); have h4 := sto_p HM.out hd0 hT3; have HBEW := Lib.hid (HBE.out _ _ _ _ hF3 h4.1 h4.2.1); have HT3 := Lib.hid h4.2.2; clear h4 hd0 hT3 hF3)
    | (go_at_call 35; refine HBEW.out.mono ?_; intro e w4 hk4; obtain ⟨rfl, b4, bl4, hF4, hM4, hd4, hT4⟩ := hk4))
  go_ret2
  refine ⟨_, b4, bl4, rfl, hF4, hM4, hd4, vfs.Turn.trans (((vfs.Turn.fresh (S := b1) (HFW.out.trans (Fresh.alloc _ _))).to fun x hx => ?_)) (HT3.out.trans hT4)⟩
  rcases List.mem_append.1 hx with hx | hx
  · exact .inl hx
  · exact .inr (HIN.out x hx)
end Go.Proofs.YtcdehklcdipcfaaGreat.pgrp
/-
  pager's load. My own text.
-/
namespace Go.Proofs.YtcdehklcdipcfaaGreat.pgrp
open Go.RowKit Go.Maps Go.Proofs.YtcdehklcdipcfaaGreat.base Go.Proofs.YtcdehklcdipcfaaGreat.num Go.Proofs.YtcdehklcdipcfaaGreat.word Go.Proofs.YtcdehklcdipcfaaGreat.pagn Go.Proofs.YtcdehklcdipcfaaGreat.pgr Go.Proofs.YtcdehklcdipcfaaGreat.waln Go.Proofs.YtcdehklcdipcfaaGreat.walp Go.Proofs.YtcdehklcdipcfaaGreat.pagp
open Go.Proofs.YtcdehklcdipcfaaGreat.vfsnum hiding Bs
open Go.Proofs.YtcdehklcdipcfaaGreat.vfs (FsAt fsPtr Did tFS intKey key_int)
set_option linter.unusedVariables false
set_option linter.unusedSimpArgs false

def mmL (h : Hd) : Mm := ⟨hd0, hd0, [], [(0, hdB h)], 1, false⟩
theorem mmL_ok {h : Hd} (hk : h.Good) : (mmL h).Ok := ⟨hd0_ok, hd0_ok, (fun e he => by cases he), (fun e he => by
  have : e ∈ [(0, hdB h)] := he
  rw [List.mem_singleton] at this
  subst this
  exact ⟨Nat.zero_le _, hdB_len hk.eight⟩), (by show 1 ≤ 16; omega), (by show 1 < _; omega)⟩
theorem mmL_ok' {h : Hd} (hk : h.Good) : Mm.Ok { mmL h with hd := h } := ⟨hk.ok, (mmL_ok hk).last, (mmL_ok hk).ch, (mmL_ok hk).sh, (mmL_ok hk).few, (mmL_ok hk).rd⟩
theorem eq_blk (xs : List UInt8) (hx : xs.length = 508) (W : World) : (Op.equalIn 10000 tBlk (blkV xs) (blkV xs)).run Tryz.prog W = .ok true W := by
  obtain ⟨i0, hi0, hz0, hz1, hz2⟩ := info_parts byte_info
  have hce : Tryz.prog.cellsOf 5 = 1 := by kernel_rfl
  unfold blkV
  rw [show (10000 : Nat) = 9998 + 1 + 1 from rfl, run_equalIn_array W (9998 + 1) _ _ (n := 508) (e := 5) (by kernel_rfl) hi0, hce, items_bv xs xs 9998 W (List.range 508) (fun i hi => by rw [List.mem_range] at hi; omega), all_eq xs xs 508 hx hx, decide_eq_true rfl]
theorem guard_blk (x y : Operand) (xs : List UInt8) (W : World) : (eqGuard .neq tBlk x y (blkV xs) (blkV xs)).run Tryz.prog W = .ok () W := run_eqGuard_agg W _ _ x y _ _ (by kernel_rfl)
theorem any_store_blk {P : Program} {ops : Array Oper} {o : Oper} {a : Act} {w : World} {K : Act → World → Prop} {Q : Exit → Act → World → Prop} {E : Prop} (hgd : o.guard = none) (ty : TypeId) (x y : Operand) (ho : o.op = .store ty x y)
    (g off t : Nat) (cur vs : List Value) (hx : a.eval x = .pointer (some ⟨g, off, none⟩)) (hy : a.eval y = .agg vs.toArray) (hg : Bk w g t cur) (hfit : off + vs.length ≤ cur.length) (h1 : ∀ v ∈ vs, v.oneCell' = true) (hi : (P.info? ty).map (·.size) = some vs.length)
    (h : ∀ w', Bk w' g t (splice cur off vs) → But g w w' → K (a.put o.dst undef) w') : if Region.wanted o (yielded ops a.tmps) = true then Oper.wp P o a w K Q else E := by
  have hw : Region.wanted o (yielded ops a.tmps) = true := by simp [Region.wanted, hgd]
  rw [if_pos hw]
  obtain ⟨w', hr, hb, hbut⟩ := run_store_mid (P := P) hg ty vs hfit h1 hi
  unfold Oper.wp execOp
  simp only [ho, hx, hy, Instr.storeAt, Instr.sureAddr, Sem.run_bind, Sem.run_pure, Result.andThen_ok, hr]
  exact h w' hb hbut
set_option maxRecDepth 100000 in
set_option maxHeartbeats 8000000 in
theorem load_old (w : World) (p f : Nat) (a : Fs) (C : List Bs) (T : Nat) (h : Hd) (b1 bl : List Nat) (hF : FsAt w f a b1) (hM : MemAt w p f mm0 bl) (hd : ∀ x ∈ bl, x ∉ b1) (hc : Cv a (flat 0 C) [] T) (hall : All508 C) (hC : HasC a C) (h0 : C[0]? = some (hdB h)) (hk : h.Good) (hl : C.length = h.many) :
    Calls Tryz.prog 66 #[pgPtr p] w (PDid w p f b1 bl (.int .i64 0) a { mmL h with hd := h, last := h }) := by
  obtain ⟨x, hx, hD⟩ := hc.db
  have hxl : x.bs.length = 512 * h.many := by rw [hD, flat_len C 0 hall, hl]
  have hmy := hk.many
  have hmy0 := hk.first
  have hlo := fun W (q : FsAt W f a b1) => long_any W f a b1 x q hc.up hx
  rw [hxl, show ((512 * h.many : Nat) : Int) = (h.many : Int) * 512 by omega] at hlo
  obtain ⟨L, hL⟩ : ∃ L : Int, (h.many : Int) * 512 = L := ⟨_, rfl⟩
  rw [hL] at hlo
  have hpg := fun W (q : Fresh w W) => page_any W p f mm0 bl (hM.fresh q) a b1 C (hF.fresh q) hC 0 (by omega) (hdB h) true (.inr (.inr ⟨rfl, rfl, h0, rfl⟩)) (hdB_len hk.eight) (by decide)
  have hpm : pageM mm0 0 (hdB h) true = mmL h := rfl
  rw [hpm] at hpg
  have hmp := fun W blx (hM : MemAt W p f (mmL h) blx) (hT : VTurn bl blx w W) => mem_p hF hd hM hT
  obtain ⟨cur, hb, hcl, hh⟩ := mem_files hM
  have hho := fun W => headOf_any h hk.ok W
  have hri := fun W => right_any h hk W
  have hhb := fun W => head_block_any h hk.ok W
  have heq := fun W => eq_blk (hdB h) (hdB_len hk.eight) W
  have hgd := fun W x y => guard_blk x y (hdB h) W
  have hbl := hdB_len hk.eight
  have hX : ((hdB h).map bv).length = 508 := by rw [List.length_map, hbl]
  have hY : (h.nums.map iv).length = 10 := nums10 hk.ok
  have hz := blkZero
  have hz2 := hdZero
  have hzl : (zb.map bv).length = 508 := by rw [List.length_map]; rfl
  have hzl2 : (hd0.nums.map iv).length = 10 := rfl
  have hone := blk_one (hdB h)
  have hone2 := hd_one h
  unfold filV at hlo
  unfold blkV at hpg hho hhb heq hgd hz
  unfold hdV at hho hri hhb hz2
  have hy0 : (h.nums.map iv)[0]? = some (.int .i64 (h.many : Nat)) := rfl
  generalize (hdB h).map bv = X at *
  have hsp1 := fun mb kb ov => pg_splice (f := f) (mb := mb) (kb := kb) (ov := ov) (m := mmL h) (mmL_ok hk) hk.ok
  have hsp2 := fun mb kb ov => pg_splice2 (f := f) (mb := mb) (kb := kb) (ov := ov) (m := { mmL h with hd := h }) (mmL_ok' hk) hk.ok
  have HOK := Lib.hid hk.ok
  generalize h.nums.map iv = Y at *
  have HSP1 := Lib.hid hsp1
  have HSP2 := Lib.hid hsp2
  clear hsp1 hsp2
  generalize zb.map bv = ZB at *
  generalize hd0.nums.map iv = ZH at *
  have HLO := Lib.hid hlo
  have HPG := Lib.hid hpg
  have HMP := Lib.hid hmp
  have HB := Lib.hid hb
  have HCL := Lib.hid hcl
  have HHH := Lib.hid hh
  have HHO := Lib.hid hho
  have HRI := Lib.hid hri
  have HHB := Lib.hid hhb
  have HX := Lib.hid hX
  have HY := Lib.hid hY
  have HZL := Lib.hid hzl
  have HZL2 := Lib.hid hzl2
  have HONE := Lib.hid hone
  have HONE2 := Lib.hid hone2
  have HY0 := Lib.hid hy0
  have HFA := Lib.hid hF
  clear hlo hpg hmp hb hcl hh hho hri hhb hX hY hzl hzl2 hone hone2 hF hM hd hc hall hC h0 hl hx hD hxl hpm hbl hy0
  have hmy1 : ¬ (L < 512) := by omega
  have HL := Lib.hid hL
  have HMB := Lib.hid (show (h.many : Int) ≤ 65536 by omega)
  clear hk hL hmy hmy0
  go_enter Tryz.func66, Tryz.ntmps66
  go_upto_region 7 with (first
    | ((with_reducible (refine at_slot_ 9 ?_)); refine wpList_load_blk rfl tFiles (.tmp 8) rfl p 0 3 tPgr cur rfl HB.out (by rw [HCL.out]; omega) _ Tryz.underlying63 rfl size_files ?_; rw [HHH.out])
    | (go_at_call 65; refine (HLO.out _ HFA.out).mono ?_; rintro e w1 ⟨rfl, hf1⟩; have HF1 := Lib.hid hf1; clear hf1)
    | (go_at_call 56; refine (HPG.out _ HF1.out).mono ?_; intro e w2 hk2; obtain ⟨rfl, bl2, hM2, hT2⟩ := hk2; have HM2 := Lib.hid hM2; have HT2 := Lib.hid ((vfs.Turn.fresh HF1.out).trans hT2); clear hM2 hT2)
    | ((with_reducible (refine at_store_ 3 15 ?_)); refine wpList_store_new rfl tBlk (.tmp 3) (.tmp 15) rfl w2.heap.size X rfl rfl w2 ZB.toArray tBlk rfl (by simp) (by rw [List.size_toArray, HZL.out, HX.out]) HONE.out (by rw [size_blk, HX.out]) ?_; intro w3 hbw3 hfw3 hltw3; have HB3 := Lib.hid hbw3; have HF3 := Lib.hid hfw3; clear hbw3 hfw3 hltw3)
    | ((with_reducible (refine at_slot_ 20 ?_)); refine wpList_load_row (o := ⟨some 20, _, _, _, _, _⟩) rfl tBlk (.tmp 3) rfl w2.heap.size rfl tBlk X.toArray (0, 0) _ HB3.out Tryz.underlying92 rfl (by rw [size_blk, List.size_toArray, HX.out]) ?_)
    | (go_at_call 96; refine (HHO.out _).mono ?_; rintro e w4 ⟨rfl, hf4⟩; have HF4 := Lib.hid hf4; clear hf4)
    | ((with_reducible (refine at_store_ 5 21 ?_)); refine wpList_store_new rfl tHd (.tmp 5) (.tmp 21) rfl w4.heap.size Y rfl rfl w4 ZH.toArray tHd rfl (by simp) (by rw [List.size_toArray, HZL2.out, HY.out]) HONE2.out (by rw [size_hd, HY.out]) ?_; intro w5 hbw5 hfw5 hltw5; have HB5 := Lib.hid hbw5; have HF5 := Lib.hid hfw5; clear hbw5 hfw5 hltw5))
  obtain ⟨cur2, hb2, hl2, hh2⟩ := mem_files HM2.out
  have hbp : Bk w5 p tPgr cur2 := hb2.fresh ((HF3.out.trans HF4.out).trans HF5.out)
  have hbx5 : Bk w5 w2.heap.size tBlk X := HB3.out.fresh (HF4.out.trans HF5.out)
  obtain ⟨g3, hg3⟩ : ∃ g3, w2.heap.size = g3 := ⟨_, rfl⟩
  obtain ⟨g5, hg5⟩ : ∃ g5, w4.heap.size = g5 := ⟨_, rfl⟩
  have hpr : ∀ V, Bk V p tPgr cur2 → V.rangeAt p 0 [fsPtr f, .string dbN, .string logN] := fun V hb j v hv => by
    rw [← hh2, List.drop_zero, List.getElem?_take] at hv
    split at hv
    · rw [Nat.zero_add]; exact hb.cell hv
    · cases hv
  have hSS : ∀ V, Fresh w5.drew V → V.rangeAt g5 0 Y ∧ V.rangeAt g3 0 X ∧ V.rangeAt p 0 [fsPtr f, .string dbN, .string logN] := fun V q => by
    refine ⟨?_, ?_, hpr V (hbp.fresh ((Fresh.drew _).trans q))⟩
    · rw [← hg5]; exact Bk.range (HB5.out.fresh ((Fresh.drew _).trans q))
    · rw [← hg3]; exact Bk.range (hbx5.fresh ((Fresh.drew _).trans q))
  have HS := Lib.hid hSS
  have HBP := Lib.hid hbp
  have hk5 := hSS _ (Fresh.refl _)
  have hfa : ∀ V, Fresh w5.drew V → FsAt V f a b1 := fun V q => (HMP.out _ _ HM2.out HT2.out).1.fresh ((((HF3.out.trans HF4.out).trans HF5.out).trans (Fresh.drew _)).trans q)
  have HFAW := Lib.hid hfa
  clear hfa
  rw [hg3, hg5]
  clear hSS hpr hbp hbx5 hb2 hh2 hl2
  have huh := Tryz.underlying71
  have hub := Tryz.underlying92
  have huf := Tryz.underlying63
  have hsh : (Tryz.prog.info? tHd).map (·.size) = some Y.length := by rw [size_hd, HY.out]
  have hsb : (Tryz.prog.info? tBlk).map (·.size) = some X.length := by rw [size_blk, HX.out]
  simp only [Act.put]
  refine wp_region_held_drew (S := fun w' => w'.rangeAt g5 0 Y ∧ w'.rangeAt g3 0 X ∧ w'.rangeAt p 0 [fsPtr f, .string dbN, .string logN]) (by kernel_rfl) hk5 (fun hHeld => ?_)
  refine wpAnyH_take (i := 0) (oi := ⟨some 22, _, _, _, _, _⟩) (v := .agg Y.toArray) rfl (by decide +kernel) (by decide +kernel) (by decide +kernel) (fun _ _ _ h => h) (yieldsIf_load_mid (by rfl) tHd (.tmp 5) rfl g5 0 rfl Y _ (fun w hw => hw.1) huh (by rfl) hsh) (by assumption) ?_
  simp only [Act.put, List.setIfInBounds_toArray, List.set_cons_zero, List.set_cons_succ]
  refine wpAnyH_ready (rs := [1]) (by decide +kernel) (by simp) (AllReadyH.cons rfl (fun K hK => ?_) AllReadyH.nil)
  go_simp
  refine (HRI.out _).mono ?_
  rintro e w6 ⟨rfl, hf6⟩
  have HF6 := Lib.hid ((Fresh.refl w5.drew).trans hf6)
  clear hf6
  refine hK.out _ _ (HS.out _ HF6.out) (fun hHeld6 => ?_)
  clear hK K
  refine wpAnyH_take (i := 2) (oi := ⟨some 24, _, _, _, _, _⟩) (v := .bool false) rfl (by decide +kernel) (by decide +kernel) (by decide +kernel) (fun _ _ _ h => h) (Or.inl ⟨by rfl, fun w' hw' => by go_simp⟩) (by assumption) ?_
  simp only [Act.put, List.setIfInBounds_toArray, List.set_cons_zero, List.set_cons_succ]
  refine wpAnyH_take (i := 3) (oi := ⟨some 25, _, _, _, _, _⟩) (v := .bool false) rfl (by decide +kernel) (by decide +kernel) (by decide +kernel) (fun _ _ _ h => h) (Or.inl ⟨by rfl, fun w' hw' => by go_simp⟩) (by assumption) ?_
  simp only [Act.put, List.setIfInBounds_toArray, List.set_cons_zero, List.set_cons_succ]
  refine wpAnyH_take (i := 4) (oi := ⟨some 26, _, _, _, _, _⟩) (v := .agg Y.toArray) rfl (by decide +kernel) (by decide +kernel) (by decide +kernel) (fun _ _ _ h => h) (yieldsIf_load_mid (by rfl) tHd (.tmp 5) rfl g5 0 rfl Y _ (fun w hw => hw.1) huh (by rfl) hsh) (by assumption) ?_
  simp only [Act.put, List.setIfInBounds_toArray, List.set_cons_zero, List.set_cons_succ]
  refine wpAnyH_take (i := 6) (oi := ⟨some 28, _, _, _, _, _⟩) (v := .agg X.toArray) rfl (by decide +kernel) (by decide +kernel) (by decide +kernel) (fun _ _ _ h => h) (yieldsIf_load_mid (by rfl) tBlk (.tmp 3) rfl g3 0 rfl X _ (fun w hw => hw.2.1) hub (by rfl) hsb) (by assumption) ?_
  simp only [Act.put, List.setIfInBounds_toArray, List.set_cons_zero, List.set_cons_succ]
  refine wpAnyH_ready (rs := [5]) (by decide +kernel) (by simp) (AllReadyH.cons rfl (fun K hK => ?_) AllReadyH.nil)
  go_simp
  refine (HHB.out _).mono ?_
  rintro e w7 ⟨rfl, hf7⟩
  have HF7 := Lib.hid (HF6.out.trans hf7)
  clear hf7
  refine hK.out _ _ (HS.out _ HF7.out) (fun hHeld7 => ?_)
  clear hK K
  refine wpAnyH_ready (rs := [7]) (by decide +kernel) (by simp) (AllReadyH.cons rfl (fun K hK => ?_) AllReadyH.nil)
  go_simp
  refine hK.out _ _ (HS.out _ HF7.out) (fun hHeld8 => ?_)
  clear hK K
  refine wpAnyH_take (i := 8) (oi := ⟨some 30, _, _, _, _, _⟩) (v := .bool false) rfl (by decide +kernel) (by decide +kernel) (by decide +kernel) (fun _ _ _ h => h) (Or.inl ⟨by rfl, fun w' hw' => by go_simp⟩) (by assumption) ?_
  simp only [Act.put, List.setIfInBounds_toArray, List.set_cons_zero, List.set_cons_succ]
  refine wpAnyH_take (i := 9) (oi := ⟨some 31, _, _, _, _, _⟩) (v := .bool false) rfl (by decide +kernel) (by decide +kernel) (by decide +kernel) (fun _ _ _ h => h) (Or.inl ⟨by rfl, fun w' hw' => by go_simp⟩) (by assumption) ?_
  simp only [Act.put, List.setIfInBounds_toArray, List.set_cons_zero, List.set_cons_succ]
  refine wpAnyH_take (i := 10) (oi := ⟨some 32, _, _, _, _, _⟩) (v := .pointer (some ⟨g5, 0, none⟩)) rfl (by decide +kernel) (by decide +kernel) (by decide +kernel) (fun _ _ _ h => h) (Or.inl ⟨by rfl, fun w' hw' => by go_simp⟩) (by assumption) ?_
  simp only [Act.put, List.setIfInBounds_toArray, List.set_cons_zero, List.set_cons_succ]
  refine wpAnyH_take (i := 11) (oi := ⟨some 33, _, _, _, _, _⟩) (v := .int .i64 (h.many : Nat)) rfl (by decide +kernel) (by decide +kernel) (by decide +kernel) (fun _ _ _ h => h) (Or.inl ⟨by rfl, fun w' hw' => by have hcc := hw'.1 0 _ HY0.out; rw [Nat.zero_add] at hcc; go_simp⟩) (by assumption) ?_
  simp only [Act.put, List.setIfInBounds_toArray, List.set_cons_zero, List.set_cons_succ]
  refine wpAnyH_take (i := 13) (oi := ⟨some 35, _, _, _, _, _⟩) (v := pgPtr p) rfl (by decide +kernel) (by decide +kernel) (by decide +kernel) (fun _ _ _ h => h) (Or.inl ⟨by rfl, fun w' hw' => by go_simp⟩) (by assumption) ?_
  simp only [Act.put, List.setIfInBounds_toArray, List.set_cons_zero, List.set_cons_succ]
  refine wpAnyH_take (i := 14) (oi := ⟨some 36, _, _, _, _, _⟩) (v := pgPtr p) rfl (by decide +kernel) (by decide +kernel) (by decide +kernel) (fun _ _ _ h => h) (Or.inl ⟨by rfl, fun w' hw' => by go_simp⟩) (by assumption) ?_
  simp only [Act.put, List.setIfInBounds_toArray, List.set_cons_zero, List.set_cons_succ]
  refine wpAnyH_take (i := 15) (oi := ⟨some 37, _, _, _, _, _⟩) (v := pgPtr p) rfl (by decide +kernel) (by decide +kernel) (by decide +kernel) (fun _ _ _ h => h) (Or.inl ⟨by rfl, fun w' hw' => by go_simp⟩) (by assumption) ?_
  simp only [Act.put, List.setIfInBounds_toArray, List.set_cons_zero, List.set_cons_succ]
  refine wpAnyH_take (i := 16) (oi := ⟨some 38, _, _, _, _, _⟩) (v := .agg #[fsPtr f, .string dbN, .string logN]) rfl (by decide +kernel) (by decide +kernel) (by decide +kernel) (fun _ _ _ h => h) (yieldsIf_load_mid (by rfl) tFiles (.tmp 37) rfl p 0 rfl [fsPtr f, .string dbN, .string logN] _ (fun w hw => hw.2.2) huf (by rfl) size_files) (by assumption) ?_
  simp only [Act.put, List.setIfInBounds_toArray, List.set_cons_zero, List.set_cons_succ]
  refine wpAnyH_take (i := 12) (oi := ⟨some 34, _, _, _, _, _⟩) (v := .int .i64 L) rfl (by decide +kernel) (by decide +kernel) (by decide +kernel) (fun _ _ _ h => h) (Or.inl ⟨by rfl, fun w' hw' => by have hmb := HMB.out; have hl := HL.out; have hwr : IntKind.i64.wrap ((h.many : Int) * 512) = (h.many : Int) * 512 := IntWalk.i64_in _ (by omega); rw [← hl]; clear hl; go_simp⟩) (by assumption) ?_
  simp only [Act.put, List.setIfInBounds_toArray, List.set_cons_zero, List.set_cons_succ]
  refine wpAnyH_ready (rs := [17]) (by decide +kernel) (by simp) (AllReadyH.cons rfl (fun K hK => ?_) AllReadyH.nil)
  have HLOW := Lib.hid (HLO.out w7 (HFAW.out _ HF7.out))
  go_simp
  refine HLOW.out.mono ?_
  rintro e w8 ⟨rfl, hf8⟩
  have HF8 := Lib.hid (HF7.out.trans hf8)
  clear hf8
  refine hK.out _ _ (HS.out _ HF8.out) (fun hHeld9 => ?_)
  clear hK K
  refine wpAnyH_take (i := 18) (oi := ⟨some 40, _, _, _, _, _⟩) (v := .bool false) rfl (by decide +kernel) (by decide +kernel) (by decide +kernel) (fun _ _ _ h => h) (Or.inl ⟨by rfl, fun w' hw' => by go_simp⟩) (by assumption) ?_
  simp only [Act.put, List.setIfInBounds_toArray, List.set_cons_zero, List.set_cons_succ]
  refine wpAnyH_take (i := 19) (oi := ⟨some 41, _, _, _, _, _⟩) (v := .bool false) rfl (by decide +kernel) (by decide +kernel) (by decide +kernel) (fun _ _ _ h => h) (Or.inl ⟨by rfl, fun w' hw' => by go_simp⟩) (by assumption) ?_
  simp only [Act.put, List.setIfInBounds_toArray, List.set_cons_zero, List.set_cons_succ]
  refine wpAnyH_done (by decide +kernel) ?_ _
  go_upto_region 9 with (fail)
  have hM8 := HM2.out.fresh (((((HF3.out.trans HF4.out).trans HF5.out).trans (Fresh.drew _)).trans HF8.out).trans (Fresh.drew _))
  have hT8 : VTurn bl2 bl2 w2 w8.drew := vfs.Turn.fresh (((((HF3.out.trans HF4.out).trans HF5.out).trans (Fresh.drew _)).trans HF8.out).trans (Fresh.drew _))
  obtain ⟨q1, q2, q3⟩ := HMP.out _ _ HM2.out HT2.out
  have hg5n : g5 ∉ bl2 := fun hm => by have h1 := HM2.out.inside _ hm; have h2 := (HF3.out.trans HF4.out).size; omega
  have hb5 : Bk w8.drew g5 tHd Y := by rw [← hg5]; exact HB5.out.fresh (((Fresh.drew _).trans HF8.out).trans (Fresh.drew _))
  have hk8 : w8.drew.rangeAt g5 0 Y := Bk.range hb5
  obtain ⟨mb, kb, A, n, c, ob, hbe, hnd, hbb, hmm, hkk, hoo, hmok⟩ := hM8
  have hnd' := hnd
  rw [hbe] at hnd'
  have hpl1 := pg_len (f := f) (mb := mb) (kb := kb) (ov := .slice A n c) hmok
  have hown1 := fun w9 (q : But p w8.drew w9) (hb9 : Bk w9 p tPgr (pgCells f { mmL h with hd := h } mb kb (.slice A n c))) => MemAt.own (m := mmL h) (m' := { mmL h with hd := h }) hnd' hmm hkk hoo hb9 q rfl rfl ⟨HOK.out, hmok.last, hmok.ch, hmok.sh, hmok.few, hmok.rd⟩
  have HQ1 := Lib.hid q1
  have HQ2 := Lib.hid q2
  have HQ3 := Lib.hid q3
  have HT8 := Lib.hid hT8
  have HG5 := Lib.hid hg5n
  have HB58 := Lib.hid hb5
  have HBB := Lib.hid hbb
  have HOWN1 := Lib.hid hown1
  have HPL1 := Lib.hid hpl1
  have HBE := Lib.hid hbe
  clear q1 q2 q3 hT8 hg5n hb5 hbb hown1 hpl1 hnd hnd' hmm hkk hoo hmok hHeld hHeld6 hHeld7 hHeld8 hHeld9 hbe
  refine wp_region_held_drew (S := fun w' => w'.rangeAt g5 0 Y) (by kernel_rfl) hk8 (fun hHeld => ?_)
  refine wpAnyH_take (i := 0) (oi := ⟨some 42, _, _, _, _, _⟩) (v := pgPtr p) rfl (by decide +kernel) (by decide +kernel) (by decide +kernel) (fun _ _ _ h => h) (Or.inl ⟨by rfl, fun w' hw' => by go_simp⟩) (by assumption) ?_
  simp only [Act.put, List.setIfInBounds_toArray, List.set_cons_zero, List.set_cons_succ]
  refine wpAnyH_take (i := 1) (oi := ⟨some 43, _, _, _, _, _⟩) (v := pgPtr p) rfl (by decide +kernel) (by decide +kernel) (by decide +kernel) (fun _ _ _ h => h) (Or.inl ⟨by rfl, fun w' hw' => by go_simp⟩) (by assumption) ?_
  simp only [Act.put, List.setIfInBounds_toArray, List.set_cons_zero, List.set_cons_succ]
  refine wpAnyH_take (i := 2) (oi := ⟨some 44, _, _, _, _, _⟩) (v := .agg Y.toArray) rfl (by decide +kernel) (by decide +kernel) (by decide +kernel) (fun _ _ _ h => h) (yieldsIf_load_mid (by rfl) tHd (.tmp 5) rfl g5 0 rfl Y _ (fun w hw => hw) huh (by rfl) hsh) (by assumption) ?_
  simp only [Act.put, List.setIfInBounds_toArray, List.set_cons_zero, List.set_cons_succ]
  refine wpAnyH_take (i := 3) (oi := ⟨some 45, _, _, _, _, _⟩) (v := .agg Y.toArray) rfl (by decide +kernel) (by decide +kernel) (by decide +kernel) (fun _ _ _ h => h) (yieldsIf_load_mid (by rfl) tHd (.tmp 5) rfl g5 0 rfl Y _ (fun w hw => hw) huh (by rfl) hsh) (by assumption) ?_
  simp only [Act.put, List.setIfInBounds_toArray, List.set_cons_zero, List.set_cons_succ]
  refine wpAnyH_take (i := 4) (oi := ⟨some 46, _, _, _, _, _⟩) (v := pgPtr p) rfl (by decide +kernel) (by decide +kernel) (by decide +kernel) (fun _ _ _ h => h) (Or.inl ⟨by rfl, fun w' hw' => by go_simp⟩) (by assumption) ?_
  simp only [Act.put, List.setIfInBounds_toArray, List.set_cons_zero, List.set_cons_succ]
  refine wpAnyH_take (i := 5) (oi := ⟨some 47, _, _, _, _, _⟩) (v := .pointer (some ⟨p, 3, none⟩)) rfl (by decide +kernel) (by decide +kernel) (by decide +kernel) (fun _ _ _ h => h) (Or.inl ⟨by rfl, fun w' hw' => by go_simp⟩) (by assumption) ?_
  simp only [Act.put, List.setIfInBounds_toArray, List.set_cons_zero, List.set_cons_succ]
  refine wpAnyH_ready (rs := [6]) (by decide +kernel) (by simp) (AllReadyH.cons rfl (fun K hK => ?_) AllReadyH.nil)
  refine any_store_blk rfl tHd (.tmp 47) (.tmp 44) rfl p 3 tPgr _ Y rfl rfl HBB.out (by rw [HPL1.out, HY.out]; omega) HONE2.out hsh ?_
  intro w9 hb9 hbut9
  rw [HSP1.out] at hb9
  have hq9 := HOWN1.out w9 hbut9 hb9
  rw [← HBE.out] at hq9
  have hb59 := box_stay HB58.out hq9.2 HG5.out
  refine hK.out _ _ (Bk.range hb59) (fun hHeld9 => ?_)
  clear hK K
  refine wpAnyH_take (i := 7) (oi := ⟨some 48, _, _, _, _, _⟩) (v := pgPtr p) rfl (by decide +kernel) (by decide +kernel) (by decide +kernel) (fun _ _ _ h => h) (Or.inl ⟨by rfl, fun w' hw' => by go_simp⟩) (by assumption) ?_
  simp only [Act.put, List.setIfInBounds_toArray, List.set_cons_zero, List.set_cons_succ]
  refine wpAnyH_take (i := 8) (oi := ⟨some 49, _, _, _, _, _⟩) (v := .pointer (some ⟨p, 13, none⟩)) rfl (by decide +kernel) (by decide +kernel) (by decide +kernel) (fun _ _ _ h => h) (Or.inl ⟨by rfl, fun w' hw' => by go_simp⟩) (by assumption) ?_
  simp only [Act.put, List.setIfInBounds_toArray, List.set_cons_zero, List.set_cons_succ]
  obtain ⟨hM9, hT9⟩ := hq9
  obtain ⟨mb2, kb2, A2, n2, c2, ob2, hbe2, hnd2, hbb2, hmm2, hkk2, hoo2, hmok2⟩ := hM9
  have hnd2' := hnd2
  rw [hbe2] at hnd2'
  have hpl2 := pg_len (f := f) (mb := mb2) (kb := kb2) (ov := .slice A2 n2 c2) hmok2
  have hown2 := fun w10 (q : But p w9 w10) (hb10 : Bk w10 p tPgr (pgCells f { mmL h with hd := h, last := h } mb2 kb2 (.slice A2 n2 c2))) => MemAt.own (m := { mmL h with hd := h }) (m' := { mmL h with hd := h, last := h }) hnd2' hmm2 hkk2 hoo2 hb10 q rfl rfl ⟨HOK.out, HOK.out, hmok2.ch, hmok2.sh, hmok2.few, hmok2.rd⟩
  have HBB2 := Lib.hid hbb2
  have HOWN2 := Lib.hid hown2
  have HPL2 := Lib.hid hpl2
  have HBE2 := Lib.hid hbe2
  have HT9 := Lib.hid hT9
  clear hbb2 hown2 hpl2 hnd2 hnd2' hmm2 hkk2 hoo2 hmok2 hbe2 hT9
  refine wpAnyH_ready (rs := [9]) (by decide +kernel) (by simp) (AllReadyH.cons rfl (fun K hK => ?_) AllReadyH.nil)
  refine any_store_blk rfl tHd (.tmp 49) (.tmp 45) rfl p 13 tPgr _ Y rfl rfl HBB2.out (by rw [HPL2.out, HY.out]; omega) HONE2.out hsh ?_
  intro w10 hb10 hbut10
  rw [HSP2.out] at hb10
  have hq10 := HOWN2.out w10 hbut10 hb10
  rw [← HBE2.out] at hq10
  have hb510 := box_stay hb59 hq10.2 HG5.out
  have HQ10 := Lib.hid hq10
  clear hb10 hbut10 hq10 hb9 hbut9
  refine hK.out _ _ (Bk.range hb510) (fun hHeld10 => ?_)
  clear hK K
  refine wpAnyH_done (by decide +kernel) ?_ _
  go_wp2
  go_ret
  obtain ⟨r1, r2, r3⟩ := mem_p HQ1.out HQ2.out HQ10.out.1 ((HT8.out.trans HT9.out).trans HQ10.out.2)
  exact ⟨rfl, b1, bl2, r1, HQ10.out.1, r2, HQ3.out.trans r3⟩
end Go.Proofs.YtcdehklcdipcfaaGreat.pgrp
/-
  pager's begin, of pages that are there. My own text.
-/
namespace Go.Proofs.YtcdehklcdipcfaaGreat.pgrp
open Go.RowKit Go.Maps Go.Proofs.YtcdehklcdipcfaaGreat.base Go.Proofs.YtcdehklcdipcfaaGreat.num Go.Proofs.YtcdehklcdipcfaaGreat.word Go.Proofs.YtcdehklcdipcfaaGreat.pagn Go.Proofs.YtcdehklcdipcfaaGreat.pgr Go.Proofs.YtcdehklcdipcfaaGreat.waln Go.Proofs.YtcdehklcdipcfaaGreat.walp Go.Proofs.YtcdehklcdipcfaaGreat.pagp
open Go.Proofs.YtcdehklcdipcfaaGreat.vfsnum hiding Bs
open Go.Proofs.YtcdehklcdipcfaaGreat.vfs (FsAt fsPtr Did tFS intKey key_int)
set_option linter.unusedVariables false
set_option linter.unusedSimpArgs false

set_option maxRecDepth 100000 in
set_option maxHeartbeats 2000000 in
theorem begin_old (w : World) (p f : Nat) (a : Fs) (C : List Bs) (T : Nat) (h : Hd) (b1 bl : List Nat) (hF : FsAt w f a b1) (hM : MemAt w p f mm0 bl) (hd : ∀ x ∈ bl, x ∉ b1) (hc : Cv a (flat 0 C) [] T) (hall : All508 C) (hC : HasC a C) (h0 : C[0]? = some (hdB h)) (hk : h.Good) (hl : C.length = h.many) :
    Calls Tryz.prog 35 #[pgPtr p] w (PDid w p f b1 bl (.int .i64 0) a { mmL h with hd := h, last := h }) := by
  obtain ⟨x, hx, hD⟩ := hc.db
  have hxl : x.bs.length = 512 * h.many := by rw [hD, flat_len C 0 hall, hl]
  have hmy0 := hk.first
  have hlo := fun W (q : Fresh w W) => long_any W f a b1 x (hF.fresh q) hc.up hx
  have hld := fun W (q : Fresh w W) => load_old W p f a C T h b1 bl (hF.fresh q) (hM.fresh q) hd hc hall hC h0 hk hl
  obtain ⟨cur, hb, hcl, hh⟩ := mem_files hM
  obtain ⟨L, hL⟩ : ∃ L : Nat, x.bs.length = L := ⟨_, rfl⟩
  rw [hL] at hlo
  have hmy1 : ¬ ((L : Int) = 0) := by omega
  have hmy2 : ((L : Int) == 0) = false := by simpa using hmy1
  have HLO := Lib.hid hlo
  have HLD := Lib.hid hld
  have HB := Lib.hid hb
  have HCL := Lib.hid hcl
  have HHH := Lib.hid hh
  clear hlo hld hb hcl hh hF hM hd hc hall hC h0 hk hl hx hD hxl hmy0 hL
  unfold filV at HLO
  go_enter Tryz.func35, Tryz.ntmps35
  go_wp2_with (first
    | ((with_reducible (refine at_slot_ 6 ?_)); refine wpList_load_blk rfl tFiles (.tmp 5) rfl p 0 3 tPgr cur rfl HB.out (by rw [HCL.out]; omega) _ Tryz.underlying63 rfl size_files ?_; rw [HHH.out])
    | (go_at_call 65; refine (HLO.out _ (Fresh.refl _)).mono ?_; rintro e w1 ⟨rfl, hf1⟩; have HF1 := Lib.hid hf1; clear hf1)
    | (go_at_call 66; refine (HLD.out _ HF1.out).mono ?_; intro e w4 hk4; obtain ⟨rfl, b4, bl4, hF4, hM4, hd4, hT4⟩ := hk4))
  go_ret
  exact ⟨rfl, b4, bl4, hF4, hM4, hd4, (vfs.Turn.fresh HF1.out).trans hT4⟩
/-- a file is created, where no fuse burns -/
theorem create_up' {a : Fs} {n : ByteArray} (hd : a.down = false) (hf : a.fuse = -1) (hn : rightB n = true) (hg : getF a.files n = none) : a.create n = (0, { a with files := insF a.files n ⟨[], a.stamp + 1, noOld⟩, stamp := a.stamp + 1 }) := by
  obtain ⟨l, r, s, fu, dn⟩ := a
  simp only at hd hf hg
  subst hd; subst hf
  exact vfs.up_create hn hg
end Go.Proofs.YtcdehklcdipcfaaGreat.pgrp
/-
  pager's Open: a new pager, and one that is there. My own text.
-/
namespace Go.Proofs.YtcdehklcdipcfaaGreat.pgrp
open Go.RowKit Go.Maps Go.Proofs.YtcdehklcdipcfaaGreat.base Go.Proofs.YtcdehklcdipcfaaGreat.num Go.Proofs.YtcdehklcdipcfaaGreat.word Go.Proofs.YtcdehklcdipcfaaGreat.pagn Go.Proofs.YtcdehklcdipcfaaGreat.pgr Go.Proofs.YtcdehklcdipcfaaGreat.waln Go.Proofs.YtcdehklcdipcfaaGreat.walp Go.Proofs.YtcdehklcdipcfaaGreat.pagp
open Go.Proofs.YtcdehklcdipcfaaGreat.vfsnum hiding Bs
open Go.Proofs.YtcdehklcdipcfaaGreat.vfs (FsAt fsPtr Did tFS intKey key_int)
set_option linter.unusedVariables false
set_option linter.unusedSimpArgs false

/-- what is created, where neither file is there -/
theorem made_two {a : Fs} (hok : FsOk a) (hd : a.down = false) (hf : a.fuse = -1) (h1 : getF a.files dbN = none) (h2 : getF a.files logN = none) :
    ∃ a1 a2, StepF a dbN a1 ∧ StepF a1 logN a2 ∧ Cv a2 [] [] a.room ∧ a2.stamp = a.stamp + 2 := by
  have c1 := create_up' hd hf dbN_right h1
  have ok1 := vfs.create_ok (n := dbN) hok
  rw [c1] at ok1
  have fl0 : vfs.flist a.files := vfs.FsOk.flist hok
  have fl1 : vfs.flist (insF a.files dbN ⟨[], a.stamp + 1, noOld⟩) := vfs.FsOk.flist ok1
  have g1 := vfs.getF_ins_self fl1
  have g2 := vfs.getF_ins_other (k := logN) fl0 fl1 names_ne.symm
  rw [h2] at g2
  have c2 := create_up' (a := { a with files := insF a.files dbN ⟨[], a.stamp + 1, noOld⟩, stamp := a.stamp + 1 }) hd hf logN_right g2
  have ok2 := vfs.create_ok (n := logN) ok1
  rw [c2] at ok2
  have fl2 := vfs.FsOk.flist ok2
  have g3 := vfs.getF_ins_self fl2
  have g4 := vfs.getF_ins_other (k := dbN) fl1 fl2 names_ne
  refine ⟨_, _, ⟨hd, .inr ⟨h1, c1⟩⟩, ⟨hd, .inr ⟨g2, c2⟩⟩, ⟨ok2, hd, hf, ⟨_, g4.trans g1, rfl⟩, ⟨_, g3, rfl⟩, ?_⟩, rfl⟩
  show a.room + takes 0 + takes 0 = a.room
  have : takes 0 = 0 := rfl
  omega
abbrev mmN : Mm := { mm0 with hd := hd1, last := hd1 }
theorem opens_new (w : World) (f : Nat) (a : Fs) (b1 : List Nat) (hF : FsAt w f a b1) (hok : FsOk a) (hd : a.down = false) (hf : a.fuse = -1) (h1 : getF a.files dbN = none) (h2 : getF a.files logN = none) (hr : 17 ≤ a.room) (hst : a.stamp < 4611686018426000000) :
    ∃ a' C', PgInv a' C' a.room mmN ∧ C'[0]? = some (hdB hd1) ∧ a'.stamp ≤ a.stamp + 104 ∧
      Calls Tryz.prog 11 #[fsPtr f, .string ⟨#[120]⟩] w (Opened w f b1 a' mmN) := by
  obtain ⟨a1, a2, s1, s2, c2, st2⟩ := made_two hok hd hf h1 h2
  obtain ⟨y, hy, hyl⟩ := c2.log
  have hT1 : takes (512 * mm1.hd.many) + takes (12 + 516 * manyOf mm1 + 4) ≤ a.room := by
    have : takes (512 * mm1.hd.many) + takes (12 + 516 * manyOf mm1 + 4) = 17 := by decide
    omega
  obtain ⟨a', C', hs, hi', hv, hss⟩ := save_inv (inv_first c2) (by decide) hT1
  refine ⟨a', C', hi', hv 0 (by decide), by omega, ?_⟩
  exact open_with w f a a2 a' mmN b1 hF (fun W q => open_any W f a a1 a2 b1 y q hok (by omega) s1 s2 c2.up hy hyl) (fun W p b bl q M dd => begin_new W p f a2 a' a.room b bl q M dd c2 hr (by omega) hs)
theorem PgInv.has {a : Fs} {C : List Bs} {T : Nat} {m : Mm} (h : PgInv a C T m) : HasC a C := ⟨h.cv.ok, h.cv.up, h.cv.db, h.all, by have h1 := h.le; have h2 := h.hd.many; omega⟩
abbrev mmO (h : Hd) : Mm := { mmL h with hd := h, last := h }
theorem inv_opened {a : Fs} {C : List Bs} {T : Nat} {m : Mm} (h : PgInv a C T m) (hC : C ≠ []) : PgInv a C T (mmO m.last) where
  cv := h.cv
  all := h.all
  len := h.len
  last := h.last
  hd := (h.last hC).2
  chl := fun e he => by cases he
  nd := List.Pairwise.nil
  cov := fun j h1 h2 => absurd (show j < m.last.many from h2) (by have := h.len; omega)
  le := by show C.length ≤ m.last.many; rw [h.len]; exact Nat.le_refl _
  zero := fun b hb => by cases hb
  zno := fun _ => rfl
  sh := fun e he => by
    have : e ∈ [(0, hdB m.last)] := he
    rw [List.mem_singleton] at this
    subst this
    exact ⟨(h.last hC).1, rfl⟩
  dead := rfl
theorem opens_old (w : World) (f : Nat) (a : Fs) (C : List Bs) (T : Nat) (m : Mm) (b1 : List Nat) (hF : FsAt w f a b1) (hi : PgInv a C T m) (hC : C ≠ []) (hst : a.stamp < 4611686018426000000) :
    Calls Tryz.prog 11 #[fsPtr f, .string ⟨#[120]⟩] w (Opened w f b1 a (mmO m.last)) := by
  obtain ⟨y, hy, hyl⟩ := hi.cv.log
  obtain ⟨x, hx, hxl⟩ := hi.cv.db
  exact open_with w f a a a (mmO m.last) b1 hF (fun W q => open_any W f a a a b1 y q hi.cv.ok (by omega) ⟨hi.cv.up, .inl ⟨x, hx, rfl⟩⟩ ⟨hi.cv.up, .inl ⟨y, hy, rfl⟩⟩ hi.cv.up hy hyl) (fun W p b bl q M dd => begin_old W p f a C T m.last b bl q M dd hi.cv hi.all hi.has (hi.last hC).1 (hi.last hC).2 hi.len)
end Go.Proofs.YtcdehklcdipcfaaGreat.pgrp
