/-
  The walk of the law PagerKeeps. My own text.
-/
import Derived.Test.YtcdehklcdipcfaaGreatPgrMet
import Derived.Test.YtcdehklcdipcfaaGreatWkPagerReuses
import Derived.Test.YtcdehklcdipcfaaGreatOpen
namespace Go.Proofs.YtcdehklcdipcfaaGreat.pagerKeeps
open Go.RowKit Go.Maps Go.Proofs.YtcdehklcdipcfaaGreat.base Go.Proofs.YtcdehklcdipcfaaGreat.pgrp Go.Proofs.YtcdehklcdipcfaaGreat.pgr
open Go.Proofs.YtcdehklcdipcfaaGreat.vfs (intKey key_int)
open Go.Proofs.YtcdehklcdipcfaaGreat.pagerReuses (tMet kvM bool_zero)
set_option linter.unusedVariables false
set_option linter.unusedSimpArgs false

abbrev PgMet := @Go.Proofs.YtcdehklcdipcfaaGreat.pgrp.Met
theorem row_new {a : vfsnum.Fs} {C : List Bs} {T : Nat} (h : PgInv a C T mmN) : Row1 a C T mmN 0 := ⟨h, rfl, rfl, Nat.le_refl _, fun j h0 hj => absurd h0 (by omega)⟩
theorem new_row (w w1 : World) (f : Nat) (b1 : List Nat) (hF : vfs.FsAt w1 f (vfs.up [] 5000 0) b1) (hf : Fresh w w1) (hb : ∀ b ∈ b1, w.heap.size ≤ b) : ∃ a' C, Row1 a' C 5000 mmN 0 ∧ a'.stamp ≤ 104 ∧ Calls Tryz.prog 11 #[vfs.fsPtr f, .string ⟨#[120]⟩] w1 fun e w' => ∃ p bs, e = .returned (.tuple #[pgPtr p, .int .i64 0]) ∧ BoL w' p f a' mmN bs ∧ vfs.Since w w' bs := by
  obtain ⟨a', C', hi, _, hs, h⟩ := bo_new w w1 f (vfs.up [] 5000 0) b1 hF ⟨hf, hb⟩ (vfs.new_ok 5000 (by omega)) rfl rfl rfl rfl (by show 17 ≤ 5000; omega) (by show 0 < _; omega)
  refine ⟨a', C', row_new hi, by have : (vfs.up [] 5000 0).stamp = 0 := rfl; omega, h.mono fun e w' k => ?_⟩
  obtain ⟨p, he, hB⟩ := k
  obtain ⟨bs, h1, h2⟩ := hB.bl
  exact ⟨p, bs, he, h1, h2⟩
theorem byte_of (no : Nat) (h : no ≤ 12) : ((pgB no).map bv)[0]? = some (.int .u8 (no : Nat)) := by
  have e : (UInt8.ofNat no).toNat = no := by rw [UInt8.toNat_ofNat']; exact Nat.mod_eq_of_lt (by omega)
  have : ((pgB no).map bv)[0]? = some (bv (UInt8.ofNat no)) := rfl
  rw [this, bv, e]
theorem rd_one (w : World) (no : Nat) (h : no ≤ 12) : Rd (w.alloc (.cells #[.int .u8 (no : Nat)] tU8)) (w.alloc (.cells #[.int .u8 (no : Nat)] tU8)).heap.size (some ⟨w.heap.size, 0, none⟩) 1 (([UInt8.ofNat no] : Bs).map bv) := by
  have e : (UInt8.ofNat no).toNat = no := by rw [UInt8.toNat_ofNat']; exact Nat.mod_eq_of_lt (by omega)
  have : ([UInt8.ofNat no] : Bs).map bv = [.int .u8 (no : Nat)] := by show [bv (UInt8.ofNat no)] = _; rw [bv, e]
  rw [this, World.size_alloc]
  exact Rd.lit w #[Value.int .u8 (no : Nat)] tU8
set_option maxRecDepth 100000 in
set_option maxHeartbeats 8000000 in
theorem pagerKeeps_walk (A0 : Option Addr) (n0 c0 : Nat) (x0 : List UInt8) (w : World) (b0 : InBytes w A0 n0 c0 x0) :
    Calls Tryz.prog 7 #[.slice A0 n0 c0] w fun e w' => e = .returned (.bool true) ∧ Below w.heap.size w w' := by
  by_cases h50 : 50 < n0
  · clear b0
    go_enter Tryz.func7, Tryz.ntmps7
    go_wp2_with (go_at_call 9; refine (wakes_any _).mono ?_; rintro e wA ⟨rfl, hfA⟩)
    go_ret
    exact ⟨rfl, hfA⟩
  have hmm := @run_makeMap Tryz.prog
  have hal : ∀ W p f a C T m bs k (h : BoL W p f a m bs) (hk : Row1 a C T m k) (hn : k < 100), Calls Tryz.prog 21 #[pgPtr p] W fun e w' => e = .returned (.tuple #[.int .i64 (k + 1 : Int), .int .i64 0]) ∧ ∃ bs', BoL w' p f a (rowA m) bs' ∧ vfs.Turn bs bs' W w' := fun W p f a C T m bs k h hk hn => by
    have := bl_alloc W p f a m bs h hk.inv.dead hk.first (by rw [hk.many]; omega) _ rfl
    have e1 : ((m.hd.many : Nat) : Int) = (k + 1 : Int) := by rw [hk.many]; omega
    rw [e1] at this
    exact this
  have hwr : ∀ W p f a C T m bs k (h : BoL W p f a (rowA m) bs) (hk : Row1 a C T m k) (hn : k < 12), Calls Tryz.prog 22 #[pgPtr p, .int .i64 (k + 1 : Int), .slice (some ⟨W.heap.size, 0, none⟩) 1 1] (W.alloc (.cells #[.int .u8 (k + 1 : Int)] tU8)) fun e w' => e = .returned (.int .i64 0) ∧ ∃ m' bs', BoL w' p f a m' bs' ∧ vfs.Turn bs bs' W w' ∧ Row1 a C T m' (k + 1) := fun W p f a C T m bs k h hk hn => by
    have e1 : ((k + 1 : Nat) : Int) = (k + 1 : Int) := by omega
    have hr := rd_one W (k + 1) (by omega)
    rw [e1] at hr
    have := bl_write _ p f a (rowA m) bs (h.fresh (Fresh.alloc W (.cells #[.int .u8 (k + 1 : Int)] tU8))) hk.inv.dead (k + 1) (by omega) (by show k + 1 < m.hd.many + 1; rw [hk.many]; omega) _ 1 1 [UInt8.ofNat (k + 1)] hr (by omega)
    rw [e1] at this
    refine this.mono fun e w' q => ?_
    obtain ⟨he, bs', q1, q2⟩ := q
    exact ⟨he, _, bs', q1, (vfs.Turn.fresh (Fresh.alloc _ _)).trans q2, hk.step (by omega)⟩
  have HAL := Lib.hid hal
  have HWR := Lib.hid hwr
  have HB0 := Lib.hid b0
  clear hal hwr b0
  go_enter Tryz.func7, Tryz.ntmps7
  go_wp2_with (first
    | (go_at_call 9; refine (wakes_any _).mono ?_; rintro e wA ⟨rfl, hfA⟩; have HFA := Lib.hid hfA; clear hfA)
    | (go_at_call 10; refine (vfs.new_up _ 5000 5000 rfl (by omega) (by omega)).mono ?_; rintro e wB ⟨f, b1, rfl, hF, hf, hb⟩; obtain ⟨a', C, hR, hst, hO⟩ := new_row _ _ f b1 hF hf hb; have HO := Lib.hid hO; have HR := Lib.hid hR; have HST := Lib.hid hst; clear hO hF hf hb hR hst)
    | (go_at_call 11; refine HO.out.mono ?_; rintro e wD ⟨p, bs, rfl, hB, hS⟩; have HB := Lib.hid hB; have HS := Lib.hid hS; clear hB hS))
  go_loopw [30] (fun v wr => ∃ (k : Nat) (m : Mm) (bk : List Nat), v = .int .i64 (k : Nat) ∧ k ≤ 12 ∧ Hid (BoL wr p f a' m bk) ∧ Hid (vfs.Since wA wr bk) ∧ Hid (Row1 a' C 5000 m k)) (fun v _ => 12 - (intOf v).toNat)
  case atStart => exact ⟨0, mmN, bs, rfl, by omega, HB, HS, HR⟩
  case round =>
    obtain ⟨k1, m, bk, rfl, hk, hB1, hS1, hK1⟩ := hrel
    by_cases hlt : k1 < 12
    · go_wp2_with (first
        | (go_at_call 21; refine (HAL.out _ _ _ _ _ _ _ _ k1 hB1.out hK1.out (by omega)).mono ?_; rintro e w2 ⟨rfl, bs2, hB2, hT2⟩; have HB2 := Lib.hid hB2; have HT2 := Lib.hid hT2; clear hB2 hT2)
        | (go_at_call 22; refine (HWR.out _ _ _ _ _ _ _ _ k1 HB2.out hK1.out hlt).mono ?_; rintro e w3 ⟨rfl, m3, bs3, hB3, hT3, hK3⟩; have HB3 := Lib.hid hB3; have HT3 := Lib.hid (HT2.out.trans hT3); have HK3 := Lib.hid hK3; clear hB3 hT3 hK3))
      exact ⟨⟨k1 + 1, m3, bs3, by go_num, by omega, HB3, Lib.hid (hS1.out.turn HT3.out), HK3⟩, by simp [intOf]; omega⟩
    · have hK12 : Row1 a' C 5000 m 12 := by have := hK1.out; rwa [show k1 = 12 by omega] at this
      obtain ⟨a2, C2, e1, i2, v2, n2, s2, my2, t2⟩ := hK12.commit (by omega) (by omega)
      have hne : m.ch ≠ [] := by
        intro e
        have := hK12.has 1 (by omega) (by omega)
        rw [e] at this
        cases this
      have hmy := hK12.many
      have hsc := HST.out
      have hcm := bl_commit wr p f a' m bk hB1.out a2 C 5000 hK12.inv hne my2 t2 (by omega) e1
      have hop := fun W bs (h : BoL W p f a2 { m with last := m.hd, ch := [] } bs) => bl_open W p f a2 _ bs h C2 5000 i2 n2 (by omega)
      have hrs := fun W p bs m S (h : BoL W p f a2 m bs) (hm : PgMet m S) => bl_reads W p f a2 m bs h hm.dead
      have hr1 : ∀ W p bs, BoL W p f a2 (mmO m.hd) bs → Calls Tryz.prog 30 #[pgPtr p] W fun e w' => e = .returned (.int .i64 1) ∧ W = w' := fun W p bs h => bl_reads W p f a2 (mmO m.hd) bs h rfl
      have hrN : ∀ W p bs m S, BoL W p f a2 m bs → PgMet m S → Calls Tryz.prog 30 #[pgPtr p] W fun e w' => e = .returned (.int .i64 (1 + (S.length : Nat) : Int)) ∧ W = w' := fun W p bs m S h hm => by
        have := bl_reads W p f a2 m bs h hm.dead
        rw [hm.rd] at this
        rwa [show ((1 + S.length : Nat) : Int) = 1 + ((S.length : Nat) : Int) by omega] at this
      have hrd : ∀ W p bs m S no, BoL W p f a2 m bs → PgMet m S → no ≠ 0 → no ≤ 12 → Calls Tryz.prog 25 #[pgPtr p, .int .i64 (no : Nat)] W fun e w' => ∃ g bs' m', e = .returned (.tuple #[.slice (some ⟨g, 0, none⟩) 508 508, .int .i64 0]) ∧ W.heap.size ≤ g ∧ g ∉ bs' ∧ Bk w' g tBlk ((pgB no).map bv) ∧ BoL w' p f a2 m' bs' ∧ vfs.Turn bs bs' W w' ∧ PgMet m' (if no ∈ S then S else no :: S) := fun W p bs m S no h hm h0 h12 => by
        refine (bl_read W p f a2 m bs h C2 hm.dead i2.has no (by rw [hm.many]; omega) (pgB no) _ (hm.look_is h0 (v2 no h0 h12)) (pgB_len no) (by rw [hm.rd]; have := hm.short.1; omega)).mono fun e w' k => ?_
        obtain ⟨g, bs', he, hg, hgn, hb, hB, hT⟩ := k
        refine ⟨g, bs', _, he, hg, hgn, hb, hB, hT, ?_⟩
        by_cases hmem : no ∈ S
        · rw [if_pos hmem, decide_eq_true hmem]
          exact hm.again h0 hmem
        · rw [if_neg hmem, decide_eq_false hmem]
          exact hm.first h0 h12 hmem
      have hm0 := met_new hmy
      have HCM := Lib.hid hcm
      have HOP := Lib.hid hop
      have HR1 := Lib.hid hr1
      have HRN := Lib.hid hrN
      have HRD := Lib.hid hrd
      have HME := Lib.hid hm0
      clear hcm hop hrs hr1 hrN hrd hm0 hK12 e1 i2 v2 n2 s2 my2 t2 hne hmy hsc hK1
      go_wp2_with (first
        | (go_at_call 14; refine HCM.out.mono ?_; intro e w4 hk4; obtain ⟨rfl, bs4, hB4, hT4⟩ := hk4; have HB4 := Lib.hid hB4; have HS4 := Lib.hid (hS1.out.turn hT4); clear hB4 hT4)
        | (go_at_call 11; refine (HOP.out _ _ HB4.out).mono ?_; rintro e w5 ⟨p2, bs5, rfl, hB5, hT5⟩; have HB5 := Lib.hid (show BoL w5 p2 f a2 (mmO m.hd) bs5 from hB5); have HS5 := Lib.hid (HS4.out.turn hT5); clear hB5 hT5)
        | (go_at_call 30; refine (HR1.out _ _ _ (HB5.out.fresh (Fresh.alloc w5 (.map #[] 0)))).mono ?_; rintro e w6 ⟨rfl, rfl⟩))
      clear hlt hk
      obtain ⟨mb, hmb⟩ : ∃ mb, w5.heap.size = mb := ⟨_, rfl⟩
      have hM0 := MapOf.made Tryz.prog tI w5
      rw [hmb] at hM0 ⊢
      have HM0 := Lib.hid hM0
      have HB6 := Lib.hid (HB5.out.fresh (Fresh.alloc w5 (.map #[] 0)))
      have HMN := Lib.hid (show mb ∉ bs5 from fun hm => by have := HB5.out.inside _ hm; omega)
      have HMA := Lib.hid (show wA.heap.size ≤ mb by have := HS5.out.1.size; omega)
      have HS6 := Lib.hid (HS5.out.fresh (Fresh.alloc w5 (.map #[] 0)))
      clear hM0 hmb hmm
      generalize w5.alloc (.map #[] 0) = wM at *
      go_loopw [61] (fun v w2 => ∃ (k : Nat) (S : List Nat) (m2 : Mm) (bk2 : List Nat), v = .int .i64 (k : Nat) ∧ k ≤ n0 ∧ Hid (MapOf Tryz.prog tI w2 mb (kvM S)) ∧ Hid (BoL w2 p2 f a2 m2 bk2) ∧ Hid (vfs.Since wA w2 bk2) ∧ Hid (PgMet m2 S) ∧ Hid (mb ∉ bk2)) (fun v _ => n0 - (intOf v).toNat)
      case atStart => exact ⟨0, [], mmO m.hd, bs5, rfl, by omega, HM0, HB6, HS6, HME, HMN⟩
      case round =>
        obtain ⟨k, S, m2, bk2, rfl, hk, hM, hB, hSi, hK, hmn2⟩ := hrel
        by_cases hlt2 : k < n0
        · obtain ⟨hx0, hcc, hcm⟩ := HB0.out
          have hxl : x0.length = n0 := by have := hx0.1; rwa [List.length_map] at this
          obtain ⟨x, hx⟩ : ∃ x, x0[k]? = some x := ⟨_, List.getElem?_eq_getElem (by omega)⟩
          obtain ⟨b, off, rfl, hb, hcell⟩ := hx0.2 (by omega)
          have hc8 : wr.cell? ⟨b, off + k, none⟩ = some (.int .u8 (x.toNat : Nat)) := (World.cell?_of_block ((HFA.out.trans hSi.out.1).block b hb)).trans (hcell k _ (by rw [List.getElem?_map, hx]; rfl))
          have hx256 := x.toNat_lt
          clear hcell hx0 hxl hx
          go_upto_region 26 with (fail)
          obtain ⟨no, hno⟩ : ∃ no : Nat, 1 + x.toNat % 12 = no := ⟨_, rfl⟩
          have he : (1 : Int) + (x.toNat : Int) % 12 = (no : Int) := by omega
          have hn1 : no ≠ 0 := by omega
          have hn12 : no ≤ 12 := by omega
          rw [he]
          clear he hno hc8 hx256
          have HRDN := Lib.hid (HRD.out wr p2 bk2 m2 S no hB.out hK.out hn1 hn12)
          have hnb : (no : Int) < 256 := by omega
          have hby := byte_of no hn12
          generalize (pgB no).map bv = X at *
          have HBY := Lib.hid hby
          clear hby
          go_upto_region 29 with (go_at_call 25; refine HRDN.out.mono ?_; rintro e w7 ⟨g, bs7, m7, rfl, hg, hgn, hbg, hB7, hT7, hK7⟩; have hc7 := hbg.cell HBY.out; have HG7 := Lib.hid hg; have HGN := Lib.hid hgn; have HBG := Lib.hid hbg; have HB7 := Lib.hid hB7; have HT7 := Lib.hid hT7; have HK7 := Lib.hid hK7; clear hg hgn hbg hB7 hT7 hK7)
          have hmi := hM.out.inside
          have hM7 := hM.out.old (HT7.out.block mb hmi hmn2.out)
          have hmn7 := HT7.out.apart hmi hmn2.out
          have hgm : g ≠ mb := by have := HG7.out; omega
          have hgA : wA.heap.size ≤ g := Nat.le_trans hSi.out.1.size HG7.out
          have hs7 := hSi.out.turn HT7.out
          have HM7 := Lib.hid hM7
          have HMN7 := Lib.hid hmn7
          have HGM := Lib.hid hgm
          have HGA := Lib.hid hgA
          have HS7 := Lib.hid hs7
          clear hM7 hmn7 hgm hgA hs7 hmi hc7
          by_cases hmem : no ∈ S
          · rw [if_pos hmem] at HK7
            obtain ⟨l1, l2, hsp⟩ := List.append_of_mem hmem
            have hperm : (kvM S).Perm ((Value.int .i64 (no : Nat), Value.bool true) :: kvM (l1 ++ l2)) := by
              rw [hsp]
              unfold kvM
              rw [List.map_append, List.map_cons, List.map_append]
              exact List.perm_middle
            have HPR := Lib.hid hperm
            clear hperm hsp hmem
            go_upto_region 30 with (at_mapUpdate; refine wpList_put_old _ rfl _ _ _ tMet rfl tI 4 intKey Tryz.underlying57 mb (kvM S) (kvM (l1 ++ l2)) (.bool true) rfl HM7.out (.int .i64 (no : Nat)) (.bool true) _ rfl rfl (key_int no (by omega)) HPR.out ?_; intro w4 hk4 hb4; have HM4 := Lib.hid (hk4.perm HPR.out.symm); have HB4 := Lib.hid (show But mb w7 w4 from ⟨hb4.os, hb4.tape, hb4.output, hb4.size, hb4.block⟩); clear hk4 hb4)
            have hbg4 := HBG.out.old (HB4.out.block g HBG.out.inside (by intro e; injection e with e; exact HGM.out e))
            have hcg := hbg4.cell HBY.out
            have hfg := hbg4.free 0
            have HBG4 := Lib.hid hbg4
            clear hbg4
            go_wp2
            have hb5 := But.put (g := g) (i := 0) w4 (.int .u8 99)
            have hB4 := (HB7.out.turn (vfs.Turn.but (S := [mb]) HB4.out (by simp)) (fun y hy hm => by rw [List.mem_singleton] at hm; exact HMN7.out (hm ▸ hy))).turn (vfs.Turn.but (S := [g]) hb5 (by simp)) (fun y hy hm => by rw [List.mem_singleton] at hm; exact HGN.out (hm ▸ hy))
            have hM5 := HM4.out.old (hb5.block mb HM4.out.inside (by intro e; injection e with e; exact HGM.out e.symm))
            exact ⟨⟨k + 1, S, m7, bs7, by go_num, by omega, Lib.hid hM5, Lib.hid hB4, Lib.hid ⟨(HS7.out.1.but HMA.out HB4.out).but HGA.out hb5, HS7.out.2⟩, HK7, HMN7⟩, by simp [intOf]; omega⟩
          · rw [if_neg hmem] at HK7
            have HMS := Lib.hid (show ∀ q ∈ kvM S, q.1 ≠ Value.int .i64 (no : Nat) from fun q hq e => by
              obtain ⟨s, hs, rfl⟩ := List.mem_map.1 hq
              simp only at e
              injection e with _ e
              exact hmem ((show s = no by omega) ▸ hs))
            clear hmem
            go_upto_region 30 with (at_mapUpdate; refine wpList_put_new _ rfl _ _ _ tMet rfl tI 4 intKey Tryz.underlying57 mb (kvM S) rfl HM7.out (.int .i64 (no : Nat)) (.bool true) _ rfl rfl (key_int no (by omega)) HMS.out ?_; intro w4 hk4 hb4; have HM4 := Lib.hid (show MapOf Tryz.prog tI w4 mb (kvM (no :: S)) from hk4); have HB4 := Lib.hid (show But mb w7 w4 from ⟨hb4.os, hb4.tape, hb4.output, hb4.size, hb4.block⟩); clear hk4 hb4)
            have hbg4 := HBG.out.old (HB4.out.block g HBG.out.inside (by intro e; injection e with e; exact HGM.out e))
            have hcg := hbg4.cell HBY.out
            have hfg := hbg4.free 0
            have HBG4 := Lib.hid hbg4
            clear hbg4
            go_wp2
            have hb5 := But.put (g := g) (i := 0) w4 (.int .u8 99)
            have hB4 := (HB7.out.turn (vfs.Turn.but (S := [mb]) HB4.out (by simp)) (fun y hy hm => by rw [List.mem_singleton] at hm; exact HMN7.out (hm ▸ hy))).turn (vfs.Turn.but (S := [g]) hb5 (by simp)) (fun y hy hm => by rw [List.mem_singleton] at hm; exact HGN.out (hm ▸ hy))
            have hM5 := HM4.out.old (hb5.block mb HM4.out.inside (by intro e; injection e with e; exact HGM.out e.symm))
            exact ⟨⟨k + 1, no :: S, m7, bs7, by go_num, by omega, Lib.hid hM5, Lib.hid hB4, Lib.hid ⟨(HS7.out.1.but HMA.out HB4.out).but HGA.out hb5, HS7.out.2⟩, HK7, HMN7⟩, by simp [intOf]; omega⟩
        · have hl := hM.out.len Tryz.underlying57 tI
          have hkl : (kvM S).length = S.length := by unfold kvM; rw [List.length_map]
          rw [hkl] at hl
          have hSb := hK.out.short.1
          have HRF := Lib.hid (HRN.out wr p2 bk2 m2 S hB.out hK.out)
          obtain ⟨L, hL⟩ : ∃ L, S.length = L := ⟨_, rfl⟩
          rw [hL] at hl hSb HRF
          clear hkl hL
          go_wp2_with (go_at_call 30; refine HRF.out.mono ?_; rintro e w6 ⟨rfl, rfl⟩)
          go_ret
          refine ⟨?_, HFA.out.trans hSi.out.1⟩
          have hb : ((1 : Int) + (L : Int) - 1 == (L : Int)) = true := by rw [beq_iff_eq]; omega
          show Ending.returned (.bool ((1 : Int) + (L : Int) - 1 == (L : Int))) = _
          rw [hb]
end Go.Proofs.YtcdehklcdipcfaaGreat.pagerKeeps
