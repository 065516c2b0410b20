/-
  The walk of the law PagerReuses. My own text.
-/
import Derived.Test.YtcdehklcdipcfaaGreatPgrBl
import Derived.Test.YtcdehklcdipcfaaGreatWkPagerRefuses
import Derived.Test.YtcdehklcdipcfaaGreatOpen
namespace Go.Proofs.YtcdehklcdipcfaaGreat.pagerReuses
open Go.RowKit Go.Maps Go.Proofs.YtcdehklcdipcfaaGreat.base Go.Proofs.YtcdehklcdipcfaaGreat.pgrp Go.Proofs.YtcdehklcdipcfaaGreat.pgr
open Go.Proofs.YtcdehklcdipcfaaGreat.vfs (intKey key_int)
set_option linter.unusedVariables false
set_option linter.unusedSimpArgs false

abbrev tMet : TypeId := 57
/-- a new pager -/
theorem new_bl (w w1 : World) (f : Nat) (b1 : List Nat) (hF : vfs.FsAt w1 f (vfs.up [] 9000 0) b1) (hf : Fresh w w1) (hb : ∀ b ∈ b1, w.heap.size ≤ b) : ∃ a' C, HasC a' C ∧ Calls Tryz.prog 11 #[vfs.fsPtr f, .string ⟨#[120]⟩] w1 fun e w' => ∃ p bs, e = .returned (.tuple #[pgPtr p, .int .i64 0]) ∧ BoL w' p f a' mmN bs ∧ vfs.Since w w' bs := by
  obtain ⟨a', C', hi, _, _, h⟩ := bo_new w w1 f (vfs.up [] 9000 0) b1 hF ⟨hf, hb⟩ (vfs.new_ok 9000 (by omega)) rfl rfl rfl rfl (by show 17 ≤ 9000; omega) (by show 0 < _; omega)
  refine ⟨a', C', hi.has, h.mono fun e w' k => ?_⟩
  obtain ⟨p, he, hB⟩ := k
  obtain ⟨bs, h1, h2⟩ := hB.bl
  exact ⟨p, bs, he, h1, h2⟩
/-- what the loops keep -/
structure Kp (m : Mm) (n : Nat) (S : List Nat) : Prop where
  many : m.hd.many = n
  dead : m.dead = false
  rd : m.rd = 0
  stk : Stk m S
theorem Kp.alloc {m : Mm} {n : Nat} (h : Kp m n []) : Kp { m with hd := { m.hd with many := m.hd.many + 1 }, ch := putE (putE m.ch 0 (hdB { m.hd with many := m.hd.many + 1 })) m.hd.many zb, sh := dropE (dropE m.sh 0) m.hd.many } (n + 1) [] :=
  ⟨by show m.hd.many + 1 = n + 1; rw [h.many], h.dead, h.rd, ⟨h.stk.top, List.nodup_nil, (fun s hs => by cases hs), (fun i s hi => by simp at hi)⟩⟩
theorem Kp.push {m : Mm} {n : Nat} {S : List Nat} (h : Kp m n S) {no : Nat} (hn0 : no ≠ 0) (hno : no < n) (hS : no ∉ S) : Kp (freeM m no) n (no :: S) := ⟨h.many, h.dead, h.rd, h.stk.push hn0 (by rw [h.many]; exact hno) hS⟩
theorem Kp.pop {m : Mm} {n s : Nat} {S : List Nat} (h : Kp m n (s :: S)) : Kp (takeM m (S.headD 0)) n S := ⟨h.many, h.dead, h.rd, h.stk.pop⟩
theorem kp_new : Kp mmN 1 [] := ⟨rfl, rfl, rfl, ⟨rfl, List.nodup_nil, (fun s hs => by cases hs), (fun i s hi => by simp at hi)⟩⟩
def kvM (S : List Nat) : List (Value × Value) := S.map fun s => (Value.int .i64 (s : Nat), Value.bool true)
theorem bool_zero (w : World) : (zeroValue 4).run Tryz.prog w = .ok (.bool false) w := by kernel_rfl
set_option maxRecDepth 100000 in
set_option maxHeartbeats 8000000 in
theorem pagerReuses_walk (A0 : Option Addr) (n0 c0 : Nat) (x0 : List UInt8) (w : World) (b0 : InBytes w A0 n0 c0 x0) :
    Calls Tryz.prog 8 #[.slice A0 n0 c0] w fun e w' => e = .returned (.bool true) ∧ Below w.heap.size w w' := by
  by_cases h30 : 30 < n0
  · clear b0
    go_enter Tryz.func8, Tryz.ntmps8
    go_wp2_with (go_at_call 9; refine (wakes_any _).mono ?_; rintro e wA ⟨rfl, hfA⟩)
    go_ret
    exact ⟨rfl, hfA⟩
  have hmm := @run_makeMap Tryz.prog
  have hal : ∀ W p f a m bs n (h : BoL W p f a m bs) (hk : Kp m n []) (hn : n < 100), Calls Tryz.prog 21 #[pgPtr p] W fun e w' => e = .returned (.tuple #[.int .i64 (n : Nat), .int .i64 0]) ∧ ∃ m' bs', BoL w' p f a m' bs' ∧ vfs.Turn bs bs' W w' ∧ Kp m' (n + 1) [] := fun W p f a m bs n h hk hn => by
    have := bl_alloc W p f a m bs h hk.dead hk.stk.top (by rw [hk.many]; omega) _ rfl
    rw [hk.many] at this
    refine this.mono fun e w' k => ?_
    obtain ⟨he, bs', q1, q2⟩ := k
    rw [← hk.many] at q1
    exact ⟨he, _, bs', q1, q2, hk.alloc⟩
  have hfr : ∀ W p f a m bs n S no (h : BoL W p f a m bs) (hk : Kp m n S) (hn0 : no ≠ 0) (hno : no < n) (hS : no ∉ S), Calls Tryz.prog 26 #[pgPtr p, .int .i64 (no : Nat)] W fun e w' => e = .returned (.int .i64 0) ∧ ∃ m' bs', BoL w' p f a m' bs' ∧ vfs.Turn bs bs' W w' ∧ Kp m' n (no :: S) := fun W p f a m bs n S no h hk hn0 hno hS => by
    refine (bl_free W p f a m bs h hk.dead no hn0 (by rw [hk.many]; exact hno)).mono fun e w' k => ?_
    obtain ⟨he, bs', q1, q2⟩ := k
    exact ⟨he, _, bs', q1, q2, hk.push hn0 hno hS⟩
  have htk : ∀ W p f a C m bs n s S (h : BoL W p f a m bs) (hC : HasC a C) (hk : Kp m n (s :: S)) (hn : n < 100), Calls Tryz.prog 21 #[pgPtr p] W fun e w' => e = .returned (.tuple #[.int .i64 (s : Nat), .int .i64 0]) ∧ ∃ m' bs', BoL w' p f a m' bs' ∧ vfs.Turn bs bs' W w' ∧ Kp m' n S := fun W p f a C m bs n s S h hC hk hn => by
    refine (bl_take W p f a m bs h hk.dead C hC s S hk.stk (by rw [hk.rd]; omega) (by rw [hk.many]; omega)).mono fun e w' k => ?_
    obtain ⟨he, bs', q1, q2⟩ := k
    exact ⟨he, _, bs', q1, q2, hk.pop⟩
  have HAL := Lib.hid hal
  have HFR := Lib.hid hfr
  have HTK := Lib.hid htk
  have HB0 := Lib.hid b0
  clear hal hfr htk b0
  go_enter Tryz.func8, Tryz.ntmps8
  go_wp2_with (first
    | (go_at_call 9; refine (wakes_any _).mono ?_; rintro e wA ⟨rfl, hfA⟩; have HFA := Lib.hid hfA; clear hfA)
    | (go_at_call 10; refine (vfs.new_up _ 9000 9000 rfl (by omega) (by omega)).mono ?_; rintro e wB ⟨f, b1, rfl, hF, hf, hb⟩; obtain ⟨a', C, hC, hO⟩ := new_bl _ _ f b1 hF hf hb; have HO := Lib.hid hO; have HC := Lib.hid hC; clear hO hF hf hb hC)
    | (go_at_call 11; refine HO.out.mono ?_; rintro e wD ⟨p, bs, rfl, hB, hS⟩; have HB := Lib.hid hB; have HS := Lib.hid hS; clear hB hS))
  go_loopw [26] (fun v wr => ∃ (k : Nat) (m : Mm) (bk : List Nat), v = .int .i64 (k : Nat) ∧ k ≤ 10 ∧ Hid (BoL wr p f a' m bk) ∧ Hid (vfs.Since wA wr bk) ∧ Hid (Kp m (k + 1) [])) (fun v _ => 10 - (intOf v).toNat)
  case atStart => exact ⟨0, mmN, bs, rfl, by omega, HB, HS, Lib.hid kp_new⟩
  case round =>
    obtain ⟨k1, m, bk, rfl, hk, hB1, hS1, hK1⟩ := hrel
    by_cases hlt : k1 < 10
    · go_wp2_with (go_at_call 21; refine (HAL.out _ _ _ _ _ _ _ hB1.out hK1.out (by omega)).mono ?_; rintro e w2 ⟨rfl, m2, bs2, hB2, hT2, hK2⟩; have HB2 := Lib.hid hB2; have HT2 := Lib.hid hT2; have HK2 := Lib.hid hK2; clear hB2 hT2 hK2)
      exact ⟨⟨k1 + 1, m2, bs2, by go_num, by omega, HB2, Lib.hid (hS1.out.turn HT2.out), HK2⟩, by simp [intOf]; omega⟩
    · have hK11 : Hid (Kp m 11 []) := by have := hK1.out; rwa [show k1 + 1 = 11 by omega] at this
      clear hK1
      go_wp2
      clear hlt hk
      obtain ⟨mb, hmb⟩ : ∃ mb, wr.heap.size = mb := ⟨_, rfl⟩
      have hM0 := MapOf.made Tryz.prog tI wr
      rw [hmb] at hM0 ⊢
      have hB2 := hB1.out.fresh (Fresh.alloc wr (.map #[] 0))
      have hmn : mb ∉ bk := fun hm => by have := hB1.out.inside _ hm; omega
      have hmA : wA.heap.size ≤ mb := by have := hS1.out.1.size; omega
      have hS2 := hS1.out.fresh (Fresh.alloc wr (.map #[] 0))
      have HM0 := Lib.hid hM0
      have HB2 := Lib.hid hB2
      have HMN := Lib.hid hmn
      have HMA := Lib.hid hmA
      have HS2 := Lib.hid hS2
      clear hM0 hB2 hmn hmA hS2 hmb hmm
      generalize wr.alloc (.map #[] 0) = wM at *
      go_loopw [5, 34] (fun v u w2 => ∃ (k n c : Nat) (S : List Nat) (A : Option Addr) (ob : List Nat) (m2 : Mm) (bk2 : List Nat), v = .slice A n c ∧ u = .int .i64 (k : Nat) ∧ k ≤ n0 ∧ n ≤ k ∧ Hid (OrdAt w2 A n c S.reverse ob) ∧ Hid (MapOf Tryz.prog tI w2 mb (kvM S)) ∧ Hid (BoL w2 p f a' m2 bk2) ∧ Hid (vfs.Since wA w2 bk2) ∧ Hid (Kp m2 11 S) ∧ Hid (mb ∉ bk2) ∧ Hid (∀ x ∈ ob, x ∉ bk2 ∧ x ≠ mb ∧ wA.heap.size ≤ x)) (fun _ u _ => n0 - (intOf u).toNat)
      case atStart => exact ⟨0, 0, 0, [], none, [], m, bk, rfl, rfl, by omega, by omega, Lib.hid ⟨rfl, Nat.le_refl _, Nat.zero_le _, .inl ⟨rfl, rfl, rfl⟩⟩, HM0, HB2, HS2, hK11, HMN, Lib.hid (fun x hx => by cases hx)⟩
      case round =>
        obtain ⟨k, n, c, S, A, ob, m2, bk2, rfl, rfl, hk, hnk, hO, hM, hB, hSi, hK, hmn2, hap⟩ := hrel
        by_cases hlt2 : k < n0
        · obtain ⟨hx0, hcc, hcm⟩ := HB0.out
          have hxl : x0.length = n0 := by have := hx0.1; rwa [List.length_map] at this
          obtain ⟨x, hx⟩ : ∃ x, x0[k]? = some x := ⟨_, List.getElem?_eq_getElem (by omega)⟩
          obtain ⟨b, off, rfl, hb, hcell⟩ := hx0.2 (by omega)
          have hc8 : wr.cell? ⟨b, off + k, none⟩ = some (.int .u8 (x.toNat : Nat)) := (World.cell?_of_block ((HFA.out.trans hSi.out.1).block b hb)).trans (hcell k _ (by rw [List.getElem?_map, hx]; rfl))
          have hx256 := x.toNat_lt
          clear hcell hx0 hxl hx
          go_upto_region 18 with (fail)
          obtain ⟨no, hno⟩ : ∃ no : Nat, 1 + x.toNat % 10 = no := ⟨_, rfl⟩
          have he : (1 : Int) + (x.toNat : Int) % 10 = (no : Int) := by omega
          have hn1 : no ≠ 0 := by omega
          have hn11 : no < 11 := by omega
          rw [he]
          clear he hno hc8 hx256
          by_cases hmem : no ∈ S
          · have HIT := Lib.hid (show (Value.int .i64 (no : Nat), Value.bool true) ∈ kvM S from List.mem_map.2 ⟨no, hmem, rfl⟩)
            clear hmem
            go_wp2_with ((with_reducible (refine at_slot_ 44 ?_)); refine wpList_look_hit _ rfl _ _ tMet rfl tI 4 intKey Tryz.underlying57 mb (kvM S) rfl hM.out (.int .i64 (no : Nat)) (.bool true) _ rfl (key_int no (by omega)) HIT.out ?_)
            go_roundw
            case rel => exact ⟨k + 1, n, c, S, A, ob, m2, bk2, rfl, by go_num, by omega, by omega, hO, hM, hB, hSi, hK, hmn2, hap⟩
            case measure => simp [intOf]; omega
          · have HMS := Lib.hid (show ∀ q ∈ kvM S, q.1 ≠ Value.int .i64 (no : Nat) from fun q hq e => by
              obtain ⟨s, hs, rfl⟩ := List.mem_map.1 hq
              simp only at e
              injection e with _ e
              exact hmem ((show s = no by omega) ▸ hs))
            have HMEM := Lib.hid hmem
            clear hmem
            go_upto_region 20 with (first
              | ((with_reducible (refine at_slot_ 44 ?_)); refine wpList_look_miss _ rfl _ _ tMet rfl tI 4 intKey Tryz.underlying57 (.bool false) (bool_zero _) mb (kvM S) rfl hM.out (.int .i64 (no : Nat)) _ rfl (key_int no (by omega)) HMS.out ?_)
              | (at_mapUpdate; refine wpList_put_new _ rfl _ _ _ tMet rfl tI 4 intKey Tryz.underlying57 mb (kvM S) rfl hM.out (.int .i64 (no : Nat)) (.bool true) _ rfl rfl (key_int no (by omega)) HMS.out ?_; intro w4 hk4 hb4; have HM4 := Lib.hid (show MapOf Tryz.prog tI w4 mb (kvM (no :: S)) from hk4); have HB4 := Lib.hid hb4; clear hk4 hb4))
            obtain ⟨i0, hi0, hz0, hz1, hz2⟩ := info_parts ints_info
            have ho4 := hO.out.keep (w' := w4) (fun y hy => HB4.out.block y (by obtain ⟨_, _, _, h4⟩ := hO.out; rcases h4 with ⟨_, _, rfl⟩ | ⟨q, rest, _, rfl, hq, _⟩; cases hy; rw [List.mem_singleton] at hy; subst hy; exact hq.inside) (by intro e; injection e with e; exact (hap.out y hy).2.1 e))
            have HO4 := Lib.hid ho4
            have HOW4 := Lib.hid ho4.own.1
            have HOB := Lib.hid ho4.own.2
            have hB4 := hB.out.turn (vfs.Turn.but (S := [mb]) HB4.out (by simp)) (fun y hy hm => by rw [List.mem_singleton] at hm; exact hmn2.out (hm ▸ hy))
            have HBL4 := Lib.hid hB4
            have HSI4 := Lib.hid (show vfs.Since wA w4 bk2 from ⟨hSi.out.1.but HMA.out HB4.out, hSi.out.2⟩)
            clear ho4 hB4
            go_wp2_with (first
              | (at_builtin; refine wpList_append_lies _ rfl (.tmp 47) (.tmp 49) tInts rfl 0 tI i0 (.int .i64 0) 1 8 Tryz.underlying53 hi0 hz0 hz1 hz2 rfl (by omega) (.slice A n c) n _ rfl (HOW4.out.alloc _) ⟨w4.heap.size, 0, none⟩ 1 1 [.int .i64 (no : Nat)] rfl rfl (World.news_of_block (heap_alloc_new w4 _)) (iv_one [(no : Int)]) (by omega) (by unfold maxLen; omega) (by omega) (Nat.zero_le _) (w4.heap.size + 1) (by simp) ?_; intro q2 c2 w6 hown6 hg6 hat6 hlt6; have HG6 := Lib.hid (grown_trans (Fresh.grown (Fresh.alloc w4 (.cells #[.int .i64 (no : Nat)] tI)) _) hg6); have HOW6 := Lib.hid hown6; have HAT6 := Lib.hid hat6; clear hown6 hg6 hat6; have hnb : ∀ y ∈ (Value.slice A n c).ownBlock.toList, y ∉ bk2 ∧ y ≠ mb ∧ wA.heap.size ≤ y := (fun y hy => hap.out y (HOB.out ▸ hy)); have hT6 : vfs.Turn (Value.slice A n c).ownBlock.toList (Value.slice A n c).ownBlock.toList w4 w6 := vfs.Turn.of_grown HG6.out (fun g hg => by rw [hg]; simp); have hB6 := HBL4.out.turn hT6 (fun y hy hm => (hnb y hm).1 hy); have HFRE := Lib.hid (HFR.out _ _ _ _ _ _ _ _ no hB6 hK.out hn1 hn11 HMEM.out); have HT6 := Lib.hid hT6; have HNB := Lib.hid hnb; clear hnb hT6 hB6)
              | (go_at_call 26; refine HFRE.out.mono ?_; rintro e w7 ⟨rfl, m7, bk7, hB7, hT7, hK7⟩; have HB7 := Lib.hid hB7; have HT7 := Lib.hid hT7; have HK7 := Lib.hid hK7; clear hB7 hT7 hK7))
            have hq2 : q2 ∉ bk2 ∧ q2 ≠ mb ∧ wA.heap.size ≤ q2 := by
              rcases HAT6.out with h | h
              · exact HNB.out q2 (by rw [h]; simp)
              · have i1 := HM4.out.inside
                have i2 := HMA.out
                refine ⟨fun hm => ?_, by omega, by omega⟩
                have := HBL4.out.inside _ hm
                omega
            have ho6 : OrdAt w6 (some ⟨q2, 0, none⟩) (n + 1) c2 (no :: S).reverse [q2] := by
              have := OrdAt.of_own (w := w6) (A := some ⟨q2, 0, none⟩) (n := n + 1) (c := c2) (xs := (no :: S).reverse) (by rw [List.reverse_cons, List.map_append]; exact HOW6.out)
              exact this
            have hq2i : q2 < w6.heap.size := by
              obtain ⟨_, _, _, h4⟩ := ho6
              rcases h4 with h | ⟨q, rest, h, hq, hb, _⟩
              · exact absurd h.1 (by simp)
              · have : q2 = q := by simpa using hq
                subst this
                exact hb.inside
            have hm6 := HM4.out.old (HT6.out.block mb HM4.out.inside (fun hm => (HNB.out mb hm).2.1 rfl))
            have hm7 := hm6.old (HT7.out.block mb hm6.inside hmn2.out)
            have ho7 := ho6.keep (w' := w7) (fun y hy => by rw [List.mem_singleton] at hy; subst hy; exact HT7.out.block y hq2i hq2.1)
            have hs6 : vfs.Since wA w6 bk2 := ⟨HT6.out.new HSI4.out.1 (fun y hy => (HNB.out y hy).2.2), HSI4.out.2⟩
            exact ⟨⟨k + 1, n + 1, c2, no :: S, some ⟨q2, 0, none⟩, [q2], m7, bk7, rfl, by go_num, by omega, by omega, Lib.hid ho7, Lib.hid hm7, HB7, Lib.hid (hs6.turn HT7.out), HK7, Lib.hid (HT7.out.apart hm6.inside hmn2.out), Lib.hid (fun y hy => by rw [List.mem_singleton] at hy; subst hy; exact ⟨HT7.out.apart hq2i hq2.1, hq2.2.1, hq2.2.2⟩)⟩, by simp [intOf]; omega⟩
        · have hSl : S.length = n := by have := hO.out.1; rwa [List.length_reverse] at this
          have HSL := Lib.hid hSl
          clear hSl hM hmn2 HM0 HB2 HMN HMA HS2 hK11
          have hnb : (n : Int) < 4611686018427387904 := by omega
          go_wp2
          clear hlt2 hk hnk
          have hmy : ∀ W p f a m bs n (h : BoL W p f a m bs) (hk : Kp m n []), Calls Tryz.prog 23 #[pgPtr p] W fun e w' => e = .returned (.int .i64 (n : Nat)) ∧ W = w' := fun W p f a m bs n h hk => by
            obtain ⟨b, bl, rfl, _, q2, _⟩ := h
            have := many_is W p f m bl q2 hk.dead
            rwa [hk.many] at this
          have HMY := Lib.hid hmy
          clear hmy
          go_loopw [10] (fun v w3 => ∃ (j : Nat) (S3 : List Nat) (m3 : Mm) (bk3 : List Nat), v = .int .i64 ((j : Nat) - 1 : Int) ∧ j ≤ n ∧ Hid (S3.length = j) ∧ Hid (∃ pre, S = pre ++ S3) ∧ Hid (OrdAt w3 A n c S.reverse ob) ∧ Hid (BoL w3 p f a' m3 bk3) ∧ Hid (vfs.Since wA w3 bk3) ∧ Hid (Kp m3 11 S3) ∧ Hid (∀ x ∈ ob, x ∉ bk3)) (fun v _ => (intOf v + 1).toNat)
          case atStart => exact ⟨n, S, m2, bk2, rfl, Nat.le_refl _, HSL, Lib.hid ⟨[], rfl⟩, hO, hB, hSi, hK, Lib.hid (fun y hy => (hap.out y hy).1)⟩
          case round =>
            obtain ⟨j, S3, m3, bk3, rfl, hjn, hS3, hpre, hO3, hB3, hSi3, hK3, hap3⟩ := hrel
            rcases j with _ | i
            · have e0 : (((0 : Nat) : Int) - 1) = -1 := rfl
              rw [e0]
              have hS0 : S3 = [] := List.eq_nil_of_length_eq_zero hS3.out
              have HK0 : Hid (Kp m3 11 []) := hS0 ▸ hK3
              clear e0 hS0 hS3 hK3 hjn
              go_wp2_with (first
                | (go_at_call 21; refine (HAL.out _ _ _ _ _ _ _ hB3.out HK0.out (by omega)).mono ?_; rintro e w8 ⟨rfl, m8, bs8, hB8, hT8, hK8⟩; have HB8 := Lib.hid hB8; have HT8 := Lib.hid (hSi3.out.turn hT8); have HK8 := Lib.hid hK8; clear hB8 hT8 hK8)
                | (go_at_call 23; refine (HMY.out _ _ _ _ _ _ _ HB8.out HK8.out).mono ?_; rintro e w9 ⟨rfl, rfl⟩))
              go_ret
              exact ⟨rfl, HFA.out.trans HT8.out.1⟩
            · have e1 : (((i + 1 : Nat) : Int) - 1) = (i : Int) := by omega
              rw [e1]
              obtain ⟨s, r, rfl⟩ : ∃ s r, S3 = s :: r := by
                cases S3 with
                | nil => have := hS3.out; simp at this
                | cons s r => exact ⟨s, r, rfl⟩
              have hrl : r.length = i := by have := hS3.out; simpa using this
              have hat : S.reverse[i]? = some s := by
                obtain ⟨pre, hp⟩ := hpre.out
                rw [hp, List.reverse_append, List.reverse_cons, List.append_assoc, List.getElem?_append_right (by rw [List.length_reverse, hrl]; exact Nat.le_refl _), List.length_reverse, hrl, Nat.sub_self]
                rfl
              obtain ⟨_, _, _, h4⟩ := hO3.out
              obtain ⟨q, rest, rfl, rfl, hbq, hql⟩ : ∃ q rest, A = some ⟨q, 0, none⟩ ∧ ob = [q] ∧ Bk wr q tI (S.reverse.map (fun (x : Nat) => iv (x : Int)) ++ rest) ∧ n + rest.length = c := by
                rcases h4 with h5 | h4
                · have h6 := hO3.out.2.1
                  have h7 := h5.2.1
                  omega
                · exact h4
              have hq3 := hap3.out q (by simp)
              have hci : (S.reverse.map (fun (x : Nat) => iv (x : Int)) ++ rest)[i]? = some (.int .i64 (s : Nat)) := by
                rw [List.getElem?_append_left (by rw [List.length_map]; obtain ⟨h, _⟩ := List.getElem?_eq_some_iff.1 hat; exact h), List.getElem?_map, hat]
                rfl
              have hin : (i : Int) < (n : Int) := by omega
              have HBQ := Lib.hid hbq
              have HCI := Lib.hid hci
              have HQ3 := Lib.hid hq3
              have HRL := Lib.hid hrl
              clear hbq hci hq3 hrl hat e1 hO hB hSi hK hap
              go_wp2_with (go_at_call 21; refine (HTK.out _ _ _ _ C _ _ _ _ _ hB3.out HC.out hK3.out (by omega)).mono ?_; rintro e w8 ⟨rfl, m8, bs8, hB8, hT8, hK8⟩; have hb8 := box_stay HBQ.out hT8 HQ3.out; have hc8 := hb8.cell HCI.out; have HB8 := Lib.hid hB8; have HT8 := Lib.hid hT8; have HK8 := Lib.hid hK8; clear hB8 hT8 hK8 hb8)
              refine ⟨⟨i, r, m8, bs8, by go_num, by omega, HRL, Lib.hid ?_, Lib.hid ?_, HB8, Lib.hid (hSi3.out.turn HT8.out), HK8, Lib.hid ?_⟩, by simp [intOf]⟩
              · obtain ⟨pre, hp⟩ := hpre.out
                exact ⟨pre ++ [s], by rw [hp, List.append_assoc]; rfl⟩
              · exact hO3.out.keep fun y hy => by rw [List.mem_singleton] at hy; subst hy; exact HT8.out.block y HBQ.out.inside HQ3.out
              · intro y hy
                rw [List.mem_singleton] at hy
                subst hy
                exact HT8.out.apart HBQ.out.inside HQ3.out
end Go.Proofs.YtcdehklcdipcfaaGreat.pagerReuses
