/-
  The contract of the reference's Write. My own text.
-/
import Derived.Test.YtelghdfikcodmaaRefCut
/-
  Bytes that are written, in the reference's rows: plain mathematics. My own text.
-/
namespace Go.Proofs.Ytelghdfikcodmaa.vref
open Go.Proofs.Ytelghdfikcodmaa.base Go.Proofs.Ytelghdfikcodmaa.vfsnum
set_option linter.unusedVariables false

def wEnd (x : Fl) (a : Nat) (b : Bs) : Nat := max x.bs.length (a + b.length)
/-- when j of the bytes were written -/
def wrR (x : Fl) (a : Nat) (b : Bs) (j : Nat) : RRaw :=
  ⟨(List.range (wEnd x a b)).map fun p => if a ≤ p ∧ p < a + j then b.getD (p - a) 0 else x.bs.getD p 0, secs (takes (wEnd x a b)) fun i => if i < tk x then oldSec x i else List.replicate 64 0,
    (List.range (takes (wEnd x a b))).map fun i => (x.old i).isSome || decide (0 < j ∧ a / 64 ≤ i ∧ 64 * i < a + j), x.stamp⟩
theorem none_beyond {x : Fl} (hx : FlOk x) {i : Nat} (hi : tk x ≤ i) : x.old i = none := by
  cases ho : x.old i with
  | none => rfl
  | some o => have := (hx.2 i o ho).1; unfold tk at hi; omega
theorem wrR_zero {x : Fl} (hx : FlOk x) (a : Nat) (b : Bs) : sizeR (rawR x) (wEnd x a b) = wrR x a b 0 := by
  have hE : x.bs.length ≤ wEnd x a b := by unfold wEnd; omega
  have hT : tk x ≤ takes (wEnd x a b) := by unfold tk takes; omega
  refine RRaw.same ?_ ?_ ?_ rfl
  · show (x.bs ++ List.replicate (wEnd x a b - x.bs.length) 0).take (wEnd x a b) = (List.range (wEnd x a b)).map fun p => if a ≤ p ∧ p < a + 0 then b.getD (p - a) 0 else x.bs.getD p 0
    refine ext_gd (by simp; omega) fun p hp => ?_
    have hp2 : p < wEnd x a b := by simp at hp; omega
    rw [gd_take, if_pos hp2, gd_range, if_pos hp2, if_neg (by omega), gd_append, gd_zeros]
    by_cases h : p < x.bs.length
    · rw [if_pos h]
    · rw [if_neg h, gd_ge _ _ (by omega)]
  · have hl := rawR_old_len hx
    show ((rawR x).old ++ List.replicate (64 * (takes (wEnd x a b) - (rawR x).wt.length)) 0).take (64 * takes (wEnd x a b)) = secs (takes (wEnd x a b)) fun i => if i < tk x then oldSec x i else List.replicate 64 0
    rw [rawR_wt_len]
    refine ext_gd (by rw [secs_len, List.length_take, List.length_append, hl, List.length_replicate]; omega) fun p hp => ?_
    rw [List.length_take, List.length_append, hl, List.length_replicate] at hp
    rw [gd_take, if_pos (by omega), gd_append, gd_zeros, gd_secs _ _ _ (by omega), hl]
    by_cases h : p < 64 * tk x
    · rw [if_pos h, if_pos (by omega), rawR_old hx, gd_secs _ _ _ h]
    · rw [if_neg h, if_neg (by omega), gd_zeros]
  · show ((rawR x).wt ++ List.replicate (takes (wEnd x a b) - (rawR x).wt.length) false).take (takes (wEnd x a b)) = (List.range (takes (wEnd x a b))).map fun i => (x.old i).isSome || decide (0 < 0 ∧ a / 64 ≤ i ∧ 64 * i < a + 0)
    rw [rawR_wt_len]
    refine List.ext_getElem? fun i => ?_
    by_cases hi : i < takes (wEnd x a b)
    · rw [List.getElem?_take, if_pos hi, isSome_range _ _ _ hi]
      by_cases h : i < tk x
      · rw [List.getElem?_append_left (by rw [rawR_wt_len]; exact h)]
        show ((List.range (tk x)).map fun k => (x.old k).isSome)[i]? = _
        rw [isSome_range _ _ _ h]
        simp
      · rw [List.getElem?_append_right (by rw [rawR_wt_len]; omega), rawR_wt_len, List.getElem?_replicate, if_pos (by omega), none_beyond hx (by omega)]
        simp
    · rw [List.getElem?_eq_none (by rw [List.length_take]; omega), List.getElem?_eq_none (by simp; omega)]
theorem gd_set' (l : Bs) (i p : Nat) (u : UInt8) (hi : i < l.length) : (l.set i u).getD p 0 = if p = i then u else l.getD p 0 := gd_set l i p u hi
theorem wrR_step (x : Fl) (a : Nat) (b : Bs) (j : Nat) (hj : j < b.length) :
    { wrR x a b j with b := (wrR x a b j).b.set (a + j) (b.getD j 0), wt := (wrR x a b j).wt.set ((a + j) / 64) true } = wrR x a b (j + 1) := by
  have hlen : (wrR x a b j).b.length = wEnd x a b := by simp [wrR]
  have hE : a + j < wEnd x a b := by unfold wEnd; omega
  refine RRaw.same ?_ rfl ?_ rfl
  · show (wrR x a b j).b.set (a + j) (b.getD j 0) = (List.range (wEnd x a b)).map fun p => if a ≤ p ∧ p < a + (j + 1) then b.getD (p - a) 0 else x.bs.getD p 0
    refine ext_gd (by rw [List.length_set, hlen]; simp) fun p hp => ?_
    rw [List.length_set, hlen] at hp
    rw [gd_set _ _ _ _ (by rw [hlen]; exact hE), gd_range, if_pos hp]
    show (if p = a + j then b.getD j 0 else ((List.range (wEnd x a b)).map fun p => if a ≤ p ∧ p < a + j then b.getD (p - a) 0 else x.bs.getD p 0).getD p 0) = _
    rw [gd_range, if_pos hp]
    by_cases h1 : p = a + j
    · rw [if_pos h1, if_pos (by omega), h1, Nat.add_sub_cancel_left]
    · rw [if_neg h1]
      by_cases h2 : a ≤ p ∧ p < a + j
      · rw [if_pos h2, if_pos (by omega)]
      · rw [if_neg h2, if_neg (by omega)]
  · show ((List.range (takes (wEnd x a b))).map fun i => (x.old i).isSome || decide (0 < j ∧ a / 64 ≤ i ∧ 64 * i < a + j)).set ((a + j) / 64) true = (List.range (takes (wEnd x a b))).map fun i => (x.old i).isSome || decide (0 < j + 1 ∧ a / 64 ≤ i ∧ 64 * i < a + (j + 1))
    rw [set_range]
    refine map_ext fun i hi => ?_
    by_cases h1 : i = (a + j) / 64
    · rw [if_pos h1, decide_eq_true (by omega), Bool.or_true]
    · rw [if_neg h1]
      congr 1
      rw [decide_eq_decide]
      omega
theorem wrR_all {x : Fl} (hx : FlOk x) (a : Nat) (b : Bs) (ha : a ≤ x.bs.length) (hb : b ≠ []) : wrR x a b b.length = rawR (wrt x a b) := by
  have hb0 : 0 < b.length := List.length_pos_iff.2 hb
  have hL := wrt_len x a b ha
  have htk : tk (wrt x a b) = takes (wEnd x a b) := by unfold tk; rw [hL]; rfl
  refine RRaw.same ?_ ?_ ?_ rfl
  · show ((List.range (wEnd x a b)).map fun p => if a ≤ p ∧ p < a + b.length then b.getD (p - a) 0 else x.bs.getD p 0) = (wrt x a b).bs
    refine ext_gd (by rw [hL]; simp [wEnd]) fun p hp => ?_
    have hp2 : p < wEnd x a b := by simpa using hp
    rw [gd_range, if_pos hp2, wrt_gd _ _ _ ha]
  · show secs (takes (wEnd x a b)) (fun i => if i < tk x then oldSec x i else List.replicate 64 0) = (List.range (tk (wrt x a b))).flatMap (oldSec (wrt x a b))
    have hlen : ∀ j, j < takes (wEnd x a b) → (oldSec (wrt x a b) j).length = 64 := by
      intro j hj
      show ((if b ≠ [] ∧ a / 64 ≤ j ∧ 64 * j < a + b.length ∧ (x.old j).isSome = false then some (secAt x.bs j) else x.old j).getD (secAt (wrt x a b).bs j)).length = 64
      split
      · exact secAt_len _ _
      · cases ho : x.old j with
        | none => exact secAt_len _ _
        | some o => exact (hx.2 j o ho).2
    rw [htk, flat_secs _ _ hlen]
    refine secs_ext fun j i hj hi => ?_
    show (if j < tk x then oldSec x j else List.replicate 64 0).getD i 0 = ((if b ≠ [] ∧ a / 64 ≤ j ∧ 64 * j < a + b.length ∧ (x.old j).isSome = false then some (secAt x.bs j) else x.old j).getD (secAt (wrt x a b).bs j)).getD i 0
    have hleft : (if j < tk x then oldSec x j else List.replicate 64 0).getD i 0 = ((x.old j).getD (secAt x.bs j)).getD i 0 := by
      by_cases h : j < tk x
      · rw [if_pos h]; rfl
      · rw [if_neg h, gd_zeros, none_beyond hx (by omega)]
        show (0 : UInt8) = (secAt x.bs j).getD i 0
        rw [gd_sec _ _ _ hi, gd_ge _ _ (by unfold tk takes at h; omega)]
    rw [hleft]
    cases ho : x.old j with
    | some o => rw [if_neg (by simp)]; rfl
    | none =>
      by_cases h1 : a / 64 ≤ j ∧ 64 * j < a + b.length
      · rw [if_pos ⟨hb, h1.1, h1.2, rfl⟩]; rfl
      · rw [if_neg fun h => h1 ⟨h.2.1, h.2.2.1⟩]
        show (secAt x.bs j).getD i 0 = (secAt (wrt x a b).bs j).getD i 0
        rw [gd_sec _ _ _ hi, gd_sec _ _ _ hi, wrt_gd _ _ _ ha, if_neg (by omega)]
  · show ((List.range (takes (wEnd x a b))).map fun i => (x.old i).isSome || decide (0 < b.length ∧ a / 64 ≤ i ∧ 64 * i < a + b.length)) = (List.range (tk (wrt x a b))).map fun k => ((wrt x a b).old k).isSome
    rw [htk]
    refine map_ext fun i hi => ?_
    show _ = (if b ≠ [] ∧ a / 64 ≤ i ∧ 64 * i < a + b.length ∧ (x.old i).isSome = false then some (secAt x.bs i) else x.old i).isSome
    cases ho : x.old i with
    | some o => rw [if_neg (by simp)]; rfl
    | none =>
      by_cases h1 : a / 64 ≤ i ∧ 64 * i < a + b.length
      · rw [if_pos ⟨hb, h1.1, h1.2, rfl⟩, decide_eq_true ⟨hb0, h1.1, h1.2⟩]; rfl
      · rw [if_neg fun h => h1 ⟨h.2.1, h.2.2.1⟩, decide_eq_false fun h => h1 ⟨h.2.1, h.2.2⟩]; rfl
theorem wrR_blen (x : Fl) (a : Nat) (b : Bs) (j : Nat) : (wrR x a b j).b.length = wEnd x a b := by simp [wrR]
theorem wrR_wlen (x : Fl) (a : Nat) (b : Bs) (j : Nat) : (wrR x a b j).wt.length = takes (wEnd x a b) := by simp [wrR]
end Go.Proofs.Ytelghdfikcodmaa.vref
namespace Go.Proofs.Ytelghdfikcodmaa.vref
open Go.RowKit Go.Maps Go.Proofs.Ytelghdfikcodmaa.base Go.Proofs.Ytelghdfikcodmaa.vfsnum Go.Proofs.Ytelghdfikcodmaa.vfs
set_option linter.unusedVariables false

theorem RFile.lens {w : World} {g : Nat} {n : ByteArray} {r : RRaw} {bl : List Nat} (h : RFile w g n r bl) : (∃ A1 c1, w.cell? ⟨g, 1, none⟩ = some (.slice A1 r.b.length c1)) ∧ ∃ A3 c3, w.cell? ⟨g, 3, none⟩ = some (.slice A3 r.wt.length c3) := by
  obtain ⟨A1, c1, A2, c2, A3, c3, rfl, hnd, hb, h1, h2, h3⟩ := h
  exact ⟨⟨A1, c1, hb.cell rfl⟩, A3, c3, hb.cell rfl⟩
theorem room_is (w : World) (f : Nat) (a : Fs) (A : Option Addr) (c : Nat) (gs : List Gh) (R : Nat) (h : RefG w f (most a) a A c gs) (hok : FsOk a) (hlen : gs.length ≤ 1048576) (hR : a.room = R) :
    Calls Try.prog 62 #[.pointer (some ⟨f, 0, none⟩)] w fun e w' => e = .returned (.int .i64 R) ∧ w = w' := by
  have hs : (gs.map fun x => tk x.fl).sum = (a.files.map fun p => tk p.2).sum := by rw [h.2.1, List.map_map]; rfl
  have hsum := hok.sum
  have hm : most a = a.room + (gs.map fun x => tk x.fl).sum := by unfold most; rw [hs]
  have hmb : most a ≤ 1048576 := by rw [hm, hs]; omega
  have hle : (gs.map fun x => tk x.fl).sum ≤ most a := by rw [hm]; omega
  have := room_r w f (most a) a A c gs h hlen hmb hle
  have e : most a - (gs.map fun x => tk x.fl).sum = R := by rw [hm, ← hR]; omega
  rwa [e] at this
theorem RdA.at_ {S : List Nat} {w : World} {A : Option Addr} {n : Nat} {xs : Bs} (h : RdA w S A n (xs.map bv)) {k : Nat} (hk : k < n) : ∃ b off, A = some ⟨b, off, none⟩ ∧ w.cell? ⟨b, off + k, none⟩ = some (bv (xs.getD k 0)) := by
  obtain ⟨b, off, e, _, _, hc⟩ := h.2 (by omega)
  have hl : k < xs.length := by have := h.1; rw [List.length_map] at this; omega
  refine ⟨b, off, e, hc k _ ?_⟩
  rw [List.getElem?_map, List.getElem?_eq_getElem hl, List.getD_eq_getElem?_getD, List.getElem?_eq_getElem hl]
  rfl
theorem size_is (w : World) (g : Nat) (nm : ByteArray) (r r' : RRaw) (bl : List Nat) (n : Nat) (z : Int) (h : RFile w g nm r bl) (hb : r.b.length ≤ 16777216) (hw : r.wt.length ≤ 262144) (hol : r.old.length = 64 * r.wt.length) (hn : n ≤ 16777216) (hz : z = (n : Int)) (hr : sizeR r n = r') :
    Calls Try.prog 88 #[.pointer (some ⟨g, 0, none⟩), .int .i64 z] w fun e w' => e = .returned (.tuple #[]) ∧ ∃ bl', RFile w' g nm r' bl' ∧ Turn bl bl' w w' := by
  subst hz; subst hr
  exact size_r w g nm r bl n h hb hw hol hn

set_option maxRecDepth 100000 in
set_option maxHeartbeats 8000000 in
theorem write_r (w : World) (f : Nat) (a : Fs) (bl : List Nat) (n : ByteArray) (z : Int) (B : Option Addr) (m cB : Nat) (b : Bs) (h : RefAt w f a bl) (hok : FsOk a) (hlen : a.files.length ≤ 1048576) (hst : a.stamp < 4611686018427387904) (hz1 : -9223372036854775808 ≤ z) (hz2 : z ≤ 9223372036854775807)
    (hr : RdA w bl B m (b.map bv)) (hm : m ≤ 1048576) :
    Calls Try.prog 49 #[.pointer (some ⟨f, 0, none⟩), .string n, .int .i64 z, .slice B m cB] w (RDid w f bl (a.write n z b)) := by
  obtain ⟨A, c, gs, rfl, hg⟩ := h
  have h4 : w.cell? ⟨f, 4, none⟩ = some (.bool a.down) := hg.2.2.1.cell rfl
  have hbm : b.length = m := by have := hr.1; rwa [List.length_map] at this
  cases hd : a.down with
  | true =>
    have e : a.write n z b = (9, a) := by unfold Fs.write; rw [if_pos hd]
    rw [e]; rw [hd] at h4
    clear e hd
    go_enter Try.func49, Try.ntmps49
    go_wp2
    go_ret
    exact RDid.same hg 9
  | false =>
    have hd' : ¬ a.down = true := by rw [hd]; simp
    rw [hd] at h4
    cases hgt : getF a.files n with
    | none =>
      have e : a.write n z b = (6, a) := by unfold Fs.write; rw [if_neg hd', hgt]
      have hfi := find_no w f _ a A c gs n hg (hg.get_none hgt) (by rw [hg.len]; exact hlen)
      rw [e]
      clear e hd hd' hgt
      go_enter Try.func49, Try.ntmps49
      go_wp2_with (go_at_call 84; refine hfi.mono ?_; rintro e w' ⟨rfl, rfl⟩)
      go_ret
      exact RDid.same hg 6
    | some x =>
      have hxm := getF_some hgt
      have hxo : FlOk x := hok.fls _ hxm
      have hxb : x.bs.length ≤ 4194304 := hxo.1
      obtain ⟨g1, g, xbl, g2, rfl, hn1, hn2⟩ := hg.get_some hok hgt
      have hln0 : (g1 ++ (⟨n, x, g, xbl⟩ : Gh) :: g2).length ≤ 1048576 := by rw [hg.len]; exact hlen
      have hfi := find_at w f _ a A c g1 g2 ⟨n, x, g, xbl⟩ hg hn1 hln0
      obtain ⟨hc0, bA, offA, hA, hce⟩ := hg.hold (x := ⟨n, x, g, xbl⟩) (Turn.refl _ w)
      obtain ⟨⟨A1, c1, hcb⟩, A3, c3, hcw⟩ := (hg.2.2.2.2 ⟨n, x, g, xbl⟩ (by simp)).lens
      replace hcb : w.cell? ⟨g, 1, none⟩ = some (.slice A1 x.bs.length c1) := hcb
      replace hcw : w.cell? ⟨g, 3, none⟩ = some (.slice A3 (rawR x).wt.length c3) := hcw
      rw [rawR_wt_len] at hcw
      obtain ⟨T, hT⟩ : ∃ T, tk x = T := ⟨_, rfl⟩
      obtain ⟨L, hL⟩ : ∃ L, x.bs.length = L := ⟨_, rfl⟩
      obtain ⟨K, hK⟩ : ∃ K, g1.length = K := ⟨_, rfl⟩
      obtain ⟨N, hN⟩ : ∃ N, (g1 ++ (⟨n, x, g, xbl⟩ : Gh) :: g2).length = N := ⟨_, rfl⟩
      have hTL : T = (L + 63) / 64 := by rw [← hT, ← hL]; rfl
      have hKN : K < N := by rw [← hN, ← hK]; simp
      have hln := hln0
      rw [hN] at hln hc0
      rw [hK] at hfi hce
      rw [hL] at hcb hxb
      rw [hT] at hcw
      have HL := Lib.hid hL
      have HK := Lib.hid hK
      have HN := Lib.hid hN
      have HT := Lib.hid hT
      have HTL := Lib.hid hTL
      subst hA
      by_cases hbad : z < 0 ∨ (L : Int) < z
      · have e : a.write n z b = (1, a) := by unfold Fs.write; rw [if_neg hd', hgt]; simp only; rw [if_pos (by rw [hL]; exact hbad)]
        rw [e]
        clear e hd hd' hgt hL hK hN hxm hT hTL
        by_cases hneg : z < 0
        all_goals
          go_enter Try.func49, Try.ntmps49
          go_wp2_with (go_at_call 84; refine hfi.mono ?_; rintro e w' ⟨rfl, rfl⟩)
          go_ret
          exact RDid.same hg 1
      obtain ⟨t, rfl⟩ := Int.eq_ofNat_of_zero_le (show 0 ≤ z by omega)
      have htL : t ≤ L := by omega
      have hb1 : ¬ ((t : Int) < 0 ∨ (x.bs.length : Int) < (t : Int)) := by rw [hL]; exact hbad
      obtain ⟨E, hE⟩ : ∃ E, wEnd x t b = E := ⟨_, rfl⟩
      have hEm : E = max L (t + m) := by rw [← hE, wEnd, hL, hbm]
      obtain ⟨R, hR⟩ : ∃ R, a.room = R := ⟨_, rfl⟩
      have hTE : T ≤ 65536 := by omega
      have hRb : R ≤ 65536 := by have := hok.sum; omega
      have hrm : ∀ wq, RefG wq f (most a) a (some ⟨bA, offA, none⟩) c (g1 ++ ⟨n, x, g, xbl⟩ :: g2) → Calls Try.prog 62 #[.pointer (some ⟨f, 0, none⟩)] wq fun e w' => e = .returned (.int .i64 R) ∧ wq = w' := fun wq hq => room_is wq f a _ c _ R hq hok hln0 hR
      have HRM := Lib.hid hrm
      have HG := Lib.hid hg
      have HE := Lib.hid hE
      clear hrm
      by_cases hful : a.room < takes (t + b.length) - tk x
      · have e : a.write n t b = (8, a) := by unfold Fs.write; rw [if_neg hd', hgt]; simp only; rw [if_neg hb1, Int.toNat_natCast, if_pos hful]
        rw [e]
        have hf1 : (R : Int) < ((t : Int) + (m : Int) + 63) / 64 - (T : Int) := by rw [hbm, hR, hT] at hful; unfold takes at hful; omega
        have hnl : ¬ t + m < L := by rw [hbm, hR, hT] at hful; unfold takes at hful; omega
        clear e hd hd' hgt hL hK hN hxm hT hTL hb1 hful hbad hE hR hg
        go_enter Try.func49, Try.ntmps49
        go_wp2_with (go_at_call 84; refine hfi.mono ?_; rintro e w' ⟨rfl, rfl⟩)
        go_quiet ((go_at_call 62; exact Calls.quiet_of_same ((HRM.out _ (HG.out.fresh (Fresh.drewN _ _))).mono fun _ _ ⟨h1, h2⟩ => ⟨h1, h2.symm⟩)))
        go_wp2
        go_ret
        exact ⟨rfl, _, ⟨_, c, _, rfl, HG.out.fresh (Fresh.drewN _ _)⟩, Turn.fresh (Fresh.drewN _ _)⟩
      have hroom : ¬ (R : Int) < ((t : Int) + (m : Int) + 63) / 64 - (T : Int) := by rw [hbm, hR, hT] at hful; unfold takes at hful; omega
      have hroom2 : ¬ (R : Int) < ((L : Int) + 63) / 64 - (T : Int) := by omega
      have hwr : a.write n t b = if b.length = 0 then (0, a) else if a.fuse = 0 then (9, a.fall) else (0, { a.burn with files := updF a.files n { wrt x t b with stamp := a.stamp + 1 }, room := a.room - (takes (t + b.length) - tk x), stamp := a.stamp + 1 }) := by
        unfold Fs.write; rw [if_neg hd', hgt]; simp only; rw [if_neg hb1, Int.toNat_natCast, if_neg hful]
      have HEM := Lib.hid hEm
      have HFUL := Lib.hid hful
      clear hEm
      by_cases hb0 : b.length = 0
      · have e : a.write n t b = (0, a) := by rw [hwr, if_pos hb0]
        rw [e]
        obtain rfl : m = 0 := by omega
        clear hwr e hd hd' hgt hL hK hN hxm hT hTL hb1 hbad hE hR hg hful
        by_cases hEs : t + 0 < L
        all_goals
          go_enter Try.func49, Try.ntmps49
          go_wp2_with (go_at_call 84; refine hfi.mono ?_; rintro e w' ⟨rfl, rfl⟩)
          go_quiet ((go_at_call 62; exact Calls.quiet_of_same ((HRM.out _ (HG.out.fresh (Fresh.drewN _ _))).mono fun _ _ ⟨h1, h2⟩ => ⟨h1, h2.symm⟩)))
          go_wp2
          go_ret
          exact ⟨rfl, _, ⟨_, c, _, rfl, HG.out.fresh (Fresh.drewN _ _)⟩, Turn.fresh (Fresh.drewN _ _)⟩
      have hm0 : ¬ m = 0 := by omega
      have hbne : b ≠ [] := fun h => hb0 (by rw [h]; rfl)
      by_cases hfz : a.fuse = 0
      · have e : a.write n t b = (9, a.fall) := by rw [hwr, if_neg hb0, if_pos hfz]
        rw [e]
        have hbu : ∀ wq, RefG wq f (most a) a (some ⟨bA, offA, none⟩) c (g1 ++ ⟨n, x, g, xbl⟩ :: g2) → Calls Try.prog 85 #[.pointer (some ⟨f, 0, none⟩)] wq fun e w' => e = .returned (.bool false) ∧ RefG w' f (most a) a.fall (some ⟨bA, offA, none⟩) c (g1 ++ ⟨n, x, g, xbl⟩ :: g2) ∧ Turn (rsBlocks f (some ⟨bA, offA, none⟩) (g1 ++ ⟨n, x, g, xbl⟩ :: g2)) (rsBlocks f (some ⟨bA, offA, none⟩) (g1 ++ ⟨n, x, g, xbl⟩ :: g2)) wq w' := fun wq hq => burn_out wq f _ a _ c _ hq hfz
        have HBU := Lib.hid hbu
        clear hwr hbu hfz e hd hd' hgt hL hK hN hxm hT hTL hb1 hbad hE hR hg hful
        by_cases hEs : t + m < L
        all_goals
          go_enter Try.func49, Try.ntmps49
          go_wp2_with (go_at_call 84; refine hfi.mono ?_; rintro e w' ⟨rfl, rfl⟩)
          go_quiet ((go_at_call 62; exact Calls.quiet_of_same ((HRM.out _ (HG.out.fresh (Fresh.drewN _ _))).mono fun _ _ ⟨h1, h2⟩ => ⟨h1, h2.symm⟩)))
          have hgq := HG.out.fresh (Fresh.drewN w nq)
          go_wp2_with (go_at_call 85; refine (HBU.out _ hgq).mono ?_; rintro e w1 ⟨rfl, hg1, hT1⟩)
          go_ret
          exact RDid.mk_ hg1 9 ((Turn.fresh (Fresh.drewN w nq)).trans hT1) rfl
      · have e : a.write n t b = (0, { a.burn with files := updF a.files n { wrt x t b with stamp := a.stamp + 1 }, room := a.room - (takes (t + b.length) - tk x), stamp := a.stamp + 1 }) := by rw [hwr, if_neg hb0, if_neg hfz]
        rw [e]
        have hbu : ∀ wq, RefG wq f (most a) a (some ⟨bA, offA, none⟩) c (g1 ++ ⟨n, x, g, xbl⟩ :: g2) → Calls Try.prog 85 #[.pointer (some ⟨f, 0, none⟩)] wq fun e w' => e = .returned (.bool true) ∧ RefG w' f (most a) a.burn (some ⟨bA, offA, none⟩) c (g1 ++ ⟨n, x, g, xbl⟩ :: g2) ∧ Turn (rsBlocks f (some ⟨bA, offA, none⟩) (g1 ++ ⟨n, x, g, xbl⟩ :: g2)) (rsBlocks f (some ⟨bA, offA, none⟩) (g1 ++ ⟨n, x, g, xbl⟩ :: g2)) wq w' := fun wq hq => burn_on wq f _ a _ c _ hq hfz hok.fuse1 hok.fuse2
        have HBU := Lib.hid hbu
        have hfs := hg.2.1
        have HFS := Lib.hid hfs
        have hwtl : (rawR x).wt.length ≤ 262144 := by rw [rawR_wt_len, hT]; omega
        have hol : (rawR x).old.length = 64 * (rawR x).wt.length := by rw [rawR_wt_len, rawR_old_len hxo]
        have hEb : E ≤ 5242880 := by have := HEM.out; omega
        have hsz : ∀ w1 z, RFile w1 g n (rawR x) xbl → z = (E : Int) → Calls Try.prog 88 #[.pointer (some ⟨g, 0, none⟩), .int .i64 z] w1 fun e w' => e = .returned (.tuple #[]) ∧ ∃ bl', RFile w' g n (wrR x t b 0) bl' ∧ Turn xbl bl' w1 w' := fun w1 z h1 hz => size_is w1 g n (rawR x) _ xbl E z h1 (by show x.bs.length ≤ _; rw [hL]; omega) hwtl hol (by omega) hz (by rw [← hE]; exact wrR_zero hxo t b)
        have HSZ := Lib.hid hsz
        have hst1 : a.burn.stamp < 4611686018427387904 := hst
        have hall := wrR_all hxo t b (by rw [hL]; exact htL) hbne
        rw [hbm] at hall
        have HALL := Lib.hid hall
        have HBM := Lib.hid hbm
        obtain ⟨TE, hTEe⟩ : ∃ TE, takes E = TE := ⟨_, rfl⟩
        have hTE2 : E ≤ 64 * TE := by rw [← hTEe]; exact le_takes E
        have hTEb : TE ≤ 262144 := by rw [← hTEe]; unfold takes; omega
        have HTE := Lib.hid hTEe
        have HR := Lib.hid hr
        have htmE : t + m ≤ E := by have := HEM.out; omega
        have hmo : ∀ bl2, most { a.burn with files := updF a.files n { wrt x t b with stamp := a.stamp + 1 }, room := a.room - (takes (t + b.length) - tk x), stamp := a.stamp + 1 } = most a := fun bl2 => by
          have e2 := upd_split (x := ⟨n, x, g, xbl⟩) hn1 hn2 { wrt x t b with stamp := a.stamp + 1 } bl2
          rw [← hfs] at e2
          have htw : tk ({ wrt x t b with stamp := a.stamp + 1 } : Fl) = takes (wEnd x t b) := by show takes (wrt x t b).bs.length = _; rw [wrt_len x t b (by rw [hL]; exact htL)]; rfl
          refine most_grown (a := a) hfs { wrt x t b with stamp := a.stamp + 1 } bl2 e2 ?_
          rw [htw]
          show a.room - (takes (t + b.length) - tk x) + takes (wEnd x t b) = a.room + tk x
          have h1 : takes (wEnd x t b) = max (takes (t + b.length)) (tk x) := by unfold wEnd tk takes; omega
          have := HFUL.out
          rw [h1]
          omega
        have HMO := Lib.hid hmo
        clear e hd hd' hgt hL hK hN hxm hT hTL hb1 hbad hE hR hg hful hwr hbu hfz hfs hwtl hol hsz hall hbm hTEe hb0 hr hmo
        by_cases hEs : t + m < L
        all_goals
          go_enter Try.func49, Try.ntmps49
          go_wp2_with (go_at_call 84; refine hfi.mono ?_; rintro e w' ⟨rfl, rfl⟩)
          go_quiet ((go_at_call 62; exact Calls.quiet_of_same ((HRM.out _ (HG.out.fresh (Fresh.drewN _ _))).mono fun _ _ ⟨h1, h2⟩ => ⟨h1, h2.symm⟩)))
          have hgq := HG.out.fresh (Fresh.drewN w nq)
          go_wp2_with (first
            | (go_at_call 85; refine (HBU.out _ hgq).mono ?_; rintro e w1 ⟨rfl, hg1, hT1⟩)
            | (go_at_call 88; refine (HSZ.out w1 _ (hg1.2.2.2.2 ⟨n, x, g, xbl⟩ (by simp)) (by have := HEM.out; omega)).mono ?_; rintro e w2 ⟨rfl, bl2, hf2, hT2⟩))
          have hrd1 := (HR.out.turn (Turn.fresh (Fresh.drewN w nq))).turn hT1
          have HG1 := Lib.hid hg1
          have HT1 := Lib.hid hT1
          have hsub : ∀ i ∈ xbl, i ∈ rsBlocks f (some ⟨bA, offA, none⟩) (g1 ++ (⟨n, x, g, xbl⟩ : Gh) :: g2) := fun i hi => by
            simp only [rsBlocks, List.mem_cons, List.mem_append, List.mem_flatMap]
            exact .inr (.inr ⟨⟨n, x, g, xbl⟩, by simp, hi⟩)
          have hrdx := hrd1.sub hsub
          clear hg1 hT1 hgq hrd1
          go_loopw [12] (fun i wr => ∃ j : Nat, j ≤ m ∧ i = .int .i64 j ∧ RFile wr g n (wrR x t b j) bl2 ∧ Turn xbl bl2 w1 wr) (fun i _ => m - (intOf i).toNat)
          case atStart => exact ⟨0, Nat.zero_le _, rfl, hf2, hT2⟩
          case round =>
            obtain ⟨j, hj, rfl, hf, hTj⟩ := hrel
            by_cases hlt : j < m
            · obtain ⟨bB, offB, rfl, hcB⟩ := vref.RdA.at_ (hrdx.turn hTj) hlt
              obtain ⟨ix, hix⟩ : ∃ ix, t + j = ix := ⟨_, rfl⟩
              have hixE : ix < E := by omega
              have hixi : (t : Int) + (j : Int) = (ix : Int) := by omega
              obtain ⟨iw, hiw⟩ : ∃ iw, ix / 64 = iw := ⟨_, rfl⟩
              have hiwi : (ix : Int) / 64 = (iw : Int) := by omega
              have hiwT : iw < TE := by omega
              have hstep := wrR_step x t b j (by rw [HBM.out]; exact hlt)
              rw [hix, hiw] at hstep
              have hbl : (wrR x t b j).b.length = E := by rw [wrR_blen, HE.out]
              have hwl : (wrR x t b j).wt.length = TE := by rw [wrR_wlen, HE.out, HTE.out]
              obtain ⟨q, c1', hc1', hqb, hcq, hfzq, hstq⟩ := hf.b_at (i := ix) (by rw [hbl]; exact hixE)
              rw [hbl] at hc1'
              obtain ⟨u, hu⟩ : ∃ u, b.getD j 0 = u := ⟨_, rfl⟩
              rw [hu] at hcB hstep
              have hf3 := hstq u
              obtain ⟨q3, c3', hc3', hq3b, hcq3, hfz3, hst3⟩ := hf3.wt_at (i := iw) (by show iw < (wrR x t b j).wt.length; rw [hwl]; exact hiwT)
              have hf4 := hst3 true
              rw [show ({ wrR x t b j with b := (wrR x t b j).b.set ix u } : RRaw).wt.length = TE from hwl] at hc3'
              have hf5 : RFile ((wr.setCell ⟨q, ix, none⟩ (bv u)).setCell ⟨q3, iw, none⟩ (.bool true)) g n (wrR x t b (j + 1)) bl2 := by rw [← hstep]; exact hf4
              have HF5 := Lib.hid hf5
              have HQ := Lib.hid hqb
              have HQ3 := Lib.hid hq3b
              clear hf hf3 hf4 hf5 hstq hst3 hstep hbl hwl hqb hq3b hu hix hiw
              go_wp2
              go_region
              all_goals
                go_wp2
                go_roundw
                case rel => exact ⟨j + 1, by omega, by go_num, HF5.out.keep fun b hb => rfl, ((hTj.trans (Turn.but (But.put wr _) HQ.out)).trans (Turn.but (But.put _ _) HQ3.out)).trans (Turn.fresh (Fresh.drew _))⟩
                case measure => simp [intOf]; omega
            · obtain rfl : j = m := by omega
              have hup := HG1.out.upd (w' := wr) ⟨n, wrt x t b, g, bl2⟩ rfl (by rw [← HALL.out]; exact hf) hTj _ rfl
              go_wp2_with (go_at_call 86; refine (stamped_is wr f _ _ _ c g1 g2 n (wrt x t b) g bl2 hup.1 hst1).mono ?_; rintro e w4 ⟨rfl, hg4, hT4⟩)
              go_ret
              have e2 := upd_split (x := ⟨n, x, g, xbl⟩) hn1 hn2 { wrt x t b with stamp := a.stamp + 1 } bl2
              rw [← HFS.out] at e2
              have hg5 : RefG w4 f (most a) { a.burn with files := updF a.files n { wrt x t b with stamp := a.stamp + 1 }, room := a.room - (takes (t + b.length) - tk x), stamp := a.stamp + 1 } _ c (g1 ++ ⟨n, { wrt x t b with stamp := a.stamp + 1 }, g, bl2⟩ :: g2) := ⟨hg4.1, e2, hg4.2.2.1, hg4.2.2.2.1, hg4.2.2.2.2⟩
              exact RDid.mk_ hg5 0 ((((Turn.fresh (Fresh.drewN w nq)).trans HT1.out).trans hup.2).trans hT4) (HMO.out bl2).symm
end Go.Proofs.Ytelghdfikcodmaa.vref
