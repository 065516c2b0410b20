/-
  The contracts of the store's Sync, Write, Cut. My own text.
-/
import Derived.Test.YtelghdfikcodmaaVfsOps
namespace Go.Proofs.Ytelghdfikcodmaa.vfs
open Go.RowKit Go.Maps Go.Proofs.Ytelghdfikcodmaa.base Go.Proofs.Ytelghdfikcodmaa.vfsnum
set_option linter.unusedVariables false

theorem FsG.block_in {f mb : Nat} {g1 g2 : List Gh} {x : Gh} : ∀ b ∈ x.bl, b ∈ fsBlocks f mb (g1 ++ x :: g2) := fun b hb => by
  simp only [fsBlocks, List.flatMap_append, List.flatMap_cons, List.mem_cons, List.mem_append]
  exact .inr (.inr (.inr (.inl hb)))

set_option maxHeartbeats 1000000 in
theorem sync_fs (w : World) (f : Nat) (a : Fs) (bl : List Nat) (n : ByteArray) (h : FsAt w f a bl) (hok : FsOk a) (hn : n.size ≤ maxLen) :
    Calls Try.prog 46 #[fsPtr f, .string n] w (Did w f bl (a.sync n)) := by
  obtain ⟨mb, gs, rfl, hg⟩ := h
  cases hd : a.down with
  | true =>
    have e : a.sync n = (9, a) := by unfold Fs.sync; rw [if_pos hd]
    have hfi := find_down n w f a mb gs hg hd
    rw [e]
    clear e hd
    go_enter Try.func46, Try.ntmps46
    go_wp2_with (go_at_call 74; refine hfi.mono ?_; rintro e w' ⟨rfl, rfl⟩)
    go_ret
    exact Did.same hg 9
  | false =>
    have hd' : ¬ a.down = true := by rw [hd]; simp
    cases hgt : getF a.files n with
    | none =>
      have e : a.sync n = (6, a) := by unfold Fs.sync; rw [if_neg hd', hgt]
      have hfi := find_miss n w f a mb gs hg hd (hg.get_none hgt) hn
      rw [e]
      clear e hd hd' hgt
      go_enter Try.func46, Try.ntmps46
      go_wp2_with (go_at_call 74; refine hfi.mono ?_; rintro e w' ⟨rfl, rfl⟩)
      go_ret
      exact Did.same hg 6
    | some x =>
      obtain ⟨g1, g, xbl, g2, rfl⟩ := hg.get_some hgt
      have hfi := find_hit ⟨n, x, g, xbl⟩ w f a mb _ hg hd (by simp) hn
      by_cases hfz : a.fuse = 0
      · have e : a.sync n = (9, a.fall) := by unfold Fs.sync; rw [if_neg hd', hgt]; simp only; rw [if_pos hfz]
        have hbu := burn_out w f a mb _ hg hfz
        rw [e]
        clear e hd hd' hgt hfz
        go_enter Try.func46, Try.ntmps46
        go_wp2_with (first
          | (go_at_call 74; refine hfi.mono ?_; rintro e w' ⟨rfl, rfl⟩)
          | (go_at_call 71; refine hbu.mono ?_; rintro e w1 ⟨rfl, hg1, hT1⟩))
        go_ret
        exact Did.mk_ hg1 9 hT1
      · have e : a.sync n = (0, { a.burn with files := updF a.files n { x with old := noOld } }) := by unfold Fs.sync; rw [if_neg hd', hgt]; simp only; rw [if_neg hfz]
        have hbu := burn_on w f a mb _ hg hfz hok.fuse1 hok.fuse2
        have hfs := hg.2.1
        have hup := updF_split hg.apart { x with old := noOld }
        rw [e]
        have HF := Lib.hid hfs
        have HU := Lib.hid hup
        clear e hd hd' hgt hfz hfs hup
        go_enter Try.func46, Try.ntmps46
        go_wp2_with (first
          | (go_at_call 74; refine hfi.mono ?_; rintro e w' ⟨rfl, rfl⟩)
          | (go_at_call 71; refine hbu.mono ?_; rintro e w1 ⟨rfl, hg1, hT1⟩)
          | (go_at_call 82; (refine (sync_any g _ _ _ (hg1.2.2.2.2 ⟨n, x, g, xbl⟩ (by simp))).mono ?_); rintro e w2 ⟨rfl, bl2, hr2, hT2⟩))
        go_ret
        have hu := hg1.upd { x with old := noOld } bl2 hr2 hT2 _ rfl
        have e2 : updF a.files n { x with old := noOld } = _ := (congrArg (fun l => updF l n { x with old := noOld }) HF.out).trans (HU.out bl2)
        rw [e2]
        exact Did.mk_ hu.1 0 (hT1.trans hu.2)

theorem le_sum_of_mem : ∀ {l : List Nat} {x : Nat}, x ∈ l → x ≤ l.sum
  | y :: r, x, h => by
    rw [List.sum_cons]
    rcases List.mem_cons.1 h with rfl | h
    · omega
    · have := le_sum_of_mem h; omega
theorem FileRaw.long {w : World} {g : Nat} {r : Raw} {bl : List Nat} (h : FileRaw w g r bl) : w.cell? ⟨g, 0, none⟩ = some (.int .i64 r.long) := by
  obtain ⟨wb, A, c, kv, sb, rfl, hnd, hb, hs, hm, hk⟩ := h
  exact hb.cell rfl
theorem FileRaw.secs {w : World} {g : Nat} {r : Raw} {bl : List Nat} (h : FileRaw w g r bl) : ∃ A c, w.cell? ⟨g, 2, none⟩ = some (.slice A r.n c) := by
  obtain ⟨wb, A, c, kv, sb, rfl, hnd, hb, hs, hm, hk⟩ := h
  exact ⟨A, c, hb.cell rfl⟩
theorem takes_q (n : Nat) (v : Int) (w : World) (h : n ≤ 1099511627776) (hv : v = (n : Nat)) : Calls Try.prog 75 #[.int .i64 v] w fun e w' => e = .returned (.int .i64 (takes n : Nat)) ∧ w' = w := by
  subst hv
  exact (takes_any n w h).mono fun e w' ⟨h1, h2⟩ => ⟨h1, h2.symm⟩

set_option maxHeartbeats 2000000 in
theorem write_fs (w : World) (f : Nat) (a : Fs) (bl : List Nat) (n : ByteArray) (t : Int) (A : Option Addr) (m c : Nat) (bs : Bs) (h : FsAt w f a bl) (hok : FsOk a) (hst : a.stamp < 4611686018427387904) (hn : n.size ≤ maxLen)
    (hr : RdA w bl A m (bs.map bv)) (ht1 : -9223372036854775808 ≤ t) (ht2 : t ≤ 9223372036854775807) (hm : m ≤ 1073741824) (hc : m ≤ c) (hcm : c ≤ maxLen) :
    Calls Try.prog 40 #[fsPtr f, .string n, .int .i64 t, .slice A m c] w (Did w f bl (a.write n t bs)) := by
  obtain ⟨mb, gs, rfl, hg⟩ := h
  have hbl : bs.length = m := by have := hr.1; rwa [List.length_map] at this
  cases hd : a.down with
  | true =>
    have e : a.write n t bs = (9, a) := by unfold Fs.write; rw [if_pos hd]
    have hfi := find_down n w f a mb gs hg hd
    rw [e]
    clear e hd hbl
    go_enter Try.func40, Try.ntmps40
    go_wp2_with (go_at_call 74; refine hfi.mono ?_; rintro e w' ⟨rfl, rfl⟩)
    go_ret
    exact Did.same hg 9
  | false =>
    have hd' : ¬ a.down = true := by rw [hd]; simp
    cases hgt : getF a.files n with
    | none =>
      have e : a.write n t bs = (6, a) := by unfold Fs.write; rw [if_neg hd', hgt]
      have hfi := find_miss n w f a mb gs hg hd (hg.get_none hgt) hn
      rw [e]
      clear e hd hd' hgt hbl
      go_enter Try.func40, Try.ntmps40
      go_wp2_with (go_at_call 74; refine hfi.mono ?_; rintro e w' ⟨rfl, rfl⟩)
      go_ret
      exact Did.same hg 6
    | some x =>
      obtain ⟨g1, g, xbl, g2, rfl⟩ := hg.get_some hgt
      have hfi := find_hit ⟨n, x, g, xbl⟩ w f a mb _ hg hd (by simp) hn
      have hx := hg.2.2.2.2 ⟨n, x, g, xbl⟩ (by simp)
      have hxok : FlOk x := hok.fls (n, x) (getF_some hgt)
      have hlong : w.cell? ⟨g, 0, none⟩ = some (.int .i64 x.bs.length) := hx.long
      have hxl := hxok.1
      by_cases hbad : t < 0 ∨ (x.bs.length : Int) < t
      · have e : a.write n t bs = (1, a) := by unfold Fs.write; rw [if_neg hd', hgt]; simp only; rw [if_pos hbad]
        rw [e]
        clear e hd hd' hgt hbl
        rcases hbad with hbad | hbad
        · go_enter Try.func40, Try.ntmps40
          go_wp2_with (go_at_call 74; refine hfi.mono ?_; rintro e w' ⟨rfl, rfl⟩)
          all_goals go_ret
          all_goals exact Did.same hg 1
        · have hnn : decide (t < 0) = false := by simp; omega
          go_enter Try.func40, Try.ntmps40
          go_wp2_with (go_at_call 74; refine hfi.mono ?_; rintro e w' ⟨rfl, rfl⟩)
          all_goals go_ret
          all_goals exact Did.same hg 1
      · obtain ⟨s, rfl⟩ : ∃ s : Nat, t = (s : Int) := ⟨t.toNat, by omega⟩
        have hsl : s ≤ x.bs.length := by omega
        obtain ⟨T, hT⟩ : ∃ T, takes (s + m) = T := ⟨_, rfl⟩
        obtain ⟨K, hK⟩ : ∃ K, tk x = K := ⟨_, rfl⟩
        obtain ⟨M, hM⟩ : ∃ M, M = T - K := ⟨_, rfl⟩
        have hTb : T ≤ 17179869184 + 65536 := by rw [← hT]; unfold takes; omega
        have hKb : K ≤ 65536 := by rw [← hK]; unfold tk takes; omega
        have hroom : a.room ≤ 65536 := by have := hok.sum; omega
        have e0 : a.write n s bs = if a.room < M then (8, a) else if bs.length = 0 then (0, a) else if a.fuse = 0 then (9, a.fall)
            else (0, { a.burn with files := updF a.files n { wrt x s bs with stamp := a.stamp + 1 }, room := a.room - M, stamp := a.stamp + 1 }) := by
          unfold Fs.write; rw [if_neg hd', hgt]; simp only; rw [if_neg hbad, Int.toNat_natCast, hbl, hT, hK, ← hM]
        obtain ⟨XA, xc, hsec⟩ := hx.secs
        have hN : (rawOf x).n = K := hK
        rw [hN] at hsec
        have htk := fun w => takes_q (s + m) ((s : Int) + (m : Int)) w (by omega) (by omega)
        rw [hT] at htk
        have d1 : decide ((s : Int) < 0) = false := by simp
        have d2 : decide ((x.bs.length : Int) < (s : Int)) = false := by simp; omega
        have ew : IntKind.i64.wrap ((s : Int) + (m : Int)) = (s : Int) + (m : Int) := IntWalk.i64_in _ (by omega)
        by_cases h8 : a.room < M
        · rw [e0, if_pos h8]
          have hMK : (T : Int) - (K : Int) = (M : Int) := by omega
          have hlt : (0 : Int) < (M : Int) := by omega
          have hroomc : w.cell? ⟨f, 1, none⟩ = some (.int .i64 a.room) := hg.2.2.1.cell rfl
          have h8' : (a.room : Int) < (M : Int) := by omega
          clear e0 hd hd' hgt hT hK hM hN hbad hbl
          go_enter Try.func40, Try.ntmps40
          go_wp2_with (go_at_call 74; refine hfi.mono ?_; rintro e w' ⟨rfl, rfl⟩)
          go_quiet ((go_at_call 75; exact Calls.quiet_of_same (htk _)))
          go_wp2
          go_ret
          exact Did.mk_ (hg.fresh (Fresh.drewN w nq)) 8 (Turn.fresh (Fresh.drewN w nq))
        · have hwz : ((T : Int) - (K : Int) ≤ 0 ∧ (M : Int) = 0) ∨ (0 < (T : Int) - (K : Int) ∧ (T : Int) - (K : Int) = (M : Int)) := by omega
          rw [if_neg h8] at e0
          by_cases hb0 : bs.length = 0
          · rw [e0, if_pos hb0]
            have hm0 : (m : Int) = 0 := by omega
            have hM0 : (T : Int) - (K : Int) ≤ 0 := by
              have : m = 0 := by omega
              have : T ≤ K := by rw [← hT, ← hK]; unfold tk takes; omega
              omega
            have hroomc : ∀ k, (w.drewN k).cell? ⟨f, 1, none⟩ = some (.int .i64 a.room) := fun k => hg.2.2.1.cell rfl
            have h8' : ¬ ((a.room : Int) < 0) := by omega
            have hmn : m = 0 := by omega
            subst hmn
            clear e0 hd hd' hgt hT hK hM hN hbad hbl hwz h8 hb0 hm0
            go_enter Try.func40, Try.ntmps40
            go_wp2_with (go_at_call 74; refine hfi.mono ?_; rintro e w' ⟨rfl, rfl⟩)
            go_quiet ((go_at_call 75; exact Calls.quiet_of_same (htk _)))
            go_wp2
            go_ret
            exact Did.mk_ (hg.fresh (Fresh.drewN w nq)) 0 (Turn.fresh (Fresh.drewN w nq))
          · rw [if_neg hb0] at e0
            have hm0 : ((m : Int) == 0) = false := by rw [beq_eq_false_iff_ne]; omega
            have hm1 : ¬ ((m : Int) = 0) := by omega
            have hroomc : ∀ k, (w.drewN k).cell? ⟨f, 1, none⟩ = some (.int .i64 a.room) := fun k => hg.2.2.1.cell rfl
            have h8' : ¬ ((a.room : Int) < (M : Int)) := by omega
            have h8'' : (M : Int) ≤ (a.room : Int) := by omega
            have h80 : (0 : Int) ≤ (a.room : Int) := by omega
            have hsum := hok.sum
            have hmem : tk x ≤ (a.files.map fun p => tk p.2).sum := by
              exact le_sum_of_mem (List.mem_map.2 ⟨(n, x), getF_some hgt, rfl⟩)
            have hsm : s + m ≤ 4194304 := by
              have h1 : T ≤ 65536 := by omega
              rw [← hT] at h1
              unfold takes at h1
              omega
            have HSM := Lib.hid hsm
            have hfs := hg.2.1
            have hup := updF_split hg.apart { wrt x s bs with stamp := a.stamp + 1 }
            have HF := Lib.hid hfs
            have HU := Lib.hid hup
            by_cases hfz0 : a.fuse = 0
            · rw [e0, if_pos hfz0]
              have hfz := Lib.hid hfz0
              clear e0 hd hd' hgt hT hK hM hN hbad hbl h8 hb0 hfz0 hsum hmem hfs hup hsm
              rcases hwz with ⟨hz1, hz2⟩ | ⟨hz1, hz2⟩
              · have hz3 := Lib.hid hz2; clear hz2
                go_enter Try.func40, Try.ntmps40
                go_wp2_with (go_at_call 74; refine hfi.mono ?_; rintro e w' ⟨rfl, rfl⟩)
                go_quiet ((go_at_call 75; exact Calls.quiet_of_same (htk _)))
                have hgD := hg.fresh (Fresh.drewN w nq)
                have hbu := burn_out (w.drewN nq) f a mb _ hgD hfz.out
                go_wp2_with (go_at_call 71; refine hbu.mono ?_; rintro e w1 ⟨rfl, hg1, hT1⟩)
                go_ret
                exact Did.mk_ hg1 9 ((Turn.fresh (Fresh.drewN w nq)).trans hT1)
              · skip
                go_enter Try.func40, Try.ntmps40
                go_wp2_with (go_at_call 74; refine hfi.mono ?_; rintro e w' ⟨rfl, rfl⟩)
                go_quiet ((go_at_call 75; exact Calls.quiet_of_same (htk _)))
                have hgD := hg.fresh (Fresh.drewN w nq)
                have hbu := burn_out (w.drewN nq) f a mb _ hgD hfz.out
                go_wp2_with (go_at_call 71; refine hbu.mono ?_; rintro e w1 ⟨rfl, hg1, hT1⟩)
                go_ret
                exact Did.mk_ hg1 9 ((Turn.fresh (Fresh.drewN w nq)).trans hT1)
            · rw [e0, if_neg hfz0]
              have hfz := Lib.hid hfz0
              clear e0 hd hd' hgt hT hK hM hN hbad hbl h8 hb0 hfz0 hsum hmem hfs hup hsm
              rcases hwz with ⟨hz1, hz2⟩ | ⟨hz1, hz2⟩
              · have E3 := Lib.hid (show ((a.room - M : Nat) : Int) = (a.room : Int) by omega); clear hz2
                go_enter Try.func40, Try.ntmps40
                go_wp2_with (go_at_call 74; refine hfi.mono ?_; rintro e w' ⟨rfl, rfl⟩)
                go_quiet ((go_at_call 75; exact Calls.quiet_of_same (htk _)))
                have hgD := hg.fresh (Fresh.drewN w nq)
                have hbu := burn_on (w.drewN nq) f a mb _ hgD hfz.out hok.fuse1 hok.fuse2
                have hrD := hr.turn (Turn.fresh (S := fsBlocks f mb (g1 ++ ⟨n, x, g, xbl⟩ :: g2)) (Fresh.drewN w nq))
                go_wp2_with (first
                  | (go_at_call 71; refine hbu.mono ?_; rintro e w1 ⟨rfl, hg1, hT1⟩)
                  | (go_at_call 76; (refine (write_any g x xbl s A m c bs w1 (hg1.2.2.2.2 ⟨n, x, g, xbl⟩ (by simp)) ((hrD.turn hT1).sub (FsG.block_in (x := ⟨n, x, g, xbl⟩))) hxok hsl HSM.out hc hcm).mono ?_); rintro e w2 ⟨rfl, bl2, hr2, hT2⟩;
                      have hu := hg1.upd (wrt x s bs) bl2 hr2 hT2 _ rfl;
                      have hrc : w2.cell? ⟨f, 1, none⟩ = some (.int .i64 a.room) := hu.1.2.2.1.cell (i := 1) rfl;
                      have hrf := hu.1.2.2.1.free 1;
                      have hput := hu.1.put 1 (.int .i64 (a.room : Int)) { a.burn with files := (g1 ++ ⟨n, wrt x s bs, g, bl2⟩ :: g2).map Gh.fst, room := a.room - M } rfl (by simp [E3.out, Fs.burn]))
                  | (go_at_call 73; refine (mark_any _ f _ mb g1 g2 ⟨n, wrt x s bs, g, bl2⟩ hput.1 hst _ rfl).mono ?_; rintro e w4 ⟨rfl, hg4, hT4⟩))
                go_ret
                have e2 : updF a.files n { wrt x s bs with stamp := a.stamp + 1 } = _ := (congrArg (fun l => updF l n { wrt x s bs with stamp := a.stamp + 1 }) HF.out).trans (HU.out bl2)
                rw [e2]
                refine Did.mk_ hg4 0 (((((Turn.fresh (Fresh.drewN w nq)).trans hT1).trans hu.2).trans hput.2).trans ?_)
                have eb : fsBlocks f mb (g1 ++ ⟨n, { wrt x s bs with stamp := a.stamp + 1 }, g, bl2⟩ :: g2) = fsBlocks f mb (g1 ++ ⟨n, wrt x s bs, g, bl2⟩ :: g2) := by simp [fsBlocks]
                exact eb ▸ hT4
              · have E3 := Lib.hid (show ((a.room - M : Nat) : Int) = (a.room : Int) - (M : Int) by omega)
                go_enter Try.func40, Try.ntmps40
                go_wp2_with (go_at_call 74; refine hfi.mono ?_; rintro e w' ⟨rfl, rfl⟩)
                go_quiet ((go_at_call 75; exact Calls.quiet_of_same (htk _)))
                have hgD := hg.fresh (Fresh.drewN w nq)
                have hbu := burn_on (w.drewN nq) f a mb _ hgD hfz.out hok.fuse1 hok.fuse2
                have hrD := hr.turn (Turn.fresh (S := fsBlocks f mb (g1 ++ ⟨n, x, g, xbl⟩ :: g2)) (Fresh.drewN w nq))
                go_wp2_with (first
                  | (go_at_call 71; refine hbu.mono ?_; rintro e w1 ⟨rfl, hg1, hT1⟩)
                  | (go_at_call 76; (refine (write_any g x xbl s A m c bs w1 (hg1.2.2.2.2 ⟨n, x, g, xbl⟩ (by simp)) ((hrD.turn hT1).sub (FsG.block_in (x := ⟨n, x, g, xbl⟩))) hxok hsl HSM.out hc hcm).mono ?_); rintro e w2 ⟨rfl, bl2, hr2, hT2⟩;
                      have hu := hg1.upd (wrt x s bs) bl2 hr2 hT2 _ rfl;
                      have hrc : w2.cell? ⟨f, 1, none⟩ = some (.int .i64 a.room) := hu.1.2.2.1.cell (i := 1) rfl;
                      have hrf := hu.1.2.2.1.free 1;
                      have hput := hu.1.put 1 (.int .i64 ((a.room : Int) - (M : Int))) { a.burn with files := (g1 ++ ⟨n, wrt x s bs, g, bl2⟩ :: g2).map Gh.fst, room := a.room - M } rfl (by simp [E3.out, Fs.burn]))
                  | (go_at_call 73; refine (mark_any _ f _ mb g1 g2 ⟨n, wrt x s bs, g, bl2⟩ hput.1 hst _ rfl).mono ?_; rintro e w4 ⟨rfl, hg4, hT4⟩))
                go_ret
                have e2 : updF a.files n { wrt x s bs with stamp := a.stamp + 1 } = _ := (congrArg (fun l => updF l n { wrt x s bs with stamp := a.stamp + 1 }) HF.out).trans (HU.out bl2)
                rw [e2]
                refine Did.mk_ hg4 0 (((((Turn.fresh (Fresh.drewN w nq)).trans hT1).trans hu.2).trans hput.2).trans ?_)
                have eb : fsBlocks f mb (g1 ++ ⟨n, { wrt x s bs with stamp := a.stamp + 1 }, g, bl2⟩ :: g2) = fsBlocks f mb (g1 ++ ⟨n, wrt x s bs, g, bl2⟩ :: g2) := by simp [fsBlocks]
                exact eb ▸ hT4
end Go.Proofs.Ytelghdfikcodmaa.vfs
