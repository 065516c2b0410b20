import Derived.Test.YtcdehklcdipcfaaGreatMgVd
/-
  The contract of the store's Cut. My own text.
-/
namespace Go.Proofs.YtcdehklcdipcfaaGreat.vfs
open Go.RowKit Go.Maps Go.Proofs.YtcdehklcdipcfaaGreat.base Go.Proofs.YtcdehklcdipcfaaGreat.vfsnum
set_option linter.unusedVariables false

set_option maxRecDepth 100000 in
set_option maxHeartbeats 2000000 in
theorem cut_fs (w : World) (f : Nat) (a : Fs) (bl : List Nat) (n : ByteArray) (t : Int) (h : FsAt w f a bl) (hok : FsOk a) (hst : a.stamp < 4611686018427387904) (hn : n.size ≤ maxLen)
    (ht1 : -9223372036854775808 ≤ t) (ht2 : t ≤ 9223372036854775807) :
    Calls Tryz.prog 120 #[fsPtr f, .string n, .int .i64 t] w (Did w f bl (a.cut n t)) := by
  obtain ⟨mb, gs, rfl, hg⟩ := h
  cases hd : a.down with
  | true =>
    have e : a.cut n t = (9, a) := by unfold Fs.cut; rw [if_pos hd]
    have hfi := find_down n w f a mb gs hg hd
    rw [e]
    clear e hd
    go_enter Tryz.func120, Tryz.ntmps120
    go_wp2_with (go_at_call 88; refine hfi.mono ?_; rintro e w' ⟨rfl, rfl⟩)
    go_ret
    exact Did.same hg 9
  | false =>
    have hd' : ¬ a.down = true := by rw [hd]; simp
    cases hgt : getF a.files n with
    | none =>
      have e : a.cut n t = (6, a) := by unfold Fs.cut; rw [if_neg hd', hgt]
      have hfi := find_miss n w f a mb gs hg hd (hg.get_none hgt) hn
      rw [e]
      clear e hd hd' hgt
      go_enter Tryz.func120, Tryz.ntmps120
      go_wp2_with (go_at_call 88; refine hfi.mono ?_; rintro e w' ⟨rfl, rfl⟩)
      go_ret
      exact Did.same hg 6
    | some x =>
      obtain ⟨g1, g, xbl, g2, rfl⟩ := hg.get_some hgt
      have hfi := find_hit ⟨n, x, g, xbl⟩ w f a mb _ hg hd (by simp) hn
      have hx := hg.2.2.2.2 ⟨n, x, g, xbl⟩ (by simp)
      have hxok : FlOk x := hok.fls (n, x) (getF_some hgt)
      have hlong : w.cell? ⟨g, 0, none⟩ = some (.int .i64 x.bs.length) := hx.long
      have hxl := hxok.1
      by_cases hbad : t < 0 ∨ (x.bs.length : Int) < t
      · have e : a.cut n t = (1, a) := by unfold Fs.cut; rw [if_neg hd', hgt]; simp only; rw [if_pos hbad]
        rw [e]
        clear e hd hd' hgt
        rcases hbad with hbad | hbad
        · go_enter Tryz.func120, Tryz.ntmps120
          go_wp2_with (go_at_call 88; refine hfi.mono ?_; rintro e w' ⟨rfl, rfl⟩)
          all_goals go_ret
          all_goals exact Did.same hg 1
        · have hnn : decide (t < 0) = false := by simp; omega
          go_enter Tryz.func120, Tryz.ntmps120
          go_wp2_with (go_at_call 88; refine hfi.mono ?_; rintro e w' ⟨rfl, rfl⟩)
          all_goals go_ret
          all_goals exact Did.same hg 1
      · obtain ⟨s, rfl⟩ : ∃ s : Nat, t = (s : Int) := ⟨t.toNat, by omega⟩
        have hsl : s ≤ x.bs.length := by omega
        have d1 : decide ((s : Int) < 0) = false := by simp
        have d2 : decide ((x.bs.length : Int) < (s : Int)) = false := by simp; omega
        by_cases hfz : a.fuse = 0
        · have e : a.cut n s = (9, a.fall) := by unfold Fs.cut; rw [if_neg hd', hgt]; simp only; rw [if_neg hbad, if_pos hfz]
          have hbu := burn_out w f a mb _ hg hfz
          rw [e]
          clear e hd hd' hgt hfz hbad
          go_enter Tryz.func120, Tryz.ntmps120
          go_wp2_with (first
            | (go_at_call 88; refine hfi.mono ?_; rintro e w' ⟨rfl, rfl⟩)
            | (go_at_call 90; refine hbu.mono ?_; rintro e w1 ⟨rfl, hg1, hT1⟩))
          go_ret
          exact Did.mk_ hg1 9 hT1
        · obtain ⟨T, hT⟩ : ∃ T, takes s = T := ⟨_, rfl⟩
          obtain ⟨K, hK⟩ : ∃ K, tk x = K := ⟨_, rfl⟩
          have hTK : T ≤ K := by rw [← hT, ← hK]; unfold tk takes; omega
          have hsum := sum_tk hok hgt
          rw [hK] at hsum
          have e : a.cut n s = (0, { a.burn with files := updF a.files n { ct x s with stamp := a.stamp + 1 }, room := a.room + (K - T), stamp := a.stamp + 1 }) := by
            unfold Fs.cut; rw [if_neg hd', hgt]; simp only; rw [if_neg hbad, if_neg hfz, Int.toNat_natCast, hT, hK]
          have hbu := burn_on w f a mb _ hg hfz hok.fuse1 hok.fuse2
          have hfs := hg.2.1
          have hup := updF_split hg.apart { ct x s with stamp := a.stamp + 1 }
          have htk := fun w => takes_q s (s : Int) w (by omega) rfl
          rw [hT] at htk
          rw [e]
          have HK := Lib.hid hK
          have HF := Lib.hid hfs
          have HU := Lib.hid hup
          have hst2 : a.burn.stamp < 4611686018427387904 := hst
          have ewr : (a.room : Int) + ((K : Int) - (T : Int)) = ((a.room + (K - T) : Nat) : Int) := by omega
          have EWR := Lib.hid ewr
          clear e hd hd' hgt hfz hbad hfs hup hT hK ewr
          go_enter Tryz.func120, Tryz.ntmps120
          go_wp2_with (first
            | (go_at_call 88; refine hfi.mono ?_; rintro e w' ⟨rfl, rfl⟩)
            | (go_at_call 90; refine hbu.mono ?_; rintro e w1 ⟨rfl, hg1, hT1⟩))
          have hf1 := hg1.2.2.1.free 1
          have hroomc : w1.cell? ⟨f, 1, none⟩ = some (.int .i64 a.room) := hg1.2.2.1.cell rfl
          obtain ⟨XA, xc, hsec⟩ := (hg1.2.2.2.2 ⟨n, x, g, xbl⟩ (by simp)).secs
          have hN : (rawOf x).n = K := HK.out
          rw [show (rawOf (⟨n, x, g, xbl⟩ : Gh).fl).n = K from hN] at hsec
          clear hN
          go_region_with (go_at_call 123; refine (htk _).mono ?_; rintro e w' ⟨rfl, rfl⟩)
          all_goals
            have w1e : IntKind.i64.wrap ((K : Int) - (T : Int)) = (K : Int) - (T : Int) := IntWalk.i64_in _ (by omega)
            have w2e : IntKind.i64.wrap ((a.room : Int) + ((K : Int) - (T : Int))) = ((a.room + (K - T) : Nat) : Int) := (IntWalk.i64_in _ (by omega)).trans EWR.out
            rw [w1e, w2e]
            have hp := hg1.put 1 (.int .i64 ((a.room + (K - T) : Nat) : Int)) { a.burn with room := a.room + (K - T) } rfl rfl
            have hg3 := hp.1.fresh (Fresh.drew _)
            have hT3 := hp.2.trans (Turn.fresh (Fresh.drew _))
            generalize (w1.setCell ⟨f, 1, none⟩ (.int .i64 ((a.room + (K - T) : Nat) : Int))).drew = w3 at hg3 hT3 ⊢
            have hcut := cut_any g x xbl s w3 (hg3.2.2.2.2 ⟨n, x, g, xbl⟩ (by simp)) hxok hsl
            clear hp w1e w2e hroomc hf1 hsec htk hfi hbu hg1
            go_wp2_with (first
              | (go_at_call 143; (with_reducible refine hcut.mono ?_); rintro e w4 ⟨rfl, bl4, hr4, hT4⟩; clear hcut; have hu := hg3.upd (ct x s) bl4 hr4 hT4 _ rfl)
              | (go_at_call 92; refine (mark_any w4 f _ mb g1 g2 ⟨n, ct x s, g, bl4⟩ hu.1 hst2 _ rfl).mono ?_; rintro e w5 ⟨rfl, hg5, hT5⟩))
            go_ret
            have e2 : updF a.files n { ct x s with stamp := a.stamp + 1 } = _ := (congrArg (fun l => updF l n { ct x s with stamp := a.stamp + 1 }) HF.out).trans (HU.out bl4)
            rw [e2]
            exact Did.mk_ hg5 0 (((hT1.trans hT3).trans hu.2).trans (by
              have eb : fsBlocks f mb (g1 ++ ⟨n, { ct x s with stamp := a.stamp + 1 }, g, bl4⟩ :: g2) = fsBlocks f mb (g1 ++ ⟨n, ct x s, g, bl4⟩ :: g2) := by simp [fsBlocks]
              exact eb ▸ hT5))
theorem ct_len (x : Fl) (s : Nat) (h : s ≤ x.bs.length) : (ct x s).bs.length = s := by show (x.bs.take s).length = s; rw [List.length_take]; omega
theorem ct_ok {x : Fl} {s : Nat} (h : FlOk x) (hs : s ≤ x.bs.length) : FlOk (ct x s) := by
  have hl := ct_len x s hs
  refine ⟨by rw [hl]; have := h.1; omega, fun k o hk => ?_⟩
  rw [hl]
  have hk' : (if takes s ≤ k then none else if s % 64 ≠ 0 ∧ k = s / 64 ∧ (x.old k).isSome = false then some (secAt x.bs k) else x.old k) = some o := hk
  by_cases h1 : takes s ≤ k
  · rw [if_pos h1] at hk'; cases hk'
  · rw [if_neg h1] at hk'
    refine ⟨by omega, ?_⟩
    by_cases h2 : s % 64 ≠ 0 ∧ k = s / 64 ∧ (x.old k).isSome = false
    · rw [if_pos h2] at hk'
      injection hk' with hk'
      subst hk'
      exact secAt_len _ _
    · rw [if_neg h2] at hk'
      exact (h.2 k o hk').2
theorem cut_ok {a : Fs} {n : ByteArray} {t : Int} (h : FsOk a) : FsOk (a.cut n t).2 := by
  unfold Fs.cut
  split
  · exact h
  · cases hg : getF a.files n with
    | none => exact h
    | some x =>
      simp only
      split
      · exact h
      · rename_i hb
        split
        · exact FsOk.fall h
        · have hx := h.fls (n, x) (getF_some hg)
          have hl : t.toNat ≤ x.bs.length := by omega
          have hy : FlOk { ct x t.toNat with stamp := a.stamp + 1 } := stamp_ok (ct_ok hx hl) _
          have hu := flist_upd (FsOk.flist h) hg hy
          refine FsOk.mk_ hu.1 ?_ (burn_fuse a h.fuse1 h.fuse2).1 (burn_fuse a h.fuse1 h.fuse2).2
          have e : tk { ct x t.toNat with stamp := a.stamp + 1 } = takes t.toNat := by
            show takes (ct x t.toNat).bs.length = _
            rw [ct_len x _ hl]
          have h5 := hu.2.1
          have h6 := h.sum
          rw [e] at h5
          have h7 : takes t.toNat ≤ tk x := by unfold tk takes; omega
          have fin : a.room + (tk x - takes t.toNat) + ((updF a.files n { ct x t.toNat with stamp := a.stamp + 1 }).map fun p => tk p.2).sum ≤ 65536 := by omega
          exact fin
theorem fuse_ok {a : Fs} (n : Int) (h : FsOk a) (hn : n ≤ 9223372036854775807) : FsOk { a with fuse := max (-1) n } := ⟨h.names, h.sorted, h.fls, h.sum, by show -1 ≤ max (-1) n; omega, by show max (-1) n ≤ _; omega⟩
end Go.Proofs.YtcdehklcdipcfaaGreat.vfs
