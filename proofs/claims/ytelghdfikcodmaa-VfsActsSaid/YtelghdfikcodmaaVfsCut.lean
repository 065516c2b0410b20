/-
  The contracts of vfs's file.cut and file.crash. My own text.
-/
import Derived.Test.YtelghdfikcodmaaVfsRead
namespace Go.Proofs.Ytelghdfikcodmaa.vfs
open Go.RowKit Go.Maps Go.Proofs.Ytelghdfikcodmaa.base Go.Proofs.Ytelghdfikcodmaa.vfsnum
set_option linter.unusedVariables false

def someOld (old : Nat → Option Bs) (a k : Nat) : Nat → Option Bs := fun j => if a ≤ j ∧ j < k then none else old j

set_option maxRecDepth 100000 in
set_option maxHeartbeats 1000000 in
theorem cut_any (g : Nat) (f : Fl) (bl : List Nat) (n : Nat) (w : World) (h : FileRaw w g (rawOf f) bl) (hok : FlOk f) (hn : n ≤ f.bs.length) :
    Calls Try.prog 80 #[.pointer (some ⟨g, 0, none⟩), .int .i64 n] w fun e w' => e = .returned (.tuple #[]) ∧ ∃ bl', FileRaw w' g (rawOf (ct f n)) bl' ∧ Turn bl bl' w w' := by
  have hfl := hok.1
  obtain ⟨wb, A, c, kv, sb, rfl, hnd, hb, hs, hm, hk⟩ := h
  have hgw : g ≠ wb ∧ wb ∉ sb ∧ g ∉ sb := by simp at hnd; exact ⟨hnd.1.1, hnd.2.1, hnd.1.2⟩
  obtain ⟨N, hN⟩ : ∃ N, (rawOf f).n = N := ⟨_, rfl⟩
  have hN1 : N = takes f.bs.length := hN.symm
  have hN2 : takes n ≤ N := by rw [hN1]; unfold takes; omega
  have hN3 : N ≤ 65536 := by rw [hN1]; unfold takes; omega
  rw [hN] at hb hs
  have HN := Lib.hid hN1
  have HOK := Lib.hid hok
  have hcN := hs.2.1
  have hcm := hs.2.2.1
  unfold maxLen at hcm
  have hcc : c ≤ 9223372036854775807 := by omega
  clear hN1 hN hok hcm
  obtain ⟨L, hL⟩ : ∃ L, takes n = L := ⟨_, rfl⟩
  rw [hL] at hN2
  have HL := Lib.hid hL
  go_enter Try.func80, Try.ntmps80
  go_wp2_with (go_at_call 75; refine (takes_any n w (by omega)).mono ?_; rintro e w' ⟨rfl, rfl⟩)
  clear hL
  go_loopw [5] (fun t wr => ∃ (k : Nat) (kv' : List (Value × Value)), t = .int .i64 k ∧ L ≤ k ∧ k ≤ N ∧ MapOf Try.prog 3 wr wb kv' ∧ OldIs kv' (someOld (rawOf f).old L k) ∧ But wb w wr) (fun t _ => N - (intOf t).toNat)
  case atStart =>
    have e : someOld (rawOf f).old L L = (rawOf f).old := by funext j; unfold someOld; rw [if_neg (by omega)]
    exact ⟨L, kv, rfl, Nat.le_refl _, hN2, hm, by rw [e]; exact hk, But.refl _ _⟩
  case round =>
    obtain ⟨k, kv', rfl, hk1, hk2, hm', hold, hbut⟩ := hrel
    have keep : ∀ b, b < w.heap.size → b ≠ wb → wr.heap[b]? = w.heap[b]? := fun b hb hn => hbut.block b hb (fun e => hn (by injection e))
    have hb' := hb.old (keep g hb.inside hgw.1)
    have h2 := hb'.cell (i := 2) rfl
    have h3 := hb'.cell (i := 3) rfl
    have HB := Lib.hid hbut
    clear hbut
    by_cases hlt : k < N
    · have hlti : (k : Int) < (N : Int) := by omega
      have hstep : ∀ j, j ≠ k → someOld (rawOf f).old L (k + 1) j = someOld (rawOf f).old L k j := fun j hj => by
        unfold someOld
        by_cases h : L ≤ j ∧ j < k
        · rw [if_pos h, if_pos (by omega)]
        · rw [if_neg h, if_neg (by omega)]
      have hnone : someOld (rawOf f).old L (k + 1) k = none := by unfold someOld; rw [if_pos (by omega)]
      cases ho : someOld (rawOf f).old L k k with
      | some o =>
        obtain ⟨rest, hp⟩ := perm_of_mem (hold.hit ho)
        have hdel := hold.del hm'.apart hp hnone hstep
        have HD := Lib.hid hdel
        clear hdel hstep hnone ho
        go_wp2_with (at_delete; refine wpList_drop_hit _ rfl _ _ 105 3 rfl 116 intKey Try.underlying105 wb kv' rest (secV o) rfl hm' (.int .i64 k) _ rfl (key_int k (by omega)) hp ?_; intro w1 hm1 hb1)
        go_roundw
        case rel => exact ⟨k + 1, rest, by go_num, by omega, by omega, hm1, HD.out, HB.out.trans hb1⟩
        case measure => simp [intOf]; omega
      | none =>
        have hmiss := hold.miss ho
        have heq : someOld (rawOf f).old L (k + 1) = someOld (rawOf f).old L k := by
          funext j
          by_cases hj : j = k
          · subst hj; rw [hnone, ho]
          · exact hstep j hj
        have HE := Lib.hid heq
        clear heq hstep hnone ho
        go_wp2_with (at_delete; refine wpList_drop_miss _ rfl _ _ 105 3 rfl 116 intKey Try.underlying105 wb kv' rfl hm' (.int .i64 k) _ rfl (key_int k (by omega)) hmiss ?_; intro w1 hm1 hb1)
        go_roundw
        case rel => exact ⟨k + 1, kv', by go_num, by omega, by omega, hm1, by rw [HE.out]; exact hold, HB.out.trans hb1⟩
        case measure => simp [intOf]; omega
    · have hkN : k = N := by omega
      subst hkN
      have hold2 : OldIs kv' (cutOld f.old L) := by
        have : someOld (rawOf f).old L k = cutOld f.old L := by
          funext j
          show (if L ≤ j ∧ j < k then none else f.old j) = if L ≤ j then none else f.old j
          by_cases h : L ≤ j
          · rw [if_pos h]
            by_cases h1 : j < k
            · rw [if_pos ⟨h, h1⟩]
            · rw [if_neg (fun h2 => h1 h2.2)]
              cases hj : f.old j with
              | none => rfl
              | some o => have := (HOK.out.2 j o hj).1; have := HN.out; omega
          · rw [if_neg h, if_neg (fun h2 => h h2.1)]
        rw [← this]; exact hold
      clear hold
      have hf0 := hb'.free 0
      have hf2 := hb'.free 2
      have hLc : (L : Int) ≤ (c : Int) := by omega
      have h0 := hb'.cell (i := 0) rfl
      have hr : FileRaw ((wr.setCell ⟨g, 2, none⟩ (.slice A L c)).setCell ⟨g, 0, none⟩ (.int .i64 n)) g ⟨n, f.stamp, L, (pad f.bs).take (64 * L), cutOld f.old L⟩ (g :: wb :: sb) := by
        have hbw : ∀ b, b ≠ g → ((wr.setCell ⟨g, 2, none⟩ (.slice A L c)).setCell ⟨g, 0, none⟩ (.int .i64 n)).heap[b]? = wr.heap[b]? := fun b hb =>
          (Below.heap_setCell _ ⟨g, 0, none⟩ _ b hb).trans (Below.heap_setCell _ ⟨g, 2, none⟩ _ b hb)
        have hsw : Sect wr A k c (rawOf f).fl sb := hs.keep fun b hbm => keep b ((show FileRaw w g { rawOf f with n := k } (g :: wb :: sb) from ⟨wb, A, c, kv, sb, rfl, hnd, hb, hs, hm, hk⟩).inside b (by simp [hbm])) (fun e => hgw.2.1 (e ▸ hbm))
        refine ⟨wb, A, c, kv', sb, rfl, hnd, (hb'.put 2 (.slice A L c)).put 0 (.int .i64 n), ?_, hm'.old (hbw wb (fun e => hgw.1 e.symm)), hold2⟩
        exact (hsw.cut hN2).keep fun b hbm => hbw b (fun e => hgw.2.2 (e ▸ hbm))
      have hT : Turn (g :: wb :: sb) (g :: wb :: sb) w ((wr.setCell ⟨g, 2, none⟩ (.slice A L c)).setCell ⟨g, 0, none⟩ (.int .i64 n)) :=
        (((Turn.but HB.out (by simp))).trans (Turn.but (But.put wr _) (by simp))).trans (Turn.but (But.put (wr.setCell ⟨g, 2, none⟩ (.slice A L c)) _) (by simp))
      have hct := ct_raw f n hn f.stamp ⟨n, f.stamp, L, (pad f.bs).take (64 * L), cutOld f.old L⟩ (by rw [HL.out])
      have HT := Lib.hid hT
      have hle : n ≤ 64 * L := by rw [← HL.out]; exact le_takes n
      clear hT hs hb hm hk hm' hb' keep hold2
      by_cases hz : n % 64 = 0
      · rw [if_pos hz] at hct
        have HC := Lib.hid hct
        have ez : (n : Int) % 64 = 0 := by omega
        clear hct hz
        go_wp2_with (go_at_call 95; (refine (blank_any g _ _ _ hr hle (by show L ≤ _; omega)).mono ?_); rintro e w2 ⟨rfl, hr2, hT2⟩)
        go_end0
        rw [HC.out] at hr2
        exact ⟨rfl, _, hr2, HT.out.trans hT2⟩
      · rw [if_neg hz] at hct
        have HC := Lib.hid hct
        have HLo := HL.out
        obtain ⟨l, hl⟩ : ∃ l : Nat, L = l + 1 := ⟨L - 1, by rw [← HLo]; unfold takes; have : 0 < n := by omega
                                                            omega⟩
        have hl1 : (L : Int) - 1 = l := by omega
        have ez : (((n : Int) % 64) != 0) = true := by rw [bne_iff_ne]; omega
        have hok2 : RawOk ⟨n, f.stamp, L, (pad f.bs).take (64 * L), cutOld f.old L⟩ := by
          refine ⟨by show L ≤ _; omega, fun j o hj => ?_⟩
          have hj' : (if L ≤ j then none else f.old j) = some o := hj
          by_cases hLj : L ≤ j
          · rw [if_pos hLj] at hj'; cases hj'
          · rw [if_neg hLj] at hj'
            exact ⟨by show j < L; omega, (HOK.out.2 j o hj').2⟩
        have hn3 : (Raw.wait ⟨n, f.stamp, L, (pad f.bs).take (64 * L), cutOld f.old L⟩ l).n = L := by show max L (l + 1) = L; omega
        have hlL : l ≤ L := by omega
        rw [HLo, show L - 1 = l by omega] at hct
        have HC := Lib.hid hct
        have HN3 := Lib.hid hn3
        clear hct hz HLo hl hn3
        go_wp2_with (first
          | (go_at_call 92; (refine (wait_any g _ _ l _ hr hok2 hlL).mono ?_); rintro e w1 ⟨rfl, bl1, hr1, hT1⟩; have hb1 := Lib.hid (show _ ≤ 64 * _ from HN3.out ▸ hle); have hb2 := Lib.hid (show (Raw.wait ⟨n, f.stamp, L, (pad f.bs).take (64 * L), cutOld f.old L⟩ l).n ≤ 65536 by rw [HN3.out]; omega))
          | (go_at_call 95; (refine (blank_any g _ _ _ hr1 hb1.out hb2.out).mono ?_); rintro e w2 ⟨rfl, hr2, hT2⟩))
        go_end0
        rw [HC.out] at hr2
        exact ⟨rfl, _, hr2, (HT.out.trans hT1).trans hT2⟩
end Go.Proofs.Ytelghdfikcodmaa.vfs
