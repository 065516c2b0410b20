/-
  The walk of the law VfsSyncs. My own text.
-/
import Derived.Test.YtnmffiejfmdnkaaVfsWaits
namespace Go.Proofs.Ytnmffiejfmdnkaa.vfsSyncs
open Go.RowKit Go.Maps Go.Proofs.Ytnmffiejfmdnkaa.base Go.Proofs.Ytnmffiejfmdnkaa.vfsnum Go.Proofs.Ytnmffiejfmdnkaa.vfs
set_option linter.unusedVariables false

theorem Bk.rd {w : World} {q : Nat} {t : TypeId} {xs : List Value} (h : Bk w q t xs) : Rd w (q + 1) (some ⟨q, 0, none⟩) xs.length xs :=
  ⟨rfl, fun _ => ⟨q, 0, rfl, by omega, fun j u hu => by rw [Nat.zero_add]; exact h.cell hu⟩⟩
theorem cr_none (f : Fl) (keep i : Nat) (h : f.old = noOld) : (cr f keep i).bs = f.bs := by
  refine ext_gd (by simp [cr]) fun j hj => ?_
  show ((List.range f.bs.length).map (lost f keep i)).getD j 0 = _
  have hj' : j < f.bs.length := by simpa [cr] using hj
  rw [gd_range, if_pos hj']
  unfold lost
  rw [h]
  rfl
theorem cnt_noOld (n : Nat) : cnt (fun _ => none) n = 0 := by simp [cnt]
theorem waits_crash (keep : Nat) : ∀ (l : List (ByteArray × Fl)) (i : Nat), ((crF keep l i).map fun p => cnt p.2.old (tk p.2)).sum = 0
  | [], _ => rfl
  | p :: r, i => by
    rw [crF, List.map_cons, List.sum_cons, waits_crash keep r]
    exact cnt_noOld _
theorem ins_ab (y z : Fl) : insF [(nm 97, y)] (nm 98) z = [(nm 97, y), (nm 98, z)] := by
  have h : nlt (nm 97) (nm 98) = true := by kernel_rfl
  simp [insF, h]

set_option maxRecDepth 100000 in
set_option maxHeartbeats 2000000 in
theorem vfsSyncs_walk (A0 : Option Addr) (n0 c0 : Nat) (x0 : List UInt8) (A1 : Option Addr) (n1 c1 : Nat) (x1 : List UInt8) (a2 : Int) (w : World) (b0 : InBytes w A0 n0 c0 x0) (b1 : InBytes w A1 n1 c1 x1) (w2 : (Lit.int .u64 a2).wf = true) :
    Calls Try.prog 8 #[.slice A0 n0 c0, .slice A1 n1 c1, .int .u64 a2] w fun e w' => e = .returned (.bool true) ∧ Below w.heap.size w w' := by
  have h2 : 0 ≤ a2 ∧ a2 ≤ 18446744073709551615 := by simpa [Lit.wf, IntKind.min, IntKind.max, IntKind.signed, IntKind.bits] using w2
  obtain ⟨keep, rfl⟩ := Int.eq_ofNat_of_zero_le h2.1
  have hkeep : keep < 18446744073709551616 := by omega
  obtain ⟨r0, hc0, hm0⟩ := b0
  obtain ⟨r1, hcc1, hm1⟩ := b1
  clear w2 h2
  by_cases hl : 1000 < n0
  · go_enter Try.func8, Try.ntmps8
    go_wp2_with (go_at_call 9; refine (wakes_any _).mono ?_; rintro e wA ⟨rfl, hfA⟩)
    all_goals go_ret
    all_goals exact ⟨rfl, hfA⟩
  · by_cases hl1 : 1000 < n1
    · go_enter Try.func8, Try.ntmps8
      go_wp2_with (go_at_call 9; refine (wakes_any _).mono ?_; rintro e wA ⟨rfl, hfA⟩)
      all_goals go_ret
      all_goals exact ⟨rfl, hfA⟩
    · have hlx : x0.length = n0 := by have := r0.1; rwa [List.length_map] at this
      have hlx1 : x1.length = n1 := by have := r1.1; rwa [List.length_map] at this
      have OK0 : Hid (FsOk (up [] 100 0)) := new_ok 100 (by omega)
      have OK1 : Hid (FsOk (up [(nm 97, ⟨[], 1, noOld⟩)] 100 1)) := up_create_ok (n := nm 97) (new_ok 100 (by omega)) (by kernel_rfl) rfl rfl
      have HLX := Lib.hid hlx
      have HLX1 := Lib.hid hlx1
      clear hlx hlx1
      go_enter Try.func8, Try.ntmps8
      go_wp2_with (first
        | (go_at_call 9; refine (wakes_any _).mono ?_; rintro e wA ⟨rfl, hfA⟩)
        | (go_at_call 11; refine (new_up _ 100 100 (by decide) (by decide) (by decide)).mono ?_; rintro e w1 ⟨f, bl, rfl, hF, hf1, hnew⟩; have hS : Since w w1 bl := ⟨hfA.trans hf1, fun i hi => Nat.le_trans hfA.size (hnew i hi)⟩; have hc1 := create_up w1 f _ [(nm 97, ⟨[], 1, noOld⟩)] _ _ (nm 97) bl hF OK0.out (by omega) (by kernel_rfl) rfl rfl)
        | (go_at_call 16; (with_reducible refine hc1.mono ?_); rintro e w2 ⟨rfl, bl2, hF2, hT2⟩; have hS2 := hS.turn hT2; clear hc1;
            have hc2 := put_any w2 f _ _ _ (nm 97) bl2 ⟨[], 1, noOld⟩ A0 n0 c0 x0 hF2 OK1.out (by omega) (nm_le _) rfl rfl (RdA.of_rd (r0.below hS2.1 (Nat.le_refl _)) hS2.1.size hS2.2) (by rw [HLX.out]; unfold takes; omega) hc0 hm0)
        | (go_at_call 17; (with_reducible refine hc2.mono ?_); rintro e w3 ⟨rfl, y, r3, s3, bl3, hF3, hT3, ok3, hy, hr3, hs3⟩; clear hc2; have hS3 := hS2.turn hT3; have OK3 := Lib.hid ok3; have HY := Lib.hid hy; have HR3 := Lib.hid hr3; have HS3 := Lib.hid hs3; clear ok3 hy hr3 hs3;
            have hc3 := sync_up w3 f _ [(nm 97, { y with old := noOld })] _ _ (nm 97) bl3 y hF3 OK3.out (nm_le _) rfl rfl)
        | (go_at_call 26; (with_reducible refine hc3.mono ?_); rintro e w4 ⟨rfl, bl4, hF4, hT4⟩; clear hc3; have hS4 := hS3.turn hT4; have OK4 : Hid (FsOk (up [(nm 97, { y with old := noOld })] r3 s3)) := up_sync_ok (n := nm 97) (x := y) OK3.out rfl rfl;
            have hc4 := create_up w4 f _ [(nm 97, { y with old := noOld }), (nm 98, ⟨[], s3 + 1, noOld⟩)] _ _ (nm 98) bl4 hF4 OK4.out (by have := HS3.out; omega) (by kernel_rfl) rfl (ins_ab _ _))
        | (go_at_call 16; (with_reducible refine hc4.mono ?_); rintro e w5 ⟨rfl, bl5, hF5, hT5⟩; clear hc4; have hS5 := hS4.turn hT5; have OK5 : Hid (FsOk (up [(nm 97, { y with old := noOld }), (nm 98, ⟨[], s3 + 1, noOld⟩)] r3 (s3 + 1))) := up_create_ok (n := nm 98) OK4.out (by kernel_rfl) rfl (ins_ab _ _);
            have hc5 := put_any w5 f _ _ _ (nm 98) bl5 ⟨[], s3 + 1, noOld⟩ A1 n1 c1 x1 hF5 OK5.out (by have := HS3.out; omega) (nm_le _) rfl rfl (RdA.of_rd (r1.below hS5.1 (Nat.le_refl _)) hS5.1.size hS5.2) (by have := HR3.out; rw [HLX.out] at this; rw [HLX1.out]; unfold takes at *; omega) hcc1 hm1)
        | (go_at_call 17; (with_reducible refine hc5.mono ?_); rintro e w6 ⟨rfl, z, r6, s6, bl6, hF6, hT6, ok6, hz, hr6, hs6⟩; clear hc5; have hS6 := hS5.turn hT6; have OK6 := Lib.hid ok6; have HZ := Lib.hid hz; clear ok6 hz hr6 hs6;
            have hc6 := crash_up w6 f [(nm 97, { y with old := noOld }), (nm 98, z)] [(nm 97, cr { y with old := noOld } keep 0), (nm 98, cr z keep (0 + cnt noOld (tk { y with old := noOld })))] _ _ keep bl6 hF6 OK6.out (by simp) hkeep rfl)
        | (go_at_call 21; (with_reducible refine hc6.mono ?_); rintro e w7 ⟨rfl, bl7, hF7, hT7⟩; clear hc6; have hS7 := hS6.turn hT7; have OK7 : Hid (FsOk (up [(nm 97, cr { y with old := noOld } keep 0), (nm 98, cr z keep (0 + cnt noOld (tk { y with old := noOld })))] r6 s6)) := up_crash_ok (keep := keep) OK6.out rfl;
            have hc7 := read_up w7 f _ r6 s6 (nm 97) bl7 (cr { y with old := noOld } keep 0) 0 n0 x0 hF7 OK7.out (nm_le _) rfl (by rw [cr_none _ _ _ rfl]; show 0 + n0 ≤ y.bs.length; rw [HY.out, HLX.out]; omega) (by rw [cr_none _ _ _ rfl]; show (y.bs.drop 0).take n0 = x0; rw [HY.out, List.drop_zero, List.take_of_length_le (by rw [HLX.out]; exact Nat.le_refl _)]))
        | (go_at_call 18; refine hc7.mono ?_; rintro e w8 ⟨q, rfl, hq, hbq, hf8⟩; clear hc7; have hF8 := hF7.fresh hf8; have hS8 := hS7.fresh hf8; have hrq := Bk.rd hbq; rw [List.length_map, HLX.out] at hrq;
            have hc8 := len_some w8 f _ bl7 (nm 98) (cr z keep (0 + cnt noOld (tk { y with old := noOld }))) hF8 (nm_le _) rfl rfl; rw [show (cr z keep (0 + cnt noOld (tk { y with old := noOld }))).bs.length = n1 by rw [← HLX1.out, ← HZ.out]; simp [cr]] at hc8;
            have hc9 := same_yes (some ⟨q, 0, none⟩) A0 n0 n0 c0 x0 w8 (q + 1) w.heap.size hrq (r0.below hS8.1 (Nat.le_refl _)) (by unfold maxLen; omega))
        | (go_at_call 22; (with_reducible refine hc8.mono ?_); rintro e w' ⟨rfl, rfl⟩; clear hc8)
        | (go_at_call 19; (with_reducible refine hc9.mono ?_); rintro e w9 ⟨rfl, hf9⟩; clear hc9; have hF9 := hF8.fresh hf9;
            have hc10 := waits_any w9 f _ bl7 hF9 OK7.out rfl; rw [show (up [(nm 97, cr { y with old := noOld } keep 0), (nm 98, cr z keep (0 + cnt noOld (tk { y with old := noOld })))] r6 s6).waits = 0 from waits_crash keep [(nm 97, { y with old := noOld }), (nm 98, z)] 0] at hc10)
        | (go_at_call 30; (with_reducible refine hc10.mono ?_); rintro e w10 ⟨rfl, hf10⟩; clear hc10))
      go_ret
      exact ⟨rfl, ((hS8.fresh hf9).fresh hf10).1⟩
end Go.Proofs.Ytnmffiejfmdnkaa.vfsSyncs
