import Derived.Test.YtcdehklcdipcfaaGreatMgPw
/-
  What a pager refuses. My own text.
-/
namespace Go.Proofs.YtcdehklcdipcfaaGreat.pgrp
open Go.RowKit Go.Maps Go.Proofs.YtcdehklcdipcfaaGreat.base Go.Proofs.YtcdehklcdipcfaaGreat.num Go.Proofs.YtcdehklcdipcfaaGreat.word Go.Proofs.YtcdehklcdipcfaaGreat.pagn Go.Proofs.YtcdehklcdipcfaaGreat.pgr Go.Proofs.YtcdehklcdipcfaaGreat.waln Go.Proofs.YtcdehklcdipcfaaGreat.walp Go.Proofs.YtcdehklcdipcfaaGreat.pagp
open Go.Proofs.YtcdehklcdipcfaaGreat.vfsnum hiding Bs
open Go.Proofs.YtcdehklcdipcfaaGreat.vfs (FsAt fsPtr Did tFS intKey key_int)
set_option linter.unusedVariables false
set_option linter.unusedSimpArgs false

section
variable (w : World) (p f : Nat) (m : Mm) (bl : List Nat) (h : MemAt w p f m bl) (hde : m.dead = false)
include h hde
theorem read_arg (no : Int) (hno : ¬ (0 ≤ no ∧ no < m.hd.many)) : Calls Tryz.prog 25 #[pgPtr p, .int .i64 no] w fun e w' => e = .returned (.tuple #[.slice none 0 0, .int .i64 1]) ∧ Fresh w w' := by
  have hst := state_any w p f m bl h hde
  have hha := fun W => has_no m.hd no hno W
  obtain ⟨cur, hb, hl, hh⟩ := mem_head h
  have HB := Lib.hid hb
  have HL := Lib.hid hl
  have HHH := Lib.hid hh
  have HHA := Lib.hid hha
  have HS := Lib.hid hst
  clear hst hha hb hl hh h hde hno
  unfold hdV at HHA
  go_enter Tryz.func25, Tryz.ntmps25
  go_wp2_with (first
    | (go_at_call 40; refine HS.out.mono ?_; rintro e w1 ⟨rfl, rfl⟩)
    | ((with_reducible (refine at_slot_ 17 ?_)); refine wpList_load_blk rfl tHd (.tmp 16) rfl p 3 10 tPgr cur rfl HB.out (by rw [HL.out]; omega) _ Tryz.underlying71 rfl size_hd ?_; rw [HHH.out])
    | (go_at_call 54; refine (HHA.out _).mono ?_; rintro e w1 ⟨rfl, hf1⟩; have HF1 := Lib.hid hf1; clear hf1))
  go_ret2
  exact ⟨rfl, HF1.out⟩
theorem write_zero (A : Option Addr) (n c : Nat) : Calls Tryz.prog 22 #[pgPtr p, .int .i64 0, .slice A n c] w fun e w' => e = .returned (.int .i64 1) ∧ w = w' := by
  have HS := Lib.hid (state_any w p f m bl h hde)
  clear h hde
  go_enter Tryz.func22, Tryz.ntmps22
  go_wp2_with (go_at_call 40; refine HS.out.mono ?_; rintro e w1 ⟨rfl, rfl⟩)
  go_ret
  exact ⟨rfl, rfl⟩
theorem free_zero : Calls Tryz.prog 26 #[pgPtr p, .int .i64 0] w fun e w' => e = .returned (.int .i64 1) ∧ w = w' := by
  have HS := Lib.hid (state_any w p f m bl h hde)
  clear h hde
  go_enter Tryz.func26, Tryz.ntmps26
  go_wp2_with (go_at_call 40; refine HS.out.mono ?_; rintro e w1 ⟨rfl, rfl⟩)
  go_ret
  exact ⟨rfl, rfl⟩
theorem write_arg (no : Int) (hno : ¬ (0 ≤ no ∧ no < m.hd.many)) (hz : (no == 0) = false) (A : Option Addr) (n c : Nat) : Calls Tryz.prog 22 #[pgPtr p, .int .i64 no, .slice A n c] w fun e w' => e = .returned (.int .i64 1) ∧ Fresh w w' := by
  have hst := state_any w p f m bl h hde
  have hha := fun W => has_no m.hd no hno W
  obtain ⟨cur, hb, hl, hh⟩ := mem_head h
  have HB := Lib.hid hb
  have HL := Lib.hid hl
  have HHH := Lib.hid hh
  have HHA := Lib.hid hha
  have HS := Lib.hid hst
  clear hst hha hb hl hh h hde hno
  unfold hdV at HHA
  go_enter Tryz.func22, Tryz.ntmps22
  go_wp2_with (first
    | (go_at_call 40; refine HS.out.mono ?_; rintro e w1 ⟨rfl, rfl⟩)
    | ((with_reducible (refine at_slot_ 19 ?_)); refine wpList_load_blk_if (by rfl) tHd (.tmp 18) rfl p 3 10 tPgr cur rfl HB.out (by rw [HL.out]; omega) _ Tryz.underlying71 rfl size_hd ?_; rw [HHH.out])
    | (go_at_call 54; refine (HHA.out _).mono ?_; rintro e w1 ⟨rfl, hf1⟩; have HF1 := Lib.hid hf1; clear hf1))
  go_ret
  exact ⟨rfl, HF1.out⟩
theorem free_arg (no : Int) (hno : ¬ (0 ≤ no ∧ no < m.hd.many)) (hz : (no == 0) = false) : Calls Tryz.prog 26 #[pgPtr p, .int .i64 no] w fun e w' => e = .returned (.int .i64 1) ∧ Fresh w w' := by
  have hst := state_any w p f m bl h hde
  have hha := fun W => has_no m.hd no hno W
  obtain ⟨cur, hb, hl, hh⟩ := mem_head h
  have HB := Lib.hid hb
  have HL := Lib.hid hl
  have HHH := Lib.hid hh
  have HHA := Lib.hid hha
  have HS := Lib.hid hst
  clear hst hha hb hl hh h hde hno
  unfold hdV at HHA
  go_enter Tryz.func26, Tryz.ntmps26
  go_wp2_with (first
    | (go_at_call 40; refine HS.out.mono ?_; rintro e w1 ⟨rfl, rfl⟩)
    | ((with_reducible (refine at_slot_ 18 ?_)); refine wpList_load_blk_if (by rfl) tHd (.tmp 17) rfl p 3 10 tPgr cur rfl HB.out (by rw [HL.out]; omega) _ Tryz.underlying71 rfl size_hd ?_; rw [HHH.out])
    | (go_at_call 54; refine (HHA.out _).mono ?_; rintro e w1 ⟨rfl, hf1⟩; have HF1 := Lib.hid hf1; clear hf1))
  go_ret
  exact ⟨rfl, HF1.out⟩
theorem setRoot_k (k no : Int) (hk : ¬ (0 ≤ k ∧ k < 8)) : Calls Tryz.prog 27 #[pgPtr p, .int .i64 k, .int .i64 no] w fun e w' => e = .returned (.int .i64 1) ∧ Fresh w w' := by
  have hst := state_any w p f m bl h hde
  have hha := fun W => hasRoot_any m.hd k W
  rw [decide_eq_false hk] at hha
  obtain ⟨cur, hb, hl, hh⟩ := mem_head h
  have HB := Lib.hid hb
  have HL := Lib.hid hl
  have HHH := Lib.hid hh
  have HHA := Lib.hid hha
  have HS := Lib.hid hst
  clear hst hha hb hl hh h hde hk
  unfold hdV at HHA
  go_enter Tryz.func27, Tryz.ntmps27
  go_wp2_with (first
    | (go_at_call 40; refine HS.out.mono ?_; rintro e w1 ⟨rfl, rfl⟩)
    | ((with_reducible (refine at_slot_ 17 ?_)); refine wpList_load_blk rfl tHd (.tmp 16) rfl p 3 10 tPgr cur rfl HB.out (by rw [HL.out]; omega) _ Tryz.underlying71 rfl size_hd ?_; rw [HHH.out])
    | (go_at_call 58; refine (HHA.out _).mono ?_; rintro e w1 ⟨rfl, hf1⟩; have HF1 := Lib.hid hf1; clear hf1))
  go_ret
  exact ⟨rfl, HF1.out⟩
theorem setRoot_no (k no : Int) (hk : 0 ≤ k ∧ k < 8) (hno : ¬ (0 ≤ no ∧ no < m.hd.many)) : Calls Tryz.prog 27 #[pgPtr p, .int .i64 k, .int .i64 no] w fun e w' => e = .returned (.int .i64 1) ∧ Fresh w w' := by
  have hst := state_any w p f m bl h hde
  have hha := fun W => hasRoot_any m.hd k W
  rw [decide_eq_true hk] at hha
  have hhn := fun W => has_no m.hd no hno W
  obtain ⟨cur, hb, hl, hh⟩ := mem_head h
  have HB := Lib.hid hb
  have HL := Lib.hid hl
  have HHH := Lib.hid hh
  have HHA := Lib.hid hha
  have HHN := Lib.hid hhn
  have HS := Lib.hid hst
  clear hst hha hb hl hh h hde hk hno hhn
  unfold hdV at HHA HHN
  go_enter Tryz.func27, Tryz.ntmps27
  go_wp2_with (first
    | (go_at_call 40; refine HS.out.mono ?_; rintro e w1 ⟨rfl, rfl⟩)
    | ((with_reducible (refine at_slot_ 17 ?_)); refine wpList_load_blk rfl tHd (.tmp 16) rfl p 3 10 tPgr cur rfl HB.out (by rw [HL.out]; omega) _ Tryz.underlying71 rfl size_hd ?_; rw [HHH.out])
    | ((with_reducible (refine at_slot_ 25 ?_)); refine wpList_load_blk_if (by rfl) tHd (.tmp 24) rfl p 3 10 tPgr cur rfl (HB.out.fresh HF1.out) (by rw [HL.out]; omega) _ Tryz.underlying71 rfl size_hd ?_; rw [HHH.out])
    | (go_at_call 58; refine (HHA.out _).mono ?_; rintro e w1 ⟨rfl, hf1⟩; have HF1 := Lib.hid hf1; clear hf1)
    | (go_at_call 54; refine (HHN.out _).mono ?_; rintro e w2 ⟨rfl, hf2⟩; have HF2 := Lib.hid (HF1.out.trans hf2); clear hf2))
  go_ret
  exact ⟨rfl, HF2.out⟩
theorem root_no (k : Int) (hk : ¬ (0 ≤ k ∧ k < 8)) : Calls Tryz.prog 28 #[pgPtr p, .int .i64 k] w fun e w' => e = .returned (.int .i64 0) ∧ Fresh w w' := by
  have hst := state_any w p f m bl h hde
  have hha := fun W => hasRoot_any m.hd k W
  rw [decide_eq_false hk] at hha
  obtain ⟨cur, hb, hl, hh⟩ := mem_head h
  have HB := Lib.hid hb
  have HL := Lib.hid hl
  have HHH := Lib.hid hh
  have HHA := Lib.hid hha
  have HS := Lib.hid hst
  clear hst hha hb hl hh h hde hk
  unfold hdV at HHA
  go_enter Tryz.func28, Tryz.ntmps28
  go_wp2_with (first
    | (go_at_call 40; refine HS.out.mono ?_; rintro e w1 ⟨rfl, rfl⟩)
    | ((with_reducible (refine at_slot_ 12 ?_)); refine wpList_load_blk_if (by rfl) tHd (.tmp 11) rfl p 3 10 tPgr cur rfl HB.out (by rw [HL.out]; omega) _ Tryz.underlying71 rfl size_hd ?_; rw [HHH.out])
    | (go_at_call 58; refine (HHA.out _).mono ?_; rintro e w1 ⟨rfl, hf1⟩; have HF1 := Lib.hid hf1; clear hf1))
  go_ret
  exact ⟨rfl, HF1.out⟩
theorem many_is : Calls Tryz.prog 23 #[pgPtr p] w fun e w' => e = .returned (.int .i64 (m.hd.many : Nat)) ∧ w = w' := by
  have HS := Lib.hid (state_any w p f m bl h hde)
  have hcf : w.cell? ⟨p, 3, none⟩ = some (.int .i64 (m.hd.many : Nat)) := by
    obtain ⟨mb, kb, A, n, c, ob, rfl, hnd, hb, hm, hk, ho, hmok⟩ := h
    exact hb.cell ((pg_hd hmok 0 (by omega)).trans (show (m.hd.nums.map iv)[0]? = some (.int .i64 (m.hd.many : Nat)) from rfl))
  clear h hde
  go_enter Tryz.func23, Tryz.ntmps23
  go_wp2_with (go_at_call 40; refine HS.out.mono ?_; rintro e w1 ⟨rfl, rfl⟩)
  go_ret
  exact ⟨rfl, rfl⟩
end
end Go.Proofs.YtcdehklcdipcfaaGreat.pgrp
