import Derived.Test.YtcdehklcdipcfaaGreatPgrArg
import Derived.Test.YtcdehklcdipcfaaGreatMgPw
import Derived.Test.YtcdehklcdipcfaaGreatOpen
/-
  The walk of the law PagerRefuses. My own text.
-/
namespace Go.Proofs.YtcdehklcdipcfaaGreat.pagerRefuses
open Go.RowKit Go.Proofs.YtcdehklcdipcfaaGreat.base Go.Proofs.YtcdehklcdipcfaaGreat.pgrp
set_option linter.unusedVariables false

/-- a new pager of 1000 sectors, with a page more -/
theorem fresh_new (w w1 : World) (f : Nat) (b1 : List Nat) (hF : vfs.FsAt w1 f (vfs.up [] 1000 0) b1) (hf : Fresh w w1) (hb : ∀ b ∈ b1, w.heap.size ≤ b) : ∃ a', Calls Tryz.prog 11 #[vfs.fsPtr f, .string ⟨#[120]⟩] w1 fun e w' => ∃ p, e = .returned (.tuple #[pgPtr p, .int .i64 0]) ∧ Both w w' p f a' mmN := by
  obtain ⟨a', C', _, _, _, h⟩ := bo_new w w1 f (vfs.up [] 1000 0) b1 hF ⟨hf, hb⟩ (vfs.new_ok 1000 (by omega)) rfl rfl rfl rfl (by show 17 ≤ 1000; omega) (by show 0 < _; omega)
  exact ⟨a', h⟩
/-- what is refused -/
structure Refs (w0 : World) (p : Nat) (N : Int) : Prop where
  rd : ∀ W, Fresh w0 W → Calls Tryz.prog 25 #[pgPtr p, .int .i64 N] W fun e w' => e = .returned (.tuple #[.slice none 0 0, .int .i64 1]) ∧ Fresh W w'
  wr : ∀ W, Fresh w0 W → Calls Tryz.prog 22 #[pgPtr p, .int .i64 N, .slice none 0 0] W fun e w' => e = .returned (.int .i64 1) ∧ Fresh W w'
  wz : ∀ W, Fresh w0 W → Calls Tryz.prog 22 #[pgPtr p, .int .i64 0, .slice none 0 0] W fun e w' => e = .returned (.int .i64 1) ∧ W = w'
  fr : ∀ W, Fresh w0 W → Calls Tryz.prog 26 #[pgPtr p, .int .i64 N] W fun e w' => e = .returned (.int .i64 1) ∧ Fresh W w'
  fz : ∀ W, Fresh w0 W → Calls Tryz.prog 26 #[pgPtr p, .int .i64 0] W fun e w' => e = .returned (.int .i64 1) ∧ W = w'
  sr : ∀ W, Fresh w0 W → Calls Tryz.prog 27 #[pgPtr p, .int .i64 0, .int .i64 N] W fun e w' => e = .returned (.int .i64 1) ∧ Fresh W w'
  sk : ∀ k, ¬ (0 ≤ k ∧ k < 8) → ∀ W, Fresh w0 W → Calls Tryz.prog 27 #[pgPtr p, .int .i64 k, .int .i64 1] W fun e w' => e = .returned (.int .i64 1) ∧ Fresh W w'
  rk : ∀ k, ¬ (0 ≤ k ∧ k < 8) → ∀ W, Fresh w0 W → Calls Tryz.prog 28 #[pgPtr p, .int .i64 k] W fun e w' => e = .returned (.int .i64 0) ∧ Fresh W w'
  my : ∀ W, Fresh w0 W → Calls Tryz.prog 23 #[pgPtr p] W fun e w' => e = .returned (.int .i64 2) ∧ W = w'
theorem refs_of {w w0 : World} {p f : Nat} {a : vfsnum.Fs} (h : Both w w0 p f a mmA) {N : Int} (hN : ¬ (0 ≤ N ∧ N < 2)) : Refs w0 p N := by
  obtain ⟨b, bl, _, hM, _, _⟩ := h
  have hz : (N == 0) = false := by simp; omega
  exact ⟨fun W q => read_arg W p f mmA bl (hM.fresh q) rfl N hN, fun W q => write_arg W p f mmA bl (hM.fresh q) rfl N hN hz _ _ _, fun W q => write_zero W p f mmA bl (hM.fresh q) rfl _ _ _,
    fun W q => free_arg W p f mmA bl (hM.fresh q) rfl N hN hz, fun W q => free_zero W p f mmA bl (hM.fresh q) rfl, fun W q => setRoot_no W p f mmA bl (hM.fresh q) rfl 0 N (by omega) hN,
    fun k hk W q => setRoot_k W p f mmA bl (hM.fresh q) rfl k 1 hk, fun k hk W q => root_no W p f mmA bl (hM.fresh q) rfl k hk, fun W q => many_is W p f mmA bl (hM.fresh q) rfl⟩
set_option maxRecDepth 100000 in
set_option maxHeartbeats 8000000 in
theorem pagerRefuses_walk (a0 : Int) (a1 : Int) (w : World) (w0 : (Lit.int .i64 a0).wf = true) (w1 : (Lit.int .i64 a1).wf = true) :
    Calls Tryz.prog 5 #[.int .i64 a0, .int .i64 a1] w fun e w' => e = .returned (.bool true) ∧ Below w.heap.size w w' := by
  clear w0 w1
  have hal : ∀ w0 w2 p f a1, Both w0 w2 p f a1 mmN → Calls Tryz.prog 21 #[pgPtr p] w2 fun e w' => e = .returned (.tuple #[.int .i64 1, .int .i64 0]) ∧ Both w0 w' p f a1 mmA := fun w0 w2 p f a1 h => bo_alloc w0 w2 p f a1 mmN h rfl rfl (by decide) hd2 rfl
  have hrf := fun w w0 p f a (h : Both w w0 p f a mmA) N (hN : ¬ (0 ≤ N ∧ N < 2)) => refs_of h hN
  have HAL := Lib.hid hal
  have HRF := Lib.hid hrf
  clear hal hrf
  obtain ⟨N, hN, hcase⟩ : ∃ N : Int, ¬ (0 ≤ N ∧ N < 2) ∧ ((a0 = 0 ∧ N = 2) ∨ (a0 = 1 ∧ N = 3) ∨ (a0 < 0 ∧ N = a0) ∨ (2 ≤ a0 ∧ N = a0)) := by
    by_cases h1 : a0 < 0
    · exact ⟨a0, by omega, .inr (.inr (.inl ⟨h1, rfl⟩))⟩
    · by_cases h2 : 2 ≤ a0
      · exact ⟨a0, by omega, .inr (.inr (.inr ⟨h2, rfl⟩))⟩
      · by_cases h3 : a0 = 0
        · exact ⟨2, by omega, .inl ⟨h3, rfl⟩⟩
        · exact ⟨3, by omega, .inr (.inl ⟨by omega, rfl⟩)⟩
  have HN := Lib.hid hN
  have hkc : (0 ≤ a1 ∧ a1 < 8) ∨ a1 < 0 ∨ 8 ≤ a1 := by omega
  clear hN
  rcases hcase with ⟨rfl, rfl⟩ | ⟨rfl, rfl⟩ | ⟨hc, rfl⟩ | ⟨hc, rfl⟩
  all_goals rcases hkc with ⟨hk1, hk2⟩ | hk1 | hk1
  all_goals
    go_enter Tryz.func5, Tryz.ntmps5
    go_upto_region 10 with (first
      | (go_at_call 9; refine (wakes_any _).mono ?_; rintro e wA ⟨rfl, hfA⟩; have HFA := Lib.hid hfA; clear hfA)
      | (go_at_call 10; refine (vfs.new_up _ 1000 1000 rfl (by omega) (by omega)).mono ?_; rintro e wB ⟨f, b1, rfl, hF, hf, hb⟩; obtain ⟨a', hO⟩ := fresh_new _ _ f b1 hF hf hb; have HO := Lib.hid hO; clear hO hF hf hb)
      | (go_at_call 11; refine HO.out.mono ?_; rintro e wD ⟨p, rfl, hB⟩; have HB := Lib.hid hB; clear hB)
      | (go_at_call 21; refine (HAL.out _ _ _ _ _ HB.out).mono ?_; rintro e wC ⟨rfl, hB2⟩; have HR := Lib.hid (HRF.out _ _ _ _ _ hB2 _ HN.out); have HFC := Lib.hid (HFA.out.trans hB2.since); have HQ := Lib.hid (Fresh.refl wC); clear hB2)
      | (go_at_call 25; refine (HR.out.rd _ HQ.out).mono ?_; rintro e w2 ⟨rfl, hf2⟩; have HQ2 := Lib.hid (HQ.out.trans hf2); clear hf2))
    go_wp2_with (first
      | (go_at_call 22; with_reducible refine (HR.out.wr _ HQ2.out).mono ?_; rintro e w3 ⟨rfl, hf3⟩; have HQ3 := Lib.hid (HQ2.out.trans hf3); clear hf3)
      | (go_at_call 22; with_reducible refine (HR.out.wz _ HQ3.out).mono ?_; rintro e w4 ⟨rfl, rfl⟩)
      | (go_at_call 26; with_reducible refine (HR.out.fr _ HQ3.out).mono ?_; rintro e w5 ⟨rfl, hf5⟩; have HQ5 := Lib.hid (HQ3.out.trans hf5); clear hf5)
      | (go_at_call 26; with_reducible refine (HR.out.fz _ HQ5.out).mono ?_; rintro e w6 ⟨rfl, rfl⟩)
      | (go_at_call 27; with_reducible refine (HR.out.sr _ HQ5.out).mono ?_; rintro e w7 ⟨rfl, hf7⟩; have HQ7 := Lib.hid (HQ5.out.trans hf7); clear hf7)
      | (go_at_call 27; with_reducible refine (HR.out.sk _ (by omega) _ HQ7.out).mono ?_; rintro e w8 ⟨rfl, hf8⟩; have HQ8 := Lib.hid (HQ7.out.trans hf8); clear hf8)
      | (go_at_call 28; with_reducible refine (HR.out.rk _ (by omega) _ HQ8.out).mono ?_; rintro e w9 ⟨rfl, hf9⟩; have HQ9 := Lib.hid (HQ8.out.trans hf9); clear hf9)
      | (go_at_call 23; first | (with_reducible refine (HR.out.my _ HQ9.out).mono ?_; rintro e w10 ⟨rfl, rfl⟩; have HQX := HQ9) | (with_reducible refine (HR.out.my _ HQ7.out).mono ?_; rintro e w10 ⟨rfl, rfl⟩; have HQX := HQ7)))
    go_ret
    exact ⟨rfl, HFC.out.trans HQX.out⟩
end Go.Proofs.YtcdehklcdipcfaaGreat.pagerRefuses
