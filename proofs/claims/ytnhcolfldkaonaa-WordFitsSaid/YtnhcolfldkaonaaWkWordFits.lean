/-
  The walk of the law WordFits. My own text.
-/
import Derived.Test.YtnhcolfldkaonaaPuts
import Derived.Test.YtnhcolfldkaonaaOpen
namespace Go.Proofs.Ytnhcolfldkaonaa.wordFits
open Go.RowKit Go.Proofs.Ytnhcolfldkaonaa.base Go.Proofs.Ytnhcolfldkaonaa.num Go.Proofs.Ytnhcolfldkaonaa.word
set_option linter.unusedVariables false

theorem wordFits_walk (a0 : Int) (a1 : Int) (w : World) (w0 : (Lit.int .i64 a0).wf = true) (w1 : (Lit.int .i64 a1).wf = true) :
    Calls Try.prog 6 #[.int .i64 a0, .int .i64 a1] w fun e w' => e = .returned (.bool true) ∧ Below w.heap.size w w' := by
  have hw := wide_bd a0
  have hb := back a1 (wide a0) (i64_bd w1) hw.2
  obtain ⟨R, hR⟩ : ∃ R : Int, ((u64 a1 % 256 ^ wide a0 : Nat) : Int) = R := ⟨_, rfl⟩
  rw [hR] at hb
  have hR2 : (num (((low (wide a0) (u64 a1)).drop (0 : Int).toNat).take (wide a0)) : Int) = R := by
    rw [← hR, ← num_low]
    congr 2
    exact List.take_of_length_le (by simp [low_length])
  have HR := Lib.hid hR2
  clear hR hR2
  cases hf : fits (wide a0) [a1]
  all_goals
    rw [hf] at hb
    have HF := Lib.hid hf
    clear hf
    go_enter Try.func6, Try.ntmps6
    go_wp2_with (first
      | (go_at_call 9; refine (wakes_any _).mono ?_; rintro e wA ⟨rfl, hfA⟩)
      | (go_at_call 10; refine (put_is none 0 0 [] a0 _ 1 1 [a1] _ 0 (wA.heap.size + 1) (wide a0) (low (wide a0) (u64 a1)) (Rd.nil _ _ _) (by simp) (Rd.lit wA #[.int .i64 a1] 3) (by simp) (by simpa using w1) (by omega) (by omega) (by omega) (by simp [puts])).mono ?_; rintro e wB ⟨A1, c1, rfl, hf1, ho1⟩)
      | (go_at_call 15; refine (get_is A1 (wide a0) c1 (low (wide a0) (u64 a1)) 0 a0 wB wB.heap.size R ho1.rd ho1.cap.1 ho1.cap.2 (by omega) (by simp) HR.out).mono ?_; rintro e wC ⟨rfl, rfl⟩)
      | (go_at_call 14; (with_reducible refine (fits_is (some ⟨wB.heap.size, 0, none⟩) 1 1 [a1] a0 _ (wB.heap.size + 1) _ (Rd.lit wB #[.int .i64 a1] 3) (by unfold maxLen; omega) (by simpa using w1) HF.out).mono ?_); rintro e wD ⟨rfl, rfl⟩)
      | (go_at_call 14; (with_reducible refine (fits_is none 0 0 [] a0 _ 0 true (Rd.nil _ _ _) (by unfold maxLen; omega) (by simp) rfl).mono ?_); rintro e wD ⟨rfl, rfl⟩))
    go_ret
    exact ⟨rfl, ((hfA.trans (Fresh.alloc _ _)).trans hf1).trans (Fresh.alloc _ _)⟩

end Go.Proofs.Ytnhcolfldkaonaa.wordFits
