/-
  What the laws of layer 8 share: wakes; the order of numbers. My own text.
-/
import Derived.Test.YtgmpdkkpmgedjaaDosText
namespace Go.Proofs.Ytgmpdkkpmgedjaa.dosnum
set_option linter.unusedVariables false
/-- of two moments: the first number that differs parts them -/
theorem no_first {A B : Mo} (a : Right A) (b : Right B) (i : Nat) (hi : i < 6) (heq : ∀ j, j < i → numj A j = numj B j) (hne : numj A i ≠ numj B i ∨ i = 5) :
    decide (no A < no B) = if i = 5 then decide (A.s / 2 < B.s / 2) else decide (numj A i < numj B i) := by
  obtain ⟨y1, y2, mo1, mo2, d1, d2, h1, h2, mi1, mi2, s1, s2⟩ := a
  obtain ⟨y1', y2', mo1', mo2', d1', d2', h1', h2', mi1', mi2', s1', s2'⟩ := b
  have hd := days_bd A.y A.mo
  have hd' := days_bd B.y B.mo
  obtain ⟨y, mo, d, h, mi, s⟩ := A
  obtain ⟨y', mo', d', h', mi', s'⟩ := B
  simp only at *
  generalize days y mo = D at *
  generalize days y' mo' = D' at *
  have hc : i = 0 ∨ i = 1 ∨ i = 2 ∨ i = 3 ∨ i = 4 ∨ i = 5 := by omega
  rcases hc with rfl | rfl | rfl | rfl | rfl | rfl
  · simp only [numj] at hne
    rw [if_neg (by omega)]
    refine decide_eq_decide.2 ?_
    simp only [numj, no]
    omega
  · have e0 := heq 0 (by omega)
    simp only [numj] at hne e0
    rw [if_neg (by omega)]
    refine decide_eq_decide.2 ?_
    simp only [numj, no]
    omega
  · have e0 := heq 0 (by omega)
    have e1 := heq 1 (by omega)
    simp only [numj] at hne e0 e1
    rw [if_neg (by omega)]
    refine decide_eq_decide.2 ?_
    simp only [numj, no]
    omega
  · have e0 := heq 0 (by omega)
    have e1 := heq 1 (by omega)
    have e2 := heq 2 (by omega)
    simp only [numj] at hne e0 e1 e2
    rw [if_neg (by omega)]
    refine decide_eq_decide.2 ?_
    simp only [numj, no]
    omega
  · have e0 := heq 0 (by omega)
    have e1 := heq 1 (by omega)
    have e2 := heq 2 (by omega)
    have e3 := heq 3 (by omega)
    simp only [numj] at hne e0 e1 e2 e3
    rw [if_neg (by omega)]
    refine decide_eq_decide.2 ?_
    simp only [numj, no]
    omega
  · have e0 := heq 0 (by omega)
    have e1 := heq 1 (by omega)
    have e2 := heq 2 (by omega)
    have e3 := heq 3 (by omega)
    have e4 := heq 4 (by omega)
    simp only [numj] at e0 e1 e2 e3 e4
    rw [if_pos rfl]
    refine decide_eq_decide.2 ?_
    simp only [no]
    omega
end Go.Proofs.Ytgmpdkkpmgedjaa.dosnum
namespace Go.Proofs.Ytgmpdkkpmgedjaa.dosp
open Go.RowKit Go.Proofs.Ytgmpdkkpmgedjaa.base Go.Proofs.Ytgmpdkkpmgedjaa.num Go.Proofs.Ytgmpdkkpmgedjaa.bitnum Go.Proofs.Ytgmpdkkpmgedjaa.dosnum
set_option linter.unusedVariables false
theorem wakes_any (w : World) : Calls Try.prog 8 #[] w fun e w' => e = .returned (.bool true) ∧ Fresh w w' := by
  have hp : parseP [50, 48, 50, 52, 45, 48, 50, 45, 50, 57] = some 1482489856 := by decide +kernel
  have hc := parse_any ⟨#[50, 48, 50, 52, 45, 48, 50, 45, 50, 57]⟩ [50, 48, 50, 52, 45, 48, 50, 45, 50, 57] rfl (by unfold maxLen; decide)
  rw [hp] at hc
  have HC := Lib.hid hc
  clear hp hc
  go_enter Try.func8, Try.ntmps8
  go_wp2_with (go_at_call 16; (refine (HC.out _).mono ?_); rintro e w1 ⟨rfl, hf1⟩)
  go_ret
  exact ⟨rfl, hf1⟩
end Go.Proofs.Ytgmpdkkpmgedjaa.dosp
