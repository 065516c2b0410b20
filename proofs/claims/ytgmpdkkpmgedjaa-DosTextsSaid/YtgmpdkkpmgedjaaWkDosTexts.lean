/-
  The walk of the law DosTexts. My own text.
-/
import Derived.Test.YtgmpdkkpmgedjaaDosLex
import Derived.Test.YtgmpdkkpmgedjaaOpen
namespace Go.Proofs.Ytgmpdkkpmgedjaa.dosTexts
open Go.RowKit Go.Proofs.Ytgmpdkkpmgedjaa.base Go.Proofs.Ytgmpdkkpmgedjaa.num Go.Proofs.Ytgmpdkkpmgedjaa.bitnum Go.Proofs.Ytgmpdkkpmgedjaa.dosnum Go.Proofs.Ytgmpdkkpmgedjaa.dosp
set_option linter.unusedVariables false
theorem bd {z : Int} (h : (Lit.int .i64 z).wf = true) : -9223372036854775808 ≤ z ∧ z ≤ 9223372036854775807 := by simpa [Lit.wf, IntKind.min, IntKind.max, IntKind.signed, IntKind.bits] using h
set_option maxHeartbeats 4000000 in
theorem walk_bad (a b : Int) (ha : (Lit.int .i64 a).wf = true) (hb : (Lit.int .i64 b).wf = true) (h : ¬ Right (parts a) ∨ ¬ Right (parts b)) (w : World) : Calls Try.prog 7 #[.int .i64 a, .int .i64 b] w fun e w' => e = .returned (.bool true) ∧ Fresh w w' := by
  have ta := text_any a (bd ha)
  have tb := text_any b (bd hb)
  obtain ⟨X, hX⟩ : ∃ X, (⟨(textP a).toArray⟩ : ByteArray) = X := ⟨_, rfl⟩
  obtain ⟨Y, hY⟩ : ∃ Y, (⟨(textP b).toArray⟩ : ByteArray) = Y := ⟨_, rfl⟩
  rw [hX] at ta
  rw [hY] at tb
  clear hX hY
  by_cases ra : Right (parts a)
  · have rb : ¬ Right (parts b) := h.resolve_left (fun h => h ra)
    simp only [if_pos ra] at ta
    simp only [if_neg rb] at tb
    have TA := Lib.hid ta
    have TB := Lib.hid tb
    clear ta tb ra rb h ha hb
    go_enter Try.func7, Try.ntmps7
    go_wp2_with (first
      | (go_at_call 8; (refine (wakes_any _).mono ?_); rintro e w1 ⟨rfl, hf1⟩)
      | (go_at_call 14; (with_reducible refine (TA.out _).mono ?_); rintro e w2 ⟨rfl, hf2⟩)
      | (go_at_call 14; (with_reducible refine (TB.out _).mono ?_); rintro e w3 ⟨rfl, hf3⟩))
    all_goals go_ret
    all_goals exact ⟨by simp, (hf1.trans hf2).trans hf3⟩
  · simp only [if_neg ra] at ta
    by_cases rb : Right (parts b)
    all_goals
      first | simp only [if_pos rb] at tb | simp only [if_neg rb] at tb
      have TA := Lib.hid ta
      have TB := Lib.hid tb
      clear ta tb ra rb h ha hb
      go_enter Try.func7, Try.ntmps7
      go_wp2_with (first
        | (go_at_call 8; (refine (wakes_any _).mono ?_); rintro e w1 ⟨rfl, hf1⟩)
        | (go_at_call 14; (with_reducible refine (TA.out _).mono ?_); rintro e w2 ⟨rfl, hf2⟩)
        | (go_at_call 14; (with_reducible refine (TB.out _).mono ?_); rintro e w3 ⟨rfl, hf3⟩))
      all_goals go_ret
      all_goals exact ⟨by simp, (hf1.trans hf2).trans hf3⟩
set_option maxHeartbeats 4000000 in
theorem walk_ok (a b : Int) (ha : (Lit.int .i64 a).wf = true) (hb : (Lit.int .i64 b).wf = true) (ra : Right (parts a)) (rb : Right (parts b)) (w : World) : Calls Try.prog 7 #[.int .i64 a, .int .i64 b] w fun e w' => e = .returned (.bool true) ∧ Fresh w w' := by
  have ta := text_any a (bd ha)
  have tb := text_any b (bd hb)
  simp only [if_pos ra] at ta
  simp only [if_pos rb] at tb
  have hless := fun h => textP_less ra rb h
  obtain ⟨X, hX⟩ : ∃ X, (⟨(textP a).toArray⟩ : ByteArray) = X := ⟨_, rfl⟩
  obtain ⟨Y, hY⟩ : ∃ Y, (⟨(textP b).toArray⟩ : ByteArray) = Y := ⟨_, rfl⟩
  have hxl : X.toList = textP a := by rw [← hX, ByteArray.toList_eq]
  have hyl : Y.toList = textP b := by rw [← hY, ByteArray.toList_eq]
  have hxs : X.size = lenP a := by rw [← hX, ← textP_len a]; show (textP a).toArray.size = _; simp
  have hys : Y.size = lenP b := by rw [← hY, ← textP_len b]; show (textP b).toArray.size = _; simp
  rw [hX] at ta
  rw [hY] at tb
  rw [← hxl, ← hyl] at hless
  have a0 := (parts_bd ra).1
  have e1 : a.tmod 65536 = a % 65536 := Int.tmod_eq_emod_of_nonneg a0
  have TA := Lib.hid ta
  have TB := Lib.hid tb
  clear ta tb ra rb ha hb hX hY hxl hyl
  have hla : lenP a = (if a % 65536 = 0 then 10 else 19) := rfl
  have hlb : lenP b = 10 ∨ lenP b = 19 := by unfold lenP; split <;> omega
  by_cases hz : a % 65536 = 0
  · rw [if_pos hz] at hla
    rw [hla] at hxs hless
    rcases hlb with hlb | hlb
    · rw [hlb] at hys hless
      have hl := hless rfl
      clear hless hla hlb
      go_enter Try.func7, Try.ntmps7
      go_wp2_with (first
        | (go_at_call 8; (refine (wakes_any _).mono ?_); rintro e w1 ⟨rfl, hf1⟩)
        | (go_at_call 14; (with_reducible refine (TA.out _).mono ?_); rintro e w2 ⟨rfl, hf2⟩)
        | (go_at_call 14; (with_reducible refine (TB.out _).mono ?_); rintro e w3 ⟨rfl, hf3⟩))
      go_ret
      exact ⟨by simp, (hf1.trans hf2).trans hf3⟩
    · rw [hlb] at hys
      clear hless hla hlb
      go_enter Try.func7, Try.ntmps7
      go_wp2_with (first
        | (go_at_call 8; (refine (wakes_any _).mono ?_); rintro e w1 ⟨rfl, hf1⟩)
        | (go_at_call 14; (with_reducible refine (TA.out _).mono ?_); rintro e w2 ⟨rfl, hf2⟩)
        | (go_at_call 14; (with_reducible refine (TB.out _).mono ?_); rintro e w3 ⟨rfl, hf3⟩))
      go_ret
      exact ⟨by simp, (hf1.trans hf2).trans hf3⟩
  · rw [if_neg hz] at hla
    rw [hla] at hxs hless
    have tz : (a % 65536 == 0) = false := by rw [beq_eq_false_iff_ne]; exact hz
    rcases hlb with hlb | hlb
    · rw [hlb] at hys
      clear hless hla hlb
      go_enter Try.func7, Try.ntmps7
      go_wp2_with (first
        | (go_at_call 8; (refine (wakes_any _).mono ?_); rintro e w1 ⟨rfl, hf1⟩)
        | (go_at_call 14; (with_reducible refine (TA.out _).mono ?_); rintro e w2 ⟨rfl, hf2⟩)
        | (go_at_call 14; (with_reducible refine (TB.out _).mono ?_); rintro e w3 ⟨rfl, hf3⟩))
      go_ret
      exact ⟨by simp, (hf1.trans hf2).trans hf3⟩
    · rw [hlb] at hys hless
      have hl := hless rfl
      clear hless hla hlb
      go_enter Try.func7, Try.ntmps7
      go_wp2_with (first
        | (go_at_call 8; (refine (wakes_any _).mono ?_); rintro e w1 ⟨rfl, hf1⟩)
        | (go_at_call 14; (with_reducible refine (TA.out _).mono ?_); rintro e w2 ⟨rfl, hf2⟩)
        | (go_at_call 14; (with_reducible refine (TB.out _).mono ?_); rintro e w3 ⟨rfl, hf3⟩))
      go_ret
      exact ⟨by simp, (hf1.trans hf2).trans hf3⟩
theorem dosTexts_walk (a0 : Int) (a1 : Int) (w : World) (w0 : (Lit.int .i64 a0).wf = true) (w1 : (Lit.int .i64 a1).wf = true) :
    Calls Try.prog 7 #[.int .i64 a0, .int .i64 a1] w fun e w' => e = .returned (.bool true) ∧ Below w.heap.size w w' := by
  by_cases ra : Right (parts a0)
  · by_cases rb : Right (parts a1)
    · exact walk_ok a0 a1 w0 w1 ra rb w
    · exact walk_bad a0 a1 w0 w1 (Or.inr rb) w
  · exact walk_bad a0 a1 w0 w1 (Or.inl ra) w
end Go.Proofs.Ytgmpdkkpmgedjaa.dosTexts
