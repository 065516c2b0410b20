/-
  The walk of the law DosParses. My own text.
-/
import Derived.Test.YtgmpdkkpmgedjaaDosLaw
import Derived.Test.YtgmpdkkpmgedjaaDosRef5
import Derived.Test.YtgmpdkkpmgedjaaOpen
namespace Go.Proofs.Ytgmpdkkpmgedjaa.dosParses
open Go.RowKit Go.Proofs.Ytgmpdkkpmgedjaa.base Go.Proofs.Ytgmpdkkpmgedjaa.num Go.Proofs.Ytgmpdkkpmgedjaa.bitnum Go.Proofs.Ytgmpdkkpmgedjaa.dosnum Go.Proofs.Ytgmpdkkpmgedjaa.dosp
set_option linter.unusedVariables false
set_option maxHeartbeats 4000000 in
theorem dosParses_walk (a0 : ByteArray) (w : World) (w0 : a0.size ≤ maxLen) :
    Calls Try.prog 5 #[.string a0] w fun e w' => e = .returned (.bool true) ∧ Below w.heap.size w w' := by
  obtain ⟨l, hl⟩ : ∃ l, l = a0.data.toList := ⟨_, rfl⟩
  have hsz : a0.size = l.length := by rw [hl]; exact (Array.length_toList (xs := a0.data)).symm
  have hm : l.length ≤ maxLen := by omega
  by_cases h : l.length ≤ 100
  · have hp := parse_any a0 l hl hm
    have hr := refParse_any a0 l hl h
    have hsi : (a0.size : Int) ≤ 100 := by omega
    cases hc : parseP l with
    | none =>
      rw [hc] at hp hr
      simp only [Option.getD_none] at hr
      have HP := Lib.hid hp
      have HR := Lib.hid hr
      clear hp hr hc hl hsz hm w0 h
      go_enter Try.func5, Try.ntmps5
      go_wp2_with (first
        | (go_at_call 8; (refine (wakes_any _).mono ?_); rintro e w1 ⟨rfl, hf1⟩)
        | (go_at_call 16; (refine (HP.out _).mono ?_); rintro e w2 ⟨rfl, hf2⟩)
        | (go_at_call 18; (refine (HR.out _).mono ?_); rintro e w3 ⟨rfl, hf3⟩))
      all_goals go_ret
      all_goals exact ⟨by simp, (hf1.trans hf2).trans hf3⟩
    | some v =>
      have hv : 0 ≤ v := by
        unfold parseP at hc
        split at hc
        · rename_i hh
          injection hc with hc
          rw [← hc]
          exact (no_bd hh.2).1
        · cases hc
      rw [hc] at hp hr
      simp only [Option.getD_some] at hr
      have HP := Lib.hid hp
      have HR := Lib.hid hr
      clear hp hr hc hl hsz hm w0 h
      go_enter Try.func5, Try.ntmps5
      go_wp2_with (first
        | (go_at_call 8; (refine (wakes_any _).mono ?_); rintro e w1 ⟨rfl, hf1⟩)
        | (go_at_call 16; (refine (HP.out _).mono ?_); rintro e w2 ⟨rfl, hf2⟩)
        | (go_at_call 18; (refine (HR.out _).mono ?_); rintro e w3 ⟨rfl, hf3⟩))
      all_goals go_ret
      all_goals exact ⟨by simp <;> omega, (hf1.trans hf2).trans hf3⟩
  · have hsi : (100 : Int) < (a0.size : Int) := by omega
    clear h hm hl hsz w0
    go_enter Try.func5, Try.ntmps5
    go_wp2_with (go_at_call 8; (refine (wakes_any _).mono ?_); rintro e w1 ⟨rfl, hf1⟩)
    go_ret
    exact ⟨rfl, hf1⟩
end Go.Proofs.Ytgmpdkkpmgedjaa.dosParses
