/-
  The walk of the law DosOrder. My own text.
-/
import Derived.Test.YtgmpdkkpmgedjaaDosLaw
import Derived.Test.YtgmpdkkpmgedjaaOpenSix
namespace Go.Proofs.Ytgmpdkkpmgedjaa.dosOrder
open Go.RowKit Go.Proofs.Ytgmpdkkpmgedjaa.base Go.Proofs.Ytgmpdkkpmgedjaa.num Go.Proofs.Ytgmpdkkpmgedjaa.bitnum Go.Proofs.Ytgmpdkkpmgedjaa.dosnum Go.Proofs.Ytgmpdkkpmgedjaa.dosp
set_option linter.unusedVariables false

abbrev T6 : TypeId := 22
theorem six6 {w : World} {g : Nat} {m : Mo} (h : Bk w g T6 (momL m)) : Six w g m := ⟨h.cell rfl, h.cell rfl, h.cell rfl, h.cell rfl, h.cell rfl, h.cell rfl⟩
theorem cell6 {w : World} {g : Nat} {m : Mo} (h : Bk w g T6 (momL m)) {j : Nat} (hj : j < 6) : w.cell? ⟨g, j, none⟩ = some (.int .i64 (numj m j)) := by
  have hc : j = 0 ∨ j = 1 ∨ j = 2 ∨ j = 3 ∨ j = 4 ∨ j = 5 := by omega
  rcases hc with rfl | rfl | rfl | rfl | rfl | rfl <;> exact h.cell rfl
set_option maxHeartbeats 4000000 in
theorem walk_bad (A B : Mo) (h : ¬ Right A ∨ ¬ Right B) (w : World) : Calls Try.prog 6 #[momV A, momV B] w fun e w' => e = .returned (.bool true) ∧ Fresh w w' := by
  have ha := (Bk.made w T6 (momL A).toArray).alloc (.cells (momL B).toArray T6)
  have hb := Bk.made (w.alloc (.cells (momL A).toArray T6)) T6 (momL B).toArray
  have hsz : (w.alloc (.cells (momL A).toArray T6)).heap.size = w.heap.size + 1 := by simp
  rw [hsz] at hb
  have HA := Lib.hid ha
  have HB := Lib.hid hb
  have HF := Lib.hid ((Fresh.alloc w (.cells (momL A).toArray T6)).trans (Fresh.alloc _ (.cells (momL B).toArray T6)))
  clear ha hb hsz
  by_cases ra : Right A
  · have rb : ¬ Right B := h.resolve_left (fun h => h ra)
    have RA := Lib.hid ra
    have RB := Lib.hid rb
    clear h ra rb
    go_enter Try.func6, Try.ntmps6
    go_wp2_with (first
      | (go_at_call 8; (refine (wakes_any _).mono ?_); rintro e w1 ⟨rfl, hf1⟩; obtain ⟨k0, k1, k2, k3, k4, k5⟩ := six6 (HA.out.fresh hf1))
      | (go_at_call 9; (with_reducible refine (put_ok A RA.out _).mono ?_); rintro e w2 ⟨rfl, hf2⟩; clear k0 k1 k2 k3 k4 k5; obtain ⟨k0, k1, k2, k3, k4, k5⟩ := six6 (HB.out.fresh (hf1.trans hf2)))
      | (go_at_call 9; (with_reducible refine (put_bad B RB.out _).mono ?_); rintro e w3 ⟨rfl, hf3⟩))
    all_goals go_ret
    all_goals exact ⟨rfl, ((HF.out.trans hf1).trans hf2).trans hf3⟩
  · have RA := Lib.hid ra
    clear h ra
    by_cases rb : Right B
    all_goals
      have RB := Lib.hid rb
      clear rb
      go_enter Try.func6, Try.ntmps6
      go_wp2_with (first
        | (go_at_call 8; (refine (wakes_any _).mono ?_); rintro e w1 ⟨rfl, hf1⟩; obtain ⟨k0, k1, k2, k3, k4, k5⟩ := six6 (HA.out.fresh hf1))
        | (go_at_call 9; (with_reducible refine (put_bad A RA.out _).mono ?_); rintro e w2 ⟨rfl, hf2⟩; clear k0 k1 k2 k3 k4 k5; obtain ⟨k0, k1, k2, k3, k4, k5⟩ := six6 (HB.out.fresh (hf1.trans hf2)))
        | (go_at_call 9; (first | (with_reducible refine (put_ok B RB.out _).mono ?_) | (with_reducible refine (put_bad B RB.out _).mono ?_)); rintro e w3 ⟨rfl, hf3⟩))
      all_goals go_ret
      all_goals exact ⟨rfl, ((HF.out.trans hf1).trans hf2).trans hf3⟩
set_option maxHeartbeats 8000000 in
theorem walk_ok (A B : Mo) (ra : Right A) (rb : Right B) (w : World) : Calls Try.prog 6 #[momV A, momV B] w fun e w' => e = .returned (.bool true) ∧ Fresh w w' := by
  have ha := (Bk.made w T6 (momL A).toArray).alloc (.cells (momL B).toArray T6)
  have hb := Bk.made (w.alloc (.cells (momL A).toArray T6)) T6 (momL B).toArray
  have hsz : (w.alloc (.cells (momL A).toArray T6)).heap.size = w.heap.size + 1 := by simp
  rw [hsz] at hb
  have HA := Lib.hid ha
  have HB := Lib.hid hb
  have HF := Lib.hid ((Fresh.alloc w (.cells (momL A).toArray T6)).trans (Fresh.alloc _ (.cells (momL B).toArray T6)))
  clear ha hb hsz
  have RA := Lib.hid ra
  have RB := Lib.hid rb
  clear ra rb
  obtain ⟨X, hX⟩ : ∃ X, no A = X := ⟨_, rfl⟩
  obtain ⟨Y, hY⟩ : ∃ Y, no B = Y := ⟨_, rfl⟩
  have HX := Lib.hid hX
  have HY := Lib.hid hY
  have pa := put_ok A RA.out
  have pb := put_ok B RB.out
  rw [hX] at pa
  rw [hY] at pb
  have PA := Lib.hid pa
  have PB := Lib.hid pb
  clear hX hY pa pb
  go_enter Try.func6, Try.ntmps6
  go_wp2_with (first
    | (go_at_call 8; (refine (wakes_any _).mono ?_); rintro e w1 ⟨rfl, hf1⟩; obtain ⟨k0, k1, k2, k3, k4, k5⟩ := six6 (HA.out.fresh hf1))
    | (go_at_call 9; (with_reducible refine (PA.out _).mono ?_); rintro e w2 ⟨rfl, hf2⟩; clear k0 k1 k2 k3 k4 k5; obtain ⟨k0, k1, k2, k3, k4, k5⟩ := six6 (HB.out.fresh (hf1.trans hf2)))
    | (go_at_call 9; (with_reducible refine (PB.out _).mono ?_); rintro e w3 ⟨rfl, hf3⟩))
  clear k0 k1 k2 k3 k4 k5
  have hA3 := HA.out.fresh ((hf1.trans hf2).trans hf3)
  have hB3 := HB.out.fresh ((hf1.trans hf2).trans hf3)
  have hF3 := ((HF.out.trans hf1).trans hf2).trans hf3
  have HA3 := Lib.hid hA3
  have HB3 := Lib.hid hB3
  have HF3 := Lib.hid hF3
  clear hA3 hB3 hF3 hf1 hf2 hf3
  go_loopw [52] (fun i wr => ∃ (k q : Nat), k ≤ 5 ∧ i = .int .i64 k ∧ Hid (∀ j, j < k → numj A j = numj B j) ∧ wr = w3.drewN q) (fun i _ => 6 - (intOf i).toNat)
  case atStart => exact ⟨0, 0, by omega, rfl, fun j hj => absurd hj (by omega), rfl⟩
  case round =>
    obtain ⟨k, q, hk, rfl, heq, rfl⟩ := hrel
    have c5 := cell6 HA3.out (j := 5) (by omega)
    have d5 := cell6 HB3.out (j := 5) (by omega)
    have ck := cell6 HA3.out (j := k) (by omega)
    have dk := cell6 HB3.out (j := k) (by omega)
    obtain ⟨a, ha⟩ : ∃ a, numj A k = a := ⟨_, rfl⟩
    obtain ⟨b, hb⟩ : ∃ b, numj B k = b := ⟨_, rfl⟩
    rw [ha] at ck
    rw [hb] at dk
    have hAl := Lib.hid ha
    have hBl := Lib.hid hb
    clear ha hb
    have k0 : (0 : Int) ≤ (k : Int) := by omega
    have k5 : (k : Int) ≤ 5 := by omega
    by_cases h5 : k = 5
    · subst h5
      have e1 : decide (X < Y) = decide (A.s / 2 < B.s / 2) := by
        rw [← HX.out, ← HY.out]
        have := no_first RA.out RB.out 5 (by omega) heq.out (Or.inr rfl)
        rw [if_pos rfl] at this
        exact this
      have s1 := RA.out.s1
      have s2 := RB.out.s1
      have e2 : A.s.tdiv 2 = A.s / 2 := Int.tdiv_eq_ediv_of_nonneg s1
      have e3 : B.s.tdiv 2 = B.s / 2 := Int.tdiv_eq_ediv_of_nonneg s2
      have s3 := RA.out.s2
      have s4 := RB.out.s2
      have e4 : wrap64 (A.s / 2) = A.s / 2 := IntWalk.wrap64_in _ ⟨by omega, by omega⟩
      have e5 : wrap64 (B.s / 2) = B.s / 2 := IntWalk.wrap64_in _ ⟨by omega, by omega⟩
      simp only [numj] at c5 d5
      clear ck dk
      go_wp2
      go_ret
      exact ⟨by simp, HF3.out.trans (Fresh.drewN _ _)⟩
    · have t5 : ((k : Int) == 5) = false := by rw [beq_eq_false_iff_ne]; omega
      by_cases hab : a = b
      · subst hab
        go_wp2
        go_quiet (fail)
        go_wp2
        go_roundw
        case rel =>
          refine ⟨k + 1, _, by omega, by go_num, ?_, rfl⟩
          intro j hj
          rcases Nat.lt_succ_iff_lt_or_eq.1 hj with hj | rfl
          · exact heq.out j hj
          · exact hAl.out.trans hBl.out.symm
        case measure => simp [intOf]; omega
      · have tn : (a != b) = true := by rw [bne_iff_ne]; exact hab
        have e1 : decide (X < Y) = decide (a < b) := by
          rw [← HX.out, ← HY.out, ← hAl.out, ← hBl.out]
          have := no_first RA.out RB.out k (by omega) heq.out (Or.inl (by rw [hAl.out, hBl.out]; exact hab))
          rw [if_neg h5] at this
          exact this
        go_wp2
        go_quiet (fail)
        go_wp2
        go_quiet (fail)
        go_wp2
        go_ret
        exact ⟨by simp, ((HF3.out.trans (Fresh.drewN _ _)).trans (Fresh.drewN _ _)).trans (Fresh.drewN _ _)⟩
theorem dosOrder_walk (a0 a1 : Mo) (w : World) (w0 : Six64 a0) (w1 : Six64 a1) :
    Calls Try.prog 6 #[.agg #[.int .i64 a0.y, .int .i64 a0.mo, .int .i64 a0.d, .int .i64 a0.h, .int .i64 a0.mi, .int .i64 a0.s], .agg #[.int .i64 a1.y, .int .i64 a1.mo, .int .i64 a1.d, .int .i64 a1.h, .int .i64 a1.mi, .int .i64 a1.s]] w fun e w' => e = .returned (.bool true) ∧ Below w.heap.size w w' := by
  by_cases ra : Right a0
  · by_cases rb : Right a1
    · exact walk_ok a0 a1 ra rb w
    · exact walk_bad a0 a1 (Or.inr rb) w
  · exact walk_bad a0 a1 (Or.inl ra) w
end Go.Proofs.Ytgmpdkkpmgedjaa.dosOrder
