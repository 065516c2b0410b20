import Derived.Test.YtcmeoappddpmcaaDoorDefSym
/-
  The contracts of symbol and distance. My own text.
-/
namespace Go.Proofs.YtcmeoappddpmcaaDoor.defp
open Go.RowKit Go.Maps Go.Proofs.YtcmeoappddpmcaaDoor.base Go.Proofs.YtcmeoappddpmcaaDoor.num Go.Proofs.YtcmeoappddpmcaaDoor.bitnum Go.Proofs.YtcmeoappddpmcaaDoor.bitp Go.Proofs.YtcmeoappddpmcaaDoor.infp
set_option linter.unusedVariables false
/-- a step as a value -/
abbrev stepV (s : Nat × Nat) : Value := .agg #[.int .u16 (s.1 : Nat), .int .u16 (s.2 : Nat)]
/-- a step that may be -/
def Ok (s : Nat × Nat) : Prop := (s.2 = 0 ∧ s.1 ≤ 256) ∨ (3 ≤ s.1 ∧ s.1 ≤ 258 ∧ 1 ≤ s.2 ∧ s.2 ≤ 32768)
/-- a step's symbol, its own bits, and how many -/
def sy (s : Nat × Nat) : Nat := if s.2 = 0 then s.1 else if s.1 = 258 then 285 else 257 + code_ (s.1 - 3) 4
def syN (s : Nat × Nat) : Nat := if s.2 = 0 then 0 else if s.1 = 258 then 0 else own_ (s.1 - 3) 4
def syV (s : Nat × Nat) : Nat := if s.2 = 0 then 0 else if s.1 = 258 then 0 else (s.1 - 3) % 2 ^ own_ (s.1 - 3) 4
def di (s : Nat × Nat) : Nat := code_ (s.2 - 1) 2
def diN (s : Nat × Nat) : Nat := own_ (s.2 - 1) 2
def diV (s : Nat × Nat) : Nat := (s.2 - 1) % 2 ^ own_ (s.2 - 1) 2
theorem code4_lt (v : Nat) (h : v < 255) : code_ v 4 < 28 := (long_all ⟨v, h⟩).1
set_option maxRecDepth 100000 in
set_option maxHeartbeats 4000000 in
theorem symbol_any (s : Nat × Nat) (h : Ok s) (w : World) :
    Calls Tryd.prog 35 #[stepV s] w fun e w' => e = .returned (.tuple #[.int .i64 (sy s : Nat), .int .i64 (syN s : Nat), .int .i64 (syV s : Nat)]) ∧ Fresh w w' := by
  obtain ⟨x, k⟩ := s
  by_cases h0 : k = 0
  · subst h0
    have hx : x ≤ 256 := by rcases h with h | h <;> simp only at h <;> omega
    have e1 : sy (x, 0) = x := rfl
    have e2 : syN (x, 0) = 0 := rfl
    have e3 : syV (x, 0) = 0 := rfl
    rw [e1, e2, e3]
    clear e1 e2 e3
    show Calls Tryd.prog 35 #[.agg #[.int .u16 x, .int .u16 0]] w fun e w' => e = .returned (.tuple #[.int .i64 x, .int .i64 0, .int .i64 0]) ∧ Fresh w w'
    go_enter Tryd.func35, Tryd.ntmps35
    go_wp2
    ((try simp only [Exit.inBlock, Exit.then]); refine bodyPost_ret (res3 rfl _ _ _) rfl ?_)
    exact ⟨rfl, Fresh.alloc _ _⟩
  · have hx : 3 ≤ x ∧ x ≤ 258 ∧ 1 ≤ k ∧ k ≤ 32768 := by rcases h with h | h <;> simp only at h <;> omega
    by_cases h1 : x = 258
    · subst h1
      have e1 : sy (258, k) = 285 := by simp [sy, h0]
      have e2 : syN (258, k) = 0 := by simp [syN, h0]
      have e3 : syV (258, k) = 0 := by simp [syV, h0]
      rw [e1, e2, e3]
      clear e1 e2 e3
      have h0' : ¬ (k : Int) = 0 := by omega
      show Calls Tryd.prog 35 #[.agg #[.int .u16 258, .int .u16 k]] w fun e w' => e = .returned (.tuple #[.int .i64 285, .int .i64 0, .int .i64 0]) ∧ Fresh w w'
      go_enter Tryd.func35, Tryd.ntmps35
      go_wp2
      ((try simp only [Exit.inBlock, Exit.then]); refine bodyPost_ret (res3 rfl _ _ _) rfl ?_)
      exact ⟨rfl, Fresh.alloc _ _⟩
    · obtain ⟨v, rfl⟩ : ∃ v, x = v + 3 := ⟨x - 3, by omega⟩
      have hv : v < 255 := by omega
      have e1 : sy (v + 3, k) = 257 + code_ v 4 := by simp [sy, h0, h1]
      have e2 : syN (v + 3, k) = own_ v 4 := by simp [syN, h0, h1]
      have e3 : syV (v + 3, k) = v % 2 ^ own_ v 4 := by simp [syV, h0, h1]
      rw [e1, e2, e3]
      clear e1 e2 e3
      have hf : ∀ W, Calls Tryd.prog 49 #[.int .i64 v, .int .i64 4] W fun e w' => e = .returned (.tuple #[.int .i64 (code_ v 4 : Nat), .int .i64 (own_ v 4 : Nat), .int .i64 (v % 2 ^ own_ v 4 : Nat)]) ∧ Fresh W w' := fun W => folded_any v 4 (.inl rfl) (by omega) W
      have hc := code4_lt v hv
      have HF := Lib.hid hf
      clear hf
      generalize code_ v 4 = co at *
      generalize own_ v 4 = ow at *
      generalize v % 2 ^ ow = vv at *
      obtain ⟨x, hx3⟩ : ∃ x, v + 3 = x := ⟨_, rfl⟩
      have hx4 : ¬ (x : Int) = 258 := by omega
      have hx5 : (x : Int) - 3 = v := by omega
      have h0' : ¬ (k : Int) = 0 := by omega
      show Calls Tryd.prog 35 #[.agg #[.int .u16 ((v + 3 : Nat) : Int), .int .u16 k]] w fun e w' => e = .returned (.tuple #[.int .i64 (257 + co : Nat), .int .i64 ow, .int .i64 vv]) ∧ Fresh w w'
      rw [hx3]
      have HC := Lib.hid hc
      have HX3 := Lib.hid hx3
      have e4 : IntKind.i64.wrap (257 + (co : Int)) = ((257 + co : Nat) : Int) := by rw [IntWalk.i64_in _ (by omega)]; push_cast; rfl
      have e5 : wrap64 (257 + (co : Int)) = ((257 + co : Nat) : Int) := by rw [IntWalk.wrap64_in _ ⟨by omega, by omega⟩]; push_cast; rfl
      have e6 : wrap64 (x : Int) = (x : Int) := IntWalk.wrap64_in _ ⟨by omega, by omega⟩
      have e7 : wrap64 ((x : Int) - 3) = (v : Int) := by rw [IntWalk.wrap64_in _ ⟨by omega, by omega⟩]; omega
      clear hx hc h hv h1 hx3 h0 hx5
      go_enter Tryd.func35, Tryd.ntmps35
      go_wp2_with (go_at_call 49; (with_reducible refine (HF.out _).mono ?_); rintro e w1 ⟨rfl, hf1⟩)
      ((try simp only [Exit.inBlock, Exit.then]); refine bodyPost_ret (res3 rfl _ _ _) rfl ?_)
      exact ⟨rfl, (Fresh.alloc _ _).trans hf1⟩
set_option maxRecDepth 100000 in
set_option maxHeartbeats 4000000 in
theorem distance_any (s : Nat × Nat) (h : 1 ≤ s.2 ∧ s.2 ≤ 32768) (w : World) :
    Calls Tryd.prog 36 #[stepV s] w fun e w' => e = .returned (.tuple #[.int .i64 (di s : Nat), .int .i64 (diN s : Nat), .int .i64 (diV s : Nat)]) ∧ Fresh w w' := by
  obtain ⟨y, k⟩ := s
  simp only at h
  unfold di diN diV
  simp only
  obtain ⟨v, rfl⟩ : ∃ v, k = v + 1 := ⟨k - 1, by omega⟩
  rw [Nat.add_sub_cancel]
  have hf : ∀ W, Calls Tryd.prog 49 #[.int .i64 v, .int .i64 2] W fun e w' => e = .returned (.tuple #[.int .i64 (code_ v 2 : Nat), .int .i64 (own_ v 2 : Nat), .int .i64 (v % 2 ^ own_ v 2 : Nat)]) ∧ Fresh W w' := fun W => folded_any v 2 (.inr rfl) (by omega) W
  have HF := Lib.hid hf
  clear hf
  generalize code_ v 2 = co at *
  generalize own_ v 2 = ow at *
  generalize v % 2 ^ ow = vv at *
  obtain ⟨x, hx3⟩ : ∃ x, v + 1 = x := ⟨_, rfl⟩
  show Calls Tryd.prog 36 #[.agg #[.int .u16 y, .int .u16 ((v + 1 : Nat) : Int)]] w fun e w' => e = .returned (.tuple #[.int .i64 co, .int .i64 ow, .int .i64 vv]) ∧ Fresh w w'
  rw [hx3]
  have e6 : wrap64 (x : Int) = (x : Int) := IntWalk.wrap64_in _ ⟨by omega, by omega⟩
  have e7 : wrap64 ((x : Int) - 1) = (v : Int) := by rw [IntWalk.wrap64_in _ ⟨by omega, by omega⟩]; omega
  clear h hx3
  go_enter Tryd.func36, Tryd.ntmps36
  go_wp2_with (go_at_call 49; (with_reducible refine (HF.out _).mono ?_); rintro e w1 ⟨rfl, hf1⟩)
  ((try simp only [Exit.inBlock, Exit.then]); refine bodyPost_ret (res3 rfl _ _ _) rfl ?_)
  exact ⟨rfl, (Fresh.alloc _ _).trans hf1⟩
end Go.Proofs.YtcmeoappddpmcaaDoor.defp
