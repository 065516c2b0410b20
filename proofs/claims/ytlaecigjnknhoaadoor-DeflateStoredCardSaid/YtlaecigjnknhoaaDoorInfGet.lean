import Derived.Test.YtlaecigjnknhoaaDoorInfOuter
namespace Go.Proofs.YtlaecigjnknhoaaDoor.infp
open Go.RowKit Go.Proofs.YtlaecigjnknhoaaDoor.base Go.Proofs.YtlaecigjnknhoaaDoor.num Go.Proofs.YtlaecigjnknhoaaDoor.bitnum Go.Proofs.YtlaecigjnknhoaaDoor.bitp Go.Proofs.YtlaecigjnknhoaaDoor.huffnum Go.Proofs.YtlaecigjnknhoaaDoor.huffp Go.Proofs.YtlaecigjnknhoaaDoor.infnum
set_option linter.unusedVariables false

section
variable {S0 : List Nat} {w0 w w' : World} {g o p k P M : Nat} {v : V} {b H H0 : List UInt8} {rl wl : List Nat} {s : At}
theorem UnIs.sign (h : Live S0 w w g b v H0) (ht : v.told = false) : w.cell? ⟨g, 15, none⟩ = some (.bool false) := by
  rw [← ht]
  rcases h with ⟨wl, s, P, h⟩ | ⟨o, p, k, rl, wl, s, h, ha⟩ | ⟨wl, s, P, h⟩
  · exact h.tol
  · exact h.tol
  · exact h.bd.tol
theorem UnIs.signed {e : Ending} (h15 : w.cell? ⟨g, 15, none⟩ = some (.bool false)) (h : UnIs S0 w g b H0 M e w') : w'.cell? ⟨g, 15, none⟩ = some (.bool false) ∧ ∃ q cs, Bk w' q tInf cs ∧ q = g := by
  obtain ⟨A, n, c, Y, er, rfl, hnM, hOw, hst⟩ := h
  have key : ∀ v2 : V, w.cell? ⟨g, 15, none⟩ = some (.bool v2.told) → InfAt w' g v2 → w'.cell? ⟨g, 15, none⟩ = some (.bool false) ∧ ∃ q cs, Bk w' q tInf cs ∧ q = g := fun v2 h1 h2 => by
    have c1 : w'.cell? ⟨g, 15, none⟩ = some (.bool v2.told) := h2.cell rfl
    rw [c1, ← h1]
    exact ⟨h15, g, _, h2, rfl⟩
  rcases hst with ⟨_, v2, wl, s, P, hD⟩ | ⟨_, _, v2, o, p, k, rl, wl, s, hC, _⟩ | ⟨_, v2, o, p, k, rl, wl, s, hC, _⟩ | ⟨_, v2, wl, s, P, hW⟩
  · exact key v2 hD.tol hD.inf
  · exact key v2 hC.tol hC.st.inf
  · exact key v2 hC.tol hC.st.inf
  · exact key v2 hW.bd.tol hW.bd.inf
/-- what a Get tells, when none told ErrData yet -/
def GetIs (S0 : List Nat) (w : World) (g : Nat) (b H0 : List UInt8) (M : Nat) (e : Ending) (w' : World) : Prop :=
  ∃ (A : Option Addr) (n c er : Nat) (w1 : World), UnIs S0 w g b H0 M (.returned (.tuple #[.slice A n c, .int .i64 er])) w1 ∧
    ((n = M ∧ e = .returned (.tuple #[.slice A n c, .int .i64 0]) ∧ w' = w1) ∨
     (n ≠ M ∧ e = .returned (.tuple #[.slice A n c, .int .i64 er]) ∧ ∃ t, w' = w1.setCell ⟨g, 15, none⟩ (.bool t) ∧ (t = true ↔ er = 12)))
set_option maxHeartbeats 4000000 in
set_option maxRecDepth 100000 in
theorem get_live (h : Live S0 w w g b v H0) (ht : v.told = false) (Z : Nat) (hZ : Z ≤ 1099511627776) (hH : H0.length ≤ 17179869184) :
    Calls Tryd.prog 13 #[ptr g, .int .i64 Z] w (GetIs S0 w g b H0 (min Z 65536)) := by
  have h15 := UnIs.sign h ht
  obtain ⟨M, hM⟩ : ∃ M, min Z 65536 = M := ⟨_, rfl⟩
  rw [hM]
  have hu : ∀ z : Int, z = (M : Int) → Calls Tryd.prog 23 #[ptr g, .int .i64 z] w (UnIs S0 w g b H0 M) := by
    rintro _ rfl
    exact unpack_live (M := M) h (by omega) hH
  have HU := Lib.hid hu
  clear hu h
  go_enter Tryd.func13, Tryd.ntmps13
  go_wp2_with (go_at_call 23; refine (HU.out _ (by omega)).mono ?_; rintro e w2 hun; have HUN := Lib.hid hun; obtain ⟨h15b, q, cs, hq, rfl⟩ := hun.signed h15; have hfr := hq.free 15; obtain ⟨A, n, c, Y, er, rfl, hnM, hOw, hst⟩ := hun; clear hOw hst hq; (by_cases hnm : (n : Int) = (M : Int)))
  all_goals try go_wp2
  all_goals go_ret2
  all_goals first
    | exact ⟨A, n, c, er, w2, HUN.out, .inl ⟨by omega, rfl, rfl⟩⟩
    | exact ⟨A, n, c, er, w2, HUN.out, .inr ⟨by omega, rfl, _, rfl, by simp only [beq_iff_eq]; omega⟩⟩
    | (have e0 : M = 0 := by omega
       have e1 := HUN.out
       rw [e0] at e1
       exact ⟨A, n, c, er, w2, e1, .inl ⟨by omega, rfl, rfl⟩⟩)
end
end Go.Proofs.YtlaecigjnknhoaaDoor.infp
