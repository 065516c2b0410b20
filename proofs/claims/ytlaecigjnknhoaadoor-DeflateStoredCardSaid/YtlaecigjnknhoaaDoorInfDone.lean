import Derived.Test.YtlaecigjnknhoaaDoorInfGet
namespace Go.Proofs.YtlaecigjnknhoaaDoor.infp
open Go.RowKit Go.Proofs.YtlaecigjnknhoaaDoor.base Go.Proofs.YtlaecigjnknhoaaDoor.num Go.Proofs.YtlaecigjnknhoaaDoor.bitnum Go.Proofs.YtlaecigjnknhoaaDoor.bitp Go.Proofs.YtlaecigjnknhoaaDoor.huffnum Go.Proofs.YtlaecigjnknhoaaDoor.huffp Go.Proofs.YtlaecigjnknhoaaDoor.infnum
set_option linter.unusedVariables false

section
variable {S0 : List Nat} {w0 w w' : World} {g o p k P M : Nat} {v : V} {b H H0 : List UInt8} {rl wl : List Nat} {s : At}
theorem UnIs.next {e : Ending} (h : UnIs S0 w g b H0 M e w') : ∃ x : Nat, w'.cell? ⟨g, 5, none⟩ = some (iv x) := by
  obtain ⟨A, n, c, Y, er, rfl, hnM, hOw, hst⟩ := h
  rcases hst with ⟨_, v2, wl, s, P, hD⟩ | ⟨_, _, v2, o, p, k, rl, wl, s, hC, _⟩ | ⟨_, v2, o, p, k, rl, wl, s, hC, _⟩ | ⟨_, v2, wl, s, P, hW⟩
  · exact ⟨v2.next, hD.inf.cell rfl⟩
  · exact ⟨v2.next, hC.st.inf.cell rfl⟩
  · exact ⟨v2.next, hC.st.inf.cell rfl⟩
  · exact ⟨v2.next, hW.bd.inf.cell rfl⟩
set_option maxHeartbeats 4000000 in
set_option maxRecDepth 100000 in
theorem done_live (h : Live S0 w w g b v H0) (hH : H0.length ≤ 17179869184) :
    Calls Tryd.prog 14 #[ptr g] w fun e w' => ∃ e1 x, UnIs S0 w g b H0 0 e1 w' ∧ w'.cell? ⟨g, 5, none⟩ = some (iv (x : Nat)) ∧ ∃ t, e = .returned (.bool t) ∧ (t = true ↔ x = 4) := by
  have hu : Calls Tryd.prog 23 #[ptr g, .int .i64 0] w (UnIs S0 w g b H0 0) := unpack_live (M := 0) h (by omega) hH
  have HU := Lib.hid hu
  clear hu h
  go_enter Tryd.func14, Tryd.ntmps14
  go_wp2_with (go_at_call 23; refine HU.out.mono ?_; rintro e w2 hun; have HUN := Lib.hid hun; obtain ⟨x, hc5⟩ := hun.next; have HC5 := Lib.hid hc5; obtain ⟨A, n, c, Y, er, rfl, hnM, hOw, hst⟩ := hun; clear hOw hst)
  all_goals try go_wp2
  all_goals go_ret
  exact ⟨_, x, HUN.out, HC5.out, _, rfl, by simp only [beq_iff_eq]; omega⟩
end
end Go.Proofs.YtlaecigjnknhoaaDoor.infp
