import Derived.Test.YtlaecigjnknhoaaDoorInfDone
namespace Go.Proofs.YtlaecigjnknhoaaDoor.infp
open Go.RowKit Go.Proofs.YtlaecigjnknhoaaDoor.base Go.Proofs.YtlaecigjnknhoaaDoor.num Go.Proofs.YtlaecigjnknhoaaDoor.bitnum Go.Proofs.YtlaecigjnknhoaaDoor.bitp Go.Proofs.YtlaecigjnknhoaaDoor.huffnum Go.Proofs.YtlaecigjnknhoaaDoor.huffp Go.Proofs.YtlaecigjnknhoaaDoor.infnum
set_option linter.unusedVariables false

section
variable {S0 : List Nat} {w0 w w' : World} {g o p k P M : Nat} {v : V} {b H H0 : List UInt8} {rl wl : List Nat} {s : At}
theorem UnIs.back {e : Ending} (h : UnIs S0 w g b H0 M e w') : ∃ y : Nat, w'.cell? ⟨g, 14, none⟩ = some (iv y) := by
  obtain ⟨A, n, c, Y, er, rfl, hnM, hOw, hst⟩ := h
  rcases hst with ⟨_, v2, wl, s, P, hD⟩ | ⟨_, _, v2, o, p, k, rl, wl, s, hC, _⟩ | ⟨_, v2, o, p, k, rl, wl, s, hC, _⟩ | ⟨_, v2, wl, s, P, hW⟩
  · exact ⟨v2.behind, hD.inf.cell rfl⟩
  · exact ⟨v2.behind, hC.st.inf.cell rfl⟩
  · exact ⟨v2.behind, hC.st.inf.cell rfl⟩
  · exact ⟨v2.behind, hW.bd.inf.cell rfl⟩
set_option maxHeartbeats 4000000 in
set_option maxRecDepth 100000 in
theorem rest_live (h : Live S0 w w g b v H0) (hH : H0.length ≤ 17179869184) :
    Calls Tryd.prog 15 #[ptr g] w fun e w' => ∃ e1 x y, UnIs S0 w g b H0 0 e1 w' ∧ w'.cell? ⟨g, 5, none⟩ = some (iv (x : Nat)) ∧ w'.cell? ⟨g, 14, none⟩ = some (iv (y : Nat)) ∧ e = .returned (.int .i64 (if x = 4 then (y : Int) else 0)) := by
  have hd := done_live h hH
  have HD := Lib.hid hd
  clear hd h
  go_enter Tryd.func15, Tryd.ntmps15
  go_wp2_with (go_at_call 14; refine HD.out.mono ?_; rintro e w2 ⟨e1, x, hun, hc5, t, rfl, ht⟩; have HUN := Lib.hid hun; obtain ⟨y, hc14⟩ := hun.back; have HC5 := Lib.hid hc5; have HC14 := Lib.hid hc14; have HT := Lib.hid ht; clear hun hc5 ht; cases t)
  all_goals try go_wp2
  all_goals go_ret
  · have h4 : ¬ x = 4 := fun e => by have := HT.out.2 e; cases this
    exact ⟨e1, x, y, HUN.out, HC5.out, HC14.out, by rw [if_neg h4]; rfl⟩
  · have h4 : x = 4 := by simpa using HT.out
    exact ⟨e1, x, y, HUN.out, HC5.out, HC14.out, by rw [if_pos h4]; rfl⟩
end
end Go.Proofs.YtlaecigjnknhoaaDoor.infp
