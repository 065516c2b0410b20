import Derived.Test.YtlaecigjnknhoaaDoorInfUnpack
/-
  The contract of unpack. My own text.
-/
namespace Go.Proofs.YtlaecigjnknhoaaDoor.infp
open Go.RowKit Go.Proofs.YtlaecigjnknhoaaDoor.base Go.Proofs.YtlaecigjnknhoaaDoor.num Go.Proofs.YtlaecigjnknhoaaDoor.bitnum Go.Proofs.YtlaecigjnknhoaaDoor.bitp Go.Proofs.YtlaecigjnknhoaaDoor.huffnum Go.Proofs.YtlaecigjnknhoaaDoor.huffp Go.Proofs.YtlaecigjnknhoaaDoor.infnum
set_option linter.unusedVariables false

/-! unpack when all is unpacked, and when what isn't right was met -/
set_option maxHeartbeats 4000000 in
set_option maxRecDepth 100000 in
theorem unpack_done (w : World) (g : Nat) (M : Nat) (hn : w.cell? ⟨g, 5, none⟩ = some (iv (4 : Nat))) :
    Calls Tryd.prog 23 #[ptr g, .int .i64 M] w fun e w' => e = .returned (.tuple #[.slice none 0 0, .int .i64 0]) ∧ Fresh w w' := by
  go_enter Tryd.func23, Tryd.ntmps23
  go_wp2
  refine wp_scope_labels (fun _ _ _ _ => False) ?_ ?_
  · go_wp2
    go_step3
    go_wp2
    rw [Jumps_ret]
    go_ret2
    exact ⟨rfl, Fresh.refl _⟩
  · intro m l a w' h
    exact h.elim
set_option maxHeartbeats 4000000 in
set_option maxRecDepth 100000 in
theorem unpack_wrong (w : World) (g : Nat) (M : Nat) (hn : w.cell? ⟨g, 5, none⟩ = some (iv (5 : Nat))) :
    Calls Tryd.prog 23 #[ptr g, .int .i64 M] w fun e w' => e = .returned (.tuple #[.slice none 0 0, .int .i64 12]) ∧ Fresh w w' := by
  go_enter Tryd.func23, Tryd.ntmps23
  go_wp2
  refine wp_scope_labels (fun _ _ _ _ => False) ?_ ?_
  · go_wp2
    go_step3
    go_wp2
    rw [Jumps_ret]
    go_ret2
    exact ⟨rfl, Fresh.refl _⟩
  · intro m l a w' h
    exact h.elim
section
variable {S0 : List Nat} {w0 w w' : World} {g o p k P M : Nat} {v : V} {b H H0 : List UInt8} {rl wl : List Nat} {s : At}
/-! the same, as the world stands now -/
theorem Core.here (h : Core S0 w0 w g b v o p H k rl wl s) : Core (g :: (rl ++ wl)) w w g b v o p H k rl wl s := { h with turn := Turn.refl _ _, tol := h.st.inf.cell rfl, kb := ⟨_, h.st.inf.cell rfl, h.st.kk⟩ }
theorem Dn.here (h : Dn S0 w0 w g b v H wl s P) : Dn (g :: wl) w w g b v H wl s P := { h with turn := Turn.refl _ _, tol := h.inf.cell rfl }
theorem Wr.here (h : Wr S0 w0 w g b v H wl s P) : Wr (g :: wl) w w g b v H wl s P := { h with bd := { h.bd with turn := Turn.refl _ _, tol := h.bd.inf.cell rfl } }
theorem Dn.fresh (h : Dn S0 w0 w g b v H wl s P) (f : Fresh w w') : Dn S0 w0 w' g b v H wl s P := { h with inf := h.inf.fresh f, win := h.win.fresh f, turn := h.turn.trans (Turn.fresh f) }
theorem Wr.fresh (h : Wr S0 w0 w g b v H wl s P) (f : Fresh w w') : Wr S0 w0 w' g b v H wl s P := { h with bd := { h.bd with inf := h.bd.inf.fresh f, win := h.bd.win.fresh f, turn := h.bd.turn.trans (Turn.fresh f) } }
/-- where an unpacker is between calls -/
def Live (S0 : List Nat) (w0 w : World) (g : Nat) (b : List UInt8) (v : V) (H : List UInt8) : Prop :=
  (∃ wl s P, Dn S0 w0 w g b v H wl s P) ∨ (∃ o p k rl wl s, Core S0 w0 w g b v o p H k rl wl s ∧ Any w v s H) ∨ (∃ wl s P, Wr S0 w0 w g b v H wl s P)
theorem unpack_live (h : Live S0 w w g b v H0) (hM : M ≤ 65536) (hH : H0.length ≤ 17179869184) :
    Calls Tryd.prog 23 #[ptr g, .int .i64 M] w (UnIs S0 w g b H0 M) := by
  rcases h with ⟨wl, s, P, h⟩ | ⟨o, p, k, rl, wl, s, h, ha⟩ | ⟨wl, s, P, h⟩
  · have hn : w.cell? ⟨g, 5, none⟩ = some (iv (4 : Nat)) := by rw [← h.next]; exact h.inf.cell rfl
    refine (unpack_done w g M hn).mono ?_
    rintro e w' ⟨rfl, f⟩
    exact ⟨none, 0, 0, [], 0, rfl, Nat.zero_le _, Own.nil _ _ _, .inl ⟨rfl, v, wl, s, P, by rw [List.append_nil]; exact h.fresh f⟩⟩
  · exact unpack_go S0 w g b H0 M hM hH v o p k rl wl s h ha
  · have hn : w.cell? ⟨g, 5, none⟩ = some (iv (5 : Nat)) := by
      have h5 : w.cell? ⟨g, 5, none⟩ = some (iv v.next) := h.bd.inf.cell rfl
      rw [h.next] at h5
      exact h5
    refine (unpack_wrong w g M hn).mono ?_
    rintro e w' ⟨rfl, f⟩
    exact ⟨none, 0, 0, [], 12, rfl, Nat.zero_le _, Own.nil _ _ _, .inr (.inr (.inr ⟨rfl, v, wl, s, P, by rw [List.append_nil]; exact h.fresh f⟩))⟩
/-! the sign that ErrData was told -/
theorem Dn.sign (h : Dn S0 w0 w g b v H wl s P) (t : Bool) : Dn (g :: wl) (w.setCell ⟨g, 15, none⟩ (.bool t)) (w.setCell ⟨g, 15, none⟩ (.bool t)) g b { v with told := t } H wl s P :=
  { h with
    inf := h.inf.put 15 (.bool t)
    win := h.win.turn (Turn.but (S := [g]) (But.put _ _) (by simp)) (fun x hx e => h.win.off h.inf (by simp at e; rwa [e] at hx))
    turn := Turn.refl _ _
    tol := Bk.cell (cs := V.cells { v with told := t }) (h.inf.put 15 (.bool t)) rfl }
theorem Wr.sign (h : Wr S0 w0 w g b v H wl s P) (t : Bool) : Wr (g :: wl) (w.setCell ⟨g, 15, none⟩ (.bool t)) (w.setCell ⟨g, 15, none⟩ (.bool t)) g b { v with told := t } H wl s P :=
  { h with bd := { h.bd with
    inf := h.bd.inf.put 15 (.bool t)
    win := h.bd.win.turn (Turn.but (S := [g]) (But.put _ _) (by simp)) (fun x hx e => h.bd.win.off h.bd.inf (by simp at e; rwa [e] at hx))
    turn := Turn.refl _ _
    tol := Bk.cell (cs := V.cells { v with told := t }) (h.bd.inf.put 15 (.bool t)) rfl } }
theorem Core.sign (h : Core S0 w0 w g b v o p H k rl wl s) (ha : Any w v s H) (t : Bool) : ∃ rl', Core (g :: (rl' ++ wl)) (w.setCell ⟨g, 15, none⟩ (.bool t)) (w.setCell ⟨g, 15, none⟩ (.bool t)) g b { v with told := t } o p H k rl' wl s ∧ Any (w.setCell ⟨g, 15, none⟩ (.bool t)) { v with told := t } s H := by
  have hT : Turn (g :: (rl ++ wl)) (g :: (rl ++ wl)) w (w.setCell ⟨g, 15, none⟩ (.bool t)) := Turn.but (But.put _ _) (by simp)
  have hT1 : Turn [g] [g] w (w.setCell ⟨g, 15, none⟩ (.bool t)) := Turn.but (But.put _ _) (by simp)
  have hany : Any (w.setCell ⟨g, 15, none⟩ (.bool t)) { v with told := t } s H := by
    rcases ha with ha | ha | ⟨xa, xb, e, hn, hU, hq⟩ | ⟨xa, xb, X, e, hn, hU, hP, hl, hq⟩
    · exact .inl ha
    · exact .inr (.inl ha)
    · exact .inr (.inr (.inl ⟨xa, xb, e, hn, UseAt.go (v' := { v with told := t }) hU h.st hT rfl rfl, hq⟩))
    · exact .inr (.inr (.inr ⟨xa, xb, X, e, hn, UseAt.go (v' := { v with told := t }) hU h.st hT rfl rfl, hP, hl, hq⟩))
  have hi : InfAt (w.setCell ⟨g, 15, none⟩ (.bool t)) g { v with told := t } := h.st.inf.put 15 (.bool t)
  refine ⟨rl, { h with st := { h.st with inf := hi, rest := ?_, bits := ?_, win := h.st.win.turn hT1 (fun x hx e => h.st.win.off h.st.inf (by simp at e; rwa [e] at hx)) }, fix := FixAt.go (v' := { v with told := t }) h.fix h.st hT rfl rfl, ord := h.ord.keep (hT.block 1 h.w0_ h.zero), kin := Nat.lt_of_lt_of_le h.kin hT.size, turn := Turn.refl _ _, tol := hi.cell rfl, kb := ⟨_, hi.cell rfl, h.st.kk⟩ }, hany⟩
  · obtain ⟨A, n, c, e, hr⟩ := h.st.rest
    exact ⟨A, n, c, e, hr.turn hT1 (by simpa using h.st.kg)⟩
  · have hgr := h.st.grl
    exact h.st.bits.imp id fun ⟨q, e, hR⟩ => ⟨q, e, hR.turn hT1 (fun x hx e => hgr (by simp at e; rwa [e] at hx))⟩
end
end Go.Proofs.YtlaecigjnknhoaaDoor.infp
