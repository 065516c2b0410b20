import Derived.Test.YtlaecigjnknhoaaDoorInfNew
/-
  Get, Done, Rest of an unpacker between calls, apart from other rows. My own text.
-/
namespace Go.Proofs.YtlaecigjnknhoaaDoor.infp
open Go.RowKit Go.Proofs.YtlaecigjnknhoaaDoor.base Go.Proofs.YtlaecigjnknhoaaDoor.num Go.Proofs.YtlaecigjnknhoaaDoor.bitnum Go.Proofs.YtlaecigjnknhoaaDoor.bitp Go.Proofs.YtlaecigjnknhoaaDoor.huffnum Go.Proofs.YtlaecigjnknhoaaDoor.huffp Go.Proofs.YtlaecigjnknhoaaDoor.infnum
set_option linter.unusedVariables false

set_option maxHeartbeats 4000000 in
set_option maxRecDepth 100000 in
theorem done_dn (w : World) (g : Nat) (hn : w.cell? ⟨g, 5, none⟩ = some (iv (4 : Nat))) : Calls Tryd.prog 14 #[ptr g] w fun e w' => e = .returned (.bool true) ∧ Fresh w w' := by
  have hu := unpack_done w g 0 hn
  have HU := Lib.hid hu
  have HN := Lib.hid hn
  have hin : ∀ w', Fresh w w' → w'.cell? ⟨g, 5, none⟩ = some (iv (4 : Nat)) := fun w' f => by
    by_cases hlt : g < w.heap.size
    · exact (World.cell?_of_block (f.block g hlt)).trans HN.out
    · exfalso
      have := HN.out
      simp [World.cell?, Array.getElem?_eq_none (Nat.not_lt.1 hlt)] at this
  have HIN := Lib.hid hin
  clear hu hin
  go_enter Tryd.func14, Tryd.ntmps14
  go_wp2_with (go_at_call 23; refine HU.out.mono ?_; rintro e w2 ⟨rfl, hf⟩; have h5 := HIN.out _ hf)
  go_ret
  exact ⟨rfl, hf⟩
/-- what isn't right, or lacks, behind X -/
def Bad (b X : List UInt8) (er : Nat) : Prop := ∃ s P, infnum.Steps (num b) (8 * b.length) (infnum.start, 0) (s, P) ∧ ¬ Fin s ∧ infnum.one s (num b) (8 * b.length) P = .error er ∧ s.out = X
theorem fin_no {s : At} {U T p e : Nat} (h : infnum.one s U T p = .error e) (he : e ≠ 0) : ¬ Fin s := fun hf => by
  unfold infnum.one at h
  rw [hf.1] at h
  simp only [hf.2, if_true] at h
  injection h with h
  exact he h.symm
section
variable {S S' S0 R R' : List Nat} {w0 w w' : World} {g o p k P M N : Nat} {v : V} {b H H0 X : List UInt8} {rl wl : List Nat} {s : At}
theorem Core.subs (h : Core S w w g b v o p H k rl wl s) : ∀ x ∈ g :: (rl ++ wl), x ∈ S ∧ x < w.heap.size := fun x hx => by
  have hlt : x < w.heap.size := by
    rcases List.mem_cons.1 hx with rfl | hx
    · exact h.st.inf.inside
    · rcases List.mem_append.1 hx with hx | hx
      · exact h.st.rin x hx
      · exact h.st.win.inside x hx
  rcases h.turn.sub x hx with h1 | h1
  · exact ⟨h1, hlt⟩
  · omega
theorem row_subs (hi : InfAt w g v) (hw : WinAt w v.win H wl) (hT : Turn S (g :: wl) w w) : ∀ x ∈ g :: wl, x ∈ S ∧ x < w.heap.size := fun x hx => by
  have hlt : x < w.heap.size := by
    rcases List.mem_cons.1 hx with rfl | hx
    · exact hi.inside
    · exact hw.inside x hx
  rcases hT.sub x hx with h1 | h1
  · exact ⟨h1, hlt⟩
  · omega
theorem Live.inf (h : Live S w w g b v H) : InfAt w g v := by
  rcases h with ⟨wl, s, P, h⟩ | ⟨o, p, k, rl, wl, s, h, ha⟩ | ⟨wl, s, P, h⟩
  · exact h.inf
  · exact h.st.inf
  · exact h.bd.inf
theorem Any.next (h : Any w v s H) : v.next ≠ 4 := by
  rcases h with h | h | ⟨a, b, _, h, _⟩ | ⟨a, b, X, _, h, _⟩
  · rw [h.2]; decide
  · rw [h.2.1]; decide
  · rw [h]; decide
  · rw [h]; decide
theorem Pend.le {X : List UInt8} (h : Pend v H X) : H.length ≤ X.length := by
  rcases h with ⟨_, _, rfl⟩ | ⟨_, _, rfl⟩
  · rw [List.length_append]; omega
  · obtain ⟨m, hm, _⟩ := infnum.copied_more v.back v.left H
    rw [hm, List.length_append]; omega
theorem Any.out (h : Any w v s H) : H.length ≤ s.out.length := by
  rcases h with h | h | ⟨a, b, h, _⟩ | ⟨a, b, X, h, _, _, hp, _⟩
  · rw [h.1]; exact Nat.le_refl _
  · rw [h.1]; exact Nat.le_refl _
  · rw [h]; exact Nat.le_refl _
  · rw [h]; exact hp.le
/-- so much, at least, is unpacked -/
theorem Live.reach (h : Live S w w g b v H) : ∃ s P, infnum.Steps (num b) (8 * b.length) (infnum.start, 0) (s, P) ∧ H.length ≤ s.out.length := by
  rcases h with ⟨wl, s, P, h⟩ | ⟨o, p, k, rl, wl, s, h, ha⟩ | ⟨wl, s, P, h⟩
  · exact ⟨s, P, h.way, by rw [h.out]; exact Nat.le_refl _⟩
  · exact ⟨s, _, h.way, ha.out⟩
  · exact ⟨s, P, h.bd.way, by rw [h.bd.out]; exact Nat.le_refl _⟩
/-- all is unpacked -/
theorem Live.done (h : Live S w w g b v H) (hn : v.next = 4) : Unp b H (b.length - v.behind) ∧ v.behind ≤ b.length := by
  rcases h with ⟨wl, s, P, h⟩ | ⟨o, p, k, rl, wl, s, h, ha⟩ | ⟨wl, s, P, h⟩
  · have hb := h.behind
    have hle := h.le
    exact ⟨⟨s, P, h.way, h.fin, h.out, by omega, h.le⟩, by omega⟩
  · exact absurd hn ha.next
  · rw [h.next] at hn; cases hn
theorem LiveX.inf (h : LiveX w g b v H R N) : InfAt w g v := by
  obtain ⟨_, S, h, _⟩ := h
  exact h.inf
/-- another row of bytes has turned -/
theorem Core.past (h : Core S0 w0 w g b v o p H k rl wl s) (t : Turn R R w w') (hR : ∀ x ∈ R, x ∉ g :: (rl ++ wl) ∧ x ≠ k ∧ 1 < x) (hT : ∀ x ∈ R, Ty w x 5) : Core (g :: (rl ++ wl)) w' w' g b v o p H k rl wl s := by
  have hg : g ∉ R := fun hx => (hR g hx).1 (by simp)
  have hr : ∀ x ∈ rl, x ∉ R := fun x hx hm => (hR x hm).1 (by simp [hx])
  have hw : ∀ x ∈ wl, x ∉ R := fun x hx hm => (hR x hm).1 (by simp [hx])
  have hk : k ∉ R := fun hx => (hR k hx).2.1 rfl
  have h0 : 1 ∉ R := fun hx => by have := (hR 1 hx).2.2; omega
  have hi := h.st.inf.old (t.block g h.st.inf.inside hg)
  refine { h with st := { h.st with inf := hi, rest := ?_, bits := ?_, win := h.st.win.turn t hw }, fix := ?_, ord := h.ord.keep (t.block 1 h.w0_ h0), kin := Nat.lt_of_lt_of_le h.kin t.size, turn := Turn.refl _ _, tol := hi.cell rfl, kb := ⟨_, hi.cell rfl, h.st.kk⟩ }
  · obtain ⟨A, n, c, e, hrow⟩ := h.st.rest
    exact ⟨A, n, c, e, hrow.turn t hk⟩
  · exact h.st.bits.imp id fun ⟨q, e, hR'⟩ => ⟨q, e, hR'.turn t hr⟩
  · rcases h.fix with hU | ⟨s, d, sbl, dbl, h1, h2, hCs, hCd⟩
    · exact .inl hU
    · exact .inr ⟨s, d, sbl, dbl, h1, h2, hCs.turn t (code_row hT hCs), hCd.turn t (code_row hT hCd)⟩
theorem Any.past (ha : Any w v s H) (t : Turn R R w w') (hT : ∀ x ∈ R, Ty w x 5) : Any w' v s H := by
  rcases ha with ha | ha | ⟨xa, xb, e, hn, hU, hq⟩ | ⟨xa, xb, X, e, hn, hU, hP, hl, hq⟩
  · exact .inl ha
  · exact .inr (.inl ha)
  · exact .inr (.inr (.inl ⟨xa, xb, e, hn, UseAt.aside (v' := v) hU t hT rfl rfl, hq⟩))
  · exact .inr (.inr (.inr ⟨xa, xb, X, e, hn, UseAt.aside (v' := v) hU t hT rfl rfl, hP, hl, hq⟩))
/-- the same, with another row of bytes that has turned, or is new -/
theorem LiveX.past (h : LiveX w g b v H R N) (t : Turn R R w w') (hT : ∀ x ∈ R, Ty w x 5) (hR' : ∀ x ∈ R', x ∈ R ∨ (w.heap.size ≤ x ∧ x < w'.heap.size)) : LiveX w' g b v H R' N := by
  obtain ⟨hGN, S, hL, hN, hR⟩ := h
  have hi0 := hL.inf
  have hin := hi0.inside
  have key : ∀ Z : List Nat, (∀ x ∈ Z, x ∈ S ∧ x < w.heap.size) → g ∈ Z → blkOf v.rest < w.heap.size → (∀ x ∈ R, x ∉ Z) ∧ (∀ x ∈ Z, N ≤ x) ∧ ∀ x ∈ R', x ∉ Z ∧ 1 < x ∧ x < w'.heap.size ∧ x ≠ blkOf v.rest := fun Z hZ hgZ hb => by
    have hNg := hN g (hZ g hgZ).1
    refine ⟨fun x hx h' => (hR x hx).1 (hZ x h').1, fun x hx => hN x (hZ x hx).1, fun x hx => ?_⟩
    rcases hR' x hx with h2 | h2
    · exact ⟨fun h' => (hR x h2).1 (hZ x h').1, (hR x h2).2.1, Nat.lt_of_lt_of_le (hR x h2).2.2.1 t.size, (hR x h2).2.2.2⟩
    · exact ⟨fun h' => (by have := (hZ x h').2; omega), by omega, h2.2, by omega⟩
  rcases hL with ⟨wl, s, P, h⟩ | ⟨o, p, k, rl, wl, s, h, ha⟩ | ⟨wl, s, P, h⟩
  · obtain ⟨k1, k2, k3⟩ := key _ (row_subs h.inf h.win h.turn) (by simp) (by rw [h.nr]; omega)
    have hi := h.inf.old (t.block g h.inf.inside (fun hx => k1 g hx (by simp)))
    exact ⟨hGN, g :: wl, .inl ⟨wl, s, P, { h with inf := hi, win := h.win.turn t (fun x hx hm => k1 x hm (by simp [hx])), turn := Turn.refl _ _, tol := hi.cell rfl }⟩, k2, k3⟩
  · obtain ⟨k1, k2, k3⟩ := key _ h.subs (by simp) (by rw [h.st.kk]; exact h.kin)
    have hC := h.past t (fun x hx => ⟨k1 x hx, by rw [← h.st.kk]; exact (hR x hx).2.2.2, (hR x hx).2.1⟩) hT
    exact ⟨hGN, _, .inr (.inl ⟨o, p, k, rl, wl, s, hC, ha.past t hT⟩), k2, k3⟩
  · obtain ⟨k1, k2, k3⟩ := key _ (row_subs h.bd.inf h.bd.win h.bd.turn) (by simp) (by rw [h.nr]; omega)
    have hi := h.bd.inf.old (t.block g h.bd.inf.inside (fun hx => k1 g hx (by simp)))
    exact ⟨hGN, g :: wl, .inr (.inr ⟨wl, s, P, { h with bd := { h.bd with inf := hi, win := h.bd.win.turn t (fun x hx hm => k1 x hm (by simp [hx])), turn := Turn.refl _ _, tol := hi.cell rfl } }⟩), k2, k3⟩
theorem LiveX.fresh (h : LiveX w g b v H R N) (f : Fresh w w') : LiveX w' g b v H R N := by
  obtain ⟨hGN, S, hL, hN, hR⟩ := h
  have hR2 : ∀ x ∈ R, x < w'.heap.size := fun x hx => Nat.lt_of_lt_of_le (hR x hx).2.2.1 f.size
  have key : ∀ Z : List Nat, (∀ x ∈ Z, x ∈ S ∧ x < w.heap.size) → (∀ x ∈ Z, N ≤ x) ∧ ∀ x ∈ R, x ∉ Z ∧ 1 < x ∧ x < w'.heap.size ∧ x ≠ blkOf v.rest := fun Z hZ =>
    ⟨fun x hx => hN x (hZ x hx).1, fun x hx => ⟨fun h' => (hR x hx).1 (hZ x h').1, (hR x hx).2.1, hR2 x hx, (hR x hx).2.2.2⟩⟩
  rcases hL with ⟨wl, s, P, h⟩ | ⟨o, p, k, rl, wl, s, h, ha⟩ | ⟨wl, s, P, h⟩
  · obtain ⟨k2, k3⟩ := key _ (row_subs h.inf h.win h.turn)
    exact ⟨hGN, _, .inl ⟨wl, s, P, (h.fresh f).here⟩, k2, k3⟩
  · obtain ⟨k2, k3⟩ := key _ h.subs
    refine ⟨hGN, _, .inr (.inl ⟨o, p, k, rl, wl, s, (h.fresh f).here, ?_⟩), k2, k3⟩
    exact ha.past (R := []) (Turn.fresh f) (by simp)
  · obtain ⟨k2, k3⟩ := key _ (row_subs h.bd.inf h.bd.win h.bd.turn)
    exact ⟨hGN, _, .inr (.inr ⟨wl, s, P, (h.fresh f).here⟩), k2, k3⟩
/-- what unpack told, and the unpacker behind it -/
theorem UnIs.go (hL : LiveX w g b v H R N) : ∃ S, Live S w w g b v H ∧ (∀ x ∈ S, N ≤ x) ∧ (∀ x ∈ R, x ∉ S) ∧ ∀ e w' M, UnIs S w g b H M e w' →
    ∃ A n c Y er, e = .returned (.tuple #[.slice A n c, .int .i64 (er : Nat)]) ∧ n ≤ M ∧ Own w' w.heap.size 5 A n c (Y.map bv) ∧ Y.length = n ∧ (∃ S', g ∈ S' ∧ Turn S S' w w') ∧
      (∃ v', v'.told = v.told ∧ LiveX w' g b v' (H ++ Y) R N ∧ (er = 0 → v'.next = 4 ∨ n = M)) ∧ (er ≠ 0 → Bad b (H ++ Y) er) := by
  obtain ⟨hGN, S, hL, hN, hR⟩ := hL
  have hi0 := hL.inf
  have hin := hi0.inside
  have h0 : w.cell? ⟨g, 0, none⟩ = some v.rest := hi0.cell rfl
  have h15 : w.cell? ⟨g, 15, none⟩ = some (.bool v.told) := hi0.cell rfl
  have told : ∀ v' : V, w.cell? ⟨g, 15, none⟩ = some (.bool v'.told) → v'.told = v.told := fun v' h => by
    rw [h15] at h
    injection h with h
    injection h with h
    exact h.symm
  refine ⟨S, hL, hN, fun x hx => (hR x hx).1, ?_⟩
  rintro e w' M ⟨A, n, c, Y, er, rfl, hnM, hOw, hst⟩
  have hYl : Y.length = n := by have := hOw.1; simpa using this
  have hNg : N ≤ g := by
    rcases hL with ⟨wl, s, P, h⟩ | ⟨o, p, k, rl, wl, s, h, ha⟩ | ⟨wl, s, P, h⟩
    · exact hN g (row_subs h.inf h.win h.turn g (by simp)).1
    · exact hN g (h.subs g (by simp)).1
    · exact hN g (row_subs h.bd.inf h.bd.win h.bd.turn g (by simp)).1
  have key : ∀ (Z : List Nat) (K : Nat), Turn S Z w w' → (K = 0 ∨ K = blkOf v.rest) → (∀ x ∈ Z, N ≤ x) ∧ ∀ x ∈ R, x ∉ Z ∧ 1 < x ∧ x < w'.heap.size ∧ x ≠ K := fun Z K hT hK =>
    ⟨fun x hx => (by
      rcases hT.sub x hx with h1 | h1
      · exact hN x h1
      · omega), fun x hx => ⟨hT.apart (hR x hx).2.2.1 (hR x hx).1, (hR x hx).2.1, Nat.lt_of_lt_of_le (hR x hx).2.2.1 hT.size, by
        rcases hK with e | e
        · have := (hR x hx).2.1; omega
        · rw [e]; exact (hR x hx).2.2.2⟩⟩
  refine ⟨A, n, c, Y, er, rfl, hnM, hOw, hYl, ?_⟩
  have core : ∀ {v' : V} {o p k : Nat} {rl wl : List Nat} {s : At}, Core S w w' g b v' o p (H ++ Y) k rl wl s → Any w' v' s (H ++ Y) → v'.told = v.told ∧ LiveX w' g b v' (H ++ Y) R N := fun hC ha => by
    obtain ⟨r0, e0, ek⟩ := hC.kb
    rw [h0] at e0
    injection e0 with e0
    subst e0
    obtain ⟨k2, k3⟩ := key _ _ hC.turn (.inr ek.symm)
    exact ⟨told _ hC.tol, hGN, _, .inr (.inl ⟨_, _, _, _, _, _, hC.here, ha⟩), k2, by rw [hC.st.kk]; exact k3⟩
  rcases hst with ⟨rfl, v2, wl, s, P, hD⟩ | ⟨rfl, hn, v2, o, p, k, rl, wl, s, hC, ha⟩ | ⟨rfl, v2, o, p, k, rl, wl, s, hC, hp, hbad⟩ | ⟨rfl, v2, wl, s, P, hW⟩
  · obtain ⟨k2, k3⟩ := key _ 0 hD.turn (.inl rfl)
    exact ⟨⟨_, by simp, hD.turn⟩, ⟨v2, told _ hD.tol, ⟨hGN, _, .inl ⟨wl, s, P, hD.here⟩, k2, by rw [hD.nr]; exact k3⟩, fun _ => .inl hD.next⟩, fun h => absurd rfl h⟩
  · obtain ⟨c1, c2⟩ := core hC ha
    exact ⟨⟨_, by simp, hC.turn⟩, ⟨v2, c1, c2, fun _ => .inr hn⟩, fun h => absurd rfl h⟩
  · have ha : Any w' v2 s (H ++ Y) := by
      rcases hp with h | h | h
      · exact .inl h
      · exact .inr (.inl h)
      · exact .inr (.inr (.inl h))
    obtain ⟨c1, c2⟩ := core hC ha
    refine ⟨⟨_, by simp, hC.turn⟩, ⟨v2, c1, c2, fun h => by cases h⟩, fun _ => ⟨s, _, hC.way, fin_no hbad (by decide), hbad, ?_⟩⟩
    rcases hp with h | h | ⟨_, _, h, _⟩
    · rw [h.1]
    · rw [h.1]
    · rw [h]
  · obtain ⟨k2, k3⟩ := key _ 0 hW.bd.turn (.inl rfl)
    exact ⟨⟨_, by simp, hW.bd.turn⟩, ⟨v2, told _ hW.bd.tol, ⟨hGN, _, .inr (.inr ⟨wl, s, P, hW.here⟩), k2, by rw [hW.nr]; exact k3⟩, fun h => by cases h⟩, fun _ => ⟨s, P, hW.bd.way, fin_no hW.bd.bad (by decide), hW.bd.bad, hW.bd.out⟩⟩
/-- the sign that ErrData was told, when all is unpacked -/
theorem LiveX.sign (h : LiveX w g b v H R N) (hn : v.next = 4) (t : Bool) : LiveX (w.setCell ⟨g, 15, none⟩ (.bool t)) g b { v with told := t } H R N := by
  obtain ⟨hGN, S, hL, hN, hR⟩ := h
  have hsz : w.heap.size ≤ (w.setCell ⟨g, 15, none⟩ (.bool t)).heap.size := (But.put (g := g) (i := 15) w (.bool t)).size
  have key : ∀ Z : List Nat, (∀ x ∈ Z, x ∈ S ∧ x < w.heap.size) → (∀ x ∈ Z, N ≤ x) ∧ ∀ x ∈ R, x ∉ Z ∧ 1 < x ∧ x < (w.setCell ⟨g, 15, none⟩ (.bool t)).heap.size ∧ x ≠ blkOf v.rest := fun Z hZ =>
    ⟨fun x hx => hN x (hZ x hx).1, fun x hx => ⟨fun h' => (hR x hx).1 (hZ x h').1, (hR x hx).2.1, Nat.lt_of_lt_of_le (hR x hx).2.2.1 hsz, (hR x hx).2.2.2⟩⟩
  rcases hL with ⟨wl, s, P, h⟩ | ⟨o, p, k, rl, wl, s, h, ha⟩ | ⟨wl, s, P, h⟩
  · obtain ⟨k2, k3⟩ := key _ (row_subs h.inf h.win h.turn)
    exact ⟨hGN, _, .inl ⟨wl, s, P, h.sign t⟩, k2, k3⟩
  · exact absurd hn ha.next
  · rw [h.next] at hn; cases hn
theorem LiveX.done (h : LiveX w g b v H R N) (hn : v.next = 4) : Unp b H (b.length - v.behind) ∧ v.behind ≤ b.length := by
  obtain ⟨_, S, h, _⟩ := h
  exact h.done hn
theorem LiveX.reach (h : LiveX w g b v H R N) : ∃ s P, infnum.Steps (num b) (8 * b.length) (infnum.start, 0) (s, P) ∧ H.length ≤ s.out.length := by
  obtain ⟨_, S, h, _⟩ := h
  exact h.reach
/-- of what was there only blocks from N on have turned, and none of R -/
def TurnX (w w' : World) (R : List Nat) (N : Nat) : Prop := ∃ S S', Turn S S' w w' ∧ (∀ x ∈ S, N ≤ x) ∧ ∀ x ∈ R, x ∉ S
theorem get_x (h : LiveX w g b v H R N) (ht : v.told = false) (Z : Nat) (hZ : Z ≤ 1099511627776) (hH : H.length ≤ 17179869184) (M : Nat) (hM : min Z 65536 = M) :
    Calls Tryd.prog 13 #[ptr g, .int .i64 Z] w fun e w' => ∃ A n c Y er, e = .returned (.tuple #[.slice A n c, .int .i64 (er : Nat)]) ∧ n ≤ M ∧ Own w' w.heap.size 5 A n c (Y.map bv) ∧ Y.length = n ∧ TurnX w w' R N ∧
      ((er = 0 ∧ ∃ v', v'.told = false ∧ LiveX w' g b v' (H ++ Y) R N ∧ (v'.next = 4 ∨ n = M)) ∨ (er ≠ 0 ∧ Bad b (H ++ Y) er)) := by
  obtain ⟨S, hL, hN, hR, hgo⟩ := UnIs.go h
  refine (get_live hL ht Z hZ hH).mono ?_
  rw [hM]
  rintro e w' ⟨A, n, c, er, w1, hu, hst⟩
  obtain ⟨A', n', c', Y, er', he, hnM, hOw, hY, ⟨S', hgS, hT⟩, ⟨v', hv1, hv2, hv3⟩, hbad⟩ := hgo _ _ _ hu
  injection he with he
  injection he with he
  have h1 := congrArg (fun a : Array Value => a[0]?) he
  have h2 := congrArg (fun a : Array Value => a[1]?) he
  simp only [List.getElem?_toArray, List.getElem?_cons_zero, List.getElem?_cons_succ, Option.some.injEq, Value.slice.injEq, Value.int.injEq, true_and] at h1 h2
  obtain ⟨rfl, rfl, rfl⟩ := h1
  obtain rfl : er = er' := by omega
  rcases hst with ⟨e1, rfl, rfl⟩ | ⟨e1, rfl, t, rfl, htt⟩
  · exact ⟨A, n, c, Y, 0, rfl, hnM, hOw, hY, ⟨S, S', hT, hN, hR⟩, .inl ⟨rfl, v', by rw [hv1, ht], hv2, .inr e1⟩⟩
  · have hT2 : Turn S S' w (w1.setCell ⟨g, 15, none⟩ (.bool t)) := hT.trans (Turn.but (But.put _ _) hgS)
    have hOw2 := hOw.but (But.put (g := g) (i := 15) w1 (.bool t)) (hOw.ne_block hv2.inf (by decide))
    refine ⟨A, n, c, Y, er, rfl, hnM, hOw2, hY, ⟨S, S', hT2, hN, hR⟩, ?_⟩
    by_cases h0 : er = 0
    · subst h0
      have hn4 : v'.next = 4 := by
        rcases hv3 rfl with h | h
        · exact h
        · exact absurd h e1
      have ht0 : t = false := by
        cases t with
        | false => rfl
        | true => exact absurd (htt.1 rfl) (by decide)
      subst ht0
      exact .inl ⟨rfl, _, rfl, hv2.sign hn4 false, .inl hn4⟩
    · exact .inr ⟨h0, hbad h0⟩
theorem done_x (h : LiveX w g b v H R N) (hH : H.length ≤ 17179869184) :
    Calls Tryd.prog 14 #[ptr g] w fun e w' => ∃ v', e = .returned (.bool (decide (v'.next = 4))) ∧ v'.told = v.told ∧ (v.next = 4 → v'.next = 4) ∧ LiveX w' g b v' H R N ∧ TurnX w w' R N := by
  by_cases h4 : v.next = 4
  · have h5 : w.cell? ⟨g, 5, none⟩ = some (iv (4 : Nat)) := by rw [← h4]; exact h.inf.cell rfl
    refine (done_dn w g h5).mono ?_
    rintro e w' ⟨rfl, hf⟩
    exact ⟨v, by rw [h4]; rfl, rfl, fun _ => h4, h.fresh hf, [], [], Turn.fresh hf, by simp, by simp⟩
  obtain ⟨S, hL, hN, hR, hgo⟩ := UnIs.go h
  refine (done_live hL hH).mono ?_
  rintro e w' ⟨e1, x, hu, hc, t, rfl, htx⟩
  obtain ⟨A', n', c', Y, er', he, hnM, hOw, hY, ⟨S', hgS, hT⟩, ⟨v', hv1, hv2, hv3⟩, hbad⟩ := hgo _ _ _ hu
  have hY0 : Y = [] := List.eq_nil_of_length_eq_zero (by omega)
  subst hY0
  rw [List.append_nil] at hv2
  have h5 : w'.cell? ⟨g, 5, none⟩ = some (iv v'.next) := hv2.inf.cell rfl
  rw [hc] at h5
  have hx : x = v'.next := by
    injection h5 with h5
    injection h5 with _ h5
    omega
  refine ⟨v', ?_, hv1, fun h => absurd h h4, hv2, S, S', hT, hN, hR⟩
  rw [← hx]
  have : t = decide (x = 4) := by
    cases t with
    | false => symm; rw [decide_eq_false_iff_not]; intro h; have := htx.2 h; cases this
    | true => symm; rw [decide_eq_true_iff]; exact htx.1 rfl
  rw [this]
end
/-! when all is unpacked -/
set_option maxHeartbeats 4000000 in
set_option maxRecDepth 100000 in
theorem rest_dn (w : World) (g : Nat) (v : V) (hi : InfAt w g v) (hn : v.next = 4) : Calls Tryd.prog 15 #[ptr g] w fun e w' => e = .returned (.int .i64 (v.behind : Nat)) ∧ Fresh w w' := by
  have h5 : w.cell? ⟨g, 5, none⟩ = some (iv (4 : Nat)) := by rw [← hn]; exact hi.cell rfl
  have hd := done_dn w g h5
  have HD := Lib.hid hd
  have HI := Lib.hid hi
  clear hd hi h5
  go_enter Tryd.func15, Tryd.ntmps15
  go_wp2_with (go_at_call 14; refine HD.out.mono ?_; rintro e w2 ⟨rfl, hf⟩; have h14 : w2.cell? ⟨g, 14, none⟩ = some (iv v.behind) := (HI.out.fresh hf).cell rfl)
  go_ret
  exact ⟨rfl, hf⟩
end Go.Proofs.YtlaecigjnknhoaaDoor.infp
