/-
  Unpacking under way: what holds at a label; a scope with labels. My own text.
-/
import Derived.Test.YtlaecigjnknhoaaDoorInfWhole
import Derived.Scope
import Derived.WalkMore
namespace Go.Proofs.YtlaecigjnknhoaaDoor.infp
open Go.RowKit Go.Proofs.YtlaecigjnknhoaaDoor.base Go.Proofs.YtlaecigjnknhoaaDoor.num Go.Proofs.YtlaecigjnknhoaaDoor.bitnum Go.Proofs.YtlaecigjnknhoaaDoor.bitp Go.Proofs.YtlaecigjnknhoaaDoor.huffnum Go.Proofs.YtlaecigjnknhoaaDoor.huffp Go.Proofs.YtlaecigjnknhoaaDoor.infnum
set_option linter.unusedVariables false

/-- by a goto to l: J l -/
def Jumps (J : Nat → Act → World → Prop) (Q : Exit → Act → World → Prop) : Exit → Act → World → Prop
  | .goto l, a, w => J l a w
  | e, a, w => Q e a w
section
variable {P : Program} {a : Act} {w : World} {Q : Exit → Act → World → Prop}
theorem Jumps_ret (J : Nat → Act → World → Prop) : Jumps J Q .ret a w = Q .ret a w := rfl
/-- a scope with many labels: what holds at each, with a number that falls -/
theorem wp_scope_labels {c : Code} (J : Nat → Nat → Act → World → Prop)
    (first : c.wp P (Jumps (fun l a w => ∃ m, J m l a w) Q) a w)
    (pass : ∀ m l a w, J m l a w → ∃ rest, findLabel c l = some rest ∧ rest.wp P (Jumps (fun l' a' w' => ∃ m', m' < m ∧ J m' l' a' w') Q) a w) : (Code.scope c).wp P Q a w := by
  intro b k cs
  have hg : ∀ l rest, findLabel c l = some rest → gotoIn l (.inScope c :: k) = some (.code rest :: .inScope c :: k) := fun l rest hf => by simp [gotoIn, hf]
  have key : ∀ n l a w rest, J n l a w → findLabel c l = some rest → ∃ e a' w', Q e a' w' ∧ Arrives P (lone (b.at a (.code rest :: .inScope c :: k)) cs w) b k cs e a' w' := by
    intro n
    induction n using Nat.strongRecOn with
    | _ n ih =>
      intro l a w rest hJ hf
      obtain ⟨rest', hf', hp⟩ := pass n l a w hJ
      rw [hf] at hf'
      injection hf' with hf'
      subst hf'
      obtain ⟨e, a₁, w₁, hq, harr⟩ := hp b (.inScope c :: k) cs
      cases e with
      | normal => exact ⟨.normal, a₁, w₁, hq, Steps.trans harr (.one step_inScope)⟩
      | exit id => exact ⟨.exit id, a₁, w₁, hq, fun k' hk => harr k' (by simp [exitTo, hk])⟩
      | goto l' =>
        obtain ⟨m', hlt, hJ'⟩ := hq
        obtain ⟨rest2, hf2, _⟩ := pass m' l' a₁ w₁ hJ'
        obtain ⟨e₂, a₂, w₂, hq₂, harr₂⟩ := ih m' hlt l' a₁ w₁ rest2 hJ' hf2
        exact ⟨e₂, a₂, w₂, hq₂, .of_steps (harr _ (hg l' rest2 hf2)) harr₂⟩
      | ret => exact ⟨_, a₁, w₁, hq, harr⟩
      | panic ch => exact ⟨_, a₁, w₁, hq, harr⟩
      | outgrown => exact ⟨_, a₁, w₁, hq, harr⟩
  obtain ⟨e, a₁, w₁, hq, harr⟩ := first b (.inScope c :: k) cs
  cases e with
  | normal => exact ⟨.normal, a₁, w₁, hq, .head step_scope (Steps.trans harr (.one step_inScope))⟩
  | exit id => exact ⟨.exit id, a₁, w₁, hq, fun k' hk => .head step_scope (harr k' (by simp [exitTo, hk]))⟩
  | goto l' =>
    obtain ⟨m', hJ'⟩ := hq
    obtain ⟨rest2, hf2, _⟩ := pass m' l' a₁ w₁ hJ'
    obtain ⟨e₂, a₂, w₂, hq₂, harr₂⟩ := key m' l' a₁ w₁ rest2 hJ' hf2
    exact ⟨e₂, a₂, w₂, hq₂, .of_steps (.head step_scope (harr _ (hg l' rest2 hf2))) harr₂⟩
  | ret => exact ⟨_, a₁, w₁, hq, .of_steps (.one step_scope) harr⟩
  | panic ch => exact ⟨_, a₁, w₁, hq, .of_steps (.one step_scope) harr⟩
  | outgrown => exact ⟨_, a₁, w₁, hq, .of_steps (.one step_scope) harr⟩
end

/-- what is still to be handed out of a symbol: X is all, H what came -/
def Pend (v : V) (H X : List UInt8) : Prop := (v.back = 0 ∧ v.left ≤ 1 ∧ X = H ++ List.replicate v.left v.one) ∨ (1 ≤ v.back ∧ v.back ≤ min 32768 H.length ∧ X = infnum.copied v.back v.left H)
theorem symV_told (v : V) (x : Nat × Nat × UInt8) : (symV v x).told = v.told := by
  unfold symV
  split
  · rfl
  · split <;> rfl
/-- the unpacker goes on: blocks, the way to the abstract state s -/
structure Core (S0 : List Nat) (w0 w : World) (g : Nat) (b : List UInt8) (v : V) (o p : Nat) (H : List UInt8) (k : Nat) (rl wl : List Nat) (s : At) : Prop where
  st : St w g v b o p H k rl wl
  fix : FixAt w v
  ord : Ord w
  g0 : 1 < g
  r0 : ∀ x ∈ rl, 1 < x
  l0 : ∀ x ∈ wl, 1 < x
  kin : k < w.heap.size
  turn : Turn S0 (g :: (rl ++ wl)) w0 w
  way : infnum.Steps (num b) (8 * b.length) (infnum.start, 0) (s, 8 * o + p)
  tol : w0.cell? ⟨g, 15, none⟩ = some (.bool v.told)
  kb : ∃ r0, w0.cell? ⟨g, 0, none⟩ = some r0 ∧ blkOf r0 = k
/-- what was handed out by this call -/
structure Out (w0 w : World) (A : Option Addr) (n c : Nat) (Y : List UInt8) (g k : Nat) (rl wl : List Nat) : Prop where
  own : Own w w0.heap.size 5 A n c (Y.map bv)
  off : ∀ x, (Value.slice A n c).ownBlock = some x → x ∉ g :: (rl ++ wl) ∧ x ≠ k
section
variable {S0 : List Nat} {w0 w w' : World} {g o p p' k q n c : Nat} {v v' : V} {b H Y : List UInt8} {rl rl' wl wl' : List Nat} {s s' : At} {A : Option Addr}
theorem Out.len (h : Out w0 w A n c Y g k rl wl) : Y.length = n := by have := h.own.1; simpa using this
theorem Out.turn (h : Out w0 w A n c Y g k rl wl) (t : Turn (g :: (rl ++ wl)) (g :: (rl' ++ wl')) w w') : Out w0 w' A n c Y g k rl' wl' where
  own := bitp.Own.turn h.own t fun x hx e => (h.off x e).1 hx
  off x e := ⟨t.apart (World.ownsRow.lt h.own x e).2 (h.off x e).1, (h.off x e).2⟩
theorem Out.fresh (h : Out w0 w A n c Y g k rl wl) (f : Fresh w w') : Out w0 w' A n c Y g k rl wl := ⟨h.own.fresh f, h.off⟩
theorem Turn.left {S S' T : List Nat} (g : Nat) (h : Turn (g :: S) (g :: S') w w') : Turn (g :: (S ++ T)) (g :: (S' ++ T)) w w' := by
  refine Turn.wide h (fun x hx => ?_) fun x hx => ?_
  · rcases List.mem_cons.1 hx with rfl | hx
    · simp
    · simp [hx]
  · rcases List.mem_cons.1 hx with rfl | hx
    · exact .inl (by simp)
    · rcases List.mem_append.1 hx with hx | hx
      · rcases h.sub x (List.mem_cons_of_mem _ hx) with h1 | h1
        · rcases List.mem_cons.1 h1 with rfl | h1
          · exact .inl (by simp)
          · exact .inl (by simp [h1])
        · exact .inr h1
      · exact .inl (by simp [hx])
theorem Turn.right {S S' T : List Nat} (g : Nat) (h : Turn (g :: S) (g :: S') w w') : Turn (g :: (T ++ S)) (g :: (T ++ S')) w w' := by
  refine Turn.wide h (fun x hx => ?_) fun x hx => ?_
  · rcases List.mem_cons.1 hx with rfl | hx
    · simp
    · simp [hx]
  · rcases List.mem_cons.1 hx with rfl | hx
    · exact .inl (by simp)
    · rcases List.mem_append.1 hx with hx | hx
      · exact .inl (by simp [hx])
      · rcases h.sub x (List.mem_cons_of_mem _ hx) with h1 | h1
        · rcases List.mem_cons.1 h1 with rfl | h1
          · exact .inl (by simp)
          · exact .inl (by simp [h1])
        · exact .inr h1
theorem WinAt.ty {val : Value} (h : WinAt w val H wl) : ∀ x ∈ wl, Ty w x 5 := by
  obtain ⟨A, n, c, win, rfl, hn, ho, hr, rfl⟩ := h
  exact fun x hx => Own.ty ho x (by simpa using hx)
theorem St.code (h : St w g v b o p H k rl wl) {cc : Nat} {ls cbl : List Nat} (hC : CodeAt w cc ls cbl) : ∀ x ∈ cbl, x ∉ g :: (rl ++ wl) := fun x hx hm => by
  rcases List.mem_cons.1 hm with rfl | hm
  · exact code_inf hC h.inf hx
  · rcases List.mem_append.1 hm with hm | hm
    · rcases h.bits with ⟨_, _, e⟩ | ⟨q, _, hR⟩
      · rw [e] at hm; cases hm
      · exact code_off hC hR x hx hm
    · have := WinAt.ty h.win x hm
      rcases CodeAt.ty hC x hx with t | t | t <;> exact absurd (this.uniq t) (by decide)
theorem UseAt.go {a b' : List Nat} (hU : UseAt w v a b') (h : St w g v b o p H k rl wl) (t : Turn (g :: (rl ++ wl)) (g :: (rl' ++ wl')) w w') (hs : v'.sy = v.sy) (hd : v'.di = v.di) : UseAt w' v' a b' := by
  obtain ⟨s, d, sbl, dbl, h1, h2, hCs, hCd, hF⟩ := hU
  exact ⟨s, d, sbl, dbl, by rw [hs]; exact h1, by rw [hd]; exact h2, hCs.turn t (h.code hCs), hCd.turn t (h.code hCd), hF⟩
theorem FixAt.go (hU : FixAt w v) (h : St w g v b o p H k rl wl) (t : Turn (g :: (rl ++ wl)) (g :: (rl' ++ wl')) w w') (hs : v'.f0 = v.f0) (hd : v'.f1 = v.f1) : FixAt w' v' := by
  rcases hU with hU | ⟨s, d, sbl, dbl, h1, h2, hCs, hCd⟩
  · exact .inl (by rw [hs]; exact hU)
  · exact .inr ⟨s, d, sbl, dbl, by rw [hs]; exact h1, by rw [hd]; exact h2, hCs.turn t (h.code hCs), hCd.turn t (h.code hCd)⟩
theorem Core.zero (h : Core S0 w0 w g b v o p H k rl wl s) : 1 ∉ g :: (rl ++ wl) := fun hx => by
  rcases List.mem_cons.1 hx with e | hx
  · have := h.g0; omega
  · rcases List.mem_append.1 hx with hx | hx
    · have := h.r0 1 hx; omega
    · have := h.l0 1 hx; omega
theorem Core.w0_ (h : Core S0 w0 w g b v o p H k rl wl s) : 1 < w.heap.size := Nat.lt_trans h.g0 h.st.inf.inside
theorem Core.src (h : Core S0 w0 w g b v o p H k rl wl s) (hq : v.bits = ptr q) (hk : SrcIs w g v' q ((b.drop o).take v.fed) p' rl w')
    (e1 : v'.rest = v.rest) (e2 : v'.fed = v.fed) (e3 : v'.bits = v.bits) (e4 : v'.win = v.win) (e5 : v'.all = v.all) (hf : FixAt w' v') (hway : infnum.Steps (num b) (8 * b.length) (infnum.start, 0) (s', 8 * o + p')) (e8 : v'.told = v.told := by first | rfl | exact symV_told _ _) :
    ∃ rl', Core S0 w0 w' g b v' o p' H k rl' wl s' ∧ Turn (g :: rl) (g :: rl') w w' := by
  obtain ⟨rl', hS, hT⟩ := hk
  have hTT : Turn (g :: (rl ++ wl)) (g :: (rl' ++ wl)) w w' := Turn.left g hT
  have hwo : ∀ x ∈ wl, x ∉ g :: rl := fun x hx h' => by
    rcases List.mem_cons.1 h' with rfl | h'
    · exact h.st.win.off h.st.inf hx
    · exact h.st.rw x h' hx
  have hkr : k ∉ g :: rl := fun h' => by
    rcases List.mem_cons.1 h' with h' | h'
    · exact h.st.kg h'
    · exact h.st.kr h'
  have hkr' : k ∉ g :: rl' := hT.apart h.kin hkr
  refine ⟨rl', ⟨⟨hS.inf, ?_, h.st.sm, by rw [e2]; exact h.st.fed, .inr ⟨q, by rw [e3]; exact hq, by rw [e2]; exact hS.rdr⟩, by rw [e2]; have := hS.le; rwa [h.st.seen] at this, by rw [e4]; exact h.st.win.turn hT hwo, by rw [e5]; exact h.st.all, fun hx => hkr' (List.mem_cons_of_mem _ hx), h.st.kw, h.st.kg, fun x hx hx' => hT.apart (h.st.win.inside x hx') (hwo x hx') (List.mem_cons_of_mem _ hx), by rw [e1]; exact h.st.kk⟩, hf, ?_, h.g0, ?_, h.l0, Nat.lt_of_lt_of_le h.kin hT.size, h.turn.trans hTT, hway, by rw [e8]; exact h.tol, h.kb⟩, hT⟩
  · obtain ⟨A, n, c, e, hr⟩ := h.st.rest
    exact ⟨A, n, c, by rw [e1]; exact e, hr.turn hT hkr⟩
  · exact h.ord.keep (hTT.block 1 h.w0_ h.zero)
  · intro x hx
    rcases hT.sub x (List.mem_cons_of_mem _ hx) with h' | h'
    · rcases List.mem_cons.1 h' with rfl | h'
      · exact h.g0
      · exact h.r0 x h'
    · have := h.w0_; omega
theorem St.grl (h : St w g v b o p H k rl wl) : g ∉ rl := by
  rcases h.bits with ⟨_, _, e⟩ | ⟨q, hq, _⟩
  · rw [e]; simp
  · exact (h.src hq).off
theorem St.rin (h : St w g v b o p H k rl wl) : ∀ x ∈ rl, x < w.heap.size := by
  rcases h.bits with ⟨_, _, e⟩ | ⟨q, _, hR⟩
  · rw [e]; simp
  · exact hR.inside
theorem Core.add (h : Core S0 w0 w g b v o p H k rl wl s) {val : Value} {x : UInt8} (hi : InfAt w' g { v with win := val, all := H.length + 1 }) (hw : WinAt w' val (H ++ [x]) wl') (hT : Turn (g :: wl) (g :: wl') w w') :
    Core S0 w0 w' g b { v with win := val, all := H.length + 1 } o p (H ++ [x]) k rl wl' s ∧ Turn (g :: (rl ++ wl)) (g :: (rl ++ wl')) w w' := by
  have hTT : Turn (g :: (rl ++ wl)) (g :: (rl ++ wl')) w w' := Turn.right g hT
  have hro : ∀ x ∈ rl, x ∉ g :: wl := fun x hx h' => by
    rcases List.mem_cons.1 h' with rfl | h'
    · exact h.st.grl hx
    · exact h.st.rw x hx h'
  have hkw : k ∉ g :: wl := fun h' => by
    rcases List.mem_cons.1 h' with h' | h'
    · exact h.st.kg h'
    · exact h.st.kw h'
  refine ⟨⟨⟨hi, ?_, h.st.sm, h.st.fed, ?_, h.st.ple, hw, by simp, h.st.kr, fun hx => hT.apart h.kin hkw (List.mem_cons_of_mem _ hx), h.st.kg, fun x hx hx' => hT.apart (h.st.rin x hx) (hro x hx) (List.mem_cons_of_mem _ hx'), h.st.kk⟩, FixAt.go h.fix h.st hTT rfl rfl, h.ord.keep (hTT.block 1 h.w0_ h.zero), h.g0, h.r0, ?_, Nat.lt_of_lt_of_le h.kin hT.size, h.turn.trans hTT, h.way, h.tol, h.kb⟩, hTT⟩
  · obtain ⟨A, n, c, e, hr⟩ := h.st.rest
    exact ⟨A, n, c, e, hr.turn hT hkw⟩
  · exact h.st.bits.imp id fun ⟨q, e, hR⟩ => ⟨q, e, hR.turn hT hro⟩
  · intro x hx
    rcases hT.sub x (List.mem_cons_of_mem _ hx) with h' | h'
    · rcases List.mem_cons.1 h' with rfl | h'
      · exact h.g0
      · exact h.l0 x h'
    · have := h.w0_; omega
theorem Core.feed (h : Core S0 w0 w g b v o p H k rl wl s) (hs : St w' g v' b (o + p / 8) (p % 8) H k rl' wl) (hv : ∃ R F B, v' = { v with rest := R, fed := F, bits := B }) (hT : Turn (g :: rl) (g :: rl') w w') :
    Core S0 w0 w' g b v' (o + p / 8) (p % 8) H k rl' wl s ∧ Turn (g :: (rl ++ wl)) (g :: (rl' ++ wl)) w w' := by
  obtain ⟨R, F, B, rfl⟩ := hv
  have hTT : Turn (g :: (rl ++ wl)) (g :: (rl' ++ wl)) w w' := Turn.left g hT
  refine ⟨⟨hs, FixAt.go h.fix h.st hTT rfl rfl, h.ord.keep (hTT.block 1 h.w0_ h.zero), h.g0, ?_, h.l0, Nat.lt_of_lt_of_le h.kin hT.size, h.turn.trans hTT, ?_, h.tol, h.kb⟩, hTT⟩
  · intro x hx
    rcases hT.sub x (List.mem_cons_of_mem _ hx) with h' | h'
    · rcases List.mem_cons.1 h' with rfl | h'
      · exact h.g0
      · exact h.r0 x h'
    · have := h.w0_; omega
  · have e : 8 * (o + p / 8) + p % 8 = 8 * o + p := by omega
    rw [e]; exact h.way
theorem Core.fresh (h : Core S0 w0 w g b v o p H k rl wl s) (f : Fresh w w') : Core S0 w0 w' g b v o p H k rl wl s :=
  { h with
    st := h.st.fresh f
    fix := FixAt.go h.fix h.st (Turn.fresh f) rfl rfl
    ord := h.ord.keep (f.block 1 h.w0_)
    kin := Nat.lt_of_lt_of_le h.kin f.size
    turn := h.turn.trans (Turn.fresh f) }
theorem Core.put (h : Core S0 w0 w g b v o p H k rl wl s) (hq : v.bits = ptr q) (i : Nat) (u : Value) (hv : v'.cells = v.cells.set i u)
    (e1 : v'.rest = v.rest) (e2 : v'.fed = v.fed) (e3 : v'.bits = v.bits) (e4 : v'.win = v.win) (e5 : v'.all = v.all) (e6 : v'.f0 = v.f0) (e7 : v'.f1 = v.f1) (e8 : v'.told = v.told := by first | rfl | exact symV_told _ _) :
    ∃ rl', Core S0 w0 (w.setCell ⟨g, i, none⟩ u) g b v' o p H k rl' wl s ∧ Turn (g :: rl) (g :: rl') w (w.setCell ⟨g, i, none⟩ u) := by
  have hk := (h.st.src hq).put i u hv e3
  have hT : Turn (g :: (rl ++ wl)) (g :: (rl ++ wl)) w (w.setCell ⟨g, i, none⟩ u) := Turn.but (But.put _ _) (by simp)
  exact h.src hq hk e1 e2 e3 e4 e5 (FixAt.go h.fix h.st hT e6 e7) h.way e8

/-! where unpacking is -/
def PhHead (v : V) (s : At) (H : List UInt8) : Prop := s = ⟨.head, false, H⟩ ∧ v.next = 0
def PhRaw (v : V) (s : At) (H : List UInt8) : Prop := s = ⟨.raw v.left, v.last, H⟩ ∧ v.next = 1 ∧ v.left ≤ 400000 ∧ ∃ q, v.bits = ptr q
def PhSym (w : World) (v : V) (s : At) (H : List UInt8) : Prop := ∃ a b, s = ⟨.sy a b, v.last, H⟩ ∧ v.next = 2 ∧ UseAt w v a b ∧ ∃ q, v.bits = ptr q
def PhCopy (w : World) (v : V) (s : At) (H : List UInt8) : Prop := ∃ a b X, s = ⟨.sy a b, v.last, X⟩ ∧ v.next = 3 ∧ UseAt w v a b ∧ Pend v H X ∧ v.left ≤ 400000 ∧ ∃ q, v.bits = ptr q
/-- all is unpacked -/
structure Dn (S0 : List Nat) (w0 w : World) (g : Nat) (b : List UInt8) (v : V) (H : List UInt8) (wl : List Nat) (s : At) (P : Nat) : Prop where
  inf : InfAt w g v
  next : v.next = 4
  fin : Fin s
  out : s.out = H
  win : WinAt w v.win H wl
  all : v.all = H.length
  behind : v.behind = b.length - (P + 7) / 8
  turn : Turn S0 (g :: wl) w0 w
  way : infnum.Steps (num b) (8 * b.length) (infnum.start, 0) (s, P)
  le : P ≤ 8 * b.length
  tol : w0.cell? ⟨g, 15, none⟩ = some (.bool v.told)
  nr : blkOf v.rest = 0
/-- what isn't right was met -/
structure Bd (S0 : List Nat) (w0 w : World) (g : Nat) (b : List UInt8) (v : V) (H : List UInt8) (wl : List Nat) (s : At) (P : Nat) : Prop where
  inf : InfAt w g v
  bad : infnum.one s (num b) (8 * b.length) P = .error 12
  out : s.out = H
  win : WinAt w v.win H wl
  all : v.all = H.length
  turn : Turn S0 (g :: wl) w0 w
  way : infnum.Steps (num b) (8 * b.length) (infnum.start, 0) (s, P)
  tol : w0.cell? ⟨g, 15, none⟩ = some (.bool v.told)
structure Wr (S0 : List Nat) (w0 w : World) (g : Nat) (b : List UInt8) (v : V) (H : List UInt8) (wl : List Nat) (s : At) (P : Nat) : Prop where
  bd : Bd S0 w0 w g b v H wl s P
  next : v.next = 5
  nr : blkOf v.rest = 0
def Any (w : World) (v : V) (s : At) (H : List UInt8) : Prop := PhHead v s H ∨ PhRaw v s H ∨ PhSym w v s H ∨ PhCopy w v s H
/-- how much is ahead -/
def ahead_ (b : List UInt8) (v : V) (o p : Nat) : Nat := 100 * (8 * b.length - (8 * o + p)) + 100 * (b.length - (o + v.fed))
theorem Turn.only {S S' : List Nat} (g : Nat) (h : Turn S (g :: (S' ++ wl)) w0 w) : Turn S (g :: wl) w0 w := h.to fun x hx => h.sub x (by
  rcases List.mem_cons.1 hx with rfl | hx
  · simp
  · simp [hx])
theorem Core.bd (h : Core S0 w0 w g b v o p H k rl wl s) (hq : v.bits = ptr q) (hk : SrcIs w g v' q ((b.drop o).take v.fed) p' rl w') (e4 : v'.win = v.win) (e5 : v'.all = v.all) (hs : s.out = H)
    (hbad : infnum.one s (num b) (8 * b.length) (8 * o + p) = .error 12) (e8 : v'.told = v.told := by first | rfl | exact symV_told _ _) : Bd S0 w0 w' g b v' H wl s (8 * o + p) ∧ ∃ rl', Turn (g :: (rl ++ wl)) (g :: (rl' ++ wl)) w w' := by
  obtain ⟨rl', hS, hT⟩ := hk
  have hTT : Turn (g :: (rl ++ wl)) (g :: (rl' ++ wl)) w w' := Turn.left g hT
  have hwo : ∀ x ∈ wl, x ∉ g :: rl := fun x hx h' => by
    rcases List.mem_cons.1 h' with rfl | h'
    · exact h.st.win.off h.st.inf hx
    · exact h.st.rw x h' hx
  exact ⟨⟨hS.inf, hbad, hs, by rw [e4]; exact h.st.win.turn hT hwo, by rw [e5]; exact h.st.all, Turn.only g (h.turn.trans hTT), h.way, by rw [e8]; exact h.tol⟩, rl', hTT⟩
theorem Core.le (h : Core S0 w0 w g b v o p H k rl wl s) : 8 * o + p ≤ 8 * b.length := by
  have := h.st.ple; have := h.st.fed; omega
/-- a part that was whole -/
theorem Core.next (h : Core S0 w0 w g b v o p H k rl wl s) (hf : ¬ Fin s) (h1 : infnum.one s (num ((b.drop o).take v.fed)) (8 * v.fed) p = .ok (s', p')) : p' ≤ 8 * v.fed ∧ infnum.Steps (num b) (8 * b.length) (infnum.start, 0) (s', 8 * o + p') := by
  obtain ⟨h2, h3⟩ := seen_ok (infnum.Good.one hf) b o v.fed p h.st.fed h.st.ple h1
  exact ⟨h2, h.way.snoc h3⟩
theorem headP_out {out : List UInt8} {U T p p' : Nat} {s : At} (h : headP out U T p = .ok (s, p')) : s.out = out ∧ p + 3 ≤ p' := by
  have hl := ((infnum.Good.head out).loc _ _ _ _ _ h).1
  unfold headP at h
  obtain ⟨x, m, h1, h⟩ := also_of h
  obtain ⟨_, hm, _⟩ := take_lt h1
  split at h
  · rw [headP_len] at h
    obtain ⟨n, m2, h2, h⟩ := also_of h
    have := (show infnum.Good lenP from infnum.Good.also infnum.Good.align fun _ => infnum.Good.also (infnum.Good.take 16) fun n => infnum.Good.also (infnum.Good.take 16) fun t => infnum.Good.ite (infnum.Good.give _) (infnum.Good.fail 12 (.inr rfl))).loc _ _ _ _ _ h2
    injection h with h
    injection h with h3 h4
    rw [← h3]
    exact ⟨rfl, by have := this.1; omega⟩
  · split at h
    · injection h with h
      injection h with h3 h4
      rw [← h3]
      exact ⟨rfl, by omega⟩
    · split at h
      · obtain ⟨c, m2, h2, h⟩ := also_of h
        have := infnum.Good.codes.loc _ _ _ _ _ h2
        injection h with h
        injection h with h3 h4
        rw [← h3]
        exact ⟨rfl, by have := this.1; omega⟩
      · cases h
theorem headP_raw {out : List UInt8} {U T p p' z : Nat} {L : Bool} {o' : List UInt8} (h : headP out U T p = .ok (⟨.raw z, L, o'⟩, p')) : z ≤ 400000 := by
  unfold headP at h
  obtain ⟨x, m, h1, h⟩ := also_of h
  split at h
  · rw [headP_len] at h
    obtain ⟨n, m2, h2, h⟩ := also_of h
    injection h with h
    injection h with h3 h4
    injection h3 with h3 _ _
    injection h3 with h3
    subst h3
    unfold lenP at h2
    obtain ⟨_, m3, _, h2⟩ := also_of h2
    obtain ⟨y, m4, hy, h2⟩ := also_of h2
    obtain ⟨t, m5, _, h2⟩ := also_of h2
    split at h2
    · injection h2 with h2
      injection h2 with h2 _
      have := (take_lt hy).1
      omega
    · cases h2
  · split at h
    · injection h with h
      injection h with h3 h4
      injection h3 with h3 _ _
      cases h3
    · split at h
      · obtain ⟨c, m2, h2, h⟩ := also_of h
        injection h with h
        injection h with h3 h4
        injection h3 with h3 _ _
        cases h3
      · cases h
theorem PhSym.go (hp : PhSym w v s H) (h : Core S0 w0 w g b v o p H k rl wl s) (t : Turn (g :: (rl ++ wl)) (g :: (rl' ++ wl')) w w') : PhSym w' v s H := by
  obtain ⟨x, y, h1, h2, h3, h4⟩ := hp
  exact ⟨x, y, h1, h2, h3.go h.st t rfl rfl, h4⟩
/-- only fields have turned -/
theorem Core.inf (h : Core S0 w0 w g b v o p H k rl wl s) (hq : v.bits = ptr q) (hi : InfAt w' g v') (hT : Turn [g] [g] w w') (e1 : v'.rest = v.rest) (e2 : v'.fed = v.fed) (e3 : v'.bits = v.bits) (e4 : v'.win = v.win) (e5 : v'.all = v.all) (e6 : v'.f0 = v.f0) (e7 : v'.f1 = v.f1) (e8 : v'.told = v.told := by first | rfl | exact symV_told _ _) :
    ∃ rl', Core S0 w0 w' g b v' o p H k rl' wl s ∧ Turn (g :: rl) (g :: rl') w w' := by
  have hS := h.st.src hq
  have hTg : Turn (g :: rl) (g :: rl) w w' := Turn.wide hT (by simp) fun x hx => .inl hx
  have hTT : Turn (g :: (rl ++ wl)) (g :: (rl ++ wl)) w w' := Turn.left g hTg
  have hk : SrcIs w g v' q ((b.drop o).take v.fed) p rl w' := ⟨rl, ⟨hi, by rw [e3]; exact hq, hS.rdr.turn hT (fun x hx hx' => by rw [List.mem_singleton] at hx'; subst hx'; exact hS.off hx), hS.le, hS.sm⟩, hTg⟩
  exact h.src hq hk e1 e2 e3 e4 e5 (FixAt.go h.fix h.st hTT e6 e7) h.way e8
theorem code_row {R : List Nat} (hR : ∀ x ∈ R, Ty w x 5) {cc : Nat} {ls cbl : List Nat} (hC : CodeAt w cc ls cbl) : ∀ x ∈ cbl, x ∉ R := fun x hx hm => by
  have := hR x hm
  rcases CodeAt.ty hC x hx with t | t | t <;> exact absurd (this.uniq t) (by decide)
theorem UseAt.aside {a b' : List Nat} {R R' : List Nat} (hU : UseAt w v a b') (t : Turn R R' w w') (hR : ∀ x ∈ R, Ty w x 5) (hs : v'.sy = v.sy) (hd : v'.di = v.di) : UseAt w' v' a b' := by
  obtain ⟨s, d, sbl, dbl, h1, h2, hCs, hCd, hF⟩ := hU
  exact ⟨s, d, sbl, dbl, by rw [hs]; exact h1, by rw [hd]; exact h2, hCs.turn t (code_row hR hCs), hCd.turn t (code_row hR hCd), hF⟩
/-- another row of bytes has turned -/
theorem Core.aside (h : Core S0 w0 w g b v o p H k rl wl s) {R : List Nat} (t : Turn R R w w') (hR : ∀ x ∈ R, x ∉ g :: (rl ++ wl) ∧ x ≠ k ∧ 1 < x) (hT : ∀ x ∈ R, Ty w x 5) (ht0 : Turn S0 (g :: (rl ++ wl)) w0 w') : Core S0 w0 w' g b v o p H k rl wl s := by
  have hg : g ∉ R := fun hx => (hR g hx).1 (by simp)
  have hr : ∀ x ∈ rl, x ∉ R := fun x hx hm => (hR x hm).1 (by simp [hx])
  have hw : ∀ x ∈ wl, x ∉ R := fun x hx hm => (hR x hm).1 (by simp [hx])
  have hk : k ∉ R := fun hx => (hR k hx).2.1 rfl
  have h0 : 1 ∉ R := fun hx => by have := (hR 1 hx).2.2; omega
  refine { h with st := { h.st with inf := h.st.inf.old (t.block g h.st.inf.inside hg), rest := ?_, bits := ?_, win := h.st.win.turn t hw }, fix := ?_, ord := h.ord.keep (t.block 1 h.w0_ h0), kin := Nat.lt_of_lt_of_le h.kin t.size, turn := ht0 }
  · obtain ⟨A, n, c, e, hrow⟩ := h.st.rest
    exact ⟨A, n, c, e, hrow.turn t hk⟩
  · exact h.st.bits.imp id fun ⟨q, e, hR'⟩ => ⟨q, e, hR'.turn t hr⟩
  · rcases h.fix with hU | ⟨s, d, sbl, dbl, h1, h2, hCs, hCd⟩
    · exact .inl hU
    · exact .inr ⟨s, d, sbl, dbl, h1, h2, hCs.turn t (code_row hT hCs), hCd.turn t (code_row hT hCd)⟩
/-- a byte more is handed out -/
theorem Core.push (h : Core S0 w0 w g b v o p H k rl wl s) (hO : Out w0 w A n c Y g k rl wl) {x : UInt8} {gg cap : Nat} {obj : Obj} (hw0 : 1 < w0.heap.size)
    (hown : Own w' w0.heap.size 5 (some ⟨gg, 0, none⟩) (n + 1) cap (Y.map bv ++ [bv x])) (hgrow : (w.alloc obj).grownBy w' (Value.slice A n c).ownBlock) (hat : (Value.slice A n c).ownBlock = some gg ∨ gg = w.heap.size + 1) :
    Core S0 w0 w' g b v o p H k rl wl s ∧ Out w0 w' (some ⟨gg, 0, none⟩) (n + 1) cap (Y ++ [x]) g k rl wl ∧ ∃ R, Turn R R (w.alloc obj) w' ∧ ∀ x ∈ R, Ty (w.alloc obj) x 5 := by
  have hC2 := h.fresh (Fresh.alloc w obj)
  have hO2 := hO.fresh (Fresh.alloc w obj)
  have ht : Turn (Value.slice A n c).ownBlock.toList (Value.slice A n c).ownBlock.toList (w.alloc obj) w' := Turn.of_grown hgrow fun b hb => by simp [hb]
  have hty : ∀ x ∈ (Value.slice A n c).ownBlock.toList, Ty (w.alloc obj) x 5 := fun x hx => Own.ty hO2.own x (by simpa using hx)
  have hlow : ∀ x ∈ (Value.slice A n c).ownBlock.toList, x ∉ g :: (rl ++ wl) ∧ x ≠ k ∧ 1 < x := fun x hx => by
    have hx' : (Value.slice A n c).ownBlock = some x := by simpa using hx
    exact ⟨(hO.off x hx').1, (hO.off x hx').2, by have := (World.ownsRow.lt hO.own x hx').1; omega⟩
  refine ⟨hC2.aside ht hlow hty (Turn.grow hC2.turn hgrow fun x hx => (World.ownsRow.lt hO.own x hx).1), ⟨?_, fun x hx => ?_⟩, _, ht, hty⟩
  · have e : Y.map bv ++ [bv x] = (Y ++ [x]).map bv := by simp
    rw [e] at hown
    exact hown
  · simp only [Value.ownBlock, Option.some.injEq] at hx
    subst hx
    rcases hat with e | e
    · exact hO.off _ e
    · subst e
      refine ⟨fun hx => ?_, by have := h.kin; omega⟩
      rcases List.mem_cons.1 hx with e | hx
      · have := h.st.inf.inside; omega
      · rcases List.mem_append.1 hx with hx | hx
        · have := h.st.rin _ hx; omega
        · have := h.st.win.inside _ hx; omega
end
end Go.Proofs.YtlaecigjnknhoaaDoor.infp
