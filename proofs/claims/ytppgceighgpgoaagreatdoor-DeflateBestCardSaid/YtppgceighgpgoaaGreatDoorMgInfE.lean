import Derived.Test.YtppgceighgpgoaaGreatDoorMgInfC
import Derived.Test.YtppgceighgpgoaaGreatDoorMgInfD
import Derived.Scope
import Derived.WalkMore
import Derived.Deep.RegionHeld3
/- Several of my own texts, one behind the other. -/
/-
  The contracts of whole, copied, endBlock. My own text.
-/
namespace Go.Proofs.YtppgceighgpgoaaGreatDoor.infp
open Go.RowKit Go.Proofs.YtppgceighgpgoaaGreatDoor.base Go.Proofs.YtppgceighgpgoaaGreatDoor.num Go.Proofs.YtppgceighgpgoaaGreatDoor.bitnum Go.Proofs.YtppgceighgpgoaaGreatDoor.bitp Go.Proofs.YtppgceighgpgoaaGreatDoor.huffnum Go.Proofs.YtppgceighgpgoaaGreatDoor.huffp Go.Proofs.YtppgceighgpgoaaGreatDoor.infnum
set_option linter.unusedVariables false

section
variable {w : World} {g q p : Nat} {v : V} {bs : List UInt8} {rl : List Nat}
theorem HeadIs.ok {s : At} {p' : Nat} {e : Ending} {w' : World} (h : HeadIs w g v q bs p rl (.ok (s, p')) e w') : e = .returned (.int .i64 0) ∧ ∃ N L F S D F0 F1, PhAt w' { v with next := N, last := L, left := F, sy := S, di := D, f0 := F0, f1 := F1 } s ∧ FixAt w' { v with next := N, last := L, left := F, sy := S, di := D, f0 := F0, f1 := F1 } ∧
      SrcIs w g { v with next := N, last := L, left := F, sy := S, di := D, f0 := F0, f1 := F1 } q bs p' rl w' := h
theorem HeadIs.no {k : Nat} {e : Ending} {w' : World} (h : HeadIs w g v q bs p rl (.error k) e w') : e = .returned (.int .i64 (k : Nat)) ∧ ∃ p' L, p ≤ p' ∧ FixAt w' v ∧ SrcIs w g { v with last := L } q bs p' rl w' := h
/-- a part that isn't whole is given back -/
theorem Src.back (h : Src w g v q bs p rl) {m : Nat} (hm : m ≤ p) : Calls Tryz.prog 75 #[ptr q, .int .i64 m] w fun e w' => e = .returned (.tuple #[]) ∧ SrcIs w g v q bs m rl w' :=
  (back_ok q bs p m rl w h.rdr h.le h.sm hm).mono fun e w' ⟨he, hR⟩ => ⟨he, h.moved hR (Nat.le_trans hm h.le)⟩
set_option maxHeartbeats 4000000 in
set_option maxRecDepth 100000 in
theorem wholeHead_ok (h : Src w g v q bs p rl) (hO : Ord w) (hg : 1 < g) (hrl : ∀ b ∈ rl, 1 < b) (hfx : FixAt w v) (out : List UInt8) {s : At} {p2 : Nat} (hr : headP out (num bs) (8 * bs.length) p = .ok (s, p2)) :
    Calls Tryz.prog 54 #[ptr g, .func (.func 55) #[ptr g] #[]] w (HeadIs w g v q bs p rl (.ok (s, p2))) := by
  have hc := h.bits2
  have hm := mark_any q bs p rl w h.rdr
  have ht := takeHead_any h hO hg hrl hfx out hr
  go_enter Tryz.func54, Tryz.ntmps54
  go_wp2_with (first
    | (go_at_call 74; refine hm.mono ?_; rintro e w1 ⟨rfl, rfl⟩)
    | (go_at_call 55; refine ht.mono ?_; rintro e w2 hH; obtain ⟨rfl, hH2⟩ := hH.ok))
  go_ret
  exact ⟨rfl, hH2⟩
set_option maxHeartbeats 4000000 in
set_option maxRecDepth 100000 in
theorem wholeHead_no (h : Src w g v q bs p rl) (hO : Ord w) (hg : 1 < g) (hrl : ∀ b ∈ rl, 1 < b) (hfx : FixAt w v) (out : List UInt8) {k : Nat} (hr : headP out (num bs) (8 * bs.length) p = .error k) :
    Calls Tryz.prog 54 #[ptr g, .func (.func 55) #[ptr g] #[]] w fun e w' => e = .returned (.int .i64 (k : Nat)) ∧ ∃ p' L, (k = 3 → p' = p) ∧ FixAt w' v ∧ SrcIs w g { v with last := L } q bs p' rl w' := by
  have hc := h.bits2
  have hm := mark_any q bs p rl w h.rdr
  have ht := takeHead_any h hO hg hrl hfx out hr
  rcases (infnum.Good.head out).ev _ _ _ _ hr with rfl | rfl
  all_goals
    go_enter Tryz.func54, Tryz.ntmps54
    go_wp2_with (first
      | (go_at_call 74; refine hm.mono ?_; rintro e w1 ⟨rfl, rfl⟩)
      | (go_at_call 55; refine ht.mono ?_; rintro e w2 hH; obtain ⟨rfl, p2, L, hp2, hF2, rl2, hS2, hT2⟩ := hH.no; have hc2 := hS2.bits2)
      | (go_at_call 75; refine (hS2.back hp2).mono ?_; rintro e w3 ⟨rfl, rl3, hS3, hT3⟩))
    go_ret
  · exact ⟨rfl, p, L, fun _ => rfl, FixAt.by_ hF2 hS2 hT3, rl3, hS3, hT2.trans hT3⟩
  · exact ⟨rfl, p2, L, fun e => by omega, hF2, rl2, hS2, hT2⟩
set_option maxRecDepth 100000 in
theorem wholeHead_nil (h : InfAt w g v) (hb : v.bits = .pointer none) :
    Calls Tryz.prog 54 #[ptr g, .func (.func 55) #[ptr g] #[]] w fun e w' => e = .returned (.int .i64 3) ∧ w = w' := by
  have hc : w.cell? ⟨g, 2, none⟩ = some (.pointer none) := by rw [← hb]; exact h.cell rfl
  have ht : Calls Tryz.prog 55 #[ptr g] w fun e w' => e = .returned (.int .i64 3) ∧ w = w' := by
    go_enter Tryz.func55, Tryz.ntmps55
    go_wp2_with (go_at_call 76; refine (bits_nil 3 w).mono ?_; rintro e w1 ⟨rfl, rfl⟩)
    go_ret
    exact ⟨rfl, rfl⟩
  go_enter Tryz.func54, Tryz.ntmps54
  go_wp2_with (first
    | (go_at_call 74; refine (mark_nil w).mono ?_; rintro e w1 ⟨rfl, rfl⟩)
    | (go_at_call 55; refine ht.mono ?_; rintro e w2 ⟨rfl, rfl⟩)
    | (go_at_call 75; refine (back_nil 0 w).mono ?_; rintro e w3 ⟨rfl, rfl⟩))
  go_ret
  exact ⟨rfl, rfl⟩
set_option maxHeartbeats 4000000 in
set_option maxRecDepth 100000 in
theorem wholeSym_any (h : Src w g v q bs p rl) {a b : List Nat} (hU : UseAt w v a b) {A : Option Addr} {n c : Nat} (hv : v.win = .slice A n c) {r : Except Nat ((Nat × Nat × UInt8) × Nat)} (hr : symP n a b (num bs) (8 * bs.length) p = r) :
    Calls Tryz.prog 54 #[ptr g, .func (.func 58) #[ptr g] #[]] w fun e w' => match r with
      | .ok (x, p') => e = .returned (.int .i64 0) ∧ SrcIs w g (symV v x) q bs p' rl w'
      | .error k => e = .returned (.int .i64 (k : Nat)) ∧ ∃ p', (k = 3 → p' = p) ∧ SrcIs w g v q bs p' rl w' := by
  obtain ⟨s, d, sbl, dbl, hsy, hdi, hCs, hCd, hFs, hFd⟩ := hU
  have hc := h.bits2
  have hm := mark_any q bs p rl w h.rdr
  have ht := takeSymbol_any h hsy hCs hFs hdi hCd hFd hv hr
  cases r with
  | error k =>
    rcases (infnum.Good.symP n a b).ev _ _ _ _ hr with rfl | rfl
    all_goals
      go_enter Tryz.func54, Tryz.ntmps54
      go_wp2_with (first
        | (go_at_call 74; refine hm.mono ?_; rintro e w1 ⟨rfl, rfl⟩)
        | (go_at_call 58; refine ht.mono ?_; rintro e w2 hH; obtain ⟨rfl, p2, hp2, rl2, hS2, hT2⟩ := hH.no; have hc2 := hS2.bits2)
        | (go_at_call 75; refine (hS2.back hp2).mono ?_; rintro e w3 ⟨rfl, rl3, hS3, hT3⟩))
      go_ret
    · exact ⟨rfl, p, fun _ => rfl, rl3, hS3, hT2.trans hT3⟩
    · exact ⟨rfl, p2, fun e => by omega, rl2, hS2, hT2⟩
  | ok x =>
    go_enter Tryz.func54, Tryz.ntmps54
    go_wp2_with (first
      | (go_at_call 74; refine hm.mono ?_; rintro e w1 ⟨rfl, rfl⟩)
      | (go_at_call 58; refine ht.mono ?_; rintro e w2 hH; obtain ⟨rfl, hH2⟩ := hH.ok))
    go_ret
    exact ⟨rfl, hH2⟩
theorem copied_one (h : InfAt w g v) (hb : v.back = 0) : Calls Tryz.prog 59 #[ptr g] w fun e w' => e = .returned (bv v.one) ∧ Fresh w w' := by
  have h8 : w.cell? ⟨g, 8, none⟩ = some (.int .i64 0) := by have : w.cell? ⟨g, 8, none⟩ = some (iv v.back) := h.cell rfl; rw [hb] at this; exact this
  have h9 : w.cell? ⟨g, 9, none⟩ = some (bv v.one) := h.cell rfl
  go_enter Tryz.func59, Tryz.ntmps59
  go_wp2
  go_ret
  exact ⟨rfl, Fresh.refl _⟩
set_option maxHeartbeats 4000000 in
set_option maxRecDepth 100000 in
theorem copied_ago (h : InfAt w g v) {out : List UInt8} {wl : List Nat} (hw : WinAt w v.win out wl) (ha : v.all = out.length) (hn : out.length ≤ 1099511627776) (h1 : 1 ≤ v.back) (hle : v.back ≤ min 32768 out.length) {x : UInt8} (hx : out[out.length - v.back]? = some x) :
    Calls Tryz.prog 59 #[ptr g] w fun e w' => e = .returned (bv x) ∧ Fresh w w' := by
  obtain ⟨B, hB⟩ : ∃ B, v.back = B := ⟨_, rfl⟩
  have h8 : w.cell? ⟨g, 8, none⟩ = some (.int .i64 B) := by rw [← hB]; exact h.cell rfl
  rw [hB] at h1 hle hx
  have hag := ago_win g v out wl B x w.drew (h.fresh (Fresh.drew _)) (hw.fresh (Fresh.drew _)) ha hn h1 hle hx
  have HAG := Lib.hid hag
  have hb0 : ¬ (B : Int) = 0 := by omega
  clear hag hle hx hn ha hw hB
  go_enter Tryz.func59, Tryz.ntmps59
  go_wp2
  go_region_with (go_at_call 82; refine HAG.out.mono ?_; rintro e w2 ⟨rfl, hf⟩)
  all_goals
    go_wp2
    go_ret
    exact ⟨rfl, (Fresh.drew _).trans hf⟩
end
section
variable {w : World} {g o p k : Nat} {v : V} {b out : List UInt8} {rl wl : List Nat}
theorem endBlock_no (h : InfAt w g v) (hl : v.last = false) : Calls Tryz.prog 60 #[ptr g] w fun e w' => e = .returned (.tuple #[]) ∧ InfAt w' g { v with next := 0 } ∧ Turn [g] [g] w w' := by
  have h5 : w.cell? ⟨g, 5, none⟩ = some (iv v.next) := h.cell rfl
  have h6 : w.cell? ⟨g, 6, none⟩ = some (.bool false) := by rw [← hl]; exact h.cell rfl
  have z5 := h.free 5
  go_enter Tryz.func60, Tryz.ntmps60
  go_wp2
  go_end0
  exact ⟨rfl, h.put 5 _, Turn.but (But.put _ _) (by simp)⟩
set_option maxHeartbeats 4000000 in
set_option maxRecDepth 100000 in
theorem endBlock_yes (h : St w g v b o p out k rl wl) (hl : v.last = true) : Calls Tryz.prog 60 #[ptr g] w fun e w' => e = .returned (.tuple #[]) ∧
      InfAt w' g { v with rest := .slice none 0 0, fed := 0, bits := .pointer none, next := 4, behind := b.length - o - (p + 7) / 8 } ∧ Turn [g] [g] w w' := by
  have h5 : w.cell? ⟨g, 5, none⟩ = some (iv v.next) := h.inf.cell rfl
  have h6 : w.cell? ⟨g, 6, none⟩ = some (.bool true) := by rw [← hl]; exact h.inf.cell rfl
  have z5 := h.inf.free 5
  have hT1 : Turn [g] [g] w (w.setCell ⟨g, 5, none⟩ (.int .i64 0)) := Turn.but (But.put _ _) (by simp)
  have hi1 : InfAt (w.setCell ⟨g, 5, none⟩ (.int .i64 0)) g { v with next := 0 } := h.inf.put 5 _
  have hgrl : g ∉ rl := by
    rcases h.bits with ⟨_, _, e⟩ | ⟨q, hq, _⟩
    · rw [e]; simp
    · exact (h.src hq).off
  have hs1 : St (w.setCell ⟨g, 5, none⟩ (.int .i64 0)) g { v with next := 0 } b o p out k rl wl :=
    { inf := hi1
      rest := by obtain ⟨A, n, c, e, hr⟩ := h.rest; exact ⟨A, n, c, e, hr.turn hT1 (by simpa using h.kg)⟩
      sm := h.sm
      fed := h.fed
      bits := h.bits.imp id fun ⟨q, e, hR⟩ => ⟨q, e, hR.turn hT1 (fun x hx hx' => by rw [List.mem_singleton] at hx'; subst hx'; exact hgrl hx)⟩
      ple := h.ple
      win := h.win.turn hT1 (fun x hx hx' => by rw [List.mem_singleton] at hx'; subst hx'; exact h.win.off h.inf hx)
      all := h.all
      kr := h.kr
      kw := h.kw
      kg := h.kg
      rw := h.rw
      kk := h.kk }
  have hbe := behind_any hs1
  have HBE := Lib.hid hbe
  clear hbe
  go_enter Tryz.func60, Tryz.ntmps60
  go_wp2_with (go_at_call 83; refine HBE.out.mono ?_; rintro e w2 ⟨rfl, hf⟩; have hi2 := hi1.fresh hf; have c0 : w2.cell? ⟨g, 0, none⟩ = some v.rest := hi2.cell rfl; have c1 : w2.cell? ⟨g, 1, none⟩ = some (iv v.fed) := hi2.cell rfl; have c2 : w2.cell? ⟨g, 2, none⟩ = some v.bits := hi2.cell rfl; have c5 : w2.cell? ⟨g, 5, none⟩ = some (.int .i64 0) := hi2.cell rfl; have c14 : w2.cell? ⟨g, 14, none⟩ = some (iv v.behind) := hi2.cell rfl; have y0 := hi2.free 0; have y1 := hi2.free 1; have y2 := hi2.free 2; have y5 := hi2.free 5; have y14 := hi2.free 14)
  go_end0
  exact ⟨rfl, ((((hi2.put 5 _).put 14 _).put 0 _).put 1 _).put 2 _, (((((hT1.trans (Turn.fresh hf)).trans (Turn.but (But.put _ _) (by simp))).trans (Turn.but (But.put _ _) (by simp))).trans (Turn.but (But.put _ _) (by simp))).trans (Turn.but (But.put _ _) (by simp))).trans (Turn.but (But.put _ _) (by simp))⟩
end
end Go.Proofs.YtppgceighgpgoaaGreatDoor.infp
/-
  Unpacking under way: what holds at a label; a scope with labels. My own text.
-/
namespace Go.Proofs.YtppgceighgpgoaaGreatDoor.infp
open Go.RowKit Go.Proofs.YtppgceighgpgoaaGreatDoor.base Go.Proofs.YtppgceighgpgoaaGreatDoor.num Go.Proofs.YtppgceighgpgoaaGreatDoor.bitnum Go.Proofs.YtppgceighgpgoaaGreatDoor.bitp Go.Proofs.YtppgceighgpgoaaGreatDoor.huffnum Go.Proofs.YtppgceighgpgoaaGreatDoor.huffp Go.Proofs.YtppgceighgpgoaaGreatDoor.infnum
set_option linter.unusedVariables false

/-- by a goto to l: J l -/
def Jumps (J : Nat → Act → World → Prop) (Q : Exit → Act → World → Prop) : Exit → Act → World → Prop
  | .goto l, a, w => J l a w
  | e, a, w => Q e a w
section
variable {P : Program} {a : Act} {w : World} {Q : Exit → Act → World → Prop}
theorem Jumps_ret (J : Nat → Act → World → Prop) : Jumps J Q .ret a w = Q .ret a w := rfl
/-- a scope with many labels: what holds at each, with a number that falls -/
theorem wp_scope_labels {c : Code} (J : Nat → Nat → Act → World → Prop)
    (first : c.wp P (Jumps (fun l a w => ∃ m, J m l a w) Q) a w)
    (pass : ∀ m l a w, J m l a w → ∃ rest, findLabel c l = some rest ∧ rest.wp P (Jumps (fun l' a' w' => ∃ m', m' < m ∧ J m' l' a' w') Q) a w) : (Code.scope c).wp P Q a w := by
  intro b k cs
  have hg : ∀ l rest, findLabel c l = some rest → gotoIn l (.inScope c :: k) = some (.code rest :: .inScope c :: k) := fun l rest hf => by simp [gotoIn, hf]
  have key : ∀ n l a w rest, J n l a w → findLabel c l = some rest → ∃ e a' w', Q e a' w' ∧ Arrives P (lone (b.at a (.code rest :: .inScope c :: k)) cs w) b k cs e a' w' := by
    intro n
    induction n using Nat.strongRecOn with
    | _ n ih =>
      intro l a w rest hJ hf
      obtain ⟨rest', hf', hp⟩ := pass n l a w hJ
      rw [hf] at hf'
      injection hf' with hf'
      subst hf'
      obtain ⟨e, a₁, w₁, hq, harr⟩ := hp b (.inScope c :: k) cs
      cases e with
      | normal => exact ⟨.normal, a₁, w₁, hq, Steps.trans harr (.one step_inScope)⟩
      | exit id => exact ⟨.exit id, a₁, w₁, hq, fun k' hk => harr k' (by simp [exitTo, hk])⟩
      | goto l' =>
        obtain ⟨m', hlt, hJ'⟩ := hq
        obtain ⟨rest2, hf2, _⟩ := pass m' l' a₁ w₁ hJ'
        obtain ⟨e₂, a₂, w₂, hq₂, harr₂⟩ := ih m' hlt l' a₁ w₁ rest2 hJ' hf2
        exact ⟨e₂, a₂, w₂, hq₂, .of_steps (harr _ (hg l' rest2 hf2)) harr₂⟩
      | ret => exact ⟨_, a₁, w₁, hq, harr⟩
      | panic ch => exact ⟨_, a₁, w₁, hq, harr⟩
      | outgrown => exact ⟨_, a₁, w₁, hq, harr⟩
  obtain ⟨e, a₁, w₁, hq, harr⟩ := first b (.inScope c :: k) cs
  cases e with
  | normal => exact ⟨.normal, a₁, w₁, hq, .head step_scope (Steps.trans harr (.one step_inScope))⟩
  | exit id => exact ⟨.exit id, a₁, w₁, hq, fun k' hk => .head step_scope (harr k' (by simp [exitTo, hk]))⟩
  | goto l' =>
    obtain ⟨m', hJ'⟩ := hq
    obtain ⟨rest2, hf2, _⟩ := pass m' l' a₁ w₁ hJ'
    obtain ⟨e₂, a₂, w₂, hq₂, harr₂⟩ := key m' l' a₁ w₁ rest2 hJ' hf2
    exact ⟨e₂, a₂, w₂, hq₂, .of_steps (.head step_scope (harr _ (hg l' rest2 hf2))) harr₂⟩
  | ret => exact ⟨_, a₁, w₁, hq, .of_steps (.one step_scope) harr⟩
  | panic ch => exact ⟨_, a₁, w₁, hq, .of_steps (.one step_scope) harr⟩
  | outgrown => exact ⟨_, a₁, w₁, hq, .of_steps (.one step_scope) harr⟩
end

/-- what is still to be handed out of a symbol: X is all, H what came -/
def Pend (v : V) (H X : List UInt8) : Prop := (v.back = 0 ∧ v.left ≤ 1 ∧ X = H ++ List.replicate v.left v.one) ∨ (1 ≤ v.back ∧ v.back ≤ min 32768 H.length ∧ X = infnum.copied v.back v.left H)
theorem symV_told (v : V) (x : Nat × Nat × UInt8) : (symV v x).told = v.told := by
  unfold symV
  split
  · rfl
  · split <;> rfl
/-- the unpacker goes on: blocks, the way to the abstract state s -/
structure Core (S0 : List Nat) (w0 w : World) (g : Nat) (b : List UInt8) (v : V) (o p : Nat) (H : List UInt8) (k : Nat) (rl wl : List Nat) (s : At) : Prop where
  st : St w g v b o p H k rl wl
  fix : FixAt w v
  ord : Ord w
  g0 : 1 < g
  r0 : ∀ x ∈ rl, 1 < x
  l0 : ∀ x ∈ wl, 1 < x
  kin : k < w.heap.size
  turn : Turn S0 (g :: (rl ++ wl)) w0 w
  way : infnum.Steps (num b) (8 * b.length) (infnum.start, 0) (s, 8 * o + p)
  tol : w0.cell? ⟨g, 15, none⟩ = some (.bool v.told)
  kb : ∃ r0, w0.cell? ⟨g, 0, none⟩ = some r0 ∧ blkOf r0 = k
/-- what was handed out by this call -/
structure Out (w0 w : World) (A : Option Addr) (n c : Nat) (Y : List UInt8) (g k : Nat) (rl wl : List Nat) : Prop where
  own : Own w w0.heap.size 5 A n c (Y.map bv)
  off : ∀ x, (Value.slice A n c).ownBlock = some x → x ∉ g :: (rl ++ wl) ∧ x ≠ k
section
variable {S0 : List Nat} {w0 w w' : World} {g o p p' k q n c : Nat} {v v' : V} {b H Y : List UInt8} {rl rl' wl wl' : List Nat} {s s' : At} {A : Option Addr}
theorem Out.len (h : Out w0 w A n c Y g k rl wl) : Y.length = n := by have := h.own.1; simpa using this
theorem Out.turn (h : Out w0 w A n c Y g k rl wl) (t : Turn (g :: (rl ++ wl)) (g :: (rl' ++ wl')) w w') : Out w0 w' A n c Y g k rl' wl' where
  own := bitp.Own.turn h.own t fun x hx e => (h.off x e).1 hx
  off x e := ⟨t.apart (World.ownsRow.lt h.own x e).2 (h.off x e).1, (h.off x e).2⟩
theorem Out.fresh (h : Out w0 w A n c Y g k rl wl) (f : Fresh w w') : Out w0 w' A n c Y g k rl wl := ⟨h.own.fresh f, h.off⟩
theorem Turn.left {S S' T : List Nat} (g : Nat) (h : Turn (g :: S) (g :: S') w w') : Turn (g :: (S ++ T)) (g :: (S' ++ T)) w w' := by
  refine Turn.wide h (fun x hx => ?_) fun x hx => ?_
  · rcases List.mem_cons.1 hx with rfl | hx
    · simp
    · simp [hx]
  · rcases List.mem_cons.1 hx with rfl | hx
    · exact .inl (by simp)
    · rcases List.mem_append.1 hx with hx | hx
      · rcases h.sub x (List.mem_cons_of_mem _ hx) with h1 | h1
        · rcases List.mem_cons.1 h1 with rfl | h1
          · exact .inl (by simp)
          · exact .inl (by simp [h1])
        · exact .inr h1
      · exact .inl (by simp [hx])
theorem Turn.right {S S' T : List Nat} (g : Nat) (h : Turn (g :: S) (g :: S') w w') : Turn (g :: (T ++ S)) (g :: (T ++ S')) w w' := by
  refine Turn.wide h (fun x hx => ?_) fun x hx => ?_
  · rcases List.mem_cons.1 hx with rfl | hx
    · simp
    · simp [hx]
  · rcases List.mem_cons.1 hx with rfl | hx
    · exact .inl (by simp)
    · rcases List.mem_append.1 hx with hx | hx
      · exact .inl (by simp [hx])
      · rcases h.sub x (List.mem_cons_of_mem _ hx) with h1 | h1
        · rcases List.mem_cons.1 h1 with rfl | h1
          · exact .inl (by simp)
          · exact .inl (by simp [h1])
        · exact .inr h1
theorem WinAt.ty {val : Value} (h : WinAt w val H wl) : ∀ x ∈ wl, Ty w x 5 := by
  obtain ⟨A, n, c, win, rfl, hn, ho, hr, rfl⟩ := h
  exact fun x hx => Own.ty ho x (by simpa using hx)
theorem St.code (h : St w g v b o p H k rl wl) {cc : Nat} {ls cbl : List Nat} (hC : CodeAt w cc ls cbl) : ∀ x ∈ cbl, x ∉ g :: (rl ++ wl) := fun x hx hm => by
  rcases List.mem_cons.1 hm with rfl | hm
  · exact code_inf hC h.inf hx
  · rcases List.mem_append.1 hm with hm | hm
    · rcases h.bits with ⟨_, _, e⟩ | ⟨q, _, hR⟩
      · rw [e] at hm; cases hm
      · exact code_off hC hR x hx hm
    · have := WinAt.ty h.win x hm
      rcases CodeAt.ty hC x hx with t | t | t <;> exact absurd (this.uniq t) (by decide)
theorem UseAt.go {a b' : List Nat} (hU : UseAt w v a b') (h : St w g v b o p H k rl wl) (t : Turn (g :: (rl ++ wl)) (g :: (rl' ++ wl')) w w') (hs : v'.sy = v.sy) (hd : v'.di = v.di) : UseAt w' v' a b' := by
  obtain ⟨s, d, sbl, dbl, h1, h2, hCs, hCd, hF⟩ := hU
  exact ⟨s, d, sbl, dbl, by rw [hs]; exact h1, by rw [hd]; exact h2, hCs.turn t (h.code hCs), hCd.turn t (h.code hCd), hF⟩
theorem FixAt.go (hU : FixAt w v) (h : St w g v b o p H k rl wl) (t : Turn (g :: (rl ++ wl)) (g :: (rl' ++ wl')) w w') (hs : v'.f0 = v.f0) (hd : v'.f1 = v.f1) : FixAt w' v' := by
  rcases hU with hU | ⟨s, d, sbl, dbl, h1, h2, hCs, hCd⟩
  · exact .inl (by rw [hs]; exact hU)
  · exact .inr ⟨s, d, sbl, dbl, by rw [hs]; exact h1, by rw [hd]; exact h2, hCs.turn t (h.code hCs), hCd.turn t (h.code hCd)⟩
theorem Core.zero (h : Core S0 w0 w g b v o p H k rl wl s) : 1 ∉ g :: (rl ++ wl) := fun hx => by
  rcases List.mem_cons.1 hx with e | hx
  · have := h.g0; omega
  · rcases List.mem_append.1 hx with hx | hx
    · have := h.r0 1 hx; omega
    · have := h.l0 1 hx; omega
theorem Core.w0_ (h : Core S0 w0 w g b v o p H k rl wl s) : 1 < w.heap.size := Nat.lt_trans h.g0 h.st.inf.inside
theorem Core.src (h : Core S0 w0 w g b v o p H k rl wl s) (hq : v.bits = ptr q) (hk : SrcIs w g v' q ((b.drop o).take v.fed) p' rl w')
    (e1 : v'.rest = v.rest) (e2 : v'.fed = v.fed) (e3 : v'.bits = v.bits) (e4 : v'.win = v.win) (e5 : v'.all = v.all) (hf : FixAt w' v') (hway : infnum.Steps (num b) (8 * b.length) (infnum.start, 0) (s', 8 * o + p')) (e8 : v'.told = v.told := by first | rfl | exact symV_told _ _) :
    ∃ rl', Core S0 w0 w' g b v' o p' H k rl' wl s' ∧ Turn (g :: rl) (g :: rl') w w' := by
  obtain ⟨rl', hS, hT⟩ := hk
  have hTT : Turn (g :: (rl ++ wl)) (g :: (rl' ++ wl)) w w' := Turn.left g hT
  have hwo : ∀ x ∈ wl, x ∉ g :: rl := fun x hx h' => by
    rcases List.mem_cons.1 h' with rfl | h'
    · exact h.st.win.off h.st.inf hx
    · exact h.st.rw x h' hx
  have hkr : k ∉ g :: rl := fun h' => by
    rcases List.mem_cons.1 h' with h' | h'
    · exact h.st.kg h'
    · exact h.st.kr h'
  have hkr' : k ∉ g :: rl' := hT.apart h.kin hkr
  refine ⟨rl', ⟨⟨hS.inf, ?_, h.st.sm, by rw [e2]; exact h.st.fed, .inr ⟨q, by rw [e3]; exact hq, by rw [e2]; exact hS.rdr⟩, by rw [e2]; have := hS.le; rwa [h.st.seen] at this, by rw [e4]; exact h.st.win.turn hT hwo, by rw [e5]; exact h.st.all, fun hx => hkr' (List.mem_cons_of_mem _ hx), h.st.kw, h.st.kg, fun x hx hx' => hT.apart (h.st.win.inside x hx') (hwo x hx') (List.mem_cons_of_mem _ hx), by rw [e1]; exact h.st.kk⟩, hf, ?_, h.g0, ?_, h.l0, Nat.lt_of_lt_of_le h.kin hT.size, h.turn.trans hTT, hway, by rw [e8]; exact h.tol, h.kb⟩, hT⟩
  · obtain ⟨A, n, c, e, hr⟩ := h.st.rest
    exact ⟨A, n, c, by rw [e1]; exact e, hr.turn hT hkr⟩
  · exact h.ord.keep (hTT.block 1 h.w0_ h.zero)
  · intro x hx
    rcases hT.sub x (List.mem_cons_of_mem _ hx) with h' | h'
    · rcases List.mem_cons.1 h' with rfl | h'
      · exact h.g0
      · exact h.r0 x h'
    · have := h.w0_; omega
theorem St.grl (h : St w g v b o p H k rl wl) : g ∉ rl := by
  rcases h.bits with ⟨_, _, e⟩ | ⟨q, hq, _⟩
  · rw [e]; simp
  · exact (h.src hq).off
theorem St.rin (h : St w g v b o p H k rl wl) : ∀ x ∈ rl, x < w.heap.size := by
  rcases h.bits with ⟨_, _, e⟩ | ⟨q, _, hR⟩
  · rw [e]; simp
  · exact hR.inside
theorem Core.add (h : Core S0 w0 w g b v o p H k rl wl s) {val : Value} {x : UInt8} (hi : InfAt w' g { v with win := val, all := H.length + 1 }) (hw : WinAt w' val (H ++ [x]) wl') (hT : Turn (g :: wl) (g :: wl') w w') :
    Core S0 w0 w' g b { v with win := val, all := H.length + 1 } o p (H ++ [x]) k rl wl' s ∧ Turn (g :: (rl ++ wl)) (g :: (rl ++ wl')) w w' := by
  have hTT : Turn (g :: (rl ++ wl)) (g :: (rl ++ wl')) w w' := Turn.right g hT
  have hro : ∀ x ∈ rl, x ∉ g :: wl := fun x hx h' => by
    rcases List.mem_cons.1 h' with rfl | h'
    · exact h.st.grl hx
    · exact h.st.rw x hx h'
  have hkw : k ∉ g :: wl := fun h' => by
    rcases List.mem_cons.1 h' with h' | h'
    · exact h.st.kg h'
    · exact h.st.kw h'
  refine ⟨⟨⟨hi, ?_, h.st.sm, h.st.fed, ?_, h.st.ple, hw, by simp, h.st.kr, fun hx => hT.apart h.kin hkw (List.mem_cons_of_mem _ hx), h.st.kg, fun x hx hx' => hT.apart (h.st.rin x hx) (hro x hx) (List.mem_cons_of_mem _ hx'), h.st.kk⟩, FixAt.go h.fix h.st hTT rfl rfl, h.ord.keep (hTT.block 1 h.w0_ h.zero), h.g0, h.r0, ?_, Nat.lt_of_lt_of_le h.kin hT.size, h.turn.trans hTT, h.way, h.tol, h.kb⟩, hTT⟩
  · obtain ⟨A, n, c, e, hr⟩ := h.st.rest
    exact ⟨A, n, c, e, hr.turn hT hkw⟩
  · exact h.st.bits.imp id fun ⟨q, e, hR⟩ => ⟨q, e, hR.turn hT hro⟩
  · intro x hx
    rcases hT.sub x (List.mem_cons_of_mem _ hx) with h' | h'
    · rcases List.mem_cons.1 h' with rfl | h'
      · exact h.g0
      · exact h.l0 x h'
    · have := h.w0_; omega
theorem Core.feed (h : Core S0 w0 w g b v o p H k rl wl s) (hs : St w' g v' b (o + p / 8) (p % 8) H k rl' wl) (hv : ∃ R F B, v' = { v with rest := R, fed := F, bits := B }) (hT : Turn (g :: rl) (g :: rl') w w') :
    Core S0 w0 w' g b v' (o + p / 8) (p % 8) H k rl' wl s ∧ Turn (g :: (rl ++ wl)) (g :: (rl' ++ wl)) w w' := by
  obtain ⟨R, F, B, rfl⟩ := hv
  have hTT : Turn (g :: (rl ++ wl)) (g :: (rl' ++ wl)) w w' := Turn.left g hT
  refine ⟨⟨hs, FixAt.go h.fix h.st hTT rfl rfl, h.ord.keep (hTT.block 1 h.w0_ h.zero), h.g0, ?_, h.l0, Nat.lt_of_lt_of_le h.kin hT.size, h.turn.trans hTT, ?_, h.tol, h.kb⟩, hTT⟩
  · intro x hx
    rcases hT.sub x (List.mem_cons_of_mem _ hx) with h' | h'
    · rcases List.mem_cons.1 h' with rfl | h'
      · exact h.g0
      · exact h.r0 x h'
    · have := h.w0_; omega
  · have e : 8 * (o + p / 8) + p % 8 = 8 * o + p := by omega
    rw [e]; exact h.way
theorem Core.fresh (h : Core S0 w0 w g b v o p H k rl wl s) (f : Fresh w w') : Core S0 w0 w' g b v o p H k rl wl s :=
  { h with
    st := h.st.fresh f
    fix := FixAt.go h.fix h.st (Turn.fresh f) rfl rfl
    ord := h.ord.keep (f.block 1 h.w0_)
    kin := Nat.lt_of_lt_of_le h.kin f.size
    turn := h.turn.trans (Turn.fresh f) }
theorem Core.put (h : Core S0 w0 w g b v o p H k rl wl s) (hq : v.bits = ptr q) (i : Nat) (u : Value) (hv : v'.cells = v.cells.set i u)
    (e1 : v'.rest = v.rest) (e2 : v'.fed = v.fed) (e3 : v'.bits = v.bits) (e4 : v'.win = v.win) (e5 : v'.all = v.all) (e6 : v'.f0 = v.f0) (e7 : v'.f1 = v.f1) (e8 : v'.told = v.told := by first | rfl | exact symV_told _ _) :
    ∃ rl', Core S0 w0 (w.setCell ⟨g, i, none⟩ u) g b v' o p H k rl' wl s ∧ Turn (g :: rl) (g :: rl') w (w.setCell ⟨g, i, none⟩ u) := by
  have hk := (h.st.src hq).put i u hv e3
  have hT : Turn (g :: (rl ++ wl)) (g :: (rl ++ wl)) w (w.setCell ⟨g, i, none⟩ u) := Turn.but (But.put _ _) (by simp)
  exact h.src hq hk e1 e2 e3 e4 e5 (FixAt.go h.fix h.st hT e6 e7) h.way e8

/-! where unpacking is -/
def PhHead (v : V) (s : At) (H : List UInt8) : Prop := s = ⟨.head, false, H⟩ ∧ v.next = 0
def PhRaw (v : V) (s : At) (H : List UInt8) : Prop := s = ⟨.raw v.left, v.last, H⟩ ∧ v.next = 1 ∧ v.left ≤ 400000 ∧ ∃ q, v.bits = ptr q
def PhSym (w : World) (v : V) (s : At) (H : List UInt8) : Prop := ∃ a b, s = ⟨.sy a b, v.last, H⟩ ∧ v.next = 2 ∧ UseAt w v a b ∧ ∃ q, v.bits = ptr q
def PhCopy (w : World) (v : V) (s : At) (H : List UInt8) : Prop := ∃ a b X, s = ⟨.sy a b, v.last, X⟩ ∧ v.next = 3 ∧ UseAt w v a b ∧ Pend v H X ∧ v.left ≤ 400000 ∧ ∃ q, v.bits = ptr q
/-- all is unpacked -/
structure Dn (S0 : List Nat) (w0 w : World) (g : Nat) (b : List UInt8) (v : V) (H : List UInt8) (wl : List Nat) (s : At) (P : Nat) : Prop where
  inf : InfAt w g v
  next : v.next = 4
  fin : Fin s
  out : s.out = H
  win : WinAt w v.win H wl
  all : v.all = H.length
  behind : v.behind = b.length - (P + 7) / 8
  turn : Turn S0 (g :: wl) w0 w
  way : infnum.Steps (num b) (8 * b.length) (infnum.start, 0) (s, P)
  le : P ≤ 8 * b.length
  tol : w0.cell? ⟨g, 15, none⟩ = some (.bool v.told)
  nr : blkOf v.rest = 0
/-- what isn't right was met -/
structure Bd (S0 : List Nat) (w0 w : World) (g : Nat) (b : List UInt8) (v : V) (H : List UInt8) (wl : List Nat) (s : At) (P : Nat) : Prop where
  inf : InfAt w g v
  bad : infnum.one s (num b) (8 * b.length) P = .error 12
  out : s.out = H
  win : WinAt w v.win H wl
  all : v.all = H.length
  turn : Turn S0 (g :: wl) w0 w
  way : infnum.Steps (num b) (8 * b.length) (infnum.start, 0) (s, P)
  tol : w0.cell? ⟨g, 15, none⟩ = some (.bool v.told)
structure Wr (S0 : List Nat) (w0 w : World) (g : Nat) (b : List UInt8) (v : V) (H : List UInt8) (wl : List Nat) (s : At) (P : Nat) : Prop where
  bd : Bd S0 w0 w g b v H wl s P
  next : v.next = 5
  nr : blkOf v.rest = 0
def Any (w : World) (v : V) (s : At) (H : List UInt8) : Prop := PhHead v s H ∨ PhRaw v s H ∨ PhSym w v s H ∨ PhCopy w v s H
/-- how much is ahead -/
def ahead_ (b : List UInt8) (v : V) (o p : Nat) : Nat := 100 * (8 * b.length - (8 * o + p)) + 100 * (b.length - (o + v.fed))
theorem Turn.only {S S' : List Nat} (g : Nat) (h : Turn S (g :: (S' ++ wl)) w0 w) : Turn S (g :: wl) w0 w := h.to fun x hx => h.sub x (by
  rcases List.mem_cons.1 hx with rfl | hx
  · simp
  · simp [hx])
theorem Core.bd (h : Core S0 w0 w g b v o p H k rl wl s) (hq : v.bits = ptr q) (hk : SrcIs w g v' q ((b.drop o).take v.fed) p' rl w') (e4 : v'.win = v.win) (e5 : v'.all = v.all) (hs : s.out = H)
    (hbad : infnum.one s (num b) (8 * b.length) (8 * o + p) = .error 12) (e8 : v'.told = v.told := by first | rfl | exact symV_told _ _) : Bd S0 w0 w' g b v' H wl s (8 * o + p) ∧ ∃ rl', Turn (g :: (rl ++ wl)) (g :: (rl' ++ wl)) w w' := by
  obtain ⟨rl', hS, hT⟩ := hk
  have hTT : Turn (g :: (rl ++ wl)) (g :: (rl' ++ wl)) w w' := Turn.left g hT
  have hwo : ∀ x ∈ wl, x ∉ g :: rl := fun x hx h' => by
    rcases List.mem_cons.1 h' with rfl | h'
    · exact h.st.win.off h.st.inf hx
    · exact h.st.rw x h' hx
  exact ⟨⟨hS.inf, hbad, hs, by rw [e4]; exact h.st.win.turn hT hwo, by rw [e5]; exact h.st.all, Turn.only g (h.turn.trans hTT), h.way, by rw [e8]; exact h.tol⟩, rl', hTT⟩
theorem Core.le (h : Core S0 w0 w g b v o p H k rl wl s) : 8 * o + p ≤ 8 * b.length := by
  have := h.st.ple; have := h.st.fed; omega
/-- a part that was whole -/
theorem Core.next (h : Core S0 w0 w g b v o p H k rl wl s) (hf : ¬ Fin s) (h1 : infnum.one s (num ((b.drop o).take v.fed)) (8 * v.fed) p = .ok (s', p')) : p' ≤ 8 * v.fed ∧ infnum.Steps (num b) (8 * b.length) (infnum.start, 0) (s', 8 * o + p') := by
  obtain ⟨h2, h3⟩ := seen_ok (infnum.Good.one hf) b o v.fed p h.st.fed h.st.ple h1
  exact ⟨h2, h.way.snoc h3⟩
theorem headP_out {out : List UInt8} {U T p p' : Nat} {s : At} (h : headP out U T p = .ok (s, p')) : s.out = out ∧ p + 3 ≤ p' := by
  have hl := ((infnum.Good.head out).loc _ _ _ _ _ h).1
  unfold headP at h
  obtain ⟨x, m, h1, h⟩ := also_of h
  obtain ⟨_, hm, _⟩ := take_lt h1
  split at h
  · rw [headP_len] at h
    obtain ⟨n, m2, h2, h⟩ := also_of h
    have := (show infnum.Good lenP from infnum.Good.also infnum.Good.align fun _ => infnum.Good.also (infnum.Good.take 16) fun n => infnum.Good.also (infnum.Good.take 16) fun t => infnum.Good.ite (infnum.Good.give _) (infnum.Good.fail 12 (.inr rfl))).loc _ _ _ _ _ h2
    injection h with h
    injection h with h3 h4
    rw [← h3]
    exact ⟨rfl, by have := this.1; omega⟩
  · split at h
    · injection h with h
      injection h with h3 h4
      rw [← h3]
      exact ⟨rfl, by omega⟩
    · split at h
      · obtain ⟨c, m2, h2, h⟩ := also_of h
        have := infnum.Good.codes.loc _ _ _ _ _ h2
        injection h with h
        injection h with h3 h4
        rw [← h3]
        exact ⟨rfl, by have := this.1; omega⟩
      · cases h
theorem headP_raw {out : List UInt8} {U T p p' z : Nat} {L : Bool} {o' : List UInt8} (h : headP out U T p = .ok (⟨.raw z, L, o'⟩, p')) : z ≤ 400000 := by
  unfold headP at h
  obtain ⟨x, m, h1, h⟩ := also_of h
  split at h
  · rw [headP_len] at h
    obtain ⟨n, m2, h2, h⟩ := also_of h
    injection h with h
    injection h with h3 h4
    injection h3 with h3 _ _
    injection h3 with h3
    subst h3
    unfold lenP at h2
    obtain ⟨_, m3, _, h2⟩ := also_of h2
    obtain ⟨y, m4, hy, h2⟩ := also_of h2
    obtain ⟨t, m5, _, h2⟩ := also_of h2
    split at h2
    · injection h2 with h2
      injection h2 with h2 _
      have := (take_lt hy).1
      omega
    · cases h2
  · split at h
    · injection h with h
      injection h with h3 h4
      injection h3 with h3 _ _
      cases h3
    · split at h
      · obtain ⟨c, m2, h2, h⟩ := also_of h
        injection h with h
        injection h with h3 h4
        injection h3 with h3 _ _
        cases h3
      · cases h
theorem PhSym.go (hp : PhSym w v s H) (h : Core S0 w0 w g b v o p H k rl wl s) (t : Turn (g :: (rl ++ wl)) (g :: (rl' ++ wl')) w w') : PhSym w' v s H := by
  obtain ⟨x, y, h1, h2, h3, h4⟩ := hp
  exact ⟨x, y, h1, h2, h3.go h.st t rfl rfl, h4⟩
/-- only fields have turned -/
theorem Core.inf (h : Core S0 w0 w g b v o p H k rl wl s) (hq : v.bits = ptr q) (hi : InfAt w' g v') (hT : Turn [g] [g] w w') (e1 : v'.rest = v.rest) (e2 : v'.fed = v.fed) (e3 : v'.bits = v.bits) (e4 : v'.win = v.win) (e5 : v'.all = v.all) (e6 : v'.f0 = v.f0) (e7 : v'.f1 = v.f1) (e8 : v'.told = v.told := by first | rfl | exact symV_told _ _) :
    ∃ rl', Core S0 w0 w' g b v' o p H k rl' wl s ∧ Turn (g :: rl) (g :: rl') w w' := by
  have hS := h.st.src hq
  have hTg : Turn (g :: rl) (g :: rl) w w' := Turn.wide hT (by simp) fun x hx => .inl hx
  have hTT : Turn (g :: (rl ++ wl)) (g :: (rl ++ wl)) w w' := Turn.left g hTg
  have hk : SrcIs w g v' q ((b.drop o).take v.fed) p rl w' := ⟨rl, ⟨hi, by rw [e3]; exact hq, hS.rdr.turn hT (fun x hx hx' => by rw [List.mem_singleton] at hx'; subst hx'; exact hS.off hx), hS.le, hS.sm⟩, hTg⟩
  exact h.src hq hk e1 e2 e3 e4 e5 (FixAt.go h.fix h.st hTT e6 e7) h.way e8
theorem code_row {R : List Nat} (hR : ∀ x ∈ R, Ty w x 5) {cc : Nat} {ls cbl : List Nat} (hC : CodeAt w cc ls cbl) : ∀ x ∈ cbl, x ∉ R := fun x hx hm => by
  have := hR x hm
  rcases CodeAt.ty hC x hx with t | t | t <;> exact absurd (this.uniq t) (by decide)
theorem UseAt.aside {a b' : List Nat} {R R' : List Nat} (hU : UseAt w v a b') (t : Turn R R' w w') (hR : ∀ x ∈ R, Ty w x 5) (hs : v'.sy = v.sy) (hd : v'.di = v.di) : UseAt w' v' a b' := by
  obtain ⟨s, d, sbl, dbl, h1, h2, hCs, hCd, hF⟩ := hU
  exact ⟨s, d, sbl, dbl, by rw [hs]; exact h1, by rw [hd]; exact h2, hCs.turn t (code_row hR hCs), hCd.turn t (code_row hR hCd), hF⟩
/-- another row of bytes has turned -/
theorem Core.aside (h : Core S0 w0 w g b v o p H k rl wl s) {R : List Nat} (t : Turn R R w w') (hR : ∀ x ∈ R, x ∉ g :: (rl ++ wl) ∧ x ≠ k ∧ 1 < x) (hT : ∀ x ∈ R, Ty w x 5) (ht0 : Turn S0 (g :: (rl ++ wl)) w0 w') : Core S0 w0 w' g b v o p H k rl wl s := by
  have hg : g ∉ R := fun hx => (hR g hx).1 (by simp)
  have hr : ∀ x ∈ rl, x ∉ R := fun x hx hm => (hR x hm).1 (by simp [hx])
  have hw : ∀ x ∈ wl, x ∉ R := fun x hx hm => (hR x hm).1 (by simp [hx])
  have hk : k ∉ R := fun hx => (hR k hx).2.1 rfl
  have h0 : 1 ∉ R := fun hx => by have := (hR 1 hx).2.2; omega
  refine { h with st := { h.st with inf := h.st.inf.old (t.block g h.st.inf.inside hg), rest := ?_, bits := ?_, win := h.st.win.turn t hw }, fix := ?_, ord := h.ord.keep (t.block 1 h.w0_ h0), kin := Nat.lt_of_lt_of_le h.kin t.size, turn := ht0 }
  · obtain ⟨A, n, c, e, hrow⟩ := h.st.rest
    exact ⟨A, n, c, e, hrow.turn t hk⟩
  · exact h.st.bits.imp id fun ⟨q, e, hR'⟩ => ⟨q, e, hR'.turn t hr⟩
  · rcases h.fix with hU | ⟨s, d, sbl, dbl, h1, h2, hCs, hCd⟩
    · exact .inl hU
    · exact .inr ⟨s, d, sbl, dbl, h1, h2, hCs.turn t (code_row hT hCs), hCd.turn t (code_row hT hCd)⟩
/-- a byte more is handed out -/
theorem Core.push (h : Core S0 w0 w g b v o p H k rl wl s) (hO : Out w0 w A n c Y g k rl wl) {x : UInt8} {gg cap : Nat} {obj : Obj} (hw0 : 1 < w0.heap.size)
    (hown : Own w' w0.heap.size 5 (some ⟨gg, 0, none⟩) (n + 1) cap (Y.map bv ++ [bv x])) (hgrow : (w.alloc obj).grownBy w' (Value.slice A n c).ownBlock) (hat : (Value.slice A n c).ownBlock = some gg ∨ gg = w.heap.size + 1) :
    Core S0 w0 w' g b v o p H k rl wl s ∧ Out w0 w' (some ⟨gg, 0, none⟩) (n + 1) cap (Y ++ [x]) g k rl wl ∧ ∃ R, Turn R R (w.alloc obj) w' ∧ ∀ x ∈ R, Ty (w.alloc obj) x 5 := by
  have hC2 := h.fresh (Fresh.alloc w obj)
  have hO2 := hO.fresh (Fresh.alloc w obj)
  have ht : Turn (Value.slice A n c).ownBlock.toList (Value.slice A n c).ownBlock.toList (w.alloc obj) w' := Turn.of_grown hgrow fun b hb => by simp [hb]
  have hty : ∀ x ∈ (Value.slice A n c).ownBlock.toList, Ty (w.alloc obj) x 5 := fun x hx => Own.ty hO2.own x (by simpa using hx)
  have hlow : ∀ x ∈ (Value.slice A n c).ownBlock.toList, x ∉ g :: (rl ++ wl) ∧ x ≠ k ∧ 1 < x := fun x hx => by
    have hx' : (Value.slice A n c).ownBlock = some x := by simpa using hx
    exact ⟨(hO.off x hx').1, (hO.off x hx').2, by have := (World.ownsRow.lt hO.own x hx').1; omega⟩
  refine ⟨hC2.aside ht hlow hty (Turn.grow hC2.turn hgrow fun x hx => (World.ownsRow.lt hO.own x hx).1), ⟨?_, fun x hx => ?_⟩, _, ht, hty⟩
  · have e : Y.map bv ++ [bv x] = (Y ++ [x]).map bv := by simp
    rw [e] at hown
    exact hown
  · simp only [Value.ownBlock, Option.some.injEq] at hx
    subst hx
    rcases hat with e | e
    · exact hO.off _ e
    · subst e
      refine ⟨fun hx => ?_, by have := h.kin; omega⟩
      rcases List.mem_cons.1 hx with e | hx
      · have := h.st.inf.inside; omega
      · rcases List.mem_append.1 hx with hx | hx
        · have := h.st.rin _ hx; omega
        · have := h.st.win.inside _ hx; omega
end
end Go.Proofs.YtppgceighgpgoaaGreatDoor.infp
/-
  The contract of unpack. My own text.
-/
namespace Go.Proofs.YtppgceighgpgoaaGreatDoor.infp
open Go.RowKit Go.Proofs.YtppgceighgpgoaaGreatDoor.base Go.Proofs.YtppgceighgpgoaaGreatDoor.num Go.Proofs.YtppgceighgpgoaaGreatDoor.bitnum Go.Proofs.YtppgceighgpgoaaGreatDoor.bitp Go.Proofs.YtppgceighgpgoaaGreatDoor.huffnum Go.Proofs.YtppgceighgpgoaaGreatDoor.huffp Go.Proofs.YtppgceighgpgoaaGreatDoor.infnum
set_option linter.unusedVariables false

/-- unpack's frame: what is handed out so far, and an error -/
def Fr (g M : Nat) (o e : Value) (a : Act) : Prop := ∃ u : Nat → Value, a = { tmps := #[ptr g, .int .i64 M, u 2, u 3, u 4, u 5, o, e, u 8, u 9, u 10, u 11, u 12, u 13, u 14, u 15, u 16, u 17, u 18, u 19, u 20, u 21, u 22, u 23, u 24, u 25, u 26, u 27, u 28, u 29, u 30, u 31, u 32, u 33, u 34, u 35, u 36, u 37, u 38, u 39, u 40, u 41, u 42, u 43, u 44, u 45, u 46, u 47, u 48, u 49, u 50, u 51, u 52, u 53, u 54, u 55, u 56, u 57, u 58, u 59, u 60, u 61, u 62, u 63, u 64, u 65, u 66, u 67, u 68, u 69, u 70, u 71, u 72, u 73, u 74, u 75, u 76, u 77, u 78, u 79, u 80, u 81, u 82, u 83, u 84, u 85, u 86, u 87, u 88, u 89, u 90, u 91, u 92, u 93, u 94, u 95, u 96, u 97, u 98, u 99, u 100, u 101, u 102, u 103, u 104, u 105, u 106, u 107, u 108, u 109, u 110, u 111, u 112, u 113, u 114, u 115, u 116, u 117, u 118, u 119, u 120, u 121, u 122, u 123, u 124, u 125, u 126, u 127, u 128, u 129], defers := [] }
theorem Fr.of {g M : Nat} {o e : Value} (a : Act) (h : a = { tmps := #[ptr g, .int .i64 M, a.tmps.getD 2 undef, a.tmps.getD 3 undef, a.tmps.getD 4 undef, a.tmps.getD 5 undef, o, e, a.tmps.getD 8 undef, a.tmps.getD 9 undef, a.tmps.getD 10 undef, a.tmps.getD 11 undef, a.tmps.getD 12 undef, a.tmps.getD 13 undef, a.tmps.getD 14 undef, a.tmps.getD 15 undef, a.tmps.getD 16 undef, a.tmps.getD 17 undef, a.tmps.getD 18 undef, a.tmps.getD 19 undef, a.tmps.getD 20 undef, a.tmps.getD 21 undef, a.tmps.getD 22 undef, a.tmps.getD 23 undef, a.tmps.getD 24 undef, a.tmps.getD 25 undef, a.tmps.getD 26 undef, a.tmps.getD 27 undef, a.tmps.getD 28 undef, a.tmps.getD 29 undef, a.tmps.getD 30 undef, a.tmps.getD 31 undef, a.tmps.getD 32 undef, a.tmps.getD 33 undef, a.tmps.getD 34 undef, a.tmps.getD 35 undef, a.tmps.getD 36 undef, a.tmps.getD 37 undef, a.tmps.getD 38 undef, a.tmps.getD 39 undef, a.tmps.getD 40 undef, a.tmps.getD 41 undef, a.tmps.getD 42 undef, a.tmps.getD 43 undef, a.tmps.getD 44 undef, a.tmps.getD 45 undef, a.tmps.getD 46 undef, a.tmps.getD 47 undef, a.tmps.getD 48 undef, a.tmps.getD 49 undef, a.tmps.getD 50 undef, a.tmps.getD 51 undef, a.tmps.getD 52 undef, a.tmps.getD 53 undef, a.tmps.getD 54 undef, a.tmps.getD 55 undef, a.tmps.getD 56 undef, a.tmps.getD 57 undef, a.tmps.getD 58 undef, a.tmps.getD 59 undef, a.tmps.getD 60 undef, a.tmps.getD 61 undef, a.tmps.getD 62 undef, a.tmps.getD 63 undef, a.tmps.getD 64 undef, a.tmps.getD 65 undef, a.tmps.getD 66 undef, a.tmps.getD 67 undef, a.tmps.getD 68 undef, a.tmps.getD 69 undef, a.tmps.getD 70 undef, a.tmps.getD 71 undef, a.tmps.getD 72 undef, a.tmps.getD 73 undef, a.tmps.getD 74 undef, a.tmps.getD 75 undef, a.tmps.getD 76 undef, a.tmps.getD 77 undef, a.tmps.getD 78 undef, a.tmps.getD 79 undef, a.tmps.getD 80 undef, a.tmps.getD 81 undef, a.tmps.getD 82 undef, a.tmps.getD 83 undef, a.tmps.getD 84 undef, a.tmps.getD 85 undef, a.tmps.getD 86 undef, a.tmps.getD 87 undef, a.tmps.getD 88 undef, a.tmps.getD 89 undef, a.tmps.getD 90 undef, a.tmps.getD 91 undef, a.tmps.getD 92 undef, a.tmps.getD 93 undef, a.tmps.getD 94 undef, a.tmps.getD 95 undef, a.tmps.getD 96 undef, a.tmps.getD 97 undef, a.tmps.getD 98 undef, a.tmps.getD 99 undef, a.tmps.getD 100 undef, a.tmps.getD 101 undef, a.tmps.getD 102 undef, a.tmps.getD 103 undef, a.tmps.getD 104 undef, a.tmps.getD 105 undef, a.tmps.getD 106 undef, a.tmps.getD 107 undef, a.tmps.getD 108 undef, a.tmps.getD 109 undef, a.tmps.getD 110 undef, a.tmps.getD 111 undef, a.tmps.getD 112 undef, a.tmps.getD 113 undef, a.tmps.getD 114 undef, a.tmps.getD 115 undef, a.tmps.getD 116 undef, a.tmps.getD 117 undef, a.tmps.getD 118 undef, a.tmps.getD 119 undef, a.tmps.getD 120 undef, a.tmps.getD 121 undef, a.tmps.getD 122 undef, a.tmps.getD 123 undef, a.tmps.getD 124 undef, a.tmps.getD 125 undef, a.tmps.getD 126 undef, a.tmps.getD 127 undef, a.tmps.getD 128 undef, a.tmps.getD 129 undef], defers := [] }) : Fr g M o e a := ⟨fun i => a.tmps.getD i undef, h⟩
/-- what holds at a label -/
def JJ (S0 : List Nat) (w0 : World) (g : Nat) (b H0 : List UInt8) (M : Nat) (m l : Nat) (a : Act) (w : World) : Prop :=
  ∃ (A : Option Addr) (n c : Nat) (Y : List UInt8) (ev : Value), Fr g M (.slice A n c) ev a ∧ n ≤ M ∧
    ((l = 4 ∧ ∃ v wl s P, Dn S0 w0 w g b v (H0 ++ Y) wl s P ∧ Own w w0.heap.size 5 A n c (Y.map bv)) ∨
     (l = 5 ∧ ev = .int .i64 12 ∧ ∃ v wl s P, Bd S0 w0 w g b v (H0 ++ Y) wl s P ∧ Own w w0.heap.size 5 A n c (Y.map bv)) ∨
     ∃ v o p k rl wl s, Core S0 w0 w g b v o p (H0 ++ Y) k rl wl s ∧ Out w0 w A n c Y g k rl wl ∧
      ((l = 0 ∧ PhHead v s (H0 ++ Y) ∧ ahead_ b v o p + 10 ≤ m) ∨
       (l = 1 ∧ PhRaw v s (H0 ++ Y) ∧ ahead_ b v o p + 30 ≤ m) ∨
       (l = 2 ∧ PhSym w v s (H0 ++ Y) ∧ ahead_ b v o p + 15 ≤ m) ∨
       (l = 3 ∧ PhCopy w v s (H0 ++ Y) ∧ ahead_ b v o p + 30 ≤ m) ∨
       (l = 4 ∧ PhHead v s (H0 ++ Y) ∧ ahead_ b v o p + 11 ≤ m) ∨
       (l = 4 ∧ (PhRaw v s (H0 ++ Y) ∨ PhSym w v s (H0 ++ Y) ∨ PhCopy w v s (H0 ++ Y)) ∧ ahead_ b v o p + 40 ≤ m) ∨
       (l = 6 ∧ s = ⟨.head, v.last, H0 ++ Y⟩ ∧ (∃ q, v.bits = ptr q) ∧ ahead_ b v o p + 20 ≤ m) ∨
       (l = 5 ∧ ev = .int .i64 3 ∧ (PhHead v s (H0 ++ Y) ∨ PhRaw v s (H0 ++ Y) ∨ PhSym w v s (H0 ++ Y)) ∧ infnum.one s (num ((b.drop o).take v.fed)) (8 * v.fed) p = .error 3 ∧ ahead_ b v o p + 1 ≤ m) ))
/-- what unpack tells -/
def UnIs (S0 : List Nat) (w0 : World) (g : Nat) (b H0 : List UInt8) (M : Nat) (e : Ending) (w' : World) : Prop :=
  ∃ (A : Option Addr) (n c : Nat) (Y : List UInt8) (er : Nat), e = .returned (.tuple #[.slice A n c, .int .i64 er]) ∧ n ≤ M ∧ Own w' w0.heap.size 5 A n c (Y.map bv) ∧
    ((er = 0 ∧ ∃ v wl s P, Dn S0 w0 w' g b v (H0 ++ Y) wl s P) ∨
     (er = 0 ∧ n = M ∧ ∃ v o p k rl wl s, Core S0 w0 w' g b v o p (H0 ++ Y) k rl wl s ∧ Any w' v s (H0 ++ Y)) ∨
     (er = 3 ∧ ∃ v o p k rl wl s, Core S0 w0 w' g b v o p (H0 ++ Y) k rl wl s ∧ (PhHead v s (H0 ++ Y) ∨ PhRaw v s (H0 ++ Y) ∨ PhSym w' v s (H0 ++ Y)) ∧ infnum.one s (num b) (8 * b.length) (8 * o + p) = .error 3) ∨
     (er = 12 ∧ ∃ v wl s P, Wr S0 w0 w' g b v (H0 ++ Y) wl s P))
section
variable {S0 : List Nat} {w0 w w' : World} {g o p p' k q n c : Nat} {v v' : V} {b H Y : List UInt8} {rl rl' wl wl' : List Nat} {s s' : At} {A : Option Addr}
theorem ahead_less {v v' : V} {o p o' p' : Nat} (h : 8 * o + p + 1 ≤ 8 * o' + p') (hl : 8 * o' + p' ≤ 8 * b.length) (hf : b.length - (o' + v'.fed) ≤ b.length - (o + v.fed)) : ahead_ b v' o' p' + 100 ≤ ahead_ b v o p := by
  unfold ahead_; omega
theorem stuck_nil (H : List UInt8) (U : Nat) : infnum.one ⟨.head, false, H⟩ U (8 * 0) 0 = .error 3 := by
  rw [one_head]
  rfl
theorem symV_same (v : V) (x : Nat × Nat × UInt8) : (symV v x).rest = v.rest ∧ (symV v x).fed = v.fed ∧ (symV v x).bits = v.bits ∧ (symV v x).win = v.win ∧ (symV v x).all = v.all ∧ (symV v x).f0 = v.f0 ∧ (symV v x).f1 = v.f1 ∧ (symV v x).last = v.last ∧ (symV v x).sy = v.sy ∧ (symV v x).di = v.di := by
  unfold symV
  split
  · exact ⟨rfl, rfl, rfl, rfl, rfl, rfl, rfl, rfl, rfl, rfl⟩
  · split <;> exact ⟨rfl, rfl, rfl, rfl, rfl, rfl, rfl, rfl, rfl, rfl⟩
theorem symP_cases {many : Nat} {a b : List Nat} {U T p p' : Nat} {x : Nat × Nat × UInt8} (h : symP many a b U T p = .ok (x, p')) :
    p < p' ∧ ((x.1 = 0 ∧ x.2.1 = 0) ∨ (x.1 = 1 ∧ x.2.1 = 0) ∨ (3 ≤ x.1 ∧ x.1 ≤ 400000 ∧ 1 ≤ x.2.1 ∧ x.2.1 ≤ many)) := by
  unfold symP at h
  obtain ⟨k, m, h1, h⟩ := also_of h
  have hlt := (sym_lt h1).2
  split at h
  · injection h with h
    injection h with h2 h3
    rw [← h2]
    exact ⟨by omega, .inr (.inl ⟨rfl, rfl⟩)⟩
  · split at h
    · injection h with h
      injection h with h2 h3
      rw [← h2]
      exact ⟨by omega, .inl ⟨rfl, rfl⟩⟩
    · split at h
      · cases h
      · obtain ⟨c, m2, h2, h⟩ := also_of h
        have hl2 := ((infnum.Good.copy k many b).loc _ _ _ _ _ h2).1
        injection h with h
        injection h with h3 h4
        rw [← h3]
        refine ⟨by omega, .inr (.inr ?_)⟩
        unfold copyP at h2
        obtain ⟨long, m3, hl, h2⟩ := also_of h2
        have hlong : long ≤ 300000 := by
          split at hl
          · have := spread_lt (by omega) (by omega) (by omega) hl; omega
          · obtain ⟨z, m4, hz, hl⟩ := also_of hl
            have := (take_lt hz).1
            injection hl with hl
            injection hl with hl _
            omega
        obtain ⟨d, m5, _, h2⟩ := also_of h2
        split at h2
        · cases h2
        · obtain ⟨f, m6, _, h2⟩ := also_of h2
          split at h2
          · cases h2
          · injection h2 with h2
            injection h2 with h2 _
            rw [← h2]
            exact ⟨by show 3 ≤ long + 3; omega, by show long + 3 ≤ 400000; omega, by show 1 ≤ f + 1; omega, by show f + 1 ≤ many; omega⟩
/-- how many bytes are left, by the memory -/
def leftAt (g : Nat) (w : World) : Nat := match w.cell? ⟨g, 7, none⟩ with
  | some (.int _ z) => z.toNat
  | _ => 0
theorem leftAt_is {w : World} {g : Nat} {v : V} (h : InfAt w g v) : leftAt g w = v.left := by
  unfold leftAt
  have : w.cell? ⟨g, 7, none⟩ = some (iv v.left) := h.cell rfl
  rw [this]
  simp
theorem st_slot_ {P : Program} {w : World} {ops : Array Oper} {a : Act} {K : Act → World → Prop} {Q : Exit → Act → World → Prop} {E : Prop} (d : Nat) {op : Op} {t : TypeId} {ps : String} {af gd} (h : if Region.wanted ⟨some d, op, t, ps, af, gd⟩ (yielded ops a.tmps) = true then Oper.wp P ⟨some d, op, t, ps, af, gd⟩ a w K Q else E) : if Region.wanted ⟨some d, op, t, ps, af, gd⟩ (yielded ops a.tmps) = true then Oper.wp P ⟨some d, op, t, ps, af, gd⟩ a w K Q else E := h
theorem wholeSym_ok {bs : List UInt8} (h : Src w g v q bs p rl) {a b : List Nat} (hU : UseAt w v a b) {A : Option Addr} {n c : Nat} (hv : v.win = .slice A n c) {x : Nat × Nat × UInt8} {p' : Nat} (hr : symP n a b (num bs) (8 * bs.length) p = .ok (x, p')) :
    Calls Tryz.prog 54 #[ptr g, .func (.func 58) #[ptr g] #[]] w fun e w' => e = .returned (.int .i64 0) ∧ SrcIs w g (symV v x) q bs p' rl w' := by
  have h1 := wholeSym_any h hU hv hr
  exact h1
theorem wholeSym_no {bs : List UInt8} (h : Src w g v q bs p rl) {a b : List Nat} (hU : UseAt w v a b) {A : Option Addr} {n c : Nat} (hv : v.win = .slice A n c) {k : Nat} (hr : symP n a b (num bs) (8 * bs.length) p = .error k) :
    Calls Tryz.prog 54 #[ptr g, .func (.func 58) #[ptr g] #[]] w fun e w' => e = .returned (.int .i64 (k : Nat)) ∧ ∃ p', (k = 3 → p' = p) ∧ SrcIs w g v q bs p' rl w' := by
  have h1 := wholeSym_any h hU hv hr
  exact h1
theorem Turn.grown1 {w w' : World} {g : Nat} (h : Turn [g] [g] w w') : But g w w' := ⟨h.os, h.tape, h.output, h.size, fun i hi hne => h.block i hi (by simpa using fun e : i = g => hne (by rw [e]))⟩
set_option maxHeartbeats 20000000 in
set_option maxRecDepth 100000 in
theorem unpack_go (S0 : List Nat) (w : World) (g : Nat) (b H0 : List UInt8) (M : Nat) (hM : M ≤ 65536) (hH : H0.length ≤ 17179869184) (v : V) (o p k : Nat) (rl wl : List Nat) (s : At)
    (hC : Core S0 w w g b v o p H0 k rl wl s) (hA : Any w v s H0) :
    Calls Tryz.prog 34 #[ptr g, .int .i64 M] w (UnIs S0 w g b H0 M) := by
  have hn : w.cell? ⟨g, 5, none⟩ = some (iv v.next) := hC.st.inf.cell rfl
  have hO0 : Out w w none 0 0 [] g k rl wl := ⟨Own.nil _ _ _, fun x hx => by cases hx⟩
  rw [← List.append_nil H0] at hC hA
  have HO0 := Lib.hid hO0
  have hw0 := hC.w0_
  have HC := Lib.hid hC
  have HA := Lib.hid hA
  clear hO0 hC hA
  go_enter Tryz.func34, Tryz.ntmps34
  go_wp2
  refine wp_scope_labels (JJ S0 w g b H0 M) ?_ ?_
  · rcases HA.out with hp | hp | hp | hp
    · have hnx := hp.2
      rw [hnx] at hn
      go_wp2
      go_step3
      go_wp2
      refine wp_goto ?_
      exact ⟨ahead_ b v o p + 10, none, 0, 0, [], _, Fr.of _ rfl, Nat.zero_le _, .inr (.inr ⟨v, o, p, k, rl, wl, s, HC.out, HO0.out, .inl ⟨rfl, hp, Nat.le_refl _⟩⟩)⟩
    · have hnx := hp.2.1
      rw [hnx] at hn
      go_wp2
      go_step3
      go_wp2
      refine wp_goto ?_
      exact ⟨ahead_ b v o p + 30, none, 0, 0, [], _, Fr.of _ rfl, Nat.zero_le _, .inr (.inr ⟨v, o, p, k, rl, wl, s, HC.out, HO0.out, .inr (.inl ⟨rfl, hp, Nat.le_refl _⟩)⟩)⟩
    · have hnx : v.next = 2 := by obtain ⟨_, _, _, h, _⟩ := hp; exact h
      rw [hnx] at hn
      go_wp2
      go_step3
      go_wp2
      refine wp_goto ?_
      exact ⟨ahead_ b v o p + 15, none, 0, 0, [], _, Fr.of _ rfl, Nat.zero_le _, .inr (.inr ⟨v, o, p, k, rl, wl, s, HC.out, HO0.out, .inr (.inr (.inl ⟨rfl, hp, Nat.le_refl _⟩))⟩)⟩
    · have hnx : v.next = 3 := by obtain ⟨_, _, _, _, h, _⟩ := hp; exact h
      rw [hnx] at hn
      go_wp2
      go_step3
      go_wp2
      refine wp_goto ?_
      exact ⟨ahead_ b v o p + 30, none, 0, 0, [], _, Fr.of _ rfl, Nat.zero_le _, .inr (.inr ⟨v, o, p, k, rl, wl, s, HC.out, HO0.out, .inr (.inr (.inr (.inl ⟨rfl, hp, Nat.le_refl _⟩)))⟩)⟩
  · clear HC HO0 HA hn
    rintro m l a wr ⟨A, n, c, Y, ev, ⟨u, rfl⟩, hnM, hst⟩
    rcases hst with ⟨rfl, v, wl, s, P, hD, hOw⟩ | ⟨rfl, rfl, v, wl, s, P, hB, hOw⟩ | ⟨v, o, p, k, rl, wl, s, hC, hO, hst⟩
    · refine ⟨_, rfl, ?_⟩
      have hn : wr.cell? ⟨g, 5, none⟩ = some (iv (4 : Nat)) := by rw [← hD.next]; exact hD.inf.cell rfl
      go_wp2
      rw [Jumps_ret]
      go_ret2
      exact ⟨A, n, c, Y, 0, rfl, hnM, hOw, .inl ⟨rfl, v, wl, s, P, hD⟩⟩
    · refine ⟨_, rfl, ?_⟩
      have c0 : wr.cell? ⟨g, 0, none⟩ = some v.rest := hB.inf.cell rfl
      have c1 : wr.cell? ⟨g, 1, none⟩ = some (iv v.fed) := hB.inf.cell rfl
      have c2 : wr.cell? ⟨g, 2, none⟩ = some v.bits := hB.inf.cell rfl
      have c5 : wr.cell? ⟨g, 5, none⟩ = some (iv v.next) := hB.inf.cell rfl
      have y0 := hB.inf.free 0
      have y1 := hB.inf.free 1
      have y2 := hB.inf.free 2
      have y5 := hB.inf.free 5
      go_wp2
      rw [Jumps_ret]
      go_ret2
      have hT : Turn [g] [g] wr ((((wr.setCell ⟨g, 5, none⟩ (.int .i64 5)).setCell ⟨g, 0, none⟩ (.slice none 0 0)).setCell ⟨g, 1, none⟩ (.int .i64 0)).setCell ⟨g, 2, none⟩ (.pointer none)) := (((Turn.but (But.put _ _) (by simp)).trans (Turn.but (But.put _ _) (by simp))).trans (Turn.but (But.put _ _) (by simp))).trans (Turn.but (But.put _ _) (by simp))
      have hOw2 := hOw.but (g := g) (Turn.grown1 hT) (hOw.ne_block hB.inf (by decide))
      exact ⟨A, n, c, Y, 12, rfl, hnM, hOw2, .inr (.inr (.inr ⟨rfl, { v with next := 5, rest := .slice none 0 0, fed := 0, bits := .pointer none }, wl, s, P,
        ⟨(((hB.inf.put 5 _).put 0 _).put 1 _).put 2 _, hB.bad, hB.out, hB.win.turn hT (fun x hx hx' => by rw [List.mem_singleton] at hx'; subst hx'; exact hB.win.off hB.inf hx), hB.all, hB.turn.trans (Turn.wide hT (by simp) fun x hx => .inl hx), hB.way, hB.tol⟩, rfl, rfl⟩))⟩
    · rcases hst with ⟨rfl, hp, hm⟩ | ⟨rfl, hp, hm⟩ | ⟨rfl, hp, hm⟩ | ⟨rfl, hp, hm⟩ | ⟨rfl, hp, hm⟩ | ⟨rfl, hp, hm⟩ | ⟨rfl, hs, ⟨q, hq⟩, hm⟩ | ⟨rfl, rfl, hp, hstuck, hm⟩
      · -- a head
        have hfin : ¬ Fin s := by rw [hp.1]; rintro ⟨_, h2⟩; cases h2
        refine ⟨_, rfl, ?_⟩
        rcases hC.st.bits with ⟨hb0, hf0, hr0⟩ | ⟨q, hq, hRd⟩
        · have hwh := wholeHead_nil hC.st.inf hb0
          have HWH := Lib.hid hwh
          clear hwh
          have hp0 : p = 0 := by have := hC.st.ple; omega
          have hst : infnum.one s (num ((b.drop o).take v.fed)) (8 * v.fed) p = .error 3 := by
            rw [hf0, hp0, hp.1]; exact stuck_nil _ _
          go_wp2_with (go_at_call 54; refine HWH.out.mono ?_; rintro e w2 ⟨rfl, rfl⟩)
          refine wp_goto ?_
          exact ⟨_, by omega, A, n, c, Y, _, Fr.of _ rfl, hnM, .inr (.inr ⟨v, o, p, k, rl, wl, s, hC, hO, .inr (.inr (.inr (.inr (.inr (.inr (.inr ⟨rfl, rfl, .inl hp, hst, Nat.le_refl _⟩))))))⟩)⟩
        · have hsrc := hC.st.src hq
          have hseen := hC.st.seen
          cases hr : headP (H0 ++ Y) (num ((b.drop o).take v.fed)) (8 * ((b.drop o).take v.fed).length) p with
          | error k2 =>
            have hone : infnum.one s (num ((b.drop o).take v.fed)) (8 * v.fed) p = .error k2 := by
              rw [hp.1, one_head, ← hr, hseen]
            have hwh := wholeHead_no hsrc hC.ord hC.g0 hC.r0 hC.fix (H0 ++ Y) hr
            have HWH := Lib.hid hwh
            rcases (infnum.Good.head (H0 ++ Y)).ev _ _ _ _ hr with rfl | rfl
            · clear hwh hr
              go_wp2_with (go_at_call 54; refine HWH.out.mono ?_; rintro e w2 ⟨rfl, p2, L, hp2, hF2, hS2⟩)
              refine wp_goto ?_
              have hpe := hp2 trivial
              subst hpe
              obtain ⟨rl2, hC2, hTr⟩ := hC.src hq hS2 rfl rfl rfl rfl rfl hF2 hC.way
              exact ⟨ahead_ b v o p2 + 1, by omega, A, n, c, Y, _, Fr.of _ rfl, hnM, .inr (.inr ⟨_, o, p2, k, rl2, wl, s, hC2, hO.turn (Turn.left g hTr), .inr (.inr (.inr (.inr (.inr (.inr (.inr ⟨rfl, rfl, .inl hp, hone, Nat.le_refl _⟩))))))⟩)⟩
            · have hbad := seen_bad (infnum.Good.one hfin) b o v.fed p hC.st.fed hC.st.ple hone (.inl (by omega))
              clear hwh hr
              go_wp2_with (go_at_call 54; refine HWH.out.mono ?_; rintro e w2 ⟨rfl, p2, L, hp2, hF2, hS2⟩)
              refine wp_goto ?_
              obtain ⟨hB2, rl2, hT2⟩ := hC.bd hq hS2 rfl rfl (by rw [hp.1]) hbad
              exact ⟨0, by omega, A, n, c, Y, _, Fr.of _ rfl, hnM, .inr (.inl ⟨rfl, rfl, _, wl, s, _, hB2, (hO.turn hT2).own⟩)⟩
          | ok x =>
            obtain ⟨s2, p2⟩ := x
            have hone : infnum.one s (num ((b.drop o).take v.fed)) (8 * v.fed) p = .ok (s2, p2) := by
              rw [hp.1, one_head, ← hr, hseen]
            obtain ⟨hp2, hway⟩ := hC.next hfin hone
            obtain ⟨hout, hp3⟩ := headP_out hr
            have hraw : ∀ z, s2.ph = .raw z → z ≤ 400000 := fun z hz => by
              obtain ⟨ph, la, ou⟩ := s2
              simp only at hz
              subst hz
              exact headP_raw hr
            have hwh := wholeHead_ok hsrc hC.ord hC.g0 hC.r0 hC.fix (H0 ++ Y) hr
            have HWH := Lib.hid hwh
            clear hwh hr hone
            go_wp2_with (go_at_call 54; refine HWH.out.mono ?_; rintro e w2 hH; obtain ⟨rfl, N, L, F, S, D, F0, F1, hPh, hFx, hS2⟩ := hH.ok)
            refine wp_goto ?_
            obtain ⟨rl2, hC2, hTr⟩ := hC.src hq hS2 rfl rfl rfl rfl rfl hFx hway
            have hah := ahead_less (b := b) (v := v) (v' := { v with next := N, last := L, left := F, sy := S, di := D, f0 := F0, f1 := F1 }) (o := o) (p := p) (o' := o) (p' := p2) (by omega) hC2.le (Nat.le_refl _)
            refine ⟨_, ?_, A, n, c, Y, _, Fr.of _ rfl, hnM, .inr (.inr ⟨_, o, p2, k, rl2, wl, s2, hC2, hO.turn (Turn.left g hTr), .inr (.inr (.inr (.inr (.inr (.inl ⟨rfl, ?_, Nat.le_refl _⟩)))))⟩)⟩
            · omega
            · obtain ⟨ph, last, out⟩ := s2
              simp only at hout
              subst hout
              cases ph with
              | head => exact hPh.elim
              | raw z =>
                obtain ⟨h1, h2, h3⟩ := hPh
                exact .inl ⟨by rw [h2, h3], h1, by rw [h2]; exact hraw z rfl, q, hq⟩
              | sy x y =>
                obtain ⟨h1, h2, h3⟩ := hPh
                exact .inr (.inl ⟨x, y, by rw [h2], h1, h3, q, hq⟩)
      · -- stored bytes
        refine ⟨_, rfl, ?_⟩
        obtain ⟨i0, hi0, hz0, hz1, hz2⟩ := info_parts info_byte
        have hnb : ∀ H : List UInt8, H.length ≤ H0.length + M → H.length ≤ 1099511627776 := fun H h => by omega
        go_wp2
        go_loopw [6] (fun x wi => ∃ (A : Option Addr) (n c : Nat) (Y : List UInt8) (v : V) (p : Nat) (rl wl : List Nat) (s : At), x = .slice A n c ∧ n ≤ M ∧ Core S0 w wi g b v o p (H0 ++ Y) k rl wl s ∧ Out w wi A n c Y g k rl wl ∧ PhRaw v s (H0 ++ Y) ∧ ahead_ b v o p + 30 ≤ m) (fun _ wi => leftAt g wi)
        case atStart => exact ⟨A, n, c, Y, v, p, rl, wl, s, rfl, hnM, hC, hO, hp, hm⟩
        case round =>
          obtain ⟨A, n, c, Y, v, p, rl, wl, s, rfl, hnM, hC, hO, hp, hm⟩ := hrel
          obtain ⟨hs, hnx, h4, q, hq⟩ := hp
          have hsrc := hC.st.src hq
          have hseen := hC.st.seen
          have hc7 : wr.cell? ⟨g, 7, none⟩ = some (iv v.left) := hC.st.inf.cell rfl
          cases hl : v.left with
          | zero =>
            rw [hl] at hc7
            go_wp2
            refine wp_goto ?_
            have hone : infnum.one s (num b) (8 * b.length) (8 * o + p) = .ok (⟨.head, v.last, H0 ++ Y⟩, 8 * o + p) := by rw [hs, hl]; rfl
            have hC2 : Core S0 w wr g b v o p (H0 ++ Y) k rl wl ⟨.head, v.last, H0 ++ Y⟩ := { hC with way := hC.way.snoc hone }
            exact ⟨ahead_ b v o p + 20, by omega, A, n, c, Y, _, Fr.of _ rfl, hnM, .inr (.inr ⟨v, o, p, k, rl, wl, _, hC2, hO, .inr (.inr (.inr (.inr (.inr (.inr (.inl ⟨rfl, rfl, ⟨q, hq⟩, Nat.le_refl _⟩))))))⟩)⟩
          | succ L =>
            rw [hl] at hc7
            have hL0 : ((L + 1 : Nat) : Int) > 0 := by omega
            by_cases hnM2 : n = M
            · subst hnM2
              go_wp2
              rw [Jumps_ret]
              go_ret2
              exact ⟨A, n, c, Y, 0, rfl, Nat.le_refl _, hO.own, .inr (.inl ⟨rfl, rfl, v, o, p, k, rl, wl, s, hC, .inr (.inl ⟨hs, hnx, h4, q, hq⟩)⟩)⟩
            · have hnMi : ¬ (n : Int) = (M : Int) := by omega
              cases ht : take 8 (num ((b.drop o).take v.fed)) (8 * ((b.drop o).take v.fed).length) p with
              | error e1 =>
                have he := take_err ht
                subst he
                have hone : infnum.one s (num ((b.drop o).take v.fed)) (8 * v.fed) p = .error 3 := by
                  rw [hseen] at ht
                  rw [hs, hl]
                  exact also_no ht
                have hby := takeByte_no hsrc ht
                have HBY := Lib.hid hby
                clear hby ht
                go_wp2_with (go_at_call 56; refine HBY.out.mono ?_; rintro e w2 ⟨rfl, hS2⟩)
                refine wp_goto ?_
                have hTf := hS2
                obtain ⟨rl9, _, hT9⟩ := hTf
                obtain ⟨rl2, hC2, hTr⟩ := hC.src hq hS2 rfl rfl rfl rfl rfl (FixAt.go hC.fix hC.st (Turn.left (T := wl) g hT9) rfl rfl) hC.way
                exact ⟨ahead_ b v o p + 1, by omega, A, n, c, Y, _, Fr.of _ rfl, hnM, .inr (.inr ⟨v, o, p, k, rl2, wl, s, hC2, hO.turn (Turn.left g hTr), .inr (.inr (.inr (.inr (.inr (.inr (.inr ⟨rfl, rfl, .inr (.inl ⟨hs, hnx, h4, q, hq⟩), hone, Nat.le_refl _⟩))))))⟩)⟩
              | ok x =>
                obtain ⟨x, p2⟩ := x
                have hone : infnum.one s (num ((b.drop o).take v.fed)) (8 * v.fed) p = .ok (⟨.raw L, v.last, (H0 ++ Y) ++ [UInt8.ofNat x]⟩, p2) := by
                  have ht2 := ht
                  rw [hseen] at ht2
                  rw [hs, hl]
                  exact also_ok ht2
                obtain ⟨hp2, hway⟩ := hC.next (by rw [hs]; rintro ⟨h1, _⟩; cases h1) hone
                obtain ⟨_, hpp2, _⟩ := take_lt ht
                have hby := takeByte_ok hsrc ht
                have HBY := Lib.hid hby
                have HWAY := Lib.hid hway
                clear hby ht hone hway
                go_wp2_with (go_at_call 56; refine HBY.out.mono ?_; rintro e w2 ⟨rfl, hS2⟩)
                obtain ⟨rl9, hS9, hT9⟩ := hS2
                obtain ⟨rl2, hC2, hTr⟩ := hC.src hq ⟨rl9, hS9, hT9⟩ rfl rfl rfl rfl rfl (FixAt.go hC.fix hC.st (Turn.left (T := wl) g hT9) rfl rfl) HWAY.out
                have hO2 := hO.turn (Turn.left (T := wl) g hTr)
                have hc9 : w2.cell? ⟨g, 9, none⟩ = some (bv (UInt8.ofNat x)) := hC2.st.inf.cell rfl
                have hadd : ∀ w1, Fresh w2 w1 → Calls Tryz.prog 57 #[.pointer (some ⟨g, 3, none⟩), bv (UInt8.ofNat x)] w1 fun e w' => e = .returned (bv (UInt8.ofNat x)) ∧
                    ∃ val wl', InfAt w' g { v with one := UInt8.ofNat x, win := val, all := (H0 ++ Y).length + 1 } ∧ WinAt w' val ((H0 ++ Y) ++ [UInt8.ofNat x]) wl' ∧ Turn (g :: wl) (g :: wl') w1 w' := fun w1 hf =>
                  add_win g _ (H0 ++ Y) wl (UInt8.ofNat x) w1 (hC2.fresh hf).st.inf (hC2.fresh hf).st.win hC2.st.all (hnb _ (by rw [List.length_append, hO.len]; omega))
                have HADD := Lib.hid hadd
                have HC2 := Lib.hid hC2
                have HO2 := Lib.hid hO2
                clear hadd hC hC2 hO hO2 hsrc
                go_region_held3 (fun w' => w'.cell? ⟨g, 9, none⟩ = some (bv (UInt8.ofNat x))) (first | exact hc9 | exact HC9.out | exact HC9b.out | exact HC9c.out)
                  (first
                  | (go_at_call 57; (refine (HADD.out _ (Fresh.drew _)).mono ?_); rintro e w3 ⟨rfl, val, wl3, hi3, hw3, hT3⟩; have HADDED := Lib.hid ((HC2.out.fresh (Fresh.drew w2)).add hi3 hw3 hT3); have HO3 := Lib.hid ((HO2.out.fresh (Fresh.drew w2)).turn HADDED.out.2); have HC9 := Lib.hid (show w3.cell? ⟨g, 9, none⟩ = some (bv (UInt8.ofNat x)) from hi3.cell rfl); have HC9b := Lib.hid (show (w3.alloc (.cells #[bv (UInt8.ofNat x)] 5)).cell? ⟨g, 9, none⟩ = some (bv (UInt8.ofNat x)) from (Bk.alloc hi3 _).cell rfl))
                  | ((with_reducible (refine st_slot_ 63 ?_)); refine step_append_lies _ (by rfl) (.tmp 53) (.tmp 62) 24 (by rfl) w.heap.size 5 i0 _ 1 1 Tryz.underlying24 hi0 hz0 hz1 hz2 rfl (by omega) (.slice A n c) n (Y.map bv) (by rfl) (HO3.out.own.fresh (Fresh.alloc _ _)) ⟨w3.heap.size, 0, none⟩ 1 1 [bv (UInt8.ofNat x)] (by rfl) (by rfl) (World.news_of_block (cs := #[bv (UInt8.ofNat x)]) (t := 5) (fr := (0, 0)) (heap_alloc_new w3 _)) (by simp [Value.oneCell']) (by omega) (by unfold maxLen; omega) (by omega) (by have := HADDED.out.1.turn.size; simp; omega) (w3.heap.size + 1) (by simp) ?_; (intro gg cap w4 hown hgrow hat hlt4; have hiw4 := Bk.grown (Bk.alloc HADDED.out.1.st.inf (.cells #[bv (UInt8.ofNat x)] 5)) hgrow (Own.ne_block HO3.out.own HADDED.out.1.st.inf (by decide)); have HC9c := Lib.hid (show w4.cell? ⟨g, 9, none⟩ = some (bv (UInt8.ofNat x)) from hiw4.cell rfl); have HAT := Lib.hid hat; have HOWN := Lib.hid hown; have HGROW := Lib.hid hgrow; clear hat hown hgrow)))
                obtain ⟨hC4, hO4, _⟩ := Core.push HADDED.out.1 HO3.out hw0 HOWN.out HGROW.out HAT.out
                have hc74 : w4.cell? ⟨g, 7, none⟩ = some (iv (L + 1 : Nat)) := by rw [← hl]; exact hC4.st.inf.cell rfl
                have hz74 := hC4.st.inf.free 7
                have HC4 := Lib.hid hC4
                have HO4 := Lib.hid hO4
                have hLi : ((L + 1 : Nat) : Int) - 1 = (L : Int) := by omega
                have hL4 : L ≤ 400000 := by omega
                clear hC4 hO4
                go_wp2
                go_roundw
                case rel =>
                  obtain ⟨rl5, hC5, hT5⟩ := HC4.out.put (v' := { v with one := UInt8.ofNat x, win := val, all := (H0 ++ Y).length + 1, left := L }) hq 7 (iv (L : Nat)) rfl rfl rfl rfl rfl rfl rfl rfl
                  have hah := ahead_less (b := b) (v := v) (v' := { v with one := UInt8.ofNat x, win := val, all := (H0 ++ Y).length + 1, left := L }) (o := o) (p := p) (o' := o) (p' := p2) (by omega) hC5.le (Nat.le_refl _)
                  rw [List.append_assoc] at hC5
                  exact ⟨some ⟨gg, 0, none⟩, n + 1, cap, Y ++ [UInt8.ofNat x], _, p2, rl5, wl3, _, rfl, by omega, hC5, HO4.out.turn (Turn.left g hT5), ⟨rfl, hnx, by show L ≤ 400000; omega, q, hq⟩, by omega⟩
                case measure =>
                  obtain ⟨rl5, hC5, hT5⟩ := HC4.out.put (v' := { v with one := UInt8.ofNat x, win := val, all := (H0 ++ Y).length + 1, left := L }) hq 7 (iv (L : Nat)) rfl rfl rfl rfl rfl rfl rfl rfl
                  have e1 := leftAt_is hC5.st.inf
                  have e2 : leftAt g wr = L + 1 := by unfold leftAt; rw [hc7]; simp
                  rw [e2]
                  exact Nat.lt_of_le_of_lt (Nat.le_of_eq e1) (by show L < L + 1; omega)
      · -- a symbol
        obtain ⟨xa, xb, hs, hnx, hU, q, hq⟩ := hp
        refine ⟨_, rfl, ?_⟩
        have hsrc := hC.st.src hq
        have hseen := hC.st.seen
        obtain ⟨i0, hi0, hz0, hz1, hz2⟩ := info_parts info_byte
        have hnb : ∀ H : List UInt8, H.length ≤ H0.length + M → H.length ≤ 1099511627776 := fun H h => by omega
        obtain ⟨A1, n1, c1, hv1, hn1⟩ : ∃ A1 n1 c1, v.win = .slice A1 n1 c1 ∧ n1 = min 32768 (H0 ++ Y).length := by
          obtain ⟨A1, n1, c1, _, e1, e2, _⟩ := hC.st.win
          exact ⟨A1, n1, c1, e1, e2⟩
        have hfin : ¬ Fin s := by rw [hs]; rintro ⟨h1, _⟩; cases h1
        cases hr : symP n1 xa xb (num ((b.drop o).take v.fed)) (8 * ((b.drop o).take v.fed).length) p with
        | error k2 =>
          have hone : infnum.one s (num ((b.drop o).take v.fed)) (8 * v.fed) p = .error k2 := by
            rw [hseen, hn1] at hr
            rw [hs, one_sym, also_no hr]
          have hwh := wholeSym_no hsrc hU hv1 hr
          have HWH := Lib.hid hwh
          rcases (infnum.Good.symP n1 xa xb).ev _ _ _ _ hr with rfl | rfl
          · clear hwh hr hn1
            go_wp2_with (go_at_call 54; refine HWH.out.mono ?_; rintro e w2 ⟨rfl, p2, hp2, hS2⟩)
            refine wp_goto ?_
            have hpe := (by first | exact hp2 rfl | exact hp2 trivial)
            subst hpe
            have hS9 := hS2
            obtain ⟨rl9, _, hT9⟩ := hS9
            obtain ⟨rl2, hC2, hTr⟩ := hC.src hq hS2 rfl rfl rfl rfl rfl (FixAt.go hC.fix hC.st (Turn.left (T := wl) g hT9) rfl rfl) hC.way
            exact ⟨ahead_ b v o p2 + 1, by omega, A, n, c, Y, _, Fr.of _ rfl, hnM, .inr (.inr ⟨v, o, p2, k, rl2, wl, s, hC2, hO.turn (Turn.left g hTr), .inr (.inr (.inr (.inr (.inr (.inr (.inr ⟨rfl, rfl, .inr (.inr ⟨xa, xb, hs, hnx, hU.go hC.st (Turn.left (T := wl) g hTr) rfl rfl, q, hq⟩), hone, Nat.le_refl _⟩))))))⟩)⟩
          · have hbad := seen_bad (infnum.Good.one hfin) b o v.fed p hC.st.fed hC.st.ple hone (.inl (by omega))
            clear hwh hr hn1
            go_wp2_with (go_at_call 54; refine HWH.out.mono ?_; rintro e w2 ⟨rfl, p2, hp2, hS2⟩)
            refine wp_goto ?_
            obtain ⟨hB2, rl2, hT2⟩ := hC.bd hq hS2 rfl rfl (by rw [hs]) hbad
            exact ⟨0, by omega, A, n, c, Y, _, Fr.of _ rfl, hnM, .inr (.inl ⟨rfl, rfl, _, wl, s, _, hB2, (hO.turn hT2).own⟩)⟩
        | ok x =>
          obtain ⟨x3, p2⟩ := x
          have hone : infnum.one s (num ((b.drop o).take v.fed)) (8 * v.fed) p = .ok (grown xa xb v.last (H0 ++ Y) x3, p2) := by
            have hr2 := hr
            rw [hseen, hn1] at hr2
            rw [hs, one_sym, also_ok hr2]; rfl
          obtain ⟨hp2, hway⟩ := hC.next hfin hone
          obtain ⟨hpp, hcases⟩ := symP_cases hr
          have hwh := wholeSym_ok hsrc hU hv1 hr
          have HWH := Lib.hid hwh
          have hsame := symV_same v x3
          have HSAME := Lib.hid hsame
          have HWAY := Lib.hid hway
          have HONE := Lib.hid hone
          have hah : ∀ v', v'.fed = v.fed → 8 * o + p2 ≤ 8 * b.length → ahead_ b v' o p2 + 100 ≤ ahead_ b v o p := fun v' e hl => ahead_less (by omega) hl (by rw [e]; exact Nat.le_refl _)
          have HN1 := Lib.hid hn1
          have HCASES := Lib.hid hcases
          clear hwh hr hway hone hsame hn1 hcases
          by_cases hx0 : x3.1 = 0
          · have hl0 : (symV v x3).left = 0 := by unfold symV; rw [if_pos hx0]
            have hgr : grown xa xb v.last (H0 ++ Y) x3 = ⟨.head, v.last, H0 ++ Y⟩ := by unfold grown; rw [if_pos hx0]
            have HL0 := Lib.hid hl0
            have HGR := Lib.hid hgr
            clear hl0 hgr
            go_wp2_with (go_at_call 54; refine HWH.out.mono ?_; rintro e w2 ⟨rfl, rl9, hS9, hT9⟩; obtain ⟨rl2, hC2, hTr⟩ := hC.src hq ⟨rl9, hS9, hT9⟩ HSAME.out.1 HSAME.out.2.1 HSAME.out.2.2.1 HSAME.out.2.2.2.1 HSAME.out.2.2.2.2.1 (FixAt.go hC.fix hC.st (Turn.left (T := wl) g hT9) HSAME.out.2.2.2.2.2.1 HSAME.out.2.2.2.2.2.2.1) HWAY.out; have hc7 : w2.cell? ⟨g, 7, none⟩ = some (iv (0 : Nat)) := (by rw [← HL0.out]; exact hC2.st.inf.cell rfl))
            refine wp_goto ?_
            have hle2 := hC2.le
            rw [HGR.out] at hC2
            exact ⟨ahead_ b (symV v x3) o p2 + 20, by have := hah (symV v x3) HSAME.out.2.1 hle2; omega, A, n, c, Y, _, Fr.of _ rfl, hnM, .inr (.inr ⟨_, o, p2, k, rl2, wl, _, hC2, hO.turn (Turn.left g hTr), .inr (.inr (.inr (.inr (.inr (.inr (.inl ⟨rfl, by rw [HSAME.out.2.2.2.2.2.2.2.1], ⟨q, by rw [HSAME.out.2.2.1]; exact hq⟩, Nat.le_refl _⟩))))))⟩)⟩
          · have hl1 : ∃ L, (symV v x3).left = L ∧ ¬ (L : Int) = 0 ∧ L ≤ 400000 ∧ (symV v x3).left = x3.1 := by
              refine ⟨x3.1, ?_, by omega, ?_, ?_⟩
              · unfold symV; rw [if_neg hx0]; split <;> rfl
              · rcases HCASES.out with h | h | h <;> omega
              · unfold symV; rw [if_neg hx0]; split <;> rfl
            obtain ⟨L, hlL, hLz, hL4, _⟩ := hl1
            have hpd : ∃ X, grown xa xb v.last (H0 ++ Y) x3 = ⟨.sy xa xb, v.last, X⟩ ∧ ∀ v', v'.back = (symV v x3).back → v'.left = (symV v x3).left → v'.one = (symV v x3).one → Pend v' (H0 ++ Y) X := by
              rcases HCASES.out with h | h | h
              · omega
              · refine ⟨(H0 ++ Y) ++ [x3.2.2], by unfold grown; rw [if_neg hx0, if_pos h.2], fun v' e1 e2 e3 => .inl ?_⟩
                unfold symV at e1 e2 e3
                rw [if_neg hx0, if_pos h.2] at e1 e2 e3
                exact ⟨e1, by rw [e2]; show x3.1 ≤ 1; omega, by rw [e2, e3]; show _ = _ ++ List.replicate x3.1 x3.2.2; rw [h.1]; rfl⟩
              · refine ⟨infnum.copied x3.2.1 x3.1 (H0 ++ Y), by unfold grown; rw [if_neg hx0, if_neg (by omega)], fun v' e1 e2 e3 => .inr ?_⟩
                unfold symV at e1 e2 e3
                rw [if_neg hx0, if_neg (show ¬ x3.2.1 = 0 by omega)] at e1 e2 e3
                have hn1 := HN1.out
                exact ⟨by rw [e1]; show 1 ≤ x3.2.1; omega, by rw [e1]; show x3.2.1 ≤ _; omega, by rw [e1, e2]⟩
            have HPD := Lib.hid hpd
            have HLL := Lib.hid hlL
            clear hpd hlL
            go_wp2_with (go_at_call 54; refine HWH.out.mono ?_; rintro e w2 ⟨rfl, rl9, hS9, hT9⟩; obtain ⟨rl2, hC2, hTr⟩ := hC.src hq ⟨rl9, hS9, hT9⟩ HSAME.out.1 HSAME.out.2.1 HSAME.out.2.2.1 HSAME.out.2.2.2.1 HSAME.out.2.2.2.2.1 (FixAt.go hC.fix hC.st (Turn.left (T := wl) g hT9) HSAME.out.2.2.2.2.2.1 HSAME.out.2.2.2.2.2.2.1) HWAY.out; have hc7 : w2.cell? ⟨g, 7, none⟩ = some (iv (L : Nat)) := (by rw [← HLL.out]; exact hC2.st.inf.cell rfl); have hc5 : w2.cell? ⟨g, 5, none⟩ = some (iv (symV v x3).next) := hC2.st.inf.cell rfl; have hz5 := hC2.st.inf.free 5)
            go_step3
            go_wp2
            obtain ⟨X, hX1, hX2⟩ := HPD.out
            have hle2 := hC2.le
            obtain ⟨rl5, hC5, hT5⟩ := hC2.put (v' := { symV v x3 with next := 3 }) (by rw [HSAME.out.2.2.1]; exact hq) 5 (iv (3 : Nat)) rfl rfl rfl rfl rfl rfl rfl rfl
            have hU5 : UseAt (w2.setCell ⟨g, 5, none⟩ (iv (3 : Nat))) { symV v x3 with next := 3 } xa xb := UseAt.go (v' := { symV v x3 with next := 3 }) (UseAt.go (v' := symV v x3) hU hC.st (Turn.left (T := wl) g hTr) HSAME.out.2.2.2.2.2.2.2.2.1 HSAME.out.2.2.2.2.2.2.2.2.2) hC2.st (Turn.left (T := wl) g hT5) rfl rfl
            have hO5 := (hO.turn (Turn.left (T := wl) g hTr)).turn (Turn.left (T := wl) g hT5)
            have hp5 : PhCopy (w2.setCell ⟨g, 5, none⟩ (iv (3 : Nat))) { symV v x3 with next := 3 } (grown xa xb v.last (H0 ++ Y) x3) (H0 ++ Y) := ⟨xa, xb, X, by rw [hX1]; show _ = (⟨_, (symV v x3).last, X⟩ : At); rw [HSAME.out.2.2.2.2.2.2.2.1], rfl, hU5, hX2 _ rfl rfl rfl, by show (symV v x3).left ≤ 400000; rw [HLL.out]; exact hL4, q, by show (symV v x3).bits = _; rw [HSAME.out.2.2.1]; exact hq⟩
            have hah5 : ahead_ b { symV v x3 with next := 3 } o p2 + 16 ≤ m := by have := hah { symV v x3 with next := 3 } HSAME.out.2.1 hle2; omega
            rw [show ((L : Int) == 0) = false from beq_eq_false_iff_ne.mpr hLz]
            clear hC hU hs hsrc hfin hah HWH HONE HSAME HPD hseen hX2 hX1 hU5 HN1 HCASES hv1
            go_loopw [6] (fun x wi => ∃ (A : Option Addr) (n c : Nat) (Y : List UInt8) (v : V) (p : Nat) (rl wl : List Nat) (s : At), x = .slice A n c ∧ n ≤ M ∧ Core S0 w wi g b v o p (H0 ++ Y) k rl wl s ∧ Out w wi A n c Y g k rl wl ∧ PhCopy wi v s (H0 ++ Y) ∧ ahead_ b v o p + 16 ≤ m) (fun _ wi => leftAt g wi)
            case atStart => exact ⟨A, n, c, Y, _, p2, rl5, wl, _, rfl, hnM, hC5, hO5, hp5, hah5⟩
            case round =>
              obtain ⟨A, n, c, Y, v, p, rl, wl, s, rfl, hnM, hC, hO, hp, hm⟩ := hrel
              obtain ⟨xa, xb, X, hs, hnx, hU, hPend, h4, q, hq⟩ := hp
              have hc7 : wr.cell? ⟨g, 7, none⟩ = some (iv v.left) := hC.st.inf.cell rfl
              have hcl : v.left = 0 ∨ ∃ L, v.left = L + 1 := by rcases v.left with _ | L; exact .inl rfl; exact .inr ⟨L, rfl⟩
              rcases hcl with hl | ⟨L, hl⟩
              · rw [hl] at hc7
                have hc5 : wr.cell? ⟨g, 5, none⟩ = some (iv v.next) := hC.st.inf.cell rfl
                have hz5 := hC.st.inf.free 5
                have hX : X = H0 ++ Y := by
                  rcases hPend with ⟨_, _, e⟩ | ⟨_, _, e⟩
                  · rw [e, hl]; simp
                  · rw [e, hl]; rfl
                go_wp2
                refine wp_goto ?_
                obtain ⟨rl5, hC5, hT5⟩ := hC.put (v' := { v with next := 2 }) hq 5 (iv (2 : Nat)) rfl rfl rfl rfl rfl rfl rfl rfl
                refine ⟨ahead_ b v o p + 15, by omega, A, n, c, Y, _, Fr.of _ rfl, hnM, .inr (.inr ⟨{ v with next := 2 }, o, p, k, rl5, wl, s, hC5, hO.turn (Turn.left g hT5), .inr (.inr (.inl ⟨rfl, ⟨xa, xb, by rw [hs, hX], rfl, hU.go hC.st (Turn.left (T := wl) g hT5) rfl rfl, q, hq⟩, Nat.le_refl _⟩))⟩)⟩
              · rw [hl] at hc7
                by_cases hnM2 : n = M
                · subst hnM2
                  go_wp2
                  rw [Jumps_ret]
                  go_ret2
                  exact ⟨A, n, c, Y, 0, rfl, Nat.le_refl _, hO.own, .inr (.inl ⟨rfl, rfl, v, o, p, k, rl, wl, s, hC, .inr (.inr (.inr ⟨xa, xb, X, hs, hnx, hU, hPend, h4, q, hq⟩))⟩)⟩
                · have hnMi : ¬ (n : Int) = (M : Int) := by omega
                  have hlen := hnb (H0 ++ Y) (by rw [List.length_append, hO.len]; omega)
                  obtain ⟨x, hcop, hpend2⟩ : ∃ x, (∀ w1, Fresh wr w1 → Calls Tryz.prog 59 #[ptr g] w1 fun e w' => e = .returned (bv x) ∧ Fresh w1 w') ∧ ∀ v', v'.back = v.back → v'.left = L → v'.one = v.one → Pend v' ((H0 ++ Y) ++ [x]) X := by
                    rcases hPend with ⟨h1, h2, h3⟩ | ⟨h1, h2, h3⟩
                    · have hL0 : L = 0 := by omega
                      subst hL0
                      refine ⟨v.one, fun w1 hf => copied_one (hC.fresh hf).st.inf h1, fun v' e1 e2 e3 => .inl ⟨by rw [e1]; exact h1, by omega, ?_⟩⟩
                      rw [h3, hl, e2]; simp
                    · obtain ⟨x, hx⟩ : ∃ x, (H0 ++ Y)[(H0 ++ Y).length - v.back]? = some x := ⟨_, List.getElem?_eq_getElem (by omega)⟩
                      refine ⟨x, fun w1 hf => copied_ago (hC.fresh hf).st.inf (hC.fresh hf).st.win hC.st.all hlen h1 h2 hx, fun v' e1 e2 e3 => .inr ⟨by rw [e1]; exact h1, by rw [e1, List.length_append, List.length_singleton]; omega, ?_⟩⟩
                      rw [h3, hl, e1, e2]
                      show infnum.copied v.back L ((H0 ++ Y) ++ [(H0 ++ Y).getD ((H0 ++ Y).length - v.back) 0]) = _
                      rw [List.getD_eq_getElem?_getD, hx]; rfl
                  have hadd : ∀ w1, Fresh wr w1 → Calls Tryz.prog 57 #[.pointer (some ⟨g, 3, none⟩), bv x] w1 fun e w' => e = .returned (bv x) ∧
                      ∃ val wl', InfAt w' g { v with win := val, all := (H0 ++ Y).length + 1 } ∧ WinAt w' val ((H0 ++ Y) ++ [x]) wl' ∧ Turn (g :: wl) (g :: wl') w1 w' := fun w1 hf =>
                    add_win g _ (H0 ++ Y) wl x w1 (hC.fresh hf).st.inf (hC.fresh hf).st.win hC.st.all hlen
                  have HADD := Lib.hid hadd
                  have HCOP := Lib.hid hcop
                  have HPEND := Lib.hid hpend2
                  have HC2 := Lib.hid hC
                  have HO2 := Lib.hid hO
                  have HU := Lib.hid hU
                  have HS := Lib.hid hs
                  have hw0' := hw0
                  clear hadd hcop hpend2 hC hO hU hPend hs hlen
                  go_wp2
                  go_region_held3 (fun w' => True) (exact trivial)
                    (first
                    | (go_at_call 59; (refine (HCOP.out _ (Fresh.drew _)).mono ?_); rintro e w2 ⟨rfl, hf2⟩; have HF2 := Lib.hid ((Fresh.drew wr).trans hf2))
                    | (go_at_call 57; (refine (HADD.out _ HF2.out).mono ?_); rintro e w3 ⟨rfl, val, wl3, hi3, hw3, hT3⟩; have HADDED := Lib.hid ((HC2.out.fresh HF2.out).add hi3 hw3 hT3); have HO3 := Lib.hid ((HO2.out.fresh HF2.out).turn HADDED.out.2))
                    | ((with_reducible (refine st_slot_ 105 ?_)); refine step_append_lies _ (by rfl) (.tmp 97) (.tmp 104) 24 (by rfl) w.heap.size 5 i0 _ 1 1 Tryz.underlying24 hi0 hz0 hz1 hz2 rfl (by omega) (.slice A n c) n (Y.map bv) (by rfl) (HO3.out.own.fresh (Fresh.alloc _ _)) ⟨w3.heap.size, 0, none⟩ 1 1 [bv x] (by rfl) (by rfl) (World.news_of_block (cs := #[bv x]) (t := 5) (fr := (0, 0)) (heap_alloc_new w3 _)) (by simp [Value.oneCell']) (by omega) (by unfold maxLen; omega) (by omega) (by have := HADDED.out.1.turn.size; simp; omega) (w3.heap.size + 1) (by simp) ?_; intro gg cap w4 hown hgrow hat hlt4; have HAT := Lib.hid hat; have HOWN := Lib.hid hown; have HGROW := Lib.hid hgrow; clear hat hown hgrow))
                  obtain ⟨hC4, hO4, R, hR1, hR2⟩ := Core.push HADDED.out.1 HO3.out hw0 HOWN.out HGROW.out HAT.out
                  have hU2 : UseAt w2 v xa xb := HU.out.go HC2.out.st (Turn.fresh HF2.out) rfl rfl
                  have hU3 : UseAt w3 { v with win := val, all := (H0 ++ Y).length + 1 } xa xb := UseAt.go (v' := { v with win := val, all := (H0 ++ Y).length + 1 }) hU2 (HC2.out.fresh HF2.out).st HADDED.out.2 rfl rfl
                  have hU3b : UseAt (w3.alloc (.cells #[bv x] 5)) { v with win := val, all := (H0 ++ Y).length + 1 } xa xb := UseAt.go (v' := { v with win := val, all := (H0 ++ Y).length + 1 }) hU3 HADDED.out.1.st (Turn.fresh (Fresh.alloc w3 (.cells #[bv x] 5))) rfl rfl
                  have hU4 : UseAt w4 { v with win := val, all := (H0 ++ Y).length + 1 } xa xb := UseAt.aside (v' := { v with win := val, all := (H0 ++ Y).length + 1 }) hU3b hR1 hR2 rfl rfl
                  have hc74 : w4.cell? ⟨g, 7, none⟩ = some (iv (L + 1 : Nat)) := by rw [← hl]; exact hC4.st.inf.cell rfl
                  have hz74 := hC4.st.inf.free 7
                  have HC4 := Lib.hid hC4
                  have HO4 := Lib.hid hO4
                  have HU4 := Lib.hid hU4
                  have hLi : ((L + 1 : Nat) : Int) - 1 = (L : Int) := by omega
                  have hL4 : L ≤ 400000 := by omega
                  clear hC4 hO4 hU4
                  go_wp2
                  go_roundw
                  case rel =>
                    obtain ⟨rl5, hC5, hT5⟩ := HC4.out.put (v' := { v with win := val, all := (H0 ++ Y).length + 1, left := L }) hq 7 (iv (L : Nat)) rfl rfl rfl rfl rfl rfl rfl rfl
                    have hU5 := UseAt.go (v' := { v with win := val, all := (H0 ++ Y).length + 1, left := L }) HU4.out HC4.out.st (Turn.left (T := wl3) g hT5) rfl rfl
                    have hP5 := HPEND.out { v with win := val, all := (H0 ++ Y).length + 1, left := L } rfl rfl rfl
                    rw [List.append_assoc] at hC5 hP5
                    exact ⟨some ⟨gg, 0, none⟩, n + 1, cap, Y ++ [x], _, p, rl5, wl3, _, rfl, by omega, hC5, HO4.out.turn (Turn.left g hT5), ⟨xa, xb, X, HS.out, hnx, hU5, hP5, by show L ≤ 400000; omega, q, hq⟩, hm⟩
                  case measure =>
                    obtain ⟨rl5, hC5, hT5⟩ := HC4.out.put (v' := { v with win := val, all := (H0 ++ Y).length + 1, left := L }) hq 7 (iv (L : Nat)) rfl rfl rfl rfl rfl rfl rfl rfl
                    have e1 := leftAt_is hC5.st.inf
                    have e2 : leftAt g wr = L + 1 := by unfold leftAt; rw [hc7]; simp
                    rw [e2]
                    exact Nat.lt_of_le_of_lt (Nat.le_of_eq e1) (by show L < L + 1; omega)
      · -- a copy
        refine ⟨_, rfl, ?_⟩
        obtain ⟨i0, hi0, hz0, hz1, hz2⟩ := info_parts info_byte
        have hnb : ∀ H : List UInt8, H.length ≤ H0.length + M → H.length ≤ 1099511627776 := fun H h => by omega
        go_wp2
        go_loopw [6] (fun x wi => ∃ (A : Option Addr) (n c : Nat) (Y : List UInt8) (v : V) (p : Nat) (rl wl : List Nat) (s : At), x = .slice A n c ∧ n ≤ M ∧ Core S0 w wi g b v o p (H0 ++ Y) k rl wl s ∧ Out w wi A n c Y g k rl wl ∧ PhCopy wi v s (H0 ++ Y) ∧ ahead_ b v o p + 16 ≤ m) (fun _ wi => leftAt g wi)
        case atStart => exact ⟨A, n, c, Y, v, p, rl, wl, s, rfl, hnM, hC, hO, hp, by omega⟩
        case round =>
          obtain ⟨A, n, c, Y, v, p, rl, wl, s, rfl, hnM, hC, hO, hp, hm⟩ := hrel
          obtain ⟨xa, xb, X, hs, hnx, hU, hPend, h4, q, hq⟩ := hp
          have hc7 : wr.cell? ⟨g, 7, none⟩ = some (iv v.left) := hC.st.inf.cell rfl
          have hcl : v.left = 0 ∨ ∃ L, v.left = L + 1 := by rcases v.left with _ | L; exact .inl rfl; exact .inr ⟨L, rfl⟩
          rcases hcl with hl | ⟨L, hl⟩
          · rw [hl] at hc7
            have hc5 : wr.cell? ⟨g, 5, none⟩ = some (iv v.next) := hC.st.inf.cell rfl
            have hz5 := hC.st.inf.free 5
            have hX : X = H0 ++ Y := by
              rcases hPend with ⟨_, _, e⟩ | ⟨_, _, e⟩
              · rw [e, hl]; simp
              · rw [e, hl]; rfl
            go_wp2
            refine wp_goto ?_
            obtain ⟨rl5, hC5, hT5⟩ := hC.put (v' := { v with next := 2 }) hq 5 (iv (2 : Nat)) rfl rfl rfl rfl rfl rfl rfl rfl
            refine ⟨ahead_ b v o p + 15, by omega, A, n, c, Y, _, Fr.of _ rfl, hnM, .inr (.inr ⟨{ v with next := 2 }, o, p, k, rl5, wl, s, hC5, hO.turn (Turn.left g hT5), .inr (.inr (.inl ⟨rfl, ⟨xa, xb, by rw [hs, hX], rfl, hU.go hC.st (Turn.left (T := wl) g hT5) rfl rfl, q, hq⟩, Nat.le_refl _⟩))⟩)⟩
          · rw [hl] at hc7
            by_cases hnM2 : n = M
            · subst hnM2
              go_wp2
              rw [Jumps_ret]
              go_ret2
              exact ⟨A, n, c, Y, 0, rfl, Nat.le_refl _, hO.own, .inr (.inl ⟨rfl, rfl, v, o, p, k, rl, wl, s, hC, .inr (.inr (.inr ⟨xa, xb, X, hs, hnx, hU, hPend, h4, q, hq⟩))⟩)⟩
            · have hnMi : ¬ (n : Int) = (M : Int) := by omega
              have hlen := hnb (H0 ++ Y) (by rw [List.length_append, hO.len]; omega)
              obtain ⟨x, hcop, hpend2⟩ : ∃ x, (∀ w1, Fresh wr w1 → Calls Tryz.prog 59 #[ptr g] w1 fun e w' => e = .returned (bv x) ∧ Fresh w1 w') ∧ ∀ v', v'.back = v.back → v'.left = L → v'.one = v.one → Pend v' ((H0 ++ Y) ++ [x]) X := by
                rcases hPend with ⟨h1, h2, h3⟩ | ⟨h1, h2, h3⟩
                · have hL0 : L = 0 := by omega
                  subst hL0
                  refine ⟨v.one, fun w1 hf => copied_one (hC.fresh hf).st.inf h1, fun v' e1 e2 e3 => .inl ⟨by rw [e1]; exact h1, by omega, ?_⟩⟩
                  rw [h3, hl, e2]; simp
                · obtain ⟨x, hx⟩ : ∃ x, (H0 ++ Y)[(H0 ++ Y).length - v.back]? = some x := ⟨_, List.getElem?_eq_getElem (by omega)⟩
                  refine ⟨x, fun w1 hf => copied_ago (hC.fresh hf).st.inf (hC.fresh hf).st.win hC.st.all hlen h1 h2 hx, fun v' e1 e2 e3 => .inr ⟨by rw [e1]; exact h1, by rw [e1, List.length_append, List.length_singleton]; omega, ?_⟩⟩
                  rw [h3, hl, e1, e2]
                  show infnum.copied v.back L ((H0 ++ Y) ++ [(H0 ++ Y).getD ((H0 ++ Y).length - v.back) 0]) = _
                  rw [List.getD_eq_getElem?_getD, hx]; rfl
              have hadd : ∀ w1, Fresh wr w1 → Calls Tryz.prog 57 #[.pointer (some ⟨g, 3, none⟩), bv x] w1 fun e w' => e = .returned (bv x) ∧
                  ∃ val wl', InfAt w' g { v with win := val, all := (H0 ++ Y).length + 1 } ∧ WinAt w' val ((H0 ++ Y) ++ [x]) wl' ∧ Turn (g :: wl) (g :: wl') w1 w' := fun w1 hf =>
                add_win g _ (H0 ++ Y) wl x w1 (hC.fresh hf).st.inf (hC.fresh hf).st.win hC.st.all hlen
              have HADD := Lib.hid hadd
              have HCOP := Lib.hid hcop
              have HPEND := Lib.hid hpend2
              have HC2 := Lib.hid hC
              have HO2 := Lib.hid hO
              have HU := Lib.hid hU
              have HS := Lib.hid hs
              have hw0' := hw0
              clear hadd hcop hpend2 hC hO hU hPend hs hlen
              go_wp2
              go_region_held3 (fun w' => True) (exact trivial)
                (first
                | (go_at_call 59; (refine (HCOP.out _ (Fresh.drew _)).mono ?_); rintro e w2 ⟨rfl, hf2⟩; have HF2 := Lib.hid ((Fresh.drew wr).trans hf2))
                | (go_at_call 57; (refine (HADD.out _ HF2.out).mono ?_); rintro e w3 ⟨rfl, val, wl3, hi3, hw3, hT3⟩; have HADDED := Lib.hid ((HC2.out.fresh HF2.out).add hi3 hw3 hT3); have HO3 := Lib.hid ((HO2.out.fresh HF2.out).turn HADDED.out.2))
                | ((with_reducible (refine st_slot_ 105 ?_)); refine step_append_lies _ (by rfl) (.tmp 97) (.tmp 104) 24 (by rfl) w.heap.size 5 i0 _ 1 1 Tryz.underlying24 hi0 hz0 hz1 hz2 rfl (by omega) (.slice A n c) n (Y.map bv) (by rfl) (HO3.out.own.fresh (Fresh.alloc _ _)) ⟨w3.heap.size, 0, none⟩ 1 1 [bv x] (by rfl) (by rfl) (World.news_of_block (cs := #[bv x]) (t := 5) (fr := (0, 0)) (heap_alloc_new w3 _)) (by simp [Value.oneCell']) (by omega) (by unfold maxLen; omega) (by omega) (by have := HADDED.out.1.turn.size; simp; omega) (w3.heap.size + 1) (by simp) ?_; intro gg cap w4 hown hgrow hat hlt4; have HAT := Lib.hid hat; have HOWN := Lib.hid hown; have HGROW := Lib.hid hgrow; clear hat hown hgrow))
              obtain ⟨hC4, hO4, R, hR1, hR2⟩ := Core.push HADDED.out.1 HO3.out hw0 HOWN.out HGROW.out HAT.out
              have hU2 : UseAt w2 v xa xb := HU.out.go HC2.out.st (Turn.fresh HF2.out) rfl rfl
              have hU3 : UseAt w3 { v with win := val, all := (H0 ++ Y).length + 1 } xa xb := UseAt.go (v' := { v with win := val, all := (H0 ++ Y).length + 1 }) hU2 (HC2.out.fresh HF2.out).st HADDED.out.2 rfl rfl
              have hU3b : UseAt (w3.alloc (.cells #[bv x] 5)) { v with win := val, all := (H0 ++ Y).length + 1 } xa xb := UseAt.go (v' := { v with win := val, all := (H0 ++ Y).length + 1 }) hU3 HADDED.out.1.st (Turn.fresh (Fresh.alloc w3 (.cells #[bv x] 5))) rfl rfl
              have hU4 : UseAt w4 { v with win := val, all := (H0 ++ Y).length + 1 } xa xb := UseAt.aside (v' := { v with win := val, all := (H0 ++ Y).length + 1 }) hU3b hR1 hR2 rfl rfl
              have hc74 : w4.cell? ⟨g, 7, none⟩ = some (iv (L + 1 : Nat)) := by rw [← hl]; exact hC4.st.inf.cell rfl
              have hz74 := hC4.st.inf.free 7
              have HC4 := Lib.hid hC4
              have HO4 := Lib.hid hO4
              have HU4 := Lib.hid hU4
              have hLi : ((L + 1 : Nat) : Int) - 1 = (L : Int) := by omega
              have hL4 : L ≤ 400000 := by omega
              clear hC4 hO4 hU4
              go_wp2
              go_roundw
              case rel =>
                obtain ⟨rl5, hC5, hT5⟩ := HC4.out.put (v' := { v with win := val, all := (H0 ++ Y).length + 1, left := L }) hq 7 (iv (L : Nat)) rfl rfl rfl rfl rfl rfl rfl rfl
                have hU5 := UseAt.go (v' := { v with win := val, all := (H0 ++ Y).length + 1, left := L }) HU4.out HC4.out.st (Turn.left (T := wl3) g hT5) rfl rfl
                have hP5 := HPEND.out { v with win := val, all := (H0 ++ Y).length + 1, left := L } rfl rfl rfl
                rw [List.append_assoc] at hC5 hP5
                exact ⟨some ⟨gg, 0, none⟩, n + 1, cap, Y ++ [x], _, p, rl5, wl3, _, rfl, by omega, hC5, HO4.out.turn (Turn.left g hT5), ⟨xa, xb, X, HS.out, hnx, hU5, hP5, by show L ≤ 400000; omega, q, hq⟩, hm⟩
              case measure =>
                obtain ⟨rl5, hC5, hT5⟩ := HC4.out.put (v' := { v with win := val, all := (H0 ++ Y).length + 1, left := L }) hq 7 (iv (L : Nat)) rfl rfl rfl rfl rfl rfl rfl rfl
                have e1 := leftAt_is hC5.st.inf
                have e2 : leftAt g wr = L + 1 := by unfold leftAt; rw [hc7]; simp
                rw [e2]
                exact Nat.lt_of_le_of_lt (Nat.le_of_eq e1) (by show L < L + 1; omega)
      · have hn : wr.cell? ⟨g, 5, none⟩ = some (iv (0 : Nat)) := by rw [← hp.2]; exact hC.st.inf.cell rfl
        refine ⟨_, rfl, ?_⟩
        go_wp2
        refine wp_goto ?_
        exact ⟨ahead_ b v o p + 10, by omega, A, n, c, Y, ev, Fr.of _ rfl, hnM, .inr (.inr ⟨v, o, p, k, rl, wl, s, hC, hO, .inl ⟨rfl, hp, Nat.le_refl _⟩⟩)⟩
      · rcases hp with hp | hp | hp
        · have hn : wr.cell? ⟨g, 5, none⟩ = some (iv (1 : Nat)) := by rw [← hp.2.1]; exact hC.st.inf.cell rfl
          refine ⟨_, rfl, ?_⟩
          go_wp2
          refine wp_goto ?_
          exact ⟨ahead_ b v o p + 30, by omega, A, n, c, Y, ev, Fr.of _ rfl, hnM, .inr (.inr ⟨v, o, p, k, rl, wl, s, hC, hO, .inr (.inl ⟨rfl, hp, Nat.le_refl _⟩)⟩)⟩
        · have hnx : v.next = 2 := by obtain ⟨_, _, _, h, _⟩ := hp; exact h
          have hn : wr.cell? ⟨g, 5, none⟩ = some (iv (2 : Nat)) := by rw [← hnx]; exact hC.st.inf.cell rfl
          refine ⟨_, rfl, ?_⟩
          go_wp2
          refine wp_goto ?_
          exact ⟨ahead_ b v o p + 15, by omega, A, n, c, Y, ev, Fr.of _ rfl, hnM, .inr (.inr ⟨v, o, p, k, rl, wl, s, hC, hO, .inr (.inr (.inl ⟨rfl, hp, Nat.le_refl _⟩))⟩)⟩
        · have hnx : v.next = 3 := by obtain ⟨_, _, _, _, h, _⟩ := hp; exact h
          have hn : wr.cell? ⟨g, 5, none⟩ = some (iv (3 : Nat)) := by rw [← hnx]; exact hC.st.inf.cell rfl
          refine ⟨_, rfl, ?_⟩
          go_wp2
          refine wp_goto ?_
          exact ⟨ahead_ b v o p + 30, by omega, A, n, c, Y, ev, Fr.of _ rfl, hnM, .inr (.inr ⟨v, o, p, k, rl, wl, s, hC, hO, .inr (.inr (.inr (.inl ⟨rfl, hp, Nat.le_refl _⟩)))⟩)⟩
      · -- the end of a block
        have hsrc := hC.st.src hq
        refine ⟨_, rfl, ?_⟩
        cases hl : v.last with
        | false =>
          have heb := endBlock_no hC.st.inf hl
          have HEB := Lib.hid heb
          clear heb
          go_wp2_with (go_at_call 60; refine HEB.out.mono ?_; rintro e w2 ⟨rfl, hi2, hT2⟩)
          refine wp_goto ?_
          obtain ⟨rl2, hC2, hTr⟩ := hC.inf hq hi2 hT2 rfl rfl rfl rfl rfl rfl rfl
          exact ⟨ahead_ b v o p + 11, by omega, A, n, c, Y, _, Fr.of _ rfl, hnM, .inr (.inr ⟨_, o, p, k, rl2, wl, s, hC2, hO.turn (Turn.left g hTr), .inr (.inr (.inr (.inr (.inl ⟨rfl, ⟨by rw [hs, hl], rfl⟩, Nat.le_refl _⟩))))⟩)⟩
        | true =>
          have heb := endBlock_yes hC.st hl
          have HEB := Lib.hid heb
          clear heb
          go_wp2_with (go_at_call 60; refine HEB.out.mono ?_; rintro e w2 ⟨rfl, hi2, hT2⟩)
          refine wp_goto ?_
          have hT3 : Turn (g :: (rl ++ wl)) (g :: (rl ++ wl)) wr w2 := Turn.wide hT2 (by simp) fun x hx => .inl hx
          have hO2 := hO.turn hT3
          refine ⟨0, by omega, A, n, c, Y, _, Fr.of _ rfl, hnM, .inl ⟨rfl, _, wl, s, 8 * o + p, ⟨hi2, rfl, ?_, ?_, hC.st.win.turn hT2 (fun x hx hx' => by rw [List.mem_singleton] at hx'; subst hx'; exact hC.st.win.off hC.st.inf hx), hC.st.all, ?_, Turn.only g (hC.turn.trans hT3), hC.way, hC.le, hC.tol, rfl⟩, hO2.own⟩⟩
          · rw [hs]; exact ⟨rfl, hl⟩
          · rw [hs]
          · show b.length - o - (p + 7) / 8 = b.length - (8 * o + p + 7) / 8
            omega
      · -- it stands still
        have hend : ∀ w1, Fresh wr w1 → UnIs S0 w g b H0 M (.returned (.tuple #[.slice A n c, .int .i64 ((3 : Nat) : Int)])) w1 ∨ o + v.fed ≠ b.length := fun w1 hf => by
          by_cases he : o + v.fed = b.length
          · refine .inl ⟨A, n, c, Y, 3, rfl, hnM, (hO.fresh hf).own, .inr (.inr (.inl ⟨rfl, v, o, p, k, rl, wl, s, hC.fresh hf, ?_, ?_⟩))⟩
            · exact hp.imp id (Or.imp id fun h => h.go hC (Turn.fresh hf))
            · have hfin : ¬ Fin s := by
                rintro ⟨h1, h2⟩
                rcases hp with h | h | ⟨_, _, h, _⟩
                · rw [h.1] at h2; cases h2
                · rw [h.1] at h1; cases h1
                · rw [h] at h1; cases h1
              exact seen_bad (infnum.Good.one hfin) b o v.fed p hC.st.fed hC.st.ple hstuck (.inr he)
          · exact .inr he
        refine ⟨_, rfl, ?_⟩
        by_cases he : o + v.fed = b.length
        · have hfd := feed_no hC.st he
          have HFD := Lib.hid hfd
          have HEND := Lib.hid hend
          clear hfd hend
          go_wp2_with (go_at_call 61; refine HFD.out.mono ?_; rintro e w2 ⟨rfl, hf2⟩)
          rw [Jumps_ret]
          go_ret2
          rcases HEND.out _ hf2 with h | h
          · exact h
          · exact absurd he h
        · have hlt : o + v.fed < b.length := by have := hC.st.fed; omega
          have hfd := feed_yes hC.st hlt
          have HFD := Lib.hid hfd
          clear hfd hend
          go_wp2_with (go_at_call 61; refine HFD.out.mono ?_; rintro e w2 ⟨rfl, v2, rl2, hS2, hv2, hmore, hq2, hT2⟩)
          refine wp_goto ?_
          obtain ⟨hC2, hTT⟩ := hC.feed hS2 hv2 hT2
          have hO2 := hO.turn hTT
          have hah : ahead_ b v2 (o + p / 8) (p % 8) + 100 ≤ ahead_ b v o p := by
            unfold ahead_
            have := hS2.fed
            omega
          have hany : (PhHead v2 s (H0 ++ Y)) ∨ (PhRaw v2 s (H0 ++ Y)) ∨ (PhSym w2 v2 s (H0 ++ Y)) := by
            obtain ⟨R, F, B, rfl⟩ := hv2
            rcases hp with h | h | ⟨x, y, h1, h2, h3, _⟩
            · exact .inl h
            · exact .inr (.inl ⟨h.1, h.2.1, h.2.2.1, hq2⟩)
            · exact .inr (.inr ⟨x, y, h1, h2, h3.go hC.st hTT rfl rfl, hq2⟩)
          rcases hany with h | h | h
          · exact ⟨_, by omega, A, n, c, Y, _, Fr.of _ rfl, hnM, .inr (.inr ⟨v2, o + p / 8, p % 8, k, rl2, wl, s, hC2, hO2, .inr (.inr (.inr (.inr (.inl ⟨rfl, h, Nat.le_refl _⟩))))⟩)⟩
          · exact ⟨_, by omega, A, n, c, Y, _, Fr.of _ rfl, hnM, .inr (.inr ⟨v2, o + p / 8, p % 8, k, rl2, wl, s, hC2, hO2, .inr (.inr (.inr (.inr (.inr (.inl ⟨rfl, .inl h, Nat.le_refl _⟩)))))⟩)⟩
          · exact ⟨_, by omega, A, n, c, Y, _, Fr.of _ rfl, hnM, .inr (.inr ⟨v2, o + p / 8, p % 8, k, rl2, wl, s, hC2, hO2, .inr (.inr (.inr (.inr (.inr (.inl ⟨rfl, .inr (.inl h), Nat.le_refl _⟩)))))⟩)⟩
end
end Go.Proofs.YtppgceighgpgoaaGreatDoor.infp
/-
  The contract of unpack. My own text.
-/
namespace Go.Proofs.YtppgceighgpgoaaGreatDoor.infp
open Go.RowKit Go.Proofs.YtppgceighgpgoaaGreatDoor.base Go.Proofs.YtppgceighgpgoaaGreatDoor.num Go.Proofs.YtppgceighgpgoaaGreatDoor.bitnum Go.Proofs.YtppgceighgpgoaaGreatDoor.bitp Go.Proofs.YtppgceighgpgoaaGreatDoor.huffnum Go.Proofs.YtppgceighgpgoaaGreatDoor.huffp Go.Proofs.YtppgceighgpgoaaGreatDoor.infnum
set_option linter.unusedVariables false

/-! unpack when all is unpacked, and when what isn't right was met -/
set_option maxHeartbeats 4000000 in
set_option maxRecDepth 100000 in
theorem unpack_done (w : World) (g : Nat) (M : Nat) (hn : w.cell? ⟨g, 5, none⟩ = some (iv (4 : Nat))) :
    Calls Tryz.prog 34 #[ptr g, .int .i64 M] w fun e w' => e = .returned (.tuple #[.slice none 0 0, .int .i64 0]) ∧ Fresh w w' := by
  go_enter Tryz.func34, Tryz.ntmps34
  go_wp2
  refine wp_scope_labels (fun _ _ _ _ => False) ?_ ?_
  · go_wp2
    go_step3
    go_wp2
    rw [Jumps_ret]
    go_ret2
    exact ⟨rfl, Fresh.refl _⟩
  · intro m l a w' h
    exact h.elim
set_option maxHeartbeats 4000000 in
set_option maxRecDepth 100000 in
theorem unpack_wrong (w : World) (g : Nat) (M : Nat) (hn : w.cell? ⟨g, 5, none⟩ = some (iv (5 : Nat))) :
    Calls Tryz.prog 34 #[ptr g, .int .i64 M] w fun e w' => e = .returned (.tuple #[.slice none 0 0, .int .i64 12]) ∧ Fresh w w' := by
  go_enter Tryz.func34, Tryz.ntmps34
  go_wp2
  refine wp_scope_labels (fun _ _ _ _ => False) ?_ ?_
  · go_wp2
    go_step3
    go_wp2
    rw [Jumps_ret]
    go_ret2
    exact ⟨rfl, Fresh.refl _⟩
  · intro m l a w' h
    exact h.elim
section
variable {S0 : List Nat} {w0 w w' : World} {g o p k P M : Nat} {v : V} {b H H0 : List UInt8} {rl wl : List Nat} {s : At}
/-! the same, as the world stands now -/
theorem Core.here (h : Core S0 w0 w g b v o p H k rl wl s) : Core (g :: (rl ++ wl)) w w g b v o p H k rl wl s := { h with turn := Turn.refl _ _, tol := h.st.inf.cell rfl, kb := ⟨_, h.st.inf.cell rfl, h.st.kk⟩ }
theorem Dn.here (h : Dn S0 w0 w g b v H wl s P) : Dn (g :: wl) w w g b v H wl s P := { h with turn := Turn.refl _ _, tol := h.inf.cell rfl }
theorem Wr.here (h : Wr S0 w0 w g b v H wl s P) : Wr (g :: wl) w w g b v H wl s P := { h with bd := { h.bd with turn := Turn.refl _ _, tol := h.bd.inf.cell rfl } }
theorem Dn.fresh (h : Dn S0 w0 w g b v H wl s P) (f : Fresh w w') : Dn S0 w0 w' g b v H wl s P := { h with inf := h.inf.fresh f, win := h.win.fresh f, turn := h.turn.trans (Turn.fresh f) }
theorem Wr.fresh (h : Wr S0 w0 w g b v H wl s P) (f : Fresh w w') : Wr S0 w0 w' g b v H wl s P := { h with bd := { h.bd with inf := h.bd.inf.fresh f, win := h.bd.win.fresh f, turn := h.bd.turn.trans (Turn.fresh f) } }
/-- where an unpacker is between calls -/
def Live (S0 : List Nat) (w0 w : World) (g : Nat) (b : List UInt8) (v : V) (H : List UInt8) : Prop :=
  (∃ wl s P, Dn S0 w0 w g b v H wl s P) ∨ (∃ o p k rl wl s, Core S0 w0 w g b v o p H k rl wl s ∧ Any w v s H) ∨ (∃ wl s P, Wr S0 w0 w g b v H wl s P)
theorem unpack_live (h : Live S0 w w g b v H0) (hM : M ≤ 65536) (hH : H0.length ≤ 17179869184) :
    Calls Tryz.prog 34 #[ptr g, .int .i64 M] w (UnIs S0 w g b H0 M) := by
  rcases h with ⟨wl, s, P, h⟩ | ⟨o, p, k, rl, wl, s, h, ha⟩ | ⟨wl, s, P, h⟩
  · have hn : w.cell? ⟨g, 5, none⟩ = some (iv (4 : Nat)) := by rw [← h.next]; exact h.inf.cell rfl
    refine (unpack_done w g M hn).mono ?_
    rintro e w' ⟨rfl, f⟩
    exact ⟨none, 0, 0, [], 0, rfl, Nat.zero_le _, Own.nil _ _ _, .inl ⟨rfl, v, wl, s, P, by rw [List.append_nil]; exact h.fresh f⟩⟩
  · exact unpack_go S0 w g b H0 M hM hH v o p k rl wl s h ha
  · have hn : w.cell? ⟨g, 5, none⟩ = some (iv (5 : Nat)) := by
      have h5 : w.cell? ⟨g, 5, none⟩ = some (iv v.next) := h.bd.inf.cell rfl
      rw [h.next] at h5
      exact h5
    refine (unpack_wrong w g M hn).mono ?_
    rintro e w' ⟨rfl, f⟩
    exact ⟨none, 0, 0, [], 12, rfl, Nat.zero_le _, Own.nil _ _ _, .inr (.inr (.inr ⟨rfl, v, wl, s, P, by rw [List.append_nil]; exact h.fresh f⟩))⟩
/-! the sign that ErrData was told -/
theorem Dn.sign (h : Dn S0 w0 w g b v H wl s P) (t : Bool) : Dn (g :: wl) (w.setCell ⟨g, 15, none⟩ (.bool t)) (w.setCell ⟨g, 15, none⟩ (.bool t)) g b { v with told := t } H wl s P :=
  { h with
    inf := h.inf.put 15 (.bool t)
    win := h.win.turn (Turn.but (S := [g]) (But.put _ _) (by simp)) (fun x hx e => h.win.off h.inf (by simp at e; rwa [e] at hx))
    turn := Turn.refl _ _
    tol := Bk.cell (cs := V.cells { v with told := t }) (h.inf.put 15 (.bool t)) rfl }
theorem Wr.sign (h : Wr S0 w0 w g b v H wl s P) (t : Bool) : Wr (g :: wl) (w.setCell ⟨g, 15, none⟩ (.bool t)) (w.setCell ⟨g, 15, none⟩ (.bool t)) g b { v with told := t } H wl s P :=
  { h with bd := { h.bd with
    inf := h.bd.inf.put 15 (.bool t)
    win := h.bd.win.turn (Turn.but (S := [g]) (But.put _ _) (by simp)) (fun x hx e => h.bd.win.off h.bd.inf (by simp at e; rwa [e] at hx))
    turn := Turn.refl _ _
    tol := Bk.cell (cs := V.cells { v with told := t }) (h.bd.inf.put 15 (.bool t)) rfl } }
theorem Core.sign (h : Core S0 w0 w g b v o p H k rl wl s) (ha : Any w v s H) (t : Bool) : ∃ rl', Core (g :: (rl' ++ wl)) (w.setCell ⟨g, 15, none⟩ (.bool t)) (w.setCell ⟨g, 15, none⟩ (.bool t)) g b { v with told := t } o p H k rl' wl s ∧ Any (w.setCell ⟨g, 15, none⟩ (.bool t)) { v with told := t } s H := by
  have hT : Turn (g :: (rl ++ wl)) (g :: (rl ++ wl)) w (w.setCell ⟨g, 15, none⟩ (.bool t)) := Turn.but (But.put _ _) (by simp)
  have hT1 : Turn [g] [g] w (w.setCell ⟨g, 15, none⟩ (.bool t)) := Turn.but (But.put _ _) (by simp)
  have hany : Any (w.setCell ⟨g, 15, none⟩ (.bool t)) { v with told := t } s H := by
    rcases ha with ha | ha | ⟨xa, xb, e, hn, hU, hq⟩ | ⟨xa, xb, X, e, hn, hU, hP, hl, hq⟩
    · exact .inl ha
    · exact .inr (.inl ha)
    · exact .inr (.inr (.inl ⟨xa, xb, e, hn, UseAt.go (v' := { v with told := t }) hU h.st hT rfl rfl, hq⟩))
    · exact .inr (.inr (.inr ⟨xa, xb, X, e, hn, UseAt.go (v' := { v with told := t }) hU h.st hT rfl rfl, hP, hl, hq⟩))
  have hi : InfAt (w.setCell ⟨g, 15, none⟩ (.bool t)) g { v with told := t } := h.st.inf.put 15 (.bool t)
  refine ⟨rl, { h with st := { h.st with inf := hi, rest := ?_, bits := ?_, win := h.st.win.turn hT1 (fun x hx e => h.st.win.off h.st.inf (by simp at e; rwa [e] at hx)) }, fix := FixAt.go (v' := { v with told := t }) h.fix h.st hT rfl rfl, ord := h.ord.keep (hT.block 1 h.w0_ h.zero), kin := Nat.lt_of_lt_of_le h.kin hT.size, turn := Turn.refl _ _, tol := hi.cell rfl, kb := ⟨_, hi.cell rfl, h.st.kk⟩ }, hany⟩
  · obtain ⟨A, n, c, e, hr⟩ := h.st.rest
    exact ⟨A, n, c, e, hr.turn hT1 (by simpa using h.st.kg)⟩
  · have hgr := h.st.grl
    exact h.st.bits.imp id fun ⟨q, e, hR⟩ => ⟨q, e, hR.turn hT1 (fun x hx e => hgr (by simp at e; rwa [e] at hx))⟩
end
end Go.Proofs.YtppgceighgpgoaaGreatDoor.infp
namespace Go.Proofs.YtppgceighgpgoaaGreatDoor.infp
open Go.RowKit Go.Proofs.YtppgceighgpgoaaGreatDoor.base Go.Proofs.YtppgceighgpgoaaGreatDoor.num Go.Proofs.YtppgceighgpgoaaGreatDoor.bitnum Go.Proofs.YtppgceighgpgoaaGreatDoor.bitp Go.Proofs.YtppgceighgpgoaaGreatDoor.huffnum Go.Proofs.YtppgceighgpgoaaGreatDoor.huffp Go.Proofs.YtppgceighgpgoaaGreatDoor.infnum
set_option linter.unusedVariables false

section
variable {S0 : List Nat} {w0 w w' : World} {g o p k P M : Nat} {v : V} {b H H0 : List UInt8} {rl wl : List Nat} {s : At}
theorem UnIs.sign (h : Live S0 w w g b v H0) (ht : v.told = false) : w.cell? ⟨g, 15, none⟩ = some (.bool false) := by
  rw [← ht]
  rcases h with ⟨wl, s, P, h⟩ | ⟨o, p, k, rl, wl, s, h, ha⟩ | ⟨wl, s, P, h⟩
  · exact h.tol
  · exact h.tol
  · exact h.bd.tol
theorem UnIs.signed {e : Ending} (h15 : w.cell? ⟨g, 15, none⟩ = some (.bool false)) (h : UnIs S0 w g b H0 M e w') : w'.cell? ⟨g, 15, none⟩ = some (.bool false) ∧ ∃ q cs, Bk w' q tInf cs ∧ q = g := by
  obtain ⟨A, n, c, Y, er, rfl, hnM, hOw, hst⟩ := h
  have key : ∀ v2 : V, w.cell? ⟨g, 15, none⟩ = some (.bool v2.told) → InfAt w' g v2 → w'.cell? ⟨g, 15, none⟩ = some (.bool false) ∧ ∃ q cs, Bk w' q tInf cs ∧ q = g := fun v2 h1 h2 => by
    have c1 : w'.cell? ⟨g, 15, none⟩ = some (.bool v2.told) := h2.cell rfl
    rw [c1, ← h1]
    exact ⟨h15, g, _, h2, rfl⟩
  rcases hst with ⟨_, v2, wl, s, P, hD⟩ | ⟨_, _, v2, o, p, k, rl, wl, s, hC, _⟩ | ⟨_, v2, o, p, k, rl, wl, s, hC, _⟩ | ⟨_, v2, wl, s, P, hW⟩
  · exact key v2 hD.tol hD.inf
  · exact key v2 hC.tol hC.st.inf
  · exact key v2 hC.tol hC.st.inf
  · exact key v2 hW.bd.tol hW.bd.inf
/-- what a Get tells, when none told ErrData yet -/
def GetIs (S0 : List Nat) (w : World) (g : Nat) (b H0 : List UInt8) (M : Nat) (e : Ending) (w' : World) : Prop :=
  ∃ (A : Option Addr) (n c er : Nat) (w1 : World), UnIs S0 w g b H0 M (.returned (.tuple #[.slice A n c, .int .i64 er])) w1 ∧
    ((n = M ∧ e = .returned (.tuple #[.slice A n c, .int .i64 0]) ∧ w' = w1) ∨
     (n ≠ M ∧ e = .returned (.tuple #[.slice A n c, .int .i64 er]) ∧ ∃ t, w' = w1.setCell ⟨g, 15, none⟩ (.bool t) ∧ (t = true ↔ er = 12)))
set_option maxHeartbeats 4000000 in
set_option maxRecDepth 100000 in
theorem get_live (h : Live S0 w w g b v H0) (ht : v.told = false) (Z : Nat) (hZ : Z ≤ 1099511627776) (hH : H0.length ≤ 17179869184) :
    Calls Tryz.prog 17 #[ptr g, .int .i64 Z] w (GetIs S0 w g b H0 (min Z 65536)) := by
  have h15 := UnIs.sign h ht
  obtain ⟨M, hM⟩ : ∃ M, min Z 65536 = M := ⟨_, rfl⟩
  rw [hM]
  have hu : ∀ z : Int, z = (M : Int) → Calls Tryz.prog 34 #[ptr g, .int .i64 z] w (UnIs S0 w g b H0 M) := by
    rintro _ rfl
    exact unpack_live (M := M) h (by omega) hH
  have HU := Lib.hid hu
  clear hu h
  go_enter Tryz.func17, Tryz.ntmps17
  go_wp2_with (go_at_call 34; refine (HU.out _ (by omega)).mono ?_; rintro e w2 hun; have HUN := Lib.hid hun; obtain ⟨h15b, q, cs, hq, rfl⟩ := hun.signed h15; have hfr := hq.free 15; obtain ⟨A, n, c, Y, er, rfl, hnM, hOw, hst⟩ := hun; clear hOw hst hq; (by_cases hnm : (n : Int) = (M : Int)))
  all_goals try go_wp2
  all_goals go_ret2
  all_goals first
    | exact ⟨A, n, c, er, w2, HUN.out, .inl ⟨by omega, rfl, rfl⟩⟩
    | exact ⟨A, n, c, er, w2, HUN.out, .inr ⟨by omega, rfl, _, rfl, by simp only [beq_iff_eq]; omega⟩⟩
    | (have e0 : M = 0 := by omega
       have e1 := HUN.out
       rw [e0] at e1
       exact ⟨A, n, c, er, w2, e1, .inl ⟨by omega, rfl, rfl⟩⟩)
end
end Go.Proofs.YtppgceighgpgoaaGreatDoor.infp
