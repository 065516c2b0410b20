/-
  The contracts of whole, copied, endBlock. My own text.
-/
import Derived.Test.YtlaecigjnknhoaaDoorInfHead
import Derived.Test.YtlaecigjnknhoaaDoorInfFeed
namespace Go.Proofs.YtlaecigjnknhoaaDoor.infp
open Go.RowKit Go.Proofs.YtlaecigjnknhoaaDoor.base Go.Proofs.YtlaecigjnknhoaaDoor.num Go.Proofs.YtlaecigjnknhoaaDoor.bitnum Go.Proofs.YtlaecigjnknhoaaDoor.bitp Go.Proofs.YtlaecigjnknhoaaDoor.huffnum Go.Proofs.YtlaecigjnknhoaaDoor.huffp Go.Proofs.YtlaecigjnknhoaaDoor.infnum
set_option linter.unusedVariables false

section
variable {w : World} {g q p : Nat} {v : V} {bs : List UInt8} {rl : List Nat}
theorem HeadIs.ok {s : At} {p' : Nat} {e : Ending} {w' : World} (h : HeadIs w g v q bs p rl (.ok (s, p')) e w') : e = .returned (.int .i64 0) ∧ ∃ N L F S D F0 F1, PhAt w' { v with next := N, last := L, left := F, sy := S, di := D, f0 := F0, f1 := F1 } s ∧ FixAt w' { v with next := N, last := L, left := F, sy := S, di := D, f0 := F0, f1 := F1 } ∧
      SrcIs w g { v with next := N, last := L, left := F, sy := S, di := D, f0 := F0, f1 := F1 } q bs p' rl w' := h
theorem HeadIs.no {k : Nat} {e : Ending} {w' : World} (h : HeadIs w g v q bs p rl (.error k) e w') : e = .returned (.int .i64 (k : Nat)) ∧ ∃ p' L, p ≤ p' ∧ FixAt w' v ∧ SrcIs w g { v with last := L } q bs p' rl w' := h
/-- a part that isn't whole is given back -/
theorem Src.back (h : Src w g v q bs p rl) {m : Nat} (hm : m ≤ p) : Calls Tryd.prog 51 #[ptr q, .int .i64 m] w fun e w' => e = .returned (.tuple #[]) ∧ SrcIs w g v q bs m rl w' :=
  (back_ok q bs p m rl w h.rdr h.le h.sm hm).mono fun e w' ⟨he, hR⟩ => ⟨he, h.moved hR (Nat.le_trans hm h.le)⟩
set_option maxHeartbeats 4000000 in
set_option maxRecDepth 100000 in
theorem wholeHead_ok (h : Src w g v q bs p rl) (hO : Ord w) (hg : 1 < g) (hrl : ∀ b ∈ rl, 1 < b) (hfx : FixAt w v) (out : List UInt8) {s : At} {p2 : Nat} (hr : headP out (num bs) (8 * bs.length) p = .ok (s, p2)) :
    Calls Tryd.prog 29 #[ptr g, .func (.func 30) #[ptr g] #[]] w (HeadIs w g v q bs p rl (.ok (s, p2))) := by
  have hc := h.bits2
  have hm := mark_any q bs p rl w h.rdr
  have ht := takeHead_any h hO hg hrl hfx out hr
  go_enter Tryd.func29, Tryd.ntmps29
  go_wp2_with (first
    | (go_at_call 50; refine hm.mono ?_; rintro e w1 ⟨rfl, rfl⟩)
    | (go_at_call 30; refine ht.mono ?_; rintro e w2 hH; obtain ⟨rfl, hH2⟩ := hH.ok))
  go_ret
  exact ⟨rfl, hH2⟩
set_option maxHeartbeats 4000000 in
set_option maxRecDepth 100000 in
theorem wholeHead_no (h : Src w g v q bs p rl) (hO : Ord w) (hg : 1 < g) (hrl : ∀ b ∈ rl, 1 < b) (hfx : FixAt w v) (out : List UInt8) {k : Nat} (hr : headP out (num bs) (8 * bs.length) p = .error k) :
    Calls Tryd.prog 29 #[ptr g, .func (.func 30) #[ptr g] #[]] w fun e w' => e = .returned (.int .i64 (k : Nat)) ∧ ∃ p' L, (k = 3 → p' = p) ∧ FixAt w' v ∧ SrcIs w g { v with last := L } q bs p' rl w' := by
  have hc := h.bits2
  have hm := mark_any q bs p rl w h.rdr
  have ht := takeHead_any h hO hg hrl hfx out hr
  rcases (infnum.Good.head out).ev _ _ _ _ hr with rfl | rfl
  all_goals
    go_enter Tryd.func29, Tryd.ntmps29
    go_wp2_with (first
      | (go_at_call 50; refine hm.mono ?_; rintro e w1 ⟨rfl, rfl⟩)
      | (go_at_call 30; refine ht.mono ?_; rintro e w2 hH; obtain ⟨rfl, p2, L, hp2, hF2, rl2, hS2, hT2⟩ := hH.no; have hc2 := hS2.bits2)
      | (go_at_call 51; refine (hS2.back hp2).mono ?_; rintro e w3 ⟨rfl, rl3, hS3, hT3⟩))
    go_ret
  · exact ⟨rfl, p, L, fun _ => rfl, FixAt.by_ hF2 hS2 hT3, rl3, hS3, hT2.trans hT3⟩
  · exact ⟨rfl, p2, L, fun e => by omega, hF2, rl2, hS2, hT2⟩
set_option maxRecDepth 100000 in
theorem wholeHead_nil (h : InfAt w g v) (hb : v.bits = .pointer none) :
    Calls Tryd.prog 29 #[ptr g, .func (.func 30) #[ptr g] #[]] w fun e w' => e = .returned (.int .i64 3) ∧ w = w' := by
  have hc : w.cell? ⟨g, 2, none⟩ = some (.pointer none) := by rw [← hb]; exact h.cell rfl
  have ht : Calls Tryd.prog 30 #[ptr g] w fun e w' => e = .returned (.int .i64 3) ∧ w = w' := by
    go_enter Tryd.func30, Tryd.ntmps30
    go_wp2_with (go_at_call 52; refine (bits_nil 3 w).mono ?_; rintro e w1 ⟨rfl, rfl⟩)
    go_ret
    exact ⟨rfl, rfl⟩
  go_enter Tryd.func29, Tryd.ntmps29
  go_wp2_with (first
    | (go_at_call 50; refine (mark_nil w).mono ?_; rintro e w1 ⟨rfl, rfl⟩)
    | (go_at_call 30; refine ht.mono ?_; rintro e w2 ⟨rfl, rfl⟩)
    | (go_at_call 51; refine (back_nil 0 w).mono ?_; rintro e w3 ⟨rfl, rfl⟩))
  go_ret
  exact ⟨rfl, rfl⟩
set_option maxHeartbeats 4000000 in
set_option maxRecDepth 100000 in
theorem wholeSym_any (h : Src w g v q bs p rl) {a b : List Nat} (hU : UseAt w v a b) {A : Option Addr} {n c : Nat} (hv : v.win = .slice A n c) {r : Except Nat ((Nat × Nat × UInt8) × Nat)} (hr : symP n a b (num bs) (8 * bs.length) p = r) :
    Calls Tryd.prog 29 #[ptr g, .func (.func 33) #[ptr g] #[]] w fun e w' => match r with
      | .ok (x, p') => e = .returned (.int .i64 0) ∧ SrcIs w g (symV v x) q bs p' rl w'
      | .error k => e = .returned (.int .i64 (k : Nat)) ∧ ∃ p', (k = 3 → p' = p) ∧ SrcIs w g v q bs p' rl w' := by
  obtain ⟨s, d, sbl, dbl, hsy, hdi, hCs, hCd, hFs, hFd⟩ := hU
  have hc := h.bits2
  have hm := mark_any q bs p rl w h.rdr
  have ht := takeSymbol_any h hsy hCs hFs hdi hCd hFd hv hr
  cases r with
  | error k =>
    rcases (infnum.Good.symP n a b).ev _ _ _ _ hr with rfl | rfl
    all_goals
      go_enter Tryd.func29, Tryd.ntmps29
      go_wp2_with (first
        | (go_at_call 50; refine hm.mono ?_; rintro e w1 ⟨rfl, rfl⟩)
        | (go_at_call 33; refine ht.mono ?_; rintro e w2 hH; obtain ⟨rfl, p2, hp2, rl2, hS2, hT2⟩ := hH.no; have hc2 := hS2.bits2)
        | (go_at_call 51; refine (hS2.back hp2).mono ?_; rintro e w3 ⟨rfl, rl3, hS3, hT3⟩))
      go_ret
    · exact ⟨rfl, p, fun _ => rfl, rl3, hS3, hT2.trans hT3⟩
    · exact ⟨rfl, p2, fun e => by omega, rl2, hS2, hT2⟩
  | ok x =>
    go_enter Tryd.func29, Tryd.ntmps29
    go_wp2_with (first
      | (go_at_call 50; refine hm.mono ?_; rintro e w1 ⟨rfl, rfl⟩)
      | (go_at_call 33; refine ht.mono ?_; rintro e w2 hH; obtain ⟨rfl, hH2⟩ := hH.ok))
    go_ret
    exact ⟨rfl, hH2⟩
theorem copied_one (h : InfAt w g v) (hb : v.back = 0) : Calls Tryd.prog 34 #[ptr g] w fun e w' => e = .returned (bv v.one) ∧ Fresh w w' := by
  have h8 : w.cell? ⟨g, 8, none⟩ = some (.int .i64 0) := by have : w.cell? ⟨g, 8, none⟩ = some (iv v.back) := h.cell rfl; rw [hb] at this; exact this
  have h9 : w.cell? ⟨g, 9, none⟩ = some (bv v.one) := h.cell rfl
  go_enter Tryd.func34, Tryd.ntmps34
  go_wp2
  go_ret
  exact ⟨rfl, Fresh.refl _⟩
set_option maxHeartbeats 4000000 in
set_option maxRecDepth 100000 in
theorem copied_ago (h : InfAt w g v) {out : List UInt8} {wl : List Nat} (hw : WinAt w v.win out wl) (ha : v.all = out.length) (hn : out.length ≤ 1099511627776) (h1 : 1 ≤ v.back) (hle : v.back ≤ min 32768 out.length) {x : UInt8} (hx : out[out.length - v.back]? = some x) :
    Calls Tryd.prog 34 #[ptr g] w fun e w' => e = .returned (bv x) ∧ Fresh w w' := by
  obtain ⟨B, hB⟩ : ∃ B, v.back = B := ⟨_, rfl⟩
  have h8 : w.cell? ⟨g, 8, none⟩ = some (.int .i64 B) := by rw [← hB]; exact h.cell rfl
  rw [hB] at h1 hle hx
  have hag := ago_win g v out wl B x w.drew (h.fresh (Fresh.drew _)) (hw.fresh (Fresh.drew _)) ha hn h1 hle hx
  have HAG := Lib.hid hag
  have hb0 : ¬ (B : Int) = 0 := by omega
  clear hag hle hx hn ha hw hB
  go_enter Tryd.func34, Tryd.ntmps34
  go_wp2
  go_region_with (go_at_call 58; refine HAG.out.mono ?_; rintro e w2 ⟨rfl, hf⟩)
  all_goals
    go_wp2
    go_ret
    exact ⟨rfl, (Fresh.drew _).trans hf⟩
end
section
variable {w : World} {g o p k : Nat} {v : V} {b out : List UInt8} {rl wl : List Nat}
theorem endBlock_no (h : InfAt w g v) (hl : v.last = false) : Calls Tryd.prog 35 #[ptr g] w fun e w' => e = .returned (.tuple #[]) ∧ InfAt w' g { v with next := 0 } ∧ Turn [g] [g] w w' := by
  have h5 : w.cell? ⟨g, 5, none⟩ = some (iv v.next) := h.cell rfl
  have h6 : w.cell? ⟨g, 6, none⟩ = some (.bool false) := by rw [← hl]; exact h.cell rfl
  have z5 := h.free 5
  go_enter Tryd.func35, Tryd.ntmps35
  go_wp2
  go_end0
  exact ⟨rfl, h.put 5 _, Turn.but (But.put _ _) (by simp)⟩
set_option maxHeartbeats 4000000 in
set_option maxRecDepth 100000 in
theorem endBlock_yes (h : St w g v b o p out k rl wl) (hl : v.last = true) : Calls Tryd.prog 35 #[ptr g] w fun e w' => e = .returned (.tuple #[]) ∧
      InfAt w' g { v with rest := .slice none 0 0, fed := 0, bits := .pointer none, next := 4, behind := b.length - o - (p + 7) / 8 } ∧ Turn [g] [g] w w' := by
  have h5 : w.cell? ⟨g, 5, none⟩ = some (iv v.next) := h.inf.cell rfl
  have h6 : w.cell? ⟨g, 6, none⟩ = some (.bool true) := by rw [← hl]; exact h.inf.cell rfl
  have z5 := h.inf.free 5
  have hT1 : Turn [g] [g] w (w.setCell ⟨g, 5, none⟩ (.int .i64 0)) := Turn.but (But.put _ _) (by simp)
  have hi1 : InfAt (w.setCell ⟨g, 5, none⟩ (.int .i64 0)) g { v with next := 0 } := h.inf.put 5 _
  have hgrl : g ∉ rl := by
    rcases h.bits with ⟨_, _, e⟩ | ⟨q, hq, _⟩
    · rw [e]; simp
    · exact (h.src hq).off
  have hs1 : St (w.setCell ⟨g, 5, none⟩ (.int .i64 0)) g { v with next := 0 } b o p out k rl wl :=
    { inf := hi1
      rest := by obtain ⟨A, n, c, e, hr⟩ := h.rest; exact ⟨A, n, c, e, hr.turn hT1 (by simpa using h.kg)⟩
      sm := h.sm
      fed := h.fed
      bits := h.bits.imp id fun ⟨q, e, hR⟩ => ⟨q, e, hR.turn hT1 (fun x hx hx' => by rw [List.mem_singleton] at hx'; subst hx'; exact hgrl hx)⟩
      ple := h.ple
      win := h.win.turn hT1 (fun x hx hx' => by rw [List.mem_singleton] at hx'; subst hx'; exact h.win.off h.inf hx)
      all := h.all
      kr := h.kr
      kw := h.kw
      kg := h.kg
      rw := h.rw
      kk := h.kk }
  have hbe := behind_any hs1
  have HBE := Lib.hid hbe
  clear hbe
  go_enter Tryd.func35, Tryd.ntmps35
  go_wp2_with (go_at_call 59; refine HBE.out.mono ?_; rintro e w2 ⟨rfl, hf⟩; have hi2 := hi1.fresh hf; have c0 : w2.cell? ⟨g, 0, none⟩ = some v.rest := hi2.cell rfl; have c1 : w2.cell? ⟨g, 1, none⟩ = some (iv v.fed) := hi2.cell rfl; have c2 : w2.cell? ⟨g, 2, none⟩ = some v.bits := hi2.cell rfl; have c5 : w2.cell? ⟨g, 5, none⟩ = some (.int .i64 0) := hi2.cell rfl; have c14 : w2.cell? ⟨g, 14, none⟩ = some (iv v.behind) := hi2.cell rfl; have y0 := hi2.free 0; have y1 := hi2.free 1; have y2 := hi2.free 2; have y5 := hi2.free 5; have y14 := hi2.free 14)
  go_end0
  exact ⟨rfl, ((((hi2.put 5 _).put 14 _).put 0 _).put 1 _).put 2 _, (((((hT1.trans (Turn.fresh hf)).trans (Turn.but (But.put _ _) (by simp))).trans (Turn.but (But.put _ _) (by simp))).trans (Turn.but (But.put _ _) (by simp))).trans (Turn.but (But.put _ _) (by simp))).trans (Turn.but (But.put _ _) (by simp))⟩
end
end Go.Proofs.YtlaecigjnknhoaaDoor.infp
