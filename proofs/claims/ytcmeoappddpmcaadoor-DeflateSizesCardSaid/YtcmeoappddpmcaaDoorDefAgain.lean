import Derived.Test.YtcmeoappddpmcaaDoorDefAlike
/-
  again. My own text.
-/
namespace Go.Proofs.YtcmeoappddpmcaaDoor.defp
open Go.RowKit Go.Maps Go.Proofs.YtcmeoappddpmcaaDoor.base Go.Proofs.YtcmeoappddpmcaaDoor.num Go.Proofs.YtcmeoappddpmcaaDoor.bitnum Go.Proofs.YtcmeoappddpmcaaDoor.bitp Go.Proofs.YtcmeoappddpmcaaDoor.huffnum Go.Proofs.YtcmeoappddpmcaaDoor.huffp
set_option linter.unusedVariables false
abbrev tPart : TypeId := 92
/-- a part: its symbol, its own bits, their number -/
abbrev Pt := Nat × Nat × Nat
def pcell (p : Pt) : List Value := [.int .i64 (p.1 : Nat), .int .i64 (p.2.1 : Nat), .int .i64 (p.2.2 : Nat)]
def againP (v s : Nat) : Pt × Nat := if s < 3 then ((v, 0, 0), 1) else if 0 < v then ((16, 2, min s 6 - 3), min s 6) else if s < 11 then ((17, 3, s - 3), s) else ((18, 7, min s 138 - 11), min s 138)
theorem again_results {P : Program} {fn : Func} {p u : Tmp} {ty : TypeId} (h : fn.results = #[.cell p ty, .tmp u]) (tmps : Array Value) (w : World) (g : Nat) (t : TypeId) (cs : List Value) (d : TypeDesc)
    (hp : tmps.getD p undef = .pointer (some ⟨g, 0, none⟩)) (hg : Bk w g t cs)
    (hu : P.underlying ty = some d) (hd : (match d with | .struct _ | .array _ _ => true | _ => false) = true) (hi : (P.info? ty).map (·.size) = some cs.length) :
    (results fn tmps).run P w = .ok (.tuple #[.agg cs.toArray, tmps.getD u undef]) w := by
  rw [results_cell_tmp h, hp]
  simp [asAddr, run_loadVar_row w g t ty cs.toArray (0, 0) d hg hu hd (by simpa using hi)]
set_option maxRecDepth 100000 in
set_option maxHeartbeats 4000000 in
theorem again_any (v s : Nat) (hv : v ≤ 15) (hs : 1 ≤ s ∧ s ≤ 1000) (w : World) :
    Calls Tryd.prog 56 #[.int .i64 v, .int .i64 s] w fun e w' => e = .returned (.tuple #[.agg (pcell (againP v s).1).toArray, .int .i64 ((againP v s).2 : Nat)]) ∧ Fresh w w' := by
  have hz := Bk.made w tPart #[.int .i64 0, .int .i64 0, .int .i64 0]
  have HZ := Lib.hid hz
  have HF := Lib.hid (Fresh.alloc w (.cells #[.int .i64 0, .int .i64 0, .int .i64 0] tPart))
  clear hz
  have hs1 := hs.2
  by_cases c1 : s < 3
  · have e : againP v s = ((v, 0, 0), 1) := by unfold againP; rw [if_pos c1]
    rw [e]
    have i1 : (s : Int) < 3 := by omega
    clear e
    go_enter Tryd.func56, Tryd.ntmps56
    go_wp2_with (refine wpList_store_row (o := ⟨none, _, _, _, _, _⟩) rfl tPart (.tmp 4) (.tmp 12) rfl w.heap.size (pcell (v, 0, 0)).toArray rfl rfl tPart _ HZ.out (by kernel_rfl) (by simp [pcell]) (by kernel_rfl) ?_)
    exact bodyPost_ret (again_results (p := 4) (u := 5) (by kernel_rfl) _ _ w.heap.size tPart (pcell (v, 0, 0)) _ rfl (HZ.out.row _) Tryd.underlying92 rfl (by kernel_rfl)) rfl ⟨rfl, HF.out.but (Nat.le_refl _) (But.row _ _ _)⟩
  by_cases c2 : 0 < v
  · have j1 : (0 : Int) < (v : Int) := by omega
    by_cases c3 : s ≤ 6
    · obtain ⟨q, rfl⟩ : ∃ q, s = q + 3 := ⟨s - 3, by omega⟩
      have i1 : min ((q : Int) + 3) 6 = (q : Int) + 3 := by omega
      have i2 : min (((q + 3 : Nat) : Int)) 6 = (q : Int) + 3 := by omega
      have e : againP v (q + 3) = ((16, 2, q), q + 3) := by unfold againP; rw [if_neg c1, if_pos c2, Nat.min_eq_left c3, Nat.add_sub_cancel]
      rw [e]
      have i0 : ¬ ((q + 3 : Nat) : Int) < 3 := by omega
      clear e
      go_enter Tryd.func56, Tryd.ntmps56
      go_wp2_with (refine wpList_store_row (o := ⟨none, _, _, _, _, _⟩) rfl tPart (.tmp 4) (.tmp 20) rfl w.heap.size (pcell (16, 2, q)).toArray rfl rfl tPart _ HZ.out (by kernel_rfl) (by simp [pcell]) (by kernel_rfl) ?_)
      exact bodyPost_ret (again_results (p := 4) (u := 5) (by kernel_rfl) _ _ w.heap.size tPart (pcell (16, 2, q)) _ rfl (HZ.out.row _) Tryd.underlying92 rfl (by kernel_rfl)) rfl ⟨rfl, HF.out.but (Nat.le_refl _) (But.row _ _ _)⟩
    · have i1 : min (s : Int) 6 = 6 := by omega
      have e : againP v s = ((16, 2, 3), 6) := by unfold againP; rw [if_neg c1, if_pos c2, Nat.min_eq_right (by omega)]
      rw [e]
      have i0 : ¬ (s : Int) < 3 := by omega
      clear e
      go_enter Tryd.func56, Tryd.ntmps56
      go_wp2_with (refine wpList_store_row (o := ⟨none, _, _, _, _, _⟩) rfl tPart (.tmp 4) (.tmp 20) rfl w.heap.size (pcell (16, 2, 3)).toArray rfl rfl tPart _ HZ.out (by kernel_rfl) (by simp [pcell]) (by kernel_rfl) ?_)
      exact bodyPost_ret (again_results (p := 4) (u := 5) (by kernel_rfl) _ _ w.heap.size tPart (pcell (16, 2, 3)) _ rfl (HZ.out.row _) Tryd.underlying92 rfl (by kernel_rfl)) rfl ⟨rfl, HF.out.but (Nat.le_refl _) (But.row _ _ _)⟩
  · have j1 : v = 0 := by omega
    subst j1
    by_cases c3 : s < 11
    · obtain ⟨q, rfl⟩ : ∃ q, s = q + 3 := ⟨s - 3, by omega⟩
      have i1 : ((q + 3 : Nat) : Int) < 11 := by omega
      have e : againP 0 (q + 3) = ((17, 3, q), q + 3) := by unfold againP; rw [if_neg c1, if_neg c2, if_pos c3, Nat.add_sub_cancel]
      rw [e]
      have i0 : ¬ ((q + 3 : Nat) : Int) < 3 := by omega
      clear e
      go_enter Tryd.func56, Tryd.ntmps56
      go_wp2_with (refine wpList_store_row (o := ⟨none, _, _, _, _, _⟩) rfl tPart (.tmp 4) (.tmp 27) rfl w.heap.size (pcell (17, 3, q)).toArray rfl rfl tPart _ HZ.out (by kernel_rfl) (by simp [pcell]) (by kernel_rfl) ?_)
      exact bodyPost_ret (again_results (p := 4) (u := 5) (by kernel_rfl) _ _ w.heap.size tPart (pcell (17, 3, q)) _ rfl (HZ.out.row _) Tryd.underlying92 rfl (by kernel_rfl)) rfl ⟨rfl, HF.out.but (Nat.le_refl _) (But.row _ _ _)⟩
    by_cases c4 : s ≤ 138
    · obtain ⟨q, rfl⟩ : ∃ q, s = q + 11 := ⟨s - 11, by omega⟩
      have i1 : min ((q : Int) + 11) 138 = (q : Int) + 11 := by omega
      have i3 : min (((q + 11 : Nat) : Int)) 138 = (q : Int) + 11 := by omega
      have e : againP 0 (q + 11) = ((18, 7, q), q + 11) := by unfold againP; rw [if_neg c1, if_neg c2, if_neg c3, Nat.min_eq_left c4, Nat.add_sub_cancel]
      rw [e]
      have i0 : ¬ ((q + 11 : Nat) : Int) < 3 := by omega
      have i2 : ¬ ((q + 11 : Nat) : Int) < 11 := by omega
      clear e
      go_enter Tryd.func56, Tryd.ntmps56
      go_wp2_with (refine wpList_store_row (o := ⟨none, _, _, _, _, _⟩) rfl tPart (.tmp 4) (.tmp 33) rfl w.heap.size (pcell (18, 7, q)).toArray rfl rfl tPart _ HZ.out (by kernel_rfl) (by simp [pcell]) (by kernel_rfl) ?_)
      exact bodyPost_ret (again_results (p := 4) (u := 5) (by kernel_rfl) _ _ w.heap.size tPart (pcell (18, 7, q)) _ rfl (HZ.out.row _) Tryd.underlying92 rfl (by kernel_rfl)) rfl ⟨rfl, HF.out.but (Nat.le_refl _) (But.row _ _ _)⟩
    · have i1 : min (s : Int) 138 = 138 := by omega
      have e : againP 0 s = ((18, 7, 127), 138) := by unfold againP; rw [if_neg c1, if_neg c2, if_neg c3, Nat.min_eq_right (by omega)]
      rw [e]
      have i0 : ¬ (s : Int) < 3 := by omega
      have i2 : ¬ (s : Int) < 11 := by omega
      clear e
      go_enter Tryd.func56, Tryd.ntmps56
      go_wp2_with (refine wpList_store_row (o := ⟨none, _, _, _, _, _⟩) rfl tPart (.tmp 4) (.tmp 33) rfl w.heap.size (pcell (18, 7, 127)).toArray rfl rfl tPart _ HZ.out (by kernel_rfl) (by simp [pcell]) (by kernel_rfl) ?_)
      exact bodyPost_ret (again_results (p := 4) (u := 5) (by kernel_rfl) _ _ w.heap.size tPart (pcell (18, 7, 127)) _ rfl (HZ.out.row _) Tryd.underlying92 rfl (by kernel_rfl)) rfl ⟨rfl, HF.out.but (Nat.le_refl _) (But.row _ _ _)⟩
end Go.Proofs.YtcmeoappddpmcaaDoor.defp
