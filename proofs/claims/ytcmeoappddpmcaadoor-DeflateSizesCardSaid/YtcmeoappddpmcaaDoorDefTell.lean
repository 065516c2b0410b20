import Derived.Test.YtcmeoappddpmcaaDoorDefCount
import Derived.Test.YtcmeoappddpmcaaDoorMgLenB
/-
  writeLengths: what it leans on, what it writes. My own text.
-/
namespace Go.Proofs.YtcmeoappddpmcaaDoor.defp
open Go.RowKit Go.Maps Go.Proofs.YtcmeoappddpmcaaDoor.base Go.Proofs.YtcmeoappddpmcaaDoor.num Go.Proofs.YtcmeoappddpmcaaDoor.bitnum Go.Proofs.YtcmeoappddpmcaaDoor.bitp Go.Proofs.YtcmeoappddpmcaaDoor.huffnum Go.Proofs.YtcmeoappddpmcaaDoor.huffp Go.Proofs.YtcmeoappddpmcaaDoor.infp
set_option linter.unusedVariables false
/-- numbers of so many bits, one behind the other -/
def cat (l : List (Nat × Nat)) : Nat × Nat := l.foldl (fun a x => (a.1 + x.1, a.2 + 2 ^ a.1 * x.2)) (0, 0)
theorem cat_snoc (l : List (Nat × Nat)) (x : Nat × Nat) : cat (l ++ [x]) = ((cat l).1 + x.1, (cat l).2 + 2 ^ (cat l).1 * x.2) := by
  unfold cat
  rw [List.foldl_append]
  rfl
theorem cat_step (N m k y : Nat) (l : List (Nat × Nat)) : N + 2 ^ m * (cat l).2 + 2 ^ (m + (cat l).1) * y = N + 2 ^ m * (cat (l ++ [(k, y)])).2 ∧ m + (cat l).1 + k = m + (cat (l ++ [(k, y)])).1 := by
  rw [cat_snoc]
  simp only [Nat.mul_add, Nat.pow_add, Nat.mul_assoc, Nat.add_assoc]
  exact ⟨trivial, trivial⟩
/-- the order in which the lengths of the code of lengths are told -/
def OrdD (w : World) : Prop := ∀ j s, infnum.order[j]? = some s → w.cell? ⟨0, j, none⟩ = some (iv (s : Nat))
theorem OrdD.keep {w w' : World} (h : OrdD w) (hk : w'.heap[0]? = w.heap[0]?) : OrdD w' := fun j s hj => (World.cell?_of_block hk).trans (h j s hj)
theorem pcells_at : ∀ (l : List Pt) (i : Nat) (s : Pt), l[i]? = some s → ∀ (j : Nat) (v : Value), (pcell s)[j]? = some v → (pcells l)[i * 3 + j]? = some v
  | [], i, s, h, _, _, _ => by simp at h
  | a :: r, 0, s, h, j, v, hj => by
    simp only [List.getElem?_cons_zero, Option.some.injEq] at h
    subst h
    have hl : j < (pcell a).length := (List.getElem?_eq_some_iff.1 hj).1
    rw [Nat.zero_mul, Nat.zero_add]
    show (pcell a ++ pcells r)[j]? = _
    rw [List.getElem?_append_left hl]
    exact hj
  | a :: r, i + 1, s, h, j, v, hj => by
    rw [List.getElem?_cons_succ] at h
    have ih := pcells_at r i s h j v hj
    show (pcell a ++ pcells r)[(i + 1) * 3 + j]? = _
    rw [List.getElem?_append_right (by show 3 ≤ _; omega), show (i + 1) * 3 + j - (pcell a).length = i * 3 + j by show _ - 3 = _; omega]
    exact ih
theorem Own3.at_ {w : World} {base n c : Nat} {A : Option Addr} {l : List Pt} (h : Own3 w base A n c l) {i : Nat} {s : Pt} (hs : l[i]? = some s) :
    ∃ g, A = some ⟨g, 0, none⟩ ∧ base ≤ g ∧ g < w.heap.size ∧ w.rangeAt g (i * 3) (pcell s) := by
  have hl := h.len
  have hi : i < n := by rw [← hl]; exact (List.getElem?_eq_some_iff.1 hs).1
  rcases h.2 with ⟨_, hn⟩ | ⟨g, cap, cur, hv, hb, hg, h1, h2, h3, h4⟩
  · omega
  · injection hv with hA _ _
    refine ⟨g, hA, hb, (Array.getElem?_eq_some_iff.1 hg).1, fun j v hj => ?_⟩
    have hc := pcells_at l i s hs j v hj
    rw [← h4, List.getElem?_take] at hc
    split at hc
    · rw [cell_of_row w g (i * 3 + j) _ _ (0, 0) hg]
      rw [← hc]
      simp
    · cases hc
theorem partSize : (Tryd.prog.info? tPart).map (·.size) = some 3 := by kernel_rfl
theorem zero_19 (W : World) : (zeroValue 90).run Tryd.prog W = .ok (.agg (Array.replicate 19 (.int .i64 0))) W := by kernel_rfl
abbrev t19 : TypeId := 90
/-- a part's symbol -/
def fP (p : Pt) : Option Nat := some p.1
theorem tal_ints {α : Type} (f : α → Option Nat) (nn : Nat) (l : List α) : nv (tal f nn l) = ((tal f nn l).map fun x : Nat => (x : Int)).map iv := by
  unfold nv
  rw [List.map_map]
  rfl
theorem tal_most {α : Type} (f : α → Option Nat) (nn : Nat) (l : List α) (h : l.length ≤ 16777217) : ∀ x ∈ (tal f nn l).map (fun x : Nat => (x : Int)), x ≤ lennum.mostInt := fun x hx => by
  obtain ⟨y, hy, rfl⟩ := List.mem_map.1 hx
  unfold tal at hy
  obtain ⟨z, _, rfl⟩ := List.mem_map.1 hy
  have : l.countP (fun s => decide (f s = some z)) ≤ l.length := List.countP_le_length
  unfold lennum.mostInt
  omega
theorem tal_pos {α : Type} (f : α → Option Nat) (nn : Nat) (l : List α) {s : α} {y : Nat} (hs : s ∈ l) (hf : f s = some y) (hy : y < nn) : 0 < ((tal f nn l).map (fun x : Nat => (x : Int))).getD y 0 := by
  rw [List.getD_eq_getElem?_getD, List.getElem?_map, tal_get f l hy]
  have : 0 < l.countP fun s => decide (f s = some y) := List.countP_pos_iff.2 ⟨s, hs, by simp [hf]⟩
  show (0 : Int) < ((l.countP fun s => decide (f s = some y) : Nat) : Int)
  omega
theorem tal_none0 {α : Type} (f : α → Option Nat) (nn : Nat) (l : List α) {y : Nat} (hy : y < nn) (h : ∀ s ∈ l, f s ≠ some y) : ¬ 0 < ((tal f nn l).map (fun x : Nat => (x : Int))).getD y 0 := by
  rw [List.getD_eq_getElem?_getD, List.getElem?_map, tal_get f l hy]
  have : l.countP (fun s => decide (f s = some y)) = 0 := List.countP_eq_zero.2 fun s hs => by simpa using h s hs
  rw [this]
  decide
/-- what Lengths makes of such a row of counts, besides -/
def Full {α : Type} (f : α → Option Nat) (nn : Nat) (l : List α) (T : List Nat) : Prop :=
  (∀ y, y < nn → (∀ s ∈ l, f s ≠ some y) → T.getD y 0 = 0) ∧ ∀ s ∈ l, ∀ t ∈ l, ∀ y z, f s = some y → f t = some z → y < nn → z < nn → y ≠ z → tx T 15 = 32768
theorem lengths_of {α : Type} (f : α → Option Nat) (nn : Nat) (l : List α) (G off cc : Nat) (w : World) (hr : Rd w w.heap.size (some ⟨G, off, none⟩) nn (nv (tal f nn l))) (h1 : nn ≤ 320) (h2 : nn ≤ cc) (h3 : cc ≤ maxLen) (most : Nat) (hm1 : 1 ≤ most) (hm2 : most ≤ 15) (hfew : nn ≤ 2 ^ most) (hl : l.length ≤ 16777217) :
    Calls Tryd.prog 23 #[.slice (some ⟨G, off, none⟩) nn cc, .int .i64 most] w fun e w' => ∃ (L : Nat) (T : List Nat), e = .returned (.slice (some ⟨L, 0, none⟩) nn nn) ∧ w.heap.size ≤ L ∧ Bk w' L 3 (nv T) ∧ Fresh w w' ∧ T.length = nn ∧ Fit T ∧ (∀ x ∈ T, x ≤ most) ∧ (∀ s ∈ l, ∀ y, f s = some y → y < nn → 1 ≤ T.getD y 0) ∧ Full f nn l T := by
  rw [tal_ints] at hr
  refine (lenp.lengths_any _ nn cc _ w.heap.size w hr h1 h2 h3 (Nat.le_refl _) most hm1 hm2 (Nat.le_trans (lenp.picks_len _ _) hfew) (tal_most f nn l hl)).mono ?_
  rintro e w' ⟨L, T, rfl, hL, hb, hf, ht, hfit, hm, hp, hz, hfull⟩
  exact ⟨L, T, rfl, hL, hb, hf, ht, hfit, hm, fun s hs y hy hlt => hp y hlt (tal_pos f nn l hs hy hlt), fun y hy h => hz y hy (tal_none0 f nn l hy h), fun s hs t ht y z h1 h2 h3 h4 hne => hfull y z h3 h4 (tal_pos f nn l hs h1 h3) (tal_pos f nn l ht h2 h4) hne⟩
end Go.Proofs.YtcmeoappddpmcaaDoor.defp
