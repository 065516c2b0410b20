/-
  A cell of a file's rows in the reference: read, written. My own text.
-/
import Derived.Test.YtelghdfikcodmaaRefWaits
namespace Go.Proofs.Ytelghdfikcodmaa.vref
open Go.RowKit Go.Maps Go.Proofs.Ytelghdfikcodmaa.base Go.Proofs.Ytelghdfikcodmaa.vfsnum Go.Proofs.Ytelghdfikcodmaa.vfs
set_option linter.unusedVariables false

/-- a cell of an own row -/
theorem Own.spot {w : World} {base : Nat} {e : TypeId} {A : Option Addr} {n c : Nat} {xs : List Value} (h : Own w base e A n c xs) {i : Nat} (hi : i < n) :
    ∃ q, A = some ⟨q, 0, none⟩ ∧ rb A = [q] ∧ (∃ v, w.cell? ⟨q, i, none⟩ = some v ∧ xs[i]? = some v) ∧ w.frozen? ⟨q, i, none⟩ = false ∧ ∀ u, Own (w.setCell ⟨q, i, none⟩ u) base e A n c (xs.set i u) := by
  obtain ⟨q, cap, hv, _, _⟩ := World.ownsRow.form h (by omega)
  injection hv with hA _ hc
  subst hA
  subst hc
  have hl : i < xs.length := by have := h.1; simpa using by omega
  refine ⟨q, rfl, rfl, ⟨xs[i], ?_, List.getElem?_eq_getElem hl⟩, World.ownsRow.frozenAt h i, fun u => vfs.Own.store h i hi u⟩
  rw [World.ownsRow.cellAt h i (by omega)]
  exact List.getElem?_eq_getElem hl
theorem RFile.b_at {w : World} {g : Nat} {n : ByteArray} {r : RRaw} {bl : List Nat} (h : RFile w g n r bl) {i : Nat} (hi : i < r.b.length) :
    ∃ q c, w.cell? ⟨g, 1, none⟩ = some (.slice (some ⟨q, 0, none⟩) r.b.length c) ∧ q ∈ bl ∧ w.cell? ⟨q, i, none⟩ = some (bv (r.b.getD i 0)) ∧ w.frozen? ⟨q, i, none⟩ = false ∧ ∀ u, RFile (w.setCell ⟨q, i, none⟩ (bv u)) g n { r with b := r.b.set i u } bl := by
  obtain ⟨A1, c1, A2, c2, A3, c3, rfl, hnd, hb, h1, h2, h3⟩ := h
  obtain ⟨q, hA, hrb, ⟨v, hv, hx⟩, hz, hst⟩ := Own.spot h1 hi
  have hc := hb.cell (i := 1) rfl
  rw [hA] at hc
  have hqn : q ≠ g ∧ q ∉ rb A2 ∧ q ∉ rb A3 := by
    rw [hrb] at hnd
    simp only [List.cons_append, List.nil_append, List.nodup_cons, List.mem_cons, List.mem_append] at hnd
    exact ⟨fun e => hnd.1 (.inl e.symm), fun e => hnd.2.1 (.inl e), fun e => hnd.2.1 (.inr e)⟩
  have hval : v = bv (r.b.getD i 0) := by
    rw [List.getElem?_map, List.getElem?_eq_getElem hi] at hx
    injection hx with hx
    rw [← hx, List.getD_eq_getElem?_getD, List.getElem?_eq_getElem hi]
    rfl
  refine ⟨q, c1, hc, by simp [hrb], hval ▸ hv, hz, fun u => ⟨A1, c1, A2, c2, A3, c3, rfl, hnd, ?_, ?_, Own.old h2 fun b hb2 => Below.heap_setCell w ⟨q, i, none⟩ _ b (fun e => hqn.2.1 ((show b = q from e) ▸ hb2)), Own.old h3 fun b hb2 => Below.heap_setCell w ⟨q, i, none⟩ _ b (fun e => hqn.2.2 ((show b = q from e) ▸ hb2))⟩⟩
  · have := hb.apart (p := ⟨q, i, none⟩) (fun e => hqn.1 e.symm) (bv u)
    simpa using this
  · have := hst (bv u)
    rw [← List.map_set] at this
    simpa using this
theorem RFile.old_at {w : World} {g : Nat} {n : ByteArray} {r : RRaw} {bl : List Nat} (h : RFile w g n r bl) {i : Nat} (hi : i < r.old.length) :
    ∃ q c, w.cell? ⟨g, 2, none⟩ = some (.slice (some ⟨q, 0, none⟩) r.old.length c) ∧ q ∈ bl ∧ w.cell? ⟨q, i, none⟩ = some (bv (r.old.getD i 0)) ∧ w.frozen? ⟨q, i, none⟩ = false ∧ ∀ u, RFile (w.setCell ⟨q, i, none⟩ (bv u)) g n { r with old := r.old.set i u } bl := by
  obtain ⟨A1, c1, A2, c2, A3, c3, rfl, hnd, hb, h1, h2, h3⟩ := h
  obtain ⟨q, hA, hrb, ⟨v, hv, hx⟩, hz, hst⟩ := Own.spot h2 hi
  have hc := hb.cell (i := 2) rfl
  rw [hA] at hc
  have hqn : q ≠ g ∧ q ∉ rb A1 ∧ q ∉ rb A3 := by
    rw [hrb] at hnd
    simp only [List.cons_append, List.nil_append, List.nodup_cons, List.nodup_append, List.mem_cons, List.mem_append] at hnd
    obtain ⟨d1, d2, d3, d4⟩ := hnd
    exact ⟨fun e => d1 (.inr (.inl e.symm)), fun e => d4 q e q (.inl rfl) rfl, fun e => d3.1 e⟩
  have hval : v = bv (r.old.getD i 0) := by
    rw [List.getElem?_map, List.getElem?_eq_getElem hi] at hx
    injection hx with hx
    rw [← hx, List.getD_eq_getElem?_getD, List.getElem?_eq_getElem hi]
    rfl
  refine ⟨q, c2, hc, by simp [hrb], hval ▸ hv, hz, fun u => ⟨A1, c1, A2, c2, A3, c3, rfl, hnd, ?_, Own.old h1 fun b hb2 => Below.heap_setCell w ⟨q, i, none⟩ _ b (fun e => hqn.2.1 ((show b = q from e) ▸ hb2)), ?_, Own.old h3 fun b hb2 => Below.heap_setCell w ⟨q, i, none⟩ _ b (fun e => hqn.2.2 ((show b = q from e) ▸ hb2))⟩⟩
  · have := hb.apart (p := ⟨q, i, none⟩) (fun e => hqn.1 e.symm) (bv u)
    simpa using this
  · have := hst (bv u)
    rw [← List.map_set] at this
    simpa using this
theorem RFile.wt_at {w : World} {g : Nat} {n : ByteArray} {r : RRaw} {bl : List Nat} (h : RFile w g n r bl) {i : Nat} (hi : i < r.wt.length) :
    ∃ q c, w.cell? ⟨g, 3, none⟩ = some (.slice (some ⟨q, 0, none⟩) r.wt.length c) ∧ q ∈ bl ∧ w.cell? ⟨q, i, none⟩ = some (.bool (r.wt.getD i false)) ∧ w.frozen? ⟨q, i, none⟩ = false ∧ ∀ u, RFile (w.setCell ⟨q, i, none⟩ (.bool u)) g n { r with wt := r.wt.set i u } bl := by
  obtain ⟨A1, c1, A2, c2, A3, c3, rfl, hnd, hb, h1, h2, h3⟩ := h
  obtain ⟨q, hA, hrb, ⟨v, hv, hx⟩, hz, hst⟩ := Own.spot h3 hi
  have hc := hb.cell (i := 3) rfl
  rw [hA] at hc
  have hqn : q ≠ g ∧ q ∉ rb A1 ∧ q ∉ rb A2 := by
    rw [hrb] at hnd
    simp only [List.nodup_cons, List.nodup_append, List.mem_cons, List.mem_append] at hnd
    obtain ⟨d1, d2, ⟨d3, d5, d6⟩, d4⟩ := hnd
    exact ⟨fun e => d1 (.inr (.inr (.inl e.symm))), fun e => d4 q e q (.inr (.inl rfl)) rfl, fun e => d6 q e q (.inl rfl) rfl⟩
  have hval : v = .bool (r.wt.getD i false) := by
    rw [List.getElem?_map, List.getElem?_eq_getElem hi] at hx
    injection hx with hx
    rw [← hx, List.getD_eq_getElem?_getD, List.getElem?_eq_getElem hi]
    rfl
  refine ⟨q, c3, hc, by simp [hrb], hval ▸ hv, hz, fun u => ⟨A1, c1, A2, c2, A3, c3, rfl, hnd, ?_, Own.old h1 fun b hb2 => Below.heap_setCell w ⟨q, i, none⟩ _ b (fun e => hqn.2.1 ((show b = q from e) ▸ hb2)), Own.old h2 fun b hb2 => Below.heap_setCell w ⟨q, i, none⟩ _ b (fun e => hqn.2.2 ((show b = q from e) ▸ hb2)), ?_⟩⟩
  · have := hb.apart (p := ⟨q, i, none⟩) (fun e => hqn.1 e.symm) (.bool u)
    simpa using this
  · have := hst (.bool u)
    rw [← List.map_set] at this
    simpa using this
end Go.Proofs.Ytelghdfikcodmaa.vref
