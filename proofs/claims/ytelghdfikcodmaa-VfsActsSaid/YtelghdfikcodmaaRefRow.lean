/-
  The reference's byteAt; a file's name is written. My own text.
-/
import Derived.Test.YtelghdfikcodmaaRefOps
namespace Go.Proofs.Ytelghdfikcodmaa.vref
open Go.RowKit Go.Maps Go.Proofs.Ytelghdfikcodmaa.base Go.Proofs.Ytelghdfikcodmaa.vfsnum Go.Proofs.Ytelghdfikcodmaa.vfs
set_option linter.unusedVariables false

theorem byteAt_r (w : World) (g : Nat) (n : ByteArray) (r : RRaw) (bl : List Nat) (i : Nat) (h : RFile w g n r bl) (hl : r.b.length ≤ 1099511627776) (hi : i ≤ 1099511627776) :
    Calls Try.prog 96 #[.pointer (some ⟨g, 0, none⟩), .int .i64 i] w fun e w' => e = .returned (bv (r.b.getD i 0)) ∧ w' = w := by
  obtain ⟨A1, c1, A2, c2, A3, c3, rfl, hnd, hb, h1, h2, h3⟩ := h
  have hc1 : w.cell? ⟨g, 1, none⟩ = some (.slice A1 r.b.length c1) := hb.cell rfl
  obtain ⟨L, hL⟩ : ∃ L, r.b.length = L := ⟨_, rfl⟩
  rw [hL] at hc1 hl
  by_cases hlt : i < L
  · obtain ⟨b, off, x, rfl, _, hx, hcx⟩ := (Own.rd h1).at_ (k := i) (by rw [hL]; exact hlt)
    have hg : r.b.getD i 0 = x := by rw [List.getD_eq_getElem?_getD, hx]; rfl
    rw [hg]
    clear hg hx h1 h2 h3 hb hL
    go_enter Try.func96, Try.ntmps96
    go_wp2
    go_ret
    exact ⟨rfl, rfl⟩
  · have hg : r.b.getD i 0 = 0 := gd_ge _ _ (by rw [hL]; omega)
    rw [hg]
    clear hg h1 h2 h3 hb hL
    go_enter Try.func96, Try.ntmps96
    go_wp2
    go_ret
    exact ⟨rfl, rfl⟩
theorem RFile.named {w : World} {g : Nat} {n : ByteArray} {r : RRaw} {bl : List Nat} (h : RFile w g n r bl) (m : ByteArray) : RFile (w.setCell ⟨g, 0, none⟩ (.string m)) g m r bl := by
  obtain ⟨A1, c1, A2, c2, A3, c3, rfl, hnd, hb, h1, h2, h3⟩ := h
  have hne : ∀ b ∈ rb A1 ++ (rb A2 ++ rb A3), b ≠ g := fun b hbm e => by subst e; exact (List.nodup_cons.1 hnd).1 hbm
  exact ⟨A1, c1, A2, c2, A3, c3, rfl, hnd, hb.put 0 (.string m), Own.old h1 fun b hb => Below.heap_setCell w ⟨g, 0, none⟩ _ b (hne b (by simp [hb])), Own.old h2 fun b hb => Below.heap_setCell w ⟨g, 0, none⟩ _ b (hne b (by simp [hb])), Own.old h3 fun b hb => Below.heap_setCell w ⟨g, 0, none⟩ _ b (hne b (by simp [hb]))⟩
theorem RFile.title {w : World} {g : Nat} {n : ByteArray} {r : RRaw} {bl : List Nat} (h : RFile w g n r bl) : w.cell? ⟨g, 0, none⟩ = some (.string n) ∧ w.frozen? ⟨g, 0, none⟩ = false := by
  obtain ⟨A1, c1, A2, c2, A3, c3, rfl, hnd, hb, h1, h2, h3⟩ := h
  exact ⟨hb.cell rfl, hb.free 0⟩
end Go.Proofs.Ytelghdfikcodmaa.vref
