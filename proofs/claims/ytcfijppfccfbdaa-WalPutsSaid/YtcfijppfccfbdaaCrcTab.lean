/-
  The contract of crc.fours. My own text.
-/
import Derived.Test.YtcfijppfccfbdaaCrcLeaf
import Derived.Test.YtcfijppfccfbdaaBlk
import Derived.BigRegion
import Derived.StillTailTactics
namespace Go.Proofs.Ytcfijppfccfbdaa.crc
open Go.RowKit Go.Proofs.Ytcfijppfccfbdaa.base Go.Proofs.Ytcfijppfccfbdaa.crcnum
set_option linter.unusedVariables false

/-- the table when k of its places are laid -/
def tab (k : Nat) : List Value := (List.range 16).map fun j => .int .u32 (if j < k then many 4 j else 0 : Nat)

theorem tab_len (k : Nat) : (tab k).length = 16 := by simp [tab]
theorem tab_get (k j : Nat) (h : j < 16) : (tab k)[j]? = some (.int .u32 (if j < k then many 4 j else 0 : Nat)) := by
  simp [tab, h]
theorem tab_set (k : Nat) (h : k < 16) : (tab k).set k (.int .u32 (many 4 k : Nat)) = tab (k + 1) := by
  apply List.ext_getElem?
  intro j
  by_cases hj : j < 16
  · rw [List.getElem?_set, tab_get _ _ hj, tab_get _ _ hj, tab_len]
    by_cases e : k = j
    · subst e
      simp [h]
    · have : (j < k + 1) = (j < k) := by rw [eq_iff_iff]; omega
      simp [e, this]
  · rw [List.getElem?_eq_none (by simp [tab_len]; omega), List.getElem?_eq_none (by simp [tab_len]; omega)]

set_option maxRecDepth 100000 in
theorem fours_any (w : World) : Calls Try.prog 40 #[] w fun e w' => e = .returned (.agg (tab 16).toArray) ∧ Fresh w w' := by
  go_enter Try.func40, Try.ntmps40
  go_wp2
  go_loopw [3] (fun i wr => ∃ k : Nat, k ≤ 16 ∧ i = .int .i64 k ∧ Bk wr w.heap.size 69 (tab 0) ∧ Bk wr (w.heap.size + 1) 69 (tab k) ∧ Fresh w wr) (fun i _ => 16 - (intOf i).toNat)
  case atStart => exact ⟨0, by omega, rfl, (Bk.made w _ _).alloc _, by have := Bk.made (w.alloc (.cells #[.int .u32 0, .int .u32 0, .int .u32 0, .int .u32 0, .int .u32 0, .int .u32 0, .int .u32 0, .int .u32 0, .int .u32 0, .int .u32 0, .int .u32 0, .int .u32 0, .int .u32 0, .int .u32 0, .int .u32 0, .int .u32 0] 69)) 69 #[.int .u32 0, .int .u32 0, .int .u32 0, .int .u32 0, .int .u32 0, .int .u32 0, .int .u32 0, .int .u32 0, .int .u32 0, .int .u32 0, .int .u32 0, .int .u32 0, .int .u32 0, .int .u32 0, .int .u32 0, .int .u32 0]; rwa [World.size_alloc] at this, (Fresh.alloc _ _).trans (Fresh.alloc _ _)⟩
  case round =>
    obtain ⟨k, hk, rfl, hb0, hb1, hfr⟩ := hrel
    by_cases hlt : k < 16
    · have hc := hb1.cell (tab_get k k hlt)
      have hz := hb1.free k
      have e1 : (k : Int) % 4294967296 = k := by omega
      go_wp2_with (go_at_call 42; refine (gone_any _ _ (by omega)).mono ?_; rintro e w' ⟨rfl, rfl⟩)
      go_roundw
      case rel =>
        refine ⟨k + 1, by omega, by go_num, hb0.apart (by simp) _, ?_, hfr.but (by omega) (But.put _ _)⟩
        rw [← tab_set k hlt]
        exact hb1.put k _
      case measure => simp [intOf]; omega
    · have h16 : k = 16 := by omega
      subst h16
      have r0 : (wr.setRow w.heap.size (tab 16).toArray).heap[w.heap.size]? = some (.cells (tab 16).toArray 69 (0, 0)) := hb0.row _
      have HB := Lib.hid hb1
      have HB0 := Lib.hid hb0
      have R0 := Lib.hid r0
      clear hb1 hb0 r0
      go_wp2_with (first
        | (refine wpList_load_row (o := ⟨some 12, _, _, _, _, _⟩) rfl 69 (.tmp 1) rfl (w.heap.size + 1) rfl 69 (tab 16).toArray (0, 0) _ HB.out Try.underlying69 rfl (by kernel_rfl) ?_)
        | (refine wpList_store_row (o := ⟨none, _, _, _, _, _⟩) rfl 69 (.tmp 0) (.tmp 12) rfl w.heap.size (tab 16).toArray rfl rfl 69 _ HB0.out (by kernel_rfl) (by simp [tab_len]) (by kernel_rfl) ?_))
      exact bodyPost_ret (results_cell_row (p := 0) (by kernel_rfl) _ _ w.heap.size 69 (tab 16).toArray (0, 0) _ rfl R0.out Try.underlying69 rfl (by kernel_rfl)) rfl ⟨rfl, hfr.but (Nat.le_refl _) (But.row _ _ _)⟩

end Go.Proofs.Ytcfijppfccfbdaa.crc
