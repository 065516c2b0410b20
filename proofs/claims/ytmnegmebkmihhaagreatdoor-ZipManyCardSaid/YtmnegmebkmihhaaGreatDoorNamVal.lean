/-
  The contract of the library's utf8.ValidString at this dump, under the two tables that it reads; right, Decode. My own text.
-/
import Derived.Test.YtmnegmebkmihhaaGreatDoorNamLeaf
import Derived.Test.YtmnegmebkmihhaaGreatDoorShelfV
namespace Go.Proofs.YtmnegmebkmihhaaGreatDoor.namp
open Go.RowKit Go.Proofs.YtmnegmebkmihhaaGreatDoor.base Go.Proofs.YtmnegmebkmihhaaGreatDoor.nam
set_option linter.unusedVariables false

/-- the tables of utf8 -/
def Tabs (w : World) : Prop := Lib.Utf8Tabs (Tryz.lays196_ren.g 3) (Tryz.lays196_ren.g 4) w
theorem in_of_cell {w : World} {a : Addr} {v : Value} (h : w.cell? a = some v) : a.block < w.heap.size := by
  by_cases hlt : a.block < w.heap.size
  · exact hlt
  · simp [World.cell?, Array.getElem?_eq_none (Nat.not_lt.1 hlt)] at h
theorem Tabs.fresh {w w' : World} (h : Tabs w) (hf : Fresh w w') : Tabs w' := by
  refine ⟨fun c hc => ?_, fun i hi => ?_⟩
  · have := h.1 c hc
    exact (World.cell?_of_block (hf.block _ (in_of_cell this))).trans this
  · have := h.2 i hi
    exact ⟨(World.cell?_of_block (hf.block _ (in_of_cell this.1))).trans this.1, (World.cell?_of_block (hf.block _ (in_of_cell this.2))).trans this.2⟩
/-- what the statements list -/
structure Laid (w : World) : Prop where
  up : Upper w
  tabs : Tabs w
theorem Laid.fresh {w w' : World} (h : Laid w) (hf : Fresh w w') : Laid w' := ⟨h.up.fresh hf, h.tabs.fresh hf⟩

theorem right_any (s : ByteArray) (w : World) (hs : s.size ≤ maxLen) (hT : Laid w) : Calls Tryz.prog 57 #[.string s] w fun e w' => e = .returned (.bool (Lib.validD s.data.toList)) ∧ Fresh w w' := by
  have hc := Tryz.utf8_ValidString s w (by unfold maxLen at hs; omega) hT.tabs
  obtain ⟨V, hV⟩ : ∃ V, Lib.validD s.data.toList = V := ⟨_, rfl⟩
  rw [hV] at hc ⊢
  have HC := Lib.hid hc
  clear hc hV
  go_enter Tryz.func57, Tryz.ntmps57
  go_wp2_with (go_at_call 113; (refine HC.out.mono ?_); rintro e w1 ⟨rfl, hf1⟩)
  go_ret
  exact ⟨rfl, hf1⟩
end Go.Proofs.YtmnegmebkmihhaaGreatDoor.namp
