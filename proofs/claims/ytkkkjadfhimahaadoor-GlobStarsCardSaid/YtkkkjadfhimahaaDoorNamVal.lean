/-
  The contract of the library's utf8.ValidString at this dump, under the two tables that it reads; right, Decode. My own text.
-/
import Derived.Test.YtkkkjadfhimahaaDoorNamLeaf
import Derived.Test.YtkkkjadfhimahaaDoorShelfV
namespace Go.Proofs.YtkkkjadfhimahaaDoor.namp
open Go.RowKit Go.Proofs.YtkkkjadfhimahaaDoor.base Go.Proofs.YtkkkjadfhimahaaDoor.nam
set_option linter.unusedVariables false

/-- the tables of utf8 -/
def Tabs (w : World) : Prop := Lib.Utf8Tabs (Tryd.lays196_ren.g 3) (Tryd.lays196_ren.g 4) w
theorem in_of_cell {w : World} {a : Addr} {v : Value} (h : w.cell? a = some v) : a.block < w.heap.size := by
  by_cases hlt : a.block < w.heap.size
  · exact hlt
  · simp [World.cell?, Array.getElem?_eq_none (Nat.not_lt.1 hlt)] at h
theorem Tabs.fresh {w w' : World} (h : Tabs w) (hf : Fresh w w') : Tabs w' := by
  refine ⟨fun c hc => ?_, fun i hi => ?_⟩
  · have := h.1 c hc
    exact (World.cell?_of_block (hf.block _ (in_of_cell this))).trans this
  · have := h.2 i hi
    exact ⟨(World.cell?_of_block (hf.block _ (in_of_cell this.1))).trans this.1, (World.cell?_of_block (hf.block _ (in_of_cell this.2))).trans this.2⟩
end Go.Proofs.YtkkkjadfhimahaaDoor.namp
