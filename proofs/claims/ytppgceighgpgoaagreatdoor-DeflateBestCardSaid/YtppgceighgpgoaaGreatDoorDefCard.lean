/-
  The card of DeflatePacks: the two tables that the row lists, as the walk takes them; a world that holds them. My own text.
-/
import Derived.Test.YtppgceighgpgoaaGreatDoorRows
import Derived.Test.YtppgceighgpgoaaGreatDoorTie
import Derived.Test.YtppgceighgpgoaaGreatDoorCards
import Derived.ProofKit
import Derived.LaidMore
import Derived.OpenShut
import Derived.Stop.Joined
import Derived.Lib.LaidTab
import Derived.Lib.LaidU8
import Derived.Lay
import Derived.SevenTiedAt
import Derived.Test.YtppgceighgpgoaaGreatDoorDefAny
import Derived.Test.YtppgceighgpgoaaGreatDoorInfLaw
namespace Go.Proofs.YtppgceighgpgoaaGreatDoor.defc
open Go.RowKit Go.Lib Go.Proofs.YtppgceighgpgoaaGreatDoor.base Go.Proofs.YtppgceighgpgoaaGreatDoor.defp Go.Proofs.YtppgceighgpgoaaGreatDoor.infp
set_option linter.unusedVariables false
set_option maxRecDepth 100000
/-- what the row lists -/
abbrev listed : List (String × DataW Unit) := [("inquest/deflate.order", Rows.laid_inquest_deflate_order), ("inquest/inflate.order", Rows.laid_inquest_inflate_order)]
def Laid (W : World) : Prop := OrdD W ∧ Ord W
theorem order_is : (Rows.laid_inquest_deflate_order : DataW Unit) = tabData .i64 (infnum.order.map Int.ofNat) := by kernel_rfl
theorem order_is2 : (Rows.laid_inquest_inflate_order : DataW Unit) = tabData .i64 (infnum.order.map Int.ofNat) := by kernel_rfl
theorem of_laid {W : World} (h : laidMetH Tryz.prog listed W) : Laid W := by
  rw [MakeChecks.laidMetH_plain _ _ _ (by kernel_rfl)] at h
  have ha := laidMet.reads h (.head _)
  have hu := laidMet.reads h (.tail _ (.head _))
  rw [order_is] at ha
  rw [order_is2] at hu
  refine ⟨?_, ?_⟩
  · intro j r hj
    obtain ⟨g, t, cs, fuel, p, hg, hty, hvar, hd⟩ := ha
    obtain rfl := Option.some.inj ((show Tryz.prog.globalNamed "inquest/deflate.order" = some 0 by kernel_rfl).symm.trans hg)
    obtain rfl := Option.some.inj ((show (Tryz.prog.globals[0]?).map (·.type) = some 110 by kernel_rfl).symm.trans hty)
    have hcs := cells_of_tab Tryz.underlying110 Tryz.underlying3 (by kernel_rfl) (by kernel_rfl) hd
    have := World.var?_cell hg hvar j
    rw [this, ← Array.getElem?_toList, hcs, List.getElem?_map, List.getElem?_map, hj]
    rfl
  · intro j r hj
    obtain ⟨g, t, cs, fuel, p, hg, hty, hvar, hd⟩ := hu
    obtain rfl := Option.some.inj ((show Tryz.prog.globalNamed "inquest/inflate.order" = some 1 by kernel_rfl).symm.trans hg)
    obtain rfl := Option.some.inj ((show (Tryz.prog.globals[1]?).map (·.type) = some 110 by kernel_rfl).symm.trans hty)
    have hcs := cells_of_tab Tryz.underlying110 Tryz.underlying3 (by kernel_rfl) (by kernel_rfl) hd
    have := World.var?_cell hg hvar j
    rw [this, ← Array.getElem?_toList, hcs, List.getElem?_map, List.getElem?_map, hj]
    rfl
theorem door_met (os : Os) (args : Array Value) : laidMetH Tryz.prog listed ((World.laidAll Tryz.prog os listed).forCall (fun _ _ => 0) ⟨#[], args, []⟩).memory := by
  rw [MakeChecks.laidMetH_plain _ _ _ (by kernel_rfl)]
  exact laidMet_laidAll _ (by kernel_rfl) (by kernel_rfl)
end Go.Proofs.YtppgceighgpgoaaGreatDoor.defc
