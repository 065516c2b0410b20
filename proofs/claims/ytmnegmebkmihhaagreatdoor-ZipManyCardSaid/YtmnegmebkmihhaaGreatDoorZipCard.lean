/-
  What the cards of layer 12 share: the four tables that the rows list, as the walks take them; a world that holds them. My own text.
-/
import Derived.Test.YtmnegmebkmihhaaGreatDoorRows
import Derived.Test.YtmnegmebkmihhaaGreatDoorTie
import Derived.Test.YtmnegmebkmihhaaGreatDoorCards
import Derived.ProofKit
import Derived.LaidMore
import Derived.OpenShut
import Derived.Stop.Joined
import Derived.Lib.LaidTab
import Derived.Lib.LaidU8T
import Derived.PinnedBridge
import Derived.Lay
import Derived.SevenTiedAt
import Derived.Test.YtmnegmebkmihhaaGreatDoorNamVal
namespace Go.Proofs.YtmnegmebkmihhaaGreatDoor.zipc
open Go.Proofs.YtmnegmebkmihhaaGreatDoor.namp
open Go.RowKit Go.Lib Go.Shelf Go.Proofs.YtmnegmebkmihhaaGreatDoor.base Go.Proofs.YtmnegmebkmihhaaGreatDoor.nam
set_option linter.unusedVariables false
set_option maxRecDepth 100000
/-- what the rows list -/
abbrev listed : List (String × DataW Unit) := [("unicode/utf8.acceptRanges", Rows.laid_unicode_utf8_acceptRanges), ("inquest/deflate.order", Rows.laid_inquest_deflate_order), ("inquest/name.upper", Rows.laid_inquest_name_upper), ("unicode/utf8.first", Rows.laid_unicode_utf8_first)]
theorem accept_is : (Rows.laid_unicode_utf8_acceptRanges : DataW Unit) = acceptData := by kernel_rfl
theorem upper_is : (Rows.laid_inquest_name_upper : DataW Unit) = tabData .i32 (upperL.map Int.ofNat) := by kernel_rfl
theorem first_is : Rows.laid_unicode_utf8_first = firstData := Pinned.utf8First_eq
theorem u8x : U8Extra Tryz.prog Tryz.lays196_ren := ⟨by kernel_rfl, by kernel_rfl, by kernel_rfl, by kernel_rfl, by kernel_rfl, by kernel_rfl, by kernel_rfl⟩
theorem of_laid {W : World} (h : laidMetH Tryz.prog listed W) : Laid W := by
  rw [MakeChecks.laidMetH_plain _ _ _ (by kernel_rfl)] at h
  have ha := laidMet.reads h (.head _)
  have hu := laidMet.reads h (.tail _ (.tail _ (.head _)))
  have hf := laidMet.reads h (.tail _ (.tail _ (.tail _ (.head _))))
  rw [accept_is] at ha
  rw [upper_is] at hu
  rw [first_is] at hf
  refine ⟨?_, utf8Tabs_of_readsT (U8Types.of196 Tryz.lays196) u8x hf ha⟩
  intro j r hj
  obtain ⟨g, t, cs, fuel, p, hg, hty, hvar, hd⟩ := hu
  obtain rfl := Option.some.inj ((show Tryz.prog.globalNamed "inquest/name.upper" = some 3 by kernel_rfl).symm.trans hg)
  obtain rfl := Option.some.inj ((show (Tryz.prog.globals[3]?).map (·.type) = some 315 by kernel_rfl).symm.trans hty)
  have hcs := cells_of_tab Tryz.underlying315 Tryz.underlying21 (by kernel_rfl) (by kernel_rfl) hd
  have := World.var?_cell hg hvar j
  rw [this, ← Array.getElem?_toList, hcs, List.getElem?_map, List.getElem?_map, hj]
  rfl
theorem door_met (os : Os) (args : Array Value) : laidMetH Tryz.prog listed ((World.laidAll Tryz.prog os listed).forCall (fun _ _ => 0) ⟨#[], args, []⟩).memory := by
  rw [MakeChecks.laidMetH_plain _ _ _ (by kernel_rfl)]
  exact laidMet_laidAll _ (by kernel_rfl) (by kernel_rfl)
end Go.Proofs.YtmnegmebkmihhaaGreatDoor.zipc
