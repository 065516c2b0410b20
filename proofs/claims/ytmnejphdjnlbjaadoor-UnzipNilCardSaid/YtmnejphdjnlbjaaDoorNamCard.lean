/-
  What the four cards of layer 9 share: the three tables that the rows list, as the walks take them; a world that holds them. My own text.
-/
import Derived.Test.YtmnejphdjnlbjaaDoorRows
import Derived.Test.YtmnejphdjnlbjaaDoorTie
import Derived.Test.YtmnejphdjnlbjaaDoorCards
import Derived.ProofKit
import Derived.LaidMore
import Derived.OpenShut
import Derived.Stop.Joined
import Derived.Lib.LaidTab
import Derived.Lib.LaidU8T
import Derived.PinnedBridge
import Derived.Lay
import Derived.SevenTiedAt
import Derived.Test.YtmnejphdjnlbjaaDoorNamVal
namespace Go.Proofs.YtmnejphdjnlbjaaDoor.namp
open Go.RowKit Go.Lib Go.Shelf Go.Proofs.YtmnejphdjnlbjaaDoor.base Go.Proofs.YtmnejphdjnlbjaaDoor.nam
set_option linter.unusedVariables false
set_option maxRecDepth 100000
/-- what the rows list -/
abbrev listed : List (String × DataW Unit) := [("unicode/utf8.acceptRanges", Rows.laid_unicode_utf8_acceptRanges), ("inquest/name.upper", Rows.laid_inquest_name_upper), ("unicode/utf8.first", Rows.laid_unicode_utf8_first)]
theorem accept_is : (Rows.laid_unicode_utf8_acceptRanges : DataW Unit) = acceptData := by kernel_rfl
theorem upper_is : (Rows.laid_inquest_name_upper : DataW Unit) = tabData .i32 (upperL.map Int.ofNat) := by kernel_rfl
theorem first_is : Rows.laid_unicode_utf8_first = firstData := Pinned.utf8First_eq
theorem u8x : U8Extra Tryd.prog Tryd.lays196_ren := ⟨by kernel_rfl, by kernel_rfl, by kernel_rfl, by kernel_rfl, by kernel_rfl, by kernel_rfl, by kernel_rfl⟩
theorem of_laid {W : World} (h : laidMetH Tryd.prog listed W) : Laid W := by
  rw [MakeChecks.laidMetH_plain _ _ _ (by kernel_rfl)] at h
  have ha := laidMet.reads h (.head _)
  have hu := laidMet.reads h (.tail _ (.head _))
  have hf := laidMet.reads h (.tail _ (.tail _ (.head _)))
  rw [accept_is] at ha
  rw [upper_is] at hu
  rw [first_is] at hf
  refine ⟨?_, utf8Tabs_of_readsT (U8Types.of196 Tryd.lays196) u8x hf ha⟩
  intro j r hj
  obtain ⟨g, t, cs, fuel, p, hg, hty, hvar, hd⟩ := hu
  obtain rfl := Option.some.inj ((show Tryd.prog.globalNamed "inquest/name.upper" = some 0 by kernel_rfl).symm.trans hg)
  obtain rfl := Option.some.inj ((show (Tryd.prog.globals[0]?).map (·.type) = some 140 by kernel_rfl).symm.trans hty)
  have hcs := cells_of_tab Tryd.underlying140 Tryd.underlying21 (by kernel_rfl) (by kernel_rfl) hd
  have := World.var?_cell hg hvar j
  rw [this, ← Array.getElem?_toList, hcs, List.getElem?_map, List.getElem?_map, hj]
  rfl
theorem door_met (os : Os) (args : Array Value) : laidMetH Tryd.prog listed ((World.laidAll Tryd.prog os listed).forCall (fun _ _ => 0) ⟨#[], args, []⟩).memory := by
  rw [MakeChecks.laidMetH_plain _ _ _ (by kernel_rfl)]
  exact laidMet_laidAll _ (by kernel_rfl) (by kernel_rfl)
end Go.Proofs.YtmnejphdjnlbjaaDoor.namp
