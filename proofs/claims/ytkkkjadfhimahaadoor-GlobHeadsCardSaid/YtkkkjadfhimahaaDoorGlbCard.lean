/-
  What the six cards of layer 13 share: the two tables that the rows list, as the walks take them; a world that holds them. My own text.
-/
import Derived.Test.YtkkkjadfhimahaaDoorRows
import Derived.Test.YtkkkjadfhimahaaDoorTie
import Derived.Test.YtkkkjadfhimahaaDoorCards
import Derived.ProofKit
import Derived.LaidMore
import Derived.OpenShut
import Derived.Stop.Joined
import Derived.Lib.LaidTab
import Derived.Lib.LaidU8T
import Derived.PinnedBridge
import Derived.Lay
import Derived.SevenTiedAt
import Derived.Test.YtkkkjadfhimahaaDoorNamVal
namespace Go.Proofs.YtkkkjadfhimahaaDoor.glbp
open Go.RowKit Go.Lib Go.Shelf Go.Proofs.YtkkkjadfhimahaaDoor.base Go.Proofs.YtkkkjadfhimahaaDoor.nam Go.Proofs.YtkkkjadfhimahaaDoor.namp
set_option linter.unusedVariables false
set_option maxRecDepth 100000
/-- what the rows list -/
abbrev listed : List (String × DataW Unit) := [("unicode/utf8.acceptRanges", Rows.laid_unicode_utf8_acceptRanges), ("unicode/utf8.first", Rows.laid_unicode_utf8_first)]
theorem accept_is : (Rows.laid_unicode_utf8_acceptRanges : DataW Unit) = acceptData := by kernel_rfl
theorem first_is : Rows.laid_unicode_utf8_first = firstData := Pinned.utf8First_eq
theorem u8x : U8Extra Tryd.prog Tryd.lays196_ren := ⟨by kernel_rfl, by kernel_rfl, by kernel_rfl, by kernel_rfl, by kernel_rfl, by kernel_rfl, by kernel_rfl⟩
theorem of_laid {W : World} (h : laidMetH Tryd.prog listed W) : Tabs W := by
  rw [MakeChecks.laidMetH_plain _ _ _ (by kernel_rfl)] at h
  have ha := laidMet.reads h (.head _)
  have hf := laidMet.reads h (.tail _ (.head _))
  rw [accept_is] at ha
  rw [first_is] at hf
  exact utf8Tabs_of_readsT (U8Types.of196 Tryd.lays196) u8x hf ha
theorem door_met (os : Os) (args : Array Value) : laidMetH Tryd.prog listed ((World.laidAll Tryd.prog os listed).forCall (fun _ _ => 0) ⟨#[], args, []⟩).memory := by
  rw [MakeChecks.laidMetH_plain _ _ _ (by kernel_rfl)]
  exact laidMet_laidAll _ (by kernel_rfl) (by kernel_rfl)
end Go.Proofs.YtkkkjadfhimahaaDoor.glbp
