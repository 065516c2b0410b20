/-
  DERIVED. GIVEN WITH THE SEED: THE CARDS: each row of YtkkkjadfhimahaaDoorRows.lean that lists a variable, with what it lists TIED to the program's text (the seventh form; the later family's looks); each row that meets fmt, with fmt's text TOLD by the authors' own Lean function (tested against real Go, not proved from fmt's source: count such statements apart). THE CARD IS WHAT COUNTS. Prove the row's statement (the work); the ties are given (YtkkkjadfhimahaaDoorTie.lean); close each card by the builder's one call (the guide's Derived/Test/ToyasCard.lean, 'card_holds'). Laid BY PROGRAM, IN A SANDBOX (cutbox-door.mjs). By AI agents, Wed Nov 11 2026. No macro, syntax, notation, axiom, sorry.
-/
import Derived.Test.YtkkkjadfhimahaaDoorRows
import GoSem.ClaimSeven
namespace Go.Proofs.YtkkkjadfhimahaaDoor
namespace Rows

/-- THE TIED CARD OF 'inquestlaw13.GlobMatches'. -/
def globMatchesCard : Claim7 := { stood := { row := globMatchesRow, standIns := [], harness := (true, "5477a587ee49a198c938fb92d8ac109465eaf8797651d5a84425cf8e23c43797"), looks := true }, kinds := [], alts := [], laidByText := true, laidKinds := [.data, .pinned], laidTests := true, laidLooks := .later }
def GlobMatchesCardSaid : Prop := Claim7.holds Tryd.pinned (.plain (OpenSpec.ofChange globMatchesSpec)) globMatchesCard

/-- THE TIED CARD OF 'inquestlaw13.GlobHeads'. -/
def globHeadsCard : Claim7 := { stood := { row := globHeadsRow, standIns := [], harness := (true, "5477a587ee49a198c938fb92d8ac109465eaf8797651d5a84425cf8e23c43797"), looks := true }, kinds := [], alts := [], laidByText := true, laidKinds := [.data, .pinned], laidTests := true, laidLooks := .later }
def GlobHeadsCardSaid : Prop := Claim7.holds Tryd.pinned (.plain (OpenSpec.ofChange globHeadsSpec)) globHeadsCard

/-- THE TIED CARD OF 'inquestlaw13.GlobQuotes'. -/
def globQuotesCard : Claim7 := { stood := { row := globQuotesRow, standIns := [], harness := (true, "5477a587ee49a198c938fb92d8ac109465eaf8797651d5a84425cf8e23c43797"), looks := true }, kinds := [], alts := [], laidByText := true, laidKinds := [.data, .pinned], laidTests := true, laidLooks := .later }
def GlobQuotesCardSaid : Prop := Claim7.holds Tryd.pinned (.plain (OpenSpec.ofChange globQuotesSpec)) globQuotesCard

/-- THE TIED CARD OF 'inquestlaw13.GlobNil'. -/
def globNilCard : Claim7 := { stood := { row := globNilRow, standIns := [], harness := (true, "5477a587ee49a198c938fb92d8ac109465eaf8797651d5a84425cf8e23c43797"), looks := true }, kinds := [], alts := [], laidByText := true, laidKinds := [.data, .pinned], laidTests := true, laidLooks := .later }
def GlobNilCardSaid : Prop := Claim7.holds Tryd.pinned (.plain (OpenSpec.ofChange globNilSpec)) globNilCard

/-- THE TIED CARD OF 'inquestlaw13.GlobStars'. -/
def globStarsCard : Claim7 := { stood := { row := globStarsRow, standIns := [], harness := (true, "5477a587ee49a198c938fb92d8ac109465eaf8797651d5a84425cf8e23c43797"), looks := true }, kinds := [], alts := [], laidByText := true, laidKinds := [.data, .pinned], laidTests := true, laidLooks := .later }
def GlobStarsCardSaid : Prop := Claim7.holds Tryd.pinned (.plain (OpenSpec.ofChange globStarsSpec)) globStarsCard

/-- THE TIED CARD OF 'inquestlaw13.GlobClasses'. -/
def globClassesCard : Claim7 := { stood := { row := globClassesRow, standIns := [], harness := (true, "5477a587ee49a198c938fb92d8ac109465eaf8797651d5a84425cf8e23c43797"), looks := true }, kinds := [], alts := [], laidByText := true, laidKinds := [.data, .pinned], laidTests := true, laidLooks := .later }
def GlobClassesCardSaid : Prop := Claim7.holds Tryd.pinned (.plain (OpenSpec.ofChange globClassesSpec)) globClassesCard

/-- THE SECOND FORM's CARD OF 'inquestlaw13.GlobMatches'. -/
def globMatchesUptoCard : Claim7 := { stood := { row := globMatchesUptoRow, standIns := [], harness := (true, "5477a587ee49a198c938fb92d8ac109465eaf8797651d5a84425cf8e23c43797"), looks := true }, kinds := [], alts := [], laidByText := true, laidKinds := [.data, .pinned], laidTests := true, laidLooks := .later }
def GlobMatchesUptoCardSaid : Prop := Claim7.holds Tryd.pinned (.plain (OpenSpec.upto globMatchesSpec)) globMatchesUptoCard

/-- THE SECOND FORM's CARD OF 'inquestlaw13.GlobHeads'. -/
def globHeadsUptoCard : Claim7 := { stood := { row := globHeadsUptoRow, standIns := [], harness := (true, "5477a587ee49a198c938fb92d8ac109465eaf8797651d5a84425cf8e23c43797"), looks := true }, kinds := [], alts := [], laidByText := true, laidKinds := [.data, .pinned], laidTests := true, laidLooks := .later }
def GlobHeadsUptoCardSaid : Prop := Claim7.holds Tryd.pinned (.plain (OpenSpec.upto globHeadsSpec)) globHeadsUptoCard

/-- THE SECOND FORM's CARD OF 'inquestlaw13.GlobQuotes'. -/
def globQuotesUptoCard : Claim7 := { stood := { row := globQuotesUptoRow, standIns := [], harness := (true, "5477a587ee49a198c938fb92d8ac109465eaf8797651d5a84425cf8e23c43797"), looks := true }, kinds := [], alts := [], laidByText := true, laidKinds := [.data, .pinned], laidTests := true, laidLooks := .later }
def GlobQuotesUptoCardSaid : Prop := Claim7.holds Tryd.pinned (.plain (OpenSpec.upto globQuotesSpec)) globQuotesUptoCard

/-- THE SECOND FORM's CARD OF 'inquestlaw13.GlobNil'. -/
def globNilUptoCard : Claim7 := { stood := { row := globNilUptoRow, standIns := [], harness := (true, "5477a587ee49a198c938fb92d8ac109465eaf8797651d5a84425cf8e23c43797"), looks := true }, kinds := [], alts := [], laidByText := true, laidKinds := [.data, .pinned], laidTests := true, laidLooks := .later }
def GlobNilUptoCardSaid : Prop := Claim7.holds Tryd.pinned (.plain (OpenSpec.upto globNilSpec)) globNilUptoCard

/-- THE SECOND FORM's CARD OF 'inquestlaw13.GlobStars'. -/
def globStarsUptoCard : Claim7 := { stood := { row := globStarsUptoRow, standIns := [], harness := (true, "5477a587ee49a198c938fb92d8ac109465eaf8797651d5a84425cf8e23c43797"), looks := true }, kinds := [], alts := [], laidByText := true, laidKinds := [.data, .pinned], laidTests := true, laidLooks := .later }
def GlobStarsUptoCardSaid : Prop := Claim7.holds Tryd.pinned (.plain (OpenSpec.upto globStarsSpec)) globStarsUptoCard

/-- THE SECOND FORM's CARD OF 'inquestlaw13.GlobClasses'. -/
def globClassesUptoCard : Claim7 := { stood := { row := globClassesUptoRow, standIns := [], harness := (true, "5477a587ee49a198c938fb92d8ac109465eaf8797651d5a84425cf8e23c43797"), looks := true }, kinds := [], alts := [], laidByText := true, laidKinds := [.data, .pinned], laidTests := true, laidLooks := .later }
def GlobClassesUptoCardSaid : Prop := Claim7.holds Tryd.pinned (.plain (OpenSpec.upto globClassesSpec)) globClassesUptoCard
end Rows
end Go.Proofs.YtkkkjadfhimahaaDoor
