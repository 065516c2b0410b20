/-
  DERIVED. GIVEN WITH THE SEED: THE CARDS: each row of YtmnegmebkmihhaaGreatDoorRows.lean that lists a variable, with what it lists TIED to the program's text (the seventh form; the later family's looks); each row that meets fmt, with fmt's text TOLD by the authors' own Lean function (tested against real Go, not proved from fmt's source: count such statements apart). THE CARD IS WHAT COUNTS. Prove the row's statement (the work); the ties are given (YtmnegmebkmihhaaGreatDoorTie.lean); close each card by the builder's one call (the guide's Derived/Test/ToyasCard.lean, 'card_holds'). Laid BY PROGRAM, IN A SANDBOX (cutbox-door.mjs). By AI agents, Wed Nov 11 2026. No macro, syntax, notation, axiom, sorry.
-/
import Derived.Test.YtmnegmebkmihhaaGreatDoorRows
import GoSem.ClaimSeven
namespace Go.Proofs.YtmnegmebkmihhaaGreatDoor
namespace Rows

/-- THE TIED CARD OF 'inquestlaw12.ZipMakes'. -/
def zipMakesCard : Claim7 := { stood := { row := zipMakesRow, standIns := [], harness := (true, "7dd4fc8546e4bff1268214baaec85bcf0aed15bce43161354a61e7176cb6db62"), looks := false }, kinds := [], alts := [], laidByText := true, laidKinds := [.data, .data, .data, .pinned], laidTests := true, laidLooks := .later }
def ZipMakesCardSaid : Prop := Claim7.holds Tryz.pinned (.plain (OpenSpec.ofChange zipMakesSpec)) zipMakesCard

/-- THE TIED CARD OF 'inquestlaw12.ZipReads'. -/
def zipReadsCard : Claim7 := { stood := { row := zipReadsRow, standIns := [], harness := (true, "7dd4fc8546e4bff1268214baaec85bcf0aed15bce43161354a61e7176cb6db62"), looks := false }, kinds := [], alts := [], laidByText := true, laidKinds := [.data, .data, .data, .pinned], laidTests := true, laidLooks := .later }
def ZipReadsCardSaid : Prop := Claim7.holds Tryz.pinned (.plain (OpenSpec.ofChange zipReadsSpec)) zipReadsCard

/-- THE TIED CARD OF 'inquestlaw12.ZipMany'. -/
def zipManyCard : Claim7 := { stood := { row := zipManyRow, standIns := [], harness := (true, "7dd4fc8546e4bff1268214baaec85bcf0aed15bce43161354a61e7176cb6db62"), looks := false }, kinds := [], alts := [], laidByText := true, laidKinds := [.data, .data, .data, .pinned], laidTests := true, laidLooks := .later }
def ZipManyCardSaid : Prop := Claim7.holds Tryz.pinned (.plain (OpenSpec.ofChange zipManySpec)) zipManyCard

/-- THE TIED CARD OF 'inquestlaw12.ZipSizes'. -/
def zipSizesCard : Claim7 := { stood := { row := zipSizesRow, standIns := [], harness := (true, "7dd4fc8546e4bff1268214baaec85bcf0aed15bce43161354a61e7176cb6db62"), looks := false }, kinds := [], alts := [], laidByText := true, laidKinds := [.data, .data, .data, .pinned], laidTests := true, laidLooks := .later }
def ZipSizesCardSaid : Prop := Claim7.holds Tryz.pinned (.plain (OpenSpec.ofChange zipSizesSpec)) zipSizesCard

/-- THE TIED CARD OF 'inquestlaw12.ZipSame'. -/
def zipSameCard : Claim7 := { stood := { row := zipSameRow, standIns := [], harness := (true, "7dd4fc8546e4bff1268214baaec85bcf0aed15bce43161354a61e7176cb6db62"), looks := false }, kinds := [], alts := [], laidByText := true, laidKinds := [.data, .data, .data, .pinned], laidTests := true, laidLooks := .later }
def ZipSameCardSaid : Prop := Claim7.holds Tryz.pinned (.plain (OpenSpec.ofChange zipSameSpec)) zipSameCard

/-- THE SECOND FORM's CARD OF 'inquestlaw12.ZipMakes'. -/
def zipMakesUptoCard : Claim7 := { stood := { row := zipMakesUptoRow, standIns := [], harness := (true, "7dd4fc8546e4bff1268214baaec85bcf0aed15bce43161354a61e7176cb6db62"), looks := false }, kinds := [], alts := [], laidByText := true, laidKinds := [.data, .data, .data, .pinned], laidTests := true, laidLooks := .later }
def ZipMakesUptoCardSaid : Prop := Claim7.holds Tryz.pinned (.plain (OpenSpec.upto zipMakesSpec)) zipMakesUptoCard

/-- THE SECOND FORM's CARD OF 'inquestlaw12.ZipReads'. -/
def zipReadsUptoCard : Claim7 := { stood := { row := zipReadsUptoRow, standIns := [], harness := (true, "7dd4fc8546e4bff1268214baaec85bcf0aed15bce43161354a61e7176cb6db62"), looks := false }, kinds := [], alts := [], laidByText := true, laidKinds := [.data, .data, .data, .pinned], laidTests := true, laidLooks := .later }
def ZipReadsUptoCardSaid : Prop := Claim7.holds Tryz.pinned (.plain (OpenSpec.upto zipReadsSpec)) zipReadsUptoCard

/-- THE SECOND FORM's CARD OF 'inquestlaw12.ZipMany'. -/
def zipManyUptoCard : Claim7 := { stood := { row := zipManyUptoRow, standIns := [], harness := (true, "7dd4fc8546e4bff1268214baaec85bcf0aed15bce43161354a61e7176cb6db62"), looks := false }, kinds := [], alts := [], laidByText := true, laidKinds := [.data, .data, .data, .pinned], laidTests := true, laidLooks := .later }
def ZipManyUptoCardSaid : Prop := Claim7.holds Tryz.pinned (.plain (OpenSpec.upto zipManySpec)) zipManyUptoCard

/-- THE SECOND FORM's CARD OF 'inquestlaw12.ZipSizes'. -/
def zipSizesUptoCard : Claim7 := { stood := { row := zipSizesUptoRow, standIns := [], harness := (true, "7dd4fc8546e4bff1268214baaec85bcf0aed15bce43161354a61e7176cb6db62"), looks := false }, kinds := [], alts := [], laidByText := true, laidKinds := [.data, .data, .data, .pinned], laidTests := true, laidLooks := .later }
def ZipSizesUptoCardSaid : Prop := Claim7.holds Tryz.pinned (.plain (OpenSpec.upto zipSizesSpec)) zipSizesUptoCard

/-- THE SECOND FORM's CARD OF 'inquestlaw12.ZipSame'. -/
def zipSameUptoCard : Claim7 := { stood := { row := zipSameUptoRow, standIns := [], harness := (true, "7dd4fc8546e4bff1268214baaec85bcf0aed15bce43161354a61e7176cb6db62"), looks := false }, kinds := [], alts := [], laidByText := true, laidKinds := [.data, .data, .data, .pinned], laidTests := true, laidLooks := .later }
def ZipSameUptoCardSaid : Prop := Claim7.holds Tryz.pinned (.plain (OpenSpec.upto zipSameSpec)) zipSameUptoCard
end Rows
end Go.Proofs.YtmnegmebkmihhaaGreatDoor
