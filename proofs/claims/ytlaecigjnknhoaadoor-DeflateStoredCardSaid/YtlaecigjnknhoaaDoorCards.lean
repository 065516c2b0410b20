/-
  DERIVED. GIVEN WITH THE SEED: THE CARDS: each row of YtlaecigjnknhoaaDoorRows.lean that lists a variable, with what it lists TIED to the program's text (the seventh form; the later family's looks); each row that meets fmt, with fmt's text TOLD by the authors' own Lean function (tested against real Go, not proved from fmt's source: count such statements apart). THE CARD IS WHAT COUNTS. Prove the row's statement (the work); the ties are given (YtlaecigjnknhoaaDoorTie.lean); close each card by the builder's one call (the guide's Derived/Test/ToyasCard.lean, 'card_holds'). Laid BY PROGRAM, IN A SANDBOX (cutbox-door.mjs). By AI agents, Wed Nov 11 2026. No macro, syntax, notation, axiom, sorry.
-/
import Derived.Test.YtlaecigjnknhoaaDoorRows
import GoSem.ClaimSeven
namespace Go.Proofs.YtlaecigjnknhoaaDoor
namespace Rows

/-- THE TIED CARD OF 'inquestlaw06.InflateEnds'. -/
def inflateEndsCard : Claim7 := { stood := { row := inflateEndsRow, standIns := [], harness := (true, "306c372e19b1338fe93d36e8603166dcdcd807697070605b610ea7e4b1ccaf80"), looks := false }, kinds := [], alts := [], laidByText := true, laidKinds := [.widerDeep], laidTests := true, laidLooks := .later }
def InflateEndsCardSaid : Prop := Claim7.holds Tryd.pinned (.plain (OpenSpec.ofChange inflateEndsSpec)) inflateEndsCard

/-- THE TIED CARD OF 'inquestlaw06.InflateNil'. -/
def inflateNilCard : Claim7 := { stood := { row := inflateNilRow, standIns := [], harness := (true, "306c372e19b1338fe93d36e8603166dcdcd807697070605b610ea7e4b1ccaf80"), looks := false }, kinds := [], alts := [], laidByText := true, laidKinds := [.widerDeep], laidTests := true, laidLooks := .later }
def InflateNilCardSaid : Prop := Claim7.holds Tryd.pinned (.plain (OpenSpec.ofChange inflateNilSpec)) inflateNilCard

/-- THE TIED CARD OF 'inquestlaw06.InflateStored'. -/
def inflateStoredCard : Claim7 := { stood := { row := inflateStoredRow, standIns := [], harness := (true, "306c372e19b1338fe93d36e8603166dcdcd807697070605b610ea7e4b1ccaf80"), looks := false }, kinds := [], alts := [], laidByText := true, laidKinds := [.widerDeep], laidTests := true, laidLooks := .later }
def InflateStoredCardSaid : Prop := Claim7.holds Tryd.pinned (.plain (OpenSpec.ofChange inflateStoredSpec)) inflateStoredCard

/-- THE TIED CARD OF 'inquestlaw06.InflateLong'. -/
def inflateLongCard : Claim7 := { stood := { row := inflateLongRow, standIns := [], harness := (true, "306c372e19b1338fe93d36e8603166dcdcd807697070605b610ea7e4b1ccaf80"), looks := false }, kinds := [], alts := [], laidByText := true, laidKinds := [.widerDeep], laidTests := true, laidLooks := .later }
def InflateLongCardSaid : Prop := Claim7.holds Tryd.pinned (.plain (OpenSpec.ofChange inflateLongSpec)) inflateLongCard

/-- THE TIED CARD OF 'inquestlaw07.DeflateStored'. -/
def deflateStoredCard : Claim7 := { stood := { row := deflateStoredRow, standIns := [], harness := (true, "306c372e19b1338fe93d36e8603166dcdcd807697070605b610ea7e4b1ccaf80"), looks := false }, kinds := [], alts := [], laidByText := true, laidKinds := [.data], laidTests := true, laidLooks := .later }
def DeflateStoredCardSaid : Prop := Claim7.holds Tryd.pinned (.plain (OpenSpec.ofChange deflateStoredSpec)) deflateStoredCard

/-- THE TIED CARD OF 'inquestlaw07.DeflateSizes'. -/
def deflateSizesCard : Claim7 := { stood := { row := deflateSizesRow, standIns := [], harness := (true, "306c372e19b1338fe93d36e8603166dcdcd807697070605b610ea7e4b1ccaf80"), looks := false }, kinds := [], alts := [], laidByText := true, laidKinds := [.data], laidTests := true, laidLooks := .later }
def DeflateSizesCardSaid : Prop := Claim7.holds Tryd.pinned (.plain (OpenSpec.ofChange deflateSizesSpec)) deflateSizesCard

/-- THE SECOND FORM's CARD OF 'inquestlaw06.InflateEnds'. -/
def inflateEndsUptoCard : Claim7 := { stood := { row := inflateEndsUptoRow, standIns := [], harness := (true, "306c372e19b1338fe93d36e8603166dcdcd807697070605b610ea7e4b1ccaf80"), looks := false }, kinds := [], alts := [], laidByText := true, laidKinds := [.widerDeep], laidTests := true, laidLooks := .later }
def InflateEndsUptoCardSaid : Prop := Claim7.holds Tryd.pinned (.plain (OpenSpec.upto inflateEndsSpec)) inflateEndsUptoCard

/-- THE SECOND FORM's CARD OF 'inquestlaw06.InflateNil'. -/
def inflateNilUptoCard : Claim7 := { stood := { row := inflateNilUptoRow, standIns := [], harness := (true, "306c372e19b1338fe93d36e8603166dcdcd807697070605b610ea7e4b1ccaf80"), looks := false }, kinds := [], alts := [], laidByText := true, laidKinds := [.widerDeep], laidTests := true, laidLooks := .later }
def InflateNilUptoCardSaid : Prop := Claim7.holds Tryd.pinned (.plain (OpenSpec.upto inflateNilSpec)) inflateNilUptoCard

/-- THE SECOND FORM's CARD OF 'inquestlaw06.InflateStored'. -/
def inflateStoredUptoCard : Claim7 := { stood := { row := inflateStoredUptoRow, standIns := [], harness := (true, "306c372e19b1338fe93d36e8603166dcdcd807697070605b610ea7e4b1ccaf80"), looks := false }, kinds := [], alts := [], laidByText := true, laidKinds := [.widerDeep], laidTests := true, laidLooks := .later }
def InflateStoredUptoCardSaid : Prop := Claim7.holds Tryd.pinned (.plain (OpenSpec.upto inflateStoredSpec)) inflateStoredUptoCard

/-- THE SECOND FORM's CARD OF 'inquestlaw06.InflateLong'. -/
def inflateLongUptoCard : Claim7 := { stood := { row := inflateLongUptoRow, standIns := [], harness := (true, "306c372e19b1338fe93d36e8603166dcdcd807697070605b610ea7e4b1ccaf80"), looks := false }, kinds := [], alts := [], laidByText := true, laidKinds := [.widerDeep], laidTests := true, laidLooks := .later }
def InflateLongUptoCardSaid : Prop := Claim7.holds Tryd.pinned (.plain (OpenSpec.upto inflateLongSpec)) inflateLongUptoCard

/-- THE SECOND FORM's CARD OF 'inquestlaw07.DeflateStored'. -/
def deflateStoredUptoCard : Claim7 := { stood := { row := deflateStoredUptoRow, standIns := [], harness := (true, "306c372e19b1338fe93d36e8603166dcdcd807697070605b610ea7e4b1ccaf80"), looks := false }, kinds := [], alts := [], laidByText := true, laidKinds := [.data], laidTests := true, laidLooks := .later }
def DeflateStoredUptoCardSaid : Prop := Claim7.holds Tryd.pinned (.plain (OpenSpec.upto deflateStoredSpec)) deflateStoredUptoCard

/-- THE SECOND FORM's CARD OF 'inquestlaw07.DeflateSizes'. -/
def deflateSizesUptoCard : Claim7 := { stood := { row := deflateSizesUptoRow, standIns := [], harness := (true, "306c372e19b1338fe93d36e8603166dcdcd807697070605b610ea7e4b1ccaf80"), looks := false }, kinds := [], alts := [], laidByText := true, laidKinds := [.data], laidTests := true, laidLooks := .later }
def DeflateSizesUptoCardSaid : Prop := Claim7.holds Tryd.pinned (.plain (OpenSpec.upto deflateSizesSpec)) deflateSizesUptoCard
end Rows
end Go.Proofs.YtlaecigjnknhoaaDoor
