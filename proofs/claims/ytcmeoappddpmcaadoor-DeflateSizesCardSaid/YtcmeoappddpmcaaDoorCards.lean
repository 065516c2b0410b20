/-
  DERIVED. GIVEN WITH THE SEED: THE CARDS: each row of YtcmeoappddpmcaaDoorRows.lean that lists a variable, with what it lists TIED to the program's text (the seventh form; the later family's looks); each row that meets fmt, with fmt's text TOLD by the authors' own Lean function (tested against real Go, not proved from fmt's source: count such statements apart). THE CARD IS WHAT COUNTS. Prove the row's statement (the work); the ties are given (YtcmeoappddpmcaaDoorTie.lean); close each card by the builder's one call (the guide's Derived/Test/ToyasCard.lean, 'card_holds'). Laid BY PROGRAM, IN A SANDBOX (cutbox-door.mjs). By AI agents, Wed Nov 11 2026. No macro, syntax, notation, axiom, sorry.
-/
import Derived.Test.YtcmeoappddpmcaaDoorRows
import GoSem.ClaimSeven
namespace Go.Proofs.YtcmeoappddpmcaaDoor
namespace Rows

/-- THE TIED CARD OF 'inquestlaw07.DeflateStored'. -/
def deflateStoredCard : Claim7 := { stood := { row := deflateStoredRow, standIns := [], harness := (true, "85be1e2c00cf4e773a91f6401f23f61f34894cfc405cbfddbe3a21341f41b1bc"), looks := false }, kinds := [], alts := [], laidByText := true, laidKinds := [.data], laidTests := true, laidLooks := .later }
def DeflateStoredCardSaid : Prop := Claim7.holds Tryd.pinned (.plain (OpenSpec.ofChange deflateStoredSpec)) deflateStoredCard

/-- THE TIED CARD OF 'inquestlaw07.DeflateSizes'. -/
def deflateSizesCard : Claim7 := { stood := { row := deflateSizesRow, standIns := [], harness := (true, "85be1e2c00cf4e773a91f6401f23f61f34894cfc405cbfddbe3a21341f41b1bc"), looks := false }, kinds := [], alts := [], laidByText := true, laidKinds := [.data], laidTests := true, laidLooks := .later }
def DeflateSizesCardSaid : Prop := Claim7.holds Tryd.pinned (.plain (OpenSpec.ofChange deflateSizesSpec)) deflateSizesCard

/-- THE SECOND FORM's CARD OF 'inquestlaw07.DeflateStored'. -/
def deflateStoredUptoCard : Claim7 := { stood := { row := deflateStoredUptoRow, standIns := [], harness := (true, "85be1e2c00cf4e773a91f6401f23f61f34894cfc405cbfddbe3a21341f41b1bc"), looks := false }, kinds := [], alts := [], laidByText := true, laidKinds := [.data], laidTests := true, laidLooks := .later }
def DeflateStoredUptoCardSaid : Prop := Claim7.holds Tryd.pinned (.plain (OpenSpec.upto deflateStoredSpec)) deflateStoredUptoCard

/-- THE SECOND FORM's CARD OF 'inquestlaw07.DeflateSizes'. -/
def deflateSizesUptoCard : Claim7 := { stood := { row := deflateSizesUptoRow, standIns := [], harness := (true, "85be1e2c00cf4e773a91f6401f23f61f34894cfc405cbfddbe3a21341f41b1bc"), looks := false }, kinds := [], alts := [], laidByText := true, laidKinds := [.data], laidTests := true, laidLooks := .later }
def DeflateSizesUptoCardSaid : Prop := Claim7.holds Tryd.pinned (.plain (OpenSpec.upto deflateSizesSpec)) deflateSizesUptoCard
end Rows
end Go.Proofs.YtcmeoappddpmcaaDoor
