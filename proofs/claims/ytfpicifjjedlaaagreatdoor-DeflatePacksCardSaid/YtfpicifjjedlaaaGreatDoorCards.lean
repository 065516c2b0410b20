/-
  DERIVED. GIVEN WITH THE SEED: THE CARDS: each row of YtfpicifjjedlaaaGreatDoorRows.lean that lists a variable, with what it lists TIED to the program's text (the seventh form; the later family's looks); each row that meets fmt, with fmt's text TOLD by the authors' own Lean function (tested against real Go, not proved from fmt's source: count such statements apart). THE CARD IS WHAT COUNTS. Prove the row's statement (the work); the ties are given (YtfpicifjjedlaaaGreatDoorTie.lean); close each card by the builder's one call (the guide's Derived/Test/ToyasCard.lean, 'card_holds'). Laid BY PROGRAM, IN A SANDBOX (cutbox-door.mjs). By AI agents, Wed Nov 11 2026. No macro, syntax, notation, axiom, sorry.
-/
import Derived.Test.YtfpicifjjedlaaaGreatDoorRows
import GoSem.ClaimSeven
namespace Go.Proofs.YtfpicifjjedlaaaGreatDoor
namespace Rows

/-- THE TIED CARD OF 'inquestlaw07.DeflatePacks'. -/
def deflatePacksCard : Claim7 := { stood := { row := deflatePacksRow, standIns := [], harness := (true, "777174af8621702e0f626b1a62473fa4b6b1c1860dc50fc2bb10ed5ff1c6533d"), looks := false }, kinds := [], alts := [], laidByText := true, laidKinds := [.data, .widerDeep], laidTests := true, laidLooks := .later }
def DeflatePacksCardSaid : Prop := Claim7.holds Tryz.pinned (.plain (OpenSpec.ofChange deflatePacksSpec)) deflatePacksCard

/-- THE SECOND FORM's CARD OF 'inquestlaw07.DeflatePacks'. -/
def deflatePacksUptoCard : Claim7 := { stood := { row := deflatePacksUptoRow, standIns := [], harness := (true, "777174af8621702e0f626b1a62473fa4b6b1c1860dc50fc2bb10ed5ff1c6533d"), looks := false }, kinds := [], alts := [], laidByText := true, laidKinds := [.data, .widerDeep], laidTests := true, laidLooks := .later }
def DeflatePacksUptoCardSaid : Prop := Claim7.holds Tryz.pinned (.plain (OpenSpec.upto deflatePacksSpec)) deflatePacksUptoCard
end Rows
end Go.Proofs.YtfpicifjjedlaaaGreatDoor
