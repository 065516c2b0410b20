/-
  DERIVED. GIVEN WITH THE SEED: THE CARDS: each row of YtmnejphdjnlbjaaGreatDoorRows.lean that lists a variable, with what it lists TIED to the program's text (the seventh form; the later family's looks); each row that meets fmt, with fmt's text TOLD by the authors' own Lean function (tested against real Go, not proved from fmt's source: count such statements apart). THE CARD IS WHAT COUNTS. Prove the row's statement (the work); the ties are given (YtmnejphdjnlbjaaGreatDoorTie.lean); close each card by the builder's one call (the guide's Derived/Test/ToyasCard.lean, 'card_holds'). Laid BY PROGRAM, IN A SANDBOX (cutbox-door.mjs). By AI agents, Wed Nov 11 2026. No macro, syntax, notation, axiom, sorry.
-/
import Derived.Test.YtmnejphdjnlbjaaGreatDoorRows
import GoSem.ClaimSeven
namespace Go.Proofs.YtmnejphdjnlbjaaGreatDoor
namespace Rows

/-- THE TIED CARD OF 'inquestlaw11.UnzipStreams'. -/
def unzipStreamsCard : Claim7 := { stood := { row := unzipStreamsRow, standIns := [], harness := (true, "c401969cf644b86a51729a6e545711dbea363962024e6a518c05d70fc3f5a498"), looks := false }, kinds := [], alts := [], laidByText := true, laidKinds := [.data, .data, .pinned], laidTests := true, laidLooks := .later }
def UnzipStreamsCardSaid : Prop := Claim7.holds Tryz.pinned (.plain (OpenSpec.ofChange unzipStreamsSpec)) unzipStreamsCard

/-- THE TIED CARD OF 'inquestlaw11.UnzipSpoilt'. -/
def unzipSpoiltCard : Claim7 := { stood := { row := unzipSpoiltRow, standIns := [], harness := (true, "c401969cf644b86a51729a6e545711dbea363962024e6a518c05d70fc3f5a498"), looks := false }, kinds := [], alts := [], laidByText := true, laidKinds := [.data, .data, .pinned], laidTests := true, laidLooks := .later }
def UnzipSpoiltCardSaid : Prop := Claim7.holds Tryz.pinned (.plain (OpenSpec.ofChange unzipSpoiltSpec)) unzipSpoiltCard

/-- THE SECOND FORM's CARD OF 'inquestlaw11.UnzipStreams'. -/
def unzipStreamsUptoCard : Claim7 := { stood := { row := unzipStreamsUptoRow, standIns := [], harness := (true, "c401969cf644b86a51729a6e545711dbea363962024e6a518c05d70fc3f5a498"), looks := false }, kinds := [], alts := [], laidByText := true, laidKinds := [.data, .data, .pinned], laidTests := true, laidLooks := .later }
def UnzipStreamsUptoCardSaid : Prop := Claim7.holds Tryz.pinned (.plain (OpenSpec.upto unzipStreamsSpec)) unzipStreamsUptoCard

/-- THE SECOND FORM's CARD OF 'inquestlaw11.UnzipSpoilt'. -/
def unzipSpoiltUptoCard : Claim7 := { stood := { row := unzipSpoiltUptoRow, standIns := [], harness := (true, "c401969cf644b86a51729a6e545711dbea363962024e6a518c05d70fc3f5a498"), looks := false }, kinds := [], alts := [], laidByText := true, laidKinds := [.data, .data, .pinned], laidTests := true, laidLooks := .later }
def UnzipSpoiltUptoCardSaid : Prop := Claim7.holds Tryz.pinned (.plain (OpenSpec.upto unzipSpoiltSpec)) unzipSpoiltUptoCard
end Rows
end Go.Proofs.YtmnejphdjnlbjaaGreatDoor
