/-
  DERIVED. GIVEN WITH THE SEED: THE CARDS: each row of YtmnejphdjnlbjaaDoorRows.lean that lists a variable, with what it lists TIED to the program's text (the seventh form; the later family's looks); each row that meets fmt, with fmt's text TOLD by the authors' own Lean function (tested against real Go, not proved from fmt's source: count such statements apart). THE CARD IS WHAT COUNTS. Prove the row's statement (the work); the ties are given (YtmnejphdjnlbjaaDoorTie.lean); close each card by the builder's one call (the guide's Derived/Test/ToyasCard.lean, 'card_holds'). Laid BY PROGRAM, IN A SANDBOX (cutbox-door.mjs). By AI agents, Wed Nov 11 2026. No macro, syntax, notation, axiom, sorry.
-/
import Derived.Test.YtmnejphdjnlbjaaDoorRows
import GoSem.ClaimSeven
namespace Go.Proofs.YtmnejphdjnlbjaaDoor
namespace Rows

/-- THE TIED CARD OF 'inquestlaw11.UnzipOpens'. -/
def unzipOpensCard : Claim7 := { stood := { row := unzipOpensRow, standIns := [], harness := (true, "29e435cd8fd011dc7198a2760f108439ffe7708a41c47fd8081f42cdfc5d9997"), looks := false }, kinds := [], alts := [], laidByText := true, laidKinds := [.data, .data, .pinned], laidTests := true, laidLooks := .later }
def UnzipOpensCardSaid : Prop := Claim7.holds Tryd.pinned (.plain (OpenSpec.ofChange unzipOpensSpec)) unzipOpensCard

/-- THE TIED CARD OF 'inquestlaw11.UnzipNil'. -/
def unzipNilCard : Claim7 := { stood := { row := unzipNilRow, standIns := [], harness := (true, "29e435cd8fd011dc7198a2760f108439ffe7708a41c47fd8081f42cdfc5d9997"), looks := false }, kinds := [], alts := [], laidByText := true, laidKinds := [.data, .data, .pinned], laidTests := true, laidLooks := .later }
def UnzipNilCardSaid : Prop := Claim7.holds Tryd.pinned (.plain (OpenSpec.ofChange unzipNilSpec)) unzipNilCard

/-- THE SECOND FORM's CARD OF 'inquestlaw11.UnzipOpens'. -/
def unzipOpensUptoCard : Claim7 := { stood := { row := unzipOpensUptoRow, standIns := [], harness := (true, "29e435cd8fd011dc7198a2760f108439ffe7708a41c47fd8081f42cdfc5d9997"), looks := false }, kinds := [], alts := [], laidByText := true, laidKinds := [.data, .data, .pinned], laidTests := true, laidLooks := .later }
def UnzipOpensUptoCardSaid : Prop := Claim7.holds Tryd.pinned (.plain (OpenSpec.upto unzipOpensSpec)) unzipOpensUptoCard

/-- THE SECOND FORM's CARD OF 'inquestlaw11.UnzipNil'. -/
def unzipNilUptoCard : Claim7 := { stood := { row := unzipNilUptoRow, standIns := [], harness := (true, "29e435cd8fd011dc7198a2760f108439ffe7708a41c47fd8081f42cdfc5d9997"), looks := false }, kinds := [], alts := [], laidByText := true, laidKinds := [.data, .data, .pinned], laidTests := true, laidLooks := .later }
def UnzipNilUptoCardSaid : Prop := Claim7.holds Tryd.pinned (.plain (OpenSpec.upto unzipNilSpec)) unzipNilUptoCard
end Rows
end Go.Proofs.YtmnejphdjnlbjaaDoor
