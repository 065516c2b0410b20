/-
  DERIVED. GIVEN WITH THE SEED: THE CARDS: each row of YtaldbcfgfcdlhaaDoorRows.lean that lists a variable, with what it lists TIED to the program's text (the seventh form; the later family's looks); each row that meets fmt, with fmt's text TOLD by the authors' own Lean function (tested against real Go, not proved from fmt's source: count such statements apart). THE CARD IS WHAT COUNTS. Prove the row's statement (the work); the ties are given (YtaldbcfgfcdlhaaDoorTie.lean); close each card by the builder's one call (the guide's Derived/Test/ToyasCard.lean, 'card_holds'). Laid BY PROGRAM, IN A SANDBOX (cutbox-door.mjs). By AI agents, Wed Nov 11 2026. No macro, syntax, notation, axiom, sorry.
-/
import Derived.Test.YtaldbcfgfcdlhaaDoorRows
import GoSem.ClaimSeven
namespace Go.Proofs.YtaldbcfgfcdlhaaDoor
namespace Rows

/-- THE TIED CARD OF 'inquestlaw09.NameDecodes'. -/
def nameDecodesCard : Claim7 := { stood := { row := nameDecodesRow, standIns := [], harness := (true, "62879670e1afe9fc8630b59b2b8b83f76381fa4b49617a4a7e788acdf8f5d07e"), looks := false }, kinds := [], alts := [], laidByText := true, laidKinds := [.data, .data, .pinned], laidTests := true, laidLooks := .later }
def NameDecodesCardSaid : Prop := Claim7.holds Tryd.pinned (.plain (OpenSpec.ofChange nameDecodesSpec)) nameDecodesCard

/-- THE TIED CARD OF 'inquestlaw09.NameEncodes'. -/
def nameEncodesCard : Claim7 := { stood := { row := nameEncodesRow, standIns := [], harness := (true, "62879670e1afe9fc8630b59b2b8b83f76381fa4b49617a4a7e788acdf8f5d07e"), looks := false }, kinds := [], alts := [], laidByText := true, laidKinds := [.data, .data, .pinned], laidTests := true, laidLooks := .later }
def NameEncodesCardSaid : Prop := Claim7.holds Tryd.pinned (.plain (OpenSpec.ofChange nameEncodesSpec)) nameEncodesCard

/-- THE TIED CARD OF 'inquestlaw09.NamePage'. -/
def namePageCard : Claim7 := { stood := { row := namePageRow, standIns := [], harness := (true, "62879670e1afe9fc8630b59b2b8b83f76381fa4b49617a4a7e788acdf8f5d07e"), looks := false }, kinds := [], alts := [], laidByText := true, laidKinds := [.data, .data, .pinned], laidTests := true, laidLooks := .later }
def NamePageCardSaid : Prop := Claim7.holds Tryd.pinned (.plain (OpenSpec.ofChange namePageSpec)) namePageCard

/-- THE TIED CARD OF 'inquestlaw09.NameAscii'. -/
def nameAsciiCard : Claim7 := { stood := { row := nameAsciiRow, standIns := [], harness := (true, "62879670e1afe9fc8630b59b2b8b83f76381fa4b49617a4a7e788acdf8f5d07e"), looks := false }, kinds := [], alts := [], laidByText := true, laidKinds := [.data, .data, .pinned], laidTests := true, laidLooks := .later }
def NameAsciiCardSaid : Prop := Claim7.holds Tryd.pinned (.plain (OpenSpec.ofChange nameAsciiSpec)) nameAsciiCard

/-- THE SECOND FORM's CARD OF 'inquestlaw09.NameDecodes'. -/
def nameDecodesUptoCard : Claim7 := { stood := { row := nameDecodesUptoRow, standIns := [], harness := (true, "62879670e1afe9fc8630b59b2b8b83f76381fa4b49617a4a7e788acdf8f5d07e"), looks := false }, kinds := [], alts := [], laidByText := true, laidKinds := [.data, .data, .pinned], laidTests := true, laidLooks := .later }
def NameDecodesUptoCardSaid : Prop := Claim7.holds Tryd.pinned (.plain (OpenSpec.upto nameDecodesSpec)) nameDecodesUptoCard

/-- THE SECOND FORM's CARD OF 'inquestlaw09.NameEncodes'. -/
def nameEncodesUptoCard : Claim7 := { stood := { row := nameEncodesUptoRow, standIns := [], harness := (true, "62879670e1afe9fc8630b59b2b8b83f76381fa4b49617a4a7e788acdf8f5d07e"), looks := false }, kinds := [], alts := [], laidByText := true, laidKinds := [.data, .data, .pinned], laidTests := true, laidLooks := .later }
def NameEncodesUptoCardSaid : Prop := Claim7.holds Tryd.pinned (.plain (OpenSpec.upto nameEncodesSpec)) nameEncodesUptoCard

/-- THE SECOND FORM's CARD OF 'inquestlaw09.NamePage'. -/
def namePageUptoCard : Claim7 := { stood := { row := namePageUptoRow, standIns := [], harness := (true, "62879670e1afe9fc8630b59b2b8b83f76381fa4b49617a4a7e788acdf8f5d07e"), looks := false }, kinds := [], alts := [], laidByText := true, laidKinds := [.data, .data, .pinned], laidTests := true, laidLooks := .later }
def NamePageUptoCardSaid : Prop := Claim7.holds Tryd.pinned (.plain (OpenSpec.upto namePageSpec)) namePageUptoCard

/-- THE SECOND FORM's CARD OF 'inquestlaw09.NameAscii'. -/
def nameAsciiUptoCard : Claim7 := { stood := { row := nameAsciiUptoRow, standIns := [], harness := (true, "62879670e1afe9fc8630b59b2b8b83f76381fa4b49617a4a7e788acdf8f5d07e"), looks := false }, kinds := [], alts := [], laidByText := true, laidKinds := [.data, .data, .pinned], laidTests := true, laidLooks := .later }
def NameAsciiUptoCardSaid : Prop := Claim7.holds Tryd.pinned (.plain (OpenSpec.upto nameAsciiSpec)) nameAsciiUptoCard
end Rows
end Go.Proofs.YtaldbcfgfcdlhaaDoor
