/-
  DERIVED. GIVEN WITH THE SEED: THE CARDS: each row of YtppgceighgpgoaaGreatDoorRows.lean that lists a variable, with what it lists TIED to the program's text (the seventh form; the later family's looks); each row that meets fmt, with fmt's text TOLD by the authors' own Lean function (tested against real Go, not proved from fmt's source: count such statements apart). THE CARD IS WHAT COUNTS. Prove the row's statement (the work); the ties are given (YtppgceighgpgoaaGreatDoorTie.lean); close each card by the builder's one call (the guide's Derived/Test/ToyasCard.lean, 'card_holds'). Laid BY PROGRAM, IN A SANDBOX (cutbox-door.mjs). By AI agents, Wed Nov 11 2026. No macro, syntax, notation, axiom, sorry.
-/
import Derived.Test.YtppgceighgpgoaaGreatDoorRows
import GoSem.ClaimSeven
namespace Go.Proofs.YtppgceighgpgoaaGreatDoor
namespace Rows

/-- THE TIED CARD OF 'inquestlaw07.DeflateBest'. -/
def deflateBestCard : Claim7 := { stood := { row := deflateBestRow, standIns := [], harness := (true, "92b35d23771d812ff85f9eac769ba6665c4f0978f0dd33fdbb656a9183bfd600"), looks := false }, kinds := [], alts := [], laidByText := true, laidKinds := [.data, .widerDeep], laidTests := true, laidLooks := .later }
def DeflateBestCardSaid : Prop := Claim7.holds Tryz.pinned (.plain (OpenSpec.ofChange deflateBestSpec)) deflateBestCard

/-- THE SECOND FORM's CARD OF 'inquestlaw07.DeflateBest'. -/
def deflateBestUptoCard : Claim7 := { stood := { row := deflateBestUptoRow, standIns := [], harness := (true, "92b35d23771d812ff85f9eac769ba6665c4f0978f0dd33fdbb656a9183bfd600"), looks := false }, kinds := [], alts := [], laidByText := true, laidKinds := [.data, .widerDeep], laidTests := true, laidLooks := .later }
def DeflateBestUptoCardSaid : Prop := Claim7.holds Tryz.pinned (.plain (OpenSpec.upto deflateBestSpec)) deflateBestUptoCard
end Rows
end Go.Proofs.YtppgceighgpgoaaGreatDoor
