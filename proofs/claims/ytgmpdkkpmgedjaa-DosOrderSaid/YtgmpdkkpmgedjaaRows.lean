/-
  No cell of these rows narrows 'for every input' (looked for: loops, veiled, ifaces, maps, wideKeys, modest, calm, conditions, laid).
  DERIVED. THE GIVEN ROWS OF THIS SEAT. 5 by the template 'for every input the law returns true; each argument reads behind the call as it read before'; 0 by the template 'total and deterministic' (their statements: YtgmpdkkpmgedjaaTotals.lean).
  GIVEN WITH THE SEED: the statements are not yours to turn. If you find one false, say at which input.
  Laid BY PROGRAM, IN A SANDBOX (cutbox-rows.mjs): the forced cells as the released guide's own fill.sh prints them over the translation e19f097d26765c91… (all of the seat's roots in one cut). By AI agents, Wed Nov 11 2026. No macro, syntax, notation, axiom, sorry.
-/
import Derived.Test.YtgmpdkkpmgedjaaChecked
import GoSem.Claim
import GoSem.ClaimJoined
import GoSem.ClaimMapViews
import Derived.JoinedTies
import Derived.KernelRfl
namespace Go.Proofs.Ytgmpdkkpmgedjaa
/- THE CELL 'sum', in the pinned program and in every row, IS THE sha256 OF THE DUMP (.gsa) THAT YtgmpdkkpmgedjaaProg.lean LOADS. Nothing in Lean hashes anything: it is a label: what it is worth is what the hold of that sum in a sandbox is worth. -/
noncomputable def Try.pinned : Pinned := { name := "ytgmpdkkpmgedjaa", sum := "e19f097d26765c91ba757c2f5f1458df40eeec1869c865295dcfc24e627de56d", checked := Try.checked }
namespace Rows
def none {H : Type} : Left H := { results := [], args := [] }

/-- 'inquestlaw08.DosPuts': WHATEVER THE INPUT: true; the input reads as it did. -/
def dosPutsSpec : ChangeSpec := { name := "dosPuts", fn := fun _ => fun
  | [d] => { results := [.lit (.bool true)], args := [d] }
  | _ => none }
def dosPutsRow : OpenClaim := { program := "ytgmpdkkpmgedjaa", sum := "e19f097d26765c91ba757c2f5f1458df40eeec1869c865295dcfc24e627de56d", func := "inquest/inquestlaw08.DosPuts", spec := "dosPuts", apart := false }
def DosPutsSaid : Prop := dosPutsRow.holds Try.pinned (OpenSpec.ofChange dosPutsSpec)

/-- ITS FALSE NEIGHBOUR: 'it returns false'. Refute it at one input. -/
def dosPutsWrong : ChangeSpec := { name := "dosPuts", fn := fun _ => fun
  | [d] => { results := [.lit (.bool false)], args := [d] }
  | _ => none }
def DosPutsWrongFalsely : Prop := dosPutsRow.holds Try.pinned (OpenSpec.ofChange dosPutsWrong)

/-- 'inquestlaw08.DosGets': WHATEVER THE INPUT: true; the input reads as it did. -/
def dosGetsSpec : ChangeSpec := { name := "dosGets", fn := fun _ => fun
  | [d] => { results := [.lit (.bool true)], args := [d] }
  | _ => none }
def dosGetsRow : OpenClaim := { program := "ytgmpdkkpmgedjaa", sum := "e19f097d26765c91ba757c2f5f1458df40eeec1869c865295dcfc24e627de56d", func := "inquest/inquestlaw08.DosGets", spec := "dosGets", apart := false }
def DosGetsSaid : Prop := dosGetsRow.holds Try.pinned (OpenSpec.ofChange dosGetsSpec)

/-- ITS FALSE NEIGHBOUR: 'it returns false'. Refute it at one input. -/
def dosGetsWrong : ChangeSpec := { name := "dosGets", fn := fun _ => fun
  | [d] => { results := [.lit (.bool false)], args := [d] }
  | _ => none }
def DosGetsWrongFalsely : Prop := dosGetsRow.holds Try.pinned (OpenSpec.ofChange dosGetsWrong)

/-- 'inquestlaw08.DosParses': WHATEVER THE INPUT: true; the input reads as it did. -/
def dosParsesSpec : ChangeSpec := { name := "dosParses", fn := fun _ => fun
  | [d] => { results := [.lit (.bool true)], args := [d] }
  | _ => none }
def dosParsesRow : OpenClaim := { program := "ytgmpdkkpmgedjaa", sum := "e19f097d26765c91ba757c2f5f1458df40eeec1869c865295dcfc24e627de56d", func := "inquest/inquestlaw08.DosParses", spec := "dosParses", apart := false }
def DosParsesSaid : Prop := dosParsesRow.holds Try.pinned (OpenSpec.ofChange dosParsesSpec)

/-- ITS FALSE NEIGHBOUR: 'it returns false'. Refute it at one input. -/
def dosParsesWrong : ChangeSpec := { name := "dosParses", fn := fun _ => fun
  | [d] => { results := [.lit (.bool false)], args := [d] }
  | _ => none }
def DosParsesWrongFalsely : Prop := dosParsesRow.holds Try.pinned (OpenSpec.ofChange dosParsesWrong)

/-- 'inquestlaw08.DosOrder': WHATEVER THE INPUT: true; the input reads as it did. -/
def dosOrderSpec : ChangeSpec := { name := "dosOrder", fn := fun _ => fun
  | [d1, d2] => { results := [.lit (.bool true)], args := [d1, d2] }
  | _ => none }
def dosOrderRow : OpenClaim := { program := "ytgmpdkkpmgedjaa", sum := "e19f097d26765c91ba757c2f5f1458df40eeec1869c865295dcfc24e627de56d", func := "inquest/inquestlaw08.DosOrder", spec := "dosOrder", apart := false }
def DosOrderSaid : Prop := dosOrderRow.holds Try.pinned (OpenSpec.ofChange dosOrderSpec)

/-- ITS FALSE NEIGHBOUR: 'it returns false'. Refute it at one input. -/
def dosOrderWrong : ChangeSpec := { name := "dosOrder", fn := fun _ => fun
  | [d1, d2] => { results := [.lit (.bool false)], args := [d1, d2] }
  | _ => none }
def DosOrderWrongFalsely : Prop := dosOrderRow.holds Try.pinned (OpenSpec.ofChange dosOrderWrong)

/-- 'inquestlaw08.DosTexts': WHATEVER THE INPUT: true; the input reads as it did. -/
def dosTextsSpec : ChangeSpec := { name := "dosTexts", fn := fun _ => fun
  | [d1, d2] => { results := [.lit (.bool true)], args := [d1, d2] }
  | _ => none }
def dosTextsRow : OpenClaim := { program := "ytgmpdkkpmgedjaa", sum := "e19f097d26765c91ba757c2f5f1458df40eeec1869c865295dcfc24e627de56d", func := "inquest/inquestlaw08.DosTexts", spec := "dosTexts", apart := false }
def DosTextsSaid : Prop := dosTextsRow.holds Try.pinned (OpenSpec.ofChange dosTextsSpec)

/-- ITS FALSE NEIGHBOUR: 'it returns false'. Refute it at one input. -/
def dosTextsWrong : ChangeSpec := { name := "dosTexts", fn := fun _ => fun
  | [d1, d2] => { results := [.lit (.bool false)], args := [d1, d2] }
  | _ => none }
def DosTextsWrongFalsely : Prop := dosTextsRow.holds Try.pinned (OpenSpec.ofChange dosTextsWrong)

/- THE SECOND FORM. 'bulk': how many values and letters a reading holds, each counted each time it is reached (what is shared counts as often as it is met; a slice's spare places count too). A statement '..UptoSaid' is the law's where the arguments, and the package variables that the reading takes, are together of bulk at most 1048576: NARROWER than '..Said'. Prove '..Said' where nothing that the law and all that it calls make is longer than what came in: it says more and counts as full. Else prove '..UptoSaid'. A law counts once. -/
mutual
def uptoBulk {H : Type} : DataW H → Nat
  | .lit (.string bytes) => bytes.length + 1
  | .lit _ => 1
  | .nil => 1
  | .ptr d => uptoBulk d + 1
  | .slice elems spare => uptoBulkAll elems + uptoBulkAll spare + 1
  | .agg parts => uptoBulkAll parts + 1
  | .iface _ d => uptoBulk d + 1
  | .map entries => uptoBulkEntries entries + 1
  | .held _ => 1
def uptoBulkAll {H : Type} : List (DataW H) → Nat
  | [] => 0
  | d :: r => uptoBulk d + uptoBulkAll r
def uptoBulkEntries {H : Type} : List (Lit × DataW H) → Nat
  | [] => 0
  | x :: r => uptoBulkEntry x + uptoBulkEntries r
def uptoBulkEntry {H : Type} : Lit × DataW H → Nat
  | (.string bytes, d) => bytes.length + uptoBulk d + 1
  | (_, d) => uptoBulk d + 1
 end
def uptoSmall : (H : Type) → List (DataW H) → Bool := fun _ ds => decide (uptoBulkAll ds ≤ 1048576)
def OpenSpec.upto (s : _root_.Go.ChangeSpec) : _root_.Go.OpenSpec := { _root_.Go.OpenSpec.ofChange s with cond := some uptoSmall }

/-- 'inquestlaw08.DosPuts', WHERE WHAT IT READS IS OF BULK AT MOST 1048576: true; the input reads as it did. -/
def dosPutsUptoRow : OpenClaim := { program := "ytgmpdkkpmgedjaa", sum := "e19f097d26765c91ba757c2f5f1458df40eeec1869c865295dcfc24e627de56d", func := "inquest/inquestlaw08.DosPuts", spec := "dosPuts", apart := false, narrowed := true }
def DosPutsUptoSaid : Prop := dosPutsUptoRow.holds Try.pinned (OpenSpec.upto dosPutsSpec)

/-- 'inquestlaw08.DosGets', WHERE WHAT IT READS IS OF BULK AT MOST 1048576: true; the input reads as it did. -/
def dosGetsUptoRow : OpenClaim := { program := "ytgmpdkkpmgedjaa", sum := "e19f097d26765c91ba757c2f5f1458df40eeec1869c865295dcfc24e627de56d", func := "inquest/inquestlaw08.DosGets", spec := "dosGets", apart := false, narrowed := true }
def DosGetsUptoSaid : Prop := dosGetsUptoRow.holds Try.pinned (OpenSpec.upto dosGetsSpec)

/-- 'inquestlaw08.DosParses', WHERE WHAT IT READS IS OF BULK AT MOST 1048576: true; the input reads as it did. -/
def dosParsesUptoRow : OpenClaim := { program := "ytgmpdkkpmgedjaa", sum := "e19f097d26765c91ba757c2f5f1458df40eeec1869c865295dcfc24e627de56d", func := "inquest/inquestlaw08.DosParses", spec := "dosParses", apart := false, narrowed := true }
def DosParsesUptoSaid : Prop := dosParsesUptoRow.holds Try.pinned (OpenSpec.upto dosParsesSpec)

/-- 'inquestlaw08.DosOrder', WHERE WHAT IT READS IS OF BULK AT MOST 1048576: true; the input reads as it did. -/
def dosOrderUptoRow : OpenClaim := { program := "ytgmpdkkpmgedjaa", sum := "e19f097d26765c91ba757c2f5f1458df40eeec1869c865295dcfc24e627de56d", func := "inquest/inquestlaw08.DosOrder", spec := "dosOrder", apart := false, narrowed := true }
def DosOrderUptoSaid : Prop := dosOrderUptoRow.holds Try.pinned (OpenSpec.upto dosOrderSpec)

/-- 'inquestlaw08.DosTexts', WHERE WHAT IT READS IS OF BULK AT MOST 1048576: true; the input reads as it did. -/
def dosTextsUptoRow : OpenClaim := { program := "ytgmpdkkpmgedjaa", sum := "e19f097d26765c91ba757c2f5f1458df40eeec1869c865295dcfc24e627de56d", func := "inquest/inquestlaw08.DosTexts", spec := "dosTexts", apart := false, narrowed := true }
def DosTextsUptoSaid : Prop := dosTextsUptoRow.holds Try.pinned (OpenSpec.upto dosTextsSpec)

end Rows
end Go.Proofs.Ytgmpdkkpmgedjaa
