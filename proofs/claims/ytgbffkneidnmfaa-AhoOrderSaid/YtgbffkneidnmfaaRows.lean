/-
  No cell of these rows narrows 'for every input' (looked for: loops, veiled, ifaces, maps, wideKeys, modest, calm, conditions, laid).
  DERIVED. THE GIVEN ROWS OF THIS SEAT. 5 by the template 'for every input the law returns true; each argument reads behind the call as it read before'; 0 by the template 'total and deterministic' (their statements: YtgbffkneidnmfaaTotals.lean).
  GIVEN WITH THE SEED: the statements are not yours to turn. If you find one false, say at which input.
  Laid BY PROGRAM, IN A SANDBOX (cutbox-rows.mjs): the forced cells as the released guide's own fill.sh prints them over the translation 4f2b16c6dd3ad982… (all of the seat's roots in one cut). By AI agents, Wed Nov 11 2026. No macro, syntax, notation, axiom, sorry.
-/
import Derived.Test.YtgbffkneidnmfaaChecked
import GoSem.Claim
import GoSem.ClaimJoined
import GoSem.ClaimMapViews
import Derived.JoinedTies
import Derived.KernelRfl
namespace Go.Proofs.Ytgbffkneidnmfaa
/- THE CELL 'sum', in the pinned program and in every row, IS THE sha256 OF THE DUMP (.gsa) THAT YtgbffkneidnmfaaProg.lean LOADS. Nothing in Lean hashes anything: it is a label: what it is worth is what the hold of that sum in a sandbox is worth. -/
noncomputable def Try.pinned : Pinned := { name := "ytgbffkneidnmfaa", sum := "4f2b16c6dd3ad9826dae2026f11d0a8a4e3ee260be897963278711cbfcde2973", checked := Try.checked }
namespace Rows
def none {H : Type} : Left H := { results := [], args := [] }

/-- 'inquestlaw14.AhoFinds': WHATEVER THE INPUT: true; the input reads as it did. -/
def ahoFindsSpec : ChangeSpec := { name := "ahoFinds", fn := fun _ => fun
  | [d1, d2] => { results := [.lit (.bool true)], args := [d1, d2] }
  | _ => none }
def ahoFindsRow : OpenClaim := { program := "ytgbffkneidnmfaa", sum := "4f2b16c6dd3ad9826dae2026f11d0a8a4e3ee260be897963278711cbfcde2973", func := "inquest/inquestlaw14.AhoFinds", spec := "ahoFinds", unfollowed := true, recurses := true, apart := false }
def AhoFindsSaid : Prop := ahoFindsRow.holds Try.pinned (OpenSpec.ofChange ahoFindsSpec)

/-- ITS FALSE NEIGHBOUR: 'it returns false'. Refute it at one input. -/
def ahoFindsWrong : ChangeSpec := { name := "ahoFinds", fn := fun _ => fun
  | [d1, d2] => { results := [.lit (.bool false)], args := [d1, d2] }
  | _ => none }
def AhoFindsWrongFalsely : Prop := ahoFindsRow.holds Try.pinned (OpenSpec.ofChange ahoFindsWrong)

/-- 'inquestlaw14.AhoApart': WHATEVER THE INPUT: true; the input reads as it did. -/
def ahoApartSpec : ChangeSpec := { name := "ahoApart", fn := fun _ => fun
  | [d1, d2, d3] => { results := [.lit (.bool true)], args := [d1, d2, d3] }
  | _ => none }
def ahoApartRow : OpenClaim := { program := "ytgbffkneidnmfaa", sum := "4f2b16c6dd3ad9826dae2026f11d0a8a4e3ee260be897963278711cbfcde2973", func := "inquest/inquestlaw14.AhoApart", spec := "ahoApart", unfollowed := true, recurses := true, apart := false }
def AhoApartSaid : Prop := ahoApartRow.holds Try.pinned (OpenSpec.ofChange ahoApartSpec)

/-- ITS FALSE NEIGHBOUR: 'it returns false'. Refute it at one input. -/
def ahoApartWrong : ChangeSpec := { name := "ahoApart", fn := fun _ => fun
  | [d1, d2, d3] => { results := [.lit (.bool false)], args := [d1, d2, d3] }
  | _ => none }
def AhoApartWrongFalsely : Prop := ahoApartRow.holds Try.pinned (OpenSpec.ofChange ahoApartWrong)

/-- 'inquestlaw14.AhoNil': WHATEVER THE INPUT: true; the input reads as it did. -/
def ahoNilSpec : ChangeSpec := { name := "ahoNil", fn := fun _ => fun
  | [d] => { results := [.lit (.bool true)], args := [d] }
  | _ => none }
def ahoNilRow : OpenClaim := { program := "ytgbffkneidnmfaa", sum := "4f2b16c6dd3ad9826dae2026f11d0a8a4e3ee260be897963278711cbfcde2973", func := "inquest/inquestlaw14.AhoNil", spec := "ahoNil", unfollowed := true, recurses := true, apart := false }
def AhoNilSaid : Prop := ahoNilRow.holds Try.pinned (OpenSpec.ofChange ahoNilSpec)

/-- ITS FALSE NEIGHBOUR: 'it returns false'. Refute it at one input. -/
def ahoNilWrong : ChangeSpec := { name := "ahoNil", fn := fun _ => fun
  | [d] => { results := [.lit (.bool false)], args := [d] }
  | _ => none }
def AhoNilWrongFalsely : Prop := ahoNilRow.holds Try.pinned (OpenSpec.ofChange ahoNilWrong)

/-- 'inquestlaw14.AhoOrder': WHATEVER THE INPUT: true; the input reads as it did. -/
def ahoOrderSpec : ChangeSpec := { name := "ahoOrder", fn := fun _ => fun
  | [d1, d2, d3] => { results := [.lit (.bool true)], args := [d1, d2, d3] }
  | _ => none }
def ahoOrderRow : OpenClaim := { program := "ytgbffkneidnmfaa", sum := "4f2b16c6dd3ad9826dae2026f11d0a8a4e3ee260be897963278711cbfcde2973", func := "inquest/inquestlaw14.AhoOrder", spec := "ahoOrder", unfollowed := true, recurses := true, apart := false }
def AhoOrderSaid : Prop := ahoOrderRow.holds Try.pinned (OpenSpec.ofChange ahoOrderSpec)

/-- ITS FALSE NEIGHBOUR: 'it returns false'. Refute it at one input. -/
def ahoOrderWrong : ChangeSpec := { name := "ahoOrder", fn := fun _ => fun
  | [d1, d2, d3] => { results := [.lit (.bool false)], args := [d1, d2, d3] }
  | _ => none }
def AhoOrderWrongFalsely : Prop := ahoOrderRow.holds Try.pinned (OpenSpec.ofChange ahoOrderWrong)

/-- 'inquestlaw14.AhoSame': WHATEVER THE INPUT: true; the input reads as it did. -/
def ahoSameSpec : ChangeSpec := { name := "ahoSame", fn := fun _ => fun
  | [d1, d2, d3] => { results := [.lit (.bool true)], args := [d1, d2, d3] }
  | _ => none }
def ahoSameRow : OpenClaim := { program := "ytgbffkneidnmfaa", sum := "4f2b16c6dd3ad9826dae2026f11d0a8a4e3ee260be897963278711cbfcde2973", func := "inquest/inquestlaw14.AhoSame", spec := "ahoSame", unfollowed := true, recurses := true, apart := false }
def AhoSameSaid : Prop := ahoSameRow.holds Try.pinned (OpenSpec.ofChange ahoSameSpec)

/-- ITS FALSE NEIGHBOUR: 'it returns false'. Refute it at one input. -/
def ahoSameWrong : ChangeSpec := { name := "ahoSame", fn := fun _ => fun
  | [d1, d2, d3] => { results := [.lit (.bool false)], args := [d1, d2, d3] }
  | _ => none }
def AhoSameWrongFalsely : Prop := ahoSameRow.holds Try.pinned (OpenSpec.ofChange ahoSameWrong)

/- THE SECOND FORM. 'bulk': how many values and letters a reading holds, each counted each time it is reached (what is shared counts as often as it is met; a slice's spare places count too). A statement '..UptoSaid' is the law's where the arguments, and the package variables that the reading takes, are together of bulk at most 1048576: NARROWER than '..Said'. Prove '..Said' where nothing that the law and all that it calls make is longer than what came in: it says more and counts as full. Else prove '..UptoSaid'. A law counts once. -/
mutual
def uptoBulk {H : Type} : DataW H → Nat
  | .lit (.string bytes) => bytes.length + 1
  | .lit _ => 1
  | .nil => 1
  | .ptr d => uptoBulk d + 1
  | .slice elems spare => uptoBulkAll elems + uptoBulkAll spare + 1
  | .agg parts => uptoBulkAll parts + 1
  | .iface _ d => uptoBulk d + 1
  | .map entries => uptoBulkEntries entries + 1
  | .held _ => 1
def uptoBulkAll {H : Type} : List (DataW H) → Nat
  | [] => 0
  | d :: r => uptoBulk d + uptoBulkAll r
def uptoBulkEntries {H : Type} : List (Lit × DataW H) → Nat
  | [] => 0
  | x :: r => uptoBulkEntry x + uptoBulkEntries r
def uptoBulkEntry {H : Type} : Lit × DataW H → Nat
  | (.string bytes, d) => bytes.length + uptoBulk d + 1
  | (_, d) => uptoBulk d + 1
 end
def uptoSmall : (H : Type) → List (DataW H) → Bool := fun _ ds => decide (uptoBulkAll ds ≤ 1048576)
def OpenSpec.upto (s : _root_.Go.ChangeSpec) : _root_.Go.OpenSpec := { _root_.Go.OpenSpec.ofChange s with cond := some uptoSmall }

/-- 'inquestlaw14.AhoFinds', WHERE WHAT IT READS IS OF BULK AT MOST 1048576: true; the input reads as it did. -/
def ahoFindsUptoRow : OpenClaim := { program := "ytgbffkneidnmfaa", sum := "4f2b16c6dd3ad9826dae2026f11d0a8a4e3ee260be897963278711cbfcde2973", func := "inquest/inquestlaw14.AhoFinds", spec := "ahoFinds", unfollowed := true, recurses := true, apart := false, narrowed := true }
def AhoFindsUptoSaid : Prop := ahoFindsUptoRow.holds Try.pinned (OpenSpec.upto ahoFindsSpec)

/-- 'inquestlaw14.AhoApart', WHERE WHAT IT READS IS OF BULK AT MOST 1048576: true; the input reads as it did. -/
def ahoApartUptoRow : OpenClaim := { program := "ytgbffkneidnmfaa", sum := "4f2b16c6dd3ad9826dae2026f11d0a8a4e3ee260be897963278711cbfcde2973", func := "inquest/inquestlaw14.AhoApart", spec := "ahoApart", unfollowed := true, recurses := true, apart := false, narrowed := true }
def AhoApartUptoSaid : Prop := ahoApartUptoRow.holds Try.pinned (OpenSpec.upto ahoApartSpec)

/-- 'inquestlaw14.AhoNil', WHERE WHAT IT READS IS OF BULK AT MOST 1048576: true; the input reads as it did. -/
def ahoNilUptoRow : OpenClaim := { program := "ytgbffkneidnmfaa", sum := "4f2b16c6dd3ad9826dae2026f11d0a8a4e3ee260be897963278711cbfcde2973", func := "inquest/inquestlaw14.AhoNil", spec := "ahoNil", unfollowed := true, recurses := true, apart := false, narrowed := true }
def AhoNilUptoSaid : Prop := ahoNilUptoRow.holds Try.pinned (OpenSpec.upto ahoNilSpec)

/-- 'inquestlaw14.AhoOrder', WHERE WHAT IT READS IS OF BULK AT MOST 1048576: true; the input reads as it did. -/
def ahoOrderUptoRow : OpenClaim := { program := "ytgbffkneidnmfaa", sum := "4f2b16c6dd3ad9826dae2026f11d0a8a4e3ee260be897963278711cbfcde2973", func := "inquest/inquestlaw14.AhoOrder", spec := "ahoOrder", unfollowed := true, recurses := true, apart := false, narrowed := true }
def AhoOrderUptoSaid : Prop := ahoOrderUptoRow.holds Try.pinned (OpenSpec.upto ahoOrderSpec)

/-- 'inquestlaw14.AhoSame', WHERE WHAT IT READS IS OF BULK AT MOST 1048576: true; the input reads as it did. -/
def ahoSameUptoRow : OpenClaim := { program := "ytgbffkneidnmfaa", sum := "4f2b16c6dd3ad9826dae2026f11d0a8a4e3ee260be897963278711cbfcde2973", func := "inquest/inquestlaw14.AhoSame", spec := "ahoSame", unfollowed := true, recurses := true, apart := false, narrowed := true }
def AhoSameUptoSaid : Prop := ahoSameUptoRow.holds Try.pinned (OpenSpec.upto ahoSameSpec)

end Rows
end Go.Proofs.Ytgbffkneidnmfaa
