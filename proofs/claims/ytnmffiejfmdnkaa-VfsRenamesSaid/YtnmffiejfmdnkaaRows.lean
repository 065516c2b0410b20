/-
  No cell of these rows narrows 'for every input' (looked for: loops, veiled, ifaces, maps, wideKeys, modest, calm, conditions, laid).
  DERIVED. THE GIVEN ROWS OF THIS SEAT. 6 by the template 'for every input the law returns true; each argument reads behind the call as it read before'; 0 by the template 'total and deterministic' (their statements: YtnmffiejfmdnkaaTotals.lean).
  GIVEN WITH THE SEED: the statements are not yours to turn. If you find one false, say at which input.
  Laid BY PROGRAM, IN A SANDBOX (cutbox-rows.mjs): the forced cells as the released guide's own fill.sh prints them over the translation 9ebe160fc4e1ed0b… (all of the seat's roots in one cut). By AI agents, Wed Nov 11 2026. No macro, syntax, notation, axiom, sorry.
-/
import Derived.Test.YtnmffiejfmdnkaaChecked
import GoSem.Claim
import GoSem.ClaimJoined
import GoSem.ClaimMapViews
import Derived.JoinedTies
import Derived.KernelRfl
namespace Go.Proofs.Ytnmffiejfmdnkaa
/- THE CELL 'sum', in the pinned program and in every row, IS THE sha256 OF THE DUMP (.gsa) THAT YtnmffiejfmdnkaaProg.lean LOADS. Nothing in Lean hashes anything: it is a label: what it is worth is what the hold of that sum in a sandbox is worth. -/
noncomputable def Try.pinned : Pinned := { name := "ytnmffiejfmdnkaa", sum := "9ebe160fc4e1ed0b83fb9ae0f48835a0bcceac98dbb2e11eaf6a18e77b2c3e2d", checked := Try.checked }
namespace Rows
def none {H : Type} : Left H := { results := [], args := [] }

/-- 'inquestlaw03.VfsActs': WHATEVER THE INPUT: true; the input reads as it did. -/
def vfsActsSpec : ChangeSpec := { name := "vfsActs", fn := fun _ => fun
  | [d1, d2] => { results := [.lit (.bool true)], args := [d1, d2] }
  | _ => none }
def vfsActsRow : OpenClaim := { program := "ytnmffiejfmdnkaa", sum := "9ebe160fc4e1ed0b83fb9ae0f48835a0bcceac98dbb2e11eaf6a18e77b2c3e2d", func := "inquest/inquestlaw03.VfsActs", spec := "vfsActs", recurses := true, apart := false }
def VfsActsSaid : Prop := vfsActsRow.holds Try.pinned (OpenSpec.ofChange vfsActsSpec)

/-- ITS FALSE NEIGHBOUR: 'it returns false'. Refute it at one input. -/
def vfsActsWrong : ChangeSpec := { name := "vfsActs", fn := fun _ => fun
  | [d1, d2] => { results := [.lit (.bool false)], args := [d1, d2] }
  | _ => none }
def VfsActsWrongFalsely : Prop := vfsActsRow.holds Try.pinned (OpenSpec.ofChange vfsActsWrong)

/-- 'inquestlaw03.VfsReads': WHATEVER THE INPUT: true; the input reads as it did. -/
def vfsReadsSpec : ChangeSpec := { name := "vfsReads", fn := fun _ => fun
  | [d1, d2, d3] => { results := [.lit (.bool true)], args := [d1, d2, d3] }
  | _ => none }
def vfsReadsRow : OpenClaim := { program := "ytnmffiejfmdnkaa", sum := "9ebe160fc4e1ed0b83fb9ae0f48835a0bcceac98dbb2e11eaf6a18e77b2c3e2d", func := "inquest/inquestlaw03.VfsReads", spec := "vfsReads", recurses := true, apart := false }
def VfsReadsSaid : Prop := vfsReadsRow.holds Try.pinned (OpenSpec.ofChange vfsReadsSpec)

/-- ITS FALSE NEIGHBOUR: 'it returns false'. Refute it at one input. -/
def vfsReadsWrong : ChangeSpec := { name := "vfsReads", fn := fun _ => fun
  | [d1, d2, d3] => { results := [.lit (.bool false)], args := [d1, d2, d3] }
  | _ => none }
def VfsReadsWrongFalsely : Prop := vfsReadsRow.holds Try.pinned (OpenSpec.ofChange vfsReadsWrong)

/-- 'inquestlaw03.VfsNil': WHATEVER THE INPUT: true; the input reads as it did. -/
def vfsNilSpec : ChangeSpec := { name := "vfsNil", fn := fun _ => fun
  | [d1, d2] => { results := [.lit (.bool true)], args := [d1, d2] }
  | _ => none }
def vfsNilRow : OpenClaim := { program := "ytnmffiejfmdnkaa", sum := "9ebe160fc4e1ed0b83fb9ae0f48835a0bcceac98dbb2e11eaf6a18e77b2c3e2d", func := "inquest/inquestlaw03.VfsNil", spec := "vfsNil", recurses := true, apart := false }
def VfsNilSaid : Prop := vfsNilRow.holds Try.pinned (OpenSpec.ofChange vfsNilSpec)

/-- ITS FALSE NEIGHBOUR: 'it returns false'. Refute it at one input. -/
def vfsNilWrong : ChangeSpec := { name := "vfsNil", fn := fun _ => fun
  | [d1, d2] => { results := [.lit (.bool false)], args := [d1, d2] }
  | _ => none }
def VfsNilWrongFalsely : Prop := vfsNilRow.holds Try.pinned (OpenSpec.ofChange vfsNilWrong)

/-- 'inquestlaw03.VfsRenames': WHATEVER THE INPUT: true; the input reads as it did. -/
def vfsRenamesSpec : ChangeSpec := { name := "vfsRenames", fn := fun _ => fun
  | [d1, d2] => { results := [.lit (.bool true)], args := [d1, d2] }
  | _ => none }
def vfsRenamesRow : OpenClaim := { program := "ytnmffiejfmdnkaa", sum := "9ebe160fc4e1ed0b83fb9ae0f48835a0bcceac98dbb2e11eaf6a18e77b2c3e2d", func := "inquest/inquestlaw03.VfsRenames", spec := "vfsRenames", recurses := true, apart := false }
def VfsRenamesSaid : Prop := vfsRenamesRow.holds Try.pinned (OpenSpec.ofChange vfsRenamesSpec)

/-- ITS FALSE NEIGHBOUR: 'it returns false'. Refute it at one input. -/
def vfsRenamesWrong : ChangeSpec := { name := "vfsRenames", fn := fun _ => fun
  | [d1, d2] => { results := [.lit (.bool false)], args := [d1, d2] }
  | _ => none }
def VfsRenamesWrongFalsely : Prop := vfsRenamesRow.holds Try.pinned (OpenSpec.ofChange vfsRenamesWrong)

/-- 'inquestlaw03.VfsRoom': WHATEVER THE INPUT: true; the input reads as it did. -/
def vfsRoomSpec : ChangeSpec := { name := "vfsRoom", fn := fun _ => fun
  | [d1, d2] => { results := [.lit (.bool true)], args := [d1, d2] }
  | _ => none }
def vfsRoomRow : OpenClaim := { program := "ytnmffiejfmdnkaa", sum := "9ebe160fc4e1ed0b83fb9ae0f48835a0bcceac98dbb2e11eaf6a18e77b2c3e2d", func := "inquest/inquestlaw03.VfsRoom", spec := "vfsRoom", recurses := true, apart := false }
def VfsRoomSaid : Prop := vfsRoomRow.holds Try.pinned (OpenSpec.ofChange vfsRoomSpec)

/-- ITS FALSE NEIGHBOUR: 'it returns false'. Refute it at one input. -/
def vfsRoomWrong : ChangeSpec := { name := "vfsRoom", fn := fun _ => fun
  | [d1, d2] => { results := [.lit (.bool false)], args := [d1, d2] }
  | _ => none }
def VfsRoomWrongFalsely : Prop := vfsRoomRow.holds Try.pinned (OpenSpec.ofChange vfsRoomWrong)

/-- 'inquestlaw03.VfsSyncs': WHATEVER THE INPUT: true; the input reads as it did. -/
def vfsSyncsSpec : ChangeSpec := { name := "vfsSyncs", fn := fun _ => fun
  | [d1, d2, d3] => { results := [.lit (.bool true)], args := [d1, d2, d3] }
  | _ => none }
def vfsSyncsRow : OpenClaim := { program := "ytnmffiejfmdnkaa", sum := "9ebe160fc4e1ed0b83fb9ae0f48835a0bcceac98dbb2e11eaf6a18e77b2c3e2d", func := "inquest/inquestlaw03.VfsSyncs", spec := "vfsSyncs", recurses := true, apart := false }
def VfsSyncsSaid : Prop := vfsSyncsRow.holds Try.pinned (OpenSpec.ofChange vfsSyncsSpec)

/-- ITS FALSE NEIGHBOUR: 'it returns false'. Refute it at one input. -/
def vfsSyncsWrong : ChangeSpec := { name := "vfsSyncs", fn := fun _ => fun
  | [d1, d2, d3] => { results := [.lit (.bool false)], args := [d1, d2, d3] }
  | _ => none }
def VfsSyncsWrongFalsely : Prop := vfsSyncsRow.holds Try.pinned (OpenSpec.ofChange vfsSyncsWrong)

/- THE SECOND FORM. 'bulk': how many values and letters a reading holds, each counted each time it is reached (what is shared counts as often as it is met; a slice's spare places count too). A statement '..UptoSaid' is the law's where the arguments, and the package variables that the reading takes, are together of bulk at most 1048576: NARROWER than '..Said'. Prove '..Said' where nothing that the law and all that it calls make is longer than what came in: it says more and counts as full. Else prove '..UptoSaid'. A law counts once. -/
mutual
def uptoBulk {H : Type} : DataW H → Nat
  | .lit (.string bytes) => bytes.length + 1
  | .lit _ => 1
  | .nil => 1
  | .ptr d => uptoBulk d + 1
  | .slice elems spare => uptoBulkAll elems + uptoBulkAll spare + 1
  | .agg parts => uptoBulkAll parts + 1
  | .iface _ d => uptoBulk d + 1
  | .map entries => uptoBulkEntries entries + 1
  | .held _ => 1
def uptoBulkAll {H : Type} : List (DataW H) → Nat
  | [] => 0
  | d :: r => uptoBulk d + uptoBulkAll r
def uptoBulkEntries {H : Type} : List (Lit × DataW H) → Nat
  | [] => 0
  | x :: r => uptoBulkEntry x + uptoBulkEntries r
def uptoBulkEntry {H : Type} : Lit × DataW H → Nat
  | (.string bytes, d) => bytes.length + uptoBulk d + 1
  | (_, d) => uptoBulk d + 1
 end
def uptoSmall : (H : Type) → List (DataW H) → Bool := fun _ ds => decide (uptoBulkAll ds ≤ 1048576)
def OpenSpec.upto (s : _root_.Go.ChangeSpec) : _root_.Go.OpenSpec := { _root_.Go.OpenSpec.ofChange s with cond := some uptoSmall }

/-- 'inquestlaw03.VfsActs', WHERE WHAT IT READS IS OF BULK AT MOST 1048576: true; the input reads as it did. -/
def vfsActsUptoRow : OpenClaim := { program := "ytnmffiejfmdnkaa", sum := "9ebe160fc4e1ed0b83fb9ae0f48835a0bcceac98dbb2e11eaf6a18e77b2c3e2d", func := "inquest/inquestlaw03.VfsActs", spec := "vfsActs", recurses := true, apart := false, narrowed := true }
def VfsActsUptoSaid : Prop := vfsActsUptoRow.holds Try.pinned (OpenSpec.upto vfsActsSpec)

/-- 'inquestlaw03.VfsReads', WHERE WHAT IT READS IS OF BULK AT MOST 1048576: true; the input reads as it did. -/
def vfsReadsUptoRow : OpenClaim := { program := "ytnmffiejfmdnkaa", sum := "9ebe160fc4e1ed0b83fb9ae0f48835a0bcceac98dbb2e11eaf6a18e77b2c3e2d", func := "inquest/inquestlaw03.VfsReads", spec := "vfsReads", recurses := true, apart := false, narrowed := true }
def VfsReadsUptoSaid : Prop := vfsReadsUptoRow.holds Try.pinned (OpenSpec.upto vfsReadsSpec)

/-- 'inquestlaw03.VfsNil', WHERE WHAT IT READS IS OF BULK AT MOST 1048576: true; the input reads as it did. -/
def vfsNilUptoRow : OpenClaim := { program := "ytnmffiejfmdnkaa", sum := "9ebe160fc4e1ed0b83fb9ae0f48835a0bcceac98dbb2e11eaf6a18e77b2c3e2d", func := "inquest/inquestlaw03.VfsNil", spec := "vfsNil", recurses := true, apart := false, narrowed := true }
def VfsNilUptoSaid : Prop := vfsNilUptoRow.holds Try.pinned (OpenSpec.upto vfsNilSpec)

/-- 'inquestlaw03.VfsRenames', WHERE WHAT IT READS IS OF BULK AT MOST 1048576: true; the input reads as it did. -/
def vfsRenamesUptoRow : OpenClaim := { program := "ytnmffiejfmdnkaa", sum := "9ebe160fc4e1ed0b83fb9ae0f48835a0bcceac98dbb2e11eaf6a18e77b2c3e2d", func := "inquest/inquestlaw03.VfsRenames", spec := "vfsRenames", recurses := true, apart := false, narrowed := true }
def VfsRenamesUptoSaid : Prop := vfsRenamesUptoRow.holds Try.pinned (OpenSpec.upto vfsRenamesSpec)

/-- 'inquestlaw03.VfsRoom', WHERE WHAT IT READS IS OF BULK AT MOST 1048576: true; the input reads as it did. -/
def vfsRoomUptoRow : OpenClaim := { program := "ytnmffiejfmdnkaa", sum := "9ebe160fc4e1ed0b83fb9ae0f48835a0bcceac98dbb2e11eaf6a18e77b2c3e2d", func := "inquest/inquestlaw03.VfsRoom", spec := "vfsRoom", recurses := true, apart := false, narrowed := true }
def VfsRoomUptoSaid : Prop := vfsRoomUptoRow.holds Try.pinned (OpenSpec.upto vfsRoomSpec)

/-- 'inquestlaw03.VfsSyncs', WHERE WHAT IT READS IS OF BULK AT MOST 1048576: true; the input reads as it did. -/
def vfsSyncsUptoRow : OpenClaim := { program := "ytnmffiejfmdnkaa", sum := "9ebe160fc4e1ed0b83fb9ae0f48835a0bcceac98dbb2e11eaf6a18e77b2c3e2d", func := "inquest/inquestlaw03.VfsSyncs", spec := "vfsSyncs", recurses := true, apart := false, narrowed := true }
def VfsSyncsUptoSaid : Prop := vfsSyncsUptoRow.holds Try.pinned (OpenSpec.upto vfsSyncsSpec)

end Rows
end Go.Proofs.Ytnmffiejfmdnkaa
