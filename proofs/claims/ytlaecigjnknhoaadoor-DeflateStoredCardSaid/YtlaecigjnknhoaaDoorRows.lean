/-
  NARROWER THAN 'FOR EVERY INPUT', by the rows' own cells (each row's printed sentence says how): InflateEnds: laid · InflateNil: laid · InflateStored: laid · InflateLong: laid · DeflateStored: laid · DeflateSizes: laid.
  DERIVED. THE GIVEN ROWS OF THIS SEAT. 6 by the template 'for every input the law returns true; each argument reads behind the call as it read before'; 0 by the template 'total and deterministic' (their statements: YtlaecigjnknhoaaDoorTotals.lean).
  GIVEN WITH THE SEED: the statements are not yours to turn. If you find one false, say at which input.
  Laid BY PROGRAM, IN A SANDBOX (cutbox-rows.mjs): the forced cells as the released guide's own fill.sh prints them over the translation 3668fcc029a341f6… (all of the seat's roots in one cut). By AI agents, Wed Nov 11 2026. No macro, syntax, notation, axiom, sorry.
-/
import Derived.Test.YtlaecigjnknhoaaDoorChecked
import GoSem.Claim
import GoSem.ClaimJoined
import GoSem.ClaimMapViews
import Derived.JoinedTies
import Derived.KernelRfl
namespace Go.Proofs.YtlaecigjnknhoaaDoor
/- THE CELL 'sum', in the pinned program and in every row, IS THE sha256 OF THE DUMP (.gsa) THAT YtlaecigjnknhoaaDoorProg.lean LOADS. Nothing in Lean hashes anything: it is a label: what it is worth is what the hold of that sum in a sandbox is worth. -/
noncomputable def Tryd.pinned : Pinned := { name := "ytlaecigjnknhoaadoor", sum := "3668fcc029a341f6d606a92684be05f91256d1a1672fac81d1307e90d645ae97", checked := Tryd.checked }
namespace Rows
def none {H : Type} : Left H := { results := [], args := [] }

/- WHAT THE LISTED PACKAGE-LEVEL VARIABLES READ AS WHEN THE CALL BEGINS. Each datum BY PROGRAM (the guide's laid-datum.mjs) off the statement by which the dump's own 'gosem.cut.vars' lays the variable. In a bare row this is a premise. The card (YtlaecigjnknhoaaDoorCards.lean) ties it to the program's text. -/
def laid_inquest_inflate_order {H : Type} : DataW H := .agg [.lit (.int .i64 16), .lit (.int .i64 17), .lit (.int .i64 18), .lit (.int .i64 0), .lit (.int .i64 8), .lit (.int .i64 7), .lit (.int .i64 9), .lit (.int .i64 6), .lit (.int .i64 10), .lit (.int .i64 5), .lit (.int .i64 11), .lit (.int .i64 4), .lit (.int .i64 12), .lit (.int .i64 3), .lit (.int .i64 13), .lit (.int .i64 2), .lit (.int .i64 14), .lit (.int .i64 1), .lit (.int .i64 15)]
def laid_inquest_deflate_order {H : Type} : DataW H := .agg [.lit (.int .i64 16), .lit (.int .i64 17), .lit (.int .i64 18), .lit (.int .i64 0), .lit (.int .i64 8), .lit (.int .i64 7), .lit (.int .i64 9), .lit (.int .i64 6), .lit (.int .i64 10), .lit (.int .i64 5), .lit (.int .i64 11), .lit (.int .i64 4), .lit (.int .i64 12), .lit (.int .i64 3), .lit (.int .i64 13), .lit (.int .i64 2), .lit (.int .i64 14), .lit (.int .i64 1), .lit (.int .i64 15)]

/-- 'inquestlaw06.InflateEnds': WHATEVER THE INPUT: true; the input reads as it did. -/
def inflateEndsSpec : ChangeSpec := { name := "inflateEnds", fn := fun _ => fun
  | [d1, d2] => { results := [.lit (.bool true)], args := [d1, d2] }
  | _ => none }
def inflateEndsRow : OpenClaim := { program := "ytlaecigjnknhoaadoor", sum := "3668fcc029a341f6d606a92684be05f91256d1a1672fac81d1307e90d645ae97", func := "inquest/inquestlaw06.InflateEnds", spec := "inflateEnds", unfollowed := true, recurses := true, named := ["inquest/inflate.order"], plainKeys := false, apart := false, laid := [("inquest/inflate.order", laid_inquest_inflate_order)] }
def InflateEndsSaid : Prop := inflateEndsRow.holds Tryd.pinned (OpenSpec.ofChange inflateEndsSpec)

/-- ITS FALSE NEIGHBOUR: 'it returns false'. Refute it at one input. -/
def inflateEndsWrong : ChangeSpec := { name := "inflateEnds", fn := fun _ => fun
  | [d1, d2] => { results := [.lit (.bool false)], args := [d1, d2] }
  | _ => none }
def InflateEndsWrongFalsely : Prop := inflateEndsRow.holds Tryd.pinned (OpenSpec.ofChange inflateEndsWrong)

/-- 'inquestlaw06.InflateNil': WHATEVER THE INPUT: true; the input reads as it did. -/
def inflateNilSpec : ChangeSpec := { name := "inflateNil", fn := fun _ => fun
  | [d] => { results := [.lit (.bool true)], args := [d] }
  | _ => none }
def inflateNilRow : OpenClaim := { program := "ytlaecigjnknhoaadoor", sum := "3668fcc029a341f6d606a92684be05f91256d1a1672fac81d1307e90d645ae97", func := "inquest/inquestlaw06.InflateNil", spec := "inflateNil", unfollowed := true, recurses := true, named := ["inquest/inflate.order"], plainKeys := false, apart := false, laid := [("inquest/inflate.order", laid_inquest_inflate_order)] }
def InflateNilSaid : Prop := inflateNilRow.holds Tryd.pinned (OpenSpec.ofChange inflateNilSpec)

/-- ITS FALSE NEIGHBOUR: 'it returns false'. Refute it at one input. -/
def inflateNilWrong : ChangeSpec := { name := "inflateNil", fn := fun _ => fun
  | [d] => { results := [.lit (.bool false)], args := [d] }
  | _ => none }
def InflateNilWrongFalsely : Prop := inflateNilRow.holds Tryd.pinned (OpenSpec.ofChange inflateNilWrong)

/-- 'inquestlaw06.InflateStored': WHATEVER THE INPUT: true; the input reads as it did. -/
def inflateStoredSpec : ChangeSpec := { name := "inflateStored", fn := fun _ => fun
  | [d] => { results := [.lit (.bool true)], args := [d] }
  | _ => none }
def inflateStoredRow : OpenClaim := { program := "ytlaecigjnknhoaadoor", sum := "3668fcc029a341f6d606a92684be05f91256d1a1672fac81d1307e90d645ae97", func := "inquest/inquestlaw06.InflateStored", spec := "inflateStored", unfollowed := true, recurses := true, named := ["inquest/inflate.order"], plainKeys := false, apart := false, laid := [("inquest/inflate.order", laid_inquest_inflate_order)] }
def InflateStoredSaid : Prop := inflateStoredRow.holds Tryd.pinned (OpenSpec.ofChange inflateStoredSpec)

/-- ITS FALSE NEIGHBOUR: 'it returns false'. Refute it at one input. -/
def inflateStoredWrong : ChangeSpec := { name := "inflateStored", fn := fun _ => fun
  | [d] => { results := [.lit (.bool false)], args := [d] }
  | _ => none }
def InflateStoredWrongFalsely : Prop := inflateStoredRow.holds Tryd.pinned (OpenSpec.ofChange inflateStoredWrong)

/-- 'inquestlaw06.InflateLong': WHATEVER THE INPUT: true; the input reads as it did. -/
def inflateLongSpec : ChangeSpec := { name := "inflateLong", fn := fun _ => fun
  | [d1, d2] => { results := [.lit (.bool true)], args := [d1, d2] }
  | _ => none }
def inflateLongRow : OpenClaim := { program := "ytlaecigjnknhoaadoor", sum := "3668fcc029a341f6d606a92684be05f91256d1a1672fac81d1307e90d645ae97", func := "inquest/inquestlaw06.InflateLong", spec := "inflateLong", unfollowed := true, recurses := true, named := ["inquest/inflate.order"], plainKeys := false, apart := false, laid := [("inquest/inflate.order", laid_inquest_inflate_order)] }
def InflateLongSaid : Prop := inflateLongRow.holds Tryd.pinned (OpenSpec.ofChange inflateLongSpec)

/-- ITS FALSE NEIGHBOUR: 'it returns false'. Refute it at one input. -/
def inflateLongWrong : ChangeSpec := { name := "inflateLong", fn := fun _ => fun
  | [d1, d2] => { results := [.lit (.bool false)], args := [d1, d2] }
  | _ => none }
def InflateLongWrongFalsely : Prop := inflateLongRow.holds Tryd.pinned (OpenSpec.ofChange inflateLongWrong)

/-- 'inquestlaw07.DeflateStored': WHATEVER THE INPUT: true; the input reads as it did. -/
def deflateStoredSpec : ChangeSpec := { name := "deflateStored", fn := fun _ => fun
  | [d1, d2] => { results := [.lit (.bool true)], args := [d1, d2] }
  | _ => none }
def deflateStoredRow : OpenClaim := { program := "ytlaecigjnknhoaadoor", sum := "3668fcc029a341f6d606a92684be05f91256d1a1672fac81d1307e90d645ae97", func := "inquest/inquestlaw07.DeflateStored", spec := "deflateStored", unfollowed := true, recurses := true, named := ["inquest/deflate.order"], plainKeys := false, apart := false, laid := [("inquest/deflate.order", laid_inquest_deflate_order)] }
def DeflateStoredSaid : Prop := deflateStoredRow.holds Tryd.pinned (OpenSpec.ofChange deflateStoredSpec)

/-- ITS FALSE NEIGHBOUR: 'it returns false'. Refute it at one input. -/
def deflateStoredWrong : ChangeSpec := { name := "deflateStored", fn := fun _ => fun
  | [d1, d2] => { results := [.lit (.bool false)], args := [d1, d2] }
  | _ => none }
def DeflateStoredWrongFalsely : Prop := deflateStoredRow.holds Tryd.pinned (OpenSpec.ofChange deflateStoredWrong)

/-- 'inquestlaw07.DeflateSizes': WHATEVER THE INPUT: true; the input reads as it did. -/
def deflateSizesSpec : ChangeSpec := { name := "deflateSizes", fn := fun _ => fun
  | [d1, d2, d3] => { results := [.lit (.bool true)], args := [d1, d2, d3] }
  | _ => none }
def deflateSizesRow : OpenClaim := { program := "ytlaecigjnknhoaadoor", sum := "3668fcc029a341f6d606a92684be05f91256d1a1672fac81d1307e90d645ae97", func := "inquest/inquestlaw07.DeflateSizes", spec := "deflateSizes", unfollowed := true, recurses := true, named := ["inquest/deflate.order"], plainKeys := false, apart := false, laid := [("inquest/deflate.order", laid_inquest_deflate_order)] }
def DeflateSizesSaid : Prop := deflateSizesRow.holds Tryd.pinned (OpenSpec.ofChange deflateSizesSpec)

/-- ITS FALSE NEIGHBOUR: 'it returns false'. Refute it at one input. -/
def deflateSizesWrong : ChangeSpec := { name := "deflateSizes", fn := fun _ => fun
  | [d1, d2, d3] => { results := [.lit (.bool false)], args := [d1, d2, d3] }
  | _ => none }
def DeflateSizesWrongFalsely : Prop := deflateSizesRow.holds Tryd.pinned (OpenSpec.ofChange deflateSizesWrong)

/- THE SECOND FORM. 'bulk': how many values and letters a reading holds, each counted each time it is reached (what is shared counts as often as it is met; a slice's spare places count too). A statement '..UptoSaid' is the law's where the arguments, and the package variables that the reading takes, are together of bulk at most 1048576: NARROWER than '..Said'. Prove '..Said' where nothing that the law and all that it calls make is longer than what came in: it says more and counts as full. Else prove '..UptoSaid'. A law counts once. -/
mutual
def uptoBulk {H : Type} : DataW H → Nat
  | .lit (.string bytes) => bytes.length + 1
  | .lit _ => 1
  | .nil => 1
  | .ptr d => uptoBulk d + 1
  | .slice elems spare => uptoBulkAll elems + uptoBulkAll spare + 1
  | .agg parts => uptoBulkAll parts + 1
  | .iface _ d => uptoBulk d + 1
  | .map entries => uptoBulkEntries entries + 1
  | .held _ => 1
def uptoBulkAll {H : Type} : List (DataW H) → Nat
  | [] => 0
  | d :: r => uptoBulk d + uptoBulkAll r
def uptoBulkEntries {H : Type} : List (Lit × DataW H) → Nat
  | [] => 0
  | x :: r => uptoBulkEntry x + uptoBulkEntries r
def uptoBulkEntry {H : Type} : Lit × DataW H → Nat
  | (.string bytes, d) => bytes.length + uptoBulk d + 1
  | (_, d) => uptoBulk d + 1
 end
def uptoSmall : (H : Type) → List (DataW H) → Bool := fun _ ds => decide (uptoBulkAll ds ≤ 1048576)
def OpenSpec.upto (s : _root_.Go.ChangeSpec) : _root_.Go.OpenSpec := { _root_.Go.OpenSpec.ofChange s with cond := some uptoSmall }

/-- 'inquestlaw06.InflateEnds', WHERE WHAT IT READS IS OF BULK AT MOST 1048576: true; the input reads as it did. -/
def inflateEndsUptoRow : OpenClaim := { program := "ytlaecigjnknhoaadoor", sum := "3668fcc029a341f6d606a92684be05f91256d1a1672fac81d1307e90d645ae97", func := "inquest/inquestlaw06.InflateEnds", spec := "inflateEnds", unfollowed := true, recurses := true, named := ["inquest/inflate.order"], plainKeys := false, apart := false, laid := [("inquest/inflate.order", laid_inquest_inflate_order)], narrowed := true }
def InflateEndsUptoSaid : Prop := inflateEndsUptoRow.holds Tryd.pinned (OpenSpec.upto inflateEndsSpec)

/-- 'inquestlaw06.InflateNil', WHERE WHAT IT READS IS OF BULK AT MOST 1048576: true; the input reads as it did. -/
def inflateNilUptoRow : OpenClaim := { program := "ytlaecigjnknhoaadoor", sum := "3668fcc029a341f6d606a92684be05f91256d1a1672fac81d1307e90d645ae97", func := "inquest/inquestlaw06.InflateNil", spec := "inflateNil", unfollowed := true, recurses := true, named := ["inquest/inflate.order"], plainKeys := false, apart := false, laid := [("inquest/inflate.order", laid_inquest_inflate_order)], narrowed := true }
def InflateNilUptoSaid : Prop := inflateNilUptoRow.holds Tryd.pinned (OpenSpec.upto inflateNilSpec)

/-- 'inquestlaw06.InflateStored', WHERE WHAT IT READS IS OF BULK AT MOST 1048576: true; the input reads as it did. -/
def inflateStoredUptoRow : OpenClaim := { program := "ytlaecigjnknhoaadoor", sum := "3668fcc029a341f6d606a92684be05f91256d1a1672fac81d1307e90d645ae97", func := "inquest/inquestlaw06.InflateStored", spec := "inflateStored", unfollowed := true, recurses := true, named := ["inquest/inflate.order"], plainKeys := false, apart := false, laid := [("inquest/inflate.order", laid_inquest_inflate_order)], narrowed := true }
def InflateStoredUptoSaid : Prop := inflateStoredUptoRow.holds Tryd.pinned (OpenSpec.upto inflateStoredSpec)

/-- 'inquestlaw06.InflateLong', WHERE WHAT IT READS IS OF BULK AT MOST 1048576: true; the input reads as it did. -/
def inflateLongUptoRow : OpenClaim := { program := "ytlaecigjnknhoaadoor", sum := "3668fcc029a341f6d606a92684be05f91256d1a1672fac81d1307e90d645ae97", func := "inquest/inquestlaw06.InflateLong", spec := "inflateLong", unfollowed := true, recurses := true, named := ["inquest/inflate.order"], plainKeys := false, apart := false, laid := [("inquest/inflate.order", laid_inquest_inflate_order)], narrowed := true }
def InflateLongUptoSaid : Prop := inflateLongUptoRow.holds Tryd.pinned (OpenSpec.upto inflateLongSpec)

/-- 'inquestlaw07.DeflateStored', WHERE WHAT IT READS IS OF BULK AT MOST 1048576: true; the input reads as it did. -/
def deflateStoredUptoRow : OpenClaim := { program := "ytlaecigjnknhoaadoor", sum := "3668fcc029a341f6d606a92684be05f91256d1a1672fac81d1307e90d645ae97", func := "inquest/inquestlaw07.DeflateStored", spec := "deflateStored", unfollowed := true, recurses := true, named := ["inquest/deflate.order"], plainKeys := false, apart := false, laid := [("inquest/deflate.order", laid_inquest_deflate_order)], narrowed := true }
def DeflateStoredUptoSaid : Prop := deflateStoredUptoRow.holds Tryd.pinned (OpenSpec.upto deflateStoredSpec)

/-- 'inquestlaw07.DeflateSizes', WHERE WHAT IT READS IS OF BULK AT MOST 1048576: true; the input reads as it did. -/
def deflateSizesUptoRow : OpenClaim := { program := "ytlaecigjnknhoaadoor", sum := "3668fcc029a341f6d606a92684be05f91256d1a1672fac81d1307e90d645ae97", func := "inquest/inquestlaw07.DeflateSizes", spec := "deflateSizes", unfollowed := true, recurses := true, named := ["inquest/deflate.order"], plainKeys := false, apart := false, laid := [("inquest/deflate.order", laid_inquest_deflate_order)], narrowed := true }
def DeflateSizesUptoSaid : Prop := deflateSizesUptoRow.holds Tryd.pinned (OpenSpec.upto deflateSizesSpec)

end Rows
end Go.Proofs.YtlaecigjnknhoaaDoor
