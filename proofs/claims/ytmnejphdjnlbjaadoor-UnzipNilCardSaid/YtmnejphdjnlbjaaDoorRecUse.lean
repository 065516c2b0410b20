/-
  The example of the law, the reference's Same: my own text.
-/
import Derived.Test.YtmnejphdjnlbjaaDoorRecFits
import Derived.Test.YtmnejphdjnlbjaaDoorLeaf
import Derived.Lib.SmallJoins
import Derived.Deep.DeepCutAuto
namespace Go.Proofs.YtmnejphdjnlbjaaDoor.recp
open Go.RowKit Go.Proofs.YtmnejphdjnlbjaaDoor.base Go.Proofs.YtmnejphdjnlbjaaDoor.num Go.Proofs.YtmnejphdjnlbjaaDoor.word Go.Proofs.YtmnejphdjnlbjaaDoor.recn
set_option linter.unusedVariables false
abbrev tTail : TypeId := 42
theorem z_one : ∀ z ∈ ([0] : List Int), -9223372036854775808 ≤ z ∧ z ≤ 9223372036854775807 := by decide
theorem z_two : ∀ z ∈ ([0, 0] : List Int), -9223372036854775808 ≤ z ∧ z ≤ 9223372036854775807 := by decide
theorem z_wf1 : ∀ z ∈ ([0] : List Int), (Lit.int .i64 z).wf = true := by decide
theorem z_wf2 : ∀ z ∈ ([0, 0] : List Int), (Lit.int .i64 z).wf = true := by decide
end Go.Proofs.YtmnejphdjnlbjaaDoor.recp
