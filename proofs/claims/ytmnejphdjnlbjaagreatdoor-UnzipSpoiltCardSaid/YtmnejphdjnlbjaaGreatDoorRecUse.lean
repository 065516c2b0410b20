/-
  The example of the law, the reference's Same: my own text.
-/
import Derived.Test.YtmnejphdjnlbjaaGreatDoorRecFits
import Derived.Test.YtmnejphdjnlbjaaGreatDoorLeaf
import Derived.Lib.SmallJoins
import Derived.Deep.DeepCutAuto
namespace Go.Proofs.YtmnejphdjnlbjaaGreatDoor.recp
open Go.RowKit Go.Proofs.YtmnejphdjnlbjaaGreatDoor.base Go.Proofs.YtmnejphdjnlbjaaGreatDoor.num Go.Proofs.YtmnejphdjnlbjaaGreatDoor.word Go.Proofs.YtmnejphdjnlbjaaGreatDoor.recn
set_option linter.unusedVariables false
abbrev tTail : TypeId := 44
theorem z_one : ∀ z ∈ ([0] : List Int), -9223372036854775808 ≤ z ∧ z ≤ 9223372036854775807 := by decide
theorem z_two : ∀ z ∈ ([0, 0] : List Int), -9223372036854775808 ≤ z ∧ z ≤ 9223372036854775807 := by decide
theorem z_wf1 : ∀ z ∈ ([0] : List Int), (Lit.int .i64 z).wf = true := by decide
theorem z_wf2 : ∀ z ∈ ([0, 0] : List Int), (Lit.int .i64 z).wf = true := by decide
end Go.Proofs.YtmnejphdjnlbjaaGreatDoor.recp
