/-
  The reference's Find: my own text.
-/
import Derived.Test.YtmnejphdjnlbjaaGreatDoorRecTlE
import Derived.Test.YtmnejphdjnlbjaaGreatDoorRecTlB
namespace Go.Proofs.YtmnejphdjnlbjaaGreatDoor.recp
open Go.RowKit Go.Proofs.YtmnejphdjnlbjaaGreatDoor.base Go.Proofs.YtmnejphdjnlbjaaGreatDoor.num Go.Proofs.YtmnejphdjnlbjaaGreatDoor.word Go.Proofs.YtmnejphdjnlbjaaGreatDoor.recn
set_option linter.unusedVariables false
theorem find_none {xs : List UInt8} {n : Nat} (hn : xs.length = n) (h : lastAt xs (n - 65557) (n - 21) = none) : find xs = none := by
  unfold find; rw [hn, h]
theorem find_some {xs : List UInt8} {n p : Nat} (hn : xs.length = n) (h : lastAt xs (n - 65557) (n - 21) = some p) :
    find xs = if nm xs (p + 10) 2 = 65535 ∨ nm xs (p + 12) 4 = 4294967295 ∨ nm xs (p + 16) 4 = 4294967295 then wideTl xs p
      else some ⟨nm xs (p + 10) 2, nm xs (p + 12) 4, nm xs (p + 16) 4, false⟩ := by
  unfold find; rw [hn, h]
end Go.Proofs.YtmnejphdjnlbjaaGreatDoor.recp
