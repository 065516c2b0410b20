/-
  bits.Writer's Code, a writer that is not there; the reference's Bits, High, Bytes, Same; wakes. My own text.
-/
import Derived.Test.YtdcdkafpmnlgoaaWtr
namespace Go.Proofs.Ytdcdkafpmnlgoaa.bitp
open Go.RowKit Go.Proofs.Ytdcdkafpmnlgoaa.base Go.Proofs.Ytdcdkafpmnlgoaa.num Go.Proofs.Ytdcdkafpmnlgoaa.bitnum
set_option linter.unusedVariables false

/-! a writer that is not there -/
end Go.Proofs.Ytdcdkafpmnlgoaa.bitp
