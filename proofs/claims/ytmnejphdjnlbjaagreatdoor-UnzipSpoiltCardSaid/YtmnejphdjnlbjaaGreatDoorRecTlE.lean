/-
  The reference's wide: my own text.
-/
import Derived.Test.YtmnejphdjnlbjaaGreatDoorRecTlC
import Derived.Test.YtmnejphdjnlbjaaGreatDoorRecRef2
namespace Go.Proofs.YtmnejphdjnlbjaaGreatDoor.recp
open Go.RowKit Go.Proofs.YtmnejphdjnlbjaaGreatDoor.base Go.Proofs.YtmnejphdjnlbjaaGreatDoor.num Go.Proofs.YtmnejphdjnlbjaaGreatDoor.word Go.Proofs.YtmnejphdjnlbjaaGreatDoor.recn
set_option linter.unusedVariables false
def FoundIs (r : Option Tl) (e : Ending) : Prop :=
  match r with
  | none => ∃ (x y z : Int) (b : Bool), e = .returned (.agg #[iv x, iv y, iv z, .bool b, .bool false])
  | some t => e = .returned (.agg #[iv (t.many : Nat), iv (t.long : Nat), iv (t.at_ : Nat), .bool t.wd, .bool true])
theorem one5 (x y z : Int) (b d : Bool) : (#[iv x, iv y, iv z, .bool b, .bool d] : Array Value).all (·.oneCell') = true := all_one _ (by
  intro v hv
  simp only [List.mem_cons, List.not_mem_nil, or_false] at hv
  rcases hv with rfl | rfl | rfl | rfl | rfl <;> rfl)
end Go.Proofs.YtmnejphdjnlbjaaGreatDoor.recp
