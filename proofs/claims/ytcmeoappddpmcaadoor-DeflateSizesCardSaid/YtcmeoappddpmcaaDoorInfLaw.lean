import Derived.Test.YtcmeoappddpmcaaDoorMgInf
import Derived.Test.YtcmeoappddpmcaaDoorBitsUse
import Derived.Laws.IdiomStrings
/-
  All by its answer; an unpacker that is not there; the laws' example. My own text.
-/
namespace Go.Proofs.YtcmeoappddpmcaaDoor.infp
open Go.RowKit Go.Proofs.YtcmeoappddpmcaaDoor.base Go.Proofs.YtcmeoappddpmcaaDoor.num Go.Proofs.YtcmeoappddpmcaaDoor.bitnum Go.Proofs.YtcmeoappddpmcaaDoor.bitp Go.Proofs.YtcmeoappddpmcaaDoor.huffnum Go.Proofs.YtcmeoappddpmcaaDoor.huffp Go.Proofs.YtcmeoappddpmcaaDoor.infnum
set_option linter.unusedVariables false

theorem one_string (w : World) (A : Option Addr) (c base : Nat) (u : UInt8) (ho : Own w base 5 A 1 c ([u].map bv)) :
    (convert 22 9 (.slice A 1 c)).run Tryd.prog w = .ok (.string ⟨#[u]⟩) w := by
  obtain ⟨q, cap, hv, hb, hlt⟩ := World.ownsRow.form ho (Nat.lt_succ_self 0)
  obtain rfl : A = some ⟨q, 0, none⟩ := by
    have := congrArg (fun v : Value => match v with
      | .slice a _ _ => a
      | _ => none) hv
    exact this
  refine run_convert_bytes_back w 22 9 5 ⟨q, 0, none⟩ c [u] Tryd.underlying22 Tryd.underlying5 Tryd.underlying9 fun j hj => ?_
  have hj0 : j = 0 := by simpa using hj
  subst hj0
  exact World.ownsRow.cells ho (g := q) rfl 0 (bv u) rfl
set_option maxRecDepth 100000 in
theorem tells_one : Tells [1, 1, 0, 254, 255, 97] 10 (.ok [97] 6) := by
  have h := blocks_unp (l := [[97]]) (by simp) (by simp)
  have e1 : blocks [[97]] = [1, 1, 0, 254, 255, 97] := by decide
  have e2 : [([97] : List UInt8)].flatten = [97] := rfl
  rw [e1, e2] at h
  exact ⟨h, by decide⟩
/-! an unpacker that is not there -/
end Go.Proofs.YtcmeoappddpmcaaDoor.infp
