/-
  A cut of a row at both ends, as a law, over any program. My own text.
-/
import Derived.Test.YtgbffkneidnmfaaRowOf
import Derived.Laws.Slices
namespace Go.Proofs.Ytgbffkneidnmfaa.base
open Go.RowKit
set_option linter.unusedVariables false
/-- 'x[lo:hi]' of one-cell elements -/
theorem wpList_cut2 {P : Program} {w : World} {ops : Array Oper} {rest : List Oper} {o : Oper} {a : Act} {Q : Exit → Act → World → Prop} (hgd : Region.wanted o (yielded ops a.tmps) = true) (t e : TypeId) (x y z : Operand) (ho : o.op = .slice t x (some y) (some z) none) (hu : P.underlying t = some (.slice e)) (hsz : (P.info? e).map (·.size) = some 1)
    (A : Option Addr) (n c lo hi B : Nat) (xs : List Value) (hx : a.eval x = .slice A n c) (hy : a.eval y = .int .i64 (lo : Nat)) (hz : a.eval z = .int .i64 (hi : Nat)) (hr : Rd w B A n xs) (h1 : lo ≤ hi) (h2 : hi ≤ n) (hc : n ≤ c)
    (h : ∀ D, Rd w B D (hi - lo) ((xs.drop lo).take (hi - lo)) → wpList P ops Q rest (a.put o.dst (.slice D (hi - lo) (c - lo))) w) : wpList P ops Q (o :: rest) a w := by
  refine wpList_step fun K hK => ?_
  rw [if_pos hgd]
  have he : P.elem t = e := by unfold Program.elem; rw [hu]
  have hu2 : P.underlying t = some (.slice (P.elem t)) := by rw [he]; exact hu
  have hcut := hr.cut (lo := lo) (hi := hi) (cap := c) h1 h2 hc
  have hs : (sizeOf (P.elem t)).run P w = .ok 1 w := by
    rw [he]
    cases hq : P.info? e with
    | none => simp [hq] at hsz
    | some i =>
      have : i.size = 1 := by simpa [hq] using hsz
      simp [sizeOf, typeInfo, hq, this]
  have hrun : (Instr.sliceAt t (.slice A n c) (some (.int .i64 (lo : Nat))) (some (.int .i64 (hi : Nat))) none).run P w = .ok (.slice (if c = lo then A else A.map (·.add lo)) (hi - lo) (c - lo)) w := by
    rw [run_sliceAt_slice w t _ _ _ _ hu2, run_slice_lh w t A n c hu2 .i64 .i64 (lo : Nat) (hi : Nat) (by omega) (by omega) (by omega), hs]
    simp [Result.andThen, sliced]
  unfold Oper.wp execOp
  simp only [ho, hx, hy, hz, Option.map_some, Option.map_none, Sem.run_bind, hrun, Result.andThen_ok]
  exact hK _ _ (h _ hcut)
end Go.Proofs.Ytgbffkneidnmfaa.base
