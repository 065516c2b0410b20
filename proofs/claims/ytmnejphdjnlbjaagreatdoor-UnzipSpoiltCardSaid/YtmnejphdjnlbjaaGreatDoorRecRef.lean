/-
  The reference's at, signed, first, core: my own text.
-/
import Derived.Test.YtmnejphdjnlbjaaGreatDoorRecHead
namespace Go.Proofs.YtmnejphdjnlbjaaGreatDoor.recp
open Go.RowKit Go.Proofs.YtmnejphdjnlbjaaGreatDoor.base Go.Proofs.YtmnejphdjnlbjaaGreatDoor.num Go.Proofs.YtmnejphdjnlbjaaGreatDoor.word Go.Proofs.YtmnejphdjnlbjaaGreatDoor.recn
set_option linter.unusedVariables false
theorem cut_one {w : World} {B n c : Nat} {A : Option Addr} {xs : List UInt8} (h : Rd w B A n (xs.map bv)) {p k : Nat} (hp : p + k ≤ n) (hc : n ≤ c) :
    Rd w B (if c = p then A else A.map (·.add p)) k (((xs.drop p).take k).map bv) := by
  have hcut := h.cut (lo := p) (hi := p + k) (cap := c) (by omega) hp hc
  rwa [show p + k - p = k from by omega, ← List.map_drop, ← List.map_take] at hcut
/-- a number of eight bytes, or -1 -/
def nm8v (xs : List UInt8) (p : Nat) : Int := if nm xs p 8 < 281474976710656 then (nm xs p 8 : Nat) else -1
theorem nm_two (xs : List UInt8) (p : Nat) (x y : UInt8) (hx : xs[p]? = some x) (hy : xs[p + 1]? = some y) : nm xs p 2 = x.toNat + 256 * y.toNat := by
  obtain ⟨h1, rfl⟩ := List.getElem?_eq_some_iff.1 hx
  obtain ⟨h2, rfl⟩ := List.getElem?_eq_some_iff.1 hy
  unfold nm
  rw [List.drop_eq_getElem_cons h1, List.drop_eq_getElem_cons h2]
  show num [xs[p], xs[p + 1]] = _
  simp only [num]
  omega
theorem at_get {α : Type} {enc : α → Value} {w : World} {B n : Nat} {A : Option Addr} {xs : List α} (h : Rd w B A n (xs.map enc)) {j k : Nat} (hj : j < n) (hk : k < n) :
    ∃ b off x y, A = some ⟨b, off, none⟩ ∧ xs[j]? = some x ∧ w.cell? ⟨b, off + j, none⟩ = some (enc x) ∧ xs[k]? = some y ∧ w.cell? ⟨b, off + k, none⟩ = some (enc y) := by
  obtain ⟨b, off, x, rfl, _, hx, hcx⟩ := h.at_ hj
  obtain ⟨b', off', y, e, _, hy, hcy⟩ := h.at_ hk
  injection e with e; injection e with e1 e2 _; subst e1; subst e2
  exact ⟨b, off, x, y, rfl, hx, hcx, hy, hcy⟩
end Go.Proofs.YtmnejphdjnlbjaaGreatDoor.recp
