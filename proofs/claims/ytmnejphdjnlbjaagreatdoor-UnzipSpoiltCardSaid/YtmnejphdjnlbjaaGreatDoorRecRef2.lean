/-
  The reference's signed, first, core: my own text.
-/
import Derived.Test.YtmnejphdjnlbjaaGreatDoorRecRef
namespace Go.Proofs.YtmnejphdjnlbjaaGreatDoor.recp
open Go.RowKit Go.Proofs.YtmnejphdjnlbjaaGreatDoor.base Go.Proofs.YtmnejphdjnlbjaaGreatDoor.num Go.Proofs.YtmnejphdjnlbjaaGreatDoor.word Go.Proofs.YtmnejphdjnlbjaaGreatDoor.recn
set_option linter.unusedVariables false
theorem get4 {w : World} {B n : Nat} {A : Option Addr} {xs : List UInt8} (h : Rd w B A n (xs.map bv)) {p : Nat} (hp : p + 4 ≤ n) :
    ∃ b off x0 x1 x2 x3, A = some ⟨b, off, none⟩ ∧ (xs.drop p).take 4 = [x0, x1, x2, x3] ∧ w.cell? ⟨b, off + p, none⟩ = some (bv x0) ∧ w.cell? ⟨b, off + (p + 1), none⟩ = some (bv x1) ∧ w.cell? ⟨b, off + (p + 2), none⟩ = some (bv x2) ∧ w.cell? ⟨b, off + (p + 3), none⟩ = some (bv x3) := by
  obtain ⟨b, off, x0, x1, rfl, h0, c0, h1, c1⟩ := at_get h (j := p) (k := p + 1) (by omega) (by omega)
  obtain ⟨b', off', x2, x3, e, h2, c2, h3, c3⟩ := at_get h (j := p + 2) (k := p + 3) (by omega) (by omega)
  injection e with e; injection e with e1 e2 _; subst e1; subst e2
  refine ⟨b, off, x0, x1, x2, x3, rfl, ?_, c0, c1, c2, c3⟩
  obtain ⟨g0, rfl⟩ := List.getElem?_eq_some_iff.1 h0
  obtain ⟨g1, rfl⟩ := List.getElem?_eq_some_iff.1 h1
  obtain ⟨g2, rfl⟩ := List.getElem?_eq_some_iff.1 h2
  obtain ⟨g3, rfl⟩ := List.getElem?_eq_some_iff.1 h3
  rw [List.drop_eq_getElem_cons g0, List.drop_eq_getElem_cons g1, List.drop_eq_getElem_cons g2, List.drop_eq_getElem_cons g3]
  rfl
theorem u8_ne {x y : UInt8} (h : x ≠ y) : ((x.toNat : Int) == (y.toNat : Int)) = false := by
  rw [beq_eq_false_iff_ne]
  intro e
  exact h (UInt8.toNat_inj.1 (by omega))
/-- the error of a head's first four bytes -/
def fst4 (xs : List UInt8) (p : Int) (u v : UInt8) : Nat := if p < 0 then 1 else if xs.length < p.toNat + 4 then 3 else if sg xs p.toNat u v = false then 4 else 0
/-- what both heads have -/
def coreV (xs : List UInt8) (p : Nat) : List Value := [iv (nm xs p 2 : Nat), iv (nm xs (p + 2) 2 : Nat), iv (nm xs (p + 4) 4 : Nat), .int .u32 (nm xs (p + 8) 4 : Nat), iv (nm xs (p + 12) 4 : Nat), iv (nm xs (p + 16) 4 : Nat), iv 0, .slice none 0 0, .bool false]
end Go.Proofs.YtmnejphdjnlbjaaGreatDoor.recp
