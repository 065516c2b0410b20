/-
  What came in, as the walks take it: slices of integers as 'Rd'. My own text.
-/
import Derived.Test.YtcdehklcdipcfaaGreatBase
import Derived.OpenShut
import Derived.ShutString
import Derived.ChangeOld
namespace Go.Proofs.YtcdehklcdipcfaaGreat.base
open Go.RowKit Go.ChangeShapes Go.WideShapes
set_option linter.unusedVariables false

theorem rd_of_ints {k : IntKind} {W : World} {x : Addr} {len cap : Nat} {zs : List Int} (hl : len ≤ cap) (hz : zs.length = cap) (hcell : ∀ i, i < zs.length → W.cell? (x.add i) = some (.int k (zs.getD i 0))) :
    Rd W W.heap.size (some x) len ((zs.take len).map (Value.int k)) := by
  refine ⟨by rw [List.length_map, List.length_take]; omega, fun hn => ?_⟩
  obtain ⟨b, off, spot⟩ := x
  have hc := hcell 0 (by omega)
  have hspot : spot = none := by simpa [Addr.add] using World.cell?_spot hc
  subst hspot
  have hlt := World.block_lt_of_cell? W _ hc
  refine ⟨b, off, rfl, by simpa [Addr.add] using hlt, fun j u hu => ?_⟩
  have hj : j < len := by
    have := (List.getElem?_eq_some_iff.1 hu).1
    rw [List.length_map, List.length_take] at this
    omega
  have h2 := hcell j (by omega)
  have hadd : (⟨b, off, none⟩ : Addr).add j = ⟨b, off + j, none⟩ := by unfold Addr.add; split <;> simp_all
  rw [hadd] at h2
  rw [h2, ← hu, List.getElem?_map, List.getElem?_take, if_pos hj, List.getD_eq_getElem?_getD, List.getElem?_eq_getElem (by omega)]
  rfl

theorem bytes_of : ∀ (zs : List Int), (∀ n ∈ zs, (Lit.int .u8 n).wf = true) → ∃ xs : List UInt8, zs.map (Value.int .u8) = xs.map bv
  | [], _ => ⟨[], rfl⟩
  | z :: r, h => by
    obtain ⟨xs, hx⟩ := bytes_of r fun n hn => h n (List.mem_cons_of_mem _ hn)
    have hz : 0 ≤ z ∧ z ≤ 255 := by simpa [Lit.wf, IntKind.min, IntKind.max, IntKind.signed, IntKind.bits] using h z (List.mem_cons_self ..)
    refine ⟨UInt8.ofNat z.toNat :: xs, ?_⟩
    rw [List.map_cons, List.map_cons, hx, bv, UInt8.toNat_ofNat']
    congr 2
    omega

/-- a slice of integers that came in -/
def InRow (k : IntKind) (W : World) (A : Option Addr) (n c : Nat) (zs : List Int) : Prop :=
  Rd W W.heap.size A n (zs.map (Value.int k)) ∧ n ≤ c ∧ c ≤ maxLen ∧ ∀ z ∈ zs, (Lit.int k z).wf = true
/-- a slice of bytes that came in -/
def InBytes (W : World) (A : Option Addr) (n c : Nat) (xs : List UInt8) : Prop := Rd W W.heap.size A n (xs.map bv) ∧ n ≤ c ∧ c ≤ maxLen

theorem InRow.nil (k : IntKind) (W : World) : InRow k W none 0 0 [] := ⟨Rd.nil _ _ _, Nat.le_refl _, by unfold maxLen; omega, fun z hz => by cases hz⟩
theorem InRow.some_ {k : IntKind} {W : World} {x : Addr} {len cap : Nat} {zs : List Int} (hl : len ≤ cap) (hm : cap ≤ maxLen) (hz : zs.length = cap) (hcell : ∀ i, i < zs.length → W.cell? (x.add i) = some (.int k (zs.getD i 0)))
    (hwz : ∀ n ∈ zs, (Lit.int k n).wf = true) : InRow k W (some x) len cap (zs.take len) :=
  ⟨rd_of_ints hl hz hcell, hl, hm, fun z h => hwz z (List.mem_of_mem_take h)⟩
theorem InRow.bytes {W : World} {A : Option Addr} {n c : Nat} {zs : List Int} (h : InRow .u8 W A n c zs) : ∃ xs, InBytes W A n c xs := by
  obtain ⟨xs, hx⟩ := bytes_of zs h.2.2.2
  exact ⟨xs, by rw [← hx]; exact h.1, h.2.1, h.2.2.1⟩

end Go.Proofs.YtcdehklcdipcfaaGreat.base
