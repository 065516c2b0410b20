import Derived.Test.YtppgceighgpgoaaGreatDoorMgBse
import Derived.OpenShut
import Derived.ShutString
import Derived.ChangeOld
import Derived.Deep.Matrix
/- Several of my own texts, one behind the other. -/
/-
  What came in, as the walks take it: slices of integers as 'Rd'. My own text.
-/
namespace Go.Proofs.YtppgceighgpgoaaGreatDoor.base
open Go.RowKit Go.ChangeShapes Go.WideShapes
set_option linter.unusedVariables false

theorem rd_of_ints {k : IntKind} {W : World} {x : Addr} {len cap : Nat} {zs : List Int} (hl : len ≤ cap) (hz : zs.length = cap) (hcell : ∀ i, i < zs.length → W.cell? (x.add i) = some (.int k (zs.getD i 0))) :
    Rd W W.heap.size (some x) len ((zs.take len).map (Value.int k)) := by
  refine ⟨by rw [List.length_map, List.length_take]; omega, fun hn => ?_⟩
  obtain ⟨b, off, spot⟩ := x
  have hc := hcell 0 (by omega)
  have hspot : spot = none := by simpa [Addr.add] using World.cell?_spot hc
  subst hspot
  have hlt := World.block_lt_of_cell? W _ hc
  refine ⟨b, off, rfl, by simpa [Addr.add] using hlt, fun j u hu => ?_⟩
  have hj : j < len := by
    have := (List.getElem?_eq_some_iff.1 hu).1
    rw [List.length_map, List.length_take] at this
    omega
  have h2 := hcell j (by omega)
  have hadd : (⟨b, off, none⟩ : Addr).add j = ⟨b, off + j, none⟩ := by unfold Addr.add; split <;> simp_all
  rw [hadd] at h2
  rw [h2, ← hu, List.getElem?_map, List.getElem?_take, if_pos hj, List.getD_eq_getElem?_getD, List.getElem?_eq_getElem (by omega)]
  rfl

theorem bytes_of : ∀ (zs : List Int), (∀ n ∈ zs, (Lit.int .u8 n).wf = true) → ∃ xs : List UInt8, zs.map (Value.int .u8) = xs.map bv
  | [], _ => ⟨[], rfl⟩
  | z :: r, h => by
    obtain ⟨xs, hx⟩ := bytes_of r fun n hn => h n (List.mem_cons_of_mem _ hn)
    have hz : 0 ≤ z ∧ z ≤ 255 := by simpa [Lit.wf, IntKind.min, IntKind.max, IntKind.signed, IntKind.bits] using h z (List.mem_cons_self ..)
    refine ⟨UInt8.ofNat z.toNat :: xs, ?_⟩
    rw [List.map_cons, List.map_cons, hx, bv, UInt8.toNat_ofNat']
    congr 2
    omega

/-- a slice of integers that came in -/
def InRow (k : IntKind) (W : World) (A : Option Addr) (n c : Nat) (zs : List Int) : Prop :=
  Rd W W.heap.size A n (zs.map (Value.int k)) ∧ n ≤ c ∧ c ≤ maxLen ∧ ∀ z ∈ zs, (Lit.int k z).wf = true
/-- a slice of bytes that came in -/
def InBytes (W : World) (A : Option Addr) (n c : Nat) (xs : List UInt8) : Prop := Rd W W.heap.size A n (xs.map bv) ∧ n ≤ c ∧ c ≤ maxLen

theorem InRow.nil (k : IntKind) (W : World) : InRow k W none 0 0 [] := ⟨Rd.nil _ _ _, Nat.le_refl _, by unfold maxLen; omega, fun z hz => by cases hz⟩
theorem InRow.some_ {k : IntKind} {W : World} {x : Addr} {len cap : Nat} {zs : List Int} (hl : len ≤ cap) (hm : cap ≤ maxLen) (hz : zs.length = cap) (hcell : ∀ i, i < zs.length → W.cell? (x.add i) = some (.int k (zs.getD i 0)))
    (hwz : ∀ n ∈ zs, (Lit.int k n).wf = true) : InRow k W (some x) len cap (zs.take len) :=
  ⟨rd_of_ints hl hz hcell, hl, hm, fun z h => hwz z (List.mem_of_mem_take h)⟩
theorem InRow.bytes {W : World} {A : Option Addr} {n c : Nat} {zs : List Int} (h : InRow .u8 W A n c zs) : ∃ xs, InBytes W A n c xs := by
  obtain ⟨xs, hx⟩ := bytes_of zs h.2.2.2
  exact ⟨xs, by rw [← hx]; exact h.1, h.2.1, h.2.2.1⟩

end Go.Proofs.YtppgceighgpgoaaGreatDoor.base
/-
  A slice of slices of bytes that came in, as the walks take it. My own text.
-/
namespace Go.Proofs.YtppgceighgpgoaaGreatDoor.base
open Go.RowKit Go.ChangeShapes Go.WideShapes
set_option linter.unusedVariables false

theorem rd_of_cells {W : World} {x : Addr} {len : Nat} {f : Nat → Value} (hcell : ∀ i, i < len → W.cell? (x.add i) = some (f i)) : Rd W W.heap.size (some x) len ((List.range len).map f) := by
  refine ⟨by simp, fun hn => ?_⟩
  obtain ⟨b, off, spot⟩ := x
  have hc := hcell 0 hn
  have hspot : spot = none := by simpa [Addr.add] using World.cell?_spot hc
  subst hspot
  have hlt := World.block_lt_of_cell? W _ hc
  refine ⟨b, off, rfl, by simpa [Addr.add] using hlt, fun j u hu => ?_⟩
  have hj : j < len := by
    have := (List.getElem?_eq_some_iff.1 hu).1
    simpa using this
  have h2 := hcell j hj
  have hadd : (⟨b, off, none⟩ : Addr).add j = ⟨b, off + j, none⟩ := by unfold Addr.add; split <;> simp_all
  rw [hadd] at h2
  rw [h2, ← hu]
  simp [hj]

def toBytes (zs : List Int) : List UInt8 := zs.map fun z => UInt8.ofNat z.toNat
theorem toBytes_map (zs : List Int) (h : ∀ n ∈ zs, (Lit.int .u8 n).wf = true) : zs.map (Value.int .u8) = (toBytes zs).map bv := by
  rw [toBytes, List.map_map]
  refine List.map_congr_left fun z hz => ?_
  have hz : 0 ≤ z ∧ z ≤ 255 := by simpa [Lit.wf, IntKind.min, IntKind.max, IntKind.signed, IntKind.bits] using h z hz
  simp only [Function.comp, bv, UInt8.toNat_ofNat']
  congr 1
  omega

/-- a slice of slices of bytes that came in -/
def InRows (W : World) (A : Option Addr) (n c : Nat) (rows : List Row) : Prop :=
  RdRows W W.heap.size A n rows ∧ n ≤ c ∧ c ≤ maxLen ∧ ∀ r ∈ rows, r.len ≤ r.cap ∧ r.cap ≤ maxLen

theorem InRows.nil (W : World) : InRows W none 0 0 [] := ⟨⟨Rd.nil _ _ _, fun r hr => by cases hr⟩, Nat.le_refl _, by unfold maxLen; omega, fun r hr => by cases hr⟩

theorem InRows.some_ {W : World} {base : Nat} {a : Addr} {len cap : Nat} {A : Nat → Option Addr} {L C : Nat → Nat} {Z : Nat → List Int} (hl : len ≤ cap) (hm : cap ≤ maxLen)
    (h : ∀ r, r < cap → W.cell? (a.add r) = some (.slice (A r) (L r) (C r)) ∧ L r ≤ C r ∧ C r ≤ maxLen ∧ (Z r).length = C r ∧ (∀ n ∈ Z r, (Lit.int .u8 n).wf = true) ∧ (A r = none → C r = 0) ∧
        ∀ a', A r = some a' → base ≤ a'.block ∧ ∀ c, c < C r → W.cell? (a'.add c) = some (.int .u8 ((Z r).getD c 0))) :
    ∃ rows, InRows W (some a) len cap rows := by
  refine ⟨(List.range len).map fun r => ⟨A r, L r, C r, (toBytes (Z r)).take (L r)⟩, ⟨?_, ?_⟩, hl, hm, ?_⟩
  · have := rd_of_cells (W := W) (x := a) (len := len) (f := fun r => .slice (A r) (L r) (C r)) fun i hi => (h i (by omega)).1
    rw [List.map_map]
    exact this
  · intro r hr
    obtain ⟨i, hi, rfl⟩ := List.mem_map.1 hr
    obtain ⟨_, h1, h2, h3, h4, h5, h6⟩ := h i (by have := List.mem_range.1 hi; omega)
    show Rd W W.heap.size (A i) (L i) (((toBytes (Z i)).take (L i)).map bv)
    rw [List.map_take, ← toBytes_map _ h4, ← List.map_take]
    cases hA : A i with
    | none =>
      have : L i = 0 := by have := h5 hA; omega
      rw [this]
      exact Rd.nil _ _ _
    | some a' => exact rd_of_ints h1 h3 (by rw [h3]; exact (h6 a' hA).2)
  · intro r hr
    obtain ⟨i, hi, rfl⟩ := List.mem_map.1 hr
    obtain ⟨_, h1, h2, _⟩ := h i (by have := List.mem_range.1 hi; omega)
    exact ⟨h1, h2⟩

end Go.Proofs.YtppgceighgpgoaaGreatDoor.base
