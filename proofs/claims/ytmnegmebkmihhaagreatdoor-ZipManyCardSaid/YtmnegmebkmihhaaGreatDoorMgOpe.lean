import Derived.Test.YtmnegmebkmihhaaGreatDoorBase
import Derived.OpenShut
import Derived.ShutString
import Derived.ChangeOld
import Derived.Test.YtmnegmebkmihhaaGreatDoorBlk
import Derived.Deep.Matrix
import Derived.Deep.Slices
import Derived.Deep.Fields
import Derived.Deep.MidRow
import Derived.ChangeSame
import Derived.Test.YtmnegmebkmihhaaGreatDoorMgMay
import Derived.Test.YtmnegmebkmihhaaGreatDoorZipTw
import Derived.Test.YtmnegmebkmihhaaGreatDoorMgUza
/- Several of my own texts, one behind the other. -/
/-
  What came in, as the walks take it: slices of integers as 'Rd'. My own text.
-/
namespace Go.Proofs.YtmnegmebkmihhaaGreatDoor.base
open Go.RowKit Go.ChangeShapes Go.WideShapes
set_option linter.unusedVariables false

theorem rd_of_ints {k : IntKind} {W : World} {x : Addr} {len cap : Nat} {zs : List Int} (hl : len ≤ cap) (hz : zs.length = cap) (hcell : ∀ i, i < zs.length → W.cell? (x.add i) = some (.int k (zs.getD i 0))) :
    Rd W W.heap.size (some x) len ((zs.take len).map (Value.int k)) := by
  refine ⟨by rw [List.length_map, List.length_take]; omega, fun hn => ?_⟩
  obtain ⟨b, off, spot⟩ := x
  have hc := hcell 0 (by omega)
  have hspot : spot = none := by simpa [Addr.add] using World.cell?_spot hc
  subst hspot
  have hlt := World.block_lt_of_cell? W _ hc
  refine ⟨b, off, rfl, by simpa [Addr.add] using hlt, fun j u hu => ?_⟩
  have hj : j < len := by
    have := (List.getElem?_eq_some_iff.1 hu).1
    rw [List.length_map, List.length_take] at this
    omega
  have h2 := hcell j (by omega)
  have hadd : (⟨b, off, none⟩ : Addr).add j = ⟨b, off + j, none⟩ := by unfold Addr.add; split <;> simp_all
  rw [hadd] at h2
  rw [h2, ← hu, List.getElem?_map, List.getElem?_take, if_pos hj, List.getD_eq_getElem?_getD, List.getElem?_eq_getElem (by omega)]
  rfl

theorem bytes_of : ∀ (zs : List Int), (∀ n ∈ zs, (Lit.int .u8 n).wf = true) → ∃ xs : List UInt8, zs.map (Value.int .u8) = xs.map bv
  | [], _ => ⟨[], rfl⟩
  | z :: r, h => by
    obtain ⟨xs, hx⟩ := bytes_of r fun n hn => h n (List.mem_cons_of_mem _ hn)
    have hz : 0 ≤ z ∧ z ≤ 255 := by simpa [Lit.wf, IntKind.min, IntKind.max, IntKind.signed, IntKind.bits] using h z (List.mem_cons_self ..)
    refine ⟨UInt8.ofNat z.toNat :: xs, ?_⟩
    rw [List.map_cons, List.map_cons, hx, bv, UInt8.toNat_ofNat']
    congr 2
    omega

/-- a slice of integers that came in -/
def InRow (k : IntKind) (W : World) (A : Option Addr) (n c : Nat) (zs : List Int) : Prop :=
  Rd W W.heap.size A n (zs.map (Value.int k)) ∧ n ≤ c ∧ c ≤ maxLen ∧ ∀ z ∈ zs, (Lit.int k z).wf = true
/-- a slice of bytes that came in -/
def InBytes (W : World) (A : Option Addr) (n c : Nat) (xs : List UInt8) : Prop := Rd W W.heap.size A n (xs.map bv) ∧ n ≤ c ∧ c ≤ maxLen

theorem InRow.nil (k : IntKind) (W : World) : InRow k W none 0 0 [] := ⟨Rd.nil _ _ _, Nat.le_refl _, by unfold maxLen; omega, fun z hz => by cases hz⟩
theorem InRow.some_ {k : IntKind} {W : World} {x : Addr} {len cap : Nat} {zs : List Int} (hl : len ≤ cap) (hm : cap ≤ maxLen) (hz : zs.length = cap) (hcell : ∀ i, i < zs.length → W.cell? (x.add i) = some (.int k (zs.getD i 0)))
    (hwz : ∀ n ∈ zs, (Lit.int k n).wf = true) : InRow k W (some x) len cap (zs.take len) :=
  ⟨rd_of_ints hl hz hcell, hl, hm, fun z h => hwz z (List.mem_of_mem_take h)⟩
theorem InRow.bytes {W : World} {A : Option Addr} {n c : Nat} {zs : List Int} (h : InRow .u8 W A n c zs) : ∃ xs, InBytes W A n c xs := by
  obtain ⟨xs, hx⟩ := bytes_of zs h.2.2.2
  exact ⟨xs, by rw [← hx]; exact h.1, h.2.1, h.2.2.1⟩

end Go.Proofs.YtmnegmebkmihhaaGreatDoor.base
/-
  A slice of slices of bytes that came in, as the walks take it. My own text.
-/
namespace Go.Proofs.YtmnegmebkmihhaaGreatDoor.base
open Go.RowKit Go.ChangeShapes Go.WideShapes
set_option linter.unusedVariables false

theorem rd_of_cells {W : World} {x : Addr} {len : Nat} {f : Nat → Value} (hcell : ∀ i, i < len → W.cell? (x.add i) = some (f i)) : Rd W W.heap.size (some x) len ((List.range len).map f) := by
  refine ⟨by simp, fun hn => ?_⟩
  obtain ⟨b, off, spot⟩ := x
  have hc := hcell 0 hn
  have hspot : spot = none := by simpa [Addr.add] using World.cell?_spot hc
  subst hspot
  have hlt := World.block_lt_of_cell? W _ hc
  refine ⟨b, off, rfl, by simpa [Addr.add] using hlt, fun j u hu => ?_⟩
  have hj : j < len := by
    have := (List.getElem?_eq_some_iff.1 hu).1
    simpa using this
  have h2 := hcell j hj
  have hadd : (⟨b, off, none⟩ : Addr).add j = ⟨b, off + j, none⟩ := by unfold Addr.add; split <;> simp_all
  rw [hadd] at h2
  rw [h2, ← hu]
  simp [hj]

def toBytes (zs : List Int) : List UInt8 := zs.map fun z => UInt8.ofNat z.toNat
theorem toBytes_map (zs : List Int) (h : ∀ n ∈ zs, (Lit.int .u8 n).wf = true) : zs.map (Value.int .u8) = (toBytes zs).map bv := by
  rw [toBytes, List.map_map]
  refine List.map_congr_left fun z hz => ?_
  have hz : 0 ≤ z ∧ z ≤ 255 := by simpa [Lit.wf, IntKind.min, IntKind.max, IntKind.signed, IntKind.bits] using h z hz
  simp only [Function.comp, bv, UInt8.toNat_ofNat']
  congr 1
  omega

/-- a slice of slices of bytes that came in -/
def InRows (W : World) (A : Option Addr) (n c : Nat) (rows : List Row) : Prop :=
  RdRows W W.heap.size A n rows ∧ n ≤ c ∧ c ≤ maxLen ∧ ∀ r ∈ rows, r.len ≤ r.cap ∧ r.cap ≤ maxLen

theorem InRows.nil (W : World) : InRows W none 0 0 [] := ⟨⟨Rd.nil _ _ _, fun r hr => by cases hr⟩, Nat.le_refl _, by unfold maxLen; omega, fun r hr => by cases hr⟩

theorem InRows.some_ {W : World} {base : Nat} {a : Addr} {len cap : Nat} {A : Nat → Option Addr} {L C : Nat → Nat} {Z : Nat → List Int} (hl : len ≤ cap) (hm : cap ≤ maxLen)
    (h : ∀ r, r < cap → W.cell? (a.add r) = some (.slice (A r) (L r) (C r)) ∧ L r ≤ C r ∧ C r ≤ maxLen ∧ (Z r).length = C r ∧ (∀ n ∈ Z r, (Lit.int .u8 n).wf = true) ∧ (A r = none → C r = 0) ∧
        ∀ a', A r = some a' → base ≤ a'.block ∧ ∀ c, c < C r → W.cell? (a'.add c) = some (.int .u8 ((Z r).getD c 0))) :
    ∃ rows, InRows W (some a) len cap rows := by
  refine ⟨(List.range len).map fun r => ⟨A r, L r, C r, (toBytes (Z r)).take (L r)⟩, ⟨?_, ?_⟩, hl, hm, ?_⟩
  · have := rd_of_cells (W := W) (x := a) (len := len) (f := fun r => .slice (A r) (L r) (C r)) fun i hi => (h i (by omega)).1
    rw [List.map_map]
    exact this
  · intro r hr
    obtain ⟨i, hi, rfl⟩ := List.mem_map.1 hr
    obtain ⟨_, h1, h2, h3, h4, h5, h6⟩ := h i (by have := List.mem_range.1 hi; omega)
    show Rd W W.heap.size (A i) (L i) (((toBytes (Z i)).take (L i)).map bv)
    rw [List.map_take, ← toBytes_map _ h4, ← List.map_take]
    cases hA : A i with
    | none =>
      have : L i = 0 := by have := h5 hA; omega
      rw [this]
      exact Rd.nil _ _ _
    | some a' => exact rd_of_ints h1 h3 (by rw [h3]; exact (h6 a' hA).2)
  · intro r hr
    obtain ⟨i, hi, rfl⟩ := List.mem_map.1 hr
    obtain ⟨_, h1, h2, _⟩ := h i (by have := List.mem_range.1 hi; omega)
    exact ⟨h1, h2⟩

end Go.Proofs.YtmnegmebkmihhaaGreatDoor.base
/-
  A slice of structs of one-cell fields that came in, element by element; the acts of layer 4's statements. My own text.
-/
namespace Go.Proofs.YtmnegmebkmihhaaGreatDoor.base
open Go.RowKit Go.ChangeShapes Go.WideShapes Go.Deep
set_option linter.unusedVariables false

theorem list_of {α : Type} {R : Nat → α → Prop} : ∀ (n : Nat), (∀ i, i < n → ∃ a, R i a) → ∃ l : List α, l.length = n ∧ ∀ i a, l[i]? = some a → R i a
  | 0, _ => ⟨[], rfl, fun i a h => by simp at h⟩
  | n + 1, h => by
    obtain ⟨l, hl, hr⟩ := list_of n fun i hi => h i (by omega)
    obtain ⟨a, ha⟩ := h n (by omega)
    refine ⟨l ++ [a], by simp [hl], fun i x hx => ?_⟩
    by_cases hi : i < n
    · rw [List.getElem?_append_left (by omega)] at hx
      exact hr i x hx
    · have hle : i < (l ++ [a]).length := (List.getElem?_eq_some_iff.1 hx).1
      have : i = n := by simp at hle; omega
      subst this
      rw [List.getElem?_append_right (by omega), hl, Nat.sub_self] at hx
      simp only [List.getElem?_cons_zero, Option.some.injEq] at hx
      subst hx
      exact ha

section
variable {H : Type} {enc : TypeId × Value → H} {P : Program} {w : World} {base : Nat} {spare : Nat → Bool} {held : Bool}
/-- one element, by its cells -/
def Elem (enc : TypeId × Value → H) (P : Program) (w : World) (base : Nat) (spare : Nat → Bool) (held : Bool) (fs : Array Field) (a : Addr) (i : Nat) (vs : List Value) : Prop :=
  vs.length = fs.size ∧ (∀ j v, vs[j]? = some v → w.cell? (a.add (i * fs.size + j)) = some v) ∧
    ∀ (j : Nat) (f : Field) (v : Value), fs[j]? = some f → vs[j]? = some v → ∃ m y, DataW.trod enc P w base spare held m f.type [v] = some y
theorem elems_of {t e : TypeId} {fs : Array Field} {fuel : Nat} {cs : List Value} {x : DataW H × List MemPlace} (ht : P.underlying t = some (.slice e)) (he : P.underlying e = some (.struct fs))
    (hone : oneCellFields P fs = true) (hC : P.cellsOf e = fs.size) (h : DataW.trod enc P w base (fun _ => true) held fuel t cs = some x) :
    cs = [.slice none 0 0] ∨ ∃ (a : Addr) (len cap : Nat) (ls : List (List Value)), cs = [.slice (some a) len cap] ∧ len ≤ cap ∧ cap ≤ maxLen ∧ ls.length = len ∧ ∀ i vs, ls[i]? = some vs → Elem enc P w base (fun _ => true) held fs a i vs := by
  rcases open_slice ht h with h0 | ⟨a, len, cap, m, n, D, Pl, hcs, hb, hl, hm, hmm, hx, hi⟩
  · exact .inl h0.1
  · rw [if_pos rfl] at hmm
    obtain ⟨ls, h1, h2⟩ := list_of (R := fun i vs => Elem enc P w base (fun _ => true) held fs a i vs) len fun i him => by
      obtain ⟨cs', hc, ht'⟩ := hi i (by omega)
      rw [hC] at hc
      obtain ⟨ys, n', _, _, _, hyl, hf⟩ := DataW.trod_struct he ht'
      obtain ⟨_, hcl, hat⟩ := World.cells?_some hc
      refine ⟨cs', hcl, fun j v hv => ?_, fun j f v hj hv => ?_⟩
      · have hjl : j < fs.size := by rw [← hcl]; exact (List.getElem?_eq_some_iff.1 hv).1
        rw [← add_add, hat j hjl, hv]
      · obtain ⟨ho, hk⟩ := hone_of hone j f hj
        have hjl : j < fs.size := (Array.getElem?_eq_some_iff.1 hj).1
        have h1 := hf j f hj
        have hone' : (cs'.drop j).take 1 = [v] := by
          obtain ⟨hlt, hget⟩ := List.getElem?_eq_some_iff.1 hv
          rw [List.drop_eq_getElem_cons hlt, hget]
          rfl
        rw [ho, hk, hone'] at h1
        exact ⟨_, _, h1.trans (List.getElem?_eq_getElem (by omega))⟩
    exact .inr ⟨a, len, cap, ls, hcs, hl, hm, h1, h2⟩
end

/-- a slice of elements of k cells each that came in -/
def InElems (W : World) (k : Nat) (A : Option Addr) (n c : Nat) (ls : List (List Value)) : Prop :=
  ls.length = n ∧ n ≤ c ∧ c ≤ maxLen ∧ (0 < n → ∃ b off, A = some ⟨b, off, none⟩ ∧ b < W.heap.size ∧ ∀ i vs, ls[i]? = some vs → ∀ j v, vs[j]? = some v → W.cell? ⟨b, off + (i * k + j), none⟩ = some v)
theorem InElems.nil (W : World) (k : Nat) : InElems W k none 0 0 [] := ⟨rfl, Nat.le_refl _, by unfold maxLen; omega, fun h => absurd h (by omega)⟩
theorem InElems.some_ {H : Type} {enc : TypeId × Value → H} {P : Program} {W : World} {base : Nat} {spare : Nat → Bool} {held : Bool} {fs : Array Field} {a : Addr} {len cap : Nat} {ls : List (List Value)} (hl : len ≤ cap) (hm : cap ≤ maxLen) (hls : ls.length = len)
    (h : ∀ i vs, ls[i]? = some vs → Elem enc P W base spare held fs a i vs) (h0 : 0 < fs.size) : InElems W fs.size (some a) len cap ls := by
  refine ⟨hls, hl, hm, fun hn => ?_⟩
  obtain ⟨b, off, spot⟩ := a
  have hvs : ls[0]? = some (ls[0]'(by omega)) := List.getElem?_eq_getElem (by omega)
  obtain ⟨hlen, hcell, _⟩ := h 0 _ hvs
  have hc := hcell 0 _ (List.getElem?_eq_getElem (by omega))
  have hspot : spot = none := by simpa [Addr.add] using World.cell?_spot hc
  subst hspot
  have hlt := World.block_lt_of_cell? W _ hc
  refine ⟨b, off, rfl, by simpa [Addr.add] using hlt, fun i vs hi j v hv => ?_⟩
  have h2 := (h i vs hi).2.1 j v hv
  have hadd : (⟨b, off, none⟩ : Addr).add (i * fs.size + j) = ⟨b, off + (i * fs.size + j), none⟩ := by unfold Addr.add; split <;> simp_all
  rwa [hadd] at h2
theorem InElems.keep {W W' : World} {k : Nat} {A : Option Addr} {n c : Nat} {ls : List (List Value)} (h : InElems W k A n c ls) (hf : Fresh W W') : InElems W' k A n c ls := by
  refine ⟨h.1, h.2.1, h.2.2.1, fun hn => ?_⟩
  obtain ⟨b, off, hA, hb, hc⟩ := h.2.2.2 hn
  exact ⟨b, off, hA, Nat.lt_of_lt_of_le hb hf.size, fun i vs hi j v hv => (World.cell?_of_block (hf.block b hb)).trans (hc i vs hi j v hv)⟩
/-- an element, for the walk -/
theorem InElems.at_ {W : World} {k : Nat} {A : Option Addr} {n c : Nat} {ls : List (List Value)} (h : InElems W k A n c ls) {i : Nat} (hi : i < n) :
    ∃ b off vs, A = some ⟨b, off, none⟩ ∧ ls[i]? = some vs ∧ W.rangeAt b (off + i * k) vs := by
  obtain ⟨b, off, hA, hb, hc⟩ := h.2.2.2 (by omega)
  have hlt : i < ls.length := by rw [h.1]; exact hi
  refine ⟨b, off, ls[i], hA, List.getElem?_eq_getElem hlt, fun j v hv => ?_⟩
  have := hc i _ (List.getElem?_eq_getElem hlt) j v hv
  rwa [← Nat.add_assoc] at this

/-- an act: what, how many, which, and bytes -/
structure BAct where
  kind : Int
  n : Int
  v : Int
  at_ : Option Addr
  len : Nat
  cap : Nat
  bs : List UInt8
def BAct.cells (a : BAct) : List Value := [.int .i64 a.kind, .int .i64 a.n, .int .i64 a.v, .slice a.at_ a.len a.cap]
def InBActs (W : World) (A : Option Addr) (n c : Nat) (l : List BAct) : Prop :=
  InElems W 4 A n c (l.map BAct.cells) ∧ ∀ a ∈ l, (Lit.int .i64 a.kind).wf = true ∧ (Lit.int .i64 a.n).wf = true ∧ (Lit.int .i64 a.v).wf = true ∧ InBytes W a.at_ a.len a.cap a.bs
theorem InBActs.keep {W W' : World} {A : Option Addr} {n c : Nat} {l : List BAct} (h : InBActs W A n c l) (hf : Fresh W W') : InElems W' 4 A n c (l.map BAct.cells) := h.1.keep hf

theorem inBActs_of {H : Type} {enc : TypeId × Value → H} {P : Program} {W : World} {base : Nat} {held : Bool} {t e ti tb t8 : TypeId} {o0 o1 o2 o3 : Field} {fuel : Nat} {cs : List Value} {x : DataW H × List MemPlace}
    (ht : P.underlying t = some (.slice e)) (he : P.underlying e = some (.struct #[o0, o1, o2, o3])) (hone : oneCellFields P #[o0, o1, o2, o3] = true) (hC : P.cellsOf e = 4)
    (h0 : P.underlying o0.type = some (.int .i64)) (h1 : P.underlying o1.type = some (.int .i64)) (h2 : P.underlying o2.type = some (.int .i64)) (h3 : P.underlying o3.type = some (.slice t8)) (h8 : P.underlying t8 = some (.int .u8)) (h8c : P.cellsOf t8 = 1)
    (h : DataW.trod enc P W base (fun _ => true) held fuel t cs = some x) : ∃ A n c l, cs = [.slice A n c] ∧ InBActs W A n c l := by
  rcases elems_of ht he hone hC h with rfl | ⟨a, len, cap, ls, rfl, hl, hm, hls, hE⟩
  · exact ⟨none, 0, 0, [], rfl, InElems.nil _ _, fun a ha => by cases ha⟩
  · have hin := InElems.some_ hl hm hls hE (by simp)
    obtain ⟨l, hll, hlr⟩ := list_of (R := fun i (b : BAct) => ls[i]? = some b.cells ∧ (Lit.int .i64 b.kind).wf = true ∧ (Lit.int .i64 b.n).wf = true ∧ (Lit.int .i64 b.v).wf = true ∧ InBytes W b.at_ b.len b.cap b.bs) len fun i hi => by
      have hvs : ls[i]? = some (ls[i]'(by omega)) := List.getElem?_eq_getElem (by omega)
      obtain ⟨hlen, _, hf⟩ := hE i _ hvs
      generalize ls[i]'(by omega) = vs at *
      match vs, hlen with
      | [v0, v1, v2, v3], _ =>
        obtain ⟨_, _, e0⟩ := hf 0 o0 v0 rfl rfl
        obtain ⟨_, _, e1⟩ := hf 1 o1 v1 rfl rfl
        obtain ⟨_, _, e2⟩ := hf 2 o2 v2 rfl rfl
        obtain ⟨_, _, e3⟩ := hf 3 o3 v3 rfl rfl
        obtain ⟨z0, hz0, _, w0⟩ := DataW.trod_int h0 e0
        obtain ⟨z1, hz1, _, w1⟩ := DataW.trod_int h1 e1
        obtain ⟨z2, hz2, _, w2⟩ := DataW.trod_int h2 e2
        obtain ⟨A3, n3, c3, zs, hv3, r3⟩ : ∃ A3 n3 c3 zs, v3 = .slice A3 n3 c3 ∧ InRow .u8 W A3 n3 c3 zs := by
          rcases open_ints h3 h8 h8c e3 with ⟨hcs, _⟩ | ⟨x, l, c, zs, hcs, _, hl, hm, hz, _, hcell, hwz⟩
          · simp at hcs
            exact ⟨_, _, _, [], hcs, InRow.nil _ _⟩
          · simp at hcs
            exact ⟨_, _, _, _, hcs, InRow.some_ hl hm (by simpa using hz) hcell hwz⟩
        obtain ⟨xs, hb⟩ := r3.bytes
        simp at hz0 hz1 hz2
        subst hz0; subst hz1; subst hz2; subst hv3
        exact ⟨⟨z0, z1, z2, A3, n3, c3, xs⟩, hvs, w0, w1, w2, hb⟩
    have hmap : l.map BAct.cells = ls := by
      refine List.ext_getElem? fun i => ?_
      by_cases hi : i < len
      · have hget : l[i]? = some (l[i]'(by omega)) := List.getElem?_eq_getElem (by omega)
        rw [List.getElem?_map, hget, (hlr i _ hget).1]
        rfl
      · rw [List.getElem?_eq_none (by simp; omega), List.getElem?_eq_none (by omega)]
    refine ⟨some a, len, cap, l, rfl, by rw [hmap]; exact hin, fun b hb => ?_⟩
    obtain ⟨i, hi⟩ := List.getElem?_of_mem hb
    exact (hlr i b hi).2
end Go.Proofs.YtmnegmebkmihhaaGreatDoor.base
/-
  A slice of items that came in. My own text.
-/
namespace Go.Proofs.YtmnegmebkmihhaaGreatDoor.zipp
open Go.RowKit Go.WideShapes Go.Proofs.YtmnegmebkmihhaaGreatDoor.base Go.Proofs.YtmnegmebkmihhaaGreatDoor.num
set_option linter.unusedVariables false
/-- a slice of items that came in -/
def InItms (W : World) (A : Option Addr) (n c : Nat) (l : List Itm) : Prop :=
  ItmsAt W W.heap.size A n l ∧ n ≤ c ∧ c ≤ maxLen ∧ ∀ i ∈ l, (-9223372036854775808 ≤ i.dt ∧ i.dt ≤ 9223372036854775807) ∧ (-9223372036854775808 ≤ i.how ∧ i.how ≤ 9223372036854775807) ∧ i.n ≤ i.c ∧ i.c ≤ maxLen ∧ i.s.size ≤ maxLen
theorem inItms_of {H : Type} {enc : TypeId × Value → H} {P : Program} {W : World} {base : Nat} {held : Bool} {t e t8 : TypeId} {o0 o1 o2 o3 o4 o5 : Field} {fuel : Nat} {cs : List Value} {x : DataW H × List MemPlace}
    (ht : P.underlying t = some (.slice e)) (he : P.underlying e = some (.struct #[o0, o1, o2, o3, o4, o5])) (hone : Deep.oneCellFields P #[o0, o1, o2, o3, o4, o5] = true) (hC : P.cellsOf e = 6)
    (h0 : P.underlying o0.type = some .string) (h1 : P.underlying o1.type = some (.int .i64)) (h2 : P.underlying o2.type = some (.slice t8)) (h8 : P.underlying t8 = some (.int .u8)) (h8c : P.cellsOf t8 = 1) (h3 : P.underlying o3.type = some (.int .i64)) (h4 : P.underlying o4.type = some .bool) (h5 : P.underlying o5.type = some .bool)
    (h : DataW.trod enc P W base (fun _ => true) held fuel t cs = some x) : ∃ A n c l, cs = [.slice A n c] ∧ InItms W A n c l := by
  rcases elems_of ht he hone hC h with rfl | ⟨a, len, cap, ls, rfl, hl, hm, hls, hE⟩
  · exact ⟨none, 0, 0, [], rfl, ⟨rfl, fun h => absurd h (by omega), fun s hs => by cases hs⟩, Nat.le_refl _, by unfold maxLen; omega, fun a ha => by cases ha⟩
  · have hin := InElems.some_ hl hm hls hE (by simp)
    obtain ⟨l, hll, hlr⟩ := list_of (R := fun i (b : Itm) => ls[i]? = some (itmV b) ∧ (-9223372036854775808 ≤ b.dt ∧ b.dt ≤ 9223372036854775807) ∧ (-9223372036854775808 ≤ b.how ∧ b.how ≤ 9223372036854775807) ∧ b.n ≤ b.c ∧ b.c ≤ maxLen ∧ b.s.size ≤ maxLen ∧ Rd W W.heap.size b.A b.n (b.bs.map bv)) len fun i hi => by
      have hvs : ls[i]? = some (ls[i]'(by omega)) := List.getElem?_eq_getElem (by omega)
      obtain ⟨hlen, _, hf⟩ := hE i _ hvs
      generalize ls[i]'(by omega) = vs at *
      match vs, hlen with
      | [v0, v1, v2, v3, v4, v5], _ =>
        obtain ⟨_, _, e0⟩ := hf 0 o0 v0 rfl rfl
        obtain ⟨_, _, e1⟩ := hf 1 o1 v1 rfl rfl
        obtain ⟨_, _, e2⟩ := hf 2 o2 v2 rfl rfl
        obtain ⟨_, _, e3⟩ := hf 3 o3 v3 rfl rfl
        obtain ⟨_, _, e4⟩ := hf 4 o4 v4 rfl rfl
        obtain ⟨_, _, e5⟩ := hf 5 o5 v5 rfl rfl
        obtain ⟨s0, hs0, _, w0⟩ := DataW.trod_string h0 e0
        obtain ⟨z1, hz1, _, w1⟩ := DataW.trod_int h1 e1
        obtain ⟨z3, hz3, _, w3⟩ := DataW.trod_int h3 e3
        obtain ⟨b4, hb4, _⟩ := DataW.trod_bool h4 e4
        obtain ⟨b5, hb5, _⟩ := DataW.trod_bool h5 e5
        obtain ⟨A2, n2, c2, zs, hv2, r2⟩ : ∃ A2 n2 c2 zs, v2 = .slice A2 n2 c2 ∧ InRow .u8 W A2 n2 c2 zs := by
          rcases ChangeShapes.open_ints h2 h8 h8c e2 with ⟨hcs, _⟩ | ⟨x, l, c, zs, hcs, _, hl, hm, hz, _, hcell, hwz⟩
          · simp at hcs
            exact ⟨_, _, _, [], hcs, InRow.nil _ _⟩
          · simp at hcs
            exact ⟨_, _, _, _, hcs, InRow.some_ hl hm (by simpa using hz) hcell hwz⟩
        obtain ⟨xs, hb⟩ := r2.bytes
        have hk1 : -9223372036854775808 ≤ z1 ∧ z1 ≤ 9223372036854775807 := by simpa [Lit.wf, IntKind.min, IntKind.max, IntKind.signed, IntKind.bits] using w1
        have hk3 : -9223372036854775808 ≤ z3 ∧ z3 ≤ 9223372036854775807 := by simpa [Lit.wf, IntKind.min, IntKind.max, IntKind.signed, IntKind.bits] using w3
        simp at hs0 hz1 hz3 hb4 hb5
        subst hs0; subst hz1; subst hz3; subst hb4; subst hb5; subst hv2
        exact ⟨⟨s0, z1, A2, n2, c2, xs, z3, b4, b5⟩, hvs, hk1, hk3, hb.2.1, hb.2.2, w0, hb.1⟩
    have hmap : l.map itmV = ls := by
      refine List.ext_getElem? fun i => ?_
      by_cases hi : i < len
      · have hget : l[i]? = some (l[i]'(by omega)) := List.getElem?_eq_getElem (by omega)
        rw [List.getElem?_map, hget, (hlr i _ hget).1]
        rfl
      · rw [List.getElem?_eq_none (by simp; omega), List.getElem?_eq_none (by omega)]
    have hall : ∀ b ∈ l, ∃ i, l[i]? = some b := fun b hb => List.getElem?_of_mem hb
    refine ⟨some a, len, cap, l, rfl, ⟨hll, fun hn => ?_, fun s hs => ?_⟩, hl, hm, fun b hb => ?_⟩
    · obtain ⟨b, off, e1, hb, hc⟩ := hin.2.2.2 hn
      refine ⟨b, off, e1, hb, fun i s hs j v hv => ?_⟩
      have h1 := hc i (itmV s) (by rw [← hmap, List.getElem?_map, hs]; rfl) j v hv
      rw [← Nat.add_assoc] at h1
      exact h1
    · obtain ⟨i, hi⟩ := hall s hs
      exact (hlr i s hi).2.2.2.2.2.2
    · obtain ⟨i, hi⟩ := hall b hb
      have := hlr i b hi
      exact ⟨this.2.1, this.2.2.1, this.2.2.2.1, this.2.2.2.2.1, this.2.2.2.2.2.1⟩
end Go.Proofs.YtmnegmebkmihhaaGreatDoor.zipp
/-
  What ZipSizes' walk takes: items made plain, rows of items, a text's bytes. My own text.
-/
namespace Go.Proofs.YtmnegmebkmihhaaGreatDoor.zipp
open Go.RowKit Go.Maps Go.Proofs.YtmnegmebkmihhaaGreatDoor.base Go.Proofs.YtmnegmebkmihhaaGreatDoor.num Go.Proofs.YtmnegmebkmihhaaGreatDoor.recn Go.Proofs.YtmnegmebkmihhaaGreatDoor.recp Go.Proofs.YtmnegmebkmihhaaGreatDoor.nam Go.Proofs.YtmnegmebkmihhaaGreatDoor.namp Go.Proofs.YtmnegmebkmihhaaGreatDoor.zipn
set_option linter.unusedVariables false
def ownI (i : Itm) : Itm := ⟨i.s, i.dt, i.A, i.n, i.c, i.bs, 0, false, false⟩
theorem pl_of (i : Itm) (hm : mayR i = true) (hn : i.n ≤ 2000) (hl : i.bs.length = i.n) : ∃ x, IsPl (ownI i) x := by
  unfold mayR at hm
  simp only [Bool.and_eq_true, decide_eq_true_eq] at hm
  obtain ⟨h0, h1, hr, hmay, _, _⟩ := hm
  obtain ⟨rs, u, hrn, ht, hu⟩ := read_or i.s.data.toList
  have hmp : mayP rs u = true := by rw [unzp.mayP_is rs u hrn hu, ← ht]; exact hmay
  have hu0 : u = [] := by
    unfold mayP at hmp
    simp only [Bool.and_eq_true, decide_eq_true_eq] at hmp
    exact hmp.2.2.1
  subst hu0
  rw [List.append_nil] at ht
  refine ⟨⟨rs, i.dt.toNat, i.bs⟩, ht, ?_, rfl, rfl, rfl, rfl, hrn, hmp, ?_, ?_⟩
  · show i.dt = ((i.dt.toNat : Nat) : Int)
    omega
  · show dosnum.Right (dosnum.parts ((i.dt.toNat : Nat) : Int))
    rw [show ((i.dt.toNat : Nat) : Int) = i.dt by omega]
    exact hr
  · show i.bs.length ≤ 65536
    omega
theorem itemInfo : (Tryz.prog.info? tItem).map (fun i => (i.zero, i.size, i.bytes)) = some (some (.agg #[.string ⟨#[]⟩, .int .i64 0, .slice none 0 0, .int .i64 0, .bool false, .bool false]), 6, 64) := by kernel_rfl
theorem itms_own {w : World} {base n c : Nat} {A : Option Addr} {l : List Itm} (h : OwnK w base tItem 6 A n c itmV l) (hd : ∀ s ∈ l, Rd w w.heap.size s.A s.n (s.bs.map bv)) : ItmsAt w w.heap.size A n l := by
  have hlen := h.len itmV_len (by omega)
  refine ⟨hlen, fun hn => ?_, hd⟩
  obtain ⟨g, he, hg⟩ : ∃ g, A = some ⟨g, 0, none⟩ ∧ (Value.slice A n c).ownBlock = some g := by
    rcases h.2 with ⟨hv, h0⟩ | ⟨g, cap, cur, hv, _⟩
    · omega
    · injection hv with h1 _ _
      exact ⟨g, h1, by rw [h1]; rfl⟩
  obtain ⟨_, hlt, _⟩ := h.block g hg
  refine ⟨g, 0, he, hlt, fun i s hs => ?_⟩
  obtain ⟨g', he', _, _, hr⟩ := h.at_ itmV_len (by omega) hs
  rw [he] at he'
  injection he' with he'
  injection he' with he' _ _
  subst he'
  rw [Nat.zero_add]
  exact hr
theorem bytes_run (s : ByteArray) (W : World) (hm : s.size ≤ maxLen) : ∃ A c W', (convert 9 25 (.string s)).run Tryz.prog W = .ok (.slice A s.size c) W' ∧ Fresh W W' ∧ Rd W' W'.heap.size A s.size (s.data.toList.map bv) ∧ s.size ≤ c ∧ c ≤ maxLen := by
  have hrun := run_bytes_of_string (P := Tryz.prog) W 9 25 5 s Tryz.underlying9 Tryz.underlying25 Tryz.underlying5
  refine ⟨_, _, _, hrun, (Fresh.drew W).trans (Fresh.alloc _ _), ⟨by rw [List.length_map]; exact Array.length_toList (xs := s.data), fun hpos => ⟨W.heap.size, 0, rfl, by simp, fun j u hu => ?_⟩⟩, grownCap_ge W s.size 0 _, grownCap_le_maxLen W s.size 0 _ (by omega)⟩
  rw [Nat.zero_add]
  have hj : j < s.data.size := by
    have := (List.getElem?_eq_some_iff.1 hu).1
    rw [List.length_map] at this
    rwa [Array.length_toList] at this
  have hcell := cell_of_row (W.drew.alloc (.cells (bytesRow s (grownCap W s.size 0 5)) 5 ((bytesRow s (grownCap W s.size 0 5)).size, (bytesRow s (grownCap W s.size 0 5)).size + 1))) W.heap.size j _ 5 _ (heap_alloc_new W.drew _)
  rw [hcell, bytesRow_at s _ j hj, ← hu, List.getElem?_map, List.getElem?_eq_getElem (by simpa using hj)]
  simp
abbrev tName9 : TypeId := 53
theorem field0 (A : Option Addr) (m c : Nat) (b : Bool) (W : World) : (Instr.field tName9 (.agg #[.slice A m c, .bool b]) 0).run Tryz.prog W = .ok (.slice A m c) W := by
  kernel_rfl
end Go.Proofs.YtmnegmebkmihhaaGreatDoor.zipp
