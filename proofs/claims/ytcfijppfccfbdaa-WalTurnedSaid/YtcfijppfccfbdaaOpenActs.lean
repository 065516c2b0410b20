/-
  A slice of structs of one-cell fields that came in, element by element; the acts of layer 4's statements. My own text.
-/
import Derived.Test.YtcfijppfccfbdaaOpenRows
import Derived.Deep.Slices
import Derived.Deep.Fields
import Derived.Deep.MidRow
import Derived.ChangeSame
namespace Go.Proofs.Ytcfijppfccfbdaa.base
open Go.RowKit Go.ChangeShapes Go.WideShapes Go.Deep
set_option linter.unusedVariables false

theorem list_of {α : Type} {R : Nat → α → Prop} : ∀ (n : Nat), (∀ i, i < n → ∃ a, R i a) → ∃ l : List α, l.length = n ∧ ∀ i a, l[i]? = some a → R i a
  | 0, _ => ⟨[], rfl, fun i a h => by simp at h⟩
  | n + 1, h => by
    obtain ⟨l, hl, hr⟩ := list_of n fun i hi => h i (by omega)
    obtain ⟨a, ha⟩ := h n (by omega)
    refine ⟨l ++ [a], by simp [hl], fun i x hx => ?_⟩
    by_cases hi : i < n
    · rw [List.getElem?_append_left (by omega)] at hx
      exact hr i x hx
    · have hle : i < (l ++ [a]).length := (List.getElem?_eq_some_iff.1 hx).1
      have : i = n := by simp at hle; omega
      subst this
      rw [List.getElem?_append_right (by omega), hl, Nat.sub_self] at hx
      simp only [List.getElem?_cons_zero, Option.some.injEq] at hx
      subst hx
      exact ha

section
variable {H : Type} {enc : TypeId × Value → H} {P : Program} {w : World} {base : Nat} {spare : Nat → Bool} {held : Bool}
/-- one element, by its cells -/
def Elem (enc : TypeId × Value → H) (P : Program) (w : World) (base : Nat) (spare : Nat → Bool) (held : Bool) (fs : Array Field) (a : Addr) (i : Nat) (vs : List Value) : Prop :=
  vs.length = fs.size ∧ (∀ j v, vs[j]? = some v → w.cell? (a.add (i * fs.size + j)) = some v) ∧
    ∀ (j : Nat) (f : Field) (v : Value), fs[j]? = some f → vs[j]? = some v → ∃ m y, DataW.trod enc P w base spare held m f.type [v] = some y
theorem elems_of {t e : TypeId} {fs : Array Field} {fuel : Nat} {cs : List Value} {x : DataW H × List MemPlace} (ht : P.underlying t = some (.slice e)) (he : P.underlying e = some (.struct fs))
    (hone : oneCellFields P fs = true) (hC : P.cellsOf e = fs.size) (h : DataW.trod enc P w base (fun _ => true) held fuel t cs = some x) :
    cs = [.slice none 0 0] ∨ ∃ (a : Addr) (len cap : Nat) (ls : List (List Value)), cs = [.slice (some a) len cap] ∧ len ≤ cap ∧ cap ≤ maxLen ∧ ls.length = len ∧ ∀ i vs, ls[i]? = some vs → Elem enc P w base (fun _ => true) held fs a i vs := by
  rcases open_slice ht h with h0 | ⟨a, len, cap, m, n, D, Pl, hcs, hb, hl, hm, hmm, hx, hi⟩
  · exact .inl h0.1
  · rw [if_pos rfl] at hmm
    obtain ⟨ls, h1, h2⟩ := list_of (R := fun i vs => Elem enc P w base (fun _ => true) held fs a i vs) len fun i him => by
      obtain ⟨cs', hc, ht'⟩ := hi i (by omega)
      rw [hC] at hc
      obtain ⟨ys, n', _, _, _, hyl, hf⟩ := DataW.trod_struct he ht'
      obtain ⟨_, hcl, hat⟩ := World.cells?_some hc
      refine ⟨cs', hcl, fun j v hv => ?_, fun j f v hj hv => ?_⟩
      · have hjl : j < fs.size := by rw [← hcl]; exact (List.getElem?_eq_some_iff.1 hv).1
        rw [← add_add, hat j hjl, hv]
      · obtain ⟨ho, hk⟩ := hone_of hone j f hj
        have hjl : j < fs.size := (Array.getElem?_eq_some_iff.1 hj).1
        have h1 := hf j f hj
        have hone' : (cs'.drop j).take 1 = [v] := by
          obtain ⟨hlt, hget⟩ := List.getElem?_eq_some_iff.1 hv
          rw [List.drop_eq_getElem_cons hlt, hget]
          rfl
        rw [ho, hk, hone'] at h1
        exact ⟨_, _, h1.trans (List.getElem?_eq_getElem (by omega))⟩
    exact .inr ⟨a, len, cap, ls, hcs, hl, hm, h1, h2⟩
end

/-- a slice of elements of k cells each that came in -/
def InElems (W : World) (k : Nat) (A : Option Addr) (n c : Nat) (ls : List (List Value)) : Prop :=
  ls.length = n ∧ n ≤ c ∧ c ≤ maxLen ∧ (0 < n → ∃ b off, A = some ⟨b, off, none⟩ ∧ b < W.heap.size ∧ ∀ i vs, ls[i]? = some vs → ∀ j v, vs[j]? = some v → W.cell? ⟨b, off + (i * k + j), none⟩ = some v)
theorem InElems.nil (W : World) (k : Nat) : InElems W k none 0 0 [] := ⟨rfl, Nat.le_refl _, by unfold maxLen; omega, fun h => absurd h (by omega)⟩
theorem InElems.some_ {H : Type} {enc : TypeId × Value → H} {P : Program} {W : World} {base : Nat} {spare : Nat → Bool} {held : Bool} {fs : Array Field} {a : Addr} {len cap : Nat} {ls : List (List Value)} (hl : len ≤ cap) (hm : cap ≤ maxLen) (hls : ls.length = len)
    (h : ∀ i vs, ls[i]? = some vs → Elem enc P W base spare held fs a i vs) (h0 : 0 < fs.size) : InElems W fs.size (some a) len cap ls := by
  refine ⟨hls, hl, hm, fun hn => ?_⟩
  obtain ⟨b, off, spot⟩ := a
  have hvs : ls[0]? = some (ls[0]'(by omega)) := List.getElem?_eq_getElem (by omega)
  obtain ⟨hlen, hcell, _⟩ := h 0 _ hvs
  have hc := hcell 0 _ (List.getElem?_eq_getElem (by omega))
  have hspot : spot = none := by simpa [Addr.add] using World.cell?_spot hc
  subst hspot
  have hlt := World.block_lt_of_cell? W _ hc
  refine ⟨b, off, rfl, by simpa [Addr.add] using hlt, fun i vs hi j v hv => ?_⟩
  have h2 := (h i vs hi).2.1 j v hv
  have hadd : (⟨b, off, none⟩ : Addr).add (i * fs.size + j) = ⟨b, off + (i * fs.size + j), none⟩ := by unfold Addr.add; split <;> simp_all
  rwa [hadd] at h2
theorem InElems.keep {W W' : World} {k : Nat} {A : Option Addr} {n c : Nat} {ls : List (List Value)} (h : InElems W k A n c ls) (hf : Fresh W W') : InElems W' k A n c ls := by
  refine ⟨h.1, h.2.1, h.2.2.1, fun hn => ?_⟩
  obtain ⟨b, off, hA, hb, hc⟩ := h.2.2.2 hn
  exact ⟨b, off, hA, Nat.lt_of_lt_of_le hb hf.size, fun i vs hi j v hv => (World.cell?_of_block (hf.block b hb)).trans (hc i vs hi j v hv)⟩
/-- an element, for the walk -/
theorem InElems.at_ {W : World} {k : Nat} {A : Option Addr} {n c : Nat} {ls : List (List Value)} (h : InElems W k A n c ls) {i : Nat} (hi : i < n) :
    ∃ b off vs, A = some ⟨b, off, none⟩ ∧ ls[i]? = some vs ∧ W.rangeAt b (off + i * k) vs := by
  obtain ⟨b, off, hA, hb, hc⟩ := h.2.2.2 (by omega)
  have hlt : i < ls.length := by rw [h.1]; exact hi
  refine ⟨b, off, ls[i], hA, List.getElem?_eq_getElem hlt, fun j v hv => ?_⟩
  have := hc i _ (List.getElem?_eq_getElem hlt) j v hv
  rwa [← Nat.add_assoc] at this

/-- an act: what, how many, which, and bytes -/
structure BAct where
  kind : Int
  n : Int
  v : Int
  at_ : Option Addr
  len : Nat
  cap : Nat
  bs : List UInt8
def BAct.cells (a : BAct) : List Value := [.int .i64 a.kind, .int .i64 a.n, .int .i64 a.v, .slice a.at_ a.len a.cap]
def InBActs (W : World) (A : Option Addr) (n c : Nat) (l : List BAct) : Prop :=
  InElems W 4 A n c (l.map BAct.cells) ∧ ∀ a ∈ l, (Lit.int .i64 a.kind).wf = true ∧ (Lit.int .i64 a.n).wf = true ∧ (Lit.int .i64 a.v).wf = true ∧ InBytes W a.at_ a.len a.cap a.bs
theorem InBActs.keep {W W' : World} {A : Option Addr} {n c : Nat} {l : List BAct} (h : InBActs W A n c l) (hf : Fresh W W') : InElems W' 4 A n c (l.map BAct.cells) := h.1.keep hf

theorem inBActs_of {H : Type} {enc : TypeId × Value → H} {P : Program} {W : World} {base : Nat} {held : Bool} {t e ti tb t8 : TypeId} {o0 o1 o2 o3 : Field} {fuel : Nat} {cs : List Value} {x : DataW H × List MemPlace}
    (ht : P.underlying t = some (.slice e)) (he : P.underlying e = some (.struct #[o0, o1, o2, o3])) (hone : oneCellFields P #[o0, o1, o2, o3] = true) (hC : P.cellsOf e = 4)
    (h0 : P.underlying o0.type = some (.int .i64)) (h1 : P.underlying o1.type = some (.int .i64)) (h2 : P.underlying o2.type = some (.int .i64)) (h3 : P.underlying o3.type = some (.slice t8)) (h8 : P.underlying t8 = some (.int .u8)) (h8c : P.cellsOf t8 = 1)
    (h : DataW.trod enc P W base (fun _ => true) held fuel t cs = some x) : ∃ A n c l, cs = [.slice A n c] ∧ InBActs W A n c l := by
  rcases elems_of ht he hone hC h with rfl | ⟨a, len, cap, ls, rfl, hl, hm, hls, hE⟩
  · exact ⟨none, 0, 0, [], rfl, InElems.nil _ _, fun a ha => by cases ha⟩
  · have hin := InElems.some_ hl hm hls hE (by simp)
    obtain ⟨l, hll, hlr⟩ := list_of (R := fun i (b : BAct) => ls[i]? = some b.cells ∧ (Lit.int .i64 b.kind).wf = true ∧ (Lit.int .i64 b.n).wf = true ∧ (Lit.int .i64 b.v).wf = true ∧ InBytes W b.at_ b.len b.cap b.bs) len fun i hi => by
      have hvs : ls[i]? = some (ls[i]'(by omega)) := List.getElem?_eq_getElem (by omega)
      obtain ⟨hlen, _, hf⟩ := hE i _ hvs
      generalize ls[i]'(by omega) = vs at *
      match vs, hlen with
      | [v0, v1, v2, v3], _ =>
        obtain ⟨_, _, e0⟩ := hf 0 o0 v0 rfl rfl
        obtain ⟨_, _, e1⟩ := hf 1 o1 v1 rfl rfl
        obtain ⟨_, _, e2⟩ := hf 2 o2 v2 rfl rfl
        obtain ⟨_, _, e3⟩ := hf 3 o3 v3 rfl rfl
        obtain ⟨z0, hz0, _, w0⟩ := DataW.trod_int h0 e0
        obtain ⟨z1, hz1, _, w1⟩ := DataW.trod_int h1 e1
        obtain ⟨z2, hz2, _, w2⟩ := DataW.trod_int h2 e2
        obtain ⟨A3, n3, c3, zs, hv3, r3⟩ : ∃ A3 n3 c3 zs, v3 = .slice A3 n3 c3 ∧ InRow .u8 W A3 n3 c3 zs := by
          rcases open_ints h3 h8 h8c e3 with ⟨hcs, _⟩ | ⟨x, l, c, zs, hcs, _, hl, hm, hz, _, hcell, hwz⟩
          · simp at hcs
            exact ⟨_, _, _, [], hcs, InRow.nil _ _⟩
          · simp at hcs
            exact ⟨_, _, _, _, hcs, InRow.some_ hl hm (by simpa using hz) hcell hwz⟩
        obtain ⟨xs, hb⟩ := r3.bytes
        simp at hz0 hz1 hz2
        subst hz0; subst hz1; subst hz2; subst hv3
        exact ⟨⟨z0, z1, z2, A3, n3, c3, xs⟩, hvs, w0, w1, w2, hb⟩
    have hmap : l.map BAct.cells = ls := by
      refine List.ext_getElem? fun i => ?_
      by_cases hi : i < len
      · have hget : l[i]? = some (l[i]'(by omega)) := List.getElem?_eq_getElem (by omega)
        rw [List.getElem?_map, hget, (hlr i _ hget).1]
        rfl
      · rw [List.getElem?_eq_none (by simp; omega), List.getElem?_eq_none (by omega)]
    refine ⟨some a, len, cap, l, rfl, by rw [hmap]; exact hin, fun b hb => ?_⟩
    obtain ⟨i, hi⟩ := List.getElem?_of_mem hb
    exact (hlr i b hi).2
end Go.Proofs.Ytcfijppfccfbdaa.base
