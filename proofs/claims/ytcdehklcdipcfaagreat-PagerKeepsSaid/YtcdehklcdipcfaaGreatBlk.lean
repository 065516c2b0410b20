/-
  A block that is known whole: plain lemmas on worlds, over any program. My own text.
-/
import Derived.Test.YtcdehklcdipcfaaGreatBase
import Derived.Laws.Tables
import Derived.Laws.Rows
namespace Go.Proofs.YtcdehklcdipcfaaGreat.base
open Go.RowKit
set_option linter.unusedVariables false

/-- block g holds just the cells cs of type t, all of them free to be written -/
def Bk (w : World) (g : Nat) (t : TypeId) (cs : List Value) : Prop := w.heap[g]? = some (.cells cs.toArray t (0, 0))

section
variable {w w' : World} {g : Nat} {t : TypeId} {cs : List Value}
theorem Bk.inside (h : Bk w g t cs) : g < w.heap.size := (Array.getElem?_eq_some_iff.1 h).1
theorem Bk.cell (h : Bk w g t cs) {i : Nat} {v : Value} (hv : cs[i]? = some v) : w.cell? ⟨g, i, none⟩ = some v := by
  rw [cell_of_row w g i _ t (0, 0) h, ← hv, List.getElem?_toArray]
theorem Bk.free (h : Bk w g t cs) (i : Nat) : w.frozen? ⟨g, i, none⟩ = false := by
  have h' : w.heap[g]? = some (.cells cs.toArray t (0, 0)) := h
  simp [World.frozen?, h']
theorem Bk.made (w : World) (t : TypeId) (cs : Array Value) : Bk (w.alloc (.cells cs t)) w.heap.size t cs.toList := by
  have := heap_alloc_new w (.cells cs t)
  simpa [Bk] using this
theorem Bk.old (h : Bk w g t cs) (hk : w'.heap[g]? = w.heap[g]?) : Bk w' g t cs := hk.trans h
theorem Bk.alloc (h : Bk w g t cs) (o : Obj) : Bk (w.alloc o) g t cs := h.old (Below.heap_alloc w o g h.inside)
theorem Bk.below {B : Nat} (h : Bk w g t cs) (hb : Below B w w') (hg : g < B) : Bk w' g t cs := h.old (hb.block g hg)
theorem Bk.fresh (h : Bk w g t cs) (hb : Fresh w w') : Bk w' g t cs := h.below hb h.inside
theorem Bk.put (h : Bk w g t cs) (i : Nat) (u : Value) : Bk (w.setCell ⟨g, i, none⟩ u) g t (cs.set i u) := by
  have h' : w.heap[g]? = some (.cells cs.toArray t (0, 0)) := h
  simp [Bk, World.setCell, Array.getElem?_modify, h']
theorem Bk.apart (h : Bk w g t cs) {p : Addr} (hp : g ≠ p.block) (u : Value) : Bk (w.setCell p u) g t cs := h.old (Below.heap_setCell w p u g hp)
theorem Bk.row (h : Bk w g t cs) (c : Array Value) : Bk (w.setRow g c) g t c.toList := by
  have h' : w.heap[g]? = some (.cells cs.toArray t (0, 0)) := h
  simp [Bk, World.setRow, Array.getElem?_modify, h']
end

/-- a new block reads as what was laid, whatever is frozen in it -/
theorem Rd.mark (w : World) (cs : Array Value) (e : TypeId) (fr : Nat × Nat) : Rd (w.alloc (.cells cs e fr)) (w.heap.size + 1) (some ⟨w.heap.size, 0, none⟩) cs.size cs.toList := by
  refine ⟨by simp, fun hn => ⟨w.heap.size, 0, rfl, by omega, fun j u hu => ?_⟩⟩
  rw [Nat.zero_add, cell_of_row (w.alloc (.cells cs e fr)) w.heap.size j cs e fr (heap_alloc_new w _)]
  simpa using hu

/-- only block g, and what is new since, has turned -/
def But (g : Nat) (w w' : World) : Prop := w.grownBy w' (some g)
theorem But.refl (g : Nat) (w : World) : But g w w := World.grownBy.refl w _
theorem But.trans {g : Nat} {a b c : World} (h : But g a b) (k : But g b c) : But g a c :=
  ⟨k.os.trans h.os, k.tape.trans h.tape, k.output.trans h.output, Nat.le_trans h.size k.size, fun i hi hne => (k.block i (Nat.lt_of_lt_of_le hi h.size) hne).trans (h.block i hi hne)⟩
theorem But.of_fresh {g : Nat} {a b : World} (h : Fresh a b) : But g a b := ⟨h.os, h.tape, h.output, h.size, fun i hi _ => h.block i hi⟩
theorem But.drewN {g : Nat} (w : World) (n : Nat) : But g w (w.drewN n) := But.of_fresh (Fresh.drewN w n)
theorem But.put {g i : Nat} (w : World) (u : Value) : But g w (w.setCell ⟨g, i, none⟩ u) :=
  ⟨rfl, rfl, rfl, by simp [World.setCell], fun k hk hne => Below.heap_setCell w ⟨g, i, none⟩ u k (fun e => hne (by rw [e]))⟩
theorem But.row (g : Nat) (w : World) (c : Array Value) : But g w (w.setRow g c) :=
  ⟨rfl, rfl, rfl, by simp [World.setRow], fun k hk hne => by
    have : g ≠ k := fun e => hne (by rw [e])
    simp [World.setRow, Array.getElem?_modify, this]⟩
/-- seen from ahead of the block's making, nothing has turned -/
theorem Fresh.but {g : Nat} {a b c : World} (h : Fresh a b) (hg : a.heap.size ≤ g) (k : But g b c) : Fresh a c :=
  ⟨k.os.trans h.os, k.tape.trans h.tape, k.output.trans h.output, Nat.le_trans h.size k.size, fun i hi => (k.block i (Nat.lt_of_lt_of_le hi h.size) (fun e => by injection e; omega)).trans (h.block i hi)⟩
theorem Rd.but {w w' : World} {B n g : Nat} {A : Option Addr} {xs : List Value} (h : Rd w B A n xs) (hB : B ≤ w.heap.size) (hg : B ≤ g) (k : But g w w') : Rd w' B A n xs :=
  h.keep fun i hi => k.block i (by omega) (fun e => by injection e; omega)

/-- blocks of unlike element types are not one -/
theorem Own.ne_block {w : World} {base g n c : Nat} {e t : TypeId} {A : Option Addr} {xs cs : List Value} (h : Own w base e A n c xs) (hb : Bk w g t cs) (hne : e ≠ t) : (Value.slice A n c).ownBlock ≠ some g := by
  rcases h.2 with ⟨hv, _⟩ | ⟨g', cap, cur, hv, _, hh, _⟩
  · rw [hv]; simp [Value.ownBlock]
  · rw [hv]
    intro he
    simp only [Value.ownBlock, Option.some.injEq] at he
    subst he
    have hb' : w.heap[g']? = some (.cells cs.toArray t (0, 0)) := hb
    rw [hh] at hb'
    injection hb' with hb'
    injection hb' with _ ht
    exact hne ht
theorem Own.but {w w' : World} {base g n c : Nat} {e : TypeId} {A : Option Addr} {xs : List Value} (h : Own w base e A n c xs) (k : But g w w') (hne : (Value.slice A n c).ownBlock ≠ some g) : Own w' base e A n c xs :=
  World.ownsRow.kept h k (.inr hne)
theorem Bk.grown {w w' : World} {g : Nat} {t : TypeId} {cs : List Value} {row : Option Nat} (h : Bk w g t cs) (hg : w.grownBy w' row) (hne : row ≠ some g) : Bk w' g t cs :=
  h.old (hg.block g h.inside fun e => hne e.symm)

/-- a slice of slices of bytes: address, length, capacity, and what it reads -/
structure Row where
  at_ : Option Addr
  len : Nat
  cap : Nat
  bs : List UInt8
def Row.val (r : Row) : Value := .slice r.at_ r.len r.cap
def RdRows (w : World) (B : Nat) (A : Option Addr) (n : Nat) (rows : List Row) : Prop :=
  Rd w B A n (rows.map Row.val) ∧ ∀ r ∈ rows, Rd w B r.at_ r.len (r.bs.map bv)
theorem RdRows.keep {w w' : World} {B n : Nat} {A : Option Addr} {rows : List Row} (h : RdRows w B A n rows) (hk : ∀ k, k < B → w'.heap[k]? = w.heap[k]?) : RdRows w' B A n rows :=
  ⟨h.1.keep hk, fun r hr => (h.2 r hr).keep hk⟩
theorem RdRows.fresh {w w' : World} {B n : Nat} {A : Option Addr} {rows : List Row} (h : RdRows w B A n rows) (hB : B ≤ w.heap.size) (hb : Fresh w w') : RdRows w' B A n rows :=
  h.keep fun k hk => hb.block k (by omega)
end Go.Proofs.YtcdehklcdipcfaaGreat.base
