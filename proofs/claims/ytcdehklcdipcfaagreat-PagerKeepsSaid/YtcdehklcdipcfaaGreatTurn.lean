/-
  What a call may turn of memory, slices that lie apart from it, cells that are set one by one: plain lemmas, over any program. My own text.
-/
import Derived.Test.YtcdehklcdipcfaaGreatBlk
namespace Go.Proofs.YtcdehklcdipcfaaGreat.base
open Go.RowKit
set_option linter.unusedVariables false

/-- of what was there only the blocks S have turned; S' are these, or new ones -/
structure Turn (S S' : List Nat) (w w' : World) : Prop where
  os : w'.os = w.os
  tape : w'.tape = w.tape
  output : w'.output = w.output
  size : w.heap.size ≤ w'.heap.size
  block : ∀ k, k < w.heap.size → k ∉ S → w'.heap[k]? = w.heap[k]?
  sub : ∀ k ∈ S', k ∈ S ∨ w.heap.size ≤ k
section
variable {S S' S'' T : List Nat} {a b c w w' : World}
theorem Turn.refl (S : List Nat) (w : World) : Turn S S w w := ⟨rfl, rfl, rfl, Nat.le_refl _, fun _ _ _ => rfl, fun _ h => .inl h⟩
theorem Turn.trans (h : Turn S S' a b) (k : Turn S' S'' b c) : Turn S S'' a c where
  os := k.os.trans h.os
  tape := k.tape.trans h.tape
  output := k.output.trans h.output
  size := Nat.le_trans h.size k.size
  block i hi hS := (k.block i (Nat.lt_of_lt_of_le hi h.size) (fun hS' => by rcases h.sub i hS' with h1 | h1; exact hS h1; omega)).trans (h.block i hi hS)
  sub i hi := by
    rcases k.sub i hi with h1 | h1
    · exact h.sub i h1
    · exact .inr (Nat.le_trans h.size h1)
theorem Turn.fresh (h : Fresh a b) : Turn S S a b := ⟨h.os, h.tape, h.output, h.size, fun k hk _ => h.block k hk, fun _ h => .inl h⟩
theorem Turn.put {p : Addr} (w : World) (v : Value) (hp : p.block ∈ S) : Turn S S w (w.setCell p v) :=
  ⟨rfl, rfl, rfl, by simp [World.setCell], fun k hk hS => Below.heap_setCell w p v k (fun e => hS (e ▸ hp)), fun _ h => .inl h⟩
theorem Turn.row {g : Nat} (w : World) (c : Array Value) (hg : g ∈ S) : Turn S S w (w.setRow g c) :=
  ⟨rfl, rfl, rfl, by simp [World.setRow], fun k hk hS => (But.row g w c).block k hk (fun e => by injection e with e; exact hS (e ▸ hg)), fun _ h => .inl h⟩
/-- the same blocks told wider -/
theorem Turn.wide (h : Turn S S a b) (hs : ∀ k ∈ S, k ∈ T) : Turn T T a b :=
  { h with block := fun k hk hT => h.block k hk (fun h' => hT (hs k h')), sub := fun k hk => .inl hk }
/-- seen from ahead of all of S, nothing has turned -/
theorem Turn.new (h : Turn S S' b c) (k : Fresh a b) (hS : ∀ i ∈ S, a.heap.size ≤ i) : Fresh a c :=
  ⟨h.os.trans k.os, h.tape.trans k.tape, h.output.trans k.output, Nat.le_trans k.size h.size, fun i hi => (h.block i (Nat.lt_of_lt_of_le hi k.size) (fun h' => by have := hS i h'; omega)).trans (k.block i hi)⟩
end

/-- the slice (A, n) reads as xs and lies apart from the blocks S -/
def RdA (w : World) (S : List Nat) (A : Option Addr) (n : Nat) (xs : List Value) : Prop :=
  xs.length = n ∧ (0 < n → ∃ b off, A = some ⟨b, off, none⟩ ∧ b < w.heap.size ∧ b ∉ S ∧ ∀ j u, xs[j]? = some u → w.cell? ⟨b, off + j, none⟩ = some u)
section
variable {S T : List Nat} {w w' : World} {A : Option Addr} {n : Nat} {xs : List Value}
theorem RdA.rd (h : RdA w S A n xs) : Rd w w.heap.size A n xs :=
  ⟨h.1, fun hn => by obtain ⟨b, off, e, hb, _, hc⟩ := h.2 hn; exact ⟨b, off, e, hb, hc⟩⟩
theorem RdA.turn (h : RdA w S A n xs) (k : Turn S S w w') : RdA w' S A n xs :=
  ⟨h.1, fun hn => by
    obtain ⟨b, off, e, hb, hS, hc⟩ := h.2 hn
    exact ⟨b, off, e, Nat.lt_of_lt_of_le hb k.size, hS, fun j u hu => (World.cell?_of_block (k.block b hb hS)).trans (hc j u hu)⟩⟩
theorem RdA.fresh (h : RdA w S A n xs) (k : Fresh w w') : RdA w' S A n xs := h.turn (Turn.fresh k)
theorem RdA.of_rd {B : Nat} (h : Rd w B A n xs) (hB : B ≤ w.heap.size) (hS : ∀ i ∈ S, B ≤ i) : RdA w S A n xs :=
  ⟨h.1, fun hn => by
    obtain ⟨b, off, e, hb, hc⟩ := h.2 hn
    exact ⟨b, off, e, by omega, fun h' => by have := hS b h'; omega, hc⟩⟩
theorem RdA.of_own {base c : Nat} {e : TypeId} (h : Own w base e A n c xs) (hS : ∀ i ∈ S, i < base) : RdA w S A n xs := by
  have h2 := h.rd
  refine ⟨h2.1, fun hn => ?_⟩
  obtain ⟨b, off, e1, hb, hc⟩ := h2.2 hn
  refine ⟨b, off, e1, hb, fun hx => ?_, hc⟩
  have hl := hS b hx
  have := h.row b (by rw [e1]; rfl)
  omega
theorem RdA.cut (h : RdA w S A n xs) {lo hi cap : Nat} (h1 : lo ≤ hi) (h2 : hi ≤ n) (hc : n ≤ cap) :
    RdA w S (if cap = lo then A else A.map (·.add lo)) (hi - lo) ((xs.drop lo).take (hi - lo)) := by
  refine ⟨by rw [List.length_take, List.length_drop, h.1]; omega, fun hn => ?_⟩
  obtain ⟨b, off, rfl, hb, hS, hcell⟩ := h.2 (by omega)
  rw [if_neg (by omega)]
  refine ⟨b, off + lo, ?_, hb, hS, fun j u hu => ?_⟩
  · simp only [Option.map_some, Option.some.injEq]
    unfold Addr.add
    split
    · subst lo; rfl
    · rfl
  · have h3 : xs[lo + j]? = some u := by
      rw [List.getElem?_take] at hu
      split at hu
      · rwa [List.getElem?_drop] at hu
      · cases hu
    have := hcell _ u h3
    rwa [← Nat.add_assoc] at this
theorem RdA.sub (h : RdA w S A n xs) (hT : ∀ i ∈ T, i ∈ S) : RdA w T A n xs :=
  ⟨h.1, fun hn => by obtain ⟨b, off, e, hb, hS, hc⟩ := h.2 hn; exact ⟨b, off, e, hb, fun h' => hS (hT b h'), hc⟩⟩
theorem RdA.head (h : RdA w S A n xs) {m : Nat} (hm : m ≤ n) : RdA w S A m (xs.take m) :=
  ⟨by rw [List.length_take, h.1]; omega, fun hn => by
    obtain ⟨b, off, e, hb, hS, hc⟩ := h.2 (by omega)
    refine ⟨b, off, e, hb, hS, fun j u hu => ?_⟩
    rw [List.getElem?_take] at hu
    split at hu
    · exact hc j u hu
    · cases hu⟩
theorem RdA.tail (h : RdA w S A n xs) {m c : Nat} (hm : m ≤ n) (hc : n ≤ c) : RdA w S (if c = m then A else A.map (·.add m)) (n - m) (xs.drop m) := by
  have := h.cut (lo := m) (hi := n) (cap := c) hm (Nat.le_refl _) hc
  rwa [List.take_of_length_le (by rw [List.length_drop, h.1]; omega)] at this
/-- new blocks are apart, too -/
theorem RdA.more (h : RdA w S A n xs) {R : List Nat} (hR : ∀ i ∈ R, w.heap.size ≤ i) : RdA w (R ++ S) A n xs :=
  ⟨h.1, fun hn => by
    obtain ⟨b, off, e, hb, hS, hc⟩ := h.2 hn
    exact ⟨b, off, e, hb, fun h' => by rcases List.mem_append.1 h' with h1 | h1; have := hR b h1; omega; exact hS h1, hc⟩⟩
theorem RdA.nil (w : World) (S : List Nat) (A : Option Addr) : RdA w S A 0 [] := ⟨rfl, fun h => absurd h (by omega)⟩
/-- a new block reads as what was laid -/
theorem RdA.lit (w : World) (cs : Array Value) (e : TypeId) (hS : ∀ i ∈ S, i < w.heap.size) : RdA (w.alloc (.cells cs e)) S (some ⟨w.heap.size, 0, none⟩) cs.size cs.toList := by
  have h := Rd.lit w cs e
  refine ⟨h.1, fun hn => ?_⟩
  obtain ⟨b, off, e1, hb, hc⟩ := h.2 hn
  injection e1 with e1
  injection e1 with e2 e3 _
  exact ⟨b, off, by rw [e2, e3], by simp; omega, fun hx => by have := hS b hx; omega, hc⟩
end

/-- a cell that may be written -/
def Wr (w : World) (p : Addr) : Prop := (∃ v, w.cell? p = some v) ∧ w.frozen? p = false
theorem Wr.inside {w : World} {p : Addr} (h : Wr w p) : p.block < w.heap.size := by
  obtain ⟨⟨v, hv⟩, _⟩ := h
  exact World.block_lt_of_cell? w _ hv
theorem Wr.old {w w' : World} {p : Addr} (h : Wr w p) (hk : w'.heap[p.block]? = w.heap[p.block]?) : Wr w' p := by
  obtain ⟨⟨v, hv⟩, hf⟩ := h
  refine ⟨⟨v, (World.cell?_of_block hk).trans hv⟩, ?_⟩
  have : w'.frozen? p = w.frozen? p := by unfold World.frozen?; rw [hk]
  rw [this]; exact hf
theorem Wr.fresh {w w' : World} {p : Addr} (h : Wr w p) (k : Fresh w w') : Wr w' p := h.old (k.block _ h.inside)
theorem Wr.put {w : World} {p : Addr} (h : Wr w p) (q : Addr) (v : Value) : Wr (w.setCell q v) p := by
  obtain ⟨⟨u, hu⟩, hf⟩ := h
  exact ⟨cell?_setCell_some hu, by rw [World.frozen?_setCell]; exact hf⟩
theorem Bk.wr {w : World} {g : Nat} {t : TypeId} {cs : List Value} (h : Bk w g t cs) {i : Nat} (hi : i < cs.length) : Wr w ⟨g, i, none⟩ :=
  ⟨⟨cs[i], h.cell (List.getElem?_eq_getElem hi)⟩, h.free i⟩

theorem Bk.turn {w w' : World} {g : Nat} {t : TypeId} {cs : List Value} {T : List Nat} (h : Bk w g t cs) (k : Turn T T w w') (hg : g ∉ T) : Bk w' g t cs := h.old (k.block g h.inside hg)
theorem Bk.ne {w : World} {g g' : Nat} {t t' : TypeId} {cs cs' : List Value} (h : Bk w g t cs) (h' : Bk w g' t' cs') (ht : t ≠ t') : g ≠ g' := by
  intro e
  subst e
  have h1 : w.heap[g]? = _ := h
  have h2 : w.heap[g]? = _ := h'
  rw [h1] at h2
  injection h2 with h2
  injection h2 with _ h2
  exact ht h2

/-- cells are set, one behind the other -/
def sets (w : World) : List (Addr × Value) → World
  | [] => w
  | x :: r => sets (w.setCell x.1 x.2) r
theorem sets_append (w : World) (l r : List (Addr × Value)) : sets w (l ++ r) = sets (sets w l) r := by
  induction l generalizing w with
  | nil => rfl
  | cons x l ih => exact ih _
theorem sets_size (w : World) (l : List (Addr × Value)) : (sets w l).heap.size = w.heap.size := by
  induction l generalizing w with
  | nil => rfl
  | cons x l ih => rw [sets, ih]; simp [World.setCell]
theorem sets_turn {S : List Nat} (w : World) (l : List (Addr × Value)) (h : ∀ x ∈ l, x.1.block ∈ S) : Turn S S w (sets w l) := by
  induction l generalizing w with
  | nil => exact Turn.refl _ _
  | cons x l ih => exact (Turn.put w x.2 (h x (by simp))).trans (ih _ fun y hy => h y (by simp [hy]))
theorem Wr.sets {w : World} {p : Addr} (h : Wr w p) (l : List (Addr × Value)) : Wr (sets w l) p := by
  induction l generalizing w with
  | nil => exact h
  | cons x l ih => exact ih (h.put _ _)
/-- a cell is set in a world, and in one behind it -/
theorem Fresh.set {a b : World} (h : Fresh a b) {p : Addr} (hp : p.block < a.heap.size) (v : Value) : Fresh (a.setCell p v) (b.setCell p v) := by
  refine ⟨h.os, h.tape, h.output, by have := h.size; simpa [World.setCell] using this, fun k hk => ?_⟩
  have hk' : k < a.heap.size := by simpa [World.setCell] using hk
  by_cases e : k = p.block
  · subst e
    have := h.block _ hp
    simp [World.setCell, Array.getElem?_modify, this]
  · rw [Below.heap_setCell b p v k e, Below.heap_setCell a p v k e]
    exact h.block k hk'
end Go.Proofs.YtcdehklcdipcfaaGreat.base
