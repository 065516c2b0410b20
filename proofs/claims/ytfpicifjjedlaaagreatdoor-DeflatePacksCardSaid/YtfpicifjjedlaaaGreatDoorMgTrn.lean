import Derived.Test.YtfpicifjjedlaaaGreatDoorMgBse
import Derived.Maps.AppendAt
import Derived.Deep.MidRow
import Derived.Test.YtfpicifjjedlaaaGreatDoorStore
import Derived.Laws.Slices
import Derived.Test.YtfpicifjjedlaaaGreatDoorMgHuff
/- Several of my own texts, one behind the other. -/
/-
  What a call may turn of memory, slices that lie apart from it, cells that are set one by one: plain lemmas, over any program. My own text.
-/
namespace Go.Proofs.YtfpicifjjedlaaaGreatDoor.base
open Go.RowKit
set_option linter.unusedVariables false

/-- of what was there only the blocks S have turned; S' are these, or new ones -/
structure Turn (S S' : List Nat) (w w' : World) : Prop where
  os : w'.os = w.os
  tape : w'.tape = w.tape
  output : w'.output = w.output
  size : w.heap.size ≤ w'.heap.size
  block : ∀ k, k < w.heap.size → k ∉ S → w'.heap[k]? = w.heap[k]?
  sub : ∀ k ∈ S', k ∈ S ∨ w.heap.size ≤ k
section
variable {S S' S'' T : List Nat} {a b c w w' : World}
theorem Turn.refl (S : List Nat) (w : World) : Turn S S w w := ⟨rfl, rfl, rfl, Nat.le_refl _, fun _ _ _ => rfl, fun _ h => .inl h⟩
theorem Turn.trans (h : Turn S S' a b) (k : Turn S' S'' b c) : Turn S S'' a c where
  os := k.os.trans h.os
  tape := k.tape.trans h.tape
  output := k.output.trans h.output
  size := Nat.le_trans h.size k.size
  block i hi hS := (k.block i (Nat.lt_of_lt_of_le hi h.size) (fun hS' => by rcases h.sub i hS' with h1 | h1; exact hS h1; omega)).trans (h.block i hi hS)
  sub i hi := by
    rcases k.sub i hi with h1 | h1
    · exact h.sub i h1
    · exact .inr (Nat.le_trans h.size h1)
theorem Turn.fresh (h : Fresh a b) : Turn S S a b := ⟨h.os, h.tape, h.output, h.size, fun k hk _ => h.block k hk, fun _ h => .inl h⟩
theorem Turn.put {p : Addr} (w : World) (v : Value) (hp : p.block ∈ S) : Turn S S w (w.setCell p v) :=
  ⟨rfl, rfl, rfl, by simp [World.setCell], fun k hk hS => Below.heap_setCell w p v k (fun e => hS (e ▸ hp)), fun _ h => .inl h⟩
theorem Turn.row {g : Nat} (w : World) (c : Array Value) (hg : g ∈ S) : Turn S S w (w.setRow g c) :=
  ⟨rfl, rfl, rfl, by simp [World.setRow], fun k hk hS => (But.row g w c).block k hk (fun e => by injection e with e; exact hS (e ▸ hg)), fun _ h => .inl h⟩
/-- the same blocks told wider -/
theorem Turn.wide (h : Turn S S a b) (hs : ∀ k ∈ S, k ∈ T) : Turn T T a b :=
  { h with block := fun k hk hT => h.block k hk (fun h' => hT (hs k h')), sub := fun k hk => .inl hk }
/-- seen from ahead of all of S, nothing has turned -/
theorem Turn.new (h : Turn S S' b c) (k : Fresh a b) (hS : ∀ i ∈ S, a.heap.size ≤ i) : Fresh a c :=
  ⟨h.os.trans k.os, h.tape.trans k.tape, h.output.trans k.output, Nat.le_trans k.size h.size, fun i hi => (h.block i (Nat.lt_of_lt_of_le hi k.size) (fun h' => by have := hS i h'; omega)).trans (k.block i hi)⟩
end

/-- the slice (A, n) reads as xs and lies apart from the blocks S -/
def RdA (w : World) (S : List Nat) (A : Option Addr) (n : Nat) (xs : List Value) : Prop :=
  xs.length = n ∧ (0 < n → ∃ b off, A = some ⟨b, off, none⟩ ∧ b < w.heap.size ∧ b ∉ S ∧ ∀ j u, xs[j]? = some u → w.cell? ⟨b, off + j, none⟩ = some u)
section
variable {S T : List Nat} {w w' : World} {A : Option Addr} {n : Nat} {xs : List Value}
theorem RdA.rd (h : RdA w S A n xs) : Rd w w.heap.size A n xs :=
  ⟨h.1, fun hn => by obtain ⟨b, off, e, hb, _, hc⟩ := h.2 hn; exact ⟨b, off, e, hb, hc⟩⟩
theorem RdA.turn (h : RdA w S A n xs) (k : Turn S S w w') : RdA w' S A n xs :=
  ⟨h.1, fun hn => by
    obtain ⟨b, off, e, hb, hS, hc⟩ := h.2 hn
    exact ⟨b, off, e, Nat.lt_of_lt_of_le hb k.size, hS, fun j u hu => (World.cell?_of_block (k.block b hb hS)).trans (hc j u hu)⟩⟩
theorem RdA.fresh (h : RdA w S A n xs) (k : Fresh w w') : RdA w' S A n xs := h.turn (Turn.fresh k)
theorem RdA.of_rd {B : Nat} (h : Rd w B A n xs) (hB : B ≤ w.heap.size) (hS : ∀ i ∈ S, B ≤ i) : RdA w S A n xs :=
  ⟨h.1, fun hn => by
    obtain ⟨b, off, e, hb, hc⟩ := h.2 hn
    exact ⟨b, off, e, by omega, fun h' => by have := hS b h'; omega, hc⟩⟩
theorem RdA.of_own {base c : Nat} {e : TypeId} (h : Own w base e A n c xs) (hS : ∀ i ∈ S, i < base) : RdA w S A n xs := by
  have h2 := h.rd
  refine ⟨h2.1, fun hn => ?_⟩
  obtain ⟨b, off, e1, hb, hc⟩ := h2.2 hn
  refine ⟨b, off, e1, hb, fun hx => ?_, hc⟩
  have hl := hS b hx
  have := h.row b (by rw [e1]; rfl)
  omega
theorem RdA.cut (h : RdA w S A n xs) {lo hi cap : Nat} (h1 : lo ≤ hi) (h2 : hi ≤ n) (hc : n ≤ cap) :
    RdA w S (if cap = lo then A else A.map (·.add lo)) (hi - lo) ((xs.drop lo).take (hi - lo)) := by
  refine ⟨by rw [List.length_take, List.length_drop, h.1]; omega, fun hn => ?_⟩
  obtain ⟨b, off, rfl, hb, hS, hcell⟩ := h.2 (by omega)
  rw [if_neg (by omega)]
  refine ⟨b, off + lo, ?_, hb, hS, fun j u hu => ?_⟩
  · simp only [Option.map_some, Option.some.injEq]
    unfold Addr.add
    split
    · subst lo; rfl
    · rfl
  · have h3 : xs[lo + j]? = some u := by
      rw [List.getElem?_take] at hu
      split at hu
      · rwa [List.getElem?_drop] at hu
      · cases hu
    have := hcell _ u h3
    rwa [← Nat.add_assoc] at this
theorem RdA.sub (h : RdA w S A n xs) (hT : ∀ i ∈ T, i ∈ S) : RdA w T A n xs :=
  ⟨h.1, fun hn => by obtain ⟨b, off, e, hb, hS, hc⟩ := h.2 hn; exact ⟨b, off, e, hb, fun h' => hS (hT b h'), hc⟩⟩
theorem RdA.head (h : RdA w S A n xs) {m : Nat} (hm : m ≤ n) : RdA w S A m (xs.take m) :=
  ⟨by rw [List.length_take, h.1]; omega, fun hn => by
    obtain ⟨b, off, e, hb, hS, hc⟩ := h.2 (by omega)
    refine ⟨b, off, e, hb, hS, fun j u hu => ?_⟩
    rw [List.getElem?_take] at hu
    split at hu
    · exact hc j u hu
    · cases hu⟩
theorem RdA.tail (h : RdA w S A n xs) {m c : Nat} (hm : m ≤ n) (hc : n ≤ c) : RdA w S (if c = m then A else A.map (·.add m)) (n - m) (xs.drop m) := by
  have := h.cut (lo := m) (hi := n) (cap := c) hm (Nat.le_refl _) hc
  rwa [List.take_of_length_le (by rw [List.length_drop, h.1]; omega)] at this
/-- new blocks are apart, too -/
theorem RdA.more (h : RdA w S A n xs) {R : List Nat} (hR : ∀ i ∈ R, w.heap.size ≤ i) : RdA w (R ++ S) A n xs :=
  ⟨h.1, fun hn => by
    obtain ⟨b, off, e, hb, hS, hc⟩ := h.2 hn
    exact ⟨b, off, e, hb, fun h' => by rcases List.mem_append.1 h' with h1 | h1; have := hR b h1; omega; exact hS h1, hc⟩⟩
theorem RdA.nil (w : World) (S : List Nat) (A : Option Addr) : RdA w S A 0 [] := ⟨rfl, fun h => absurd h (by omega)⟩
/-- a new block reads as what was laid -/
theorem RdA.lit (w : World) (cs : Array Value) (e : TypeId) (hS : ∀ i ∈ S, i < w.heap.size) : RdA (w.alloc (.cells cs e)) S (some ⟨w.heap.size, 0, none⟩) cs.size cs.toList := by
  have h := Rd.lit w cs e
  refine ⟨h.1, fun hn => ?_⟩
  obtain ⟨b, off, e1, hb, hc⟩ := h.2 hn
  injection e1 with e1
  injection e1 with e2 e3 _
  exact ⟨b, off, by rw [e2, e3], by simp; omega, fun hx => by have := hS b hx; omega, hc⟩
end

/-- a cell that may be written -/
def Wr (w : World) (p : Addr) : Prop := (∃ v, w.cell? p = some v) ∧ w.frozen? p = false
theorem Wr.inside {w : World} {p : Addr} (h : Wr w p) : p.block < w.heap.size := by
  obtain ⟨⟨v, hv⟩, _⟩ := h
  exact World.block_lt_of_cell? w _ hv
theorem Wr.old {w w' : World} {p : Addr} (h : Wr w p) (hk : w'.heap[p.block]? = w.heap[p.block]?) : Wr w' p := by
  obtain ⟨⟨v, hv⟩, hf⟩ := h
  refine ⟨⟨v, (World.cell?_of_block hk).trans hv⟩, ?_⟩
  have : w'.frozen? p = w.frozen? p := by unfold World.frozen?; rw [hk]
  rw [this]; exact hf
theorem Wr.fresh {w w' : World} {p : Addr} (h : Wr w p) (k : Fresh w w') : Wr w' p := h.old (k.block _ h.inside)
theorem Wr.put {w : World} {p : Addr} (h : Wr w p) (q : Addr) (v : Value) : Wr (w.setCell q v) p := by
  obtain ⟨⟨u, hu⟩, hf⟩ := h
  exact ⟨cell?_setCell_some hu, by rw [World.frozen?_setCell]; exact hf⟩
theorem Bk.wr {w : World} {g : Nat} {t : TypeId} {cs : List Value} (h : Bk w g t cs) {i : Nat} (hi : i < cs.length) : Wr w ⟨g, i, none⟩ :=
  ⟨⟨cs[i], h.cell (List.getElem?_eq_getElem hi)⟩, h.free i⟩

theorem Bk.turn {w w' : World} {g : Nat} {t : TypeId} {cs : List Value} {T : List Nat} (h : Bk w g t cs) (k : Turn T T w w') (hg : g ∉ T) : Bk w' g t cs := h.old (k.block g h.inside hg)
theorem Bk.ne {w : World} {g g' : Nat} {t t' : TypeId} {cs cs' : List Value} (h : Bk w g t cs) (h' : Bk w g' t' cs') (ht : t ≠ t') : g ≠ g' := by
  intro e
  subst e
  have h1 : w.heap[g]? = _ := h
  have h2 : w.heap[g]? = _ := h'
  rw [h1] at h2
  injection h2 with h2
  injection h2 with _ h2
  exact ht h2

/-- cells are set, one behind the other -/
def sets (w : World) : List (Addr × Value) → World
  | [] => w
  | x :: r => sets (w.setCell x.1 x.2) r
theorem sets_append (w : World) (l r : List (Addr × Value)) : sets w (l ++ r) = sets (sets w l) r := by
  induction l generalizing w with
  | nil => rfl
  | cons x l ih => exact ih _
theorem sets_size (w : World) (l : List (Addr × Value)) : (sets w l).heap.size = w.heap.size := by
  induction l generalizing w with
  | nil => rfl
  | cons x l ih => rw [sets, ih]; simp [World.setCell]
theorem sets_turn {S : List Nat} (w : World) (l : List (Addr × Value)) (h : ∀ x ∈ l, x.1.block ∈ S) : Turn S S w (sets w l) := by
  induction l generalizing w with
  | nil => exact Turn.refl _ _
  | cons x l ih => exact (Turn.put w x.2 (h x (by simp))).trans (ih _ fun y hy => h y (by simp [hy]))
theorem Wr.sets {w : World} {p : Addr} (h : Wr w p) (l : List (Addr × Value)) : Wr (sets w l) p := by
  induction l generalizing w with
  | nil => exact h
  | cons x l ih => exact ih (h.put _ _)
/-- a cell is set in a world, and in one behind it -/
theorem Fresh.set {a b : World} (h : Fresh a b) {p : Addr} (hp : p.block < a.heap.size) (v : Value) : Fresh (a.setCell p v) (b.setCell p v) := by
  refine ⟨h.os, h.tape, h.output, by have := h.size; simpa [World.setCell] using this, fun k hk => ?_⟩
  have hk' : k < a.heap.size := by simpa [World.setCell] using hk
  by_cases e : k = p.block
  · subst e
    have := h.block _ hp
    simp [World.setCell, Array.getElem?_modify, this]
  · rw [Below.heap_setCell b p v k e, Below.heap_setCell a p v k e]
    exact h.block k hk'
end Go.Proofs.YtfpicifjjedlaaaGreatDoor.base
/-
  Rows of elements of some cells each, that are a call's own: plain lemmas, over any program. My own text.
-/
namespace Go.Proofs.YtfpicifjjedlaaaGreatDoor.base
open Go.RowKit
set_option linter.unusedVariables false

/-- a row of n elements of k cells each, told by f, is the call's own -/
abbrev OwnK {α : Type} (w : World) (base : Nat) (e : TypeId) (k : Nat) (A : Option Addr) (n c : Nat) (f : α → List Value) (l : List α) : Prop := w.ownsRow base e k (.slice A n c) n (l.flatMap f)
theorem flat_len {α : Type} {f : α → List Value} {k : Nat} (hk : ∀ a, (f a).length = k) (l : List α) : (l.flatMap f).length = l.length * k := by
  induction l with
  | nil => simp
  | cons a r ih => rw [List.flatMap_cons, List.length_append, ih, hk, List.length_cons, Nat.add_mul]; omega
theorem flat_at {α : Type} {f : α → List Value} {k : Nat} (hk : ∀ a, (f a).length = k) : ∀ (l : List α) (i : Nat) (s : α), l[i]? = some s → ∀ j v, (f s)[j]? = some v → (l.flatMap f)[i * k + j]? = some v
  | [], i, s, h, j, v, hj => by simp at h
  | a :: r, 0, s, h, j, v, hj => by
    simp only [List.getElem?_cons_zero, Option.some.injEq] at h
    subst h
    rw [List.flatMap_cons, Nat.zero_mul, Nat.zero_add, List.getElem?_append_left (List.getElem?_eq_some_iff.1 hj).1]
    exact hj
  | a :: r, i + 1, s, h, j, v, hj => by
    rw [List.getElem?_cons_succ] at h
    have ih := flat_at hk r i s h j v hj
    rw [List.flatMap_cons, List.getElem?_append_right (by rw [hk, Nat.add_mul]; omega), hk]
    have e : (i + 1) * k + j - k = i * k + j := by rw [Nat.add_mul]; omega
    rw [e]
    exact ih
section
variable {α : Type} {w w' : World} {base n c k : Nat} {e : TypeId} {A : Option Addr} {f : α → List Value} {l : List α}
theorem OwnK.nil (w : World) (base : Nat) (e : TypeId) (k : Nat) (f : α → List Value) : OwnK w base e k none 0 0 f [] := World.ownsRow_nil _ _ _ _
theorem OwnK.len (h : OwnK w base e k A n c f l) (hk : ∀ a, (f a).length = k) (h0 : 0 < k) : l.length = n := by
  have h1 := h.1
  rw [flat_len hk] at h1
  exact Nat.eq_of_mul_eq_mul_right h0 h1
theorem OwnK.keep (h : OwnK w base e k A n c f l) (hk : ∀ g, (Value.slice A n c).ownBlock = some g → w'.heap[g]? = w.heap[g]?) : OwnK w' base e k A n c f l := by
  refine ⟨h.1, ?_⟩
  rcases h.2 with h2 | ⟨g, cap, cur, hv, hb, hg, r⟩
  · exact .inl h2
  · exact .inr ⟨g, cap, cur, hv, hb, (hk g (by rw [hv]; rfl)).trans hg, r⟩
theorem OwnK.block (h : OwnK w base e k A n c f l) : ∀ g, (Value.slice A n c).ownBlock = some g → base ≤ g ∧ g < w.heap.size ∧ ∃ cs, w.heap[g]? = some (.cells cs e (0, 0)) := fun g hg => by
  rcases h.2 with ⟨h2, _⟩ | ⟨q, cap, cur, hv, hb, hq, r⟩
  · rw [h2] at hg; cases hg
  · rw [hv] at hg
    injection hg with hg
    subst hg
    exact ⟨hb, (Array.getElem?_eq_some_iff.1 hq).1, _, hq⟩
theorem OwnK.fresh (h : OwnK w base e k A n c f l) (q : Fresh w w') : OwnK w' base e k A n c f l := h.keep fun g hg => q.block g (h.block g hg).2.1
theorem OwnK.low (h : OwnK w base e k A n c f l) {b : Nat} (hb : b ≤ base) : OwnK w b e k A n c f l :=
  ⟨h.1, h.2.imp id fun ⟨g, cap, cur, hv, hg, r⟩ => ⟨g, cap, cur, hv, Nat.le_trans hb hg, r⟩⟩
/-- a row of another element type has turned -/
theorem OwnK.beside (h : OwnK w base e k A n c f l) {row : Option Nat} (hg : w.grownBy w' row) (hr : ∀ g, row = some g → ∃ cs t fr, w.heap[g]? = some (.cells cs t fr) ∧ t ≠ e) : OwnK w' base e k A n c f l := h.keep fun g hb => by
  obtain ⟨_, hlt, cs, hq⟩ := h.block g hb
  refine hg.block g hlt fun e1 => ?_
  obtain ⟨cs', t, fr, hq', hne⟩ := hr g e1.symm
  rw [hq'] at hq
  injection hq with hq
  injection hq with _ ht
  exact hne ht
theorem OwnK.but {g : Nat} (h : OwnK w base e k A n c f l) (q : But g w w') (hne : (Value.slice A n c).ownBlock ≠ some g) : OwnK w' base e k A n c f l := h.keep fun b hb =>
  q.block b (h.block b hb).2.1 fun e1 => hne (by rw [hb, e1])
theorem OwnK.ne (h : OwnK w base e k A n c f l) {g : Nat} {t : TypeId} {cs : List Value} (hb : Bk w g t cs) (hne : e ≠ t) : (Value.slice A n c).ownBlock ≠ some g := fun e1 => by
  obtain ⟨_, _, cs', hq⟩ := h.block g e1
  have hb' : w.heap[g]? = _ := hb
  rw [hb'] at hq
  injection hq with hq
  injection hq with _ ht
  exact hne ht.symm
theorem OwnK.cap (h : OwnK w base e k A n c f l) : n ≤ c ∧ c ≤ maxLen := by
  rcases h.2 with ⟨hv, hn⟩ | ⟨g, cap, cur, hv, _, _, h1, h2, _⟩
  · injection hv with _ h3 h4
    subst h4; subst h3; unfold maxLen; omega
  · injection hv with _ _ h4
    subst h4
    exact ⟨h1, h2⟩
theorem OwnK.append (h : OwnK w base e k A n c f l) {a : World} (hf : Fresh a w) (hb : a.heap.size ≤ base) (hg : w.grownBy w' (Value.slice A n c).ownBlock) : Fresh a w' :=
  Below.grown hf hg hf.size fun q hq => Nat.le_trans hb (h.block q hq).1
/-- an element, to be loaded whole -/
theorem OwnK.at_ (h : OwnK w base e k A n c f l) (hk : ∀ a, (f a).length = k) (h0 : 0 < k) {i : Nat} {s : α} (hs : l[i]? = some s) :
    ∃ g, A = some ⟨g, 0, none⟩ ∧ base ≤ g ∧ g < w.heap.size ∧ w.rangeAt g (i * k) (f s) := by
  have hl := h.len hk h0
  have hi : i < n := by rw [← hl]; exact (List.getElem?_eq_some_iff.1 hs).1
  rcases h.2 with ⟨_, hn⟩ | ⟨g, cap, cur, hv, hb, hg, h1, h2, h3, h4⟩
  · omega
  · injection hv with hA _ _
    refine ⟨g, hA, hb, (Array.getElem?_eq_some_iff.1 hg).1, fun j v hj => ?_⟩
    have hc := flat_at hk l i s hs j v hj
    rw [← h4, List.getElem?_take] at hc
    split at hc
    · rw [cell_of_row w g (i * k + j) _ _ (0, 0) hg]
      rw [← hc]
      simp
    · cases hc
end
/-- slices that lie apart from a row, when it grows -/
theorem RdA.grown {w w' : World} {row row' : Option Nat} {A : Option Addr} {n : Nat} {xs : List Value} (h : RdA w row.toList A n xs) (hg : w.grownBy w' row) (hr : row' = row ∨ row' = some w.heap.size) : RdA w' row'.toList A n xs :=
  ⟨h.1, fun hn => by
    obtain ⟨b, off, e, hb, hS, hc⟩ := h.2 hn
    have hne : some b ≠ row := fun e => hS (by rw [← e]; simp)
    refine ⟨b, off, e, Nat.lt_of_lt_of_le hb hg.size, fun hx => ?_, fun j u hu => (World.cell?_of_block (hg.block b hb hne)).trans (hc j u hu)⟩
    rcases hr with rfl | rfl
    · exact hS hx
    · simp at hx; omega⟩
/-- a row's own block is not one that a slice lies apart from, if it is new -/
theorem RdA.of_range {w : World} {m : Nat} {row : Option Nat} {A : Option Addr} {n : Nat} {xs : List Value} (h : RdA w (List.range m) A n xs) (hr : ∀ g, row = some g → g < m) : RdA w row.toList A n xs :=
  h.sub fun i hi => by
    rw [List.mem_range]
    cases row with
    | none => cases hi
    | some g => simp at hi; subst hi; exact hr _ rfl
/-- 'append(row, x)', x an element that stands in a block of its own -/
theorem wpList_append_cells {α : Type} {P : Program} (w : World) {ops : Array Oper} {rest : List Oper} {o : Oper} {a : Act} {Q : Exit → Act → World → Prop} (hgd : o.guard = none) (s x : Operand) (t : TypeId)
    (ho : o.op = .call { callee := .builtin .append, args := #[s, x], argTypes := #[t, t] })
    (base : Nat) (e : TypeId) (i : TypeInfo) (z : Value) (k bytes : Nat) (ht : P.underlying t = some (.slice e)) (hi : P.info? e = some i) (hz : i.zero = some z)
    (hsize : i.size = k) (hby : i.bytes = bytes) (hzs : z.cells.size = k) (hk0 : 0 < k) (f : α → List Value)
    (A : Option Addr) (n c : Nat) (l : List α) (hs : a.eval s = .slice A n c) (hown : OwnK w base e k A n c f l)
    (g : Nat) (p : α) (hx : a.eval x = .slice (some ⟨g, 0, none⟩) 1 1) (hg : Bk w g e (f p)) (hl : (f p).length = k) (h1 : ∀ u ∈ f p, u.oneCell' = true) (h63 : n ≤ 1099511627776) (hbytes : (n + 1) * bytes ≤ 140737488355328) (hbase : base ≤ w.heap.size)
    (h : ∀ A' c' w', OwnK w' base e k A' (n + 1) c' f (l ++ [p]) → w.grownBy w' (Value.slice A n c).ownBlock → ((Value.slice A' (n + 1) c').ownBlock = (Value.slice A n c).ownBlock ∨ (Value.slice A' (n + 1) c').ownBlock = some w.heap.size) → wpList P ops Q rest (a.put o.dst (.slice A' (n + 1) c')) w') : wpList P ops Q (o :: rest) a w := by
  refine wpList_plain hgd fun _ hK => ?_
  have hcells : ∀ j u, (f p)[j]? = some u → w.cell? ((⟨g, 0, none⟩ : Addr).add j) = some u := fun j u hu => by
    have hadd : (⟨g, 0, none⟩ : Addr).add j = ⟨g, 0 + j, none⟩ := by unfold Addr.add; split <;> simp_all
    rw [hadd, Nat.zero_add]
    exact hg.cell hu
  obtain ⟨v', w', hrun, h2, h3, _, h5⟩ := run_append_own_at (P := P) w base t o.type e i z k bytes ht hi hz hsize hby hzs hk0 (.slice A n c) n (l.flatMap f) hown ⟨g, 0, none⟩ 1 1 (f p) (by rw [hl, Nat.one_mul]) hcells h1 (by unfold maxLen; omega) hbytes hbase
  have hsn : l.flatMap f ++ f p = (l ++ [p]).flatMap f := by simp
  rw [hsn] at h2
  have hform : ∃ A' c', v' = .slice A' (n + 1) c' := by
    rcases h2.2 with ⟨hv, hn⟩ | ⟨g, cap, cur, hv, _⟩
    · omega
    · exact ⟨_, cap, hv⟩
  obtain ⟨A', c', rfl⟩ := hform
  unfold Oper.wp execOp
  simp only [ho, resolve, invoke, builtin, Sem.run_bind, Sem.run_pure, Result.andThen_ok, List.map_toArray, List.map_cons, List.map_nil, hs, hx, hrun]
  exact hK _ _ (h A' c' w' h2 h3 h5)
end Go.Proofs.YtfpicifjjedlaaaGreatDoor.base
/-
  Rows that lie in blocks of a known element type: plain lemmas, over any program. My own text.
-/
namespace Go.Proofs.YtfpicifjjedlaaaGreatDoor.base
open Go.RowKit
set_option linter.unusedVariables false

/-- the cells at A, in a block of the type t, read as xs -/
def RdT (w : World) (t : TypeId) (A : Option Addr) (xs : List Value) : Prop :=
  xs ≠ [] → ∃ b off cs fr, A = some ⟨b, off, none⟩ ∧ w.heap[b]? = some (.cells cs t fr) ∧ ∀ j u, xs[j]? = some u → cs[off + j]? = some u
/-- no block of the type t has turned -/
def KeepT (t : TypeId) (w w' : World) : Prop := ∀ (b : Nat) (cs : Array Value) (fr : Nat × Nat), w.heap[b]? = some (.cells cs t fr) → w'.heap[b]? = some (.cells cs t fr)
section
variable {t e : TypeId} {w w' w'' : World} {A : Option Addr} {xs : List Value}
theorem KeepT.refl (t : TypeId) (w : World) : KeepT t w w := fun _ _ _ h => h
theorem KeepT.trans (h : KeepT t w w') (k : KeepT t w' w'') : KeepT t w w'' := fun b cs fr hb => k b cs fr (h b cs fr hb)
theorem KeepT.fresh (h : Fresh w w') : KeepT t w w' := fun b cs fr hb => (h.block b (Array.getElem?_eq_some_iff.1 hb).1).trans hb
theorem KeepT.grown {row : Option Nat} (h : w.grownBy w' row) (hr : ∀ g, row = some g → ∃ cs fr u, w.heap[g]? = some (.cells cs u fr) ∧ u ≠ t) : KeepT t w w' := fun b cs fr hb => by
  refine (h.block b (Array.getElem?_eq_some_iff.1 hb).1 fun e1 => ?_).trans hb
  obtain ⟨cs', fr', u, hq, hne⟩ := hr b e1.symm
  rw [hb] at hq
  injection hq with hq
  injection hq with _ ht
  exact hne ht.symm
theorem KeepT.but {g : Nat} {cs : List Value} (h : But g w w') (hb : Bk w g e cs) (hne : e ≠ t) : KeepT t w w' :=
  KeepT.grown h fun g' hg => by
    injection hg with hg
    subst hg
    exact ⟨_, _, _, hb, hne⟩
theorem KeepT.own {α : Type} {base k n c : Nat} {f : α → List Value} {l : List α} (h : w.grownBy w' (Value.slice A n c).ownBlock) (ho : OwnK w base e k A n c f l) (hne : e ≠ t) : KeepT t w w' :=
  KeepT.grown h fun g hg => by
    obtain ⟨_, _, cs, hq⟩ := ho.block g hg
    exact ⟨_, _, _, hq, hne⟩
theorem KeepT.own1 {base n c : Nat} {ys : List Value} (h : w.grownBy w' (Value.slice A n c).ownBlock) (ho : Own w base e A n c ys) (hne : e ≠ t) : KeepT t w w' :=
  KeepT.grown h fun g hg => by
    rcases ho.2 with ⟨h2, _⟩ | ⟨q, cap, cur, hv, hb, hq, r⟩
    · rw [h2] at hg; cases hg
    · rw [hv] at hg
      injection hg with hg
      subst hg
      exact ⟨_, _, _, hq, hne⟩
theorem RdT.nil (w : World) (t : TypeId) (A : Option Addr) : RdT w t A [] := fun h => absurd rfl h
theorem RdT.keep (h : RdT w t A xs) (k : KeepT t w w') : RdT w' t A xs := fun hne => by
  obtain ⟨b, off, cs, fr, h1, h2, h3⟩ := h hne
  exact ⟨b, off, cs, fr, h1, k _ _ _ h2, h3⟩
theorem RdT.fresh (h : RdT w t A xs) (k : Fresh w w') : RdT w' t A xs := h.keep (KeepT.fresh k)
theorem RdT.range (h : RdT w t A xs) {o : Nat} {vs : List Value} (h0 : vs ≠ []) (hv : ∀ j u, vs[j]? = some u → xs[o + j]? = some u) : ∃ b off, A = some ⟨b, off, none⟩ ∧ w.rangeAt b (off + o) vs := by
  have hne : xs ≠ [] := by
    rintro rfl
    cases vs with
    | nil => exact h0 rfl
    | cons v r => have := hv 0 v rfl; simp at this
  obtain ⟨b, off, cs, fr, h1, h2, h3⟩ := h hne
  refine ⟨b, off, h1, fun j u hu => ?_⟩
  rw [cell_of_row w b (off + o + j) cs t fr h2, Nat.add_assoc]
  exact h3 _ _ (hv j u hu)
theorem RdT.cell (h : RdT w t A xs) {j : Nat} {u : Value} (hu : xs[j]? = some u) : ∃ b off, A = some ⟨b, off, none⟩ ∧ w.cell? ⟨b, off + j, none⟩ = some u := by
  obtain ⟨b, off, h1, h2⟩ := h.range (o := j) (vs := [u]) (by simp) (fun i v hv => by
    cases i with
    | zero => simp at hv; subst hv; simpa using hu
    | succ i => simp at hv)
  exact ⟨b, off, h1, by simpa using h2 0 u rfl⟩
theorem RdT.of_own {base n c k : Nat} {α : Type} {f : α → List Value} {l : List α} (h : OwnK w base t k A n c f l) (hk : ∀ a, (f a).length = k) : RdT w t A (l.flatMap f) := fun hne => by
  rcases h.2 with ⟨hv, hn⟩ | ⟨g, cap, cur, hv, hb, hg, h1, h2, h3, h4⟩
  · exfalso
    have h5 := h.1
    rw [hn, Nat.zero_mul] at h5
    exact hne (List.eq_nil_of_length_eq_zero h5)
  · injection hv with hA _ _
    refine ⟨g, 0, cur, (0, 0), hA, hg, fun j u hu => ?_⟩
    rw [← h4, List.getElem?_take] at hu
    split at hu
    · rw [Nat.zero_add, ← Array.getElem?_toList]
      exact hu
    · cases hu
theorem RdT.of_own1 {base n c : Nat} (h : Own w base t A n c xs) : RdT w t A xs := fun hne => by
  rcases h.2 with ⟨hv, hn⟩ | ⟨g, cap, cur, hv, hb, hg, h1, h2, h3, h4⟩
  · exfalso
    have h5 := h.1
    rw [hn, Nat.zero_mul] at h5
    exact hne (List.eq_nil_of_length_eq_zero h5)
  · injection hv with hA _ _
    refine ⟨g, 0, cur, (0, 0), hA, hg, fun j u hu => ?_⟩
    rw [← h4, List.getElem?_take] at hu
    split at hu
    · rw [Nat.zero_add, ← Array.getElem?_toList]
      exact hu
    · cases hu
/-- a row of one-cell elements, as its head -/
theorem RdT.rd (h : RdT w t A xs) : Rd w w.heap.size A xs.length xs := ⟨rfl, fun hn => by
  obtain ⟨b, off, cs, fr, h1, h2, h3⟩ := h (by rintro rfl; simp at hn)
  refine ⟨b, off, h1, (Array.getElem?_eq_some_iff.1 h2).1, fun j u hu => ?_⟩
  rw [cell_of_row w b (off + j) cs t fr h2]
  exact h3 _ _ hu⟩
end
end Go.Proofs.YtfpicifjjedlaaaGreatDoor.base
/-
  A cut of a row at both ends, as a law, over any program. My own text.
-/
namespace Go.Proofs.YtfpicifjjedlaaaGreatDoor.base
open Go.RowKit
set_option linter.unusedVariables false
/-- 'x[lo:hi]' of one-cell elements -/
theorem wpList_cut2 {P : Program} {w : World} {ops : Array Oper} {rest : List Oper} {o : Oper} {a : Act} {Q : Exit → Act → World → Prop} (hgd : Region.wanted o (yielded ops a.tmps) = true) (t e : TypeId) (x y z : Operand) (ho : o.op = .slice t x (some y) (some z) none) (hu : P.underlying t = some (.slice e)) (hsz : (P.info? e).map (·.size) = some 1)
    (A : Option Addr) (n c lo hi B : Nat) (xs : List Value) (hx : a.eval x = .slice A n c) (hy : a.eval y = .int .i64 (lo : Nat)) (hz : a.eval z = .int .i64 (hi : Nat)) (hr : Rd w B A n xs) (h1 : lo ≤ hi) (h2 : hi ≤ n) (hc : n ≤ c)
    (h : ∀ D, Rd w B D (hi - lo) ((xs.drop lo).take (hi - lo)) → wpList P ops Q rest (a.put o.dst (.slice D (hi - lo) (c - lo))) w) : wpList P ops Q (o :: rest) a w := by
  refine wpList_step fun K hK => ?_
  rw [if_pos hgd]
  have he : P.elem t = e := by unfold Program.elem; rw [hu]
  have hu2 : P.underlying t = some (.slice (P.elem t)) := by rw [he]; exact hu
  have hcut := hr.cut (lo := lo) (hi := hi) (cap := c) h1 h2 hc
  have hs : (sizeOf (P.elem t)).run P w = .ok 1 w := by
    rw [he]
    cases hq : P.info? e with
    | none => simp [hq] at hsz
    | some i =>
      have : i.size = 1 := by simpa [hq] using hsz
      simp [sizeOf, typeInfo, hq, this]
  have hrun : (Instr.sliceAt t (.slice A n c) (some (.int .i64 (lo : Nat))) (some (.int .i64 (hi : Nat))) none).run P w = .ok (.slice (if c = lo then A else A.map (·.add lo)) (hi - lo) (c - lo)) w := by
    rw [run_sliceAt_slice w t _ _ _ _ hu2, run_slice_lh w t A n c hu2 .i64 .i64 (lo : Nat) (hi : Nat) (by omega) (by omega) (by omega), hs]
    simp [Result.andThen, sliced]
  unfold Oper.wp execOp
  simp only [ho, hx, hy, hz, Option.map_some, Option.map_none, Sem.run_bind, hrun, Result.andThen_ok]
  exact hK _ _ (h _ hcut)
end Go.Proofs.YtfpicifjjedlaaaGreatDoor.base
/-
  New by three contracts; the laws' may and wakes. My own text.
-/
namespace Go.Proofs.YtfpicifjjedlaaaGreatDoor.huffp
open Go.RowKit Go.Proofs.YtfpicifjjedlaaaGreatDoor.base Go.Proofs.YtfpicifjjedlaaaGreatDoor.num Go.Proofs.YtfpicifjjedlaaaGreatDoor.bitnum Go.Proofs.YtfpicifjjedlaaaGreatDoor.bitp Go.Proofs.YtfpicifjjedlaaaGreatDoor.huffnum
set_option linter.unusedVariables false

/-- lengths that may be -/
def May (zs : List Int) : Prop := ∀ z ∈ zs, 0 ≤ z ∧ z ≤ 15
theorem new_arg (A : Option Addr) (n c : Nat) (zs : List Int) (w : World) (B : Nat) (hr : Rd w B A n (zs.map iv)) (hB : B ≤ w.heap.size) (hn : n ≤ maxLen) (hbad : ¬ (May zs ∧ n ≤ 320)) :
    Calls Tryz.prog 27 #[.slice A n c] w fun e w' => e = .returned (.tuple #[.pointer none, .int .i64 1]) ∧ Fresh w w' := by
  by_cases h : n ≤ 320
  · refine (new_any A n c zs w B hr hB h).mono ?_
    rintro e w' (⟨_, he, hf⟩ | ⟨hm, _⟩ | ⟨hm, _⟩)
    · exact ⟨he, hf⟩
    · exact absurd ⟨hm, h⟩ hbad
    · exact absurd ⟨hm, h⟩ hbad
  · exact new_many A n c w (by omega) hn
theorem new_over (A : Option Addr) (n c : Nat) (zs : List Int) (ls : List Nat) (w : World) (B : Nat) (hr : Rd w B A n (zs.map iv)) (hB : B ≤ w.heap.size) (hn : n ≤ 320) (hm : May zs) (hls : zs.map Int.toNat = ls) (ho : 32768 < tx ls 15) :
    Calls Tryz.prog 27 #[.slice A n c] w fun e w' => e = .returned (.tuple #[.pointer none, .int .i64 12]) ∧ Fresh w w' := by
  subst hls
  refine (new_any A n c zs w B hr hB hn).mono ?_
  rintro e w' (⟨⟨z, hz, hb⟩, _⟩ | ⟨_, _, he, hf⟩ | ⟨_, h, _⟩)
  · have := hm z hz; omega
  · exact ⟨he, hf⟩
  · omega
theorem new_ok (A : Option Addr) (n c : Nat) (zs : List Int) (ls : List Nat) (w : World) (B : Nat) (hr : Rd w B A n (zs.map iv)) (hB : B ≤ w.heap.size) (hn : n ≤ 320) (hm : May zs) (hls : zs.map Int.toNat = ls) (ho : tx ls 15 ≤ 32768) :
    Calls Tryz.prog 27 #[.slice A n c] w fun e w' => ∃ g bl, e = .returned (.tuple #[.pointer (some ⟨g, 0, none⟩), .int .i64 0]) ∧ CodeAt w' g ls bl ∧ Since w w' bl := by
  subst hls
  refine (new_any A n c zs w B hr hB hn).mono ?_
  rintro e w' (⟨⟨z, hz, hb⟩, _⟩ | ⟨_, h, _⟩ | ⟨_, _, g, bl, he, hC, hS⟩)
  · have := hm z hz; omega
  · omega
  · exact ⟨g, bl, he, hC, hS⟩
theorem new_lit (w : World) (g0 : Nat) (hg : g0 = w.heap.size) :
    Calls Tryz.prog 27 #[.slice (some ⟨g0, 0, none⟩) 4 4] (w.alloc (.cells #[.int .i64 2, .int .i64 1, .int .i64 3, .int .i64 3] 3)) fun e w' => ∃ g bl, e = .returned (.tuple #[.pointer (some ⟨g, 0, none⟩), .int .i64 0]) ∧ CodeAt w' g [2, 1, 3, 3] bl ∧ Fresh w w' := by
  subst hg
  refine (new_ok (some ⟨w.heap.size, 0, none⟩) 4 4 [2, 1, 3, 3] [2, 1, 3, 3] _ (w.heap.size + 1) (Rd.lit w #[.int .i64 2, .int .i64 1, .int .i64 3, .int .i64 3] 3) (by simp) (by omega) (by intro z hz; simp at hz; omega) rfl (by decide)).mono ?_
  rintro e w' ⟨g, bl, he, hC, hS⟩
  exact ⟨g, bl, he, hC, (Fresh.alloc _ _).trans hS.1⟩
end Go.Proofs.YtfpicifjjedlaaaGreatDoor.huffp
