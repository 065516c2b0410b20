/-
  Rows of elements of some cells each, that are a call's own: plain lemmas, over any program. My own text.
-/
import Derived.Test.YtcdehklcdipcfaaGreatTurn
import Derived.Maps.AppendAt
import Derived.Deep.MidRow
namespace Go.Proofs.YtcdehklcdipcfaaGreat.base
open Go.RowKit
set_option linter.unusedVariables false

/-- a row of n elements of k cells each, told by f, is the call's own -/
abbrev OwnK {α : Type} (w : World) (base : Nat) (e : TypeId) (k : Nat) (A : Option Addr) (n c : Nat) (f : α → List Value) (l : List α) : Prop := w.ownsRow base e k (.slice A n c) n (l.flatMap f)
theorem flat_len {α : Type} {f : α → List Value} {k : Nat} (hk : ∀ a, (f a).length = k) (l : List α) : (l.flatMap f).length = l.length * k := by
  induction l with
  | nil => simp
  | cons a r ih => rw [List.flatMap_cons, List.length_append, ih, hk, List.length_cons, Nat.add_mul]; omega
theorem flat_at {α : Type} {f : α → List Value} {k : Nat} (hk : ∀ a, (f a).length = k) : ∀ (l : List α) (i : Nat) (s : α), l[i]? = some s → ∀ j v, (f s)[j]? = some v → (l.flatMap f)[i * k + j]? = some v
  | [], i, s, h, j, v, hj => by simp at h
  | a :: r, 0, s, h, j, v, hj => by
    simp only [List.getElem?_cons_zero, Option.some.injEq] at h
    subst h
    rw [List.flatMap_cons, Nat.zero_mul, Nat.zero_add, List.getElem?_append_left (List.getElem?_eq_some_iff.1 hj).1]
    exact hj
  | a :: r, i + 1, s, h, j, v, hj => by
    rw [List.getElem?_cons_succ] at h
    have ih := flat_at hk r i s h j v hj
    rw [List.flatMap_cons, List.getElem?_append_right (by rw [hk, Nat.add_mul]; omega), hk]
    have e : (i + 1) * k + j - k = i * k + j := by rw [Nat.add_mul]; omega
    rw [e]
    exact ih
section
variable {α : Type} {w w' : World} {base n c k : Nat} {e : TypeId} {A : Option Addr} {f : α → List Value} {l : List α}
theorem OwnK.nil (w : World) (base : Nat) (e : TypeId) (k : Nat) (f : α → List Value) : OwnK w base e k none 0 0 f [] := World.ownsRow_nil _ _ _ _
theorem OwnK.len (h : OwnK w base e k A n c f l) (hk : ∀ a, (f a).length = k) (h0 : 0 < k) : l.length = n := by
  have h1 := h.1
  rw [flat_len hk] at h1
  exact Nat.eq_of_mul_eq_mul_right h0 h1
theorem OwnK.keep (h : OwnK w base e k A n c f l) (hk : ∀ g, (Value.slice A n c).ownBlock = some g → w'.heap[g]? = w.heap[g]?) : OwnK w' base e k A n c f l := by
  refine ⟨h.1, ?_⟩
  rcases h.2 with h2 | ⟨g, cap, cur, hv, hb, hg, r⟩
  · exact .inl h2
  · exact .inr ⟨g, cap, cur, hv, hb, (hk g (by rw [hv]; rfl)).trans hg, r⟩
theorem OwnK.block (h : OwnK w base e k A n c f l) : ∀ g, (Value.slice A n c).ownBlock = some g → base ≤ g ∧ g < w.heap.size ∧ ∃ cs, w.heap[g]? = some (.cells cs e (0, 0)) := fun g hg => by
  rcases h.2 with ⟨h2, _⟩ | ⟨q, cap, cur, hv, hb, hq, r⟩
  · rw [h2] at hg; cases hg
  · rw [hv] at hg
    injection hg with hg
    subst hg
    exact ⟨hb, (Array.getElem?_eq_some_iff.1 hq).1, _, hq⟩
theorem OwnK.fresh (h : OwnK w base e k A n c f l) (q : Fresh w w') : OwnK w' base e k A n c f l := h.keep fun g hg => q.block g (h.block g hg).2.1
theorem OwnK.low (h : OwnK w base e k A n c f l) {b : Nat} (hb : b ≤ base) : OwnK w b e k A n c f l :=
  ⟨h.1, h.2.imp id fun ⟨g, cap, cur, hv, hg, r⟩ => ⟨g, cap, cur, hv, Nat.le_trans hb hg, r⟩⟩
/-- a row of another element type has turned -/
theorem OwnK.beside (h : OwnK w base e k A n c f l) {row : Option Nat} (hg : w.grownBy w' row) (hr : ∀ g, row = some g → ∃ cs t fr, w.heap[g]? = some (.cells cs t fr) ∧ t ≠ e) : OwnK w' base e k A n c f l := h.keep fun g hb => by
  obtain ⟨_, hlt, cs, hq⟩ := h.block g hb
  refine hg.block g hlt fun e1 => ?_
  obtain ⟨cs', t, fr, hq', hne⟩ := hr g e1.symm
  rw [hq'] at hq
  injection hq with hq
  injection hq with _ ht
  exact hne ht
theorem OwnK.but {g : Nat} (h : OwnK w base e k A n c f l) (q : But g w w') (hne : (Value.slice A n c).ownBlock ≠ some g) : OwnK w' base e k A n c f l := h.keep fun b hb =>
  q.block b (h.block b hb).2.1 fun e1 => hne (by rw [hb, e1])
theorem OwnK.ne (h : OwnK w base e k A n c f l) {g : Nat} {t : TypeId} {cs : List Value} (hb : Bk w g t cs) (hne : e ≠ t) : (Value.slice A n c).ownBlock ≠ some g := fun e1 => by
  obtain ⟨_, _, cs', hq⟩ := h.block g e1
  have hb' : w.heap[g]? = _ := hb
  rw [hb'] at hq
  injection hq with hq
  injection hq with _ ht
  exact hne ht.symm
theorem OwnK.cap (h : OwnK w base e k A n c f l) : n ≤ c ∧ c ≤ maxLen := by
  rcases h.2 with ⟨hv, hn⟩ | ⟨g, cap, cur, hv, _, _, h1, h2, _⟩
  · injection hv with _ h3 h4
    subst h4; subst h3; unfold maxLen; omega
  · injection hv with _ _ h4
    subst h4
    exact ⟨h1, h2⟩
theorem OwnK.append (h : OwnK w base e k A n c f l) {a : World} (hf : Fresh a w) (hb : a.heap.size ≤ base) (hg : w.grownBy w' (Value.slice A n c).ownBlock) : Fresh a w' :=
  Below.grown hf hg hf.size fun q hq => Nat.le_trans hb (h.block q hq).1
/-- an element, to be loaded whole -/
theorem OwnK.at_ (h : OwnK w base e k A n c f l) (hk : ∀ a, (f a).length = k) (h0 : 0 < k) {i : Nat} {s : α} (hs : l[i]? = some s) :
    ∃ g, A = some ⟨g, 0, none⟩ ∧ base ≤ g ∧ g < w.heap.size ∧ w.rangeAt g (i * k) (f s) := by
  have hl := h.len hk h0
  have hi : i < n := by rw [← hl]; exact (List.getElem?_eq_some_iff.1 hs).1
  rcases h.2 with ⟨_, hn⟩ | ⟨g, cap, cur, hv, hb, hg, h1, h2, h3, h4⟩
  · omega
  · injection hv with hA _ _
    refine ⟨g, hA, hb, (Array.getElem?_eq_some_iff.1 hg).1, fun j v hj => ?_⟩
    have hc := flat_at hk l i s hs j v hj
    rw [← h4, List.getElem?_take] at hc
    split at hc
    · rw [cell_of_row w g (i * k + j) _ _ (0, 0) hg]
      rw [← hc]
      simp
    · cases hc
end
/-- slices that lie apart from a row, when it grows -/
theorem RdA.grown {w w' : World} {row row' : Option Nat} {A : Option Addr} {n : Nat} {xs : List Value} (h : RdA w row.toList A n xs) (hg : w.grownBy w' row) (hr : row' = row ∨ row' = some w.heap.size) : RdA w' row'.toList A n xs :=
  ⟨h.1, fun hn => by
    obtain ⟨b, off, e, hb, hS, hc⟩ := h.2 hn
    have hne : some b ≠ row := fun e => hS (by rw [← e]; simp)
    refine ⟨b, off, e, Nat.lt_of_lt_of_le hb hg.size, fun hx => ?_, fun j u hu => (World.cell?_of_block (hg.block b hb hne)).trans (hc j u hu)⟩
    rcases hr with rfl | rfl
    · exact hS hx
    · simp at hx; omega⟩
/-- a row's own block is not one that a slice lies apart from, if it is new -/
theorem RdA.of_range {w : World} {m : Nat} {row : Option Nat} {A : Option Addr} {n : Nat} {xs : List Value} (h : RdA w (List.range m) A n xs) (hr : ∀ g, row = some g → g < m) : RdA w row.toList A n xs :=
  h.sub fun i hi => by
    rw [List.mem_range]
    cases row with
    | none => cases hi
    | some g => simp at hi; subst hi; exact hr _ rfl
/-- 'append(row, x)', x an element that stands in a block of its own -/
theorem wpList_append_cells {α : Type} {P : Program} (w : World) {ops : Array Oper} {rest : List Oper} {o : Oper} {a : Act} {Q : Exit → Act → World → Prop} (hgd : o.guard = none) (s x : Operand) (t : TypeId)
    (ho : o.op = .call { callee := .builtin .append, args := #[s, x], argTypes := #[t, t] })
    (base : Nat) (e : TypeId) (i : TypeInfo) (z : Value) (k bytes : Nat) (ht : P.underlying t = some (.slice e)) (hi : P.info? e = some i) (hz : i.zero = some z)
    (hsize : i.size = k) (hby : i.bytes = bytes) (hzs : z.cells.size = k) (hk0 : 0 < k) (f : α → List Value)
    (A : Option Addr) (n c : Nat) (l : List α) (hs : a.eval s = .slice A n c) (hown : OwnK w base e k A n c f l)
    (g : Nat) (p : α) (hx : a.eval x = .slice (some ⟨g, 0, none⟩) 1 1) (hg : Bk w g e (f p)) (hl : (f p).length = k) (h1 : ∀ u ∈ f p, u.oneCell' = true) (h63 : n ≤ 1099511627776) (hbytes : (n + 1) * bytes ≤ 140737488355328) (hbase : base ≤ w.heap.size)
    (h : ∀ A' c' w', OwnK w' base e k A' (n + 1) c' f (l ++ [p]) → w.grownBy w' (Value.slice A n c).ownBlock → ((Value.slice A' (n + 1) c').ownBlock = (Value.slice A n c).ownBlock ∨ (Value.slice A' (n + 1) c').ownBlock = some w.heap.size) → wpList P ops Q rest (a.put o.dst (.slice A' (n + 1) c')) w') : wpList P ops Q (o :: rest) a w := by
  refine wpList_plain hgd fun _ hK => ?_
  have hcells : ∀ j u, (f p)[j]? = some u → w.cell? ((⟨g, 0, none⟩ : Addr).add j) = some u := fun j u hu => by
    have hadd : (⟨g, 0, none⟩ : Addr).add j = ⟨g, 0 + j, none⟩ := by unfold Addr.add; split <;> simp_all
    rw [hadd, Nat.zero_add]
    exact hg.cell hu
  obtain ⟨v', w', hrun, h2, h3, _, h5⟩ := run_append_own_at (P := P) w base t o.type e i z k bytes ht hi hz hsize hby hzs hk0 (.slice A n c) n (l.flatMap f) hown ⟨g, 0, none⟩ 1 1 (f p) (by rw [hl, Nat.one_mul]) hcells h1 (by unfold maxLen; omega) hbytes hbase
  have hsn : l.flatMap f ++ f p = (l ++ [p]).flatMap f := by simp
  rw [hsn] at h2
  have hform : ∃ A' c', v' = .slice A' (n + 1) c' := by
    rcases h2.2 with ⟨hv, hn⟩ | ⟨g, cap, cur, hv, _⟩
    · omega
    · exact ⟨_, cap, hv⟩
  obtain ⟨A', c', rfl⟩ := hform
  unfold Oper.wp execOp
  simp only [ho, resolve, invoke, builtin, Sem.run_bind, Sem.run_pure, Result.andThen_ok, List.map_toArray, List.map_cons, List.map_nil, hs, hx, hrun]
  exact hK _ _ (h A' c' w' h2 h3 h5)
end Go.Proofs.YtcdehklcdipcfaaGreat.base
