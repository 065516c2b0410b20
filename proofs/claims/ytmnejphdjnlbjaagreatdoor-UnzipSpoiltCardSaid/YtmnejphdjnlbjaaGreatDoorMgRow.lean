import Derived.Test.YtmnejphdjnlbjaaGreatDoorTurn
import Derived.Maps.AppendAt
import Derived.Deep.MidRow
import Derived.Test.YtmnejphdjnlbjaaGreatDoorBlk
import Derived.Laws.CopyOwn
import Derived.StillTailTactics
import GoSem.Builtin.Clear
import Derived.Laws.BytesString
import Derived.Laws.IdiomStrings
/- Several of my own texts, one behind the other. -/
/-
  Rows of elements of some cells each, that are a call's own: plain lemmas, over any program. My own text.
-/
namespace Go.Proofs.YtmnejphdjnlbjaaGreatDoor.base
open Go.RowKit
set_option linter.unusedVariables false

/-- a row of n elements of k cells each, told by f, is the call's own -/
abbrev OwnK {α : Type} (w : World) (base : Nat) (e : TypeId) (k : Nat) (A : Option Addr) (n c : Nat) (f : α → List Value) (l : List α) : Prop := w.ownsRow base e k (.slice A n c) n (l.flatMap f)
theorem flat_len {α : Type} {f : α → List Value} {k : Nat} (hk : ∀ a, (f a).length = k) (l : List α) : (l.flatMap f).length = l.length * k := by
  induction l with
  | nil => simp
  | cons a r ih => rw [List.flatMap_cons, List.length_append, ih, hk, List.length_cons, Nat.add_mul]; omega
theorem flat_at {α : Type} {f : α → List Value} {k : Nat} (hk : ∀ a, (f a).length = k) : ∀ (l : List α) (i : Nat) (s : α), l[i]? = some s → ∀ j v, (f s)[j]? = some v → (l.flatMap f)[i * k + j]? = some v
  | [], i, s, h, j, v, hj => by simp at h
  | a :: r, 0, s, h, j, v, hj => by
    simp only [List.getElem?_cons_zero, Option.some.injEq] at h
    subst h
    rw [List.flatMap_cons, Nat.zero_mul, Nat.zero_add, List.getElem?_append_left (List.getElem?_eq_some_iff.1 hj).1]
    exact hj
  | a :: r, i + 1, s, h, j, v, hj => by
    rw [List.getElem?_cons_succ] at h
    have ih := flat_at hk r i s h j v hj
    rw [List.flatMap_cons, List.getElem?_append_right (by rw [hk, Nat.add_mul]; omega), hk]
    have e : (i + 1) * k + j - k = i * k + j := by rw [Nat.add_mul]; omega
    rw [e]
    exact ih
section
variable {α : Type} {w w' : World} {base n c k : Nat} {e : TypeId} {A : Option Addr} {f : α → List Value} {l : List α}
theorem OwnK.nil (w : World) (base : Nat) (e : TypeId) (k : Nat) (f : α → List Value) : OwnK w base e k none 0 0 f [] := World.ownsRow_nil _ _ _ _
theorem OwnK.len (h : OwnK w base e k A n c f l) (hk : ∀ a, (f a).length = k) (h0 : 0 < k) : l.length = n := by
  have h1 := h.1
  rw [flat_len hk] at h1
  exact Nat.eq_of_mul_eq_mul_right h0 h1
theorem OwnK.keep (h : OwnK w base e k A n c f l) (hk : ∀ g, (Value.slice A n c).ownBlock = some g → w'.heap[g]? = w.heap[g]?) : OwnK w' base e k A n c f l := by
  refine ⟨h.1, ?_⟩
  rcases h.2 with h2 | ⟨g, cap, cur, hv, hb, hg, r⟩
  · exact .inl h2
  · exact .inr ⟨g, cap, cur, hv, hb, (hk g (by rw [hv]; rfl)).trans hg, r⟩
theorem OwnK.block (h : OwnK w base e k A n c f l) : ∀ g, (Value.slice A n c).ownBlock = some g → base ≤ g ∧ g < w.heap.size ∧ ∃ cs, w.heap[g]? = some (.cells cs e (0, 0)) := fun g hg => by
  rcases h.2 with ⟨h2, _⟩ | ⟨q, cap, cur, hv, hb, hq, r⟩
  · rw [h2] at hg; cases hg
  · rw [hv] at hg
    injection hg with hg
    subst hg
    exact ⟨hb, (Array.getElem?_eq_some_iff.1 hq).1, _, hq⟩
theorem OwnK.fresh (h : OwnK w base e k A n c f l) (q : Fresh w w') : OwnK w' base e k A n c f l := h.keep fun g hg => q.block g (h.block g hg).2.1
theorem OwnK.low (h : OwnK w base e k A n c f l) {b : Nat} (hb : b ≤ base) : OwnK w b e k A n c f l :=
  ⟨h.1, h.2.imp id fun ⟨g, cap, cur, hv, hg, r⟩ => ⟨g, cap, cur, hv, Nat.le_trans hb hg, r⟩⟩
/-- a row of another element type has turned -/
theorem OwnK.beside (h : OwnK w base e k A n c f l) {row : Option Nat} (hg : w.grownBy w' row) (hr : ∀ g, row = some g → ∃ cs t fr, w.heap[g]? = some (.cells cs t fr) ∧ t ≠ e) : OwnK w' base e k A n c f l := h.keep fun g hb => by
  obtain ⟨_, hlt, cs, hq⟩ := h.block g hb
  refine hg.block g hlt fun e1 => ?_
  obtain ⟨cs', t, fr, hq', hne⟩ := hr g e1.symm
  rw [hq'] at hq
  injection hq with hq
  injection hq with _ ht
  exact hne ht
theorem OwnK.but {g : Nat} (h : OwnK w base e k A n c f l) (q : But g w w') (hne : (Value.slice A n c).ownBlock ≠ some g) : OwnK w' base e k A n c f l := h.keep fun b hb =>
  q.block b (h.block b hb).2.1 fun e1 => hne (by rw [hb, e1])
theorem OwnK.ne (h : OwnK w base e k A n c f l) {g : Nat} {t : TypeId} {cs : List Value} (hb : Bk w g t cs) (hne : e ≠ t) : (Value.slice A n c).ownBlock ≠ some g := fun e1 => by
  obtain ⟨_, _, cs', hq⟩ := h.block g e1
  have hb' : w.heap[g]? = _ := hb
  rw [hb'] at hq
  injection hq with hq
  injection hq with _ ht
  exact hne ht.symm
theorem OwnK.cap (h : OwnK w base e k A n c f l) : n ≤ c ∧ c ≤ maxLen := by
  rcases h.2 with ⟨hv, hn⟩ | ⟨g, cap, cur, hv, _, _, h1, h2, _⟩
  · injection hv with _ h3 h4
    subst h4; subst h3; unfold maxLen; omega
  · injection hv with _ _ h4
    subst h4
    exact ⟨h1, h2⟩
theorem OwnK.append (h : OwnK w base e k A n c f l) {a : World} (hf : Fresh a w) (hb : a.heap.size ≤ base) (hg : w.grownBy w' (Value.slice A n c).ownBlock) : Fresh a w' :=
  Below.grown hf hg hf.size fun q hq => Nat.le_trans hb (h.block q hq).1
/-- an element, to be loaded whole -/
theorem OwnK.at_ (h : OwnK w base e k A n c f l) (hk : ∀ a, (f a).length = k) (h0 : 0 < k) {i : Nat} {s : α} (hs : l[i]? = some s) :
    ∃ g, A = some ⟨g, 0, none⟩ ∧ base ≤ g ∧ g < w.heap.size ∧ w.rangeAt g (i * k) (f s) := by
  have hl := h.len hk h0
  have hi : i < n := by rw [← hl]; exact (List.getElem?_eq_some_iff.1 hs).1
  rcases h.2 with ⟨_, hn⟩ | ⟨g, cap, cur, hv, hb, hg, h1, h2, h3, h4⟩
  · omega
  · injection hv with hA _ _
    refine ⟨g, hA, hb, (Array.getElem?_eq_some_iff.1 hg).1, fun j v hj => ?_⟩
    have hc := flat_at hk l i s hs j v hj
    rw [← h4, List.getElem?_take] at hc
    split at hc
    · rw [cell_of_row w g (i * k + j) _ _ (0, 0) hg]
      rw [← hc]
      simp
    · cases hc
end
/-- slices that lie apart from a row, when it grows -/
theorem RdA.grown {w w' : World} {row row' : Option Nat} {A : Option Addr} {n : Nat} {xs : List Value} (h : RdA w row.toList A n xs) (hg : w.grownBy w' row) (hr : row' = row ∨ row' = some w.heap.size) : RdA w' row'.toList A n xs :=
  ⟨h.1, fun hn => by
    obtain ⟨b, off, e, hb, hS, hc⟩ := h.2 hn
    have hne : some b ≠ row := fun e => hS (by rw [← e]; simp)
    refine ⟨b, off, e, Nat.lt_of_lt_of_le hb hg.size, fun hx => ?_, fun j u hu => (World.cell?_of_block (hg.block b hb hne)).trans (hc j u hu)⟩
    rcases hr with rfl | rfl
    · exact hS hx
    · simp at hx; omega⟩
/-- a row's own block is not one that a slice lies apart from, if it is new -/
theorem RdA.of_range {w : World} {m : Nat} {row : Option Nat} {A : Option Addr} {n : Nat} {xs : List Value} (h : RdA w (List.range m) A n xs) (hr : ∀ g, row = some g → g < m) : RdA w row.toList A n xs :=
  h.sub fun i hi => by
    rw [List.mem_range]
    cases row with
    | none => cases hi
    | some g => simp at hi; subst hi; exact hr _ rfl
/-- 'append(row, x)', x an element that stands in a block of its own -/
theorem wpList_append_cells {α : Type} {P : Program} (w : World) {ops : Array Oper} {rest : List Oper} {o : Oper} {a : Act} {Q : Exit → Act → World → Prop} (hgd : o.guard = none) (s x : Operand) (t : TypeId)
    (ho : o.op = .call { callee := .builtin .append, args := #[s, x], argTypes := #[t, t] })
    (base : Nat) (e : TypeId) (i : TypeInfo) (z : Value) (k bytes : Nat) (ht : P.underlying t = some (.slice e)) (hi : P.info? e = some i) (hz : i.zero = some z)
    (hsize : i.size = k) (hby : i.bytes = bytes) (hzs : z.cells.size = k) (hk0 : 0 < k) (f : α → List Value)
    (A : Option Addr) (n c : Nat) (l : List α) (hs : a.eval s = .slice A n c) (hown : OwnK w base e k A n c f l)
    (g : Nat) (p : α) (hx : a.eval x = .slice (some ⟨g, 0, none⟩) 1 1) (hg : Bk w g e (f p)) (hl : (f p).length = k) (h1 : ∀ u ∈ f p, u.oneCell' = true) (h63 : n ≤ 1099511627776) (hbytes : (n + 1) * bytes ≤ 140737488355328) (hbase : base ≤ w.heap.size)
    (h : ∀ A' c' w', OwnK w' base e k A' (n + 1) c' f (l ++ [p]) → w.grownBy w' (Value.slice A n c).ownBlock → ((Value.slice A' (n + 1) c').ownBlock = (Value.slice A n c).ownBlock ∨ (Value.slice A' (n + 1) c').ownBlock = some w.heap.size) → wpList P ops Q rest (a.put o.dst (.slice A' (n + 1) c')) w') : wpList P ops Q (o :: rest) a w := by
  refine wpList_plain hgd fun _ hK => ?_
  have hcells : ∀ j u, (f p)[j]? = some u → w.cell? ((⟨g, 0, none⟩ : Addr).add j) = some u := fun j u hu => by
    have hadd : (⟨g, 0, none⟩ : Addr).add j = ⟨g, 0 + j, none⟩ := by unfold Addr.add; split <;> simp_all
    rw [hadd, Nat.zero_add]
    exact hg.cell hu
  obtain ⟨v', w', hrun, h2, h3, _, h5⟩ := run_append_own_at (P := P) w base t o.type e i z k bytes ht hi hz hsize hby hzs hk0 (.slice A n c) n (l.flatMap f) hown ⟨g, 0, none⟩ 1 1 (f p) (by rw [hl, Nat.one_mul]) hcells h1 (by unfold maxLen; omega) hbytes hbase
  have hsn : l.flatMap f ++ f p = (l ++ [p]).flatMap f := by simp
  rw [hsn] at h2
  have hform : ∃ A' c', v' = .slice A' (n + 1) c' := by
    rcases h2.2 with ⟨hv, hn⟩ | ⟨g, cap, cur, hv, _⟩
    · omega
    · exact ⟨_, cap, hv⟩
  obtain ⟨A', c', rfl⟩ := hform
  unfold Oper.wp execOp
  simp only [ho, resolve, invoke, builtin, Sem.run_bind, Sem.run_pure, Result.andThen_ok, List.map_toArray, List.map_cons, List.map_nil, hs, hx, hrun]
  exact hK _ _ (h A' c' w' h2 h3 h5)
end Go.Proofs.YtmnejphdjnlbjaaGreatDoor.base
/-
  Many cells out of, and into, a block that is known whole: load, store, copy, clear. Plain lemmas, over any program. My own text.
-/
namespace Go.Proofs.YtmnejphdjnlbjaaGreatDoor.base
open Go.RowKit
set_option linter.unusedVariables false

theorem But.setRow {g : Nat} (w : World) (c : Array Value) : But g w (w.setRow g c) := But.row g w c
section
variable {P : Program} {w : World} {g t off : Nat} {cur : List Value}
theorem run_cells_mid (h : Bk w g t cur) (vs : List Value) (hfit : off + vs.length ≤ cur.length) (h1 : ∀ v ∈ vs, v.oneCell' = true) :
    ∃ w', (storeCells ⟨g, off, none⟩ vs).run P w = .ok () w' ∧ Bk w' g t (splice cur off vs) ∧ But g w w' := by
  have hg : w.heap[g]? = some (.cells cur.toArray t (0, 0)) := h
  have := run_storeCells_at (P := P) g off t vs 0 cur.toArray w hg (by simpa using hfit) h1
  refine ⟨_, this, ?_, But.setRow w _⟩
  have h2 := h.row (cur.toArray.toList.take (off + 0) ++ (vs ++ cur.toArray.toList.drop (off + 0 + vs.length))).toArray
  simpa [splice] using h2

theorem run_store_mid (h : Bk w g t cur) (ty : TypeId) (vs : List Value) (hfit : off + vs.length ≤ cur.length) (h1 : ∀ v ∈ vs, v.oneCell' = true) (hi : (P.info? ty).map (·.size) = some vs.length) :
    ∃ w', (storeVar ty ⟨g, off, none⟩ (.agg vs.toArray)).run P w = .ok () w' ∧ Bk w' g t (splice cur off vs) ∧ But g w w' := by
  obtain ⟨w', hr, hb⟩ := run_cells_mid (P := P) h vs hfit h1
  refine ⟨w', ?_, hb⟩
  cases hq : P.info? ty with
  | none => simp [hq] at hi
  | some i =>
    have hs : vs.length = i.size := by simp [hq] at hi; omega
    simp [storeVar, sizeOf, typeInfo, hq, Value.cells, hs, hr]
end

section
variable {P : Program} {w : World} {ops : Array Oper} {rest : List Oper} {o : Oper} {a : Act} {Q : Exit → Act → World → Prop}
theorem wpList_store_blk (hgd : o.guard = none) (ty : TypeId) (x y : Operand) (ho : o.op = .store ty x y) (g off t : Nat) (cur vs : List Value) (hx : a.eval x = .pointer (some ⟨g, off, none⟩)) (hy : a.eval y = .agg vs.toArray)
    (hg : Bk w g t cur) (hfit : off + vs.length ≤ cur.length) (h1 : ∀ v ∈ vs, v.oneCell' = true) (hi : (P.info? ty).map (·.size) = some vs.length)
    (h : ∀ w', Bk w' g t (splice cur off vs) → But g w w' → wpList P ops Q rest (a.put o.dst undef) w') : wpList P ops Q (o :: rest) a w := by
  refine wpList_plain hgd fun K hK => ?_
  obtain ⟨w', hr, hb, hbut⟩ := run_store_mid (P := P) hg ty vs hfit h1 hi
  unfold Oper.wp execOp
  simp only [ho, hx, hy, Instr.storeAt, Instr.sureAddr, Sem.run_bind, Sem.run_pure, Result.andThen_ok, hr]
  exact hK _ _ (h w' hb hbut)
/-- a whole variable that was laid just now -/
theorem wpList_store_new (hgd : o.guard = none) (ty : TypeId) (x y : Operand) (ho : o.op = .store ty x y) (g : Nat) (vs : List Value) (hx : a.eval x = .pointer (some ⟨g, 0, none⟩)) (hy : a.eval y = .agg vs.toArray)
    (w0 : World) (c : Array Value) (t : TypeId) (hw : w = w0.alloc (.cells c t)) (hg : g = w0.heap.size) (hc : c.size = vs.length) (h1 : ∀ v ∈ vs, v.oneCell' = true) (hi : (P.info? ty).map (·.size) = some vs.length)
    (h : ∀ w', Bk w' g t vs → Fresh w0 w' → g < w'.heap.size → wpList P ops Q rest (a.put o.dst undef) w') : wpList P ops Q (o :: rest) a w := by
  subst hw; subst hg
  have hb := Bk.made w0 t c
  refine wpList_store_blk hgd ty x y ho w0.heap.size 0 t c.toList vs hx hy hb (by have := Array.length_toList (xs := c); omega) h1 hi fun w' hb' hbut => ?_
  have hle : c.toList.length ≤ 0 + vs.length := by have := Array.length_toList (xs := c); omega
  have e : splice c.toList 0 vs = vs := by unfold splice; rw [List.take_zero, List.nil_append, List.drop_of_length_le hle, List.append_nil]
  rw [e] at hb'
  exact h w' hb' ((Fresh.alloc w0 _).but (Nat.le_refl _) hbut) hb'.inside
theorem wpList_load_blk (hgd : o.guard = none) (ty : TypeId) (x : Operand) (ho : o.op = .load ty x) (g off n t : Nat) (cur : List Value) (hx : a.eval x = .pointer (some ⟨g, off, none⟩)) (hg : Bk w g t cur) (hfit : off + n ≤ cur.length)
    (d : TypeDesc) (hu : P.underlying ty = some d) (hd : d.isRow = true) (hi : (P.info? ty).map (·.size) = some n)
    (h : wpList P ops Q rest (a.put o.dst (.agg ((cur.drop off).take n).toArray)) w) : wpList P ops Q (o :: rest) a w := by
  refine wpList_load_mid hgd ty x ho g off hx ((cur.drop off).take n) d (fun j v hv => hg.cell ?_) hu hd (by rw [hi, List.length_take, List.length_drop]; congr 1; omega) h
  rw [List.getElem?_take] at hv
  split at hv
  · rwa [List.getElem?_drop] at hv
  · cases hv
/-- the load's run, for a region that draws -/
theorem run_load_blk (g off n t : Nat) (cur : List Value) (hg : Bk w g t cur) (hfit : off + n ≤ cur.length) (ty : TypeId) (d : TypeDesc) (hu : P.underlying ty = some d) (hd : d.isRow = true) (hi : (P.info? ty).map (·.size) = some n) (vs : List Value) (hv : vs = (cur.drop off).take n) :
    (Instr.loadAt ty (.pointer (some ⟨g, off, none⟩))).run P w = .ok (.agg vs.toArray) w := by
  subst hv
  refine run_loadAt_mid w g off ty ((cur.drop off).take n) d (fun j v hv => hg.cell ?_) hu hd (by rw [hi, List.length_take, List.length_drop]; congr 1; omega)
  rw [List.getElem?_take] at hv
  split at hv
  · rwa [List.getElem?_drop] at hv
  · cases hv
/-- copy into a block that is known whole -/
theorem wpList_copy_blk (hgd : o.guard = none) (d s : Operand) (dT sT : TypeId) (ho : o.op = .call { callee := .builtin .copy, args := #[d, s], argTypes := #[dT, sT] }) (elem : TypeId) (hu : P.underlying dT = some (.slice elem)) (hsz : (P.info? elem).map (·.size) = some 1)
    (g off dLen dCap : Nat) (A : Option Addr) (sLen sCap : Nat) (hd : a.eval d = .slice (some ⟨g, off, none⟩) dLen dCap) (hs : a.eval s = .slice A sLen sCap)
    (cur : List Value) (t : TypeId) (hg : Bk w g t cur) (vs : List Value) (k : Nat) (hk : vs.length = k) (hn : vs.length = min sLen dLen) (h0 : 0 < vs.length)
    (hsrc : ∃ b so, A = some ⟨b, so, none⟩ ∧ ∀ j v, vs[j]? = some v → w.cell? ⟨b, so + j, none⟩ = some v) (hfit : off + vs.length ≤ cur.length) (h1 : ∀ v ∈ vs, v.oneCell' = true)
    (h : ∀ w', Bk w' g t (splice cur off vs) → But g w w' → wpList P ops Q rest (a.put o.dst (.int .i64 (k : Nat))) w') : wpList P ops Q (o :: rest) a w := by
  subst hk
  obtain ⟨b, so, rfl, hc⟩ := hsrc
  have hg' : w.heap[g]? = some (.cells cur.toArray t (0, 0)) := hg
  refine wpList_copy_own hgd d s dT sT ho elem hu hsz g off dLen dCap ⟨b, so, none⟩ sLen sCap hd hs cur.toArray t hg' vs hn (fun j v hv => by rw [Addr.add_mid]; exact hc j v hv) (by simpa using hfit) h1 ?_
  have h2 := hg.row (cur.toArray.toList.take off ++ (vs ++ cur.toArray.toList.drop (off + vs.length))).toArray
  exact h _ (by simpa [splice] using h2) (But.setRow w _)
/-- clear of bytes within a block that is known whole -/
theorem wpList_clear_blk (hgd : o.guard = none) (x : Operand) (t : TypeId) (ho : o.op = .call { callee := .builtin .clear, args := #[x], argTypes := #[t] }) (e : TypeId) (hu : P.underlying t = some (.slice e)) (hz : (zeroValue e).run P w = .ok (.int .u8 0) w)
    (g off n c : Nat) (hx : a.eval x = .slice (some ⟨g, off, none⟩) n c) (cur : List Value) (tb : TypeId) (hg : Bk w g tb cur) (h0 : 0 < n) (hfit : off + n ≤ cur.length)
    (h : ∀ w', Bk w' g tb (splice cur off (List.replicate n (.int .u8 0))) → But g w w' → wpList P ops Q rest (a.put o.dst (.tuple #[])) w') : wpList P ops Q (o :: rest) a w := by
  refine wpList_plain hgd fun K hK => ?_
  have hzc : (Builtin.zeroCells (Value.int .u8 0).cells n).toList = List.replicate n (.int .u8 0) := by
    refine List.ext_getElem (by simp [Builtin.zeroCells, Value.cells]) fun j h1 h2 => ?_
    simp [Builtin.zeroCells, Value.cells, Nat.mod_one]
  obtain ⟨w', hr, hb, hbut⟩ := run_cells_mid (P := P) (off := off) hg (List.replicate n (.int .u8 0)) (by rw [List.length_replicate]; exact hfit) (fun v hv => by rw [List.eq_of_mem_replicate hv]; rfl)
  have hrun : (Builtin.clear_ #[t] o.type #[.slice (some ⟨g, off, none⟩) n c]).run P w = .ok (.tuple #[]) w' := by
    obtain ⟨m, rfl⟩ : ∃ m, n = m + 1 := ⟨n - 1, by omega⟩
    simp [Builtin.clear_, run_underlying hu, hz, hzc, hr, Result.andThen]
  unfold Oper.wp
  simp [execOp, ho, resolve, invoke, builtin, hx, hrun, Result.andThen]
  exact hK _ _ (h w' hb hbut)
end

/-- make of one-cell elements -/
theorem wpList_make_blk {P : Program} {w : World} {ops : Array Oper} {rest : List Oper} {o : Oper} {a : Act} {Q : Exit → Act → World → Prop} (hgd : o.guard = none) (t : TypeId) (x y : Operand) (ho : o.op = .makeSlice t x y) (e : TypeId) (i : TypeInfo) (z : Value) (hu : P.underlying t = some (.slice e)) (hi : P.info? e = some i) (hz : i.zero = some z)
    (hsize : i.size = 1) (hzc : z.cells = #[z]) (n : Nat) (hx : a.eval x = .int .i64 n) (hy : a.eval y = .int .i64 n) (hbytes : i.bytes * n ≤ 281474976710656) (h63 : n ≤ maxLen) (g : Nat) (hg : w.heap.size = g)
    (h : ∀ w', Bk w' g e (List.replicate n z) → Fresh w w' → wpList P ops Q rest (a.put o.dst (.slice (some ⟨g, 0, none⟩) n n)) w') : wpList P ops Q (o :: rest) a w := by
  refine wpList_plain hgd fun K hK => ?_
  subst hg
  have h63' : (n : Int) ≤ 9223372036854775807 := by
    have h := h63
    simp [maxLen] at h
    omega
  have hb' : (i.bytes : Int) * (n : Int) ≤ 281474976710656 := by
    have h : ((i.bytes * n : Nat) : Int) ≤ 281474976710656 := by omega
    rwa [Int.natCast_mul] at h
  have hr := run_make (P := P) w t e i z hu hi hz .i64 .i64 n n (by omega) (Int.le_refl _) hb' h63'
  simp only [Int.toNat_natCast] at hr
  unfold Oper.wp execOp
  simp only [ho, hx, hy, Sem.run_bind, hr, Result.andThen_ok]
  refine hK _ _ (h _ ?_ (Fresh.alloc _ _))
  have h2 := Bk.made w e (madeCells z.cells (n * i.size))
  rw [hzc, hsize, Nat.mul_one, toList_madeCells_one] at h2
  rw [hzc, hsize, Nat.mul_one]
  exact h2

/-- the load of many cells in a region that draws ('go_still_tail') -/
theorem wpStill_load_blk {P : Program} {w : World} {ops : Array Oper} {rest : List Oper} {o : Oper} {a : Act} {Q : Act → Prop} (hgd : o.guard = none) (ty : TypeId) (x : Operand) (ho : o.op = .load ty x) (g off n t : Nat) (cur : List Value) (hx : a.eval x = .pointer (some ⟨g, off, none⟩)) (hg : Bk w g t cur) (hfit : off + n ≤ cur.length)
    (d : TypeDesc) (hu : P.underlying ty = some d) (hd : d.isRow = true) (hi : (P.info? ty).map (·.size) = some n) (vs : List Value) (hv : vs = (cur.drop off).take n)
    (h : wpStill P ops w Q rest (a.put o.dst (.agg vs.toArray))) : wpStill P ops w Q (o :: rest) a := by
  refine wpStill_step fun K hK => ?_
  have hw : Region.wanted o (yielded ops a.tmps) = true := by simp [Region.wanted, hgd]
  rw [if_pos hw]
  have hrun := run_load_blk (P := P) g off n t cur hg hfit ty d hu hd hi vs hv
  have he : (execOp a.eval o).run P w = .ok (.value (.agg vs.toArray)) w := by
    unfold execOp
    simp only [ho, hx, Sem.run_bind, hrun, Result.andThen_ok]
    rfl
  unfold Oper.still
  rw [he, Oper.stillUpon_value]
  exact hK _ h

/-! guards: they fail at once where another operation stands -/
section
variable {P : Program} {w : World} {ops : Array Oper} {rest : List Oper} {a : Act} {Q : Exit → Act → World → Prop} {ty t : TypeId}
theorem at_store_ (x y : Nat) {ps : String} {af gd} (h : wpList P ops Q (⟨none, .store ty (.tmp x) (.tmp y), t, ps, af, gd⟩ :: rest) a w) : wpList P ops Q (⟨none, .store ty (.tmp x) (.tmp y), t, ps, af, gd⟩ :: rest) a w := h
theorem at_slot_ (d : Nat) {op : Op} {ps : String} {af gd} (h : wpList P ops Q (⟨some d, op, t, ps, af, gd⟩ :: rest) a w) : wpList P ops Q (⟨some d, op, t, ps, af, gd⟩ :: rest) a w := h
theorem at_none_ {op : Op} {ps : String} {af gd} (h : wpList P ops Q (⟨none, op, t, ps, af, gd⟩ :: rest) a w) : wpList P ops Q (⟨none, op, t, ps, af, gd⟩ :: rest) a w := h
end
end Go.Proofs.YtmnejphdjnlbjaaGreatDoor.base
/-
  Conversions between texts and bytes, as laws of the walk: plain lemmas, over any program. My own text.
-/
namespace Go.Proofs.YtmnejphdjnlbjaaGreatDoor.base
open Go.RowKit
set_option linter.unusedVariables false

/-- string(bytes) -/
theorem run_str_rd {P : Program} (w : World) (src dst e : TypeId) (hs : P.underlying src = some (.slice e)) (he : P.underlying e = some (.int .u8)) (hd : P.underlying dst = some .string) (A : Option Addr) (c n B : Nat) (bs : List UInt8) (h : Rd w B A n (bs.map bv)) :
    (convert src dst (.slice A n c)).run P w = .ok (.string ⟨bs.toArray⟩) w := by
  rw [run_convert_bytes_string w src dst e _ _ _ hs he hd]
  have hl : bs.length = n := by have := h.1; rwa [List.length_map] at this
  subst hl
  rcases A with _ | ad
  · have hb : bs = [] := by
      cases bs with
      | nil => rfl
      | cons b r =>
        obtain ⟨_, _, e1, _⟩ := h.2 (by simp)
        cases e1
    subst hb
    rfl
  · have hl := run_loadCells_list (w := w) (P := P) ad (bs.map bv) fun j v hv => by
      have hlt : j < bs.length := by
        have := (List.getElem?_eq_some_iff.1 hv).1
        rwa [List.length_map] at this
      obtain ⟨b, off, e1, _, hc⟩ := h.2 (by omega)
      injection e1 with e1
      subst e1
      have hadd : (⟨b, off, none⟩ : Addr).add j = ⟨b, off + j, none⟩ := by unfold Addr.add; split <;> simp_all
      rw [hadd]
      exact hc j v hv
    rw [List.length_map] at hl
    have e1 : bs.map bv = (bs.map fun x => (x.toNat : Int)).map (Value.int .u8) := by simp [Function.comp_def]
    rw [e1] at hl
    rw [run_bytesToString w ad bs.length c _ hl, foldl_push_byteCells]
    congr 2
    simp [ByteArray.empty, ByteArray.emptyWithCapacity]
    rfl
section
variable {P : Program} {w : World} {ops : Array Oper} {rest : List Oper} {o : Oper} {a : Act} {Q : Exit → Act → World → Prop}
/-- []byte(text) -/
theorem wpList_bytes_of (hgd : o.guard = none) (src dst e : TypeId) (x : Operand) (ho : o.op = .convert src dst x) (hs : P.underlying src = some .string) (hd : P.underlying dst = some (.slice e)) (he : P.underlying e = some (.int .u8))
    (s : ByteArray) (hx : a.eval x = .string s) (l : List UInt8) (hl : s.data.toList = l) (n : Nat) (hn : l.length = n) (hm : n ≤ maxLen)
    (h : ∀ A c w', Fresh w w' → Rd w' w'.heap.size A n (l.map bv) → n ≤ c → c ≤ maxLen → wpList P ops Q rest (a.put o.dst (.slice A n c)) w') : wpList P ops Q (o :: rest) a w := by
  refine wpList_plain hgd fun K hK => ?_
  have hsz : s.size = n := by rw [← hn, ← hl]; exact (Array.length_toList (xs := s.data)).symm
  have hrun := run_bytes_of_string (P := P) w src dst e s hs hd he
  rw [hsz] at hrun
  unfold Oper.wp execOp
  simp only [ho, hx, Sem.run_bind, hrun, Result.andThen_ok]
  have hf : Fresh w (w.drew.alloc (.cells (bytesRow s (grownCap w n 0 e)) e ((bytesRow s (grownCap w n 0 e)).size, (bytesRow s (grownCap w n 0 e)).size + 1))) := (Fresh.drew w).trans (Fresh.alloc _ _)
  refine hK _ _ (h _ _ _ hf ⟨by rw [List.length_map, hn], fun hpos => ⟨w.heap.size, 0, rfl, by simp, fun j u hu => ?_⟩⟩ ?_ ?_)
  · rw [Nat.zero_add]
    have hj : j < s.data.size := by
      have := (List.getElem?_eq_some_iff.1 hu).1
      rw [List.length_map] at this
      rw [← hl] at this
      rwa [Array.length_toList] at this
    have hcell := cell_of_row (w.drew.alloc (.cells (bytesRow s (grownCap w n 0 e)) e ((bytesRow s (grownCap w n 0 e)).size, (bytesRow s (grownCap w n 0 e)).size + 1))) w.heap.size j _ e _ (heap_alloc_new w.drew _)
    rw [hcell, bytesRow_at s _ j hj, ← hu, ← hl, List.getElem?_map, List.getElem?_eq_getElem (by simpa using hj)]
    simp
  · exact grownCap_ge w n 0 e
  · exact grownCap_le_maxLen w n 0 e hm
end
end Go.Proofs.YtmnejphdjnlbjaaGreatDoor.base
