import Derived.Test.YtppgceighgpgoaaGreatDoorMgBse
import Derived.Deep.MidRow
import Derived.Laws.CopyOwn
import Derived.StillTailTactics
import GoSem.Builtin.Clear
/-
  Many cells out of, and into, a block that is known whole: load, store, copy, clear. Plain lemmas, over any program. My own text.
-/
namespace Go.Proofs.YtppgceighgpgoaaGreatDoor.base
open Go.RowKit
set_option linter.unusedVariables false

theorem But.setRow {g : Nat} (w : World) (c : Array Value) : But g w (w.setRow g c) := But.row g w c
section
variable {P : Program} {w : World} {g t off : Nat} {cur : List Value}
theorem run_cells_mid (h : Bk w g t cur) (vs : List Value) (hfit : off + vs.length ≤ cur.length) (h1 : ∀ v ∈ vs, v.oneCell' = true) :
    ∃ w', (storeCells ⟨g, off, none⟩ vs).run P w = .ok () w' ∧ Bk w' g t (splice cur off vs) ∧ But g w w' := by
  have hg : w.heap[g]? = some (.cells cur.toArray t (0, 0)) := h
  have := run_storeCells_at (P := P) g off t vs 0 cur.toArray w hg (by simpa using hfit) h1
  refine ⟨_, this, ?_, But.setRow w _⟩
  have h2 := h.row (cur.toArray.toList.take (off + 0) ++ (vs ++ cur.toArray.toList.drop (off + 0 + vs.length))).toArray
  simpa [splice] using h2

theorem run_store_mid (h : Bk w g t cur) (ty : TypeId) (vs : List Value) (hfit : off + vs.length ≤ cur.length) (h1 : ∀ v ∈ vs, v.oneCell' = true) (hi : (P.info? ty).map (·.size) = some vs.length) :
    ∃ w', (storeVar ty ⟨g, off, none⟩ (.agg vs.toArray)).run P w = .ok () w' ∧ Bk w' g t (splice cur off vs) ∧ But g w w' := by
  obtain ⟨w', hr, hb⟩ := run_cells_mid (P := P) h vs hfit h1
  refine ⟨w', ?_, hb⟩
  cases hq : P.info? ty with
  | none => simp [hq] at hi
  | some i =>
    have hs : vs.length = i.size := by simp [hq] at hi; omega
    simp [storeVar, sizeOf, typeInfo, hq, Value.cells, hs, hr]
end

section
variable {P : Program} {w : World} {ops : Array Oper} {rest : List Oper} {o : Oper} {a : Act} {Q : Exit → Act → World → Prop}
theorem wpList_store_blk (hgd : o.guard = none) (ty : TypeId) (x y : Operand) (ho : o.op = .store ty x y) (g off t : Nat) (cur vs : List Value) (hx : a.eval x = .pointer (some ⟨g, off, none⟩)) (hy : a.eval y = .agg vs.toArray)
    (hg : Bk w g t cur) (hfit : off + vs.length ≤ cur.length) (h1 : ∀ v ∈ vs, v.oneCell' = true) (hi : (P.info? ty).map (·.size) = some vs.length)
    (h : ∀ w', Bk w' g t (splice cur off vs) → But g w w' → wpList P ops Q rest (a.put o.dst undef) w') : wpList P ops Q (o :: rest) a w := by
  refine wpList_plain hgd fun K hK => ?_
  obtain ⟨w', hr, hb, hbut⟩ := run_store_mid (P := P) hg ty vs hfit h1 hi
  unfold Oper.wp execOp
  simp only [ho, hx, hy, Instr.storeAt, Instr.sureAddr, Sem.run_bind, Sem.run_pure, Result.andThen_ok, hr]
  exact hK _ _ (h w' hb hbut)
/-- a whole variable that was laid just now -/
theorem wpList_store_new (hgd : o.guard = none) (ty : TypeId) (x y : Operand) (ho : o.op = .store ty x y) (g : Nat) (vs : List Value) (hx : a.eval x = .pointer (some ⟨g, 0, none⟩)) (hy : a.eval y = .agg vs.toArray)
    (w0 : World) (c : Array Value) (t : TypeId) (hw : w = w0.alloc (.cells c t)) (hg : g = w0.heap.size) (hc : c.size = vs.length) (h1 : ∀ v ∈ vs, v.oneCell' = true) (hi : (P.info? ty).map (·.size) = some vs.length)
    (h : ∀ w', Bk w' g t vs → Fresh w0 w' → g < w'.heap.size → wpList P ops Q rest (a.put o.dst undef) w') : wpList P ops Q (o :: rest) a w := by
  subst hw; subst hg
  have hb := Bk.made w0 t c
  refine wpList_store_blk hgd ty x y ho w0.heap.size 0 t c.toList vs hx hy hb (by have := Array.length_toList (xs := c); omega) h1 hi fun w' hb' hbut => ?_
  have hle : c.toList.length ≤ 0 + vs.length := by have := Array.length_toList (xs := c); omega
  have e : splice c.toList 0 vs = vs := by unfold splice; rw [List.take_zero, List.nil_append, List.drop_of_length_le hle, List.append_nil]
  rw [e] at hb'
  exact h w' hb' ((Fresh.alloc w0 _).but (Nat.le_refl _) hbut) hb'.inside
theorem wpList_load_blk (hgd : o.guard = none) (ty : TypeId) (x : Operand) (ho : o.op = .load ty x) (g off n t : Nat) (cur : List Value) (hx : a.eval x = .pointer (some ⟨g, off, none⟩)) (hg : Bk w g t cur) (hfit : off + n ≤ cur.length)
    (d : TypeDesc) (hu : P.underlying ty = some d) (hd : d.isRow = true) (hi : (P.info? ty).map (·.size) = some n)
    (h : wpList P ops Q rest (a.put o.dst (.agg ((cur.drop off).take n).toArray)) w) : wpList P ops Q (o :: rest) a w := by
  refine wpList_load_mid hgd ty x ho g off hx ((cur.drop off).take n) d (fun j v hv => hg.cell ?_) hu hd (by rw [hi, List.length_take, List.length_drop]; congr 1; omega) h
  rw [List.getElem?_take] at hv
  split at hv
  · rwa [List.getElem?_drop] at hv
  · cases hv
/-- the load's run, for a region that draws -/
theorem run_load_blk (g off n t : Nat) (cur : List Value) (hg : Bk w g t cur) (hfit : off + n ≤ cur.length) (ty : TypeId) (d : TypeDesc) (hu : P.underlying ty = some d) (hd : d.isRow = true) (hi : (P.info? ty).map (·.size) = some n) (vs : List Value) (hv : vs = (cur.drop off).take n) :
    (Instr.loadAt ty (.pointer (some ⟨g, off, none⟩))).run P w = .ok (.agg vs.toArray) w := by
  subst hv
  refine run_loadAt_mid w g off ty ((cur.drop off).take n) d (fun j v hv => hg.cell ?_) hu hd (by rw [hi, List.length_take, List.length_drop]; congr 1; omega)
  rw [List.getElem?_take] at hv
  split at hv
  · rwa [List.getElem?_drop] at hv
  · cases hv
/-- copy into a block that is known whole -/
theorem wpList_copy_blk (hgd : o.guard = none) (d s : Operand) (dT sT : TypeId) (ho : o.op = .call { callee := .builtin .copy, args := #[d, s], argTypes := #[dT, sT] }) (elem : TypeId) (hu : P.underlying dT = some (.slice elem)) (hsz : (P.info? elem).map (·.size) = some 1)
    (g off dLen dCap : Nat) (A : Option Addr) (sLen sCap : Nat) (hd : a.eval d = .slice (some ⟨g, off, none⟩) dLen dCap) (hs : a.eval s = .slice A sLen sCap)
    (cur : List Value) (t : TypeId) (hg : Bk w g t cur) (vs : List Value) (k : Nat) (hk : vs.length = k) (hn : vs.length = min sLen dLen) (h0 : 0 < vs.length)
    (hsrc : ∃ b so, A = some ⟨b, so, none⟩ ∧ ∀ j v, vs[j]? = some v → w.cell? ⟨b, so + j, none⟩ = some v) (hfit : off + vs.length ≤ cur.length) (h1 : ∀ v ∈ vs, v.oneCell' = true)
    (h : ∀ w', Bk w' g t (splice cur off vs) → But g w w' → wpList P ops Q rest (a.put o.dst (.int .i64 (k : Nat))) w') : wpList P ops Q (o :: rest) a w := by
  subst hk
  obtain ⟨b, so, rfl, hc⟩ := hsrc
  have hg' : w.heap[g]? = some (.cells cur.toArray t (0, 0)) := hg
  refine wpList_copy_own hgd d s dT sT ho elem hu hsz g off dLen dCap ⟨b, so, none⟩ sLen sCap hd hs cur.toArray t hg' vs hn (fun j v hv => by rw [Addr.add_mid]; exact hc j v hv) (by simpa using hfit) h1 ?_
  have h2 := hg.row (cur.toArray.toList.take off ++ (vs ++ cur.toArray.toList.drop (off + vs.length))).toArray
  exact h _ (by simpa [splice] using h2) (But.setRow w _)
/-- clear of bytes within a block that is known whole -/
theorem wpList_clear_blk (hgd : o.guard = none) (x : Operand) (t : TypeId) (ho : o.op = .call { callee := .builtin .clear, args := #[x], argTypes := #[t] }) (e : TypeId) (hu : P.underlying t = some (.slice e)) (hz : (zeroValue e).run P w = .ok (.int .u8 0) w)
    (g off n c : Nat) (hx : a.eval x = .slice (some ⟨g, off, none⟩) n c) (cur : List Value) (tb : TypeId) (hg : Bk w g tb cur) (h0 : 0 < n) (hfit : off + n ≤ cur.length)
    (h : ∀ w', Bk w' g tb (splice cur off (List.replicate n (.int .u8 0))) → But g w w' → wpList P ops Q rest (a.put o.dst (.tuple #[])) w') : wpList P ops Q (o :: rest) a w := by
  refine wpList_plain hgd fun K hK => ?_
  have hzc : (Builtin.zeroCells (Value.int .u8 0).cells n).toList = List.replicate n (.int .u8 0) := by
    refine List.ext_getElem (by simp [Builtin.zeroCells, Value.cells]) fun j h1 h2 => ?_
    simp [Builtin.zeroCells, Value.cells, Nat.mod_one]
  obtain ⟨w', hr, hb, hbut⟩ := run_cells_mid (P := P) (off := off) hg (List.replicate n (.int .u8 0)) (by rw [List.length_replicate]; exact hfit) (fun v hv => by rw [List.eq_of_mem_replicate hv]; rfl)
  have hrun : (Builtin.clear_ #[t] o.type #[.slice (some ⟨g, off, none⟩) n c]).run P w = .ok (.tuple #[]) w' := by
    obtain ⟨m, rfl⟩ : ∃ m, n = m + 1 := ⟨n - 1, by omega⟩
    simp [Builtin.clear_, run_underlying hu, hz, hzc, hr, Result.andThen]
  unfold Oper.wp
  simp [execOp, ho, resolve, invoke, builtin, hx, hrun, Result.andThen]
  exact hK _ _ (h w' hb hbut)
end

/-- make of one-cell elements -/
theorem wpList_make_blk {P : Program} {w : World} {ops : Array Oper} {rest : List Oper} {o : Oper} {a : Act} {Q : Exit → Act → World → Prop} (hgd : o.guard = none) (t : TypeId) (x y : Operand) (ho : o.op = .makeSlice t x y) (e : TypeId) (i : TypeInfo) (z : Value) (hu : P.underlying t = some (.slice e)) (hi : P.info? e = some i) (hz : i.zero = some z)
    (hsize : i.size = 1) (hzc : z.cells = #[z]) (n : Nat) (hx : a.eval x = .int .i64 n) (hy : a.eval y = .int .i64 n) (hbytes : i.bytes * n ≤ 281474976710656) (h63 : n ≤ maxLen) (g : Nat) (hg : w.heap.size = g)
    (h : ∀ w', Bk w' g e (List.replicate n z) → Fresh w w' → wpList P ops Q rest (a.put o.dst (.slice (some ⟨g, 0, none⟩) n n)) w') : wpList P ops Q (o :: rest) a w := by
  refine wpList_plain hgd fun K hK => ?_
  subst hg
  have h63' : (n : Int) ≤ 9223372036854775807 := by
    have h := h63
    simp [maxLen] at h
    omega
  have hb' : (i.bytes : Int) * (n : Int) ≤ 281474976710656 := by
    have h : ((i.bytes * n : Nat) : Int) ≤ 281474976710656 := by omega
    rwa [Int.natCast_mul] at h
  have hr := run_make (P := P) w t e i z hu hi hz .i64 .i64 n n (by omega) (Int.le_refl _) hb' h63'
  simp only [Int.toNat_natCast] at hr
  unfold Oper.wp execOp
  simp only [ho, hx, hy, Sem.run_bind, hr, Result.andThen_ok]
  refine hK _ _ (h _ ?_ (Fresh.alloc _ _))
  have h2 := Bk.made w e (madeCells z.cells (n * i.size))
  rw [hzc, hsize, Nat.mul_one, toList_madeCells_one] at h2
  rw [hzc, hsize, Nat.mul_one]
  exact h2

/-- the load of many cells in a region that draws ('go_still_tail') -/
theorem wpStill_load_blk {P : Program} {w : World} {ops : Array Oper} {rest : List Oper} {o : Oper} {a : Act} {Q : Act → Prop} (hgd : o.guard = none) (ty : TypeId) (x : Operand) (ho : o.op = .load ty x) (g off n t : Nat) (cur : List Value) (hx : a.eval x = .pointer (some ⟨g, off, none⟩)) (hg : Bk w g t cur) (hfit : off + n ≤ cur.length)
    (d : TypeDesc) (hu : P.underlying ty = some d) (hd : d.isRow = true) (hi : (P.info? ty).map (·.size) = some n) (vs : List Value) (hv : vs = (cur.drop off).take n)
    (h : wpStill P ops w Q rest (a.put o.dst (.agg vs.toArray))) : wpStill P ops w Q (o :: rest) a := by
  refine wpStill_step fun K hK => ?_
  have hw : Region.wanted o (yielded ops a.tmps) = true := by simp [Region.wanted, hgd]
  rw [if_pos hw]
  have hrun := run_load_blk (P := P) g off n t cur hg hfit ty d hu hd hi vs hv
  have he : (execOp a.eval o).run P w = .ok (.value (.agg vs.toArray)) w := by
    unfold execOp
    simp only [ho, hx, Sem.run_bind, hrun, Result.andThen_ok]
    rfl
  unfold Oper.still
  rw [he, Oper.stillUpon_value]
  exact hK _ h

/-! guards: they fail at once where another operation stands -/
section
variable {P : Program} {w : World} {ops : Array Oper} {rest : List Oper} {a : Act} {Q : Exit → Act → World → Prop} {ty t : TypeId}
theorem at_store_ (x y : Nat) {ps : String} {af gd} (h : wpList P ops Q (⟨none, .store ty (.tmp x) (.tmp y), t, ps, af, gd⟩ :: rest) a w) : wpList P ops Q (⟨none, .store ty (.tmp x) (.tmp y), t, ps, af, gd⟩ :: rest) a w := h
theorem at_slot_ (d : Nat) {op : Op} {ps : String} {af gd} (h : wpList P ops Q (⟨some d, op, t, ps, af, gd⟩ :: rest) a w) : wpList P ops Q (⟨some d, op, t, ps, af, gd⟩ :: rest) a w := h
theorem at_none_ {op : Op} {ps : String} {af gd} (h : wpList P ops Q (⟨none, op, t, ps, af, gd⟩ :: rest) a w) : wpList P ops Q (⟨none, op, t, ps, af, gd⟩ :: rest) a w := h
end
end Go.Proofs.YtppgceighgpgoaaGreatDoor.base
