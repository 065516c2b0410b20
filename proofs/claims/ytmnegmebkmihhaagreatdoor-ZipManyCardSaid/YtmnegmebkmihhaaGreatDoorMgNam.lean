import Derived.Test.YtmnegmebkmihhaaGreatDoorNamLeaf
import Derived.Test.YtmnegmebkmihhaaGreatDoorNamVal
import Derived.Test.YtmnegmebkmihhaaGreatDoorBlk
import Derived.Deep.MidRow
import Derived.Laws.CopyOwn
import Derived.StillTailTactics
import GoSem.Builtin.Clear
import Derived.Laws.BytesString
import Derived.Laws.IdiomStrings
import Derived.Maps.OwnSet
import Derived.Maps.RangeWalk
import Derived.Lib.OthersKept
/- Several of my own texts, one behind the other. -/
/-
  Layer 9: byPage, right, Decode. My own text.
-/
namespace Go.Proofs.YtmnegmebkmihhaaGreatDoor.namp
open Go.RowKit Go.Proofs.YtmnegmebkmihhaaGreatDoor.base Go.Proofs.YtmnegmebkmihhaaGreatDoor.nam
set_option linter.unusedVariables false

/-- the runes of bytes by the code page -/
abbrev pgs (l : List UInt8) : List Nat := l.map fun b => pageR b.toNat
theorem pgs_rn (l : List UInt8) : ∀ r ∈ pgs l, Rn r := by
  intro r hr
  obtain ⟨b, _, rfl⟩ := List.mem_map.1 hr
  exact Or.inl (pageR_rn ⟨b.toNat, b.toNat_lt⟩)
theorem tx_len (rs : List Nat) : (tx rs).length ≤ 4 * rs.length := by
  induction rs with
  | nil => simp
  | cons r rs ih => rw [tx_cons, List.length_append, List.length_cons, en_len]; have := wid_bd r; omega
theorem take_snoc {α : Type} (l : List α) (k : Nat) (x : α) (h : l[k]? = some x) : l.take (k + 1) = l.take k ++ [x] := by
  rw [List.take_add_one, h]; rfl

theorem byPage_any (A : Option Addr) (n c : Nat) (bs : List UInt8) (w : World) (B : Nat) (hr : Rd w B A n (bs.map bv)) (hB : B ≤ w.heap.size) (hn : n ≤ 4294967296) (hU : Upper w) :
    Calls Tryz.prog 136 #[.slice A n c] w fun e w' => e = .returned (.string ⟨(tx (pgs bs)).toArray⟩) ∧ Fresh w w' := by
  have hl : bs.length = n := by have := hr.1; rwa [List.length_map] at this
  have HL := Lib.hid hl
  have HU := Lib.hid hU
  have hm := Bld.made w
  have HM := Lib.hid hm
  have hlen : ∀ k, (tx (pgs (bs.take k))).length ≤ 4 * k := fun k => Nat.le_trans (tx_len _) (by rw [List.length_map, List.length_take]; omega)
  have HLEN := Lib.hid hlen
  clear hl hU hm hlen
  go_enter Tryz.func136, Tryz.ntmps136
  go_wp2
  go_loopw [8] (fun i wr => ∃ k : Nat, k ≤ n ∧ i = .int .i64 k ∧ Fresh w wr ∧ Bld wr w.heap.size (tx (pgs (bs.take k)))) (fun i _ => n - (intOf i).toNat)
  case atStart => exact ⟨0, Nat.zero_le _, rfl, Fresh.alloc _ _, HM.out⟩
  case round =>
    obtain ⟨k, hk, rfl, hfr, hbl⟩ := hrel
    by_cases hlt : k < n
    · obtain ⟨b, off, x, rfl, hb, hx, hcx⟩ := (hr.below hfr hB).at_ hlt
      have hs : tx (pgs (bs.take k)) ++ en (pageR x.toNat) = tx (pgs (bs.take (k + 1))) := by
        rw [take_snoc _ _ _ hx]
        simp [tx, pgs]
      have hxb := x.toNat_lt
      have hrn : Rn (pageR x.toNat) := Or.inl (pageR_rn ⟨x.toNat, hxb⟩)
      have hro := fun W h => runeOf_any x W h
      have hU2 := HU.out.fresh hfr
      have HS := Lib.hid hs
      have HRN := Lib.hid hrn
      have HB := Lib.hid hbl
      have HRO := Lib.hid hro
      have HU2 := Lib.hid hU2
      clear hs hrn hbl hx hro hxb hU2
      go_wp2_with (first
        | (go_at_call 185; (refine (HRO.out _ HU2.out).mono ?_); rintro e w1 ⟨rfl, rfl⟩)
        | (go_at_call 184; (refine (writeRune_any _ _ HRN.out _ _ HB.out (by have := HLEN.out k; omega)).mono ?_); rintro e w2 ⟨⟨x2, rfl⟩, hb2, hbl2⟩))
      rw [HS.out] at hb2
      go_roundw
      case rel => exact ⟨k + 1, by omega, by go_num, Below.trans hfr hbl2, hb2⟩
      case measure => simp [intOf]; omega
    · obtain rfl : k = n := by omega
      rw [List.take_of_length_le (Nat.le_of_eq HL.out)] at hbl
      have hi := hfr.size
      have hst := fun W h h2 => Tryz.Builder_String_any w.heap.size w.heap.size (tx (pgs bs)) W h h2
      have HB := Lib.hid hbl.lib
      have HST := Lib.hid hst
      clear hbl hst
      go_wp2_with (go_at_call 186; (refine (HST.out _ HB.out hi).mono ?_); rintro e w1 ⟨rfl, hf1⟩)
      go_ret
      exact ⟨rfl, Below.trans hfr hf1⟩
end Go.Proofs.YtmnegmebkmihhaaGreatDoor.namp
/-
  Many cells out of, and into, a block that is known whole: load, store, copy, clear. Plain lemmas, over any program. My own text.
-/
namespace Go.Proofs.YtmnegmebkmihhaaGreatDoor.base
open Go.RowKit
set_option linter.unusedVariables false

theorem But.setRow {g : Nat} (w : World) (c : Array Value) : But g w (w.setRow g c) := But.row g w c
section
variable {P : Program} {w : World} {g t off : Nat} {cur : List Value}
theorem run_cells_mid (h : Bk w g t cur) (vs : List Value) (hfit : off + vs.length ≤ cur.length) (h1 : ∀ v ∈ vs, v.oneCell' = true) :
    ∃ w', (storeCells ⟨g, off, none⟩ vs).run P w = .ok () w' ∧ Bk w' g t (splice cur off vs) ∧ But g w w' := by
  have hg : w.heap[g]? = some (.cells cur.toArray t (0, 0)) := h
  have := run_storeCells_at (P := P) g off t vs 0 cur.toArray w hg (by simpa using hfit) h1
  refine ⟨_, this, ?_, But.setRow w _⟩
  have h2 := h.row (cur.toArray.toList.take (off + 0) ++ (vs ++ cur.toArray.toList.drop (off + 0 + vs.length))).toArray
  simpa [splice] using h2

theorem run_store_mid (h : Bk w g t cur) (ty : TypeId) (vs : List Value) (hfit : off + vs.length ≤ cur.length) (h1 : ∀ v ∈ vs, v.oneCell' = true) (hi : (P.info? ty).map (·.size) = some vs.length) :
    ∃ w', (storeVar ty ⟨g, off, none⟩ (.agg vs.toArray)).run P w = .ok () w' ∧ Bk w' g t (splice cur off vs) ∧ But g w w' := by
  obtain ⟨w', hr, hb⟩ := run_cells_mid (P := P) h vs hfit h1
  refine ⟨w', ?_, hb⟩
  cases hq : P.info? ty with
  | none => simp [hq] at hi
  | some i =>
    have hs : vs.length = i.size := by simp [hq] at hi; omega
    simp [storeVar, sizeOf, typeInfo, hq, Value.cells, hs, hr]
end

section
variable {P : Program} {w : World} {ops : Array Oper} {rest : List Oper} {o : Oper} {a : Act} {Q : Exit → Act → World → Prop}
theorem wpList_store_blk (hgd : o.guard = none) (ty : TypeId) (x y : Operand) (ho : o.op = .store ty x y) (g off t : Nat) (cur vs : List Value) (hx : a.eval x = .pointer (some ⟨g, off, none⟩)) (hy : a.eval y = .agg vs.toArray)
    (hg : Bk w g t cur) (hfit : off + vs.length ≤ cur.length) (h1 : ∀ v ∈ vs, v.oneCell' = true) (hi : (P.info? ty).map (·.size) = some vs.length)
    (h : ∀ w', Bk w' g t (splice cur off vs) → But g w w' → wpList P ops Q rest (a.put o.dst undef) w') : wpList P ops Q (o :: rest) a w := by
  refine wpList_plain hgd fun K hK => ?_
  obtain ⟨w', hr, hb, hbut⟩ := run_store_mid (P := P) hg ty vs hfit h1 hi
  unfold Oper.wp execOp
  simp only [ho, hx, hy, Instr.storeAt, Instr.sureAddr, Sem.run_bind, Sem.run_pure, Result.andThen_ok, hr]
  exact hK _ _ (h w' hb hbut)
/-- a whole variable that was laid just now -/
theorem wpList_store_new (hgd : o.guard = none) (ty : TypeId) (x y : Operand) (ho : o.op = .store ty x y) (g : Nat) (vs : List Value) (hx : a.eval x = .pointer (some ⟨g, 0, none⟩)) (hy : a.eval y = .agg vs.toArray)
    (w0 : World) (c : Array Value) (t : TypeId) (hw : w = w0.alloc (.cells c t)) (hg : g = w0.heap.size) (hc : c.size = vs.length) (h1 : ∀ v ∈ vs, v.oneCell' = true) (hi : (P.info? ty).map (·.size) = some vs.length)
    (h : ∀ w', Bk w' g t vs → Fresh w0 w' → g < w'.heap.size → wpList P ops Q rest (a.put o.dst undef) w') : wpList P ops Q (o :: rest) a w := by
  subst hw; subst hg
  have hb := Bk.made w0 t c
  refine wpList_store_blk hgd ty x y ho w0.heap.size 0 t c.toList vs hx hy hb (by have := Array.length_toList (xs := c); omega) h1 hi fun w' hb' hbut => ?_
  have hle : c.toList.length ≤ 0 + vs.length := by have := Array.length_toList (xs := c); omega
  have e : splice c.toList 0 vs = vs := by unfold splice; rw [List.take_zero, List.nil_append, List.drop_of_length_le hle, List.append_nil]
  rw [e] at hb'
  exact h w' hb' ((Fresh.alloc w0 _).but (Nat.le_refl _) hbut) hb'.inside
theorem wpList_load_blk (hgd : o.guard = none) (ty : TypeId) (x : Operand) (ho : o.op = .load ty x) (g off n t : Nat) (cur : List Value) (hx : a.eval x = .pointer (some ⟨g, off, none⟩)) (hg : Bk w g t cur) (hfit : off + n ≤ cur.length)
    (d : TypeDesc) (hu : P.underlying ty = some d) (hd : d.isRow = true) (hi : (P.info? ty).map (·.size) = some n)
    (h : wpList P ops Q rest (a.put o.dst (.agg ((cur.drop off).take n).toArray)) w) : wpList P ops Q (o :: rest) a w := by
  refine wpList_load_mid hgd ty x ho g off hx ((cur.drop off).take n) d (fun j v hv => hg.cell ?_) hu hd (by rw [hi, List.length_take, List.length_drop]; congr 1; omega) h
  rw [List.getElem?_take] at hv
  split at hv
  · rwa [List.getElem?_drop] at hv
  · cases hv
/-- the load's run, for a region that draws -/
theorem run_load_blk (g off n t : Nat) (cur : List Value) (hg : Bk w g t cur) (hfit : off + n ≤ cur.length) (ty : TypeId) (d : TypeDesc) (hu : P.underlying ty = some d) (hd : d.isRow = true) (hi : (P.info? ty).map (·.size) = some n) (vs : List Value) (hv : vs = (cur.drop off).take n) :
    (Instr.loadAt ty (.pointer (some ⟨g, off, none⟩))).run P w = .ok (.agg vs.toArray) w := by
  subst hv
  refine run_loadAt_mid w g off ty ((cur.drop off).take n) d (fun j v hv => hg.cell ?_) hu hd (by rw [hi, List.length_take, List.length_drop]; congr 1; omega)
  rw [List.getElem?_take] at hv
  split at hv
  · rwa [List.getElem?_drop] at hv
  · cases hv
/-- copy into a block that is known whole -/
theorem wpList_copy_blk (hgd : o.guard = none) (d s : Operand) (dT sT : TypeId) (ho : o.op = .call { callee := .builtin .copy, args := #[d, s], argTypes := #[dT, sT] }) (elem : TypeId) (hu : P.underlying dT = some (.slice elem)) (hsz : (P.info? elem).map (·.size) = some 1)
    (g off dLen dCap : Nat) (A : Option Addr) (sLen sCap : Nat) (hd : a.eval d = .slice (some ⟨g, off, none⟩) dLen dCap) (hs : a.eval s = .slice A sLen sCap)
    (cur : List Value) (t : TypeId) (hg : Bk w g t cur) (vs : List Value) (k : Nat) (hk : vs.length = k) (hn : vs.length = min sLen dLen) (h0 : 0 < vs.length)
    (hsrc : ∃ b so, A = some ⟨b, so, none⟩ ∧ ∀ j v, vs[j]? = some v → w.cell? ⟨b, so + j, none⟩ = some v) (hfit : off + vs.length ≤ cur.length) (h1 : ∀ v ∈ vs, v.oneCell' = true)
    (h : ∀ w', Bk w' g t (splice cur off vs) → But g w w' → wpList P ops Q rest (a.put o.dst (.int .i64 (k : Nat))) w') : wpList P ops Q (o :: rest) a w := by
  subst hk
  obtain ⟨b, so, rfl, hc⟩ := hsrc
  have hg' : w.heap[g]? = some (.cells cur.toArray t (0, 0)) := hg
  refine wpList_copy_own hgd d s dT sT ho elem hu hsz g off dLen dCap ⟨b, so, none⟩ sLen sCap hd hs cur.toArray t hg' vs hn (fun j v hv => by rw [Addr.add_mid]; exact hc j v hv) (by simpa using hfit) h1 ?_
  have h2 := hg.row (cur.toArray.toList.take off ++ (vs ++ cur.toArray.toList.drop (off + vs.length))).toArray
  exact h _ (by simpa [splice] using h2) (But.setRow w _)
/-- clear of bytes within a block that is known whole -/
theorem wpList_clear_blk (hgd : o.guard = none) (x : Operand) (t : TypeId) (ho : o.op = .call { callee := .builtin .clear, args := #[x], argTypes := #[t] }) (e : TypeId) (hu : P.underlying t = some (.slice e)) (hz : (zeroValue e).run P w = .ok (.int .u8 0) w)
    (g off n c : Nat) (hx : a.eval x = .slice (some ⟨g, off, none⟩) n c) (cur : List Value) (tb : TypeId) (hg : Bk w g tb cur) (h0 : 0 < n) (hfit : off + n ≤ cur.length)
    (h : ∀ w', Bk w' g tb (splice cur off (List.replicate n (.int .u8 0))) → But g w w' → wpList P ops Q rest (a.put o.dst (.tuple #[])) w') : wpList P ops Q (o :: rest) a w := by
  refine wpList_plain hgd fun K hK => ?_
  have hzc : (Builtin.zeroCells (Value.int .u8 0).cells n).toList = List.replicate n (.int .u8 0) := by
    refine List.ext_getElem (by simp [Builtin.zeroCells, Value.cells]) fun j h1 h2 => ?_
    simp [Builtin.zeroCells, Value.cells, Nat.mod_one]
  obtain ⟨w', hr, hb, hbut⟩ := run_cells_mid (P := P) (off := off) hg (List.replicate n (.int .u8 0)) (by rw [List.length_replicate]; exact hfit) (fun v hv => by rw [List.eq_of_mem_replicate hv]; rfl)
  have hrun : (Builtin.clear_ #[t] o.type #[.slice (some ⟨g, off, none⟩) n c]).run P w = .ok (.tuple #[]) w' := by
    obtain ⟨m, rfl⟩ : ∃ m, n = m + 1 := ⟨n - 1, by omega⟩
    simp [Builtin.clear_, run_underlying hu, hz, hzc, hr, Result.andThen]
  unfold Oper.wp
  simp [execOp, ho, resolve, invoke, builtin, hx, hrun, Result.andThen]
  exact hK _ _ (h w' hb hbut)
end

/-- make of one-cell elements -/
theorem wpList_make_blk {P : Program} {w : World} {ops : Array Oper} {rest : List Oper} {o : Oper} {a : Act} {Q : Exit → Act → World → Prop} (hgd : o.guard = none) (t : TypeId) (x y : Operand) (ho : o.op = .makeSlice t x y) (e : TypeId) (i : TypeInfo) (z : Value) (hu : P.underlying t = some (.slice e)) (hi : P.info? e = some i) (hz : i.zero = some z)
    (hsize : i.size = 1) (hzc : z.cells = #[z]) (n : Nat) (hx : a.eval x = .int .i64 n) (hy : a.eval y = .int .i64 n) (hbytes : i.bytes * n ≤ 281474976710656) (h63 : n ≤ maxLen) (g : Nat) (hg : w.heap.size = g)
    (h : ∀ w', Bk w' g e (List.replicate n z) → Fresh w w' → wpList P ops Q rest (a.put o.dst (.slice (some ⟨g, 0, none⟩) n n)) w') : wpList P ops Q (o :: rest) a w := by
  refine wpList_plain hgd fun K hK => ?_
  subst hg
  have h63' : (n : Int) ≤ 9223372036854775807 := by
    have h := h63
    simp [maxLen] at h
    omega
  have hb' : (i.bytes : Int) * (n : Int) ≤ 281474976710656 := by
    have h : ((i.bytes * n : Nat) : Int) ≤ 281474976710656 := by omega
    rwa [Int.natCast_mul] at h
  have hr := run_make (P := P) w t e i z hu hi hz .i64 .i64 n n (by omega) (Int.le_refl _) hb' h63'
  simp only [Int.toNat_natCast] at hr
  unfold Oper.wp execOp
  simp only [ho, hx, hy, Sem.run_bind, hr, Result.andThen_ok]
  refine hK _ _ (h _ ?_ (Fresh.alloc _ _))
  have h2 := Bk.made w e (madeCells z.cells (n * i.size))
  rw [hzc, hsize, Nat.mul_one, toList_madeCells_one] at h2
  rw [hzc, hsize, Nat.mul_one]
  exact h2

/-- the load of many cells in a region that draws ('go_still_tail') -/
theorem wpStill_load_blk {P : Program} {w : World} {ops : Array Oper} {rest : List Oper} {o : Oper} {a : Act} {Q : Act → Prop} (hgd : o.guard = none) (ty : TypeId) (x : Operand) (ho : o.op = .load ty x) (g off n t : Nat) (cur : List Value) (hx : a.eval x = .pointer (some ⟨g, off, none⟩)) (hg : Bk w g t cur) (hfit : off + n ≤ cur.length)
    (d : TypeDesc) (hu : P.underlying ty = some d) (hd : d.isRow = true) (hi : (P.info? ty).map (·.size) = some n) (vs : List Value) (hv : vs = (cur.drop off).take n)
    (h : wpStill P ops w Q rest (a.put o.dst (.agg vs.toArray))) : wpStill P ops w Q (o :: rest) a := by
  refine wpStill_step fun K hK => ?_
  have hw : Region.wanted o (yielded ops a.tmps) = true := by simp [Region.wanted, hgd]
  rw [if_pos hw]
  have hrun := run_load_blk (P := P) g off n t cur hg hfit ty d hu hd hi vs hv
  have he : (execOp a.eval o).run P w = .ok (.value (.agg vs.toArray)) w := by
    unfold execOp
    simp only [ho, hx, Sem.run_bind, hrun, Result.andThen_ok]
    rfl
  unfold Oper.still
  rw [he, Oper.stillUpon_value]
  exact hK _ h

/-! guards: they fail at once where another operation stands -/
section
variable {P : Program} {w : World} {ops : Array Oper} {rest : List Oper} {a : Act} {Q : Exit → Act → World → Prop} {ty t : TypeId}
theorem at_store_ (x y : Nat) {ps : String} {af gd} (h : wpList P ops Q (⟨none, .store ty (.tmp x) (.tmp y), t, ps, af, gd⟩ :: rest) a w) : wpList P ops Q (⟨none, .store ty (.tmp x) (.tmp y), t, ps, af, gd⟩ :: rest) a w := h
theorem at_slot_ (d : Nat) {op : Op} {ps : String} {af gd} (h : wpList P ops Q (⟨some d, op, t, ps, af, gd⟩ :: rest) a w) : wpList P ops Q (⟨some d, op, t, ps, af, gd⟩ :: rest) a w := h
theorem at_none_ {op : Op} {ps : String} {af gd} (h : wpList P ops Q (⟨none, op, t, ps, af, gd⟩ :: rest) a w) : wpList P ops Q (⟨none, op, t, ps, af, gd⟩ :: rest) a w := h
end
end Go.Proofs.YtmnegmebkmihhaaGreatDoor.base
/-
  Conversions between texts and bytes, as laws of the walk: plain lemmas, over any program. My own text.
-/
namespace Go.Proofs.YtmnegmebkmihhaaGreatDoor.base
open Go.RowKit
set_option linter.unusedVariables false

/-- string(bytes) -/
theorem run_str_rd {P : Program} (w : World) (src dst e : TypeId) (hs : P.underlying src = some (.slice e)) (he : P.underlying e = some (.int .u8)) (hd : P.underlying dst = some .string) (A : Option Addr) (c n B : Nat) (bs : List UInt8) (h : Rd w B A n (bs.map bv)) :
    (convert src dst (.slice A n c)).run P w = .ok (.string ⟨bs.toArray⟩) w := by
  rw [run_convert_bytes_string w src dst e _ _ _ hs he hd]
  have hl : bs.length = n := by have := h.1; rwa [List.length_map] at this
  subst hl
  rcases A with _ | ad
  · have hb : bs = [] := by
      cases bs with
      | nil => rfl
      | cons b r =>
        obtain ⟨_, _, e1, _⟩ := h.2 (by simp)
        cases e1
    subst hb
    rfl
  · have hl := run_loadCells_list (w := w) (P := P) ad (bs.map bv) fun j v hv => by
      have hlt : j < bs.length := by
        have := (List.getElem?_eq_some_iff.1 hv).1
        rwa [List.length_map] at this
      obtain ⟨b, off, e1, _, hc⟩ := h.2 (by omega)
      injection e1 with e1
      subst e1
      have hadd : (⟨b, off, none⟩ : Addr).add j = ⟨b, off + j, none⟩ := by unfold Addr.add; split <;> simp_all
      rw [hadd]
      exact hc j v hv
    rw [List.length_map] at hl
    have e1 : bs.map bv = (bs.map fun x => (x.toNat : Int)).map (Value.int .u8) := by simp [Function.comp_def]
    rw [e1] at hl
    rw [run_bytesToString w ad bs.length c _ hl, foldl_push_byteCells]
    congr 2
    simp [ByteArray.empty, ByteArray.emptyWithCapacity]
    rfl
section
variable {P : Program} {w : World} {ops : Array Oper} {rest : List Oper} {o : Oper} {a : Act} {Q : Exit → Act → World → Prop}
/-- []byte(text) -/
theorem wpList_bytes_of (hgd : o.guard = none) (src dst e : TypeId) (x : Operand) (ho : o.op = .convert src dst x) (hs : P.underlying src = some .string) (hd : P.underlying dst = some (.slice e)) (he : P.underlying e = some (.int .u8))
    (s : ByteArray) (hx : a.eval x = .string s) (l : List UInt8) (hl : s.data.toList = l) (n : Nat) (hn : l.length = n) (hm : n ≤ maxLen)
    (h : ∀ A c w', Fresh w w' → Rd w' w'.heap.size A n (l.map bv) → n ≤ c → c ≤ maxLen → wpList P ops Q rest (a.put o.dst (.slice A n c)) w') : wpList P ops Q (o :: rest) a w := by
  refine wpList_plain hgd fun K hK => ?_
  have hsz : s.size = n := by rw [← hn, ← hl]; exact (Array.length_toList (xs := s.data)).symm
  have hrun := run_bytes_of_string (P := P) w src dst e s hs hd he
  rw [hsz] at hrun
  unfold Oper.wp execOp
  simp only [ho, hx, Sem.run_bind, hrun, Result.andThen_ok]
  have hf : Fresh w (w.drew.alloc (.cells (bytesRow s (grownCap w n 0 e)) e ((bytesRow s (grownCap w n 0 e)).size, (bytesRow s (grownCap w n 0 e)).size + 1))) := (Fresh.drew w).trans (Fresh.alloc _ _)
  refine hK _ _ (h _ _ _ hf ⟨by rw [List.length_map, hn], fun hpos => ⟨w.heap.size, 0, rfl, by simp, fun j u hu => ?_⟩⟩ ?_ ?_)
  · rw [Nat.zero_add]
    have hj : j < s.data.size := by
      have := (List.getElem?_eq_some_iff.1 hu).1
      rw [List.length_map] at this
      rw [← hl] at this
      rwa [Array.length_toList] at this
    have hcell := cell_of_row (w.drew.alloc (.cells (bytesRow s (grownCap w n 0 e)) e ((bytesRow s (grownCap w n 0 e)).size, (bytesRow s (grownCap w n 0 e)).size + 1))) w.heap.size j _ e _ (heap_alloc_new w.drew _)
    rw [hcell, bytesRow_at s _ j hj, ← hu, ← hl, List.getElem?_map, List.getElem?_eq_getElem (by simpa using hj)]
    simp
  · exact grownCap_ge w n 0 e
  · exact grownCap_le_maxLen w n 0 e hm
end
end Go.Proofs.YtmnegmebkmihhaaGreatDoor.base
/-
  A map's block whose entries are, in some order, a list of pairs: plain lemmas on worlds, over any program. My own text.
-/
namespace Go.Proofs.YtmnegmebkmihhaaGreatDoor.base
open Go.RowKit Go.Maps Go.ChangeMaps Go.MapKept
set_option linter.unusedVariables false

/-- block b is a map whose entries are, in some order, kv -/
def MapOf (P : Program) (k : TypeId) (w : World) (b : Nat) (kv : List (Value × Value)) : Prop :=
  ∃ es clock, w.heap[b]? = some (.map es clock) ∧ Stamped es clock ∧ (∀ e ∈ es.toList, ∃ l, keyOf P k e.key = some l) ∧ (es.toList.map fun e => (e.key, e.val)).Perm kv

section
variable {P : Program} {k e t : TypeId} {w w' : World} {b : Nat} {kv : List (Value × Value)}

theorem MapOf.inside (h : MapOf P k w b kv) : b < w.heap.size := by
  obtain ⟨es, clock, hb, _⟩ := h
  exact (Array.getElem?_eq_some_iff.1 hb).1
theorem MapOf.old (h : MapOf P k w b kv) (hk : w'.heap[b]? = w.heap[b]?) : MapOf P k w' b kv := by
  obtain ⟨es, clock, hb, r⟩ := h
  exact ⟨es, clock, hk.trans hb, r⟩
theorem MapOf.made (P : Program) (k : TypeId) (w : World) : MapOf P k (w.alloc (.map #[] 0)) w.heap.size [] :=
  ⟨#[], 0, (MapKept.heap_alloc w _).1, stamped_empty 0, by simp, by simp⟩
theorem MapOf.perm {kv' : List (Value × Value)} (h : MapOf P k w b kv) (hp : kv.Perm kv') : MapOf P k w b kv' := by
  obtain ⟨es, clock, hb, hs, hk, hq⟩ := h
  exact ⟨es, clock, hb, hs, hk, hq.trans hp⟩
theorem MapOf.apart (h : MapOf P k w b kv) : kv.Pairwise (fun p q => p.1 ≠ q.1) := by
  obtain ⟨es, clock, hb, hs, hk, hq⟩ := h
  refine (hq.pairwise_iff (fun {a b} (h : a.1 ≠ b.1) => h.symm)).1 ?_
  rw [List.pairwise_map]
  exact ((stamped_iff es clock).1 hs).2.2
theorem MapOf.keyed (h : MapOf P k w b kv) : ∀ p ∈ kv, ∃ l, keyOf P k p.1 = some l := by
  obtain ⟨es, clock, hb, hs, hk, hq⟩ := h
  intro p hp
  obtain ⟨x, hx, rfl⟩ := List.mem_map.1 (hq.mem_iff.2 hp)
  exact hk x hx
/-- not a row of cells -/
theorem MapOf.ne_cells (h : MapOf P k w b kv) {g : Nat} {c : Array Value} {te : TypeId} {fr : Nat × Nat} (hg : w.heap[g]? = some (.cells c te fr)) : b ≠ g := by
  rintro rfl
  obtain ⟨es, clock, hb, _⟩ := h
  rw [hb] at hg
  cases hg

theorem set_same {α : Type} {l : List α} {j : Nat} {x : α} (h : l[j]? = some x) : l.set j x = l := by
  obtain ⟨hj, rfl⟩ := List.getElem?_eq_some_iff.1 h
  exact List.set_getElem_self hj
theorem uniq {kv : List (Value × Value)} (hd : kv.Pairwise (fun p q => p.1 ≠ q.1)) {key v v' : Value} (h : (key, v) ∈ kv) (h' : (key, v') ∈ kv) : v = v' := by
  induction hd with
  | nil => cases h
  | cons hx _ ih =>
    rcases List.mem_cons.1 h with rfl | h1
    · rcases List.mem_cons.1 h' with h2 | h2
      · exact (Prod.mk.inj h2).2.symm
      · exact absurd rfl (hx (key, v') h2)
    · rcases List.mem_cons.1 h' with rfl | h2
      · exact absurd rfl (hx (key, v) h1)
      · exact ih h1 h2

theorem MapOf.look_hit (h : MapOf P k w b kv) (K : Keyed P k) (ht : P.underlying t = some (.map k e)) {key v : Value} {kl : Lit} (hkey : keyOf P k key = some kl) (hv : (key, v) ∈ kv) (c : Bool) :
    (Instr.lookup t (.map (some b)) key c).run P w = .ok (if c then .tuple #[v, .bool true] else v) w := by
  have hd := h.apart
  obtain ⟨es, clock, hb, hs, hk, hq⟩ := h
  rcases K.find w hkey es.toList hk with ⟨h1, h2⟩ | ⟨j, e0, h1, h2, h3⟩
  · obtain ⟨x, hx, hxe⟩ := List.mem_map.1 (hq.mem_iff.2 hv)
    exact absurd (Prod.mk.inj hxe).1 (h2 x hx)
  · have hm : (key, e0.val) ∈ kv := hq.mem_iff.1 (List.mem_map.2 ⟨e0, List.mem_of_getElem? h2, by rw [h3]⟩)
    have := uniq hd hm hv
    subst this
    simp [Instr.lookup, run_underlying ht, MapKept.run_getObj_map hb, K.check w _ hkey, h1, Result.andThen]

theorem MapOf.look_miss (h : MapOf P k w b kv) (K : Keyed P k) (ht : P.underlying t = some (.map k e)) {z : Value} (hz : (zeroValue e).run P w = .ok z w) {key : Value} {kl : Lit} (hkey : keyOf P k key = some kl) (hv : ∀ p ∈ kv, p.1 ≠ key) (c : Bool) :
    (Instr.lookup t (.map (some b)) key c).run P w = .ok (if c then .tuple #[z, .bool false] else z) w := by
  obtain ⟨es, clock, hb, hs, hk, hq⟩ := h
  rcases K.find w hkey es.toList hk with ⟨h1, h2⟩ | ⟨j, e0, h1, h2, h3⟩
  · simp [Instr.lookup, run_underlying ht, MapKept.run_getObj_map hb, K.check w _ hkey, h1, hz, Result.andThen]
  · exact absurd h3 (hv _ (hq.mem_iff.1 (List.mem_map.2 ⟨e0, List.mem_of_getElem? h2, rfl⟩)))

theorem But.setBlock_map {es es' : Array MapEntry} {clock clock' : Nat} (hb : w.heap[b]? = some (.map es clock)) : But b w (setBlock w b (.map es' clock')) :=
  World.mapTurned.grown ⟨es, clock, es', clock', hb, rfl⟩

theorem MapOf.put_new (h : MapOf P k w b kv) (K : Keyed P k) (ht : P.underlying t = some (.map k e)) {key : Value} {kl : Lit} (hkey : keyOf P k key = some kl) (hv : ∀ p ∈ kv, p.1 ≠ key) (val : Value) :
    ∃ w', (Instr.mapUpdate t (.map (some b)) key val).run P w = .ok () w' ∧ MapOf P k w' b ((key, val) :: kv) ∧ But b w w' := by
  obtain ⟨es, clock, hb, hs, hk, hq⟩ := h
  rcases K.find w hkey es.toList hk with ⟨h1, h2⟩ | ⟨j, e0, h1, h2, h3⟩
  · refine ⟨setBlock w b (.map (es.push ⟨key, val, clock⟩) (clock + 1)), ?_, ⟨_, _, heap_setBlock_same hb _, stamped_push hs h2, ?_, ?_⟩, But.setBlock_map hb⟩
    · simp [Instr.mapUpdate, run_underlying ht, MapKept.run_getObj_map hb, K.check w false hkey, h1, MapKept.run_setObj_map _ hb, Result.andThen, setBlock]
    · intro x hx
      simp only [Array.toList_push, List.mem_append, List.mem_singleton] at hx
      rcases hx with hx | rfl
      · exact hk x hx
      · exact ⟨kl, hkey⟩
    · simp only [Array.toList_push, List.map_append, List.map_cons, List.map_nil]
      exact (List.perm_append_singleton _ _).trans (hq.cons _)
  · exact absurd h3 (hv _ (hq.mem_iff.1 (List.mem_map.2 ⟨e0, List.mem_of_getElem? h2, rfl⟩)))

theorem MapOf.put_old (h : MapOf P k w b kv) (K : Keyed P k) (ht : P.underlying t = some (.map k e)) {key v0 : Value} {kl : Lit} {rest : List (Value × Value)} (hkey : keyOf P k key = some kl) (hp : kv.Perm ((key, v0) :: rest)) (val : Value) :
    ∃ w', (Instr.mapUpdate t (.map (some b)) key val).run P w = .ok () w' ∧ MapOf P k w' b ((key, val) :: rest) ∧ But b w w' := by
  have hd := h.apart
  obtain ⟨es, clock, hb, hs, hk, hq⟩ := h
  rcases K.find w hkey es.toList hk with ⟨h1, h2⟩ | ⟨j, e0, h1, h2, h3⟩
  · obtain ⟨x, hx, hxe⟩ := List.mem_map.1 (hq.mem_iff.2 (hp.mem_iff.2 (List.mem_cons_self ..)))
    exact absurd (Prod.mk.inj hxe).1 (h2 x hx)
  · have hj : es[j]? = some e0 := by simpa using h2
    have hjl : j < es.toList.length := (List.getElem?_eq_some_iff.1 h2).1
    have hv : e0.val = v0 := uniq hd (key := key) (hq.mem_iff.1 (List.mem_map.2 ⟨e0, List.mem_of_getElem? h2, by rw [h3]⟩)) (hp.mem_iff.2 (List.mem_cons_self ..))
    have hkeyf : ∀ e', es[j]? = some e' → ({ e' with key := key, val := val } : MapEntry).key = e'.key := fun e' he' => by rw [hj] at he'; cases he'; exact h3.symm
    have hlist : (es.modify j (fun e' => { e' with key := key, val := val })).toList = es.toList.set j { e0 with key := key, val := val } := by rw [Array.toList_modify, modify_eq_set _ _ _ _ h2]
    refine ⟨setBlock w b (.map (es.modify j (fun e' => { e' with key := key, val := val })) clock), ?_, ⟨_, _, heap_setBlock_same hb _, stamped_modify hs _ _ (fun _ _ => rfl) (fun e' _ he' => hkeyf e' he'), ?_, ?_⟩, But.setBlock_map hb⟩
    · simp [Instr.mapUpdate, run_underlying ht, MapKept.run_getObj_map hb, K.check w false hkey, h1, hj, h3, K.stays w hkey, MapKept.run_setObj_map _ hb, Result.andThen, setBlock]
    · intro x hx
      rw [hlist] at hx
      rcases List.mem_or_eq_of_mem_set hx with hx | rfl
      · exact hk x hx
      · exact ⟨kl, hkey⟩
    · rw [hlist, List.map_set]
      have hl2 : j < (es.toList.map fun e => (e.key, e.val)).length := by simpa using hjl
      refine (set_perm _ j hl2 _).trans ((?_ : List.Perm _ _).cons _)
      have h4 : (es.toList.map fun e => (e.key, e.val))[j]? = some (key, v0) := by rw [List.getElem?_map, h2, ← hv, ← h3]; rfl
      have h5 := set_perm (es.toList.map fun e => (e.key, e.val)) j hl2 (key, v0)
      rw [set_same h4] at h5
      exact (List.Perm.cons_inv ((h5.symm.trans hq).trans hp))

theorem MapOf.drop_hit (h : MapOf P k w b kv) (K : Keyed P k) (ht : P.underlying t = some (.map k e)) {key v0 : Value} {kl : Lit} {rest : List (Value × Value)} (hkey : keyOf P k key = some kl) (hp : kv.Perm ((key, v0) :: rest)) (ty : TypeId) :
    ∃ w', (Builtin.delete_ #[t, k] ty #[.map (some b), key]).run P w = .ok (.tuple #[]) w' ∧ MapOf P k w' b rest ∧ But b w w' := by
  have hd := h.apart
  obtain ⟨es, clock, hb, hs, hk, hq⟩ := h
  rcases K.find w hkey es.toList hk with ⟨h1, h2⟩ | ⟨j, e0, h1, h2, h3⟩
  · obtain ⟨x, hx, hxe⟩ := List.mem_map.1 (hq.mem_iff.2 (hp.mem_iff.2 (List.mem_cons_self ..)))
    exact absurd (Prod.mk.inj hxe).1 (h2 x hx)
  · have hjl : j < es.toList.length := (List.getElem?_eq_some_iff.1 h2).1
    have hjs : j < es.size := by simpa using hjl
    have hv : e0.val = v0 := uniq hd (key := key) (hq.mem_iff.1 (List.mem_map.2 ⟨e0, List.mem_of_getElem? h2, by rw [h3]⟩)) (hp.mem_iff.2 (List.mem_cons_self ..))
    have hsub : (es.eraseIdxIfInBounds j).toList = es.toList.eraseIdx j := by
      unfold Array.eraseIdxIfInBounds
      rw [dif_pos hjs]
      simp
    refine ⟨setBlock w b (.map (es.eraseIdxIfInBounds j) clock), ?_, ⟨_, _, heap_setBlock_same hb _, stamped_erase hs j, ?_, ?_⟩, But.setBlock_map hb⟩
    · simp [Builtin.delete_, run_underlying ht, MapKept.run_getObj_map hb, K.check w _ hkey, h1, MapKept.run_setObj_map _ hb, Result.andThen, setBlock]
    · intro x hx
      rw [hsub] at hx
      exact hk x ((List.eraseIdx_sublist _ _).subset hx)
    · rw [hsub, ChangeMaps.map_eraseIdx]
      have hl2 : j < (es.toList.map fun e => (e.key, e.val)).length := by simpa using hjl
      have h4 : (es.toList.map fun e => (e.key, e.val))[j]? = some (key, v0) := by rw [List.getElem?_map, h2, ← hv, ← h3]; rfl
      have h5 := set_perm (es.toList.map fun e => (e.key, e.val)) j hl2 (key, v0)
      rw [set_same h4] at h5
      exact (List.Perm.cons_inv ((h5.symm.trans hq).trans hp))

theorem MapOf.drop_miss (h : MapOf P k w b kv) (K : Keyed P k) (ht : P.underlying t = some (.map k e)) {key : Value} {kl : Lit} (hkey : keyOf P k key = some kl) (hv : ∀ p ∈ kv, p.1 ≠ key) (ty : TypeId) :
    ∃ w', (Builtin.delete_ #[t, k] ty #[.map (some b), key]).run P w = .ok (.tuple #[]) w' ∧ MapOf P k w' b kv ∧ But b w w' := by
  obtain ⟨es, clock, hb, hs, hk, hq⟩ := h
  rcases K.find w hkey es.toList hk with ⟨h1, h2⟩ | ⟨j, e0, h1, h2, h3⟩
  · refine ⟨setBlock w b (.map es clock), ?_, ⟨_, _, heap_setBlock_same hb _, hs, hk, hq⟩, But.setBlock_map hb⟩
    simp [Builtin.delete_, run_underlying ht, MapKept.run_getObj_map hb, K.check w _ hkey, h1, MapKept.run_setObj_map _ hb, Result.andThen, setBlock]
  · exact absurd h3 (hv _ (hq.mem_iff.1 (List.mem_map.2 ⟨e0, List.mem_of_getElem? h2, rfl⟩)))

theorem MapOf.len (h : MapOf P k w b kv) (ht : P.underlying t = some (.map k e)) (ty : TypeId) : (Builtin.len_ #[t] ty #[.map (some b)]).run P w = .ok (.int .i64 (kv.length : Nat)) w := by
  obtain ⟨es, clock, hb, hs, hk, hq⟩ := h
  have : es.size = kv.length := by have := hq.length_eq; simpa using this
  rw [← this]
  simp [Builtin.len_, run_underlying ht, MapKept.run_getObj_map hb, goInt, Result.andThen]

/-- the map in block b, on the way through it by the iterator in block r: 'left' are still to come -/
def RangeOf (P : Program) (k : TypeId) (w : World) (b r : Nat) (kv left : List (Value × Value)) : Prop :=
  ∃ es clock since seen c0, w.heap[b]? = some (.map es clock) ∧ Stamped es clock ∧ (∀ e ∈ es.toList, ∃ l, keyOf P k e.key = some l) ∧ (es.toList.map fun e => (e.key, e.val)).Perm kv ∧
    w.heap[r]? = some (.mapIter (some b) since seen c0) ∧ (∀ x ∈ es.toList, x.born < since) ∧ since ≤ c0 ∧ since ≤ clock ∧ ((leftOf es seen).toList.map fun e => (e.key, e.val)).Perm left

theorem RangeOf.map {r : Nat} {left : List (Value × Value)} (h : RangeOf P k w b r kv left) : MapOf P k w b kv := by
  obtain ⟨es, clock, since, seen, c0, hb, hs, hk, hq, _⟩ := h
  exact ⟨es, clock, hb, hs, hk, hq⟩
theorem RangeOf.iter {r : Nat} {left : List (Value × Value)} (h : RangeOf P k w b r kv left) : r < w.heap.size := by
  obtain ⟨es, clock, since, seen, c0, hb, hs, hk, hq, hr, _⟩ := h
  exact (Array.getElem?_eq_some_iff.1 hr).1
theorem RangeOf.ne {r : Nat} {left : List (Value × Value)} (h : RangeOf P k w b r kv left) : r ≠ b := by
  obtain ⟨es, clock, since, seen, c0, hb, hs, hk, hq, hr, _⟩ := h
  rintro rfl
  rw [hb] at hr
  cases hr
theorem RangeOf.old {r : Nat} {left : List (Value × Value)} (h : RangeOf P k w b r kv left) (h1 : w'.heap[b]? = w.heap[b]?) (h2 : w'.heap[r]? = w.heap[r]?) : RangeOf P k w' b r kv left := by
  obtain ⟨es, clock, since, seen, c0, hb, hs, hk, hq, hr, x⟩ := h
  exact ⟨es, clock, since, seen, c0, h1.trans hb, hs, hk, hq, h2.trans hr, x⟩
theorem RangeOf.fresh {r : Nat} {left : List (Value × Value)} (h : RangeOf P k w b r kv left) (hf : Fresh w w') : RangeOf P k w' b r kv left :=
  h.old (hf.block _ h.map.inside) (hf.block _ h.iter)
theorem RangeOf.sub {r : Nat} {left : List (Value × Value)} (h : RangeOf P k w b r kv left) : ∀ p ∈ left, p ∈ kv := by
  obtain ⟨es, clock, since, seen, c0, hb, hs, hk, hq, hr, h1, h2, h3, h4⟩ := h
  intro p hp
  obtain ⟨x, hx, rfl⟩ := List.mem_map.1 (h4.mem_iff.2 hp)
  exact hq.mem_iff.1 (List.mem_map.2 ⟨x, by simp [leftOf] at hx ⊢; exact hx.1, rfl⟩)


theorem MapOf.range (h : MapOf P k w b kv) (ht : P.underlying t = some (.map k e)) :
    ∃ w', (Instr.range t (.map (some b))).run P w = .ok (.pointer (some ⟨w.heap.size, 0, none⟩)) w' ∧ RangeOf P k w' b w.heap.size kv kv ∧ Fresh w w' ∧ w'.heap.size = w.heap.size + 1 := by
  have hlt := h.inside
  obtain ⟨es, clock, hb, hs, hk, hq⟩ := h
  refine ⟨_, run_range_map w t k e b es clock ht hb, ⟨es, clock, clock, #[], clock, ((MapKept.heap_alloc w _).2 b hlt).trans hb, hs, hk, hq, (MapKept.heap_alloc w _).1, ((stamped_iff es clock).1 hs).1, Nat.le_refl _, Nat.le_refl _, ?_⟩, Fresh.alloc _ _, by simp⟩
  have : leftOf es #[] = es := by unfold leftOf; exact Array.filter_eq_self.2 (fun x _ => by simp)
  rw [this]
  exact hq

theorem left_step {es : Array MapEntry} {seen : Array Nat} {e : MapEntry} (hn : (es.toList.map (·.born)).Nodup) (he : e ∈ (leftOf es seen).toList) :
    (leftOf es seen).toList.Perm (e :: (leftOf es (seen.push e.born)).toList) := by
  have h1 : ∀ (l : List MapEntry), (l.map (·.born)).Nodup → e ∈ l → l.Perm (e :: l.filter (fun x => !(x.born == e.born))) := by
    intro l
    induction l with
    | nil => intro _ h; cases h
    | cons y r ih =>
      intro hn he
      rw [List.map_cons, List.nodup_cons] at hn
      rcases List.mem_cons.1 he with rfl | he
      · rw [List.filter_cons_of_neg (by simp)]
        refine List.Perm.cons _ (List.Perm.of_eq ?_)
        refine (List.filter_eq_self.2 fun x hx => ?_).symm
        have : x.born ≠ e.born := fun h => hn.1 (h ▸ List.mem_map.2 ⟨x, hx, rfl⟩)
        simpa using this
      · have : y.born ≠ e.born := fun h => hn.1 (h ▸ List.mem_map.2 ⟨e, he, rfl⟩)
        rw [List.filter_cons_of_pos (by simpa using this)]
        exact ((ih hn.2 he).cons y).trans (List.Perm.swap _ _ _)
  have h2 : (leftOf es (seen.push e.born)).toList = (leftOf es seen).toList.filter (fun x => !(x.born == e.born)) := by
    simp only [leftOf, Array.toList_filter, List.filter_filter]
    refine List.filter_congr fun x _ => ?_
    rw [contains_push]
    cases seen.contains x.born <;> cases (x.born == e.born) <;> rfl
  rw [h2]
  refine h1 _ ?_ he
  simp only [leftOf, Array.toList_filter]
  exact (List.filter_sublist.map _).nodup hn

theorem RangeOf.next {r : Nat} {left : List (Value × Value)} (h : RangeOf P k w b r kv left) (ty : TypeId) :
    (left = [] ∧ (Instr.next (.pointer (some ⟨r, 0, none⟩)) false ty).run P w = .ok (.tuple #[.bool false]) w) ∨
    ∃ key v left' w', left.Perm ((key, v) :: left') ∧ (Instr.next (.pointer (some ⟨r, 0, none⟩)) false ty).run P w = .ok (.tuple #[.bool true, key, v]) w' ∧ RangeOf P k w' b r kv left' ∧ But r w w' ∧ w'.heap.size = w.heap.size ∧
      (Instr.entry (.pointer (some ⟨r, 0, none⟩))).run P w' = .ok (.tuple #[key, v]) w' := by
  have hne := h.ne
  obtain ⟨es, clock, since, seen, c0, hb, hs, hk, hq, hr, hold, hsc, hsk, hl⟩ := h
  rcases run_next_at (P := P) w ty r b since c0 seen es clock hr hb hold hsc with ⟨h0, hrun⟩ | ⟨x, hx, w1, hal, hrun⟩
  · left
    have : leftOf es seen = #[] := Array.eq_empty_of_size_eq_zero h0
    rw [this] at hl
    exact ⟨hl.symm.eq_nil, hrun⟩
  · right
    have hem : x ∈ es.toList := (mem_left hx).1
    have hr1 : w1.heap[r]? = some (.mapIter (some b) since seen c0) := by rcases hal with rfl | rfl <;> exact hr
    have hb1 : w1.heap[b]? = some (.map es clock) := by rcases hal with rfl | rfl <;> exact hb
    have hset := heap_set (o' := .mapIter (some b) since (seen.push x.born) clock) hr1
    have hb' : (setBlock w1 r (.mapIter (some b) since (seen.push x.born) clock)).heap[b]? = some (.map es clock) := (hset.2 b (fun e1 => hne e1.symm)).trans hb1
    have hnd := ((stamped_iff es clock).1 hs).2.1
    refine ⟨x.key, x.val, (leftOf es (seen.push x.born)).toList.map fun e => (e.key, e.val), _, hl.symm.trans (by have := (left_step hnd hx).map (fun e => (e.key, e.val)); simpa using this), hrun,
      ⟨es, clock, since, _, clock, hb', hs, hk, hq, hset.1, hold, hsk, hsk, List.Perm.refl _⟩, ?_, ?_, run_entry_at _ r b since seen es clock x hset.1 hb' hem hnd⟩
    · rcases hal with rfl | rfl <;> exact ⟨rfl, rfl, rfl, by simp [setBlock], fun i _ hi => hset.2 i (fun e1 => hi (by rw [e1]))⟩
    · rcases hal with rfl | rfl <;> simp [setBlock]
end

/-! at the operation, for the walk -/
section
variable {P : Program} (w : World) {ops : Array Oper} {rest : List Oper} {o : Oper} {a : Act} {Q : Exit → Act → World → Prop}

theorem wpList_look_hit (hg : o.guard = none) (m x : Operand) (t : TypeId) (hop : o.op = Op.lookup t m x false) (k e : TypeId) (K : Keyed P k) (ht : P.underlying t = some (.map k e)) (b : Nat) (kv : List (Value × Value))
    (hm : a.eval m = .map (some b)) (h : MapOf P k w b kv) (key v : Value) (kl : Lit) (hx : a.eval x = key) (hkey : keyOf P k key = some kl) (hv : (key, v) ∈ kv) (hK : wpList P ops Q rest (a.put o.dst v) w) : wpList P ops Q (o :: rest) a w := by
  refine wpList_plain hg fun K' hK' => ?_
  have hrun := h.look_hit K ht hkey hv false
  unfold Oper.wp
  simp [execOp, hop, hm, hx, hrun, Result.andThen]
  exact hK' _ _ hK
theorem wpList_look_miss (hg : o.guard = none) (m x : Operand) (t : TypeId) (hop : o.op = Op.lookup t m x false) (k e : TypeId) (K : Keyed P k) (ht : P.underlying t = some (.map k e)) (z : Value) (hz : (zeroValue e).run P w = .ok z w) (b : Nat) (kv : List (Value × Value))
    (hm : a.eval m = .map (some b)) (h : MapOf P k w b kv) (key : Value) (kl : Lit) (hx : a.eval x = key) (hkey : keyOf P k key = some kl) (hv : ∀ p ∈ kv, p.1 ≠ key) (hK : wpList P ops Q rest (a.put o.dst z) w) : wpList P ops Q (o :: rest) a w := by
  refine wpList_plain hg fun K' hK' => ?_
  have hrun := h.look_miss K ht hz hkey hv false
  unfold Oper.wp
  simp [execOp, hop, hm, hx, hrun, Result.andThen]
  exact hK' _ _ hK
theorem wpList_look_hit_ok (hg : o.guard = none) (m x : Operand) (t : TypeId) (hop : o.op = Op.lookup t m x true) (k e : TypeId) (K : Keyed P k) (ht : P.underlying t = some (.map k e)) (b : Nat) (kv : List (Value × Value))
    (hm : a.eval m = .map (some b)) (h : MapOf P k w b kv) (key v : Value) (kl : Lit) (hx : a.eval x = key) (hkey : keyOf P k key = some kl) (hv : (key, v) ∈ kv) (hK : wpList P ops Q rest (a.put o.dst (.tuple #[v, .bool true])) w) : wpList P ops Q (o :: rest) a w := by
  refine wpList_plain hg fun K' hK' => ?_
  have hrun := h.look_hit K ht hkey hv true
  unfold Oper.wp
  simp [execOp, hop, hm, hx, hrun, Result.andThen]
  exact hK' _ _ hK
theorem wpList_look_miss_ok (hg : o.guard = none) (m x : Operand) (t : TypeId) (hop : o.op = Op.lookup t m x true) (k e : TypeId) (K : Keyed P k) (ht : P.underlying t = some (.map k e)) (z : Value) (hz : (zeroValue e).run P w = .ok z w) (b : Nat) (kv : List (Value × Value))
    (hm : a.eval m = .map (some b)) (h : MapOf P k w b kv) (key : Value) (kl : Lit) (hx : a.eval x = key) (hkey : keyOf P k key = some kl) (hv : ∀ p ∈ kv, p.1 ≠ key) (hK : wpList P ops Q rest (a.put o.dst (.tuple #[z, .bool false])) w) : wpList P ops Q (o :: rest) a w := by
  refine wpList_plain hg fun K' hK' => ?_
  have hrun := h.look_miss K ht hz hkey hv true
  unfold Oper.wp
  simp [execOp, hop, hm, hx, hrun, Result.andThen]
  exact hK' _ _ hK
theorem wpList_put_new (hg : o.guard = none) (m x y : Operand) (t : TypeId) (hop : o.op = Op.mapUpdate t m x y) (k e : TypeId) (K : Keyed P k) (ht : P.underlying t = some (.map k e)) (b : Nat) (kv : List (Value × Value))
    (hm : a.eval m = .map (some b)) (h : MapOf P k w b kv) (key val : Value) (kl : Lit) (hx : a.eval x = key) (hy : a.eval y = val) (hkey : keyOf P k key = some kl) (hv : ∀ p ∈ kv, p.1 ≠ key)
    (hK : ∀ w', MapOf P k w' b ((key, val) :: kv) → But b w w' → wpList P ops Q rest (a.put o.dst undef) w') : wpList P ops Q (o :: rest) a w := by
  refine wpList_plain hg fun K' hK' => ?_
  obtain ⟨w', hrun, h1, h2⟩ := h.put_new K ht hkey hv val
  unfold Oper.wp
  simp [execOp, hop, hm, hx, hy, hrun, Result.andThen]
  exact hK' _ _ (hK w' h1 h2)
theorem wpList_put_old (hg : o.guard = none) (m x y : Operand) (t : TypeId) (hop : o.op = Op.mapUpdate t m x y) (k e : TypeId) (K : Keyed P k) (ht : P.underlying t = some (.map k e)) (b : Nat) (kv rest' : List (Value × Value)) (v0 : Value)
    (hm : a.eval m = .map (some b)) (h : MapOf P k w b kv) (key val : Value) (kl : Lit) (hx : a.eval x = key) (hy : a.eval y = val) (hkey : keyOf P k key = some kl) (hp : kv.Perm ((key, v0) :: rest'))
    (hK : ∀ w', MapOf P k w' b ((key, val) :: rest') → But b w w' → wpList P ops Q rest (a.put o.dst undef) w') : wpList P ops Q (o :: rest) a w := by
  refine wpList_plain hg fun K' hK' => ?_
  obtain ⟨w', hrun, h1, h2⟩ := h.put_old K ht hkey hp val
  unfold Oper.wp
  simp [execOp, hop, hm, hx, hy, hrun, Result.andThen]
  exact hK' _ _ (hK w' h1 h2)
theorem wpList_drop_hit (hg : o.guard = none) (m x : Operand) (t k : TypeId) (hop : o.op = Op.call { callee := Callee.builtin Builtin.delete, args := #[m, x], argTypes := #[t, k] }) (e : TypeId) (K : Keyed P k) (ht : P.underlying t = some (.map k e)) (b : Nat) (kv rest' : List (Value × Value)) (v0 : Value)
    (hm : a.eval m = .map (some b)) (h : MapOf P k w b kv) (key : Value) (kl : Lit) (hx : a.eval x = key) (hkey : keyOf P k key = some kl) (hp : kv.Perm ((key, v0) :: rest'))
    (hK : ∀ w', MapOf P k w' b rest' → But b w w' → wpList P ops Q rest (a.put o.dst (.tuple #[])) w') : wpList P ops Q (o :: rest) a w := by
  refine wpList_plain hg fun K' hK' => ?_
  obtain ⟨w', hrun, h1, h2⟩ := h.drop_hit K ht hkey hp o.type
  unfold Oper.wp
  simp [execOp, hop, resolve, invoke, builtin, hm, hx, hrun, Result.andThen]
  exact hK' _ _ (hK w' h1 h2)
theorem wpList_drop_miss (hg : o.guard = none) (m x : Operand) (t k : TypeId) (hop : o.op = Op.call { callee := Callee.builtin Builtin.delete, args := #[m, x], argTypes := #[t, k] }) (e : TypeId) (K : Keyed P k) (ht : P.underlying t = some (.map k e)) (b : Nat) (kv : List (Value × Value))
    (hm : a.eval m = .map (some b)) (h : MapOf P k w b kv) (key : Value) (kl : Lit) (hx : a.eval x = key) (hkey : keyOf P k key = some kl) (hv : ∀ p ∈ kv, p.1 ≠ key)
    (hK : ∀ w', MapOf P k w' b kv → But b w w' → wpList P ops Q rest (a.put o.dst (.tuple #[])) w') : wpList P ops Q (o :: rest) a w := by
  refine wpList_plain hg fun K' hK' => ?_
  obtain ⟨w', hrun, h1, h2⟩ := h.drop_miss K ht hkey hv o.type
  unfold Oper.wp
  simp [execOp, hop, resolve, invoke, builtin, hm, hx, hrun, Result.andThen]
  exact hK' _ _ (hK w' h1 h2)
theorem wpList_map_len (hg : o.guard = none) (m : Operand) (t : TypeId) (hop : o.op = Op.call { callee := Callee.builtin Builtin.len, args := #[m], argTypes := #[t] }) (k e : TypeId) (ht : P.underlying t = some (.map k e)) (b : Nat) (kv : List (Value × Value))
    (hm : a.eval m = .map (some b)) (h : MapOf P k w b kv) (hK : wpList P ops Q rest (a.put o.dst (.int .i64 (kv.length : Nat))) w) : wpList P ops Q (o :: rest) a w := by
  refine wpList_plain hg fun K' hK' => ?_
  unfold Oper.wp
  simp [execOp, hop, resolve, invoke, builtin, hm, h.len ht o.type, Result.andThen]
  exact hK' _ _ hK
theorem wpList_map_range (hg : o.guard = none) (m : Operand) (t : TypeId) (hop : o.op = Op.range t m) (k e : TypeId) (ht : P.underlying t = some (.map k e)) (b : Nat) (kv : List (Value × Value)) (hm : a.eval m = .map (some b)) (h : MapOf P k w b kv)
    (r : Nat) (hr : w.heap.size = r) (hK : ∀ w', RangeOf P k w' b r kv kv → Fresh w w' → w'.heap.size = w.heap.size + 1 → wpList P ops Q rest (a.put o.dst (.pointer (some ⟨r, 0, none⟩))) w') : wpList P ops Q (o :: rest) a w := by
  refine wpList_plain hg fun K' hK' => ?_
  subst hr
  obtain ⟨w', hrun, h1, h2, h3⟩ := h.range ht
  unfold Oper.wp
  simp [execOp, hop, hm, hrun, Result.andThen]
  exact hK' _ _ (hK w' h1 h2 h3)
theorem wpList_map_next (hg : o.guard = none) (it : Operand) (hop : o.op = Op.next it false) (k : TypeId) (b r : Nat) (kv left : List (Value × Value)) (hit : a.eval it = .pointer (some ⟨r, 0, none⟩)) (h : RangeOf P k w b r kv left)
    (hDone : left = [] → wpList P ops Q rest (a.put o.dst (.tuple #[.bool false])) w)
    (hMore : ∀ key v left' w', left.Perm ((key, v) :: left') → RangeOf P k w' b r kv left' → But r w w' → w'.heap.size = w.heap.size → (Instr.entry (.pointer (some ⟨r, 0, none⟩))).run P w' = .ok (.tuple #[key, v]) w' →
      wpList P ops Q rest (a.put o.dst (.tuple #[.bool true, key, v])) w') : wpList P ops Q (o :: rest) a w := by
  refine wpList_plain hg fun K' hK' => ?_
  unfold Oper.wp
  rcases h.next o.type with ⟨h0, hrun⟩ | ⟨key, v, left', w', hp, hrun, h1, h2, h3, h4⟩
  · simp [execOp, hop, hit, hrun, Result.andThen]
    exact hK' _ _ (hDone h0)
  · simp [execOp, hop, hit, hrun, Result.andThen]
    exact hK' _ _ (hMore key v left' w' hp h1 h2 h3 h4)
end
end Go.Proofs.YtmnegmebkmihhaaGreatDoor.base
/-
  Layer 9: Decode, bytesByRune, Encode, May. My own text.
-/
namespace Go.Proofs.YtmnegmebkmihhaaGreatDoor.namp
open Go.RowKit Go.Maps Go.Proofs.YtmnegmebkmihhaaGreatDoor.base Go.Proofs.YtmnegmebkmihhaaGreatDoor.nam
set_option linter.unusedVariables false

/-- what Decode tells -/
def decP (told : Bool) (bs : List UInt8) : Value := if told then (if Lib.validD bs = true then .tuple #[.string ⟨bs.toArray⟩, .bool true] else .tuple #[.string ⟨#[]⟩, .bool false]) else .tuple #[.string ⟨(tx (pgs bs)).toArray⟩, .bool true]
theorem decode_any (A : Option Addr) (n c : Nat) (bs : List UInt8) (told : Bool) (w : World) (B : Nat) (hr : Rd w B A n (bs.map bv)) (hB : B ≤ w.heap.size) (hn : n ≤ 4294967296) (hU : Laid w) :
    Calls Tryz.prog 71 #[.slice A n c, .bool told] w fun e w' => e = .returned (decP told bs) ∧ Fresh w w' := by
  have hl : bs.length = n := by have := hr.1; rwa [List.length_map] at this
  cases told with
  | false =>
    have hp := byPage_any A n c bs w B hr hB hn hU.up
    have e1 : decP false bs = .tuple #[.string ⟨(tx (pgs bs)).toArray⟩, .bool true] := rfl
    rw [e1]
    obtain ⟨S, hS⟩ : ∃ S, (⟨(tx (pgs bs)).toArray⟩ : ByteArray) = S := ⟨_, rfl⟩
    rw [hS] at hp ⊢
    have HP := Lib.hid hp
    clear hp hS hr hU hl
    go_enter Tryz.func71, Tryz.ntmps71
    go_wp2_with (go_at_call 136; (refine HP.out.mono ?_); rintro e w1 ⟨rfl, hf1⟩)
    go_ret2
    exact ⟨rfl, hf1⟩
  | true =>
    have hc := run_str_rd (P := Tryz.prog) w 25 9 5 Tryz.underlying25 Tryz.underlying5 Tryz.underlying9 A c n B bs hr
    have hrt := right_any ⟨bs.toArray⟩ w (by show bs.toArray.size ≤ maxLen; simp; unfold maxLen; omega) hU
    have e0 : (⟨bs.toArray⟩ : ByteArray).data.toList = bs := rfl
    rw [e0] at hrt
    obtain ⟨S, hS⟩ : ∃ S, (⟨bs.toArray⟩ : ByteArray) = S := ⟨_, rfl⟩
    rw [hS] at hc hrt
    have HRT := Lib.hid hrt
    clear hrt hr hU hl e0
    cases hv : Lib.validD bs with
    | true =>
      have e1 : decP true bs = .tuple #[.string S, .bool true] := by rw [decP, if_pos rfl, if_pos hv, hS]
      rw [e1]
      rw [hv] at HRT
      clear e1 hS hv
      go_enter Tryz.func71, Tryz.ntmps71
      go_wp2_with (go_at_call 57; (refine HRT.out.mono ?_); rintro e w1 ⟨rfl, hf1⟩)
      go_ret2
      exact ⟨rfl, hf1⟩
    | false =>
      have e1 : decP true bs = .tuple #[.string ⟨#[]⟩, .bool false] := by rw [decP, if_pos rfl, if_neg (by rw [hv]; simp)]
      rw [e1]
      rw [hv] at HRT
      clear e1 hS hv
      go_enter Tryz.func71, Tryz.ntmps71
      go_wp2_with (go_at_call 57; (refine HRT.out.mono ?_); rintro e w1 ⟨rfl, hf1⟩)
      go_ret2
      exact ⟨rfl, hf1⟩

abbrev tRune : TypeId := 21
abbrev tMap : TypeId := 238
/-- the map's entries for the first k bytes -/
def mp (k : Nat) : List (Value × Value) := (List.range k).reverse.map fun b => (.int .i32 (pageR b : Nat), .int .u8 (b : Nat))
theorem mp_succ (k : Nat) : mp (k + 1) = (.int .i32 (pageR k : Nat), .int .u8 (k : Nat)) :: mp k := by simp [mp, List.range_succ]
theorem mp_hit {r b : Nat} (h : pageB r = some b) : ((.int .i32 (r : Nat), .int .u8 (b : Nat)) : Value × Value) ∈ mp 256 := by
  have := pageB_some h
  refine List.mem_map.2 ⟨b, by simp; exact this.1, by rw [this.2]⟩
theorem mp_miss {r : Nat} (h : pageB r = none) : ∀ p ∈ mp 256, p.1 ≠ .int .i32 (r : Nat) := by
  intro p hp
  obtain ⟨b, hb, rfl⟩ := List.mem_map.1 hp
  have := pageB_none h b (by simpa using hb)
  intro e
  injection e with _ e
  exact this (by omega)
theorem mp_new {k : Nat} (hk : k < 256) : ∀ p ∈ mp k, p.1 ≠ .int .i32 (pageR k : Nat) := by
  intro p hp
  obtain ⟨b, hb, rfl⟩ := List.mem_map.1 hp
  have hb2 : b < k := by simpa using hb
  intro e
  injection e with _ e
  have := pageR_inj (a := b) (b := k) (by omega) hk (by omega)
  omega
theorem runeKey : Keyed Tryz.prog tRune := int_keyed Tryz.underlying21
theorem key_rune (r : Nat) (h : r ≤ 1114111) : keyOf Tryz.prog tRune (.int .i32 (r : Nat)) = some (.int .i32 (r : Nat)) := keyOf_int_mk Tryz.underlying21 (by simp [Lit.wf, IntKind.min, IntKind.max, IntKind.signed, IntKind.bits]; omega)
theorem zero_byte (w : World) : (zeroValue 5).run Tryz.prog w = .ok (.int .u8 0) w := by kernel_rfl

theorem bytesByRune_any (w : World) (hU : Laid w) : Calls Tryz.prog 155 #[] w fun e w' => e = .returned (.map (some w.heap.size)) ∧ Fresh w w' ∧ MapOf Tryz.prog tRune w' w.heap.size (mp 256) := by
  have hmk : ∀ W : World, (Instr.makeMap tMap (some (.int .i64 256))).run Tryz.prog W = .ok (.map (some W.heap.size)) (W.alloc (.map #[] 0)) := fun W => by simp [Instr.makeMap, asInt, asIntOf, run_underlying Tryz.underlying238]
  have hm0 := MapOf.made Tryz.prog tRune w
  have HM0 := Lib.hid hm0
  have HU := Lib.hid hU
  clear hm0 hU
  go_enter Tryz.func155, Tryz.ntmps155
  go_wp2
  go_loopw [4] (fun i wr => ∃ k : Nat, k ≤ 256 ∧ i = .int .i64 k ∧ Fresh w wr ∧ MapOf Tryz.prog tRune wr w.heap.size (mp k)) (fun i _ => 256 - (intOf i).toNat)
  case atStart => exact ⟨0, by omega, rfl, Fresh.alloc _ _, HM0.out⟩
  case round =>
    obtain ⟨k, hk, rfl, hfr, hm⟩ := hrel
    by_cases hlt : k < 256
    · have hro := fun W h => runeOf_any (UInt8.ofNat k) W h
      have hto : (UInt8.ofNat k).toNat = k := nat_u8 k hlt
      rw [hto] at hro
      have e1 : IntKind.u8.wrap (k : Int) = (k : Int) := by simp [IntKind.wrap, IntKind.signed, IntKind.bits]; omega
      have HU2 := Lib.hid (HU.out.fresh hfr)
      have HRO := Lib.hid hro
      have HN := Lib.hid (mp_new hlt)
      have hp := pageR_rn ⟨k, hlt⟩
      simp only at hp
      obtain ⟨R, hR⟩ : ∃ R, pageR k = R := ⟨_, rfl⟩
      rw [hR] at HRO HN hp
      have HR := Lib.hid hR
      have hRl : R ≤ 1114111 := by omega
      have t1 : decide ((k : Int) < 256) = true := by rw [decide_eq_true_iff]; omega
      clear hro hto hp hR hlt
      go_wp2_with (first
        | (go_at_call 185; (refine (HRO.out _ HU2.out.up).mono ?_); rintro e w1 ⟨rfl, rfl⟩)
        | (at_mapUpdate; refine wpList_put_new _ rfl _ _ _ tMap rfl tRune 5 runeKey Tryz.underlying238 w.heap.size (mp k) rfl hm (.int .i32 (R : Nat)) (.int .u8 (k : Nat)) _ rfl rfl (key_rune R hRl) HN.out ?_; intro w2 hm2 hbut2))
      have hk1 : k < 256 := by have := decide_eq_true_iff.1 t1; omega
      go_roundw
      case rel => exact ⟨k + 1, by omega, by go_num, hfr.but (Nat.le_refl _) hbut2, by rw [mp_succ, HR.out]; exact hm2⟩
      case measure => simp [intOf]; omega
    · obtain rfl : k = 256 := by omega
      clear hlt hk
      go_wp2
      go_ret
      exact ⟨rfl, hfr, hm⟩

/-! a text that is gone through -/
theorem own_ne_iter {w : World} {base n c k pos : Nat} {e : TypeId} {A : Option Addr} {xs : List Value} {s : ByteArray} (h : Own w base e A n c xs) (hk : w.heap[k]? = some (.stringIter s pos)) : (Value.slice A n c).ownBlock ≠ some k := by
  rcases h.2 with ⟨hv, _⟩ | ⟨g', cap, cur, hv, _, hh, _⟩
  · rw [hv]; simp [Value.ownBlock]
  · rw [hv]
    simp only [Value.ownBlock, ne_eq, Option.some.injEq]
    intro e
    subst e
    rw [hh] at hk
    cases hk
theorem iterAt_but (w : World) (k : Nat) (s : ByteArray) (pos : Nat) : But k w (w.iterAt k s pos) :=
  ⟨rfl, rfl, rfl, by rw [Lib.iterAt_size]; exact Nat.le_refl _, fun i hi hne => Lib.iterAt_other w k i s pos (fun e => hne (by rw [e]))⟩
theorem mapOf_ne_iter {P : Program} {t : TypeId} {w : World} {b k pos : Nat} {kv : List (Value × Value)} {s : ByteArray} (h : MapOf P t w b kv) (hk : w.heap[k]? = some (.stringIter s pos)) : b ≠ k := by
  rintro rfl
  obtain ⟨es, clock, hb, _⟩ := h
  rw [hb] at hk
  cases hk
theorem mapOf_but {P : Program} {t : TypeId} {w w' : World} {b k : Nat} {kv : List (Value × Value)} (h : MapOf P t w b kv) (hb : But k w w') (hne : b ≠ k) : MapOf P t w' b kv :=
  h.old (hb.block b h.inside (fun e => hne (by injection e)))
theorem mapOf_ne_own {P : Program} {t : TypeId} {w : World} {b base n c : Nat} {e : TypeId} {A : Option Addr} {xs : List Value} {kv : List (Value × Value)} (h : MapOf P t w b kv) (ho : Own w base e A n c xs) : (Value.slice A n c).ownBlock ≠ some b := by
  obtain ⟨es, clock, hb, _⟩ := h
  rcases ho.2 with ⟨hv, _⟩ | ⟨g', cap, cur, hv, _, hh, _⟩
  · rw [hv]; simp [Value.ownBlock]
  · rw [hv]
    simp only [Value.ownBlock, ne_eq, Option.some.injEq]
    intro e
    subst e
    rw [hh] at hb
    cases hb
theorem in_of_cell' {w : World} {k : Nat} {o : Obj} (h : w.heap[k]? = some o) : k < w.heap.size := (Array.getElem?_eq_some_iff.1 h).1
theorem range_str (W : World) (s : ByteArray) : (Instr.range 9 (.string s)).run Tryz.prog W = .ok (.pointer (some ⟨W.heap.size, 0, none⟩)) (W.iter s 0) := run_range_string W 9 s Tryz.underlying9

theorem decode_rune {s : ByteArray} {done rest : List Nat} {r : Nat} {u : List UInt8} (hs : s.data.toList = tx (done ++ r :: rest) ++ u) (hr : Rn r) : Utf8.decode s (tx done).length = (r, wid r) ∧ (tx done).length < s.size ∧ (tx done).length + wid r = (tx (done ++ [r])).length := by
  have e : tx (done ++ r :: rest) ++ u = tx done ++ (en r ++ (tx rest ++ u)) := by rw [tx_append, tx_cons, List.append_assoc, List.append_assoc]
  refine ⟨?_, ?_, ?_⟩
  · rw [decode_drop, hs, e, List.drop_left, dcd_good hr]
  · have : s.size = s.data.toList.length := (Array.length_toList (xs := s.data)).symm
    rw [this, hs, e, List.length_append, List.length_append, en_len]
    have := wid_bd r
    omega
  · rw [tx_snoc, List.length_append, en_len]
theorem decode_bad {s : ByteArray} {done : List Nat} {u : List UInt8} (hs : s.data.toList = tx done ++ u) (hu : Bad u) : Utf8.decode s (tx done).length = (65533, 1) ∧ (tx done).length < s.size := by
  refine ⟨?_, ?_⟩
  · rw [decode_drop, hs, List.drop_left, hu.2]
  · have : s.size = s.data.toList.length := (Array.length_toList (xs := s.data)).symm
    rw [this, hs, List.length_append]
    have := List.length_pos_iff.2 hu.1
    omega
theorem decode_end {s : ByteArray} {done : List Nat} (hs : s.data.toList = tx done) : ¬ (tx done).length < s.size := by
  have : s.size = s.data.toList.length := (Array.length_toList (xs := s.data)).symm
  rw [this, hs]
  omega
/-- the byte of a rune -/
def bR9 (r : Nat) : UInt8 := UInt8.ofNat ((pageB r).getD 0)
def hasB (r : Nat) : Bool := (pageB r).isSome
/-- what Encode tells of a text that begins with these runes, and then with what is none -/
def encB (rs : List Nat) (u : List UInt8) : List UInt8 := if u = [] ∧ rs.all hasB = true then rs.map bR9 else tx rs ++ u
def encT (rs : List Nat) (u : List UInt8) : Bool := !(decide (u = []) && rs.all hasB)
def EncIs (rs : List Nat) (u : List UInt8) (w : World) (e : Ending) (w' : World) : Prop :=
  ∃ A n c, e = .returned (.tuple #[.slice A n c, .bool (encT rs u)]) ∧ n = (encB rs u).length ∧ n ≤ c ∧ c ≤ maxLen ∧ Fresh w w' ∧ Rd w' w'.heap.size A n ((encB rs u).map bv)
theorem bR9_is {r b : Nat} (h : pageB r = some b) : (Value.int .u8 (b : Nat)) = bv (bR9 r) := by
  have := (pageB_some h).1
  rw [bv, bR9, h, Option.getD_some, nat_u8 b this]
theorem info_byte : (Tryz.prog.info? 5).map (fun i => (i.zero, i.size, i.bytes)) = some (some (.int .u8 0), 1, 1) := by kernel_rfl

set_option maxHeartbeats 4000000 in
set_option maxRecDepth 100000 in
theorem encode_any (s : ByteArray) (rs : List Nat) (u : List UInt8) (hs : s.data.toList = tx rs ++ u) (hrn : ∀ r ∈ rs, Rn r) (hu : u = [] ∨ Bad u) (w : World) (hm : s.size ≤ 4294967296) (hU : Laid w) :
    Calls Tryz.prog 98 #[.string s] w (EncIs rs u w) := by
  obtain ⟨i0, hi0, hz0, hz1, hz2⟩ := info_parts info_byte
  have hsl : s.size = (tx rs ++ u).length := by rw [← hs]; exact (Array.length_toList (xs := s.data)).symm
  obtain ⟨n, hn⟩ : ∃ n, s.size = n := ⟨_, rfl⟩
  have hbr := bytesByRune_any w hU
  have HBR := Lib.hid hbr
  have HS := Lib.hid hs
  have HSL := Lib.hid hsl
  have HRN := Lib.hid hrn
  have HU := Lib.hid hu
  have HN := Lib.hid hn
  have hsz : (s.size : Int) = (n : Int) := by omega
  rw [hn] at hm
  clear hbr hs hsl hrn hu hU hn
  go_enter Tryz.func98, Tryz.ntmps98
  go_wp2_with (first
    | (go_at_call 155; (refine HBR.out.mono ?_); rintro e w1 ⟨rfl, hf1, hm1⟩)
    | (at_make; refine wpList_make_own _ rfl _ _ 25 rfl w1.heap.size 5 i0 _ 1 Tryz.underlying25 hi0 hz0 hz1 _ _ _ n rfl rfl rfl (by rw [hz2]; omega) (by unfold maxLen; omega) (Nat.le_refl _) ?_; intro w2 hown2 hg2))
  have hrs := fun W => range_str W s
  have hm2 : MapOf Tryz.prog tRune w2 w.heap.size (mp 256) := hm1.old (hg2.block _ hm1.inside (by simp))
  have hf2 : Fresh w w2 := hf1.trans ⟨hg2.os, hg2.tape, hg2.output, hg2.size, fun i hi => hg2.block i hi (by simp)⟩
  have hit0 := World.iter_heap w2 s 0
  have hm3 : MapOf Tryz.prog tRune (w2.iter s 0) w.heap.size (mp 256) := hm2.old ((Fresh.alloc w2 _).block _ hm2.inside)
  have ho3 : Own (w2.iter s 0) w1.heap.size 5 _ 0 n [] := Own.fresh hown2 (Fresh.alloc w2 _)
  have hf3 : Fresh w (w2.iter s 0) := hf2.trans (Fresh.alloc w2 _)
  have hi1 := hf1.size
  have hi2 := hg2.size
  have HRS := Lib.hid hrs
  have HI := Lib.hid hit0
  have HM := Lib.hid hm3
  have HO := Lib.hid ho3
  have HF := Lib.hid hf3
  have hrs2 := hrs w2
  clear hm1 hm2 hm3 ho3 hf3 hf2 hown2 hg2 hit0 hrs hf1
  go_wp2
  clear hrs2
  go_loopw [5] (fun v wr => ∃ (done rest : List Nat) (k c : Nat) (A : Option Addr), Hid (rs = done ++ rest) ∧ Hid (done.all hasB = true) ∧ v = .slice A k c ∧ Hid (k = done.length) ∧ wr.heap[w2.heap.size]? = some (.stringIter s (tx done).length) ∧ MapOf Tryz.prog tRune wr w.heap.size (mp 256) ∧ Own wr w1.heap.size 5 A k c ((done.map bR9).map bv) ∧ Fresh w wr) (fun _ wr => s.size - wr.iterPos w2.heap.size)
  case atStart => exact ⟨[], rs, 0, n, _, rfl, rfl, rfl, rfl, HI.out, HM.out, HO.out, HF.out⟩
  case round =>
    obtain ⟨done, rest, k, c, A, hdr, hall, rfl, hk, hit, hmp, hown, hfr⟩ := hrel
    cases rest with
    | nil =>
      have hrd : rs = done := by have := hdr.out; rwa [List.append_nil] at this
      subst hrd
      rcases HU.out with hu0 | hub
      · -- the end
        have hend := decode_end (s := s) (done := rs) (by have := HS.out; rwa [hu0, List.append_nil] at this)
        have hnx : ∀ ty, (Instr.next (.pointer (some ⟨w2.heap.size, 0, none⟩)) true ty).run Tryz.prog wr = _ := fun ty => Lib.run_next_end_at wr w2.heap.size s _ ty hit hend
        have HO2 := Lib.hid hown
        have HF2 := Lib.hid hfr
        have HU0 := Lib.hid hu0
        clear hit hmp hown hfr hend hu0
        go_wp2
        go_ret2
        have hb : encB rs u = rs.map bR9 := by rw [encB, if_pos ⟨HU0.out, hall.out⟩]
        have ht : encT rs u = false := by rw [encT, HU0.out, hall.out]; rfl
        have hcap := HO2.out.cap
        exact ⟨A, k, c, by rw [ht]; rfl, by rw [hb, List.length_map]; exact hk.out, hcap.1, hcap.2, HF2.out, by rw [hb]; exact HO2.out.rd⟩
      · -- what is no rune
        have hd := decode_bad HS.out hub
        have hnx : ∀ ty, (Instr.next (.pointer (some ⟨w2.heap.size, 0, none⟩)) true ty).run Tryz.prog wr = _ := fun ty => Lib.run_next_any_at wr w2.heap.size s _ ty hit hd.2
        rw [hd.1] at hnx
        have hbut := iterAt_but wr w2.heap.size s ((tx rs).length + 1)
        have hmp2 := mapOf_but hmp hbut (mapOf_ne_iter hmp hit)
        have hf2 := hfr.but (by omega) hbut
        have hub2 := hub
        have HUB := Lib.hid hub
        have HMP := Lib.hid hmp2
        have HF2 := Lib.hid hf2
        have HHS := Lib.hid HS.out
        clear hit hmp hown hfr hd hbut hmp2 hf2 hub hub2
        simp only at hnx
        obtain ⟨V, hV⟩ : ∃ V, wr.iterAt w2.heap.size s ((tx rs).length + 1) = V := ⟨_, rfl⟩
        rw [hV] at hnx HMP HF2
        obtain ⟨P0, hP0⟩ : ∃ P0 : Nat, (tx rs).length = P0 := ⟨_, rfl⟩
        rw [hP0] at hnx
        clear hV hP0
        go_wp2_with (first
          | (at_lookup; refine wpList_look_miss_ok _ rfl _ _ tMap rfl tRune 5 runeKey Tryz.underlying238 _ (zero_byte _) w.heap.size (mp 256) rfl HMP.out (.int .i32 (65533 : Nat)) _ rfl (key_rune 65533 (by omega)) (mp_miss pageB_err) ?_)
          | (refine at_slot_ 28 ?_; refine wpList_bytes_of rfl 9 25 5 _ rfl Tryz.underlying9 Tryz.underlying25 Tryz.underlying5 s rfl _ HHS.out n (by rw [← HSL.out]; exact HN.out) (by unfold maxLen; omega) ?_; intro A5 c5 w5 hf5 hr5 hc5 hc6))
        go_ret2
        have hb : encB rs u = tx rs ++ u := by rw [encB, if_neg (fun h => HUB.out.1 h.1)]
        have ht : encT rs u = true := by rw [encT, decide_eq_false HUB.out.1]; rfl
        exact ⟨A5, n, c5, by rw [ht]; rfl, by rw [hb, ← HSL.out]; exact HN.out.symm, hc5, hc6, HF2.out.trans hf5, by rw [hb]; exact hr5⟩
    | cons r rest =>
      have hrr : Rn r := HRN.out r (by rw [hdr.out]; simp)
      have hss := HS.out
      rw [hdr.out] at hss
      have hd := decode_rune hss hrr
      have hnx : ∀ ty, (Instr.next (.pointer (some ⟨w2.heap.size, 0, none⟩)) true ty).run Tryz.prog wr = _ := fun ty => Lib.run_next_any_at wr w2.heap.size s _ ty hit hd.2.1
      rw [hd.1] at hnx
      simp only at hnx
      rw [hd.2.2] at hnx
      have hbut := iterAt_but wr w2.heap.size s (tx (done ++ [r])).length
      have hmp2 := mapOf_but hmp hbut (mapOf_ne_iter hmp hit)
      have hown2 := hown.but hbut (own_ne_iter hown hit)
      have hf2 := hfr.but (by omega) hbut
      have hit2 := Lib.iterAt_heap wr w2.heap.size s _ (tx (done ++ [r])).length hit
      have hlen := hd.2.1
      have hadv : (tx done).length < (tx (done ++ [r])).length := by rw [tx_snoc, List.length_append, en_len]; have := wid_bd r; omega
      have hold : wr.iterPos w2.heap.size = (tx done).length := by simp only [World.iterPos, hit]
      have hrl := hrr.le
      have HMP := Lib.hid hmp2
      have HF2 := Lib.hid hf2
      have HO2 := Lib.hid hown2
      have HI2 := Lib.hid hit2
      have HHS := Lib.hid HS.out
      have HLEN := Lib.hid hlen
      have HADV := Lib.hid hadv
      have HOLD := Lib.hid hold
      have hkb : k ≤ n := by
        have h1 := tx_le done
        have h2 := hk.out
        have h3 := HN.out
        omega
      clear hit hmp hown hfr hd hbut hmp2 hf2 hown2 hit2 hss hrr hlen hadv hold
      obtain ⟨V, hV⟩ : ∃ V, wr.iterAt w2.heap.size s (tx (done ++ [r])).length = V := ⟨_, rfl⟩
      rw [hV] at hnx HMP HF2 HO2 HI2
      obtain ⟨P0, hP0⟩ : ∃ P0 : Nat, (tx done).length = P0 := ⟨_, rfl⟩
      rw [hP0] at hnx
      clear hV hP0
      cases hpb : pageB r with
      | none =>
        have HPB := Lib.hid hpb
        clear hpb
        go_wp2_with (first
          | (at_lookup; refine wpList_look_miss_ok _ rfl _ _ tMap rfl tRune 5 runeKey Tryz.underlying238 _ (zero_byte _) w.heap.size (mp 256) rfl HMP.out (.int .i32 (r : Nat)) _ rfl (key_rune r hrl) (mp_miss HPB.out) ?_)
          | (refine at_slot_ 28 ?_; refine wpList_bytes_of rfl 9 25 5 _ rfl Tryz.underlying9 Tryz.underlying25 Tryz.underlying5 s rfl _ HHS.out n (by rw [← HSL.out]; exact HN.out) (by unfold maxLen; omega) ?_; intro A5 c5 w5 hf5 hr5 hc5 hc6))
        go_ret2
        have hnb : rs.all hasB = false := by rw [hdr.out, List.all_append, List.all_cons, hasB, HPB.out]; simp
        have hb : encB rs u = tx rs ++ u := by rw [encB, if_neg (fun h => by rw [hnb] at h; cases h.2)]
        have ht : encT rs u = true := by rw [encT, hnb]; simp
        exact ⟨A5, n, c5, by rw [ht]; rfl, by rw [hb, ← HSL.out]; exact HN.out.symm, hc5, hc6, HF2.out.trans hf5, by rw [hb]; exact hr5⟩
      | some b =>
        have hb256 := (pageB_some hpb).1
        have HPB := Lib.hid hpb
        have HBO := Lib.hid (bR9_is hpb)
        have hw1 := HF2.out.size
        clear hpb
        go_wp2_with (first
          | (at_lookup; refine wpList_look_hit_ok _ rfl _ _ tMap rfl tRune 5 runeKey Tryz.underlying238 w.heap.size (mp 256) rfl HMP.out (.int .i32 (r : Nat)) (.int .u8 (b : Nat)) _ rfl (key_rune r hrl) (mp_hit HPB.out) ?_)
          | (at_builtin; refine wpList_append_rd _ rfl _ _ 25 rfl w1.heap.size 5 i0 _ 1 Tryz.underlying25 hi0 hz0 hz1 hz2 rfl A k c _ rfl (Own.fresh HO2.out (Fresh.alloc _ _)) (V.heap.size + 1) (some ⟨V.heap.size, 0, none⟩) 1 1 [.int .u8 (b : Nat)] rfl (Rd.lit V #[.int .u8 (b : Nat)] 5) (one_one _ _) (by unfold maxLen; omega) (by omega) (by have := (in_of_cell' HI2.out); simp; omega) ?_; intro A3 c3 w3 hown3 hg3))
        have hne := own_ne_iter HO2.out HI2.out
        have hnm := mapOf_ne_own HMP.out HO2.out
        have hit3 : w3.heap[w2.heap.size]? = some (.stringIter s (tx (done ++ [r])).length) := by
          rw [hg3.block _ (by have := in_of_cell' HI2.out; simp; omega) (fun e => hne e.symm)]
          exact (Below.heap_alloc V _ _ (in_of_cell' HI2.out)).trans HI2.out
        have hm3 : MapOf Tryz.prog tRune w3 w.heap.size (mp 256) := by
          refine HMP.out.old ?_
          rw [hg3.block _ (by have := HMP.out.inside; simp; omega) (fun e => hnm e.symm)]
          exact Below.heap_alloc V _ _ HMP.out.inside
        have hf3 : Fresh w w3 := (HF2.out.trans (Fresh.alloc _ _)).append (Own.fresh HO2.out (Fresh.alloc _ _)) hi1 hg3
        have hl : (done.map bR9).map bv ++ [Value.int .u8 (b : Nat)] = ((done ++ [r]).map bR9).map bv := by rw [HBO.out]; simp
        rw [hl] at hown3
        have HA := HADV.out
        have HLN := HLEN.out
        have HPO := HOLD.out
        go_roundw
        case rel => exact ⟨done ++ [r], rest, k + 1, c3, A3, by have := hdr.out; show _ = _; rw [this]; simp, by show _ = _; rw [List.all_append, hall.out]; simp [hasB, HPB.out], rfl, by have := hk.out; show _ = _; simp; omega, hit3, hm3, hown3, hf3⟩
        case measure =>
          simp only [World.iterPos, hit3] at HPO ⊢
          omega

/-- what May tells -/
def mayP (rs : List Nat) (u : List UInt8) : Bool := decide (1 ≤ (tx rs ++ u).length) && (decide ((tx rs ++ u).length ≤ 40) && (decide (u = []) && rs.all fun r => decide (32 ≤ r) && decide (r ≠ 127)))
set_option maxHeartbeats 4000000 in
set_option maxRecDepth 100000 in
theorem may_any (s : ByteArray) (rs : List Nat) (u : List UInt8) (hs : s.data.toList = tx rs ++ u) (hrn : ∀ r ∈ rs, Rn r) (hu : u = [] ∨ Bad u) (w : World) (hm : s.size ≤ 4294967296) (hU : Laid w) :
    Calls Tryz.prog 26 #[.string s] w fun e w' => e = .returned (.bool (mayP rs u)) ∧ Fresh w w' := by
  have hsl : s.size = (tx rs ++ u).length := by rw [← hs]; exact (Array.length_toList (xs := s.data)).symm
  have hrt := right_any s w (by unfold maxLen; omega) hU
  rw [hs] at hrt
  have hrs := range_str w s
  have HS := Lib.hid hs
  by_cases h1 : s.size < 1
  · have hp : mayP rs u = false := by rw [mayP, decide_eq_false (by omega)]; rfl
    rw [hp]
    have t1 : decide ((s.size : Int) < 1) = true := by rw [decide_eq_true_iff]; omega
    clear hrt hs hrn hu hU hsl hrs hp h1 HS hm
    go_enter Tryz.func26, Tryz.ntmps26
    go_wp2
    go_ret
    exact ⟨rfl, Fresh.refl _⟩
  by_cases h2 : 40 < s.size
  · have hp : mayP rs u = false := by rw [mayP, decide_eq_false (p := (tx rs ++ u).length ≤ 40) (by omega)]; simp
    rw [hp]
    have t1 : decide ((s.size : Int) < 1) = false := by rw [decide_eq_false_iff_not]; omega
    have t2 : decide ((s.size : Int) > 40) = true := by rw [decide_eq_true_iff]; omega
    have t3 : decide (40 < (s.size : Int)) = true := by rw [decide_eq_true_iff]; omega
    clear hrt hs hrn hu hU hsl hrs hp h1 HS hm h2
    go_enter Tryz.func26, Tryz.ntmps26
    go_wp2
    go_ret
    exact ⟨rfl, Fresh.refl _⟩
  have t1 : decide ((s.size : Int) < 1) = false := by rw [decide_eq_false_iff_not]; omega
  have t2 : decide ((s.size : Int) > 40) = false := by rw [decide_eq_false_iff_not]; omega
  have t3 : decide (40 < (s.size : Int)) = false := by rw [decide_eq_false_iff_not]; omega
  rcases hu with hu | hub
  · rw [hu, List.append_nil, valid_good rs hrn] at hrt
    have hp : mayP rs u = rs.all fun r => decide (32 ≤ r) && decide (r ≠ 127) := by
      rw [mayP, decide_eq_true (p := 1 ≤ (tx rs ++ u).length) (by omega), decide_eq_true (p := (tx rs ++ u).length ≤ 40) (by omega), decide_eq_true hu]; rfl
    rw [hp]
    rw [hu, List.append_nil] at HS
    have HRT := Lib.hid hrt
    have HRN := Lib.hid hrn
    have hrs2 := fun W => range_str W s
    have HRS := Lib.hid hrs2
    clear hrt hs hU hsl hrs hp h1 h2 hm hrn hrs2
    go_enter Tryz.func26, Tryz.ntmps26
    go_wp2_with (go_at_call 57; (refine HRT.out.mono ?_); rintro e w1 ⟨rfl, hf1⟩; have hrs1 := HRS.out w1)
    have hit0 := World.iter_heap w1 s 0
    have hf0 : Fresh w (w1.iter s 0) := hf1.trans (Fresh.alloc w1 _)
    have hi1 := hf1.size
    have HI := Lib.hid hit0
    have HF := Lib.hid hf0
    clear hrs1 hit0 hf0 hf1
    go_loopw [20] (fun _ wr => ∃ (done rest : List Nat), Hid (rs = done ++ rest) ∧ Hid ((done.all fun r => decide (32 ≤ r) && decide (r ≠ 127)) = true) ∧ wr.heap[w1.heap.size]? = some (.stringIter s (tx done).length) ∧ Fresh w wr) (fun _ wr => s.size - wr.iterPos w1.heap.size)
    case atStart => exact ⟨[], rs, rfl, rfl, HI.out, HF.out⟩
    case round =>
      obtain ⟨done, rest, hdr, hall, hit, hfr⟩ := hrel
      cases rest with
      | nil =>
        have hrd : rs = done := by have := hdr.out; rwa [List.append_nil] at this
        subst hrd
        have hend := decode_end (s := s) (done := rs) HS.out
        have hnx : ∀ ty, (Instr.next (.pointer (some ⟨w1.heap.size, 0, none⟩)) true ty).run Tryz.prog wr = _ := fun ty => Lib.run_next_end_at wr w1.heap.size s _ ty hit hend
        have HF2 := Lib.hid hfr
        clear hit hfr hend
        go_wp2
        go_ret
        rw [hall.out]
        exact ⟨rfl, HF2.out⟩
      | cons r rest =>
        have hrr : Rn r := HRN.out r (by rw [hdr.out]; simp)
        have hss := HS.out
        rw [hdr.out, ← List.append_nil (tx (done ++ r :: rest))] at hss
        have hd := decode_rune hss hrr
        have hnx : ∀ ty, (Instr.next (.pointer (some ⟨w1.heap.size, 0, none⟩)) true ty).run Tryz.prog wr = _ := fun ty => Lib.run_next_any_at wr w1.heap.size s _ ty hit hd.2.1
        rw [hd.1] at hnx
        simp only at hnx
        rw [hd.2.2] at hnx
        have hbut := iterAt_but wr w1.heap.size s (tx (done ++ [r])).length
        have hf2 := hfr.but (by omega) hbut
        have hit2 := Lib.iterAt_heap wr w1.heap.size s _ (tx (done ++ [r])).length hit
        have hadv : (tx done).length < (tx (done ++ [r])).length := by rw [tx_snoc, List.length_append, en_len]; have := wid_bd r; omega
        have hold : wr.iterPos w1.heap.size = (tx done).length := by simp only [World.iterPos, hit]
        have HF2 := Lib.hid hf2
        have HI2 := Lib.hid hit2
        have HLEN := Lib.hid hd.2.1
        have HADV := Lib.hid hadv
        have HOLD := Lib.hid hold
        clear hit hfr hd hbut hf2 hit2 hss hrr hadv hold
        obtain ⟨V, hV⟩ : ∃ V, wr.iterAt w1.heap.size s (tx (done ++ [r])).length = V := ⟨_, rfl⟩
        rw [hV] at hnx HF2 HI2
        obtain ⟨P0, hP0⟩ : ∃ P0 : Nat, (tx done).length = P0 := ⟨_, rfl⟩
        rw [hP0] at hnx
        clear hV hP0
        by_cases b1 : r < 32
        · have c1 : decide ((r : Int) < 32) = true := by rw [decide_eq_true_iff]; omega
          have HB := Lib.hid b1
          clear b1
          go_wp2
          go_ret
          rw [hdr.out, List.all_append, List.all_cons, decide_eq_false (p := 32 ≤ r) (by have := HB.out; omega)]
          exact ⟨by simp, HF2.out⟩
        have c1 : decide ((r : Int) < 32) = false := by rw [decide_eq_false_iff_not]; omega
        by_cases b2 : r = 127
        · subst b2
          go_wp2
          go_ret
          rw [hdr.out, List.all_append, List.all_cons]
          exact ⟨by simp, HF2.out⟩
        · have c2 : ((r : Int) == 127) = false := by rw [beq_eq_false_iff_ne]; omega
          have HB1 := Lib.hid b1
          have HB2 := Lib.hid b2
          clear b1 b2
          go_wp2
          have HA := HADV.out
          have HLN := HLEN.out
          have HPO := HOLD.out
          have hit3 := HI2.out
          go_roundw
          case rel => exact ⟨done ++ [r], rest, by have := hdr.out; show _ = _; rw [this]; simp, by show _ = _; rw [List.all_append, hall.out, List.all_cons, List.all_nil, decide_eq_true (p := 32 ≤ r) (by have := HB1.out; omega), decide_eq_true (p := r ≠ 127) HB2.out]; rfl, hit3, HF2.out⟩
          case measure =>
            simp only [World.iterPos, hit3] at HPO ⊢
            omega
  · rw [valid_bad rs u hrn hub] at hrt
    have hp : mayP rs u = false := by rw [mayP, decide_eq_false (p := u = []) hub.1]; simp
    rw [hp]
    have HRT := Lib.hid hrt
    clear hrt hs hrn hub hU hsl hrs hp h1 HS hm h2
    go_enter Tryz.func26, Tryz.ntmps26
    go_wp2_with (go_at_call 57; (refine HRT.out.mono ?_); rintro e w1 ⟨rfl, hf1⟩)
    go_ret
    exact ⟨rfl, hf1⟩
end Go.Proofs.YtmnegmebkmihhaaGreatDoor.namp
