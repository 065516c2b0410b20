import Derived.Test.YtcdehklcdipcfaaGreatMapOf
import Derived.Test.YtcdehklcdipcfaaGreatMgVn
import Derived.Test.YtcdehklcdipcfaaGreatChecked
import Derived.Deep.MidRow
import Derived.Test.YtcdehklcdipcfaaGreatBlk
import Derived.Laws.CopyOwn
import Derived.StillTailTactics
import GoSem.Builtin.Clear
import Derived.BigQuiet
import Derived.Deep.QuietTactic
import Derived.IntWalk
import Derived.Great.BuildSlice
import Derived.Carry
import Derived.WalkLawsBesides
import Derived.Laws.BitsAllLaws
/- Several of my own texts, one behind the other. -/
/-
  Files as they lie in memory; what a call may turn. My own text.
-/
namespace Go.Proofs.YtcdehklcdipcfaaGreat.vfs
open Go.RowKit Go.Maps Go.Proofs.YtcdehklcdipcfaaGreat.base Go.Proofs.YtcdehklcdipcfaaGreat.vfsnum
set_option linter.unusedVariables false

/-- of what was there only the blocks S have turned; S' are these, or new ones -/
structure Turn (S S' : List Nat) (w w' : World) : Prop where
  os : w'.os = w.os
  tape : w'.tape = w.tape
  output : w'.output = w.output
  size : w.heap.size ≤ w'.heap.size
  block : ∀ k, k < w.heap.size → k ∉ S → w'.heap[k]? = w.heap[k]?
  sub : ∀ k ∈ S', k ∈ S ∨ w.heap.size ≤ k

section
variable {S S' S'' T : List Nat} {a b c w w' : World}
theorem Turn.refl (S : List Nat) (w : World) : Turn S S w w := ⟨rfl, rfl, rfl, Nat.le_refl _, fun _ _ _ => rfl, fun _ h => .inl h⟩
theorem Turn.trans (h : Turn S S' a b) (k : Turn S' S'' b c) : Turn S S'' a c where
  os := k.os.trans h.os
  tape := k.tape.trans h.tape
  output := k.output.trans h.output
  size := Nat.le_trans h.size k.size
  block i hi hS := (k.block i (Nat.lt_of_lt_of_le hi h.size) (fun hS' => by rcases h.sub i hS' with h1 | h1; exact hS h1; omega)).trans (h.block i hi hS)
  sub i hi := by
    rcases k.sub i hi with h1 | h1
    · exact h.sub i h1
    · exact .inr (Nat.le_trans h.size h1)
theorem Turn.fresh (h : Fresh a b) : Turn S S a b := ⟨h.os, h.tape, h.output, h.size, fun k hk _ => h.block k hk, fun _ h => .inl h⟩
theorem Turn.but {g : Nat} (h : But g a b) (hg : g ∈ S) : Turn S S a b := ⟨h.os, h.tape, h.output, h.size, fun k hk hS => h.block k hk (fun e => by injection e with e; subst e; exact hS hg), fun _ h => .inl h⟩
theorem Turn.of_grown {row : Option Nat} (h : a.grownBy b row) (hr : ∀ g, row = some g → g ∈ S) : Turn S S a b := ⟨h.os, h.tape, h.output, h.size, fun k hk hS => h.block k hk (fun e => hS (hr k e.symm)), fun _ h => .inl h⟩
theorem Turn.to (h : Turn S S' a b) (hs : ∀ k ∈ S'', k ∈ S ∨ a.heap.size ≤ k) : Turn S S'' a b := { h with sub := hs }
theorem Turn.from_ (h : Turn S S' a b) (hs : ∀ k ∈ S, k ∈ T) : Turn T S' a b := { h with block := fun k hk hT => h.block k hk (fun h' => hT (hs k h')), sub := fun k hk => by rcases h.sub k hk with h1 | h1; exact .inl (hs k h1); exact .inr h1 }
/-- seen from ahead of all of S, nothing has turned -/
theorem Turn.new (h : Turn S S' b c) (k : Fresh a b) (hS : ∀ i ∈ S, a.heap.size ≤ i) : Fresh a c :=
  ⟨h.os.trans k.os, h.tape.trans k.tape, h.output.trans k.output, Nat.le_trans k.size h.size, fun i hi => (h.block i (Nat.lt_of_lt_of_le hi k.size) (fun h' => by have := hS i h'; omega)).trans (k.block i hi)⟩
theorem Turn.new_sub (h : Turn S S' b c) (k : Fresh a b) (hS : ∀ i ∈ S, a.heap.size ≤ i) : ∀ i ∈ S', a.heap.size ≤ i := fun i hi => by
  rcases h.sub i hi with h1 | h1
  · exact hS i h1
  · have := k.size; omega
/-- blocks apart from S stay apart -/
theorem Turn.apart (h : Turn S S' a b) {i : Nat} (hi : i < a.heap.size) (hS : i ∉ S) : i ∉ S' := fun h' => by
  rcases h.sub i h' with h1 | h1
  · exact hS h1
  · omega
end

/-- the slice (A, n) reads as xs and lies apart from the blocks S -/
def RdA (w : World) (S : List Nat) (A : Option Addr) (n : Nat) (xs : List Value) : Prop :=
  xs.length = n ∧ (0 < n → ∃ b off, A = some ⟨b, off, none⟩ ∧ b < w.heap.size ∧ b ∉ S ∧ ∀ j u, xs[j]? = some u → w.cell? ⟨b, off + j, none⟩ = some u)
theorem RdA.turn {S S' : List Nat} {w w' : World} {A : Option Addr} {n : Nat} {xs : List Value} (h : RdA w S A n xs) (k : Turn S S' w w') : RdA w' S' A n xs :=
  ⟨h.1, fun hn => by
    obtain ⟨b, off, e, hb, hS, hc⟩ := h.2 hn
    exact ⟨b, off, e, Nat.lt_of_lt_of_le hb k.size, k.apart hb hS, fun j u hu => (World.cell?_of_block (k.block b hb hS)).trans (hc j u hu)⟩⟩
theorem RdA.of_rd {S : List Nat} {w : World} {B : Nat} {A : Option Addr} {n : Nat} {xs : List Value} (h : Rd w B A n xs) (hB : B ≤ w.heap.size) (hS : ∀ i ∈ S, B ≤ i) : RdA w S A n xs :=
  ⟨h.1, fun hn => by
    obtain ⟨b, off, e, hb, hc⟩ := h.2 hn
    exact ⟨b, off, e, by omega, fun h' => by have := hS b h'; omega, hc⟩⟩
theorem RdA.cut {w : World} {S : List Nat} {n : Nat} {A : Option Addr} {xs : List Value} (h : RdA w S A n xs) {lo hi cap : Nat} (h1 : lo ≤ hi) (h2 : hi ≤ n) (hc : n ≤ cap) :
    RdA w S (if cap = lo then A else A.map (·.add lo)) (hi - lo) ((xs.drop lo).take (hi - lo)) := by
  refine ⟨by rw [List.length_take, List.length_drop, h.1]; omega, fun hn => ?_⟩
  obtain ⟨b, off, rfl, hb, hS, hcell⟩ := h.2 (by omega)
  rw [if_neg (by omega)]
  refine ⟨b, off + lo, ?_, hb, hS, fun j u hu => ?_⟩
  · simp only [Option.map_some, Option.some.injEq]
    unfold Addr.add
    split
    · subst lo; rfl
    · rfl
  · have h3 : xs[lo + j]? = some u := by
      rw [List.getElem?_take] at hu
      split at hu
      · rwa [List.getElem?_drop] at hu
      · cases hu
    have := hcell _ u h3
    rwa [← Nat.add_assoc] at this
theorem RdA.sub {w : World} {S T : List Nat} {n : Nat} {A : Option Addr} {xs : List Value} (h : RdA w S A n xs) (hT : ∀ i ∈ T, i ∈ S) : RdA w T A n xs :=
  ⟨h.1, fun hn => by obtain ⟨b, off, e, hb, hS, hc⟩ := h.2 hn; exact ⟨b, off, e, hb, fun h' => hS (hT b h'), hc⟩⟩

abbrev tFile : TypeId := 114
abbrev tSec : TypeId := 116
abbrev tFS : TypeId := 61
theorem intKey : Keyed Tryz.prog 3 := int_keyed Tryz.underlying3
theorem strKey : Keyed Tryz.prog 9 := string_keyed Tryz.underlying9
theorem key_int (p : Nat) (h : p ≤ 9223372036854775807) : keyOf Tryz.prog 3 (.int .i64 p) = some (.int .i64 p) := keyOf_int_mk Tryz.underlying3 (WalkArith.wf_i64 ⟨by omega, by omega⟩)
def secV (o : Bs) : Value := .agg (o.map bv).toArray

/-- the sectors' slice: sb is its block, if there is one -/
def Sect (w : World) (A : Option Addr) (n c : Nat) (fl : Bs) (sb : List Nat) : Prop :=
  fl.length = 64 * n ∧ n ≤ c ∧ c ≤ maxLen ∧ ((A = none ∧ c = 0 ∧ sb = []) ∨ ∃ q rest, A = some ⟨q, 0, none⟩ ∧ sb = [q] ∧ Bk w q tSec (fl.map bv ++ rest) ∧ 64 * n + rest.length = 64 * c)
theorem Sect.keep {w w' : World} {A : Option Addr} {n c : Nat} {fl : Bs} {sb : List Nat} (h : Sect w A n c fl sb) (hk : ∀ b ∈ sb, w'.heap[b]? = w.heap[b]?) : Sect w' A n c fl sb := by
  obtain ⟨h1, h2, h3, h4⟩ := h
  refine ⟨h1, h2, h3, h4.imp id ?_⟩
  rintro ⟨q, rest, hA, rfl, hb, hr⟩
  exact ⟨q, rest, hA, rfl, hb.old (hk q (by simp)), hr⟩
theorem Sect.row {w : World} {A : Option Addr} {n c : Nat} {fl : Bs} {sb : List Nat} (h : Sect w A n c fl sb) (hn : 0 < n) : ∃ q rest, A = some ⟨q, 0, none⟩ ∧ sb = [q] ∧ Bk w q tSec (fl.map bv ++ rest) ∧ 64 * n + rest.length = 64 * c := by
  obtain ⟨h1, h2, h3, h4⟩ := h
  rcases h4 with ⟨_, h, _⟩ | h
  · omega
  · exact h
theorem Sect.own {w : World} {A : Option Addr} {n c : Nat} {fl : Bs} {sb : List Nat} (h : Sect w A n c fl sb) : w.ownsRow 0 tSec 64 (.slice A n c) n (fl.map bv) ∧ (Value.slice A n c).ownBlock.toList = sb := by
  obtain ⟨h1, h2, h3, h4⟩ := h
  rcases h4 with ⟨rfl, rfl, rfl⟩ | ⟨q, rest, rfl, rfl, hb, hr⟩
  · have h0 : n = 0 := by omega
    subst h0
    have : fl = [] := List.eq_nil_of_length_eq_zero (by omega)
    subst this
    exact ⟨World.ownsRow_nil _ _ _ _, rfl⟩
  · refine ⟨⟨by rw [List.length_map, h1, Nat.mul_comm], .inr ⟨q, c, _, rfl, Nat.zero_le _, hb, h2, h3, ?_, ?_⟩⟩, rfl⟩
    · rw [List.size_toArray, List.length_append, List.length_map, h1, hr, Nat.mul_comm]
    · rw [List.take_left' (by rw [List.length_map, h1, Nat.mul_comm])]
theorem Sect.of_own {w : World} {A : Option Addr} {n c : Nat} {fl : Bs} (h : w.ownsRow 0 tSec 64 (.slice A n c) n (fl.map bv)) : Sect w A n c fl (Value.slice A n c).ownBlock.toList := by
  have hl : fl.length = 64 * n := by have := h.1; rw [List.length_map] at this; omega
  rcases h.2 with ⟨hv, hn⟩ | ⟨g, cap, cur, hv, _, hb, h1, h2, h3, h4⟩
  · injection hv with hA h0 hc
    subst hA; subst hc; subst hn
    exact ⟨hl, Nat.le_refl _, Nat.zero_le _, .inl ⟨rfl, rfl, rfl⟩⟩
  · injection hv with hA h0 hc
    subst hA; subst hc
    refine ⟨hl, h1, h2, .inr ⟨g, cur.toList.drop (n * 64), rfl, rfl, ?_, ?_⟩⟩
    · show _ = _
      rw [← h4, List.take_append_drop]
      exact hb
    · rw [List.length_drop, Array.length_toList, h3]; omega
/-- the first m of them -/
theorem Sect.cut {w : World} {A : Option Addr} {n c : Nat} {fl : Bs} {sb : List Nat} (h : Sect w A n c fl sb) {m : Nat} (hm : m ≤ n) : Sect w A m c (fl.take (64 * m)) sb := by
  obtain ⟨h1, h2, h3, h4⟩ := h
  refine ⟨by rw [List.length_take]; omega, by omega, h3, h4.imp id ?_⟩
  rintro ⟨q, rest, hA, rfl, hb, hr⟩
  refine ⟨q, (fl.drop (64 * m)).map bv ++ rest, hA, rfl, ?_, ?_⟩
  · rw [← List.append_assoc, ← List.map_append, List.take_append_drop]; exact hb
  · rw [List.length_append, List.length_map, List.length_drop]; omega

/-- the map of what waits -/
def OldIs (kv : List (Value × Value)) (old : Nat → Option Bs) : Prop := ∀ key v, (key, v) ∈ kv ↔ ∃ (p : Nat) (o : Bs), key = .int .i64 p ∧ old p = some o ∧ v = secV o
theorem OldIs.hit {kv : List (Value × Value)} {old : Nat → Option Bs} (h : OldIs kv old) {p : Nat} {o : Bs} (ho : old p = some o) : (Value.int .i64 p, secV o) ∈ kv := (h _ _).2 ⟨p, o, rfl, ho, rfl⟩
theorem OldIs.miss {kv : List (Value × Value)} {old : Nat → Option Bs} (h : OldIs kv old) {p : Nat} (ho : old p = none) : ∀ x ∈ kv, x.1 ≠ .int .i64 (p : Int) := by
  rintro ⟨key, v⟩ hx he
  obtain ⟨p', o, hk, ho', _⟩ := (h key v).1 hx
  simp only at he
  rw [he] at hk
  injection hk with _ hk
  have : p = p' := by omega
  subst this
  rw [ho] at ho'
  cases ho'
theorem OldIs.nil : OldIs [] fun _ => none := fun key v => by simp
theorem OldIs.add {kv : List (Value × Value)} {old : Nat → Option Bs} (h : OldIs kv old) {p : Nat} {o : Bs} {old' : Nat → Option Bs} (h1 : old p = none) (h2 : old' p = some o) (h3 : ∀ k, k ≠ p → old' k = old k) : OldIs ((.int .i64 p, secV o) :: kv) old' := by
  intro key v
  rw [List.mem_cons, h key v]
  constructor
  · rintro (h | ⟨p', o', rfl, ho, rfl⟩)
    · injection h with ha hb; subst ha; subst hb; exact ⟨p, o, rfl, h2, rfl⟩
    · have : p' ≠ p := fun e => by subst e; rw [h1] at ho; cases ho
      exact ⟨p', o', rfl, (h3 _ this).trans ho, rfl⟩
  · rintro ⟨p', o', rfl, ho, rfl⟩
    by_cases e : p' = p
    · subst e; rw [h2] at ho; injection ho with ho; subst ho; exact .inl rfl
    · exact .inr ⟨p', o', rfl, (h3 _ e).symm.trans ho, rfl⟩
theorem OldIs.del {kv rest : List (Value × Value)} {old old' : Nat → Option Bs} (h : OldIs kv old) (hd : kv.Pairwise (fun p q => p.1 ≠ q.1)) {p : Nat} {v0 : Value} (hp : kv.Perm ((.int .i64 p, v0) :: rest)) (h2 : old' p = none) (h3 : ∀ k, k ≠ p → old' k = old k) : OldIs rest old' := by
  have hd' := (hp.pairwise_iff (fun {a b} (h : a.1 ≠ b.1) => h.symm)).1 hd
  obtain ⟨hx, _⟩ := List.pairwise_cons.1 hd'
  intro key v
  constructor
  · intro hm
    obtain ⟨p', o, rfl, ho, rfl⟩ := (h key v).1 (hp.mem_iff.2 (List.mem_cons_of_mem _ hm))
    have : p' ≠ p := fun e => by subst e; exact hx _ hm rfl
    exact ⟨p', o, rfl, (h3 _ this).trans ho, rfl⟩
  · rintro ⟨p', o, rfl, ho, rfl⟩
    have : p' ≠ p := fun e => by subst e; rw [h2] at ho; cases ho
    have hm := (h _ _).2 ⟨p', o, rfl, (h3 _ this).symm.trans ho, rfl⟩
    rcases List.mem_cons.1 (hp.mem_iff.1 hm) with e | e
    · injection e with e _; injection e with _ e; omega
    · exact e
theorem perm_of_mem {α : Type} {l : List α} {x : α} (h : x ∈ l) : ∃ r, l.Perm (x :: r) := by
  obtain ⟨s, t, rfl⟩ := List.append_of_mem h
  exact ⟨s ++ t, List.perm_middle⟩

/-- a file, as it lies: its own block, what waits, the sectors' -/
def FileRaw (w : World) (g : Nat) (r : Raw) (bl : List Nat) : Prop :=
  ∃ wb A c kv sb, bl = g :: wb :: sb ∧ bl.Nodup ∧ Bk w g tFile [.int .i64 r.long, .int .i64 r.stamp, .slice A r.n c, .map (some wb)] ∧ Sect w A r.n c r.fl sb ∧ MapOf Tryz.prog 3 w wb kv ∧ OldIs kv r.old
theorem FileRaw.keep {w w' : World} {g : Nat} {r : Raw} {bl : List Nat} (h : FileRaw w g r bl) (hk : ∀ b ∈ bl, w'.heap[b]? = w.heap[b]?) : FileRaw w' g r bl := by
  obtain ⟨wb, A, c, kv, sb, rfl, hn, hb, hs, hm, ho⟩ := h
  exact ⟨wb, A, c, kv, sb, rfl, hn, hb.old (hk g (by simp)), hs.keep fun b hb => hk b (by simp [hb]), hm.old (hk wb (by simp)), ho⟩
theorem FileRaw.inside {w : World} {g : Nat} {r : Raw} {bl : List Nat} (h : FileRaw w g r bl) : ∀ b ∈ bl, b < w.heap.size := by
  obtain ⟨wb, A, c, kv, sb, rfl, hn, hb, ⟨h1, h2, h3, h4⟩, hm, ho⟩ := h
  intro b hx
  rcases List.mem_cons.1 hx with rfl | hx
  · exact hb.inside
  · rcases List.mem_cons.1 hx with rfl | hx
    · exact hm.inside
    · rcases h4 with ⟨_, _, rfl⟩ | ⟨q, rest, _, rfl, hq, _⟩
      · cases hx
      · rw [List.mem_singleton] at hx; subst hx; exact hq.inside
theorem FileRaw.turn {S S' : List Nat} {w w' : World} {g : Nat} {r : Raw} {bl : List Nat} (h : FileRaw w g r bl) (k : Turn S S' w w') (hS : ∀ b ∈ bl, b ∉ S) : FileRaw w' g r bl :=
  h.keep fun b hb => k.block b (h.inside b hb) (hS b hb)
theorem FileRaw.len {w : World} {g : Nat} {r : Raw} {bl : List Nat} (h : FileRaw w g r bl) : r.fl.length = 64 * r.n := by
  obtain ⟨wb, A, c, kv, sb, rfl, hn, hb, ⟨h1, _⟩, hm, ho⟩ := h
  exact h1
end Go.Proofs.YtcdehklcdipcfaaGreat.vfs
/-
  Many cells out of, and into, a block that is known whole: load, store, copy, clear. Plain lemmas, over any program. My own text.
-/
namespace Go.Proofs.YtcdehklcdipcfaaGreat.base
open Go.RowKit
set_option linter.unusedVariables false

theorem But.setRow {g : Nat} (w : World) (c : Array Value) : But g w (w.setRow g c) := But.row g w c
section
variable {P : Program} {w : World} {g t off : Nat} {cur : List Value}
theorem run_cells_mid (h : Bk w g t cur) (vs : List Value) (hfit : off + vs.length ≤ cur.length) (h1 : ∀ v ∈ vs, v.oneCell' = true) :
    ∃ w', (storeCells ⟨g, off, none⟩ vs).run P w = .ok () w' ∧ Bk w' g t (splice cur off vs) ∧ But g w w' := by
  have hg : w.heap[g]? = some (.cells cur.toArray t (0, 0)) := h
  have := run_storeCells_at (P := P) g off t vs 0 cur.toArray w hg (by simpa using hfit) h1
  refine ⟨_, this, ?_, But.setRow w _⟩
  have h2 := h.row (cur.toArray.toList.take (off + 0) ++ (vs ++ cur.toArray.toList.drop (off + 0 + vs.length))).toArray
  simpa [splice] using h2

theorem run_store_mid (h : Bk w g t cur) (ty : TypeId) (vs : List Value) (hfit : off + vs.length ≤ cur.length) (h1 : ∀ v ∈ vs, v.oneCell' = true) (hi : (P.info? ty).map (·.size) = some vs.length) :
    ∃ w', (storeVar ty ⟨g, off, none⟩ (.agg vs.toArray)).run P w = .ok () w' ∧ Bk w' g t (splice cur off vs) ∧ But g w w' := by
  obtain ⟨w', hr, hb⟩ := run_cells_mid (P := P) h vs hfit h1
  refine ⟨w', ?_, hb⟩
  cases hq : P.info? ty with
  | none => simp [hq] at hi
  | some i =>
    have hs : vs.length = i.size := by simp [hq] at hi; omega
    simp [storeVar, sizeOf, typeInfo, hq, Value.cells, hs, hr]
end

section
variable {P : Program} {w : World} {ops : Array Oper} {rest : List Oper} {o : Oper} {a : Act} {Q : Exit → Act → World → Prop}
theorem wpList_store_blk (hgd : o.guard = none) (ty : TypeId) (x y : Operand) (ho : o.op = .store ty x y) (g off t : Nat) (cur vs : List Value) (hx : a.eval x = .pointer (some ⟨g, off, none⟩)) (hy : a.eval y = .agg vs.toArray)
    (hg : Bk w g t cur) (hfit : off + vs.length ≤ cur.length) (h1 : ∀ v ∈ vs, v.oneCell' = true) (hi : (P.info? ty).map (·.size) = some vs.length)
    (h : ∀ w', Bk w' g t (splice cur off vs) → But g w w' → wpList P ops Q rest (a.put o.dst undef) w') : wpList P ops Q (o :: rest) a w := by
  refine wpList_plain hgd fun K hK => ?_
  obtain ⟨w', hr, hb, hbut⟩ := run_store_mid (P := P) hg ty vs hfit h1 hi
  unfold Oper.wp execOp
  simp only [ho, hx, hy, Instr.storeAt, Instr.sureAddr, Sem.run_bind, Sem.run_pure, Result.andThen_ok, hr]
  exact hK _ _ (h w' hb hbut)
/-- a whole variable that was laid just now -/
theorem wpList_store_new (hgd : o.guard = none) (ty : TypeId) (x y : Operand) (ho : o.op = .store ty x y) (g : Nat) (vs : List Value) (hx : a.eval x = .pointer (some ⟨g, 0, none⟩)) (hy : a.eval y = .agg vs.toArray)
    (w0 : World) (c : Array Value) (t : TypeId) (hw : w = w0.alloc (.cells c t)) (hg : g = w0.heap.size) (hc : c.size = vs.length) (h1 : ∀ v ∈ vs, v.oneCell' = true) (hi : (P.info? ty).map (·.size) = some vs.length)
    (h : ∀ w', Bk w' g t vs → Fresh w0 w' → g < w'.heap.size → wpList P ops Q rest (a.put o.dst undef) w') : wpList P ops Q (o :: rest) a w := by
  subst hw; subst hg
  have hb := Bk.made w0 t c
  refine wpList_store_blk hgd ty x y ho w0.heap.size 0 t c.toList vs hx hy hb (by have := Array.length_toList (xs := c); omega) h1 hi fun w' hb' hbut => ?_
  have hle : c.toList.length ≤ 0 + vs.length := by have := Array.length_toList (xs := c); omega
  have e : splice c.toList 0 vs = vs := by unfold splice; rw [List.take_zero, List.nil_append, List.drop_of_length_le hle, List.append_nil]
  rw [e] at hb'
  exact h w' hb' ((Fresh.alloc w0 _).but (Nat.le_refl _) hbut) hb'.inside
theorem wpList_load_blk (hgd : o.guard = none) (ty : TypeId) (x : Operand) (ho : o.op = .load ty x) (g off n t : Nat) (cur : List Value) (hx : a.eval x = .pointer (some ⟨g, off, none⟩)) (hg : Bk w g t cur) (hfit : off + n ≤ cur.length)
    (d : TypeDesc) (hu : P.underlying ty = some d) (hd : d.isRow = true) (hi : (P.info? ty).map (·.size) = some n)
    (h : wpList P ops Q rest (a.put o.dst (.agg ((cur.drop off).take n).toArray)) w) : wpList P ops Q (o :: rest) a w := by
  refine wpList_load_mid hgd ty x ho g off hx ((cur.drop off).take n) d (fun j v hv => hg.cell ?_) hu hd (by rw [hi, List.length_take, List.length_drop]; congr 1; omega) h
  rw [List.getElem?_take] at hv
  split at hv
  · rwa [List.getElem?_drop] at hv
  · cases hv
/-- the load's run, for a region that draws -/
theorem run_load_blk (g off n t : Nat) (cur : List Value) (hg : Bk w g t cur) (hfit : off + n ≤ cur.length) (ty : TypeId) (d : TypeDesc) (hu : P.underlying ty = some d) (hd : d.isRow = true) (hi : (P.info? ty).map (·.size) = some n) (vs : List Value) (hv : vs = (cur.drop off).take n) :
    (Instr.loadAt ty (.pointer (some ⟨g, off, none⟩))).run P w = .ok (.agg vs.toArray) w := by
  subst hv
  refine run_loadAt_mid w g off ty ((cur.drop off).take n) d (fun j v hv => hg.cell ?_) hu hd (by rw [hi, List.length_take, List.length_drop]; congr 1; omega)
  rw [List.getElem?_take] at hv
  split at hv
  · rwa [List.getElem?_drop] at hv
  · cases hv
/-- copy into a block that is known whole -/
theorem wpList_copy_blk (hgd : o.guard = none) (d s : Operand) (dT sT : TypeId) (ho : o.op = .call { callee := .builtin .copy, args := #[d, s], argTypes := #[dT, sT] }) (elem : TypeId) (hu : P.underlying dT = some (.slice elem)) (hsz : (P.info? elem).map (·.size) = some 1)
    (g off dLen dCap : Nat) (A : Option Addr) (sLen sCap : Nat) (hd : a.eval d = .slice (some ⟨g, off, none⟩) dLen dCap) (hs : a.eval s = .slice A sLen sCap)
    (cur : List Value) (t : TypeId) (hg : Bk w g t cur) (vs : List Value) (k : Nat) (hk : vs.length = k) (hn : vs.length = min sLen dLen) (h0 : 0 < vs.length)
    (hsrc : ∃ b so, A = some ⟨b, so, none⟩ ∧ ∀ j v, vs[j]? = some v → w.cell? ⟨b, so + j, none⟩ = some v) (hfit : off + vs.length ≤ cur.length) (h1 : ∀ v ∈ vs, v.oneCell' = true)
    (h : ∀ w', Bk w' g t (splice cur off vs) → But g w w' → wpList P ops Q rest (a.put o.dst (.int .i64 (k : Nat))) w') : wpList P ops Q (o :: rest) a w := by
  subst hk
  obtain ⟨b, so, rfl, hc⟩ := hsrc
  have hg' : w.heap[g]? = some (.cells cur.toArray t (0, 0)) := hg
  refine wpList_copy_own hgd d s dT sT ho elem hu hsz g off dLen dCap ⟨b, so, none⟩ sLen sCap hd hs cur.toArray t hg' vs hn (fun j v hv => by rw [Addr.add_mid]; exact hc j v hv) (by simpa using hfit) h1 ?_
  have h2 := hg.row (cur.toArray.toList.take off ++ (vs ++ cur.toArray.toList.drop (off + vs.length))).toArray
  exact h _ (by simpa [splice] using h2) (But.setRow w _)
/-- clear of bytes within a block that is known whole -/
theorem wpList_clear_blk (hgd : o.guard = none) (x : Operand) (t : TypeId) (ho : o.op = .call { callee := .builtin .clear, args := #[x], argTypes := #[t] }) (e : TypeId) (hu : P.underlying t = some (.slice e)) (hz : (zeroValue e).run P w = .ok (.int .u8 0) w)
    (g off n c : Nat) (hx : a.eval x = .slice (some ⟨g, off, none⟩) n c) (cur : List Value) (tb : TypeId) (hg : Bk w g tb cur) (h0 : 0 < n) (hfit : off + n ≤ cur.length)
    (h : ∀ w', Bk w' g tb (splice cur off (List.replicate n (.int .u8 0))) → But g w w' → wpList P ops Q rest (a.put o.dst (.tuple #[])) w') : wpList P ops Q (o :: rest) a w := by
  refine wpList_plain hgd fun K hK => ?_
  have hzc : (Builtin.zeroCells (Value.int .u8 0).cells n).toList = List.replicate n (.int .u8 0) := by
    refine List.ext_getElem (by simp [Builtin.zeroCells, Value.cells]) fun j h1 h2 => ?_
    simp [Builtin.zeroCells, Value.cells, Nat.mod_one]
  obtain ⟨w', hr, hb, hbut⟩ := run_cells_mid (P := P) (off := off) hg (List.replicate n (.int .u8 0)) (by rw [List.length_replicate]; exact hfit) (fun v hv => by rw [List.eq_of_mem_replicate hv]; rfl)
  have hrun : (Builtin.clear_ #[t] o.type #[.slice (some ⟨g, off, none⟩) n c]).run P w = .ok (.tuple #[]) w' := by
    obtain ⟨m, rfl⟩ : ∃ m, n = m + 1 := ⟨n - 1, by omega⟩
    simp [Builtin.clear_, run_underlying hu, hz, hzc, hr, Result.andThen]
  unfold Oper.wp
  simp [execOp, ho, resolve, invoke, builtin, hx, hrun, Result.andThen]
  exact hK _ _ (h w' hb hbut)
end

/-- make of one-cell elements -/
theorem wpList_make_blk {P : Program} {w : World} {ops : Array Oper} {rest : List Oper} {o : Oper} {a : Act} {Q : Exit → Act → World → Prop} (hgd : o.guard = none) (t : TypeId) (x y : Operand) (ho : o.op = .makeSlice t x y) (e : TypeId) (i : TypeInfo) (z : Value) (hu : P.underlying t = some (.slice e)) (hi : P.info? e = some i) (hz : i.zero = some z)
    (hsize : i.size = 1) (hzc : z.cells = #[z]) (n : Nat) (hx : a.eval x = .int .i64 n) (hy : a.eval y = .int .i64 n) (hbytes : i.bytes * n ≤ 281474976710656) (h63 : n ≤ maxLen) (g : Nat) (hg : w.heap.size = g)
    (h : ∀ w', Bk w' g e (List.replicate n z) → Fresh w w' → wpList P ops Q rest (a.put o.dst (.slice (some ⟨g, 0, none⟩) n n)) w') : wpList P ops Q (o :: rest) a w := by
  refine wpList_plain hgd fun K hK => ?_
  subst hg
  have h63' : (n : Int) ≤ 9223372036854775807 := by
    have h := h63
    simp [maxLen] at h
    omega
  have hb' : (i.bytes : Int) * (n : Int) ≤ 281474976710656 := by
    have h : ((i.bytes * n : Nat) : Int) ≤ 281474976710656 := by omega
    rwa [Int.natCast_mul] at h
  have hr := run_make (P := P) w t e i z hu hi hz .i64 .i64 n n (by omega) (Int.le_refl _) hb' h63'
  simp only [Int.toNat_natCast] at hr
  unfold Oper.wp execOp
  simp only [ho, hx, hy, Sem.run_bind, hr, Result.andThen_ok]
  refine hK _ _ (h _ ?_ (Fresh.alloc _ _))
  have h2 := Bk.made w e (madeCells z.cells (n * i.size))
  rw [hzc, hsize, Nat.mul_one, toList_madeCells_one] at h2
  rw [hzc, hsize, Nat.mul_one]
  exact h2

/-- the load of many cells in a region that draws ('go_still_tail') -/
theorem wpStill_load_blk {P : Program} {w : World} {ops : Array Oper} {rest : List Oper} {o : Oper} {a : Act} {Q : Act → Prop} (hgd : o.guard = none) (ty : TypeId) (x : Operand) (ho : o.op = .load ty x) (g off n t : Nat) (cur : List Value) (hx : a.eval x = .pointer (some ⟨g, off, none⟩)) (hg : Bk w g t cur) (hfit : off + n ≤ cur.length)
    (d : TypeDesc) (hu : P.underlying ty = some d) (hd : d.isRow = true) (hi : (P.info? ty).map (·.size) = some n) (vs : List Value) (hv : vs = (cur.drop off).take n)
    (h : wpStill P ops w Q rest (a.put o.dst (.agg vs.toArray))) : wpStill P ops w Q (o :: rest) a := by
  refine wpStill_step fun K hK => ?_
  have hw : Region.wanted o (yielded ops a.tmps) = true := by simp [Region.wanted, hgd]
  rw [if_pos hw]
  have hrun := run_load_blk (P := P) g off n t cur hg hfit ty d hu hd hi vs hv
  have he : (execOp a.eval o).run P w = .ok (.value (.agg vs.toArray)) w := by
    unfold execOp
    simp only [ho, hx, Sem.run_bind, hrun, Result.andThen_ok]
    rfl
  unfold Oper.still
  rw [he, Oper.stillUpon_value]
  exact hK _ h

/-! guards: they fail at once where another operation stands -/
section
variable {P : Program} {w : World} {ops : Array Oper} {rest : List Oper} {a : Act} {Q : Exit → Act → World → Prop} {ty t : TypeId}
theorem at_store_ (x y : Nat) {ps : String} {af gd} (h : wpList P ops Q (⟨none, .store ty (.tmp x) (.tmp y), t, ps, af, gd⟩ :: rest) a w) : wpList P ops Q (⟨none, .store ty (.tmp x) (.tmp y), t, ps, af, gd⟩ :: rest) a w := h
theorem at_slot_ (d : Nat) {op : Op} {ps : String} {af gd} (h : wpList P ops Q (⟨some d, op, t, ps, af, gd⟩ :: rest) a w) : wpList P ops Q (⟨some d, op, t, ps, af, gd⟩ :: rest) a w := h
theorem at_none_ {op : Op} {ps : String} {af gd} (h : wpList P ops Q (⟨none, op, t, ps, af, gd⟩ :: rest) a w) : wpList P ops Q (⟨none, op, t, ps, af, gd⟩ :: rest) a w := h
end
end Go.Proofs.YtcdehklcdipcfaaGreat.base
/-
  The contracts of vfs's files: wait, blank, sync. My own text.
-/
namespace Go.Proofs.YtcdehklcdipcfaaGreat.vfs
open Go.RowKit Go.Maps Go.Proofs.YtcdehklcdipcfaaGreat.base Go.Proofs.YtcdehklcdipcfaaGreat.vfsnum
set_option linter.unusedVariables false

theorem secInfo : (Tryz.prog.info? 116).map (·.size) = some 64 := by kernel_rfl
def zs : Bs := List.replicate 64 0
theorem zs_len : zs.length = 64 := rfl
theorem secZero (w : World) : (zeroValue 116).run Tryz.prog w = .ok (secV zs) w := by kernel_rfl
theorem bv_all (o : Bs) : ∀ v ∈ o.map bv, v.oneCell' = true := bv_one o
theorem ret_i64 {a b : Int} (h : a = b) : Ending.returned (.int .i64 a) = .returned (.int .i64 b) := by rw [h]
theorem secInfoOf (o : Bs) (h : o.length = 64) : (Tryz.prog.info? 116).map (·.size) = some (o.map bv).length := by rw [secInfo, List.length_map, h]
theorem takes_any (n : Nat) (w : World) (h : n ≤ 1099511627776) : Calls Tryz.prog 123 #[.int .i64 n] w fun e w' => e = .returned (.int .i64 (takes n : Nat)) ∧ w = w' := by
  go_enter Tryz.func123, Tryz.ntmps123
  go_wp2
  go_ret
  exact ⟨ret_i64 (by unfold takes; omega), rfl⟩

set_option maxRecDepth 100000 in
theorem wait_hit (g : Nat) (r : Raw) (bl : List Nat) (p : Nat) (o : Bs) (w : World) (h : FileRaw w g r bl) (hp : p < r.n) (hn : r.n ≤ 65536) (ho : r.old p = some o) (hl : o.length = 64) :
    Calls Tryz.prog 147 #[.pointer (some ⟨g, 0, none⟩), .int .i64 p] w fun e w' => e = .returned (.tuple #[]) ∧ Fresh w w' := by
  obtain ⟨wb, A, c, kv, sb, rfl, hnd, hb, hs, hm, hk⟩ := h
  have h2 : w.cell? ⟨g, 2, none⟩ = some (.slice A r.n c) := hb.cell rfl
  have h3 : w.cell? ⟨g, 3, none⟩ = some (.map (some wb)) := hb.cell rfl
  have hin := hk.hit ho
  go_enter Tryz.func147, Tryz.ntmps147
  go_wp2_with (first
    | (at_lookup; refine wpList_look_hit_ok _ rfl _ _ 112 rfl 3 116 intKey Tryz.underlying112 wb kv rfl hm _ _ _ rfl (key_int p (by omega)) hin ?_)
    | ((with_reducible (refine at_store_ 4 30 ?_)); refine wpList_store_new rfl 116 (.tmp 4) (.tmp 30) rfl w.heap.size (o.map bv) rfl rfl w _ _ rfl rfl (by rw [List.length_map, hl]; kernel_rfl) (bv_all o) (secInfoOf o hl) ?_; intro w1 hb1 hf1 hg1))
  go_end0
  exact ⟨rfl, hf1⟩

set_option maxRecDepth 100000 in
theorem wait_miss (g : Nat) (r : Raw) (bl : List Nat) (p : Nat) (w : World) (h : FileRaw w g r bl) (hp : p < r.n) (hn : r.n ≤ 65536) (ho : r.old p = none) :
    Calls Tryz.prog 147 #[.pointer (some ⟨g, 0, none⟩), .int .i64 p] w fun e w' => e = .returned (.tuple #[]) ∧ FileRaw w' g (r.wait p) bl ∧ Turn bl bl w w' := by
  obtain ⟨wb, A, c, kv, sb, rfl, hnd, hb, hs, hm, hk⟩ := h
  have h2 : w.cell? ⟨g, 2, none⟩ = some (.slice A r.n c) := hb.cell rfl
  have h3 : w.cell? ⟨g, 3, none⟩ = some (.map (some wb)) := hb.cell rfl
  have hmiss := hk.miss ho
  obtain ⟨q, rest, rfl, rfl, hq, hrest⟩ := hs.row (by omega)
  go_enter Tryz.func147, Tryz.ntmps147
  go_wp2_with (first
    | (at_lookup; refine wpList_look_miss_ok _ rfl _ _ 112 rfl 3 116 intKey Tryz.underlying112 _ (secZero _) wb kv rfl hm _ _ rfl (key_int p (by omega)) hmiss ?_)
    | ((with_reducible (refine at_store_ 4 30 ?_)); refine wpList_store_new rfl 116 (.tmp 4) (.tmp 30) rfl w.heap.size (zs.map bv) rfl rfl w _ _ rfl rfl (by kernel_rfl) (bv_all _) (secInfoOf _ rfl) ?_; intro w1 hb1 hf1 hg1))
  have h2' : w1.cell? ⟨g, 2, none⟩ = some (.slice (some ⟨q, 0, none⟩) r.n c) := (hb.fresh hf1).cell rfl
  have h3' : w1.cell? ⟨g, 3, none⟩ = some (.map (some wb)) := (hb.fresh hf1).cell rfl
  have hfl := hs.1
  have hf1' : Fresh w w1.drew := hf1.trans (Fresh.drew w1)
  clear h2 h3
  refine wp_region_still_tail 12 (by kernel_rfl) (by kernel_rfl) ?_
  simp only [List.take_succ_cons, List.take_zero, List.drop_succ_cons, List.drop_zero]
  iterate 11 still_step
  refine wpStill_load_blk rfl 116 (.tmp 44) rfl q (p * 64) 64 tSec _ rfl (hq.fresh hf1') (by rw [List.length_append, List.length_map]; omega) _ Tryz.underlying116 rfl secInfo ((secAt r.fl p).map bv) (by
    rw [List.drop_append_of_le_length (by rw [List.length_map]; omega), List.take_append_of_le_length (by rw [List.length_drop, List.length_map]; omega), ← List.map_drop, ← List.map_take, Nat.mul_comm p 64, sec_of_row _ _ (by omega)]) ?_
  refine wpStill_nil ?_
  go_wp2_with (first
    | (at_mapUpdate; refine wpList_put_new _ rfl _ _ _ 112 rfl 3 116 intKey Tryz.underlying112 wb kv rfl (hm.old (hf1.block wb hm.inside)) (.int .i64 p) (secV (secAt r.fl p)) _ rfl rfl (key_int p (by omega)) hmiss ?_; intro w2 hm2 hb2))
  go_end0
  have hne : g ≠ wb ∧ q ≠ wb := by simp at hnd; exact ⟨fun e => hnd.1.1 e, fun e => hnd.2 e.symm⟩
  have hn' : (r.wait p).n = r.n := by show max _ _ = _; omega
  have hfl' : (r.wait p).fl = r.fl := by show (if _ then _ else _) = _; rw [if_neg (by omega)]
  have keep : ∀ b, b < w.heap.size → b ≠ wb → w2.heap[b]? = w.heap[b]? := fun b hb hn => (hb2.block b (Nat.lt_of_lt_of_le hb hf1'.size) (fun e => hn (by injection e))).trans (hf1'.block b hb)
  refine ⟨rfl, ⟨wb, some ⟨q, 0, none⟩, c, _, [q], rfl, hnd, ?_, ?_, hm2, hk.add ho (o := secAt r.fl p) ?_ ?_⟩, (Turn.fresh hf1').trans (Turn.but hb2 (by simp))⟩
  · rw [hn']; exact hb.old (keep g hb.inside hne.1)
  · rw [hn', hfl']; exact hs.keep fun b hb => by rw [List.mem_singleton] at hb; subst hb; exact keep b hq.inside hne.2
  · show (if _ then _ else _) = _; rw [if_pos ⟨rfl, by rw [ho]; rfl⟩]
  · intro k hk; show (if _ then _ else _) = _; rw [if_neg (fun h => hk h.1)]

theorem sec_info : (Tryz.prog.info? 116).map (fun i => (i.zero, i.size, i.bytes)) = some (some (secV zs), 64, 64) := by kernel_rfl
theorem secBuilt : Tryz.prog.built 116 [] = some (zs.map bv).toArray := by kernel_rfl

set_option maxRecDepth 100000 in
theorem wait_new (g : Nat) (r : Raw) (bl : List Nat) (p : Nat) (w : World) (h : FileRaw w g r bl) (hp : p = r.n) (hn : r.n ≤ 65536) (ho : r.old p = none) :
    Calls Tryz.prog 147 #[.pointer (some ⟨g, 0, none⟩), .int .i64 p] w fun e w' => e = .returned (.tuple #[]) ∧ ∃ bl', FileRaw w' g (r.wait r.n) bl' ∧ Turn bl bl' w w' := by
  subst hp
  obtain ⟨wb, A, c, kv, sb, rfl, hnd, hb, hs, hm, hk⟩ := h
  have h2 : w.cell? ⟨g, 2, none⟩ = some (.slice A r.n c) := hb.cell rfl
  have h3 : w.cell? ⟨g, 3, none⟩ = some (.map (some wb)) := hb.cell rfl
  have hmiss := hk.miss ho
  obtain ⟨hown, hob⟩ := hs.own
  have hlti0 : ((r.n : Int) == (r.n : Int)) = true := by rw [beq_iff_eq]
  go_enter Tryz.func147, Tryz.ntmps147
  obtain ⟨i0, hi0, hz0, hz1, hz2⟩ := info_parts sec_info
  have hgs : some g ≠ (Value.slice A r.n c).ownBlock := fun e => by rw [← e] at hob; rw [← hob] at hnd; simp at hnd
  have hws : some wb ≠ (Value.slice A r.n c).ownBlock := fun e => by rw [← e] at hob; rw [← hob] at hnd; simp at hnd
  have hgw : g ≠ wb := by simp at hnd; exact hnd.1.1
  have HS := Lib.hid hs
  clear hs
  go_wp2_with (first
    | ((with_reducible (refine at_slot_ 18 ?_)); refine wpList_buildTo rfl 116 #[] rfl (some 18) rfl (zs.map bv).toArray secBuilt ?_)
    | ((with_reducible (refine at_slot_ 19 ?_)); refine wpList_buildSlice rfl 111 116 1 _ rfl (zs.map bv).toArray i0 (secV zs) Tryz.underlying111 hi0 hz0 (by rw [hz1]; decide) (by rw [hz1]; decide) (by rw [hz1]; kernel_rfl) ?_)
    | (at_builtin; refine wpList_append_lies _ rfl (.tmp 17) (.tmp 19) 111 rfl 0 116 i0 (secV zs) 64 64 Tryz.underlying111 hi0 hz0 hz1 hz2 rfl (by omega) (.slice A r.n c) r.n (r.fl.map bv) rfl (hown.alloc _) ⟨w.heap.size, 0, none⟩ 1 1 (zs.map bv) rfl rfl (World.news_of_block (heap_alloc_new w _)) (bv_all zs) (by omega) (by unfold maxLen; omega) (by omega) (Nat.zero_le _) (w.heap.size + 1) (by simp) ?_; intro q2 c2 w1 hown1 hg1 hat1 hlt1;
        have hb1 := (hb.alloc (.cells (zs.map bv).toArray 116)).grown hg1 (Ne.symm hgs);
        have hm1 := hm.old ((hg1.block wb (by simp; exact Nat.lt_succ_of_lt hm.inside) hws).trans (Below.heap_alloc w _ wb hm.inside));
        have h2' := hb1.cell (i := 2) rfl;
        have h3' := hb1.cell (i := 3) rfl;
        have hfz := hb1.free 2;
        have hm2 : MapOf Tryz.prog 3 (w1.setCell ⟨g, 2, none⟩ (.slice (some ⟨q2, 0, none⟩) (r.n + 1) c2)) wb kv := hm1.old (Below.heap_setCell w1 ⟨g, 2, none⟩ _ wb (Ne.symm hgw)))
    | (at_lookup; refine wpList_look_miss_ok _ rfl _ _ 112 rfl 3 116 intKey Tryz.underlying112 _ (secZero _) wb kv rfl hm2 _ _ rfl (key_int r.n (by omega)) hmiss ?_)
    | ((with_reducible (refine at_store_ 4 30 ?_)); refine wpList_store_new rfl 116 (.tmp 4) (.tmp 30) rfl _ (zs.map bv) rfl rfl _ _ _ rfl (by simp) (by kernel_rfl) (bv_all _) (secInfoOf _ rfl) ?_; intro w3 hb3 hf3 hg3))
  have hq2 : q2 ≠ g ∧ q2 ≠ wb := by
    have := hb.inside
    have := hm.inside
    rcases hat1 with h | h
    · exact ⟨fun e => hgs (by rw [h, e]), fun e => hws (by rw [h, e])⟩
    · omega
  have hfl := HS.out.1
  rw [← List.map_append] at hown1
  have hs1 : Sect w1 (some ⟨q2, 0, none⟩) (r.n + 1) c2 (r.fl ++ zs) [q2] := Sect.of_own hown1
  have hf3' := hf3.trans (Fresh.drew w3)
  have hs3 : Sect w3.drew (some ⟨q2, 0, none⟩) (r.n + 1) c2 (r.fl ++ zs) [q2] := hs1.keep fun b hb => by
    rw [List.mem_singleton] at hb; subst hb
    exact (hf3'.block b (by simpa using hlt1)).trans (Below.heap_setCell w1 ⟨g, 2, none⟩ _ b hq2.1)
  obtain ⟨q3, rest, hq3, _, hq, hrest⟩ := hs3.row (by omega)
  obtain rfl : q2 = q3 := by injection hq3 with h; injection h
  have hb3' : Bk w3 g tFile [.int .i64 r.long, .int .i64 r.stamp, .slice (some ⟨q2, 0, none⟩) (r.n + 1) c2, .map (some wb)] := (hb1.put 2 (.slice (some ⟨q2, 0, none⟩) (r.n + 1) c2)).fresh hf3
  have h2'' := hb3'.cell (i := 2) rfl
  have h3'' := hb3'.cell (i := 3) rfl
  have hsec : secAt (r.fl ++ zs) r.n = secAt r.fl r.n := secAt_congr fun j h1 h2 => by
    rw [gd_append]
    split
    · rfl
    · rw [gd_ge r.fl j (by omega), zs, gd_zeros]
  have hlti : ((r.n : Nat) : Int) < (r.n : Int) + 1 := by omega
  clear h2 h3 h2' h3' hm1 hm2 hfz
  refine wp_region_still_tail 12 (by kernel_rfl) (by kernel_rfl) ?_
  simp only [List.take_succ_cons, List.take_zero, List.drop_succ_cons, List.drop_zero]
  iterate 11 still_step
  refine wpStill_load_blk rfl 116 (.tmp 44) rfl q2 (r.n * 64) 64 tSec _ rfl hq (by rw [List.length_append, List.length_map, List.length_append, zs_len]; omega) _ Tryz.underlying116 rfl secInfo ((secAt r.fl r.n).map bv) (by
    rw [← hsec, List.drop_append_of_le_length (by rw [List.length_map, List.length_append, zs_len]; omega), List.take_append_of_le_length (by rw [List.length_drop, List.length_map, List.length_append, zs_len]; omega), ← List.map_drop, ← List.map_take, Nat.mul_comm r.n 64, sec_of_row _ _ (by rw [List.length_append, zs_len]; omega)]) ?_
  refine wpStill_nil ?_
  have hmW : MapOf Tryz.prog 3 w3.drew wb kv := hm.old (((hf3'.block wb (by have := hg1.size; have := hm.inside; simp at *; omega)).trans (Below.heap_setCell w1 ⟨g, 2, none⟩ _ wb (Ne.symm hgw))).trans ((hg1.block wb (by simp; exact Nat.lt_succ_of_lt hm.inside) hws).trans (Below.heap_alloc w _ wb hm.inside)))
  go_wp2_with (first
    | (at_mapUpdate; refine wpList_put_new _ rfl _ _ _ 112 rfl 3 116 intKey Tryz.underlying112 wb kv rfl hmW (.int .i64 r.n) (secV (secAt r.fl r.n)) _ rfl rfl (key_int r.n (by omega)) hmiss ?_; intro w4 hm4 hb4))
  go_end0
  have hn' : (r.wait r.n).n = r.n + 1 := by show max _ _ = _; omega
  have hfl' : (r.wait r.n).fl = r.fl ++ zs := by show (if _ then _ else _) = _; rw [if_pos rfl]; rfl
  have hT : Turn (g :: wb :: sb) (g :: wb :: sb) w w4 :=
    ((((Turn.fresh (Fresh.alloc w _)).trans (Turn.of_grown hg1 (fun k hk => by rw [hk] at hob; rw [← hob]; simp))).trans (Turn.but (But.put w1 _) (by simp))).trans (Turn.fresh hf3')).trans (Turn.but hb4 (by simp))
  refine ⟨rfl, [g, wb, q2], ⟨wb, some ⟨q2, 0, none⟩, c2, _, [q2], rfl, ?_, ?_, ?_, hm4, hk.add ho (o := secAt r.fl r.n) ?_ ?_⟩, hT.to ?_⟩
  · simp; exact ⟨⟨hgw, Ne.symm hq2.1⟩, Ne.symm hq2.2⟩
  · rw [hn']; exact hb3'.old (hb4.block g hb3'.inside (fun e => hgw (by injection e)))
  · rw [hn', hfl']; exact hs3.keep fun b hb => by rw [List.mem_singleton] at hb; subst hb; exact hb4.block b hq.inside (fun e => hq2.2 (by injection e))
  · show (if _ then _ else _) = _; rw [if_pos ⟨rfl, by rw [ho]; rfl⟩]
  · intro k hk; show (if _ then _ else _) = _; rw [if_neg (fun h => hk h.1)]
  · intro k hk
    simp only [List.mem_cons, List.not_mem_nil, or_false] at hk
    rcases hk with rfl | rfl | rfl
    · exact .inl (by simp)
    · exact .inl (by simp)
    · rcases hat1 with h | h
      · rw [h] at hob; exact .inl (by rw [← hob]; simp)
      · exact .inr (by omega)

/-- what waits is of places that there are -/
def RawOk (r : Raw) : Prop := r.n ≤ 65536 ∧ ∀ k o, r.old k = some o → k < r.n ∧ o.length = 64
theorem wait_same (r : Raw) (p : Nat) (o : Bs) (hp : p < r.n) (ho : r.old p = some o) : r.wait p = r := by
  refine Raw.same rfl rfl (show max _ _ = _ by omega) (show (if _ then _ else _) = _ by rw [if_neg (by omega)]) ?_
  funext k
  show (if _ then _ else _) = _
  by_cases hk : k = p
  · subst hk; rw [if_neg (by rw [ho]; simp)]
  · rw [if_neg (fun h => hk h.1)]
theorem wait_ok (r : Raw) (p : Nat) (h : RawOk r) (hp : p ≤ r.n) (hn : p < 65536) : RawOk (r.wait p) := by
  refine ⟨show max _ _ ≤ _ by have := h.1; omega, fun k o hk => ?_⟩
  have hk' : (if k = p ∧ (r.old k).isSome = false then some (secAt r.fl p) else r.old k) = some o := hk
  show k < max _ _ ∧ _
  by_cases hc : k = p ∧ (r.old k).isSome = false
  · rw [if_pos hc] at hk'
    injection hk' with hk'
    subst hk'
    exact ⟨by omega, secAt_len _ _⟩
  · rw [if_neg hc] at hk'
    have := h.2 k o hk'
    exact ⟨by omega, this.2⟩
theorem wait_any (g : Nat) (r : Raw) (bl : List Nat) (p : Nat) (w : World) (h : FileRaw w g r bl) (hok : RawOk r) (hp : p ≤ r.n) :
    Calls Tryz.prog 147 #[.pointer (some ⟨g, 0, none⟩), .int .i64 p] w fun e w' => e = .returned (.tuple #[]) ∧ ∃ bl', FileRaw w' g (r.wait p) bl' ∧ Turn bl bl' w w' := by
  rcases Nat.lt_or_ge p r.n with hlt | hge
  · cases ho : r.old p with
    | some o =>
      refine (wait_hit g r bl p o w h hlt hok.1 ho (hok.2 p o ho).2).mono fun e w' ⟨he, hf⟩ => ⟨he, bl, ?_, Turn.fresh hf⟩
      rw [wait_same r p o hlt ho]
      exact h.keep fun b hb => hf.block b (h.inside b hb)
    | none => exact (wait_miss g r bl p w h hlt hok.1 ho).mono fun e w' ⟨he, h1, h2⟩ => ⟨he, bl, h1, h2⟩
  · have ho : r.old p = none := by
      cases ho : r.old p with
      | none => rfl
      | some o => have := (hok.2 p o ho).1; omega
    obtain rfl : p = r.n := by omega
    exact wait_new g r bl r.n w h rfl hok.1 ho
end Go.Proofs.YtcdehklcdipcfaaGreat.vfs
/-
  The contracts of vfs's files: blank, sync, write. My own text.
-/
namespace Go.Proofs.YtcdehklcdipcfaaGreat.vfs
open Go.RowKit Go.Maps Go.Proofs.YtcdehklcdipcfaaGreat.base Go.Proofs.YtcdehklcdipcfaaGreat.vfsnum
set_option linter.unusedVariables false

theorem splice_append {α : Type} (L rest : List α) (off : Nat) (cs : List α) (h : off + cs.length ≤ L.length) : splice (L ++ rest) off cs = splice L off cs ++ rest := by
  unfold splice
  rw [List.take_append_of_le_length (by omega), List.drop_append_of_le_length h, List.append_assoc, List.append_assoc]
/-- a sector's block, written within what there is -/
theorem Sect.put {w w' : World} {q n c : Nat} {fl : Bs} {rest : List Value} (hs : Sect w (some ⟨q, 0, none⟩) n c fl [q]) (hr : 64 * n + rest.length = 64 * c) (off : Nat) (cs : Bs) (h : off + cs.length ≤ 64 * n)
    (hb : Bk w' q tSec (splice (fl.map bv ++ rest) off (cs.map bv))) : Sect w' (some ⟨q, 0, none⟩) n c (splice fl off cs) [q] := by
  obtain ⟨h1, h2, h3, _⟩ := hs
  refine ⟨by rw [length_splice _ _ _ (by omega), h1], h2, h3, .inr ⟨q, rest, rfl, rfl, ?_, hr⟩⟩
  rw [splice_append _ _ _ _ (by rw [List.length_map, List.length_map]; omega), splice_map] at hb
  exact hb
theorem sync_any (g : Nat) (r : Raw) (bl : List Nat) (w : World) (h : FileRaw w g r bl) :
    Calls Tryz.prog 78 #[.pointer (some ⟨g, 0, none⟩)] w fun e w' => e = .returned (.tuple #[]) ∧ ∃ bl', FileRaw w' g { r with old := fun _ => none } bl' ∧ Turn bl bl' w w' := by
  obtain ⟨wb, A, c, kv, sb, rfl, hnd, hb, hs, hm, hk⟩ := h
  have h3 : w.cell? ⟨g, 3, none⟩ = some (.map (some wb)) := hb.cell rfl
  have hf3 := hb.free 3
  have hgw := hb.inside
  have hmm := @run_makeMap Tryz.prog
  go_enter Tryz.func78, Tryz.ntmps78
  go_wp2
  go_end0
  have hwb := hm.inside
  have hne : g ≠ wb := by simp at hnd; exact hnd.1.1
  have hsb : ∀ b ∈ sb, b ≠ g ∧ b ≠ wb ∧ b < w.heap.size := fun b hbm => by
    refine ⟨fun e => ?_, fun e => ?_, ?_⟩
    · subst e; simp at hnd; exact hnd.1.2 hbm
    · subst e; simp at hnd; exact hnd.2.1 hbm
    · exact (show FileRaw w g r (g :: wb :: sb) from ⟨wb, A, c, kv, sb, rfl, hnd, hb, hs, hm, hk⟩).inside b (by simp [hbm])
  have hT := (Turn.but (But.put (i := 3) w (.map (some w.heap.size))) (by simp : g ∈ g :: wb :: sb)).trans (Turn.fresh (Fresh.alloc (w.setCell ⟨g, 3, none⟩ (.map (some w.heap.size))) (.map #[] 0)))
  refine ⟨rfl, g :: w.heap.size :: sb, ⟨w.heap.size, A, c, [], sb, rfl, ?_, (hb.put 3 (.map (some w.heap.size))).alloc _, hs.keep fun b hbm => ?_, ?_, OldIs.nil⟩, hT.to ?_⟩
  · simp only [List.nodup_cons, List.mem_cons] at hnd ⊢
    refine ⟨?_, ?_, hnd.2.2⟩
    · rintro (h | h)
      · omega
      · exact hnd.1 (.inr h)
    · intro h
      have := (hsb _ h).2.2
      omega
  · rw [Below.heap_alloc _ _ b (by simpa using (hsb b hbm).2.2), Below.heap_setCell w ⟨g, 3, none⟩ _ b (hsb b hbm).1]
  · have := MapOf.made Tryz.prog 3 (w.setCell ⟨g, 3, none⟩ (.map (some w.heap.size)))
    simpa using this
  · intro b hbm
    simp only [List.mem_cons] at hbm ⊢
    rcases hbm with h | h | h
    · exact .inl (.inl h)
    · exact .inr (by omega)
    · exact .inl (.inr (.inr h))

theorem blank_none (g : Nat) (r : Raw) (bl : List Nat) (w : World) (h : FileRaw w g r bl) (h0 : r.long % 64 = 0) (hl : r.long ≤ 4194304) :
    Calls Tryz.prog 79 #[.pointer (some ⟨g, 0, none⟩)] w fun e w' => e = .returned (.tuple #[]) ∧ w = w' := by
  obtain ⟨wb, A, c, kv, sb, rfl, hnd, hb, hs, hm, hk⟩ := h
  have h1 : w.cell? ⟨g, 0, none⟩ = some (.int .i64 r.long) := hb.cell rfl
  have e1 : ((r.long : Int) % 64) = 0 := by omega
  go_enter Tryz.func79, Tryz.ntmps79
  go_wp2
  go_end0
  exact ⟨rfl, rfl⟩

set_option maxRecDepth 100000 in
theorem blank_some (g : Nat) (r : Raw) (bl : List Nat) (w : World) (h : FileRaw w g r bl) (h0 : ¬ r.long % 64 = 0) (hl : r.long ≤ 4194304) (hn : 0 < r.n) (hn2 : r.n ≤ 65536) :
    Calls Tryz.prog 79 #[.pointer (some ⟨g, 0, none⟩)] w fun e w' => e = .returned (.tuple #[]) ∧ FileRaw w' g r.blank bl ∧ Turn bl bl w w' := by
  obtain ⟨wb, A, c, kv, sb, rfl, hnd, hb, hs, hm, hk⟩ := h
  obtain ⟨q, rest, rfl, rfl, hq, hrest⟩ := hs.row hn
  have h1 : w.cell? ⟨g, 0, none⟩ = some (.int .i64 r.long) := hb.cell rfl
  have h2 : w.cell? ⟨g, 2, none⟩ = some (.slice (some ⟨q, 0, none⟩) r.n c) := hb.cell rfl
  obtain ⟨m, hm1, hm2⟩ : ∃ m : Nat, (r.long : Int) % 64 = m ∧ m = r.long % 64 := ⟨r.long % 64, by omega, rfl⟩
  have hm3 : 0 < m ∧ m < 64 := by omega
  have hm4 : (((m : Nat) : Int) != 0) = true := by rw [bne_iff_ne]; omega
  obtain ⟨k, hk1⟩ : ∃ k : Nat, r.n = k + 1 := ⟨r.n - 1, by omega⟩
  have e1 : IntKind.i64.wrap (k : Int) = k := IntWalk.i64_in _ (by omega)
  have e2 : (k : Int) < (k : Int) + 1 := by omega
  have e3 : (m : Int) ≤ 64 := by omega
  have e4 : ¬ 64 = m := by omega
  have HM := Lib.hid hm2
  have HK := Lib.hid hk1
  clear hm2
  rw [hk1] at h2
  clear hk1
  go_enter Tryz.func79, Tryz.ntmps79
  go_wp2
  refine wp_region_still_tail 13 (by kernel_rfl) (by kernel_rfl) ?_
  simp only [List.take_succ_cons, List.take_zero, List.drop_succ_cons, List.drop_zero]
  iterate 13 still_step
  refine wpStill_nil ?_
  have hfl := hs.1
  go_wp2_with (first
    | ((with_reducible (refine at_none_ ?_)); refine wpList_clear_blk rfl (.tmp 22) 32 rfl 5 Tryz.underlying32 (by kernel_rfl) q (k * 64 + m) (64 - m) (64 - m) rfl _ tSec (hq.fresh (Fresh.drew w)) (by omega) (by have := HK.out; rw [List.length_append, List.length_map]; omega) ?_; intro w1 hb1 hbut1))
  go_end0
  have hne : g ≠ q ∧ wb ≠ q := by simp at hnd; exact ⟨hnd.1.2, hnd.2⟩
  have keep : ∀ b, b < w.heap.size → b ≠ q → w1.heap[b]? = w.heap[b]? := fun b hb hn => hbut1.block b hb (fun e => hn (by injection e))
  have hbl : r.blank.fl = splice r.fl (k * 64 + m) (List.replicate (64 - m) 0) := by rw [blank_fl1 _ h0, ← HM.out, HK.out]; congr 1; omega
  refine ⟨rfl, ⟨wb, some ⟨q, 0, none⟩, c, kv, [q], rfl, hnd, hb.old (keep g hb.inside hne.1), ?_, hm.old (keep wb hm.inside hne.2), hk⟩, (Turn.fresh (Fresh.drew w)).trans (Turn.but hbut1 (by simp))⟩
  rw [hbl]
  refine hs.put hrest _ _ (by have := HK.out; rw [List.length_replicate]; omega) ?_
  rw [List.map_replicate]
  exact hb1

theorem blank_any (g : Nat) (r : Raw) (bl : List Nat) (w : World) (h : FileRaw w g r bl) (hl : r.long ≤ 64 * r.n) (hn2 : r.n ≤ 65536) :
    Calls Tryz.prog 79 #[.pointer (some ⟨g, 0, none⟩)] w fun e w' => e = .returned (.tuple #[]) ∧ FileRaw w' g r.blank bl ∧ Turn bl bl w w' := by
  by_cases h0 : r.long % 64 = 0
  · refine (blank_none g r bl w h h0 (by omega)).mono fun e w' ⟨he, hw⟩ => ⟨he, ?_, hw ▸ Turn.refl _ _⟩
    have : r.blank = r := Raw.same rfl rfl rfl (blank_fl0 r h0) rfl
    rw [this, ← hw]
    exact h
  · exact blank_some g r bl w h h0 (by omega) (by omega) hn2
end Go.Proofs.YtcdehklcdipcfaaGreat.vfs
/-
  The contract of vfs's file.write. My own text.
-/
namespace Go.Proofs.YtcdehklcdipcfaaGreat.vfs
open Go.RowKit Go.Maps Go.Proofs.YtcdehklcdipcfaaGreat.base Go.Proofs.YtcdehklcdipcfaaGreat.vfsnum
set_option linter.unusedVariables false

def lenV : Value → Nat
  | .slice _ m _ => m
  | _ => 0
theorem flOk_raw {f : Fl} (h : FlOk f) : RawOk (rawOf f) := ⟨show takes _ ≤ _ by have := h.1; unfold takes; omega, h.2⟩
theorem wrt_ok {f : Fl} {a : Nat} {b : Bs} (h : FlOk f) (ha : a ≤ f.bs.length) (hl : a + b.length ≤ 4194304) : FlOk (wrt f a b) := by
  have hlen := wrt_len f a b ha
  refine ⟨by rw [hlen]; have := h.1; omega, fun k o hk => ?_⟩
  have hk' : (if b ≠ [] ∧ a / 64 ≤ k ∧ 64 * k < a + b.length ∧ (f.old k).isSome = false then some (secAt f.bs k) else f.old k) = some o := hk
  rw [hlen]
  by_cases hc : b ≠ [] ∧ a / 64 ≤ k ∧ 64 * k < a + b.length ∧ (f.old k).isSome = false
  · rw [if_pos hc] at hk'
    injection hk' with hk'
    subst hk'
    exact ⟨by have := hc.2.2.1; unfold takes; omega, secAt_len _ _⟩
  · rw [if_neg hc] at hk'
    have := h.2 k o hk'
    exact ⟨by have := this.1; unfold takes at *; omega, this.2⟩
theorem src_of {w : World} {S : List Nat} {B : Option Addr} {m : Nat} {xs : Bs} (h : RdA w S B m (xs.map bv)) (hm : 0 < m) (z : Nat) :
    ∃ b so, B = some ⟨b, so, none⟩ ∧ ∀ j v, ((xs.take z).map bv)[j]? = some v → w.cell? ⟨b, so + j, none⟩ = some v := by
  obtain ⟨b, off, e, hb, hS, hc⟩ := h.2 hm
  refine ⟨b, off, e, fun j v hv => hc j v ?_⟩
  rw [List.map_take, List.getElem?_take] at hv
  split at hv
  · exact hv
  · cases hv
theorem byteInfo1 : (Tryz.prog.info? 5).map (·.size) = some 1 := by kernel_rfl

set_option maxRecDepth 100000 in
set_option maxHeartbeats 1000000 in
theorem write_any (g : Nat) (f : Fl) (bl : List Nat) (a : Nat) (A : Option Addr) (n c : Nat) (bs : Bs) (w : World) (h : FileRaw w g (rawOf f) bl) (hr : RdA w bl A n (bs.map bv)) (hok : FlOk f) (ha : a ≤ f.bs.length) (hlen : a + n ≤ 4194304) (hc : n ≤ c) (hcm : c ≤ maxLen) :
    Calls Tryz.prog 124 #[.pointer (some ⟨g, 0, none⟩), .int .i64 a, .slice A n c] w fun e w' => e = .returned (.tuple #[]) ∧ ∃ bl', FileRaw w' g (rawOf (wrt f a bs)) bl' ∧ Turn bl bl' w w' := by
  have hbl : bs.length = n := by have := hr.1; rwa [List.length_map] at this
  have hcm' : c ≤ 9223372036854775807 := by unfold maxLen at hcm; omega
  clear hcm
  have HBL := Lib.hid hbl
  have HA := Lib.hid ha
  have HOK := Lib.hid hok
  clear hbl ha hok
  go_enter Tryz.func124, Tryz.ntmps124
  go_wp2
  go_loopw [1, 2] (fun t b wr_ => ∃ (s i m d : Nat) (B : Option Addr) (bl' : List Nat), t = .int .i64 s ∧ b = .slice B m d ∧ Hid (s = a + i) ∧ Hid (m + i = n) ∧ m ≤ d ∧ d ≤ 9223372036854775807 ∧ s ≤ 4194304 ∧ Hid (i = 0 ∨ (a + i) % 64 = 0 ∨ m = 0) ∧
      RdA wr_ bl' B m ((bs.drop i).map bv) ∧ FileRaw wr_ g (onWay f a (bs.take i)) bl' ∧ Turn bl bl' w wr_) (fun _ b _ => lenV b)
  case atStart =>
    refine ⟨a, 0, n, c, A, bl, rfl, rfl, rfl, Nat.add_zero _, hc, hcm', by omega, .inl rfl, by simpa using hr, ?_, Turn.refl _ _⟩
    rw [List.take_zero]
    unfold onWay
    rw [wrt_nil f a HA.out]
    exact h
  case round =>
    obtain ⟨s, i, m, d, B, bl', rfl, rfl, hs, hmi, hmd, hd, hsl, hal, hrd, hfr, hT⟩ := hrel
    have HT := Lib.hid hT
    clear hT h hr
    by_cases hm0 : 0 < m
    · have hin : m + i = n := hmi
      have hso : s = a + i := hs
      obtain ⟨p, hp1, hp2⟩ : ∃ p : Nat, (s : Int) / 64 = p ∧ p = s / 64 := ⟨s / 64, by omega, rfl⟩
      obtain ⟨o, ho1, ho2⟩ : ∃ o : Nat, (s : Int) % 64 = o ∧ o = s % 64 := ⟨s % 64, by omega, rfl⟩
      obtain ⟨z, hz⟩ : ∃ z : Nat, z = min m (64 - o) := ⟨_, rfl⟩
      have hb := HBL.out
      have hround := wrt_round f a bs i z HA.out (by omega) (by rcases hal.out with h | h | h; exact .inl h; exact .inr h; omega) (by rw [← hso, ← ho2]; omega)
      have htk : (bs.take i).length = i := by rw [List.length_take]; omega
      have hok1 := flOk_raw (wrt_ok (b := bs.take i) HOK.out HA.out (by rw [htk]; omega))
      have hok1' : RawOk (onWay f a (bs.take i)) := hok1
      have hp3 : p ≤ (onWay f a (bs.take i)).n := by rw [hp2, hso]; exact hround.2
      have hp4 : p < 65536 := by omega
      have hp5 : p < ((onWay f a (bs.take i)).wait p).n := by show p < max _ _; omega
      obtain ⟨N, hN⟩ : ∃ N, ((onWay f a (bs.take i)).wait p).n = N := ⟨_, rfl⟩
      rw [hN] at hp5
      have hp6 : (p : Int) < (N : Int) := by omega
      have hN2 : N ≤ 65536 := by rw [← hN]; exact (wait_ok _ p hok1' hp3 hp4).1
      have ho3 : (o : Int) ≤ 64 := by omega
      have ho4 : ¬ 64 = o := by omega
      have hpo : ¬ (64 ≤ o) := by omega
      have hvl : (((bs.drop i).take z).map bv).length = z := by rw [List.length_map, List.length_take, List.length_drop]; omega
      have hz0 : 0 < z := by omega
      have hv1 := Lib.hid (hvl.trans hz)
      have hv2 := Lib.hid (show 0 < (((bs.drop i).take z).map bv).length by rw [hvl]; exact hz0)
      have HP := Lib.hid hp2
      have HO := Lib.hid ho2
      have HZ := Lib.hid hz
      have HN := Lib.hid hN
      have HS := Lib.hid hso
      have HIN := Lib.hid hin
      have HR := Lib.hid hround
      have HTK := Lib.hid htk
      have HV := Lib.hid hvl
      clear hp2 ho2 hz hso hin hround htk hvl hb hN hok1
      go_wp2_with (first
        | (go_at_call 147; (refine (wait_any g _ bl' p wr hfr hok1' hp3).mono ?_); rintro e w1 ⟨rfl, bl1, hfr1, hT1⟩; obtain ⟨wb1, A1, c1, kv1, sb1, rfl, hnd1, hb1, hs1, hm1, hk1⟩ := hfr1; rw [HN.out] at hb1 hs1; obtain ⟨q, rest, rfl, rfl, hq, hrest⟩ := hs1.row (by omega); have h2 := hb1.cell (i := 2) rfl; have hrd1 := hrd.turn hT1; have hfit : p * 64 + o + (((bs.drop i).take z).map bv).length ≤ (((onWay f a (bs.take i)).wait p).fl.map bv ++ rest).length := by (rw [HV.out, List.length_append, List.length_map, hs1.1]; have := HO.out; have := HZ.out; omega))
        | ((with_reducible (refine at_slot_ 26 ?_)); refine wpList_copy_blk rfl (.tmp 24) (.tmp 25) 32 32 rfl 5 Tryz.underlying32 byteInfo1 q (p * 64 + o) (64 - o) (64 - o) B m d rfl rfl _ tSec hq (((bs.drop i).take z).map bv) z HV.out hv1.out hv2.out (src_of hrd1 hm0 z) hfit (bv_all _) ?_; intro w2 hb2 hbut2))
      have hne : g ≠ q ∧ wb1 ≠ q := by simp at hnd1; exact ⟨hnd1.1.2, hnd1.2⟩
      have keep : ∀ b, b < w1.heap.size → b ≠ q → w2.heap[b]? = w1.heap[b]? := fun b hb hn => hbut2.block b hb (fun e => hn (by injection e))
      have hfr2 : FileRaw w2 g (onWay f a (bs.take (i + z))) [g, wb1, q] := by
        have e0 : (a + i) / 64 = p ∧ (a + i) % 64 = o := by rw [← HS.out, HP.out, HO.out]; exact ⟨rfl, rfl⟩
        have e1 := HR.out.1
        rw [e0.1, e0.2] at e1
        rw [← e1]
        refine ⟨wb1, some ⟨q, 0, none⟩, c1, kv1, [q], rfl, hnd1, ?_, ?_, hm1.old (keep wb1 hm1.inside hne.2), hk1⟩
        · show Bk w2 g tFile [_, _, .slice _ ((onWay f a (bs.take i)).wait p).n _, _]
          rw [HN.out]
          exact hb1.old (keep g hb1.inside hne.1)
        · show Sect w2 _ ((onWay f a (bs.take i)).wait p).n _ _ _
          rw [HN.out]
          refine hs1.put hrest _ _ ?_ (by rw [Nat.mul_comm 64 p]; exact hb2)
          have h1 := HV.out
          rw [List.length_map] at h1
          have := HO.out
          have := HZ.out
          omega
      have hT2 : Turn [g, wb1, q] [g, wb1, q] w1 w2 := Turn.but hbut2 (by simp)
      have hrd2 := hrd1.turn hT2
      have HT2 := Lib.hid ((HT.out.trans hT1).trans hT2)
      have ew : IntKind.i64.wrap ((s : Int) + z) = (s : Int) + z := IntWalk.i64_in _ (by have := HZ.out; omega)
      have hzm : (z : Int) ≤ (m : Int) := by have := HZ.out; omega
      have hmd2 : (m : Int) ≤ (d : Int) := by omega
      have hdz : (z : Int) ≤ (d : Int) := by omega
      clear hT1 hT2 hrd1 hb1 hs1 hm1 hk1 hq hb2 h2 hfr keep hbut2 hrd hfit hok1' hp3
      go_quiet (fail)
      go_wp2
      go_roundw
      case rel =>
        have hz1 := HZ.out
        have hz2 := HS.out
        have hz3 := HIN.out
        have hz4 := HO.out
        refine ⟨s + z, i + z, m - z, d - z, if d = z then B else B.map (·.add z), [g, wb1, q], by go_num, rfl, show _ = _ by omega, show _ = _ by omega, by omega, by omega, by omega, show _ ∨ _ ∨ _ by omega, ?_, hfr2.keep fun _ _ => rfl, HT2.out.trans (Turn.fresh (Fresh.drewN w2 nq))⟩
        have h1 := hrd2.cut (lo := z) (hi := m) (cap := d) (by omega) (Nat.le_refl _) hmd
        have h2 : ((bs.drop (i + z)).map bv) = ((((bs.drop i).map bv).drop z).take (m - z)) := by
          rw [List.take_of_length_le (by rw [List.length_drop, List.length_map, List.length_drop]; have := HBL.out; omega), ← List.map_drop, List.drop_drop]
        rw [h2]
        exact h1.turn (Turn.fresh (Fresh.drewN w2 nq))
      case measure =>
        show m - z < m
        omega
    · have hm00 : m = 0 := by omega
      subst hm00
      have hin : 0 + i = n := hmi
      have hso : s = a + i := hs
      have hall : bs.take i = bs := List.take_of_length_le (by have := HBL.out; omega)
      rw [hall] at hfr
      have hlen2 := wrt_len f a bs HA.out
      obtain ⟨wb, A1, c1, kv, sb, rfl, hnd, hb, hs1, hm1, hk1⟩ := hfr
      have h0 : wr.cell? ⟨g, 0, none⟩ = some (.int .i64 f.bs.length) := hb.cell rfl
      have hf0 := hb.free 0
      have hge := HA.out
      have hbb := HBL.out
      have hmax : ((wrt f a bs).bs.length : Int) = max (f.bs.length : Int) (s : Int) := by rw [hlen2]; omega
      obtain ⟨L, hL⟩ : ∃ L : Nat, (wrt f a bs).bs.length = L := ⟨_, rfl⟩
      rw [hL] at hmax
      have HL := Lib.hid hL
      have HMX := Lib.hid hmax
      have HOK2 := HOK.out.1
      clear hin hso hall hlen2 hge hbb hmax hL
      have fin : ∀ v : Int, v = (L : Int) → FileRaw (wr.setCell ⟨g, 0, none⟩ (.int .i64 v)) g (rawOf (wrt f a bs)) (g :: wb :: sb) := by
        intro v hv
        subst hv
        have hgw : wb ≠ g := by simp at hnd; exact fun e => hnd.1.1 e.symm
        have hsg : ∀ b ∈ sb, b ≠ g := fun b hbm e => by subst e; simp at hnd; exact hnd.1.2 hbm
        have h2 := hb.put 0 (.int .i64 (L : Int))
        refine ⟨wb, A1, c1, kv, sb, rfl, hnd, ?_, hs1.keep fun b hbm => Below.heap_setCell wr ⟨g, 0, none⟩ _ b (hsg b hbm), hm1.old (Below.heap_setCell wr ⟨g, 0, none⟩ _ wb hgw), hk1⟩
        show Bk _ g tFile [.int .i64 (wrt f a bs).bs.length, _, _, _]
        rw [HL.out]
        exact h2
      have FIN := Lib.hid fin
      clear fin hb hs1 hm1 hk1
      go_wp2
      all_goals
        go_end0
        exact ⟨rfl, _, FIN.out _ (by have := HMX.out; omega), HT.out.trans (Turn.but (But.put wr _) (by simp))⟩
end Go.Proofs.YtcdehklcdipcfaaGreat.vfs
/-
  The contract of vfs's file.read. My own text.
-/
namespace Go.Proofs.YtcdehklcdipcfaaGreat.vfs
open Go.RowKit Go.Maps Go.Proofs.YtcdehklcdipcfaaGreat.base Go.Proofs.YtcdehklcdipcfaaGreat.vfsnum
set_option linter.unusedVariables false

theorem byte_info : (Tryz.prog.info? 5).map (fun i => (i.zero, i.size, i.bytes)) = some (some (.int .u8 0), 1, 1) := by kernel_rfl
/-- so many bytes of what was asked for, then zeros -/
theorem rd_round (bs : Bs) (a i m z : Nat) (hz : z ≤ m) (ha : a + i + m ≤ bs.length) :
    splice (((bs.drop a).take i).map bv ++ List.replicate m (bv 0)) i (((bs.drop (a + i)).take z).map bv) = ((bs.drop a).take (i + z)).map bv ++ List.replicate (m - z) (bv 0) := by
  have l1 : (((bs.drop a).take i).map bv).length = i := by rw [List.length_map, List.length_take, List.length_drop]; omega
  have l2 : (((bs.drop (a + i)).take z).map bv).length = z := by rw [List.length_map, List.length_take, List.length_drop]; omega
  have e : ((bs.drop a).take (i + z)).map bv = ((bs.drop a).take i).map bv ++ ((bs.drop (a + i)).take z).map bv := by
    rw [List.take_add, List.drop_drop, List.map_append]
  rw [e]
  generalize ((bs.drop a).take i).map bv = X at *
  generalize ((bs.drop (a + i)).take z).map bv = Y at *
  unfold splice
  rw [l2, List.take_left' l1, List.drop_append, List.drop_of_length_le (by omega), l1, List.nil_append, show i + z - i = z by omega, List.drop_replicate, List.append_assoc]

set_option maxRecDepth 100000 in
set_option maxHeartbeats 1000000 in
theorem read_any (g : Nat) (f : Fl) (bl : List Nat) (a n : Nat) (w : World) (h : FileRaw w g (rawOf f) bl) (hfl : f.bs.length ≤ 4194304) (han : a + n ≤ f.bs.length) :
    Calls Tryz.prog 116 #[.pointer (some ⟨g, 0, none⟩), .int .i64 a, .int .i64 n] w fun e w' =>
      ∃ q, e = .returned (.slice (some ⟨q, 0, none⟩) n n) ∧ w.heap.size ≤ q ∧ Bk w' q 5 (((f.bs.drop a).take n).map bv) ∧ Fresh w w' := by
  obtain ⟨i0, hi0, hz0, hz1, hz2⟩ := info_parts byte_info
  have HL := Lib.hid hfl
  have HA := Lib.hid han
  go_enter Tryz.func116, Tryz.ntmps116
  go_wp2_with (at_make; refine wpList_make_blk rfl 32 (.tmp 10) (.tmp 10) rfl 5 i0 _ Tryz.underlying32 hi0 hz0 hz1 rfl n rfl rfl (by rw [hz2]; omega) (by unfold maxLen; omega) w.heap.size rfl ?_; intro w1 hb1 hf1)
  clear han
  go_loopw [1, 8] (fun t b wr => ∃ (s i m : Nat) (B : Option Addr), t = .int .i64 s ∧ b = .slice B m m ∧ Hid (s = a + i) ∧ Hid (m + i = n) ∧ m ≤ 4194304 ∧ s ≤ 4194304 ∧ Hid (0 < m → B = some ⟨w.heap.size, i, none⟩) ∧
      Bk wr w.heap.size 5 (((f.bs.drop a).take i).map bv ++ List.replicate m (bv 0)) ∧ Fresh w wr) (fun _ b _ => lenV b)
  case atStart => exact ⟨a, 0, n, some ⟨w.heap.size, 0, none⟩, rfl, rfl, rfl, Nat.add_zero _, by have := HA.out; omega, by have := HA.out; omega, fun _ => rfl, by rw [List.take_zero]; exact hb1, hf1⟩
  case round =>
    obtain ⟨s, i, m, B, rfl, rfl, hs, hmi, hm, hsl, hB, hbk, hfr⟩ := hrel
    by_cases hm0 : 0 < m
    · have hin : m + i = n := hmi
      have hso : s = a + i := hs
      obtain rfl : B = some ⟨w.heap.size, i, none⟩ := hB.out hm0
      have hw := h.keep (w' := wr) fun b hb => hfr.block b (h.inside b hb)
      obtain ⟨wb, A, c, kv, sb, rfl, hnd, hb, hsct, hmp, hk⟩ := hw
      have hN : (rawOf f).n = takes f.bs.length := rfl
      have hhl := HL.out
      have hha := HA.out
      obtain ⟨q, rest, rfl, rfl, hq, hrest⟩ := hsct.row (by rw [hN]; unfold takes; omega)
      have h2 := hb.cell (i := 2) rfl
      obtain ⟨p, hp1, hp2⟩ : ∃ p : Nat, (s : Int) / 64 = p ∧ p = s / 64 := ⟨s / 64, by omega, rfl⟩
      obtain ⟨o, ho1, ho2⟩ : ∃ o : Nat, (s : Int) % 64 = o ∧ o = s % 64 := ⟨s % 64, by omega, rfl⟩
      obtain ⟨z, hz⟩ : ∃ z : Nat, z = min (64 - o) m := ⟨_, rfl⟩
      have hfl2 := hsct.1
      have hvl : (((f.bs.drop s).take z).map bv).length = z := by rw [List.length_map, List.length_take, List.length_drop]; omega
      obtain ⟨N, hN2⟩ : ∃ N, (rawOf f).n = N := ⟨_, rfl⟩
      rw [hN2] at h2 hfl2 hN
      have hp6 : (p : Int) < (N : Int) := by rw [hN]; unfold takes; omega
      have hN3 : N ≤ 65536 := by rw [hN]; unfold takes; omega
      have ho3 : (o : Int) ≤ 64 := by omega
      have ho4 : ¬ 64 = o := by omega
      have hpo : ¬ (64 ≤ o) := by omega
      have hz0 : 0 < z := by omega
      have hzm : (z : Int) ≤ (m : Int) := by omega
      have ew : IntKind.i64.wrap ((s : Int) + z) = (s : Int) + z := IntWalk.i64_in _ (by omega)
      have hv1 := Lib.hid (hvl.trans hz)
      have hv2 := Lib.hid (show 0 < (((f.bs.drop s).take z).map bv).length by rw [hvl]; exact hz0)
      have hfit := Lib.hid (show i + (((f.bs.drop s).take z).map bv).length ≤ (((f.bs.drop a).take i).map bv ++ List.replicate m (bv 0)).length by rw [hvl, List.length_append, List.length_map, List.length_take, List.length_drop, List.length_replicate]; omega)
      have hsrc : Hid (∃ b so, some (⟨q, p * 64 + o, none⟩ : Addr) = some ⟨b, so, none⟩ ∧ ∀ j v, (((f.bs.drop s).take z).map bv)[j]? = some v → wr.cell? ⟨b, so + j, none⟩ = some v) := by
        refine ⟨q, p * 64 + o, rfl, fun j v hv => hq.cell ?_⟩
        have hj : j < z := by
          have := (List.getElem?_eq_some_iff.1 hv).1
          rwa [hvl] at this
        have hso2 : p * 64 + o = s := by omega
        rw [hso2]
        have hl3 : s + j < (pad f.bs).length := by rw [pad_len]; have := le_takes f.bs.length; omega
        show ((pad f.bs).map bv ++ rest)[s + j]? = some v
        rw [List.getElem?_append_left (by rw [List.length_map]; exact hl3), List.getElem?_map, List.getElem?_eq_getElem hl3]
        rw [List.getElem?_map, List.getElem?_take, if_pos hj, List.getElem?_drop, List.getElem?_eq_getElem (by omega)] at hv
        rw [← hv]
        have := gd_pad f.bs (s + j)
        rw [List.getD_eq_getElem?_getD, List.getD_eq_getElem?_getD, List.getElem?_eq_getElem hl3, List.getElem?_eq_getElem (by omega)] at this
        simp only [Option.getD_some] at this
        simp only [Option.map_some]
        rw [← this]
      have HV := Lib.hid hvl
      have HZ := Lib.hid hz
      have HS := Lib.hid hso
      have HIN := Lib.hid hin
      clear hp2 ho2 hz hso hin hvl hN hfl2 hhl hha hN2
      go_wp2_with (first
        | ((with_reducible (refine at_slot_ 27 ?_)); refine wpList_copy_blk rfl (.tmp 16) (.tmp 26) 32 32 rfl 5 Tryz.underlying32 byteInfo1 w.heap.size i m m (some ⟨q, p * 64 + o, none⟩) (64 - o) (64 - o) rfl rfl _ 5 hbk (((f.bs.drop s).take z).map bv) z HV.out hv1.out hv2.out hsrc.out hfit.out (bv_all _) ?_; intro w2 hb2 hbut2))
      rw [HS.out, rd_round _ _ _ _ _ (by have := HZ.out; omega) (by have := HA.out; have := HIN.out; omega)] at hb2
      have hf2 := hfr.but (Nat.le_refl _) hbut2
      clear hbk hq hb hsct hmp hk hnd h2 hbut2 hfr
      go_quiet (fail)
      go_wp2
      go_roundw
      case rel =>
        have hz1 := HZ.out
        have hz2 := HS.out
        have hz3 := HIN.out
        refine ⟨s + z, i + z, m - z, _, by go_num, rfl, show _ = _ by omega, show _ = _ by omega, by omega, ?_, ?_, hb2, hf2.trans (Fresh.drewN w2 nq)⟩
        · have := HL.out; have := HA.out; omega
        · intro hpos
          have : ¬ m = z := by omega
          simp [this]
      case measure =>
        show m - z < m
        omega
    · have hm00 : m = 0 := by omega
      subst hm00
      obtain rfl : i = n := by have : 0 + i = n := hmi; omega
      rw [List.replicate_zero, List.append_nil] at hbk
      go_wp2
      go_ret
      exact ⟨w.heap.size, rfl, Nat.le_refl _, hbk, hfr⟩
end Go.Proofs.YtcdehklcdipcfaaGreat.vfs
/-
  The contracts of vfs's file.cut and file.crash. My own text.
-/
namespace Go.Proofs.YtcdehklcdipcfaaGreat.vfs
open Go.RowKit Go.Maps Go.Proofs.YtcdehklcdipcfaaGreat.base Go.Proofs.YtcdehklcdipcfaaGreat.vfsnum
set_option linter.unusedVariables false

def someOld (old : Nat → Option Bs) (a k : Nat) : Nat → Option Bs := fun j => if a ≤ j ∧ j < k then none else old j

set_option maxRecDepth 100000 in
set_option maxHeartbeats 1000000 in
theorem cut_any (g : Nat) (f : Fl) (bl : List Nat) (n : Nat) (w : World) (h : FileRaw w g (rawOf f) bl) (hok : FlOk f) (hn : n ≤ f.bs.length) :
    Calls Tryz.prog 143 #[.pointer (some ⟨g, 0, none⟩), .int .i64 n] w fun e w' => e = .returned (.tuple #[]) ∧ ∃ bl', FileRaw w' g (rawOf (ct f n)) bl' ∧ Turn bl bl' w w' := by
  have hfl := hok.1
  obtain ⟨wb, A, c, kv, sb, rfl, hnd, hb, hs, hm, hk⟩ := h
  have hgw : g ≠ wb ∧ wb ∉ sb ∧ g ∉ sb := by simp at hnd; exact ⟨hnd.1.1, hnd.2.1, hnd.1.2⟩
  obtain ⟨N, hN⟩ : ∃ N, (rawOf f).n = N := ⟨_, rfl⟩
  have hN1 : N = takes f.bs.length := hN.symm
  have hN2 : takes n ≤ N := by rw [hN1]; unfold takes; omega
  have hN3 : N ≤ 65536 := by rw [hN1]; unfold takes; omega
  rw [hN] at hb hs
  have HN := Lib.hid hN1
  have HOK := Lib.hid hok
  have hcN := hs.2.1
  have hcm := hs.2.2.1
  unfold maxLen at hcm
  have hcc : c ≤ 9223372036854775807 := by omega
  clear hN1 hN hok hcm
  obtain ⟨L, hL⟩ : ∃ L, takes n = L := ⟨_, rfl⟩
  rw [hL] at hN2
  have HL := Lib.hid hL
  go_enter Tryz.func143, Tryz.ntmps143
  go_wp2_with (go_at_call 123; refine (takes_any n w (by omega)).mono ?_; rintro e w' ⟨rfl, rfl⟩)
  clear hL
  go_loopw [5] (fun t wr => ∃ (k : Nat) (kv' : List (Value × Value)), t = .int .i64 k ∧ L ≤ k ∧ k ≤ N ∧ MapOf Tryz.prog 3 wr wb kv' ∧ OldIs kv' (someOld (rawOf f).old L k) ∧ But wb w wr) (fun t _ => N - (intOf t).toNat)
  case atStart =>
    have e : someOld (rawOf f).old L L = (rawOf f).old := by funext j; unfold someOld; rw [if_neg (by omega)]
    exact ⟨L, kv, rfl, Nat.le_refl _, hN2, hm, by rw [e]; exact hk, But.refl _ _⟩
  case round =>
    obtain ⟨k, kv', rfl, hk1, hk2, hm', hold, hbut⟩ := hrel
    have keep : ∀ b, b < w.heap.size → b ≠ wb → wr.heap[b]? = w.heap[b]? := fun b hb hn => hbut.block b hb (fun e => hn (by injection e))
    have hb' := hb.old (keep g hb.inside hgw.1)
    have h2 := hb'.cell (i := 2) rfl
    have h3 := hb'.cell (i := 3) rfl
    have HB := Lib.hid hbut
    clear hbut
    by_cases hlt : k < N
    · have hlti : (k : Int) < (N : Int) := by omega
      have hstep : ∀ j, j ≠ k → someOld (rawOf f).old L (k + 1) j = someOld (rawOf f).old L k j := fun j hj => by
        unfold someOld
        by_cases h : L ≤ j ∧ j < k
        · rw [if_pos h, if_pos (by omega)]
        · rw [if_neg h, if_neg (by omega)]
      have hnone : someOld (rawOf f).old L (k + 1) k = none := by unfold someOld; rw [if_pos (by omega)]
      cases ho : someOld (rawOf f).old L k k with
      | some o =>
        obtain ⟨rest, hp⟩ := perm_of_mem (hold.hit ho)
        have hdel := hold.del hm'.apart hp hnone hstep
        have HD := Lib.hid hdel
        clear hdel hstep hnone ho
        go_wp2_with (at_delete; refine wpList_drop_hit _ rfl _ _ 112 3 rfl 116 intKey Tryz.underlying112 wb kv' rest (secV o) rfl hm' (.int .i64 k) _ rfl (key_int k (by omega)) hp ?_; intro w1 hm1 hb1)
        go_roundw
        case rel => exact ⟨k + 1, rest, by go_num, by omega, by omega, hm1, HD.out, HB.out.trans hb1⟩
        case measure => simp [intOf]; omega
      | none =>
        have hmiss := hold.miss ho
        have heq : someOld (rawOf f).old L (k + 1) = someOld (rawOf f).old L k := by
          funext j
          by_cases hj : j = k
          · subst hj; rw [hnone, ho]
          · exact hstep j hj
        have HE := Lib.hid heq
        clear heq hstep hnone ho
        go_wp2_with (at_delete; refine wpList_drop_miss _ rfl _ _ 112 3 rfl 116 intKey Tryz.underlying112 wb kv' rfl hm' (.int .i64 k) _ rfl (key_int k (by omega)) hmiss ?_; intro w1 hm1 hb1)
        go_roundw
        case rel => exact ⟨k + 1, kv', by go_num, by omega, by omega, hm1, by rw [HE.out]; exact hold, HB.out.trans hb1⟩
        case measure => simp [intOf]; omega
    · have hkN : k = N := by omega
      subst hkN
      have hold2 : OldIs kv' (cutOld f.old L) := by
        have : someOld (rawOf f).old L k = cutOld f.old L := by
          funext j
          show (if L ≤ j ∧ j < k then none else f.old j) = if L ≤ j then none else f.old j
          by_cases h : L ≤ j
          · rw [if_pos h]
            by_cases h1 : j < k
            · rw [if_pos ⟨h, h1⟩]
            · rw [if_neg (fun h2 => h1 h2.2)]
              cases hj : f.old j with
              | none => rfl
              | some o => have := (HOK.out.2 j o hj).1; have := HN.out; omega
          · rw [if_neg h, if_neg (fun h2 => h h2.1)]
        rw [← this]; exact hold
      clear hold
      have hf0 := hb'.free 0
      have hf2 := hb'.free 2
      have hLc : (L : Int) ≤ (c : Int) := by omega
      have h0 := hb'.cell (i := 0) rfl
      have hr : FileRaw ((wr.setCell ⟨g, 2, none⟩ (.slice A L c)).setCell ⟨g, 0, none⟩ (.int .i64 n)) g ⟨n, f.stamp, L, (pad f.bs).take (64 * L), cutOld f.old L⟩ (g :: wb :: sb) := by
        have hbw : ∀ b, b ≠ g → ((wr.setCell ⟨g, 2, none⟩ (.slice A L c)).setCell ⟨g, 0, none⟩ (.int .i64 n)).heap[b]? = wr.heap[b]? := fun b hb =>
          (Below.heap_setCell _ ⟨g, 0, none⟩ _ b hb).trans (Below.heap_setCell _ ⟨g, 2, none⟩ _ b hb)
        have hsw : Sect wr A k c (rawOf f).fl sb := hs.keep fun b hbm => keep b ((show FileRaw w g { rawOf f with n := k } (g :: wb :: sb) from ⟨wb, A, c, kv, sb, rfl, hnd, hb, hs, hm, hk⟩).inside b (by simp [hbm])) (fun e => hgw.2.1 (e ▸ hbm))
        refine ⟨wb, A, c, kv', sb, rfl, hnd, (hb'.put 2 (.slice A L c)).put 0 (.int .i64 n), ?_, hm'.old (hbw wb (fun e => hgw.1 e.symm)), hold2⟩
        exact (hsw.cut hN2).keep fun b hbm => hbw b (fun e => hgw.2.2 (e ▸ hbm))
      have hT : Turn (g :: wb :: sb) (g :: wb :: sb) w ((wr.setCell ⟨g, 2, none⟩ (.slice A L c)).setCell ⟨g, 0, none⟩ (.int .i64 n)) :=
        (((Turn.but HB.out (by simp))).trans (Turn.but (But.put wr _) (by simp))).trans (Turn.but (But.put (wr.setCell ⟨g, 2, none⟩ (.slice A L c)) _) (by simp))
      have hct := ct_raw f n hn f.stamp ⟨n, f.stamp, L, (pad f.bs).take (64 * L), cutOld f.old L⟩ (by rw [HL.out])
      have HT := Lib.hid hT
      have hle : n ≤ 64 * L := by rw [← HL.out]; exact le_takes n
      clear hT hs hb hm hk hm' hb' keep hold2
      by_cases hz : n % 64 = 0
      · rw [if_pos hz] at hct
        have HC := Lib.hid hct
        have ez : (n : Int) % 64 = 0 := by omega
        clear hct hz
        go_wp2_with (go_at_call 79; (refine (blank_any g _ _ _ hr hle (by show L ≤ _; omega)).mono ?_); rintro e w2 ⟨rfl, hr2, hT2⟩)
        go_end0
        rw [HC.out] at hr2
        exact ⟨rfl, _, hr2, HT.out.trans hT2⟩
      · rw [if_neg hz] at hct
        have HC := Lib.hid hct
        have HLo := HL.out
        obtain ⟨l, hl⟩ : ∃ l : Nat, L = l + 1 := ⟨L - 1, by rw [← HLo]; unfold takes; have : 0 < n := by omega
                                                            omega⟩
        have hl1 : (L : Int) - 1 = l := by omega
        have ez : (((n : Int) % 64) != 0) = true := by rw [bne_iff_ne]; omega
        have hok2 : RawOk ⟨n, f.stamp, L, (pad f.bs).take (64 * L), cutOld f.old L⟩ := by
          refine ⟨by show L ≤ _; omega, fun j o hj => ?_⟩
          have hj' : (if L ≤ j then none else f.old j) = some o := hj
          by_cases hLj : L ≤ j
          · rw [if_pos hLj] at hj'; cases hj'
          · rw [if_neg hLj] at hj'
            exact ⟨by show j < L; omega, (HOK.out.2 j o hj').2⟩
        have hn3 : (Raw.wait ⟨n, f.stamp, L, (pad f.bs).take (64 * L), cutOld f.old L⟩ l).n = L := by show max L (l + 1) = L; omega
        have hlL : l ≤ L := by omega
        rw [HLo, show L - 1 = l by omega] at hct
        have HC := Lib.hid hct
        have HN3 := Lib.hid hn3
        clear hct hz HLo hl hn3
        go_wp2_with (first
          | (go_at_call 147; (refine (wait_any g _ _ l _ hr hok2 hlL).mono ?_); rintro e w1 ⟨rfl, bl1, hr1, hT1⟩; have hb1 := Lib.hid (show _ ≤ 64 * _ from HN3.out ▸ hle); have hb2 := Lib.hid (show (Raw.wait ⟨n, f.stamp, L, (pad f.bs).take (64 * L), cutOld f.old L⟩ l).n ≤ 65536 by rw [HN3.out]; omega))
          | (go_at_call 79; (refine (blank_any g _ _ _ hr1 hb1.out hb2.out).mono ?_); rintro e w2 ⟨rfl, hr2, hT2⟩))
        go_end0
        rw [HC.out] at hr2
        exact ⟨rfl, _, hr2, (HT.out.trans hT1).trans hT2⟩
end Go.Proofs.YtcdehklcdipcfaaGreat.vfs
/-
  The contract of vfs's file.crash. My own text.
-/
namespace Go.Proofs.YtcdehklcdipcfaaGreat.vfs
open Go.RowKit Go.Maps Go.Proofs.YtcdehklcdipcfaaGreat.base Go.Proofs.YtcdehklcdipcfaaGreat.vfsnum
set_option linter.unusedVariables false

theorem keep_bit (keep i : Nat) (h : keep < 18446744073709551616) : bits .and .u64 ((keep : Int) / 2 ^ (i % 64)) 1 = if keeps keep i = true then 1 else 0 := by
  have h1 : (keep : Int) / 2 ^ (i % 64) = ((keep / 2 ^ (i % 64) : Nat) : Int) := by simp
  have h2 : keep / 2 ^ (i % 64) ≤ keep := Nat.div_le_self _ _
  have h3 := u64_and_nat (keep / 2 ^ (i % 64)) 1 (by omega) (by decide)
  rw [Nat.and_one_is_mod] at h3
  rw [h1]
  refine h3.trans ?_
  unfold keeps
  rcases Nat.mod_two_eq_zero_or_one (keep / 2 ^ (i % 64)) with h | h <;> simp [h]

set_option maxRecDepth 100000 in
set_option maxHeartbeats 1000000 in
theorem crash_any (g : Nat) (f : Fl) (bl : List Nat) (keep i : Nat) (w : World) (h : FileRaw w g (rawOf f) bl) (hok : FlOk f) (hkeep : keep < 18446744073709551616) (hi : i ≤ 4294967296) :
    Calls Tryz.prog 46 #[.pointer (some ⟨g, 0, none⟩), .int .u64 keep, .int .i64 i] w fun e w' => e = .returned (.int .i64 (i + cnt f.old (takes f.bs.length) : Nat)) ∧ ∃ bl', FileRaw w' g (rawOf (cr f keep i)) bl' ∧ Turn bl bl' w w' := by
  have hfl := hok.1
  have h2 : ∃ A c, w.cell? ⟨g, 2, none⟩ = some (.slice A (takes f.bs.length) c) := by
    obtain ⟨wb, A, c, kv, sb, rfl, hnd, hb, hs, hm, hk⟩ := h
    exact ⟨A, c, hb.cell rfl⟩
  obtain ⟨A, c, h2⟩ := h2
  obtain ⟨N, hN⟩ : ∃ N, takes f.bs.length = N := ⟨_, rfl⟩
  have hN3 : N ≤ 65536 := by rw [← hN]; unfold takes; omega
  rw [hN] at h2 ⊢
  have HN := Lib.hid hN
  have HOK := Lib.hid hok
  clear hN hok
  go_enter Tryz.func46, Tryz.ntmps46
  go_wp2
  clear h2
  go_loopw [2, 15] (fun ti t wr => ∃ (k : Nat), t = .int .i64 k ∧ ti = .int .i64 (i + cnt f.old k : Nat) ∧ k ≤ N ∧ FileRaw wr g ⟨f.bs.length, f.stamp, N, gone f keep i k, f.old⟩ bl ∧ Turn bl bl w wr) (fun _ t _ => N - (intOf t).toNat)
  case atStart => exact ⟨0, rfl, rfl, Nat.zero_le _, by rw [gone_zero, ← HN.out]; exact h, Turn.refl _ _⟩
  case round =>
    obtain ⟨k, rfl, rfl, hk2, hfr, hT⟩ := hrel
    by_cases hlt : k < N
    · obtain ⟨wb, A, c, kv, sb, rfl, hnd, hb, hs, hm, hk⟩ := hfr
      have h2 := hb.cell (i := 2) rfl
      have h3 := hb.cell (i := 3) rfl
      have hlti : (k : Int) < (N : Int) := by omega
      have HT := Lib.hid hT
      have HH := Lib.hid h
      have hcn := cnt_succ f.old k
      have hcl := cnt_le f.old k
      obtain ⟨j, hj⟩ : ∃ j, i + cnt f.old k = j := ⟨_, rfl⟩
      have hj3 : j ≤ 4294967296 + 65536 := by omega
      rw [hj]
      cases ho : f.old k with
      | none =>
        have hmiss := hk.miss ho
        rw [ho] at hcn
        have HG := Lib.hid (gone_keep f keep i k (.inl ho))
        have HJ := Lib.hid (show i + cnt f.old (k + 1) = j by rw [hcn]; simpa using hj)
        clear ho hcn hcl hj hT h
        go_wp2_with (first
          | (at_lookup; refine wpList_look_miss_ok _ rfl _ _ 112 rfl 3 116 intKey Tryz.underlying112 _ (secZero _) wb kv rfl hm _ _ rfl (key_int k (by omega)) hmiss ?_)
          | ((with_reducible (refine at_store_ 8 25 ?_)); refine wpList_store_new rfl 116 (.tmp 8) (.tmp 25) rfl wr.heap.size (zs.map bv) rfl rfl wr _ _ rfl rfl (by kernel_rfl) (bv_all _) (secInfoOf _ rfl) ?_; intro w1 hb1 hf1 hg1))
        go_roundw
        case rel =>
          refine ⟨k + 1, by go_num, by rw [HJ.out], by omega, ?_, HT.out.trans (Turn.fresh hf1)⟩
          rw [HG.out]
          exact (show FileRaw wr g _ _ from ⟨wb, A, c, kv, sb, rfl, hnd, hb, hs, hm, hk⟩).keep fun b hbm => hf1.block b ((show FileRaw wr g ⟨f.bs.length, f.stamp, N, gone f keep i k, f.old⟩ (g :: wb :: sb) from ⟨wb, A, c, kv, sb, rfl, hnd, hb, hs, hm, hk⟩).inside b hbm)
        case measure => simp [intOf]; omega
      | some o =>
        have hin := hk.hit ho
        have hol := (HOK.out.2 k o ho).2
        rw [ho] at hcn
        have HJ := Lib.hid (show i + cnt f.old (k + 1) = j + 1 by rw [hcn]; simp; omega)
        have HO := Lib.hid ho
        have HJ0 := Lib.hid hj
        have ebit := keep_bit keep j hkeep
        clear ho hcn hcl hj hT h
        cases hkp : keeps keep j with
        | true =>
          have HG := Lib.hid (gone_keep f keep i k (.inr (by rw [HJ0.out]; exact hkp)))
          rw [hkp, if_pos rfl] at ebit
          clear hkp
          go_wp2_with (first
            | (at_lookup; refine wpList_look_hit_ok _ rfl _ _ 112 rfl 3 116 intKey Tryz.underlying112 wb kv rfl hm _ _ _ rfl (key_int k (by omega)) hin ?_)
            | ((with_reducible (refine at_store_ 8 25 ?_)); refine wpList_store_new rfl 116 (.tmp 8) (.tmp 25) rfl wr.heap.size (o.map bv) rfl rfl wr _ _ rfl rfl (by rw [List.length_map, hol]; kernel_rfl) (bv_all _) (secInfoOf _ hol) ?_; intro w1 hb1 hf1 hg1))
          go_roundw
          case rel =>
            refine ⟨k + 1, by go_num, by rw [HJ.out]; go_num, by omega, ?_, HT.out.trans (Turn.fresh hf1)⟩
            rw [HG.out]
            exact (show FileRaw wr g _ _ from ⟨wb, A, c, kv, sb, rfl, hnd, hb, hs, hm, hk⟩).keep fun b hbm => hf1.block b ((show FileRaw wr g ⟨f.bs.length, f.stamp, N, gone f keep i k, f.old⟩ (g :: wb :: sb) from ⟨wb, A, c, kv, sb, rfl, hnd, hb, hs, hm, hk⟩).inside b hbm)
          case measure => simp [intOf]; omega
        | false =>
          have HG := Lib.hid (gone_lose f keep i k o (by rw [HN.out]; omega) HO.out hol (by rw [HJ0.out]; exact hkp))
          rw [hkp, if_neg (by simp)] at ebit
          clear hkp
          obtain ⟨q, rest, rfl, rfl, hq, hrest⟩ := hs.row (by show 0 < N; omega)
          go_wp2_with (first
            | (at_lookup; refine wpList_look_hit_ok _ rfl _ _ 112 rfl 3 116 intKey Tryz.underlying112 wb kv rfl hm _ _ _ rfl (key_int k (by omega)) hin ?_)
            | ((with_reducible (refine at_store_ 8 25 ?_)); refine wpList_store_new rfl 116 (.tmp 8) (.tmp 25) rfl wr.heap.size (o.map bv) rfl rfl wr _ _ rfl rfl (by rw [List.length_map, hol]; kernel_rfl) (bv_all _) (secInfoOf _ hol) ?_; intro w1 hb1 hf1 hg1))
          have hf1' := hf1.trans (Fresh.drew w1)
          have hbW := hb.fresh hf1
          have h2' := hbW.cell (i := 2) rfl
          have hfl2 := hs.1
          clear h2 h3
          refine wp_region_still_tail 7 (by kernel_rfl) (by kernel_rfl) ?_
          simp only [List.take_succ_cons, List.take_zero, List.drop_succ_cons, List.drop_zero]
          iterate 5 still_step
          refine wpStill_load_blk rfl 116 (.tmp 8) rfl wr.heap.size 0 64 116 _ rfl (hb1.fresh (Fresh.drew w1)) (by rw [List.length_map, hol]; decide) _ Tryz.underlying116 rfl secInfo (o.map bv) (by rw [List.drop_zero, List.take_of_length_le (by rw [List.length_map, hol]; decide)]) ?_
          still_step
          refine wpStill_nil ?_
          go_wp2_with ((with_reducible (refine at_store_ 41 40 ?_)); refine wpList_store_blk rfl 116 (.tmp 41) (.tmp 40) rfl q (k * 64) tSec _ (o.map bv) rfl rfl (hq.fresh hf1') (by rw [List.length_append, List.length_map, List.length_map, hol, hfl2]; show _ ≤ 64 * N + _; omega) (bv_all _) (secInfoOf _ hol) ?_; intro w2 hb2 hbut2)
          go_roundw
          case rel =>
            have hne : g ≠ q ∧ wb ≠ q := by simp at hnd; exact ⟨hnd.1.2, hnd.2⟩
            have keepb : ∀ b, b < wr.heap.size → b ≠ q → w2.heap[b]? = wr.heap[b]? := fun b hb hn => (hbut2.block b (Nat.lt_of_lt_of_le hb hf1'.size) (fun e => hn (by injection e))).trans (hf1'.block b hb)
            refine ⟨k + 1, by go_num, by rw [HJ.out]; go_num, by omega, ⟨wb, some ⟨q, 0, none⟩, c, kv, [q], rfl, hnd, hb.old (keepb g hb.inside hne.1), ?_, hm.old (keepb wb hm.inside hne.2), hk⟩, (HT.out.trans (Turn.fresh hf1')).trans (Turn.but hbut2 (by simp))⟩
            rw [← HG.out]
            exact hs.put hrest _ _ (by rw [hol]; show _ ≤ 64 * N; omega) (by rw [Nat.mul_comm 64 k]; exact hb2)
          case measure => simp [intOf]; omega
    · have hkN : k = N := by omega
      subst hkN
      have hcr := cr_raw f keep i ⟨f.bs.length, f.stamp, k, gone f keep i k, fun _ => none⟩ (by rw [HN.out])
      have HC := Lib.hid hcr
      have hle : f.bs.length ≤ 64 * k := by rw [← HN.out]; exact le_takes _
      have HT := Lib.hid hT
      clear hcr hT h
      go_wp2_with (first
        | (go_at_call 78; (refine (sync_any g _ _ _ hfr).mono ?_); rintro e w1 ⟨rfl, bl1, hr1, hT1⟩)
        | (go_at_call 79; (refine (blank_any g _ _ _ hr1 hle hN3).mono ?_); rintro e w2 ⟨rfl, hr2, hT2⟩))
      rw [HC.out] at hr2
      go_ret
      exact ⟨rfl, _, hr2, (HT.out.trans hT1).trans hT2⟩
end Go.Proofs.YtcdehklcdipcfaaGreat.vfs
