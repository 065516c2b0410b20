/-
  Files as they lie in memory; what a call may turn. My own text.
-/
import Derived.Test.YtelghdfikcodmaaMapOf
import Derived.Test.YtelghdfikcodmaaVfsNum
import Derived.Test.YtelghdfikcodmaaChecked
import Derived.Deep.MidRow
namespace Go.Proofs.Ytelghdfikcodmaa.vfs
open Go.RowKit Go.Maps Go.Proofs.Ytelghdfikcodmaa.base Go.Proofs.Ytelghdfikcodmaa.vfsnum
set_option linter.unusedVariables false

/-- of what was there only the blocks S have turned; S' are these, or new ones -/
structure Turn (S S' : List Nat) (w w' : World) : Prop where
  os : w'.os = w.os
  tape : w'.tape = w.tape
  output : w'.output = w.output
  size : w.heap.size ≤ w'.heap.size
  block : ∀ k, k < w.heap.size → k ∉ S → w'.heap[k]? = w.heap[k]?
  sub : ∀ k ∈ S', k ∈ S ∨ w.heap.size ≤ k

section
variable {S S' S'' T : List Nat} {a b c w w' : World}
theorem Turn.refl (S : List Nat) (w : World) : Turn S S w w := ⟨rfl, rfl, rfl, Nat.le_refl _, fun _ _ _ => rfl, fun _ h => .inl h⟩
theorem Turn.trans (h : Turn S S' a b) (k : Turn S' S'' b c) : Turn S S'' a c where
  os := k.os.trans h.os
  tape := k.tape.trans h.tape
  output := k.output.trans h.output
  size := Nat.le_trans h.size k.size
  block i hi hS := (k.block i (Nat.lt_of_lt_of_le hi h.size) (fun hS' => by rcases h.sub i hS' with h1 | h1; exact hS h1; omega)).trans (h.block i hi hS)
  sub i hi := by
    rcases k.sub i hi with h1 | h1
    · exact h.sub i h1
    · exact .inr (Nat.le_trans h.size h1)
theorem Turn.fresh (h : Fresh a b) : Turn S S a b := ⟨h.os, h.tape, h.output, h.size, fun k hk _ => h.block k hk, fun _ h => .inl h⟩
theorem Turn.but {g : Nat} (h : But g a b) (hg : g ∈ S) : Turn S S a b := ⟨h.os, h.tape, h.output, h.size, fun k hk hS => h.block k hk (fun e => by injection e with e; subst e; exact hS hg), fun _ h => .inl h⟩
theorem Turn.of_grown {row : Option Nat} (h : a.grownBy b row) (hr : ∀ g, row = some g → g ∈ S) : Turn S S a b := ⟨h.os, h.tape, h.output, h.size, fun k hk hS => h.block k hk (fun e => hS (hr k e.symm)), fun _ h => .inl h⟩
theorem Turn.to (h : Turn S S' a b) (hs : ∀ k ∈ S'', k ∈ S ∨ a.heap.size ≤ k) : Turn S S'' a b := { h with sub := hs }
theorem Turn.from_ (h : Turn S S' a b) (hs : ∀ k ∈ S, k ∈ T) : Turn T S' a b := { h with block := fun k hk hT => h.block k hk (fun h' => hT (hs k h')), sub := fun k hk => by rcases h.sub k hk with h1 | h1; exact .inl (hs k h1); exact .inr h1 }
/-- seen from ahead of all of S, nothing has turned -/
theorem Turn.new (h : Turn S S' b c) (k : Fresh a b) (hS : ∀ i ∈ S, a.heap.size ≤ i) : Fresh a c :=
  ⟨h.os.trans k.os, h.tape.trans k.tape, h.output.trans k.output, Nat.le_trans k.size h.size, fun i hi => (h.block i (Nat.lt_of_lt_of_le hi k.size) (fun h' => by have := hS i h'; omega)).trans (k.block i hi)⟩
theorem Turn.new_sub (h : Turn S S' b c) (k : Fresh a b) (hS : ∀ i ∈ S, a.heap.size ≤ i) : ∀ i ∈ S', a.heap.size ≤ i := fun i hi => by
  rcases h.sub i hi with h1 | h1
  · exact hS i h1
  · have := k.size; omega
/-- blocks apart from S stay apart -/
theorem Turn.apart (h : Turn S S' a b) {i : Nat} (hi : i < a.heap.size) (hS : i ∉ S) : i ∉ S' := fun h' => by
  rcases h.sub i h' with h1 | h1
  · exact hS h1
  · omega
end

/-- the slice (A, n) reads as xs and lies apart from the blocks S -/
def RdA (w : World) (S : List Nat) (A : Option Addr) (n : Nat) (xs : List Value) : Prop :=
  xs.length = n ∧ (0 < n → ∃ b off, A = some ⟨b, off, none⟩ ∧ b < w.heap.size ∧ b ∉ S ∧ ∀ j u, xs[j]? = some u → w.cell? ⟨b, off + j, none⟩ = some u)
theorem RdA.turn {S S' : List Nat} {w w' : World} {A : Option Addr} {n : Nat} {xs : List Value} (h : RdA w S A n xs) (k : Turn S S' w w') : RdA w' S' A n xs :=
  ⟨h.1, fun hn => by
    obtain ⟨b, off, e, hb, hS, hc⟩ := h.2 hn
    exact ⟨b, off, e, Nat.lt_of_lt_of_le hb k.size, k.apart hb hS, fun j u hu => (World.cell?_of_block (k.block b hb hS)).trans (hc j u hu)⟩⟩
theorem RdA.of_rd {S : List Nat} {w : World} {B : Nat} {A : Option Addr} {n : Nat} {xs : List Value} (h : Rd w B A n xs) (hB : B ≤ w.heap.size) (hS : ∀ i ∈ S, B ≤ i) : RdA w S A n xs :=
  ⟨h.1, fun hn => by
    obtain ⟨b, off, e, hb, hc⟩ := h.2 hn
    exact ⟨b, off, e, by omega, fun h' => by have := hS b h'; omega, hc⟩⟩
theorem RdA.cut {w : World} {S : List Nat} {n : Nat} {A : Option Addr} {xs : List Value} (h : RdA w S A n xs) {lo hi cap : Nat} (h1 : lo ≤ hi) (h2 : hi ≤ n) (hc : n ≤ cap) :
    RdA w S (if cap = lo then A else A.map (·.add lo)) (hi - lo) ((xs.drop lo).take (hi - lo)) := by
  refine ⟨by rw [List.length_take, List.length_drop, h.1]; omega, fun hn => ?_⟩
  obtain ⟨b, off, rfl, hb, hS, hcell⟩ := h.2 (by omega)
  rw [if_neg (by omega)]
  refine ⟨b, off + lo, ?_, hb, hS, fun j u hu => ?_⟩
  · simp only [Option.map_some, Option.some.injEq]
    unfold Addr.add
    split
    · subst lo; rfl
    · rfl
  · have h3 : xs[lo + j]? = some u := by
      rw [List.getElem?_take] at hu
      split at hu
      · rwa [List.getElem?_drop] at hu
      · cases hu
    have := hcell _ u h3
    rwa [← Nat.add_assoc] at this
theorem RdA.sub {w : World} {S T : List Nat} {n : Nat} {A : Option Addr} {xs : List Value} (h : RdA w S A n xs) (hT : ∀ i ∈ T, i ∈ S) : RdA w T A n xs :=
  ⟨h.1, fun hn => by obtain ⟨b, off, e, hb, hS, hc⟩ := h.2 hn; exact ⟨b, off, e, hb, fun h' => hS (hT b h'), hc⟩⟩

abbrev tFile : TypeId := 107
abbrev tSec : TypeId := 116
abbrev tFS : TypeId := 73
theorem intKey : Keyed Try.prog 3 := int_keyed Try.underlying3
theorem strKey : Keyed Try.prog 9 := string_keyed Try.underlying9
theorem key_int (p : Nat) (h : p ≤ 9223372036854775807) : keyOf Try.prog 3 (.int .i64 p) = some (.int .i64 p) := keyOf_int_mk Try.underlying3 (WalkArith.wf_i64 ⟨by omega, by omega⟩)
def secV (o : Bs) : Value := .agg (o.map bv).toArray

/-- the sectors' slice: sb is its block, if there is one -/
def Sect (w : World) (A : Option Addr) (n c : Nat) (fl : Bs) (sb : List Nat) : Prop :=
  fl.length = 64 * n ∧ n ≤ c ∧ c ≤ maxLen ∧ ((A = none ∧ c = 0 ∧ sb = []) ∨ ∃ q rest, A = some ⟨q, 0, none⟩ ∧ sb = [q] ∧ Bk w q tSec (fl.map bv ++ rest) ∧ 64 * n + rest.length = 64 * c)
theorem Sect.keep {w w' : World} {A : Option Addr} {n c : Nat} {fl : Bs} {sb : List Nat} (h : Sect w A n c fl sb) (hk : ∀ b ∈ sb, w'.heap[b]? = w.heap[b]?) : Sect w' A n c fl sb := by
  obtain ⟨h1, h2, h3, h4⟩ := h
  refine ⟨h1, h2, h3, h4.imp id ?_⟩
  rintro ⟨q, rest, hA, rfl, hb, hr⟩
  exact ⟨q, rest, hA, rfl, hb.old (hk q (by simp)), hr⟩
theorem Sect.row {w : World} {A : Option Addr} {n c : Nat} {fl : Bs} {sb : List Nat} (h : Sect w A n c fl sb) (hn : 0 < n) : ∃ q rest, A = some ⟨q, 0, none⟩ ∧ sb = [q] ∧ Bk w q tSec (fl.map bv ++ rest) ∧ 64 * n + rest.length = 64 * c := by
  obtain ⟨h1, h2, h3, h4⟩ := h
  rcases h4 with ⟨_, h, _⟩ | h
  · omega
  · exact h
theorem Sect.own {w : World} {A : Option Addr} {n c : Nat} {fl : Bs} {sb : List Nat} (h : Sect w A n c fl sb) : w.ownsRow 0 tSec 64 (.slice A n c) n (fl.map bv) ∧ (Value.slice A n c).ownBlock.toList = sb := by
  obtain ⟨h1, h2, h3, h4⟩ := h
  rcases h4 with ⟨rfl, rfl, rfl⟩ | ⟨q, rest, rfl, rfl, hb, hr⟩
  · have h0 : n = 0 := by omega
    subst h0
    have : fl = [] := List.eq_nil_of_length_eq_zero (by omega)
    subst this
    exact ⟨World.ownsRow_nil _ _ _ _, rfl⟩
  · refine ⟨⟨by rw [List.length_map, h1, Nat.mul_comm], .inr ⟨q, c, _, rfl, Nat.zero_le _, hb, h2, h3, ?_, ?_⟩⟩, rfl⟩
    · rw [List.size_toArray, List.length_append, List.length_map, h1, hr, Nat.mul_comm]
    · rw [List.take_left' (by rw [List.length_map, h1, Nat.mul_comm])]
theorem Sect.of_own {w : World} {A : Option Addr} {n c : Nat} {fl : Bs} (h : w.ownsRow 0 tSec 64 (.slice A n c) n (fl.map bv)) : Sect w A n c fl (Value.slice A n c).ownBlock.toList := by
  have hl : fl.length = 64 * n := by have := h.1; rw [List.length_map] at this; omega
  rcases h.2 with ⟨hv, hn⟩ | ⟨g, cap, cur, hv, _, hb, h1, h2, h3, h4⟩
  · injection hv with hA h0 hc
    subst hA; subst hc; subst hn
    exact ⟨hl, Nat.le_refl _, Nat.zero_le _, .inl ⟨rfl, rfl, rfl⟩⟩
  · injection hv with hA h0 hc
    subst hA; subst hc
    refine ⟨hl, h1, h2, .inr ⟨g, cur.toList.drop (n * 64), rfl, rfl, ?_, ?_⟩⟩
    · show _ = _
      rw [← h4, List.take_append_drop]
      exact hb
    · rw [List.length_drop, Array.length_toList, h3]; omega
/-- the first m of them -/
theorem Sect.cut {w : World} {A : Option Addr} {n c : Nat} {fl : Bs} {sb : List Nat} (h : Sect w A n c fl sb) {m : Nat} (hm : m ≤ n) : Sect w A m c (fl.take (64 * m)) sb := by
  obtain ⟨h1, h2, h3, h4⟩ := h
  refine ⟨by rw [List.length_take]; omega, by omega, h3, h4.imp id ?_⟩
  rintro ⟨q, rest, hA, rfl, hb, hr⟩
  refine ⟨q, (fl.drop (64 * m)).map bv ++ rest, hA, rfl, ?_, ?_⟩
  · rw [← List.append_assoc, ← List.map_append, List.take_append_drop]; exact hb
  · rw [List.length_append, List.length_map, List.length_drop]; omega

/-- the map of what waits -/
def OldIs (kv : List (Value × Value)) (old : Nat → Option Bs) : Prop := ∀ key v, (key, v) ∈ kv ↔ ∃ (p : Nat) (o : Bs), key = .int .i64 p ∧ old p = some o ∧ v = secV o
theorem OldIs.hit {kv : List (Value × Value)} {old : Nat → Option Bs} (h : OldIs kv old) {p : Nat} {o : Bs} (ho : old p = some o) : (Value.int .i64 p, secV o) ∈ kv := (h _ _).2 ⟨p, o, rfl, ho, rfl⟩
theorem OldIs.miss {kv : List (Value × Value)} {old : Nat → Option Bs} (h : OldIs kv old) {p : Nat} (ho : old p = none) : ∀ x ∈ kv, x.1 ≠ .int .i64 (p : Int) := by
  rintro ⟨key, v⟩ hx he
  obtain ⟨p', o, hk, ho', _⟩ := (h key v).1 hx
  simp only at he
  rw [he] at hk
  injection hk with _ hk
  have : p = p' := by omega
  subst this
  rw [ho] at ho'
  cases ho'
theorem OldIs.nil : OldIs [] fun _ => none := fun key v => by simp
theorem OldIs.add {kv : List (Value × Value)} {old : Nat → Option Bs} (h : OldIs kv old) {p : Nat} {o : Bs} {old' : Nat → Option Bs} (h1 : old p = none) (h2 : old' p = some o) (h3 : ∀ k, k ≠ p → old' k = old k) : OldIs ((.int .i64 p, secV o) :: kv) old' := by
  intro key v
  rw [List.mem_cons, h key v]
  constructor
  · rintro (h | ⟨p', o', rfl, ho, rfl⟩)
    · injection h with ha hb; subst ha; subst hb; exact ⟨p, o, rfl, h2, rfl⟩
    · have : p' ≠ p := fun e => by subst e; rw [h1] at ho; cases ho
      exact ⟨p', o', rfl, (h3 _ this).trans ho, rfl⟩
  · rintro ⟨p', o', rfl, ho, rfl⟩
    by_cases e : p' = p
    · subst e; rw [h2] at ho; injection ho with ho; subst ho; exact .inl rfl
    · exact .inr ⟨p', o', rfl, (h3 _ e).symm.trans ho, rfl⟩
theorem OldIs.del {kv rest : List (Value × Value)} {old old' : Nat → Option Bs} (h : OldIs kv old) (hd : kv.Pairwise (fun p q => p.1 ≠ q.1)) {p : Nat} {v0 : Value} (hp : kv.Perm ((.int .i64 p, v0) :: rest)) (h2 : old' p = none) (h3 : ∀ k, k ≠ p → old' k = old k) : OldIs rest old' := by
  have hd' := (hp.pairwise_iff (fun {a b} (h : a.1 ≠ b.1) => h.symm)).1 hd
  obtain ⟨hx, _⟩ := List.pairwise_cons.1 hd'
  intro key v
  constructor
  · intro hm
    obtain ⟨p', o, rfl, ho, rfl⟩ := (h key v).1 (hp.mem_iff.2 (List.mem_cons_of_mem _ hm))
    have : p' ≠ p := fun e => by subst e; exact hx _ hm rfl
    exact ⟨p', o, rfl, (h3 _ this).trans ho, rfl⟩
  · rintro ⟨p', o, rfl, ho, rfl⟩
    have : p' ≠ p := fun e => by subst e; rw [h2] at ho; cases ho
    have hm := (h _ _).2 ⟨p', o, rfl, (h3 _ this).symm.trans ho, rfl⟩
    rcases List.mem_cons.1 (hp.mem_iff.1 hm) with e | e
    · injection e with e _; injection e with _ e; omega
    · exact e
theorem perm_of_mem {α : Type} {l : List α} {x : α} (h : x ∈ l) : ∃ r, l.Perm (x :: r) := by
  obtain ⟨s, t, rfl⟩ := List.append_of_mem h
  exact ⟨s ++ t, List.perm_middle⟩

/-- a file, as it lies: its own block, what waits, the sectors' -/
def FileRaw (w : World) (g : Nat) (r : Raw) (bl : List Nat) : Prop :=
  ∃ wb A c kv sb, bl = g :: wb :: sb ∧ bl.Nodup ∧ Bk w g tFile [.int .i64 r.long, .int .i64 r.stamp, .slice A r.n c, .map (some wb)] ∧ Sect w A r.n c r.fl sb ∧ MapOf Try.prog 3 w wb kv ∧ OldIs kv r.old
theorem FileRaw.keep {w w' : World} {g : Nat} {r : Raw} {bl : List Nat} (h : FileRaw w g r bl) (hk : ∀ b ∈ bl, w'.heap[b]? = w.heap[b]?) : FileRaw w' g r bl := by
  obtain ⟨wb, A, c, kv, sb, rfl, hn, hb, hs, hm, ho⟩ := h
  exact ⟨wb, A, c, kv, sb, rfl, hn, hb.old (hk g (by simp)), hs.keep fun b hb => hk b (by simp [hb]), hm.old (hk wb (by simp)), ho⟩
theorem FileRaw.inside {w : World} {g : Nat} {r : Raw} {bl : List Nat} (h : FileRaw w g r bl) : ∀ b ∈ bl, b < w.heap.size := by
  obtain ⟨wb, A, c, kv, sb, rfl, hn, hb, ⟨h1, h2, h3, h4⟩, hm, ho⟩ := h
  intro b hx
  rcases List.mem_cons.1 hx with rfl | hx
  · exact hb.inside
  · rcases List.mem_cons.1 hx with rfl | hx
    · exact hm.inside
    · rcases h4 with ⟨_, _, rfl⟩ | ⟨q, rest, _, rfl, hq, _⟩
      · cases hx
      · rw [List.mem_singleton] at hx; subst hx; exact hq.inside
theorem FileRaw.turn {S S' : List Nat} {w w' : World} {g : Nat} {r : Raw} {bl : List Nat} (h : FileRaw w g r bl) (k : Turn S S' w w') (hS : ∀ b ∈ bl, b ∉ S) : FileRaw w' g r bl :=
  h.keep fun b hb => k.block b (h.inside b hb) (hS b hb)
theorem FileRaw.len {w : World} {g : Nat} {r : Raw} {bl : List Nat} (h : FileRaw w g r bl) : r.fl.length = 64 * r.n := by
  obtain ⟨wb, A, c, kv, sb, rfl, hn, hb, ⟨h1, _⟩, hm, ho⟩ := h
  exact h1
end Go.Proofs.Ytelghdfikcodmaa.vfs
