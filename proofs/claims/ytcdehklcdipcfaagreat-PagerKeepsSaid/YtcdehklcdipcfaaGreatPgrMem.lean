import Derived.Test.YtcdehklcdipcfaaGreatMgPf
import Derived.Test.YtcdehklcdipcfaaGreatMapOf
import Derived.Test.YtcdehklcdipcfaaGreatShelf
import Derived.Shelf.SlMaps.Clone
/-
  A pager as it lies in memory; what it keeps: count, drop. My own text.
-/
namespace Go.Proofs.YtcdehklcdipcfaaGreat.pgrp
open Go.RowKit Go.Maps Go.Proofs.YtcdehklcdipcfaaGreat.base Go.Proofs.YtcdehklcdipcfaaGreat.num Go.Proofs.YtcdehklcdipcfaaGreat.word Go.Proofs.YtcdehklcdipcfaaGreat.pagn Go.Proofs.YtcdehklcdipcfaaGreat.pgr Go.Proofs.YtcdehklcdipcfaaGreat.waln Go.Proofs.YtcdehklcdipcfaaGreat.walp Go.Proofs.YtcdehklcdipcfaaGreat.pagp
open Go.Proofs.YtcdehklcdipcfaaGreat.vfs (FsAt fsPtr Did tFS)
set_option linter.unusedVariables false
set_option linter.unusedSimpArgs false

abbrev tPgr : TypeId := 73
abbrev tMapB : TypeId := 65
abbrev tInts : TypeId := 53
abbrev tI : TypeId := 3
abbrev Ent := Nat × Bs
def Ent.kv (e : Ent) : Value × Value := (Value.int .i64 (e.1 : Nat), blkV e.2)
def kvB (l : List Ent) : List (Value × Value) := l.map Ent.kv
def dropE (l : List Ent) (n : Nat) : List Ent := l.filter fun e => decide (e.1 ≠ n)
def putE (l : List Ent) (n : Nat) (b : Bs) : List Ent := (n, b) :: dropE l n
def keepE (l : List Ent) (n : Nat) (b : Bs) : List Ent := (if (dropE l n).length = 16 then (dropE l n).tail else dropE l n) ++ [(n, b)]
def lookE (l : List Ent) (n : Nat) : Option Bs := (l.find? fun e => decide (e.1 = n)).map (·.2)
def EntOk (l : List Ent) : Prop := ∀ e ∈ l, e.1 ≤ 65536 ∧ e.2.length = 508
def EntNd (l : List Ent) : Prop := l.Pairwise fun x y => x.1 ≠ y.1

theorem lookE_some {l : List Ent} {n : Nat} {b : Bs} (h : lookE l n = some b) : (n, b) ∈ l := by
  unfold lookE at h
  rw [Option.map_eq_some_iff] at h
  obtain ⟨e, he, rfl⟩ := h
  have h1 := List.find?_some he
  simp only [decide_eq_true_eq] at h1
  rw [← h1]
  exact List.mem_of_find?_eq_some he
theorem lookE_none {l : List Ent} {n : Nat} (h : lookE l n = none) : ∀ e ∈ l, e.1 ≠ n := by
  unfold lookE at h
  rw [Option.map_eq_none_iff, List.find?_eq_none] at h
  intro e he h1
  exact h e he (by simp [h1])
theorem kv_hit {l : List Ent} {n : Nat} {b : Bs} (h : lookE l n = some b) : (Value.int .i64 (n : Nat), blkV b) ∈ kvB l := List.mem_map.2 ⟨(n, b), lookE_some h, rfl⟩
theorem kv_miss {l : List Ent} {n : Nat} (h : ∀ e ∈ l, e.1 ≠ n) : ∀ p ∈ kvB l, p.1 ≠ .int .i64 (n : Nat) := by
  intro p hp he
  obtain ⟨e, hm, rfl⟩ := List.mem_map.1 hp
  simp only [Ent.kv] at he
  injection he with _ he
  exact h e hm (by omega)
theorem dropE_none {l : List Ent} {n : Nat} (h : ∀ e ∈ l, e.1 ≠ n) : dropE l n = l := List.filter_eq_self.2 fun e he => by simpa using h e he
theorem dropE_mid {l1 l2 : List Ent} {n : Nat} {b : Bs} (h : EntNd (l1 ++ (n, b) :: l2)) : dropE (l1 ++ (n, b) :: l2) n = l1 ++ l2 := by
  unfold EntNd at h
  rw [List.pairwise_append, List.pairwise_cons] at h
  obtain ⟨h1, ⟨h2, h3⟩, h4⟩ := h
  unfold dropE
  rw [List.filter_append, List.filter_cons_of_neg (by simp), List.filter_eq_self.2, List.filter_eq_self.2]
  · intro e he
    simpa using (h2 e he).symm
  · intro e he
    simpa using h4 e he (n, b) (by simp)
theorem dropE_ok {l : List Ent} {n : Nat} (h : EntOk l) : EntOk (dropE l n) := fun e he => h e (List.mem_filter.1 he).1
theorem dropE_nd {l : List Ent} {n : Nat} (h : EntNd l) : EntNd (dropE l n) := List.Pairwise.filter _ h
theorem dropE_ne {l : List Ent} {n : Nat} : ∀ e ∈ dropE l n, e.1 ≠ n := fun e he => by simpa using (List.mem_filter.1 he).2
theorem blkV_inj {a b : Bs} (h : a.length = b.length) : True := trivial

/-- the row of the numbers, the one that was asked for longest ago first -/
def OrdAt (w : World) (A : Option Addr) (n c : Nat) (xs : List Nat) (ob : List Nat) : Prop :=
  xs.length = n ∧ n ≤ c ∧ c ≤ maxLen ∧ ((A = none ∧ c = 0 ∧ ob = []) ∨ ∃ q rest, A = some ⟨q, 0, none⟩ ∧ ob = [q] ∧ Bk w q tI (xs.map (fun (x : Nat) => iv (x : Int)) ++ rest) ∧ n + rest.length = c)
theorem OrdAt.keep {w w' : World} {A : Option Addr} {n c : Nat} {xs ob : List Nat} (h : OrdAt w A n c xs ob) (hk : ∀ b ∈ ob, w'.heap[b]? = w.heap[b]?) : OrdAt w' A n c xs ob := by
  obtain ⟨h1, h2, h3, h4⟩ := h
  refine ⟨h1, h2, h3, h4.imp id ?_⟩
  rintro ⟨q, rest, hA, rfl, hb, hr⟩
  exact ⟨q, rest, hA, rfl, hb.old (hk q (by simp)), hr⟩
theorem OrdAt.own {w : World} {A : Option Addr} {n c : Nat} {xs ob : List Nat} (h : OrdAt w A n c xs ob) : Own w 0 tI A n c (xs.map (fun (x : Nat) => iv (x : Int))) ∧ (Value.slice A n c).ownBlock.toList = ob := by
  obtain ⟨h1, h2, h3, h4⟩ := h
  rcases h4 with ⟨rfl, rfl, rfl⟩ | ⟨q, rest, rfl, rfl, hb, hr⟩
  · have h0 : n = 0 := by omega
    subst h0
    obtain rfl : xs = [] := List.eq_nil_of_length_eq_zero h1
    exact ⟨World.ownsRow_nil _ _ _ _, rfl⟩
  · refine ⟨⟨by rw [List.length_map, h1, Nat.mul_one], .inr ⟨q, c, _, rfl, Nat.zero_le _, hb, h2, h3, ?_, ?_⟩⟩, rfl⟩
    · rw [List.size_toArray, List.length_append, List.length_map, h1, hr, Nat.mul_one]
    · rw [List.take_left' (by rw [List.length_map, h1, Nat.mul_one])]
theorem OrdAt.of_own {w : World} {A : Option Addr} {n c : Nat} {xs : List Nat} (h : Own w 0 tI A n c (xs.map (fun (x : Nat) => iv (x : Int)))) : OrdAt w A n c xs (Value.slice A n c).ownBlock.toList := by
  have hl : xs.length = n := by have := h.1; rw [List.length_map] at this; omega
  rcases h.2 with ⟨hv, hn⟩ | ⟨g, cap, cur, hv, _, hb, h1, h2, h3, h4⟩
  · injection hv with hA h0 hc
    subst hA; subst hc; subst hn
    exact ⟨hl, Nat.le_refl _, Nat.zero_le _, .inl ⟨rfl, rfl, rfl⟩⟩
  · injection hv with hA h0 hc
    subst hA; subst hc
    refine ⟨hl, h1, h2, .inr ⟨g, cur.toList.drop (n * 1), rfl, rfl, ?_, ?_⟩⟩
    · show _ = _
      rw [← h4, List.take_append_drop]
      exact hb
    · rw [List.length_drop, Array.length_toList, h3]; omega

/-- what a pager's memory tells -/
structure Mm where
  hd : Hd
  last : Hd
  ch : List Ent
  sh : List Ent
  rd : Nat
  dead : Bool
structure Mm.Ok (m : Mm) : Prop where
  hd : m.hd.Ok
  last : m.last.Ok
  ch : EntOk m.ch
  sh : EntOk m.sh
  few : m.sh.length ≤ 16
  rd : m.rd < 4611686018427387904
def pgCells (f : Nat) (m : Mm) (mb kb : Nat) (ov : Value) : List Value :=
  [fsPtr f, .string dbN, .string logN] ++ (m.hd.nums.map iv ++ (m.last.nums.map iv ++ [.map (some mb), .map (some kb), ov, .int .i64 (m.rd : Nat), .bool m.dead]))
def MemAt (w : World) (p f : Nat) (m : Mm) (bl : List Nat) : Prop :=
  ∃ mb kb A n c ob, bl = p :: mb :: kb :: ob ∧ bl.Nodup ∧ Bk w p tPgr (pgCells f m mb kb (.slice A n c)) ∧ MapOf Tryz.prog tI w mb (kvB m.ch) ∧ MapOf Tryz.prog tI w kb (kvB m.sh) ∧ OrdAt w A n c (m.sh.map Prod.fst) ob ∧ m.Ok
section
variable {f mb kb : Nat} {m : Mm} {ov : Value}
theorem nums10 {h : Hd} (k : h.Ok) : (h.nums.map iv).length = 10 := by rw [List.length_map, Hd.nums_len k.eight]
theorem pg_len (k : m.Ok) : (pgCells f m mb kb ov).length = 28 := by simp [pgCells, nums10 k.hd, nums10 k.last, Hd.nums_len k.hd.eight, Hd.nums_len k.last.eight]
theorem pg_tail (k : m.Ok) (i : Nat) : (pgCells f m mb kb ov)[23 + i]? = [Value.map (some mb), .map (some kb), ov, .int .i64 (m.rd : Nat), .bool m.dead][i]? := by
  unfold pgCells
  rw [List.getElem?_append_right (by simp; omega), List.getElem?_append_right (by rw [nums10 k.hd]; simp; omega), List.getElem?_append_right (by rw [nums10 k.hd, nums10 k.last]; simp; omega)]
  congr 1
  rw [nums10 k.hd, nums10 k.last]
  simp
  omega
theorem pg_hd (k : m.Ok) (i : Nat) (hi : i < 10) : (pgCells f m mb kb ov)[3 + i]? = (m.hd.nums.map iv)[i]? := by
  unfold pgCells
  rw [List.getElem?_append_right (by simp), List.getElem?_append_left (by rw [nums10 k.hd]; simp; omega)]
  congr 1
  simp
theorem pg_set (k : m.Ok) (i : Nat) (v : Value) : (pgCells f m mb kb ov).set (23 + i) v = [fsPtr f, .string dbN, .string logN] ++ (m.hd.nums.map iv ++ (m.last.nums.map iv ++ ([Value.map (some mb), .map (some kb), ov, .int .i64 (m.rd : Nat), .bool m.dead].set i v))) := by
  unfold pgCells
  rw [List.set_append_right _ _ (by simp; omega), List.set_append_right _ _ (by rw [nums10 k.hd]; simp; omega), List.set_append_right _ _ (by rw [nums10 k.hd, nums10 k.last]; simp; omega)]
  congr 4
  rw [nums10 k.hd, nums10 k.last]
  simp
  omega
end
theorem MemAt.inside {w : World} {p f : Nat} {m : Mm} {bl : List Nat} (h : MemAt w p f m bl) : ∀ b ∈ bl, b < w.heap.size := by
  obtain ⟨mb, kb, A, n, c, ob, rfl, hnd, hb, hm, hk, ⟨_, _, _, ho⟩, hok⟩ := h
  intro b hx
  rcases List.mem_cons.1 hx with rfl | hx
  · exact hb.inside
  · rcases List.mem_cons.1 hx with rfl | hx
    · exact hm.inside
    · rcases List.mem_cons.1 hx with rfl | hx
      · exact hk.inside
      · rcases ho with ⟨_, _, rfl⟩ | ⟨q, rest, _, rfl, hq, _⟩
        · cases hx
        · rw [List.mem_singleton] at hx; subst hx; exact hq.inside
theorem MemAt.keep {w w' : World} {p f : Nat} {m : Mm} {bl : List Nat} (h : MemAt w p f m bl) (hk : ∀ b ∈ bl, w'.heap[b]? = w.heap[b]?) : MemAt w' p f m bl := by
  obtain ⟨mb, kb, A, n, c, ob, rfl, hnd, hb, hm, hk', ho, hok⟩ := h
  exact ⟨mb, kb, A, n, c, ob, rfl, hnd, hb.old (hk p (by simp)), hm.old (hk mb (by simp)), hk'.old (hk kb (by simp)), ho.keep fun b hb => hk b (by simp [hb]), hok⟩
theorem MemAt.turn {w w' : World} {p f : Nat} {m : Mm} {bl S S' : List Nat} (h : MemAt w p f m bl) (k : VTurn S S' w w') (hS : ∀ b ∈ bl, b ∉ S) : MemAt w' p f m bl := h.keep fun b hb => k.block b (h.inside b hb) (hS b hb)
theorem MemAt.fresh {w w' : World} {p f : Nat} {m : Mm} {bl : List Nat} (h : MemAt w p f m bl) (k : Fresh w w') : MemAt w' p f m bl := h.keep fun b hb => k.block b (h.inside b hb)
theorem nd_of_map {P : Program} {k : TypeId} {w : World} {b : Nat} {l : List Ent} (h : MapOf P k w b (kvB l)) : EntNd l := by
  have := h.apart
  unfold kvB at this
  rw [List.pairwise_map] at this
  exact this.imp fun hne e => hne (by simp [Ent.kv, e])
theorem bk_cells {w : World} {g : Nat} {t : TypeId} : ∀ (vs cur : List Value) (off : Nat) (w : World), Bk w g t cur → off + vs.length ≤ cur.length → Bk (w.setCells g off vs) g t (splice cur off vs) ∧ But g w (w.setCells g off vs)
  | [], cur, off, w, h, hf => by
    refine ⟨?_, But.refl g w⟩
    have : splice cur off [] = cur := by simp [splice]
    rw [this]; exact h
  | v :: r, cur, off, w, h, hf => by
    have h1 := h.put off v
    have ih := bk_cells (w := w) r (cur.set off v) (off + 1) (w.setCell ⟨g, off, none⟩ v) h1 (by rw [List.length_set]; simp at hf; omega)
    have e : splice (cur.set off v) (off + 1) r = splice cur off (v :: r) := by
      unfold splice
      simp only [List.length_cons] at hf ⊢
      rw [List.drop_set_of_lt (by omega), show off + 1 + r.length = off + (r.length + 1) by omega]
      have : (cur.set off v).take (off + 1) = cur.take off ++ [v] := by
        rw [List.take_set, List.take_add_one, List.set_append_right _ _ (by rw [List.length_take]; omega)]
        rw [List.length_take, Nat.min_eq_left (by omega), Nat.sub_self, List.getElem?_eq_getElem (by omega)]
        rfl
      rw [this, List.append_assoc]
      rfl
    rw [e] at ih
    exact ⟨ih.1, (But.put w v).trans ih.2⟩
end Go.Proofs.YtcdehklcdipcfaaGreat.pgrp
