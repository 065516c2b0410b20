/-
  A row of bytes and a count behind one pointer; what a call may turn. My own text.
-/
import Derived.Test.YtlaecigjnknhoaaDoorBitsLeaf
import Derived.Deep.MidRow
import Derived.StillTailTactics
namespace Go.Proofs.YtlaecigjnknhoaaDoor.bitp
open Go.RowKit Go.Proofs.YtlaecigjnknhoaaDoor.base Go.Proofs.YtlaecigjnknhoaaDoor.num Go.Proofs.YtlaecigjnknhoaaDoor.bitnum
set_option linter.unusedVariables false

/-- of what was there only the blocks S have turned; S' are these, or new ones -/
structure Turn (S S' : List Nat) (w w' : World) : Prop where
  os : w'.os = w.os
  tape : w'.tape = w.tape
  output : w'.output = w.output
  size : w.heap.size ≤ w'.heap.size
  block : ∀ k, k < w.heap.size → k ∉ S → w'.heap[k]? = w.heap[k]?
  sub : ∀ k ∈ S', k ∈ S ∨ w.heap.size ≤ k

section
variable {S S' S'' T : List Nat} {a b c w w' : World}
theorem Turn.refl (S : List Nat) (w : World) : Turn S S w w := ⟨rfl, rfl, rfl, Nat.le_refl _, fun _ _ _ => rfl, fun _ h => .inl h⟩
theorem Turn.trans (h : Turn S S' a b) (k : Turn S' S'' b c) : Turn S S'' a c where
  os := k.os.trans h.os
  tape := k.tape.trans h.tape
  output := k.output.trans h.output
  size := Nat.le_trans h.size k.size
  block i hi hS := (k.block i (Nat.lt_of_lt_of_le hi h.size) (fun hS' => by rcases h.sub i hS' with h1 | h1; exact hS h1; omega)).trans (h.block i hi hS)
  sub i hi := by
    rcases k.sub i hi with h1 | h1
    · exact h.sub i h1
    · exact .inr (Nat.le_trans h.size h1)
theorem Turn.fresh (h : Fresh a b) : Turn S S a b := ⟨h.os, h.tape, h.output, h.size, fun k hk _ => h.block k hk, fun _ h => .inl h⟩
theorem Turn.but {g : Nat} (h : But g a b) (hg : g ∈ S) : Turn S S a b := ⟨h.os, h.tape, h.output, h.size, fun k hk hS => h.block k hk (fun e => by injection e with e; subst e; exact hS hg), fun _ h => .inl h⟩
theorem Turn.of_grown {row : Option Nat} (h : a.grownBy b row) (hr : ∀ g, row = some g → g ∈ S) : Turn S S a b := ⟨h.os, h.tape, h.output, h.size, fun k hk hS => h.block k hk (fun e => hS (hr k e.symm)), fun _ h => .inl h⟩
theorem Turn.to (h : Turn S S' a b) (hs : ∀ k ∈ S'', k ∈ S ∨ a.heap.size ≤ k) : Turn S S'' a b := { h with sub := hs }
theorem Turn.new (h : Turn S S' b c) (k : Fresh a b) (hS : ∀ i ∈ S, a.heap.size ≤ i) : Fresh a c :=
  ⟨h.os.trans k.os, h.tape.trans k.tape, h.output.trans k.output, Nat.le_trans k.size h.size, fun i hi => (h.block i (Nat.lt_of_lt_of_le hi k.size) (fun h' => by have := hS i h'; omega)).trans (k.block i hi)⟩
theorem Turn.new_sub (h : Turn S S' b c) (k : Fresh a b) (hS : ∀ i ∈ S, a.heap.size ≤ i) : ∀ i ∈ S', a.heap.size ≤ i := fun i hi => by
  rcases h.sub i hi with h1 | h1
  · exact hS i h1
  · have := k.size; omega
theorem Turn.apart (h : Turn S S' a b) {i : Nat} (hi : i < a.heap.size) (hS : i ∉ S) : i ∉ S' := fun h' => by
  rcases h.sub i h' with h1 | h1
  · exact hS h1
  · omega
end
/-- S is new since w, and nothing that was there has turned -/
def Since (w w' : World) (S : List Nat) : Prop := Fresh w w' ∧ ∀ i ∈ S, w.heap.size ≤ i
theorem Since.mk_ {w w' : World} {S : List Nat} (h : Fresh w w') (k : ∀ i ∈ S, w.heap.size ≤ i) : Since w w' S := ⟨h, k⟩
theorem Since.turn {w a b : World} {S S' : List Nat} (h : Since w a S) (k : Turn S S' a b) : Since w b S' := ⟨k.new h.1 h.2, k.new_sub h.1 h.2⟩
theorem Since.fresh {w a b : World} {S : List Nat} (h : Since w a S) (k : Fresh a b) : Since w b S := ⟨h.1.trans k, h.2⟩
theorem Since.grown {w a b : World} {S : List Nat} {row : Option Nat} (h : Since w a S) (k : a.grownBy b row) (hr : ∀ k, row = some k → w.heap.size ≤ k) : Since w b S :=
  ⟨⟨k.os.trans h.1.os, k.tape.trans h.1.tape, k.output.trans h.1.output, Nat.le_trans h.1.size k.size, fun i hi => (k.block i (Nat.lt_of_lt_of_le hi h.1.size) (fun e => by have := hr i e.symm; omega)).trans (h.1.block i hi)⟩, h.2⟩

/-- the blocks of a row -/
abbrev rb (A : Option Addr) (n c : Nat) : List Nat := (Value.slice A n c).ownBlock.toList
/-- the row of bytes bs and the count p lie at block g -/
def BufAt (T : TypeId) (w : World) (g : Nat) (bs : List UInt8) (p : Nat) (bl : List Nat) : Prop :=
  ∃ A c, bl = g :: rb A bs.length c ∧ (Value.slice A bs.length c).ownBlock ≠ some g ∧ Bk w g T [.slice A bs.length c, .int .i64 p] ∧ Own w 0 5 A bs.length c (bs.map bv)
theorem BufAt.keep {T : TypeId} {w w' : World} {g : Nat} {bs : List UInt8} {p : Nat} {bl : List Nat} (h : BufAt T w g bs p bl) (hk : ∀ b ∈ bl, w'.heap[b]? = w.heap[b]?) : BufAt T w' g bs p bl := by
  obtain ⟨A, c, rfl, hne, hb, ho⟩ := h
  refine ⟨A, c, rfl, hne, hb.old (hk g (by simp)), ⟨ho.1, ?_⟩⟩
  rcases ho.2 with h2 | ⟨q, cap, cur, hv, hb, hg, r⟩
  · exact .inl h2
  · refine .inr ⟨q, cap, cur, hv, hb, ?_, r⟩
    rw [hk q (by have : (Value.slice A bs.length c).ownBlock = some q := by rw [hv]; rfl
                 simp [rb, this])]
    exact hg
theorem BufAt.inside {T : TypeId} {w : World} {g : Nat} {bs : List UInt8} {p : Nat} {bl : List Nat} (h : BufAt T w g bs p bl) : ∀ b ∈ bl, b < w.heap.size := by
  obtain ⟨A, c, rfl, hne, hb, ho⟩ := h
  intro b hx
  rcases List.mem_cons.1 hx with rfl | hx
  · exact hb.inside
  · exact (World.ownsRow.lt ho b (by simpa using hx)).2
theorem BufAt.fresh {T : TypeId} {w w' : World} {g : Nat} {bs : List UInt8} {p : Nat} {bl : List Nat} (h : BufAt T w g bs p bl) (k : Fresh w w') : BufAt T w' g bs p bl := h.keep fun b hb => k.block b (h.inside b hb)
theorem BufAt.turn {T : TypeId} {S S' : List Nat} {w w' : World} {g : Nat} {bs : List UInt8} {p : Nat} {bl : List Nat} (h : BufAt T w g bs p bl) (k : Turn S S' w w') (hS : ∀ b ∈ bl, b ∉ S) : BufAt T w' g bs p bl :=
  h.keep fun b hb => k.block b (h.inside b hb) (hS b hb)
theorem BufAt.grown {T : TypeId} {w w' : World} {g : Nat} {bs : List UInt8} {p : Nat} {bl : List Nat} {row : Option Nat} (h : BufAt T w g bs p bl) (k : w.grownBy w' row) (hS : ∀ b ∈ bl, row ≠ some b) : BufAt T w' g bs p bl :=
  h.keep fun b hb => k.block b (h.inside b hb) fun e => hS b hb e.symm
theorem BufAt.pos {T : TypeId} {w w' : World} {g : Nat} {bs : List UInt8} {p : Nat} {bl : List Nat} (h : BufAt T w g bs p bl) : g ∈ bl := by obtain ⟨A, c, rfl, _⟩ := h; simp
theorem BufAt.cap {T : TypeId} {w : World} {g : Nat} {bs : List UInt8} {p : Nat} {bl : List Nat} (h : BufAt T w g bs p bl) : bs.length ≤ maxLen := by obtain ⟨A, c, rfl, hne, hb, ho⟩ := h; have := ho.cap; omega
/-- the count is set -/
theorem BufAt.set {T : TypeId} {w : World} {g : Nat} {bs : List UInt8} {p : Nat} {bl : List Nat} (h : BufAt T w g bs p bl) (q : Nat) : BufAt T (w.setCell ⟨g, 1, none⟩ (.int .i64 q)) g bs q bl ∧ Turn bl bl w (w.setCell ⟨g, 1, none⟩ (.int .i64 q)) := by
  obtain ⟨A, c, rfl, hne, hb, ho⟩ := h
  exact ⟨⟨A, c, rfl, hne, hb.put 1 _, ho.but (But.put _ _) hne⟩, Turn.but (But.put _ _) (by simp)⟩
/-- the row is set: it has grown -/
theorem BufAt.row {T : TypeId} {w w1 : World} {g : Nat} {bs bs' : List UInt8} {p : Nat} {A A' : Option Addr} {c c' : Nat} (hne : (Value.slice A bs.length c).ownBlock ≠ some g) (hb : Bk w g T [.slice A bs.length c, .int .i64 p]) (hT : T ≠ 5)
    (ho : Own w1 0 5 A' bs'.length c' (bs'.map bv)) (hg : w.grownBy w1 (Value.slice A bs.length c).ownBlock) (hs : rb A' bs'.length c' = rb A bs.length c ∨ ∀ b ∈ rb A' bs'.length c', w.heap.size ≤ b) :
    BufAt T (w1.setCell ⟨g, 0, none⟩ (.slice A' bs'.length c')) g bs' p (g :: rb A' bs'.length c') ∧ Turn (g :: rb A bs.length c) (g :: rb A' bs'.length c') w (w1.setCell ⟨g, 0, none⟩ (.slice A' bs'.length c')) := by
  have hb1 : Bk w1 g T [.slice A bs.length c, .int .i64 p] := hb.grown hg hne
  have hne1 := ho.ne_block hb1 (fun e => hT e.symm)
  refine ⟨⟨A', c', rfl, hne1, hb1.put 0 _, ho.but (But.put _ _) hne1⟩, ?_⟩
  have t1 : Turn (g :: rb A bs.length c) (g :: rb A bs.length c) w w1 := Turn.of_grown hg fun b hb => by simp [rb, hb]
  have t2 : Turn (g :: rb A bs.length c) (g :: rb A bs.length c) w1 (w1.setCell ⟨g, 0, none⟩ (.slice A' bs'.length c')) := Turn.but (But.put _ _) (by simp)
  refine (t1.trans t2).to fun k hk => ?_
  rcases List.mem_cons.1 hk with rfl | hk
  · exact .inl (by simp)
  · rcases hs with h | h
    · rw [h] at hk; exact .inl (by simp [hk])
    · exact .inr (h k hk)
/-- blocks of unlike element types are not one -/
theorem Own.ne_own {w : World} {base base' n n' c c' : Nat} {e e' : TypeId} {A A' : Option Addr} {xs xs' : List Value} (h : Own w base e A n c xs) (h' : Own w base' e' A' n' c' xs') (hne : e ≠ e') : ∀ b, (Value.slice A n c).ownBlock = some b → (Value.slice A' n' c').ownBlock ≠ some b := by
  intro b hb hb'
  rcases h.2 with ⟨hv, _⟩ | ⟨q, cap, cur, hv, _, hq, _⟩
  · rw [hv] at hb; cases hb
  · rcases h'.2 with ⟨hv', _⟩ | ⟨q', cap', cur', hv', _, hq', _⟩
    · rw [hv'] at hb'; cases hb'
    · rw [hv] at hb; rw [hv'] at hb'
      simp only [Value.ownBlock, Option.some.injEq] at hb hb'
      subst hb; subst hb'
      rw [hq] at hq'
      injection hq' with hq'
      injection hq' with _ ht
      exact hne ht
theorem BufAt.off {T : TypeId} {w : World} {g : Nat} {bs : List UInt8} {p : Nat} {bl : List Nat} (h : BufAt T w g bs p bl) {base n c : Nat} {e : TypeId} {A : Option Addr} {xs : List Value} (k : Own w base e A n c xs) (h1 : e ≠ T) (h2 : e ≠ 5) : ∀ b ∈ bl, (Value.slice A n c).ownBlock ≠ some b := by
  obtain ⟨A', c', rfl, hne, hb, ho⟩ := h
  intro b hx
  rcases List.mem_cons.1 hx with rfl | hx
  · exact k.ne_block hb h1
  · exact Own.ne_own ho k (fun e' => h2 e'.symm) b (by simpa using hx)
/-- a row that a call owns, beside the blocks S -/
theorem Own.turn {w w' : World} {base : Nat} {e : TypeId} {A : Option Addr} {n c : Nat} {xs : List Value} {S S' : List Nat} (h : Own w base e A n c xs) (k : Turn S S' w w') (hS : ∀ b ∈ S, (Value.slice A n c).ownBlock ≠ some b) : Own w' base e A n c xs := by
  refine ⟨h.1, ?_⟩
  rcases h.2 with h2 | ⟨g, cap, cur, hv, hb, hg, r⟩
  · exact .inl h2
  · refine .inr ⟨g, cap, cur, hv, hb, ?_, r⟩
    rw [k.block g (Array.getElem?_eq_some_iff.1 hg).1 (fun h' => hS g h' (by rw [hv]; rfl))]
    exact hg


section
variable {P : Program}
/-- 'append(own, src...)', src nil, empty or not; what is owned stays in its row or moves to the newest block -/
theorem run_append_rdx (w : World) (base : Nat) (t ty e : TypeId) (i : TypeInfo) (z : Value) (bytes : Nat) (ht : P.underlying t = some (.slice e)) (hi : P.info? e = some i) (hz : i.zero = some z)
    (hsize : i.size = 1) (hby : i.bytes = bytes) (hzs : z.cells.size = 1)
    (A : Option Addr) (n c : Nat) (xs : List Value) (hown : Own w base e A n c xs)
    (B : Nat) (D : Option Addr) (m d : Nat) (news : List Value) (hr : Rd w B D m news) (h1 : ∀ u ∈ news, u.oneCell' = true)
    (h63 : n + m ≤ maxLen) (hbytes : (n + m) * bytes ≤ 140737488355328) (hbase : base ≤ w.heap.size) :
    ∃ A' c' w', (Builtin.append_ #[t, t] ty #[.slice A n c, .slice D m d]).run P w = .ok (.slice A' (n + m) c') w' ∧ Own w' base e A' (n + m) c' (xs ++ news) ∧ w.grownBy w' (Value.slice A n c).ownBlock ∧ ((Value.slice A' (n + m) c').ownBlock = (Value.slice A n c).ownBlock ∨ (Value.slice A' (n + m) c').ownBlock = some w.heap.size) := by
  rcases D with _ | ad
  · have hm : m = 0 := by
      rcases Nat.eq_zero_or_pos m with h0 | h0
      · exact h0
      · obtain ⟨b, off, h, _⟩ := hr.2 h0
        cases h
    subst hm
    have hn : news = [] := List.eq_nil_of_length_eq_zero hr.1
    subst hn
    exact ⟨A, c, w, run_append_nothing w base t ty e i ht hi A n c xs hown d, by simpa using hown, World.grownBy.refl w _, .inl rfl⟩
  · have hcells : ∀ j u, news[j]? = some u → w.cell? (ad.add j) = some u := by
      intro j u hu
      rcases Nat.eq_zero_or_pos m with h0 | h0
      · subst h0
        have hn : news = [] := List.eq_nil_of_length_eq_zero hr.1
        subst hn
        simp at hu
      · obtain ⟨b, off, h, _, hc⟩ := hr.2 h0
        injection h with h
        subst h
        have hadd : (⟨b, off, none⟩ : Addr).add j = ⟨b, off + j, none⟩ := by unfold Addr.add; split <;> simp_all
        rw [hadd]
        exact hc j u hu
    obtain ⟨v', w', hrun, h2, h3, _, h5⟩ := run_append_own_at (P := P) w base t ty e i z 1 bytes ht hi hz hsize hby hzs (by omega) (.slice A n c) n xs hown ad m d news (by simpa using hr.1) hcells h1 h63 hbytes hbase
    have hform : ∃ A' c', v' = .slice A' (n + m) c' := by
      rcases h2.2 with ⟨hv, hn⟩ | ⟨g, cap, cur, hv, _⟩
      · exact ⟨none, 0, by rw [hv, hn]⟩
      · exact ⟨_, cap, hv⟩
    obtain ⟨A', c', rfl⟩ := hform
    exact ⟨A', c', w', hrun, h2, h3, h5⟩

theorem wp_append_rdx (w : World) {o : Oper} {a : Act} {K : Act → World → Prop} {Q : Exit → Act → World → Prop} (s x : Operand) (t : TypeId)
    (ho : o.op = .call { callee := .builtin .append, args := #[s, x], argTypes := #[t, t] })
    (base : Nat) (e : TypeId) (i : TypeInfo) (z : Value) (bytes : Nat) (ht : P.underlying t = some (.slice e)) (hi : P.info? e = some i) (hz : i.zero = some z)
    (hsize : i.size = 1) (hby : i.bytes = bytes) (hzs : z.cells.size = 1)
    (A : Option Addr) (n c : Nat) (xs : List Value) (hs : a.eval s = .slice A n c) (hown : Own w base e A n c xs)
    (B : Nat) (D : Option Addr) (m d : Nat) (news : List Value) (hx : a.eval x = .slice D m d) (hr : Rd w B D m news) (h1 : ∀ u ∈ news, u.oneCell' = true)
    (h63 : n + m ≤ maxLen) (hbytes : (n + m) * bytes ≤ 140737488355328) (hbase : base ≤ w.heap.size)
    (h : ∀ A' c' w', Own w' base e A' (n + m) c' (xs ++ news) → w.grownBy w' (Value.slice A n c).ownBlock → ((Value.slice A' (n + m) c').ownBlock = (Value.slice A n c).ownBlock ∨ (Value.slice A' (n + m) c').ownBlock = some w.heap.size) → K (a.put o.dst (.slice A' (n + m) c')) w') : o.wp P a w K Q := by
  obtain ⟨A', c', w', hrun, h2, h3, h5⟩ := run_append_rdx (P := P) w base t o.type e i z bytes ht hi hz hsize hby hzs A n c xs hown B D m d news hr h1 h63 hbytes hbase
  unfold Oper.wp execOp
  simp only [ho, resolve, invoke, builtin, Sem.run_bind, Sem.run_pure, Result.andThen_ok, List.map_toArray, List.map_cons, List.map_nil, hs, hx, hrun]
  exact h A' c' w' h2 h3 h5

theorem wpList_append_rdx (w : World) {ops : Array Oper} {rest : List Oper} {o : Oper} {a : Act} {Q : Exit → Act → World → Prop} (hgd : o.guard = none) (s x : Operand) (t : TypeId)
    (ho : o.op = .call { callee := .builtin .append, args := #[s, x], argTypes := #[t, t] })
    (base : Nat) (e : TypeId) (i : TypeInfo) (z : Value) (bytes : Nat) (ht : P.underlying t = some (.slice e)) (hi : P.info? e = some i) (hz : i.zero = some z)
    (hsize : i.size = 1) (hby : i.bytes = bytes) (hzs : z.cells.size = 1)
    (A : Option Addr) (n c : Nat) (xs : List Value) (hs : a.eval s = .slice A n c) (hown : Own w base e A n c xs)
    (B : Nat) (D : Option Addr) (m d : Nat) (news : List Value) (hx : a.eval x = .slice D m d) (hr : Rd w B D m news) (h1 : ∀ u ∈ news, u.oneCell' = true)
    (h63 : n + m ≤ maxLen) (hbytes : (n + m) * bytes ≤ 140737488355328) (hbase : base ≤ w.heap.size)
    (h : ∀ A' c' w', Own w' base e A' (n + m) c' (xs ++ news) → w.grownBy w' (Value.slice A n c).ownBlock → ((Value.slice A' (n + m) c').ownBlock = (Value.slice A n c).ownBlock ∨ (Value.slice A' (n + m) c').ownBlock = some w.heap.size) → wpList P ops Q rest (a.put o.dst (.slice A' (n + m) c')) w') : wpList P ops Q (o :: rest) a w :=
  wpList_plain hgd fun _ hK => wp_append_rdx w s x t ho base e i z bytes ht hi hz hsize hby hzs A n c xs hs hown B D m d news hx hr h1 h63 hbytes hbase fun A' c' w' h2 h3 h5 => hK _ _ (h A' c' w' h2 h3 h5)

end

abbrev tRdr : TypeId := 126
abbrev tWtr : TypeId := 118
abbrev RdrAt (w : World) (g : Nat) (bs : List UInt8) (p : Nat) (bl : List Nat) : Prop := BufAt tRdr w g bs p bl
abbrev ptr (g : Nat) : Value := .pointer (some ⟨g, 0, none⟩)
end Go.Proofs.YtlaecigjnknhoaaDoor.bitp
