import Derived.Test.YtppgceighgpgoaaGreatDoorMgNum
import Derived.Test.YtppgceighgpgoaaGreatDoorMgBse
import Derived.Test.YtppgceighgpgoaaGreatDoorChecked
import Derived.BigQuiet
import Derived.Deep.QuietTactic
import Derived.Deep.MidRow
import Derived.StillTailTactics
import Derived.Great.BuildSlice
import Derived.BigRegion
import Derived.Deep.RegionWith
/- Several of my own texts, one behind the other. -/
/-
  The contracts of layer 4's small functions: held, lowest, turned; the reference's Held, Number, Low, High, Bits, Bytes. My own text.
-/
namespace Go.Proofs.YtppgceighgpgoaaGreatDoor.bitp
open Go.RowKit Go.Proofs.YtppgceighgpgoaaGreatDoor.base Go.Proofs.YtppgceighgpgoaaGreatDoor.num Go.Proofs.YtppgceighgpgoaaGreatDoor.bitnum
set_option linter.unusedVariables false

theorem ret_i64 {a b : Int} (h : a = b) : Ending.returned (.int .i64 a) = .returned (.int .i64 b) := by rw [h]

theorem held_any (x : Int) (w : World) : Calls Tryz.prog 48 #[.int .i64 x] w fun e w' => e = .returned (.int .i64 (held x)) ∧ w = w' := by
  by_cases h1 : x < 0
  · go_enter Tryz.func48, Tryz.ntmps48
    go_wp2
    go_ret
    exact ⟨ret_i64 (held_lo h1), rfl⟩
  · by_cases h7 : 24 < x
    · go_enter Tryz.func48, Tryz.ntmps48
      go_wp2
      go_ret
      exact ⟨ret_i64 (held_hi h7), rfl⟩
    · go_enter Tryz.func48, Tryz.ntmps48
      go_wp2
      all_goals go_ret
      all_goals exact ⟨ret_i64 (by have := held_mid (z := x) (by omega) (by omega); omega), rfl⟩

theorem lowest_any (n : Nat) (v : Int) (w : World) (hn : n ≤ 24) : Calls Tryz.prog 50 #[.int .i64 n, .int .i64 v] w fun e w' => e = .returned (.int .i64 (u64 v % 2 ^ n : Nat)) ∧ w = w' := by
  have hp := pow24 hn
  have e1 : wrap64 (wrap64 (2 ^ n) - 1) = 2 ^ n - 1 := by
    rw [pow2i]
    generalize 2 ^ n = p at hp
    rw [IntWalk.wrap64_in (p : Int) ⟨by omega, by omega⟩, IntWalk.wrap64_in ((p : Int) - 1) ⟨by omega, by omega⟩]
  have e2 := and_mask v n (by omega)
  go_enter Tryz.func50, Tryz.ntmps50
  go_wp2
  go_ret
  exact ⟨ret_i64 (by simp), rfl⟩

theorem turned_any (n : Nat) (v : Int) (w : World) (hn : n ≤ 24) :
    Calls Tryz.prog 73 #[.int .i64 n, .int .i64 v] w fun e w' => e = .returned (.int .i64 (rev n (u64 v) : Nat)) ∧ w = w' := by
  go_enter Tryz.func73, Tryz.ntmps73
  go_wp2
  go_loopw [1, 5, 7] (fun a b i wr => ∃ (k q : Nat) (z : Int), k ≤ n ∧ i = .int .i64 k ∧ a = .int .i64 z ∧ Hid (z = v / 2 ^ k) ∧ b = .int .i64 q ∧ Hid (q = rev k (u64 v)) ∧ q < 16777216 ∧ wr = w) (fun _ _ i _ => n - (intOf i).toNat)
  case atStart => exact ⟨0, 0, v, by omega, rfl, rfl, by simp [Hid], rfl, rfl, by omega, rfl⟩
  case round =>
    obtain ⟨k, q, z, hk, rfl, rfl, hz, rfl, hq, hql, rfl⟩ := hrel
    by_cases hlt : k < n
    · obtain ⟨b, hb⟩ : ∃ b : Nat, u64 v / 2 ^ k % 2 = b := ⟨_, rfl⟩
      have hb2 : b < 2 := by omega
      have h1 : bits .and .i64 z 1 = (b : Int) := by rw [and_one, hz.out, bit_of v k (by omega), hb]
      have h2 := or_bit q b (by omega) hb2
      rw [Int.mul_comm 2 (q : Int)] at h2
      have hr : Hid (2 * q + b = rev (k + 1) (u64 v)) := by show _ = _; rw [rev, hq.out, hb]
      have hr2 : 2 * q + b < 16777216 := by
        have := rev_lt (k + 1) (u64 v)
        have := (pow24 (k := k + 1) (by omega)).2
        have := hr.out
        omega
      have hz2 : Hid (z / 2 = v / 2 ^ (k + 1)) := by
        show _ = _
        rw [hz.out, Int.pow_succ, Int.ediv_ediv_of_nonneg]
        exact Int.le_of_lt (Int.pow_pos (by omega))
      have HB := Lib.hid hb
      clear hb
      go_wp2
      go_roundw
      case rel => exact ⟨k + 1, 2 * q + b, z / 2, by omega, by go_num, by go_num, hz2, by go_num, hr, hr2, trivial⟩
      case measure => simp [intOf]; omega
    · have h0 : k = n := by omega
      subst h0
      go_wp2
      go_ret
      exact ⟨ret_i64 (by rw [hq.out]), rfl⟩
theorem info_int : (Tryz.prog.info? 3).map (fun i => (i.zero, i.size, i.bytes)) = some (some (.int .i64 0), 1, 8) := by kernel_rfl
end Go.Proofs.YtppgceighgpgoaaGreatDoor.bitp
/-
  A row of bytes and a count behind one pointer; what a call may turn. My own text.
-/
namespace Go.Proofs.YtppgceighgpgoaaGreatDoor.bitp
open Go.RowKit Go.Proofs.YtppgceighgpgoaaGreatDoor.base Go.Proofs.YtppgceighgpgoaaGreatDoor.num Go.Proofs.YtppgceighgpgoaaGreatDoor.bitnum
set_option linter.unusedVariables false

/-- of what was there only the blocks S have turned; S' are these, or new ones -/
structure Turn (S S' : List Nat) (w w' : World) : Prop where
  os : w'.os = w.os
  tape : w'.tape = w.tape
  output : w'.output = w.output
  size : w.heap.size ≤ w'.heap.size
  block : ∀ k, k < w.heap.size → k ∉ S → w'.heap[k]? = w.heap[k]?
  sub : ∀ k ∈ S', k ∈ S ∨ w.heap.size ≤ k

section
variable {S S' S'' T : List Nat} {a b c w w' : World}
theorem Turn.refl (S : List Nat) (w : World) : Turn S S w w := ⟨rfl, rfl, rfl, Nat.le_refl _, fun _ _ _ => rfl, fun _ h => .inl h⟩
theorem Turn.trans (h : Turn S S' a b) (k : Turn S' S'' b c) : Turn S S'' a c where
  os := k.os.trans h.os
  tape := k.tape.trans h.tape
  output := k.output.trans h.output
  size := Nat.le_trans h.size k.size
  block i hi hS := (k.block i (Nat.lt_of_lt_of_le hi h.size) (fun hS' => by rcases h.sub i hS' with h1 | h1; exact hS h1; omega)).trans (h.block i hi hS)
  sub i hi := by
    rcases k.sub i hi with h1 | h1
    · exact h.sub i h1
    · exact .inr (Nat.le_trans h.size h1)
theorem Turn.fresh (h : Fresh a b) : Turn S S a b := ⟨h.os, h.tape, h.output, h.size, fun k hk _ => h.block k hk, fun _ h => .inl h⟩
theorem Turn.but {g : Nat} (h : But g a b) (hg : g ∈ S) : Turn S S a b := ⟨h.os, h.tape, h.output, h.size, fun k hk hS => h.block k hk (fun e => by injection e with e; subst e; exact hS hg), fun _ h => .inl h⟩
theorem Turn.of_grown {row : Option Nat} (h : a.grownBy b row) (hr : ∀ g, row = some g → g ∈ S) : Turn S S a b := ⟨h.os, h.tape, h.output, h.size, fun k hk hS => h.block k hk (fun e => hS (hr k e.symm)), fun _ h => .inl h⟩
theorem Turn.to (h : Turn S S' a b) (hs : ∀ k ∈ S'', k ∈ S ∨ a.heap.size ≤ k) : Turn S S'' a b := { h with sub := hs }
theorem Turn.new (h : Turn S S' b c) (k : Fresh a b) (hS : ∀ i ∈ S, a.heap.size ≤ i) : Fresh a c :=
  ⟨h.os.trans k.os, h.tape.trans k.tape, h.output.trans k.output, Nat.le_trans k.size h.size, fun i hi => (h.block i (Nat.lt_of_lt_of_le hi k.size) (fun h' => by have := hS i h'; omega)).trans (k.block i hi)⟩
theorem Turn.new_sub (h : Turn S S' b c) (k : Fresh a b) (hS : ∀ i ∈ S, a.heap.size ≤ i) : ∀ i ∈ S', a.heap.size ≤ i := fun i hi => by
  rcases h.sub i hi with h1 | h1
  · exact hS i h1
  · have := k.size; omega
theorem Turn.apart (h : Turn S S' a b) {i : Nat} (hi : i < a.heap.size) (hS : i ∉ S) : i ∉ S' := fun h' => by
  rcases h.sub i h' with h1 | h1
  · exact hS h1
  · omega
end
/-- S is new since w, and nothing that was there has turned -/
def Since (w w' : World) (S : List Nat) : Prop := Fresh w w' ∧ ∀ i ∈ S, w.heap.size ≤ i
theorem Since.mk_ {w w' : World} {S : List Nat} (h : Fresh w w') (k : ∀ i ∈ S, w.heap.size ≤ i) : Since w w' S := ⟨h, k⟩
theorem Since.turn {w a b : World} {S S' : List Nat} (h : Since w a S) (k : Turn S S' a b) : Since w b S' := ⟨k.new h.1 h.2, k.new_sub h.1 h.2⟩
theorem Since.fresh {w a b : World} {S : List Nat} (h : Since w a S) (k : Fresh a b) : Since w b S := ⟨h.1.trans k, h.2⟩
theorem Since.grown {w a b : World} {S : List Nat} {row : Option Nat} (h : Since w a S) (k : a.grownBy b row) (hr : ∀ k, row = some k → w.heap.size ≤ k) : Since w b S :=
  ⟨⟨k.os.trans h.1.os, k.tape.trans h.1.tape, k.output.trans h.1.output, Nat.le_trans h.1.size k.size, fun i hi => (k.block i (Nat.lt_of_lt_of_le hi h.1.size) (fun e => by have := hr i e.symm; omega)).trans (h.1.block i hi)⟩, h.2⟩

/-- the blocks of a row -/
abbrev rb (A : Option Addr) (n c : Nat) : List Nat := (Value.slice A n c).ownBlock.toList
/-- the row of bytes bs and the count p lie at block g -/
def BufAt (T : TypeId) (w : World) (g : Nat) (bs : List UInt8) (p : Nat) (bl : List Nat) : Prop :=
  ∃ A c, bl = g :: rb A bs.length c ∧ (Value.slice A bs.length c).ownBlock ≠ some g ∧ Bk w g T [.slice A bs.length c, .int .i64 p] ∧ Own w 0 5 A bs.length c (bs.map bv)
theorem BufAt.keep {T : TypeId} {w w' : World} {g : Nat} {bs : List UInt8} {p : Nat} {bl : List Nat} (h : BufAt T w g bs p bl) (hk : ∀ b ∈ bl, w'.heap[b]? = w.heap[b]?) : BufAt T w' g bs p bl := by
  obtain ⟨A, c, rfl, hne, hb, ho⟩ := h
  refine ⟨A, c, rfl, hne, hb.old (hk g (by simp)), ⟨ho.1, ?_⟩⟩
  rcases ho.2 with h2 | ⟨q, cap, cur, hv, hb, hg, r⟩
  · exact .inl h2
  · refine .inr ⟨q, cap, cur, hv, hb, ?_, r⟩
    rw [hk q (by have : (Value.slice A bs.length c).ownBlock = some q := by rw [hv]; rfl
                 simp [rb, this])]
    exact hg
theorem BufAt.inside {T : TypeId} {w : World} {g : Nat} {bs : List UInt8} {p : Nat} {bl : List Nat} (h : BufAt T w g bs p bl) : ∀ b ∈ bl, b < w.heap.size := by
  obtain ⟨A, c, rfl, hne, hb, ho⟩ := h
  intro b hx
  rcases List.mem_cons.1 hx with rfl | hx
  · exact hb.inside
  · exact (World.ownsRow.lt ho b (by simpa using hx)).2
theorem BufAt.fresh {T : TypeId} {w w' : World} {g : Nat} {bs : List UInt8} {p : Nat} {bl : List Nat} (h : BufAt T w g bs p bl) (k : Fresh w w') : BufAt T w' g bs p bl := h.keep fun b hb => k.block b (h.inside b hb)
theorem BufAt.turn {T : TypeId} {S S' : List Nat} {w w' : World} {g : Nat} {bs : List UInt8} {p : Nat} {bl : List Nat} (h : BufAt T w g bs p bl) (k : Turn S S' w w') (hS : ∀ b ∈ bl, b ∉ S) : BufAt T w' g bs p bl :=
  h.keep fun b hb => k.block b (h.inside b hb) (hS b hb)
theorem BufAt.grown {T : TypeId} {w w' : World} {g : Nat} {bs : List UInt8} {p : Nat} {bl : List Nat} {row : Option Nat} (h : BufAt T w g bs p bl) (k : w.grownBy w' row) (hS : ∀ b ∈ bl, row ≠ some b) : BufAt T w' g bs p bl :=
  h.keep fun b hb => k.block b (h.inside b hb) fun e => hS b hb e.symm
theorem BufAt.pos {T : TypeId} {w w' : World} {g : Nat} {bs : List UInt8} {p : Nat} {bl : List Nat} (h : BufAt T w g bs p bl) : g ∈ bl := by obtain ⟨A, c, rfl, _⟩ := h; simp
theorem BufAt.cap {T : TypeId} {w : World} {g : Nat} {bs : List UInt8} {p : Nat} {bl : List Nat} (h : BufAt T w g bs p bl) : bs.length ≤ maxLen := by obtain ⟨A, c, rfl, hne, hb, ho⟩ := h; have := ho.cap; omega
/-- the count is set -/
theorem BufAt.set {T : TypeId} {w : World} {g : Nat} {bs : List UInt8} {p : Nat} {bl : List Nat} (h : BufAt T w g bs p bl) (q : Nat) : BufAt T (w.setCell ⟨g, 1, none⟩ (.int .i64 q)) g bs q bl ∧ Turn bl bl w (w.setCell ⟨g, 1, none⟩ (.int .i64 q)) := by
  obtain ⟨A, c, rfl, hne, hb, ho⟩ := h
  exact ⟨⟨A, c, rfl, hne, hb.put 1 _, ho.but (But.put _ _) hne⟩, Turn.but (But.put _ _) (by simp)⟩
/-- the row is set: it has grown -/
theorem BufAt.row {T : TypeId} {w w1 : World} {g : Nat} {bs bs' : List UInt8} {p : Nat} {A A' : Option Addr} {c c' : Nat} (hne : (Value.slice A bs.length c).ownBlock ≠ some g) (hb : Bk w g T [.slice A bs.length c, .int .i64 p]) (hT : T ≠ 5)
    (ho : Own w1 0 5 A' bs'.length c' (bs'.map bv)) (hg : w.grownBy w1 (Value.slice A bs.length c).ownBlock) (hs : rb A' bs'.length c' = rb A bs.length c ∨ ∀ b ∈ rb A' bs'.length c', w.heap.size ≤ b) :
    BufAt T (w1.setCell ⟨g, 0, none⟩ (.slice A' bs'.length c')) g bs' p (g :: rb A' bs'.length c') ∧ Turn (g :: rb A bs.length c) (g :: rb A' bs'.length c') w (w1.setCell ⟨g, 0, none⟩ (.slice A' bs'.length c')) := by
  have hb1 : Bk w1 g T [.slice A bs.length c, .int .i64 p] := hb.grown hg hne
  have hne1 := ho.ne_block hb1 (fun e => hT e.symm)
  refine ⟨⟨A', c', rfl, hne1, hb1.put 0 _, ho.but (But.put _ _) hne1⟩, ?_⟩
  have t1 : Turn (g :: rb A bs.length c) (g :: rb A bs.length c) w w1 := Turn.of_grown hg fun b hb => by simp [rb, hb]
  have t2 : Turn (g :: rb A bs.length c) (g :: rb A bs.length c) w1 (w1.setCell ⟨g, 0, none⟩ (.slice A' bs'.length c')) := Turn.but (But.put _ _) (by simp)
  refine (t1.trans t2).to fun k hk => ?_
  rcases List.mem_cons.1 hk with rfl | hk
  · exact .inl (by simp)
  · rcases hs with h | h
    · rw [h] at hk; exact .inl (by simp [hk])
    · exact .inr (h k hk)
/-- blocks of unlike element types are not one -/
theorem Own.ne_own {w : World} {base base' n n' c c' : Nat} {e e' : TypeId} {A A' : Option Addr} {xs xs' : List Value} (h : Own w base e A n c xs) (h' : Own w base' e' A' n' c' xs') (hne : e ≠ e') : ∀ b, (Value.slice A n c).ownBlock = some b → (Value.slice A' n' c').ownBlock ≠ some b := by
  intro b hb hb'
  rcases h.2 with ⟨hv, _⟩ | ⟨q, cap, cur, hv, _, hq, _⟩
  · rw [hv] at hb; cases hb
  · rcases h'.2 with ⟨hv', _⟩ | ⟨q', cap', cur', hv', _, hq', _⟩
    · rw [hv'] at hb'; cases hb'
    · rw [hv] at hb; rw [hv'] at hb'
      simp only [Value.ownBlock, Option.some.injEq] at hb hb'
      subst hb; subst hb'
      rw [hq] at hq'
      injection hq' with hq'
      injection hq' with _ ht
      exact hne ht
theorem BufAt.off {T : TypeId} {w : World} {g : Nat} {bs : List UInt8} {p : Nat} {bl : List Nat} (h : BufAt T w g bs p bl) {base n c : Nat} {e : TypeId} {A : Option Addr} {xs : List Value} (k : Own w base e A n c xs) (h1 : e ≠ T) (h2 : e ≠ 5) : ∀ b ∈ bl, (Value.slice A n c).ownBlock ≠ some b := by
  obtain ⟨A', c', rfl, hne, hb, ho⟩ := h
  intro b hx
  rcases List.mem_cons.1 hx with rfl | hx
  · exact k.ne_block hb h1
  · exact Own.ne_own ho k (fun e' => h2 e'.symm) b (by simpa using hx)
/-- a row that a call owns, beside the blocks S -/
theorem Own.turn {w w' : World} {base : Nat} {e : TypeId} {A : Option Addr} {n c : Nat} {xs : List Value} {S S' : List Nat} (h : Own w base e A n c xs) (k : Turn S S' w w') (hS : ∀ b ∈ S, (Value.slice A n c).ownBlock ≠ some b) : Own w' base e A n c xs := by
  refine ⟨h.1, ?_⟩
  rcases h.2 with h2 | ⟨g, cap, cur, hv, hb, hg, r⟩
  · exact .inl h2
  · refine .inr ⟨g, cap, cur, hv, hb, ?_, r⟩
    rw [k.block g (Array.getElem?_eq_some_iff.1 hg).1 (fun h' => hS g h' (by rw [hv]; rfl))]
    exact hg


section
variable {P : Program}
/-- 'append(own, src...)', src nil, empty or not; what is owned stays in its row or moves to the newest block -/
theorem run_append_rdx (w : World) (base : Nat) (t ty e : TypeId) (i : TypeInfo) (z : Value) (bytes : Nat) (ht : P.underlying t = some (.slice e)) (hi : P.info? e = some i) (hz : i.zero = some z)
    (hsize : i.size = 1) (hby : i.bytes = bytes) (hzs : z.cells.size = 1)
    (A : Option Addr) (n c : Nat) (xs : List Value) (hown : Own w base e A n c xs)
    (B : Nat) (D : Option Addr) (m d : Nat) (news : List Value) (hr : Rd w B D m news) (h1 : ∀ u ∈ news, u.oneCell' = true)
    (h63 : n + m ≤ maxLen) (hbytes : (n + m) * bytes ≤ 140737488355328) (hbase : base ≤ w.heap.size) :
    ∃ A' c' w', (Builtin.append_ #[t, t] ty #[.slice A n c, .slice D m d]).run P w = .ok (.slice A' (n + m) c') w' ∧ Own w' base e A' (n + m) c' (xs ++ news) ∧ w.grownBy w' (Value.slice A n c).ownBlock ∧ ((Value.slice A' (n + m) c').ownBlock = (Value.slice A n c).ownBlock ∨ (Value.slice A' (n + m) c').ownBlock = some w.heap.size) := by
  rcases D with _ | ad
  · have hm : m = 0 := by
      rcases Nat.eq_zero_or_pos m with h0 | h0
      · exact h0
      · obtain ⟨b, off, h, _⟩ := hr.2 h0
        cases h
    subst hm
    have hn : news = [] := List.eq_nil_of_length_eq_zero hr.1
    subst hn
    exact ⟨A, c, w, run_append_nothing w base t ty e i ht hi A n c xs hown d, by simpa using hown, World.grownBy.refl w _, .inl rfl⟩
  · have hcells : ∀ j u, news[j]? = some u → w.cell? (ad.add j) = some u := by
      intro j u hu
      rcases Nat.eq_zero_or_pos m with h0 | h0
      · subst h0
        have hn : news = [] := List.eq_nil_of_length_eq_zero hr.1
        subst hn
        simp at hu
      · obtain ⟨b, off, h, _, hc⟩ := hr.2 h0
        injection h with h
        subst h
        have hadd : (⟨b, off, none⟩ : Addr).add j = ⟨b, off + j, none⟩ := by unfold Addr.add; split <;> simp_all
        rw [hadd]
        exact hc j u hu
    obtain ⟨v', w', hrun, h2, h3, _, h5⟩ := run_append_own_at (P := P) w base t ty e i z 1 bytes ht hi hz hsize hby hzs (by omega) (.slice A n c) n xs hown ad m d news (by simpa using hr.1) hcells h1 h63 hbytes hbase
    have hform : ∃ A' c', v' = .slice A' (n + m) c' := by
      rcases h2.2 with ⟨hv, hn⟩ | ⟨g, cap, cur, hv, _⟩
      · exact ⟨none, 0, by rw [hv, hn]⟩
      · exact ⟨_, cap, hv⟩
    obtain ⟨A', c', rfl⟩ := hform
    exact ⟨A', c', w', hrun, h2, h3, h5⟩

theorem wp_append_rdx (w : World) {o : Oper} {a : Act} {K : Act → World → Prop} {Q : Exit → Act → World → Prop} (s x : Operand) (t : TypeId)
    (ho : o.op = .call { callee := .builtin .append, args := #[s, x], argTypes := #[t, t] })
    (base : Nat) (e : TypeId) (i : TypeInfo) (z : Value) (bytes : Nat) (ht : P.underlying t = some (.slice e)) (hi : P.info? e = some i) (hz : i.zero = some z)
    (hsize : i.size = 1) (hby : i.bytes = bytes) (hzs : z.cells.size = 1)
    (A : Option Addr) (n c : Nat) (xs : List Value) (hs : a.eval s = .slice A n c) (hown : Own w base e A n c xs)
    (B : Nat) (D : Option Addr) (m d : Nat) (news : List Value) (hx : a.eval x = .slice D m d) (hr : Rd w B D m news) (h1 : ∀ u ∈ news, u.oneCell' = true)
    (h63 : n + m ≤ maxLen) (hbytes : (n + m) * bytes ≤ 140737488355328) (hbase : base ≤ w.heap.size)
    (h : ∀ A' c' w', Own w' base e A' (n + m) c' (xs ++ news) → w.grownBy w' (Value.slice A n c).ownBlock → ((Value.slice A' (n + m) c').ownBlock = (Value.slice A n c).ownBlock ∨ (Value.slice A' (n + m) c').ownBlock = some w.heap.size) → K (a.put o.dst (.slice A' (n + m) c')) w') : o.wp P a w K Q := by
  obtain ⟨A', c', w', hrun, h2, h3, h5⟩ := run_append_rdx (P := P) w base t o.type e i z bytes ht hi hz hsize hby hzs A n c xs hown B D m d news hr h1 h63 hbytes hbase
  unfold Oper.wp execOp
  simp only [ho, resolve, invoke, builtin, Sem.run_bind, Sem.run_pure, Result.andThen_ok, List.map_toArray, List.map_cons, List.map_nil, hs, hx, hrun]
  exact h A' c' w' h2 h3 h5

theorem wpList_append_rdx (w : World) {ops : Array Oper} {rest : List Oper} {o : Oper} {a : Act} {Q : Exit → Act → World → Prop} (hgd : o.guard = none) (s x : Operand) (t : TypeId)
    (ho : o.op = .call { callee := .builtin .append, args := #[s, x], argTypes := #[t, t] })
    (base : Nat) (e : TypeId) (i : TypeInfo) (z : Value) (bytes : Nat) (ht : P.underlying t = some (.slice e)) (hi : P.info? e = some i) (hz : i.zero = some z)
    (hsize : i.size = 1) (hby : i.bytes = bytes) (hzs : z.cells.size = 1)
    (A : Option Addr) (n c : Nat) (xs : List Value) (hs : a.eval s = .slice A n c) (hown : Own w base e A n c xs)
    (B : Nat) (D : Option Addr) (m d : Nat) (news : List Value) (hx : a.eval x = .slice D m d) (hr : Rd w B D m news) (h1 : ∀ u ∈ news, u.oneCell' = true)
    (h63 : n + m ≤ maxLen) (hbytes : (n + m) * bytes ≤ 140737488355328) (hbase : base ≤ w.heap.size)
    (h : ∀ A' c' w', Own w' base e A' (n + m) c' (xs ++ news) → w.grownBy w' (Value.slice A n c).ownBlock → ((Value.slice A' (n + m) c').ownBlock = (Value.slice A n c).ownBlock ∨ (Value.slice A' (n + m) c').ownBlock = some w.heap.size) → wpList P ops Q rest (a.put o.dst (.slice A' (n + m) c')) w') : wpList P ops Q (o :: rest) a w :=
  wpList_plain hgd fun _ hK => wp_append_rdx w s x t ho base e i z bytes ht hi hz hsize hby hzs A n c xs hs hown B D m d news hx hr h1 h63 hbytes hbase fun A' c' w' h2 h3 h5 => hK _ _ (h A' c' w' h2 h3 h5)

end

abbrev tRdr : TypeId := 146
abbrev tWtr : TypeId := 106
abbrev RdrAt (w : World) (g : Nat) (bs : List UInt8) (p : Nat) (bl : List Nat) : Prop := BufAt tRdr w g bs p bl
abbrev ptr (g : Nat) : Value := .pointer (some ⟨g, 0, none⟩)
end Go.Proofs.YtppgceighgpgoaaGreatDoor.bitp
/-
  The contracts of bits.Reader: Read, Add, Has, Bits, Peek, Align, Left, Mark, Back. My own text.
-/
namespace Go.Proofs.YtppgceighgpgoaaGreatDoor.bitp
open Go.RowKit Go.Proofs.YtppgceighgpgoaaGreatDoor.base Go.Proofs.YtppgceighgpgoaaGreatDoor.num Go.Proofs.YtppgceighgpgoaaGreatDoor.bitnum
set_option linter.unusedVariables false

theorem ret_bool {a b : Bool} (h : a = b) : Ending.returned (.bool a) = .returned (.bool b) := by rw [h]

theorem left_any (g : Nat) (bs : List UInt8) (p : Nat) (bl : List Nat) (w : World) (h : RdrAt w g bs p bl) (hp : p ≤ 8 * bs.length) (hn : bs.length ≤ 1099511627776) :
    Calls Tryz.prog 97 #[ptr g] w fun e w' => e = .returned (.int .i64 (8 * bs.length - p : Nat)) ∧ Fresh w w' := by
  obtain ⟨A, c, rfl, hne, hb, ho⟩ := h
  have h0 : w.cell? ⟨g, 0, none⟩ = some (.slice A bs.length c) := hb.cell rfl
  have h1 : w.cell? ⟨g, 1, none⟩ = some (.int .i64 p) := hb.cell rfl
  go_enter Tryz.func97, Tryz.ntmps97
  go_wp2
  go_quiet (fail)
  go_wp2
  go_ret
  exact ⟨ret_i64 (by omega), Fresh.drewN _ _⟩

theorem mark_any (g : Nat) (bs : List UInt8) (p : Nat) (bl : List Nat) (w : World) (h : RdrAt w g bs p bl) :
    Calls Tryz.prog 74 #[ptr g] w fun e w' => e = .returned (.int .i64 p) ∧ w = w' := by
  obtain ⟨A, c, rfl, hne, hb, ho⟩ := h
  have h1 : w.cell? ⟨g, 1, none⟩ = some (.int .i64 p) := hb.cell rfl
  go_enter Tryz.func74, Tryz.ntmps74
  go_wp2
  go_ret
  exact ⟨rfl, rfl⟩

theorem has_any (g : Nat) (bs : List UInt8) (p : Nat) (bl : List Nat) (n : Int) (w : World) (h : RdrAt w g bs p bl) (hp : p ≤ 8 * bs.length) (hn : bs.length ≤ 1099511627776) :
    Calls Tryz.prog 106 #[ptr g, .int .i64 n] w fun e w' => e = .returned (.bool (decide (n ≤ (8 * bs.length - p : Nat)))) ∧ Fresh w w' := by
  go_enter Tryz.func106, Tryz.ntmps106
  go_wp2_with (go_at_call 97; refine (left_any g bs p bl w h hp hn).mono ?_; rintro e w1 ⟨rfl, hf1⟩)
  go_ret
  exact ⟨rfl, hf1⟩

theorem has_is (g : Nat) (bs : List UInt8) (p : Nat) (bl : List Nat) (n : Int) (b : Bool) (w : World) (h : RdrAt w g bs p bl) (hp : p ≤ 8 * bs.length) (hn : bs.length ≤ 1099511627776) (hb : decide (n ≤ (8 * bs.length - p : Nat)) = b) :
    Calls Tryz.prog 106 #[ptr g, .int .i64 n] w fun e w' => e = .returned (.bool b) ∧ Fresh w w' := by
  subst hb
  exact has_any g bs p bl n w h hp hn

theorem peek_no (g : Nat) (bs : List UInt8) (p : Nat) (bl : List Nat) (n : Int) (w : World) (h : RdrAt w g bs p bl) (hp : p ≤ 8 * bs.length) (hn : bs.length ≤ 1099511627776) (hno : 8 * bs.length < p + held n) :
    Calls Tryz.prog 91 #[ptr g, .int .i64 n] w fun e w' => e = .returned (.tuple #[.int .i64 0, .bool false]) ∧ Fresh w w' := by
  have hh : ∀ w, Calls Tryz.prog 48 #[.int .i64 n] w fun e w' => e = .returned (.int .i64 (held n)) ∧ w = w' := fun w => held_any n w
  have hle := held_le n
  generalize held n = k at *
  have HH := Lib.hid hh
  clear hh
  go_enter Tryz.func91, Tryz.ntmps91
  go_wp2_with (first
    | (go_at_call 48; refine (HH.out w).mono ?_; rintro e w1 ⟨rfl, rfl⟩)
    | (go_at_call 106; refine (has_is g bs p bl (k : Int) false w h hp hn (decide_eq_false (by omega))).mono ?_; rintro e w1 ⟨rfl, hf1⟩))
  go_ret2
  exact ⟨rfl, hf1⟩

theorem lowest_is (n : Nat) (v : Int) (R : Nat) (w : World) (hn : n ≤ 24) (h : u64 v % 2 ^ n = R) : Calls Tryz.prog 50 #[.int .i64 n, .int .i64 v] w fun e w' => e = .returned (.int .i64 R) ∧ w = w' := by
  subst h
  exact lowest_any n v w hn
theorem u64_nat (a : Nat) (h : a < 9223372036854775808) : u64 (a : Int) = a := by unfold u64; omega

set_option maxRecDepth 100000 in
theorem peek_ok (g : Nat) (bs : List UInt8) (p : Nat) (bl : List Nat) (n : Int) (w : World) (h : RdrAt w g bs p bl) (hn : bs.length ≤ 1099511627776) (hfit : p + held n ≤ 8 * bs.length) :
    Calls Tryz.prog 91 #[ptr g, .int .i64 n] w fun e w' => e = .returned (.tuple #[.int .i64 (num bs / 2 ^ p % 2 ^ held n : Nat), .bool true]) ∧ Fresh w w' := by
  have hh : ∀ w, Calls Tryz.prog 48 #[.int .i64 n] w fun e w' => e = .returned (.int .i64 (held n)) ∧ w = w' := fun w => held_any n w
  have hle := held_le n
  generalize held n = k at *
  have HH := Lib.hid hh
  clear hh
  have hp : p ≤ 8 * bs.length := by omega
  have H := Lib.hid h
  obtain ⟨A, c, rfl, hne, hb, ho⟩ := h
  obtain ⟨m, hm⟩ : ∃ m, (p % 8 + k + 7) / 8 = m := ⟨_, rfl⟩
  have hm4 : m ≤ 4 := by omega
  have hmf : p / 8 + m ≤ bs.length := by omega
  have hmk : p % 8 + k ≤ 8 * m := by omega
  have hmi : ((p : Int) % 8 + (k : Int) + 7) / 8 = (m : Int) := by omega
  obtain ⟨R, hR⟩ : ∃ R, num bs / 2 ^ p % 2 ^ k = R := ⟨_, rfl⟩
  obtain ⟨V, hV⟩ : ∃ V, num ((bs.drop (p / 8)).take m) = V := ⟨_, rfl⟩
  have hVR : V / 2 ^ (p % 8) % 2 ^ k = R := by rw [← hV, ← hR]; exact bits_of_bytes bs p k m hmk hmf
  have hVl : V < 4294967296 := by
    have h1 := num_lt ((bs.drop (p / 8)).take m)
    rw [List.length_take, List.length_drop, Nat.min_eq_left (by omega)] at h1
    have h2 : 256 ^ m ≤ 4294967296 := by have := Nat.pow_le_pow_right (n := 256) (by omega) hm4; simpa using this
    omega
  have HM := Lib.hid hm
  have HV := Lib.hid hV
  have HVR := Lib.hid hVR
  have HMI := Lib.hid hmi
  rw [hR]
  clear hm hR hV hVR hmi
  have h0 : w.cell? ⟨g, 0, none⟩ = some (.slice A bs.length c) := hb.cell rfl
  have h1 : w.cell? ⟨g, 1, none⟩ = some (.int .i64 p) := hb.cell rfl
  go_enter Tryz.func91, Tryz.ntmps91
  go_wp2_with (first
    | (go_at_call 48; refine (HH.out w).mono ?_; rintro e w1 ⟨rfl, rfl⟩)
    | (go_at_call 106; refine (has_is g bs p _ (k : Int) true w H.out hp hn (decide_eq_true (by omega))).mono ?_; rintro e w1 ⟨rfl, hf1⟩; have h1' : w1.cell? ⟨g, 1, none⟩ = some (.int .i64 p) := (hb.fresh hf1).cell rfl))
  have hbk := hb.fresh hf1
  have hok := ho.fresh hf1
  clear h0 h1 h1' hb ho
  go_loopw [7, 25] (fun v i wr => ∃ (j q : Nat), j ≤ m ∧ i = .int .i64 j ∧ v = .int .i64 q ∧ Hid (q = num (((bs.drop (p / 8)).take m).take j)) ∧ q < 256 ^ j ∧ Fresh w1 wr) (fun _ i _ => m - (intOf i).toNat)
  case atStart => exact ⟨0, 0, by omega, rfl, rfl, by simp [Hid, num], by simp, Fresh.refl _⟩
  case round =>
    obtain ⟨j, q, hj, rfl, rfl, hq, hql, hfr⟩ := hrel
    have h0 : wr.cell? ⟨g, 0, none⟩ = some (.slice A bs.length c) := (hbk.fresh hfr).cell rfl
    have h1 : wr.cell? ⟨g, 1, none⟩ = some (.int .i64 p) := (hbk.fresh hfr).cell rfl
    have hmi := HMI.out
    by_cases hlt : j < m
    · obtain ⟨ix, hix⟩ : ∃ ix, p / 8 + j = ix := ⟨_, rfl⟩
      obtain ⟨b, off, x, rfl, hb, hx, hcx⟩ := (hok.rd.fresh hfr).at_ (enc := bv) (k := ix) (by omega)
      have HX := Lib.hid hx
      have hxb := x.toNat_lt
      have hor := or_high q j x.toNat hql (by omega) (by omega)
      have e1 : (p : Int) / 8 + (j : Int) = (ix : Int) := by omega
      have e2 : ix < bs.length := by omega
      have hstep : Hid (q + 256 ^ j * x.toNat = num (((bs.drop (p / 8)).take m).take (j + 1))) := by
        show _ = _
        rw [hq.out, num_take _ j x]
        rw [List.getElem?_take, if_pos hlt, List.getElem?_drop, hix]
        exact hx
      have hnx : q + 256 ^ j * x.toNat < 256 ^ (j + 1) := by
        have h1 : 256 ^ j * (x.toNat + 1) ≤ 256 ^ j * 256 := Nat.mul_le_mul_left _ (by omega)
        rw [Nat.pow_succ]
        rw [Nat.mul_succ] at h1
        omega
      clear hx
      go_wp2
      go_quiet (fail)
      go_wp2
      go_roundw
      case rel => exact ⟨j + 1, q + 256 ^ j * x.toNat, by omega, by go_num, by go_num, hstep, hnx, hfr.trans (Fresh.drewN _ _)⟩
      case measure => simp [intOf]; omega
    · have h2 : j = m := by omega
      subst h2
      have hqv : q = V := by rw [hq.out, List.take_take, Nat.min_self, HV.out]
      subst hqv
      have hz : u64 ((q : Int) / 2 ^ (p % 8)) % 2 ^ k = R := by
        have e : (q : Int) / 2 ^ (p % 8) = ((q / 2 ^ (p % 8) : Nat) : Int) := by simp
        have := Nat.div_le_self q (2 ^ (p % 8))
        rw [e, u64_nat _ (by omega), HVR.out]
      have HZ := Lib.hid hz
      clear hz
      go_wp2_with (go_at_call 50; refine (lowest_is k _ R wr hle HZ.out).mono ?_; rintro e w2 ⟨rfl, rfl⟩)
      go_ret2
      exact ⟨rfl, hf1.trans hfr⟩

/-- the reader's state behind a call -/
def RdrIs (w : World) (g : Nat) (bs : List UInt8) (q : Nat) (bl : List Nat) (w' : World) : Prop := ∃ bl', RdrAt w' g bs q bl' ∧ Turn bl bl' w w'

theorem align_any (g : Nat) (bs : List UInt8) (p : Nat) (bl : List Nat) (w : World) (h : RdrAt w g bs p bl) (hp : p ≤ 8 * bs.length) (hn : bs.length ≤ 1099511627776) :
    Calls Tryz.prog 92 #[ptr g] w fun e w' => e = .returned (.int .i64 ((8 - p % 8) % 8 : Nat)) ∧ RdrIs w g bs (p + (8 - p % 8) % 8) bl w' := by
  obtain ⟨K, hK⟩ : ∃ K, (8 - p % 8) % 8 = K := ⟨_, rfl⟩
  have e1 : bits .and .i64 (-(p : Int)) 7 = (K : Int) := by
    have h1 := and_mask (-(p : Int)) 3 (by omega)
    have h2 : u64 (-(p : Int)) % 2 ^ 3 = K := by unfold u64; omega
    rw [h2] at h1
    exact h1
  have hs := h.set (p + K)
  have hk7 : K < 8 := by omega
  rw [hK]
  have HS := Lib.hid hs
  obtain ⟨A, c, rfl, hne, hb, ho⟩ := h
  have h1 : w.cell? ⟨g, 1, none⟩ = some (.int .i64 p) := hb.cell rfl
  have hf := hb.free 1
  clear hs hK
  go_enter Tryz.func92, Tryz.ntmps92
  go_wp2
  go_ret
  exact ⟨rfl, _, HS.out.1, HS.out.2⟩

theorem back_ok (g : Nat) (bs : List UInt8) (p q : Nat) (bl : List Nat) (w : World) (h : RdrAt w g bs p bl) (hp : p ≤ 8 * bs.length) (hn : bs.length ≤ 1099511627776) (hq : q ≤ p) :
    Calls Tryz.prog 75 #[ptr g, .int .i64 q] w fun e w' => e = .returned (.tuple #[]) ∧ RdrIs w g bs q bl w' := by
  have hs := h.set q
  have HS := Lib.hid hs
  obtain ⟨A, c, rfl, hne, hb, ho⟩ := h
  have h1 : w.cell? ⟨g, 1, none⟩ = some (.int .i64 p) := hb.cell rfl
  have hf := hb.free 1
  clear hs
  go_enter Tryz.func75, Tryz.ntmps75
  go_wp2
  go_end0
  exact ⟨rfl, _, HS.out.1, HS.out.2⟩
theorem back_no (g : Nat) (bs : List UInt8) (p : Nat) (z : Int) (bl : List Nat) (w : World) (h : RdrAt w g bs p bl) (hq : z < 0 ∨ (p : Int) < z) :
    Calls Tryz.prog 75 #[ptr g, .int .i64 z] w fun e w' => e = .returned (.tuple #[]) ∧ RdrIs w g bs p bl w' := by
  have H := Lib.hid h
  obtain ⟨A, c, rfl, hne, hb, ho⟩ := h
  have h1 : w.cell? ⟨g, 1, none⟩ = some (.int .i64 p) := hb.cell rfl
  rcases hq with hq | hq
  all_goals
    go_enter Tryz.func75, Tryz.ntmps75
    go_wp2
    exact bodyPost_ret (results_none rfl _ _ _) rfl ⟨rfl, _, H.out, Turn.refl _ _⟩

theorem bits_no (g : Nat) (bs : List UInt8) (p : Nat) (bl : List Nat) (n : Int) (w : World) (h : RdrAt w g bs p bl) (hp : p ≤ 8 * bs.length) (hn : bs.length ≤ 1099511627776) (hno : 8 * bs.length < p + held n) :
    Calls Tryz.prog 76 #[ptr g, .int .i64 n] w fun e w' => e = .returned (.tuple #[.int .i64 0, .bool false]) ∧ RdrIs w g bs p bl w' := by
  go_enter Tryz.func76, Tryz.ntmps76
  go_wp2_with (go_at_call 91; refine (peek_no g bs p bl n w h hp hn hno).mono ?_; rintro e w1 ⟨rfl, hf1⟩)
  go_ret2
  exact ⟨rfl, _, h.fresh hf1, Turn.fresh hf1⟩

theorem bits_ok (g : Nat) (bs : List UInt8) (p : Nat) (bl : List Nat) (n : Int) (k R : Nat) (w : World) (h : RdrAt w g bs p bl) (hn : bs.length ≤ 1099511627776) (hk : held n = k) (hfit : p + k ≤ 8 * bs.length) (hR : num bs / 2 ^ p % 2 ^ k = R) :
    Calls Tryz.prog 76 #[ptr g, .int .i64 n] w fun e w' => e = .returned (.tuple #[.int .i64 R, .bool true]) ∧ RdrIs w g bs (p + k) bl w' := by
  subst hk
  have hle := held_le n
  have hpk : ∀ w, RdrAt w g bs p bl → Calls Tryz.prog 91 #[ptr g, .int .i64 n] w fun e w' => e = .returned (.tuple #[.int .i64 R, .bool true]) ∧ Fresh w w' := fun w h => by
    have := peek_ok g bs p bl n w h hn hfit
    rwa [hR] at this
  have hh : ∀ w, Calls Tryz.prog 48 #[.int .i64 n] w fun e w' => e = .returned (.int .i64 (held n)) ∧ w = w' := fun w => held_any n w
  generalize held n = k at *
  have HH := Lib.hid hh
  have HP := Lib.hid hpk
  clear hh hpk hR
  go_enter Tryz.func76, Tryz.ntmps76
  go_wp2_with (go_at_call 91; refine (HP.out w h).mono ?_; rintro e w1 ⟨rfl, hf1⟩)
  have hs := (h.fresh hf1).set (p + k)
  rw [Int.natCast_add] at hs
  have HS := Lib.hid hs
  have H1 := Lib.hid (h.fresh hf1)
  have h2 := h.fresh hf1
  obtain ⟨A, c, rfl, hne, hb, ho⟩ := h2
  have h1 : w1.cell? ⟨g, 1, none⟩ = some (.int .i64 p) := hb.cell rfl
  have hf := hb.free 1
  have e1 : IntKind.i64.wrap ((p : Int) + (k : Int)) = (p : Int) + (k : Int) := IntWalk.i64_in _ (by omega)
  clear hs
  have hh := HH.out w1.drew
  go_region_with (go_at_call 48; refine hh.mono ?_; rintro e w2 ⟨rfl, rfl⟩)
  all_goals
    go_wp2
    go_ret2
    exact ⟨rfl, _, HS.out.1.fresh (Fresh.drew _), ((Turn.fresh hf1).trans HS.out.2).trans (Turn.fresh (Fresh.drew _))⟩

end Go.Proofs.YtppgceighgpgoaaGreatDoor.bitp
/-
  The contracts of bits.Reader's Add and Read, and of a reader that is not there. My own text.
-/
namespace Go.Proofs.YtppgceighgpgoaaGreatDoor.bitp
open Go.RowKit Go.Proofs.YtppgceighgpgoaaGreatDoor.base Go.Proofs.YtppgceighgpgoaaGreatDoor.num Go.Proofs.YtppgceighgpgoaaGreatDoor.bitnum
set_option linter.unusedVariables false

theorem info_byte : (Tryz.prog.info? 5).map (fun i => (i.zero, i.size, i.bytes)) = some (some (.int .u8 0), 1, 1) := by kernel_rfl
set_option maxRecDepth 100000 in
theorem add_any (g : Nat) (bs xs : List UInt8) (p : Nat) (bl : List Nat) (A : Option Addr) (n c : Nat) (w : World) (B : Nat) (h : RdrAt w g bs p bl) (hn : bs.length ≤ 1099511627776) (hr : Rd w B A n (xs.map bv)) (hx : n ≤ 1099511627776) :
    Calls Tryz.prog 101 #[ptr g, .slice A n c] w fun e w' => e = .returned (.tuple #[]) ∧ RdrIs w g (bs ++ xs) p bl w' := by
  obtain ⟨i0, hi0, hz0, hz1, hz2⟩ := info_parts info_byte
  obtain ⟨D, d, rfl, hne, hb, ho⟩ := h
  have h0 : w.cell? ⟨g, 0, none⟩ = some (.slice D bs.length d) := hb.cell rfl
  have hl : xs.length = n := by have := hr.1; rwa [List.length_map] at this
  go_enter Tryz.func101, Tryz.ntmps101

  go_wp2_with (first
    | (at_builtin; go_loud (refine wpList_append_rdx _ rfl (.tmp 10) (.tmp 11) 24 rfl 0 5 i0 _ 1 Tryz.underlying24 hi0 hz0 hz1 hz2 rfl D bs.length d (bs.map bv) rfl ho B A n c (xs.map bv) rfl hr (bv_one xs) (by unfold maxLen; omega) (by omega) (Nat.zero_le _) ?_); intro A1 c1 w1 ho1 hg1 hw1; have hb1 := hb.grown hg1 hne; have hf1 := hb1.free 0; have hc1 : w1.cell? ⟨g, 0, none⟩ = some (.slice D bs.length d) := hb1.cell rfl))
  have e : bs.length + n = (bs ++ xs).length := by rw [List.length_append, hl]
  rw [← List.map_append] at ho1
  rw [e] at ho1 hw1
  have hrow := BufAt.row (bs' := bs ++ xs) hne hb (by decide) ho1 hg1 (by
    rcases hw1 with h | h
    · exact .inl (by rw [rb, h])
    · refine .inr fun b hb => ?_
      rw [rb, h] at hb
      simp only [Option.toList_some, List.mem_singleton] at hb
      omega)
  rw [← e] at hrow
  go_end0
  exact ⟨rfl, _, hrow.1, hrow.2⟩

def flat (rows : List Row) : List UInt8 := rows.flatMap Row.bs
theorem flat_snoc (rows : List Row) (j : Nat) (r : Row) (h : rows[j]? = some r) : flat (rows.take (j + 1)) = flat (rows.take j) ++ r.bs := by
  rw [take_snoc _ _ _ h, flat, List.flatMap_append]; simp [flat]

/-- a reader that was made since w -/
def RdrNew (w : World) (bs : List UInt8) (e : Ending) (w' : World) : Prop := ∃ g bl, e = .returned (ptr g) ∧ RdrAt w' g bs 0 bl ∧ Since w w' bl

theorem read_any (A : Option Addr) (n c : Nat) (rows : List Row) (w : World) (B : Nat) (h : RdRows w B A n rows) (hB : B ≤ w.heap.size) (hn : n ≤ 65536) (hlen : ∀ r ∈ rows, r.len ≤ 65536) :
    Calls Tryz.prog 84 #[.slice A n c] w (RdrNew w (flat rows)) := by
  have HL := Lib.hid hlen
  have hl : rows.length = n := by have := h.1.1; rwa [List.length_map] at this
  have HN := Lib.hid hl
  clear hlen hl
  go_enter Tryz.func84, Tryz.ntmps84
  go_wp2
  go_loopw [10] (fun i wr => ∃ (j q : Nat) (bs : List UInt8) (bl : List Nat), j ≤ n ∧ i = .int .i64 j ∧ RdrAt wr w.heap.size bs 0 bl ∧ Hid (bs = flat (rows.take j)) ∧ bs.length ≤ j * 65536 ∧ Since w wr bl) (fun i _ => n - (intOf i).toNat)
  case atStart =>
    refine ⟨0, 0, [], [w.heap.size], by omega, rfl, ⟨none, 0, rfl, by simp [Value.ownBlock], ?_, Own.nil _ _ _⟩, rfl, by simp, Fresh.alloc _ _, by simp⟩
    exact Bk.made w tRdr #[.slice none 0 0, .int .i64 0]
  case round =>
    obtain ⟨j, q, bs, bl, hj, rfl, hR, hbs, hbl, hS⟩ := hrel
    by_cases hlt : j < n
    · have hw := h.fresh hB hS.1
      obtain ⟨b, off, x, rfl, hb, hx, hcx⟩ := hw.1.at_ hlt
      have hr := hw.2 x (List.mem_of_getElem? hx)
      have hlx := HL.out x (List.mem_of_getElem? hx)
      have HX := Lib.hid hx
      have HH := Lib.hid h
      clear hx hw h
      obtain ⟨xa, xl, xc, xb⟩ := x
      simp only [Row.val] at hcx
      simp only at hr hlx
      have hxl : xb.length = xl := by have := hr.1; rwa [List.length_map] at this
      have HXL := Lib.hid hxl
      clear hxl
      go_wp2_with (go_at_call 101; refine (add_any w.heap.size bs xb 0 bl xa xl xc wr B hR (by omega) hr (by omega)).mono ?_; rintro e w2 ⟨rfl, bl2, hR2, hT2⟩)
      go_roundw
      case rel => exact ⟨j + 1, q, _, bl2, by omega, by go_num, hR2, by show _ = _; rw [hbs.out, flat_snoc _ _ _ HX.out], by rw [List.length_append, HXL.out]; omega, hS.turn hT2⟩
      case measure => simp [intOf]; omega
    · have hj2 : j = n := by omega
      subst hj2
      go_wp2
      go_ret
      have e : bs = flat rows := by
        have := hbs.out
        rwa [List.take_of_length_le (Nat.le_of_eq HN.out)] at this
      subst e
      exact ⟨w.heap.size, bl, rfl, hR, hS⟩
theorem read_one (A : Option Addr) (n c : Nat) (bs : List UInt8) (w : World) (B : Nat) (hr : Rd w B A n (bs.map bv)) (hB : B ≤ w.heap.size) (hn : n ≤ 65536) (g : Nat) (hg : g = w.heap.size) :
    Calls Tryz.prog 84 #[.slice (some ⟨g, 0, none⟩) 1 1] (w.alloc (.cells #[.slice A n c] 24)) (RdrNew w bs) := by
  subst hg
  have := read_any (some ⟨w.heap.size, 0, none⟩) 1 1 [⟨A, n, c, bs⟩] (w.alloc (.cells #[.slice A n c] 24)) (w.heap.size + 1)
    ⟨Rd.lit w #[.slice A n c] 24, fun r h => by rw [List.mem_singleton] at h; subst h; exact (hr.alloc hB _).up (by omega)⟩ (by simp) (by omega) (fun r h => by rw [List.mem_singleton] at h; subst h; exact hn)
  refine this.mono ?_
  rintro e w' ⟨g, bl, rfl, hR, hS⟩
  refine ⟨g, bl, rfl, by simpa [flat] using hR, (Fresh.alloc _ _).trans hS.1, fun i hi => ?_⟩
  have := hS.2 i hi
  simp at this
  omega

/-! a reader that is not there -/
theorem add_nil (A : Option Addr) (n c : Nat) (w : World) : Calls Tryz.prog 101 #[.pointer none, .slice A n c] w fun e w' => e = .returned (.tuple #[]) ∧ w = w' := by
  go_enter Tryz.func101, Tryz.ntmps101
  go_wp2
  exact bodyPost_ret (results_none rfl _ _ _) rfl ⟨rfl, rfl⟩
theorem back_nil (z : Int) (w : World) : Calls Tryz.prog 75 #[.pointer none, .int .i64 z] w fun e w' => e = .returned (.tuple #[]) ∧ w = w' := by
  go_enter Tryz.func75, Tryz.ntmps75
  go_wp2
  exact bodyPost_ret (results_none rfl _ _ _) rfl ⟨rfl, rfl⟩
theorem has_nil (z : Int) (w : World) : Calls Tryz.prog 106 #[.pointer none, .int .i64 z] w fun e w' => e = .returned (.bool false) ∧ w = w' := by
  go_enter Tryz.func106, Tryz.ntmps106
  go_wp2
  go_ret
  exact ⟨rfl, rfl⟩
theorem left_nil (w : World) : Calls Tryz.prog 97 #[.pointer none] w fun e w' => e = .returned (.int .i64 0) ∧ w = w' := by
  go_enter Tryz.func97, Tryz.ntmps97
  go_wp2
  go_ret
  exact ⟨rfl, rfl⟩
theorem mark_nil (w : World) : Calls Tryz.prog 74 #[.pointer none] w fun e w' => e = .returned (.int .i64 0) ∧ w = w' := by
  go_enter Tryz.func74, Tryz.ntmps74
  go_wp2
  go_ret
  exact ⟨rfl, rfl⟩
theorem align_nil (w : World) : Calls Tryz.prog 92 #[.pointer none] w fun e w' => e = .returned (.int .i64 0) ∧ w = w' := by
  go_enter Tryz.func92, Tryz.ntmps92
  go_wp2
  go_ret
  exact ⟨rfl, rfl⟩
theorem peek_nil (n : Int) (w : World) : Calls Tryz.prog 91 #[.pointer none, .int .i64 n] w fun e w' => e = .returned (.tuple #[.int .i64 0, .bool false]) ∧ w = w' := by
  go_enter Tryz.func91, Tryz.ntmps91
  go_wp2_with (first
    | (go_at_call 48; refine (held_any n w).mono ?_; rintro e w1 ⟨rfl, rfl⟩)
    | (go_at_call 106; refine (has_nil _ w).mono ?_; rintro e w1 ⟨rfl, rfl⟩))
  go_ret2
  exact ⟨rfl, rfl⟩
theorem bits_nil (n : Int) (w : World) : Calls Tryz.prog 76 #[.pointer none, .int .i64 n] w fun e w' => e = .returned (.tuple #[.int .i64 0, .bool false]) ∧ w = w' := by
  go_enter Tryz.func76, Tryz.ntmps76
  go_wp2_with (go_at_call 91; refine (peek_nil n w).mono ?_; rintro e w1 ⟨rfl, rfl⟩)
  go_ret2
  exact ⟨rfl, rfl⟩
/-- bytes.Clone: nil, or the same bytes in a new row -/
theorem clone_any (A : Option Addr) (n c : Nat) (xs : List UInt8) (w : World) (B : Nat) (hr : Rd w B A n (xs.map bv)) (hB : B ≤ w.heap.size) (hn : n ≤ 1099511627776) :
    Calls Tryz.prog 64 #[.slice A n c] w fun e w' => ∃ A' c', e = .returned (.slice A' n c') ∧ Fresh w w' ∧ Own w' w.heap.size 5 A' n c' (xs.map bv) := by
  obtain ⟨i0, hi0, hz0, hz1, hz2⟩ := info_parts info_byte
  have heq : ∀ W, (binOp .eql 24 (.slice A n c) (.slice none 0 0)).run Tryz.prog W = .ok (.bool A.isNone) W := fun W => run_slice_is_nil W 24 5 A n c Tryz.underlying24
  rcases A with _ | a
  · have h0 : n = 0 := by
      rcases Nat.eq_zero_or_pos n with h0 | h0
      · exact h0
      · obtain ⟨b, off, h, _⟩ := hr.2 h0
        cases h
    subst h0
    have hx : xs = [] := by have := hr.1; rw [List.length_map] at this; exact List.eq_nil_of_length_eq_zero this
    subst hx
    go_enter Tryz.func64, Tryz.ntmps64
    go_wp2
    go_ret
    exact ⟨_, _, rfl, Fresh.refl _, Own.nil _ _ _⟩
  · go_enter Tryz.func64, Tryz.ntmps64
    go_wp2_with (first
      | (at_builtin; refine wpList_append_rd _ rfl _ _ 24 rfl w.heap.size 5 i0 _ 1 Tryz.underlying24 hi0 hz0 hz1 hz2 rfl (some ⟨w.heap.size, 0, none⟩) 0 0 [] rfl (Own.made w 5 #[] 0 rfl (Nat.zero_le _)) B (some a) n c (xs.map bv) rfl (hr.alloc hB _) (bv_one xs) (by unfold maxLen; omega) (by omega) (by simp) ?_; intro A1 c1 w1 hown1 hg1))
    go_ret
    rw [Nat.zero_add, List.nil_append] at hown1
    exact ⟨A1, c1, rfl, (Fresh.alloc w _).append (Own.made w 5 #[] 0 rfl (Nat.zero_le _)) (Nat.le_refl _) hg1, hown1⟩
end Go.Proofs.YtppgceighgpgoaaGreatDoor.bitp
