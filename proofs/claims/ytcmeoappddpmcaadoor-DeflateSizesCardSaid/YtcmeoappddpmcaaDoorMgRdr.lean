import Derived.Test.YtcmeoappddpmcaaDoorMgNum
import Derived.Test.YtcmeoappddpmcaaDoorBlk
import Derived.Test.YtcmeoappddpmcaaDoorChecked
import Derived.BigQuiet
import Derived.Deep.QuietTactic
import Derived.Deep.MidRow
import Derived.StillTailTactics
import Derived.Great.BuildSlice
import Derived.BigRegion
import Derived.Deep.RegionWith
/- Several of my own texts, one behind the other. -/
/-
  The contracts of layer 4's small functions: held, lowest, turned; the reference's Held, Number, Low, High, Bits, Bytes. My own text.
-/
namespace Go.Proofs.YtcmeoappddpmcaaDoor.bitp
open Go.RowKit Go.Proofs.YtcmeoappddpmcaaDoor.base Go.Proofs.YtcmeoappddpmcaaDoor.num Go.Proofs.YtcmeoappddpmcaaDoor.bitnum
set_option linter.unusedVariables false

theorem ret_i64 {a b : Int} (h : a = b) : Ending.returned (.int .i64 a) = .returned (.int .i64 b) := by rw [h]

theorem held_any (x : Int) (w : World) : Calls Tryd.prog 40 #[.int .i64 x] w fun e w' => e = .returned (.int .i64 (held x)) ∧ w = w' := by
  by_cases h1 : x < 0
  · go_enter Tryd.func40, Tryd.ntmps40
    go_wp2
    go_ret
    exact ⟨ret_i64 (held_lo h1), rfl⟩
  · by_cases h7 : 24 < x
    · go_enter Tryd.func40, Tryd.ntmps40
      go_wp2
      go_ret
      exact ⟨ret_i64 (held_hi h7), rfl⟩
    · go_enter Tryd.func40, Tryd.ntmps40
      go_wp2
      all_goals go_ret
      all_goals exact ⟨ret_i64 (by have := held_mid (z := x) (by omega) (by omega); omega), rfl⟩

theorem lowest_any (n : Nat) (v : Int) (w : World) (hn : n ≤ 24) : Calls Tryd.prog 42 #[.int .i64 n, .int .i64 v] w fun e w' => e = .returned (.int .i64 (u64 v % 2 ^ n : Nat)) ∧ w = w' := by
  have hp := pow24 hn
  have e1 : wrap64 (wrap64 (2 ^ n) - 1) = 2 ^ n - 1 := by
    rw [pow2i]
    generalize 2 ^ n = p at hp
    rw [IntWalk.wrap64_in (p : Int) ⟨by omega, by omega⟩, IntWalk.wrap64_in ((p : Int) - 1) ⟨by omega, by omega⟩]
  have e2 := and_mask v n (by omega)
  go_enter Tryd.func42, Tryd.ntmps42
  go_wp2
  go_ret
  exact ⟨ret_i64 (by simp), rfl⟩

theorem turned_any (n : Nat) (v : Int) (w : World) (hn : n ≤ 24) :
    Calls Tryd.prog 57 #[.int .i64 n, .int .i64 v] w fun e w' => e = .returned (.int .i64 (rev n (u64 v) : Nat)) ∧ w = w' := by
  go_enter Tryd.func57, Tryd.ntmps57
  go_wp2
  go_loopw [1, 5, 7] (fun a b i wr => ∃ (k q : Nat) (z : Int), k ≤ n ∧ i = .int .i64 k ∧ a = .int .i64 z ∧ Hid (z = v / 2 ^ k) ∧ b = .int .i64 q ∧ Hid (q = rev k (u64 v)) ∧ q < 16777216 ∧ wr = w) (fun _ _ i _ => n - (intOf i).toNat)
  case atStart => exact ⟨0, 0, v, by omega, rfl, rfl, by simp [Hid], rfl, rfl, by omega, rfl⟩
  case round =>
    obtain ⟨k, q, z, hk, rfl, rfl, hz, rfl, hq, hql, rfl⟩ := hrel
    by_cases hlt : k < n
    · obtain ⟨b, hb⟩ : ∃ b : Nat, u64 v / 2 ^ k % 2 = b := ⟨_, rfl⟩
      have hb2 : b < 2 := by omega
      have h1 : bits .and .i64 z 1 = (b : Int) := by rw [and_one, hz.out, bit_of v k (by omega), hb]
      have h2 := or_bit q b (by omega) hb2
      rw [Int.mul_comm 2 (q : Int)] at h2
      have hr : Hid (2 * q + b = rev (k + 1) (u64 v)) := by show _ = _; rw [rev, hq.out, hb]
      have hr2 : 2 * q + b < 16777216 := by
        have := rev_lt (k + 1) (u64 v)
        have := (pow24 (k := k + 1) (by omega)).2
        have := hr.out
        omega
      have hz2 : Hid (z / 2 = v / 2 ^ (k + 1)) := by
        show _ = _
        rw [hz.out, Int.pow_succ, Int.ediv_ediv_of_nonneg]
        exact Int.le_of_lt (Int.pow_pos (by omega))
      have HB := Lib.hid hb
      clear hb
      go_wp2
      go_roundw
      case rel => exact ⟨k + 1, 2 * q + b, z / 2, by omega, by go_num, by go_num, hz2, by go_num, hr, hr2, trivial⟩
      case measure => simp [intOf]; omega
    · have h0 : k = n := by omega
      subst h0
      go_wp2
      go_ret
      exact ⟨ret_i64 (by rw [hq.out]), rfl⟩
theorem info_int : (Tryd.prog.info? 3).map (fun i => (i.zero, i.size, i.bytes)) = some (some (.int .i64 0), 1, 8) := by kernel_rfl
end Go.Proofs.YtcmeoappddpmcaaDoor.bitp
/-
  A row of bytes and a count behind one pointer; what a call may turn. My own text.
-/
namespace Go.Proofs.YtcmeoappddpmcaaDoor.bitp
open Go.RowKit Go.Proofs.YtcmeoappddpmcaaDoor.base Go.Proofs.YtcmeoappddpmcaaDoor.num Go.Proofs.YtcmeoappddpmcaaDoor.bitnum
set_option linter.unusedVariables false

/-- of what was there only the blocks S have turned; S' are these, or new ones -/
structure Turn (S S' : List Nat) (w w' : World) : Prop where
  os : w'.os = w.os
  tape : w'.tape = w.tape
  output : w'.output = w.output
  size : w.heap.size ≤ w'.heap.size
  block : ∀ k, k < w.heap.size → k ∉ S → w'.heap[k]? = w.heap[k]?
  sub : ∀ k ∈ S', k ∈ S ∨ w.heap.size ≤ k

section
variable {S S' S'' T : List Nat} {a b c w w' : World}
theorem Turn.refl (S : List Nat) (w : World) : Turn S S w w := ⟨rfl, rfl, rfl, Nat.le_refl _, fun _ _ _ => rfl, fun _ h => .inl h⟩
theorem Turn.trans (h : Turn S S' a b) (k : Turn S' S'' b c) : Turn S S'' a c where
  os := k.os.trans h.os
  tape := k.tape.trans h.tape
  output := k.output.trans h.output
  size := Nat.le_trans h.size k.size
  block i hi hS := (k.block i (Nat.lt_of_lt_of_le hi h.size) (fun hS' => by rcases h.sub i hS' with h1 | h1; exact hS h1; omega)).trans (h.block i hi hS)
  sub i hi := by
    rcases k.sub i hi with h1 | h1
    · exact h.sub i h1
    · exact .inr (Nat.le_trans h.size h1)
theorem Turn.fresh (h : Fresh a b) : Turn S S a b := ⟨h.os, h.tape, h.output, h.size, fun k hk _ => h.block k hk, fun _ h => .inl h⟩
theorem Turn.but {g : Nat} (h : But g a b) (hg : g ∈ S) : Turn S S a b := ⟨h.os, h.tape, h.output, h.size, fun k hk hS => h.block k hk (fun e => by injection e with e; subst e; exact hS hg), fun _ h => .inl h⟩
theorem Turn.of_grown {row : Option Nat} (h : a.grownBy b row) (hr : ∀ g, row = some g → g ∈ S) : Turn S S a b := ⟨h.os, h.tape, h.output, h.size, fun k hk hS => h.block k hk (fun e => hS (hr k e.symm)), fun _ h => .inl h⟩
theorem Turn.to (h : Turn S S' a b) (hs : ∀ k ∈ S'', k ∈ S ∨ a.heap.size ≤ k) : Turn S S'' a b := { h with sub := hs }
theorem Turn.new (h : Turn S S' b c) (k : Fresh a b) (hS : ∀ i ∈ S, a.heap.size ≤ i) : Fresh a c :=
  ⟨h.os.trans k.os, h.tape.trans k.tape, h.output.trans k.output, Nat.le_trans k.size h.size, fun i hi => (h.block i (Nat.lt_of_lt_of_le hi k.size) (fun h' => by have := hS i h'; omega)).trans (k.block i hi)⟩
theorem Turn.new_sub (h : Turn S S' b c) (k : Fresh a b) (hS : ∀ i ∈ S, a.heap.size ≤ i) : ∀ i ∈ S', a.heap.size ≤ i := fun i hi => by
  rcases h.sub i hi with h1 | h1
  · exact hS i h1
  · have := k.size; omega
theorem Turn.apart (h : Turn S S' a b) {i : Nat} (hi : i < a.heap.size) (hS : i ∉ S) : i ∉ S' := fun h' => by
  rcases h.sub i h' with h1 | h1
  · exact hS h1
  · omega
end
/-- S is new since w, and nothing that was there has turned -/
def Since (w w' : World) (S : List Nat) : Prop := Fresh w w' ∧ ∀ i ∈ S, w.heap.size ≤ i
theorem Since.mk_ {w w' : World} {S : List Nat} (h : Fresh w w') (k : ∀ i ∈ S, w.heap.size ≤ i) : Since w w' S := ⟨h, k⟩
theorem Since.turn {w a b : World} {S S' : List Nat} (h : Since w a S) (k : Turn S S' a b) : Since w b S' := ⟨k.new h.1 h.2, k.new_sub h.1 h.2⟩
theorem Since.fresh {w a b : World} {S : List Nat} (h : Since w a S) (k : Fresh a b) : Since w b S := ⟨h.1.trans k, h.2⟩
theorem Since.grown {w a b : World} {S : List Nat} {row : Option Nat} (h : Since w a S) (k : a.grownBy b row) (hr : ∀ k, row = some k → w.heap.size ≤ k) : Since w b S :=
  ⟨⟨k.os.trans h.1.os, k.tape.trans h.1.tape, k.output.trans h.1.output, Nat.le_trans h.1.size k.size, fun i hi => (k.block i (Nat.lt_of_lt_of_le hi h.1.size) (fun e => by have := hr i e.symm; omega)).trans (h.1.block i hi)⟩, h.2⟩

/-- the blocks of a row -/
abbrev rb (A : Option Addr) (n c : Nat) : List Nat := (Value.slice A n c).ownBlock.toList
/-- the row of bytes bs and the count p lie at block g -/
def BufAt (T : TypeId) (w : World) (g : Nat) (bs : List UInt8) (p : Nat) (bl : List Nat) : Prop :=
  ∃ A c, bl = g :: rb A bs.length c ∧ (Value.slice A bs.length c).ownBlock ≠ some g ∧ Bk w g T [.slice A bs.length c, .int .i64 p] ∧ Own w 0 5 A bs.length c (bs.map bv)
theorem BufAt.keep {T : TypeId} {w w' : World} {g : Nat} {bs : List UInt8} {p : Nat} {bl : List Nat} (h : BufAt T w g bs p bl) (hk : ∀ b ∈ bl, w'.heap[b]? = w.heap[b]?) : BufAt T w' g bs p bl := by
  obtain ⟨A, c, rfl, hne, hb, ho⟩ := h
  refine ⟨A, c, rfl, hne, hb.old (hk g (by simp)), ⟨ho.1, ?_⟩⟩
  rcases ho.2 with h2 | ⟨q, cap, cur, hv, hb, hg, r⟩
  · exact .inl h2
  · refine .inr ⟨q, cap, cur, hv, hb, ?_, r⟩
    rw [hk q (by have : (Value.slice A bs.length c).ownBlock = some q := by rw [hv]; rfl
                 simp [rb, this])]
    exact hg
theorem BufAt.inside {T : TypeId} {w : World} {g : Nat} {bs : List UInt8} {p : Nat} {bl : List Nat} (h : BufAt T w g bs p bl) : ∀ b ∈ bl, b < w.heap.size := by
  obtain ⟨A, c, rfl, hne, hb, ho⟩ := h
  intro b hx
  rcases List.mem_cons.1 hx with rfl | hx
  · exact hb.inside
  · exact (World.ownsRow.lt ho b (by simpa using hx)).2
theorem BufAt.fresh {T : TypeId} {w w' : World} {g : Nat} {bs : List UInt8} {p : Nat} {bl : List Nat} (h : BufAt T w g bs p bl) (k : Fresh w w') : BufAt T w' g bs p bl := h.keep fun b hb => k.block b (h.inside b hb)
theorem BufAt.turn {T : TypeId} {S S' : List Nat} {w w' : World} {g : Nat} {bs : List UInt8} {p : Nat} {bl : List Nat} (h : BufAt T w g bs p bl) (k : Turn S S' w w') (hS : ∀ b ∈ bl, b ∉ S) : BufAt T w' g bs p bl :=
  h.keep fun b hb => k.block b (h.inside b hb) (hS b hb)
theorem BufAt.grown {T : TypeId} {w w' : World} {g : Nat} {bs : List UInt8} {p : Nat} {bl : List Nat} {row : Option Nat} (h : BufAt T w g bs p bl) (k : w.grownBy w' row) (hS : ∀ b ∈ bl, row ≠ some b) : BufAt T w' g bs p bl :=
  h.keep fun b hb => k.block b (h.inside b hb) fun e => hS b hb e.symm
theorem BufAt.pos {T : TypeId} {w w' : World} {g : Nat} {bs : List UInt8} {p : Nat} {bl : List Nat} (h : BufAt T w g bs p bl) : g ∈ bl := by obtain ⟨A, c, rfl, _⟩ := h; simp
theorem BufAt.cap {T : TypeId} {w : World} {g : Nat} {bs : List UInt8} {p : Nat} {bl : List Nat} (h : BufAt T w g bs p bl) : bs.length ≤ maxLen := by obtain ⟨A, c, rfl, hne, hb, ho⟩ := h; have := ho.cap; omega
/-- the count is set -/
theorem BufAt.set {T : TypeId} {w : World} {g : Nat} {bs : List UInt8} {p : Nat} {bl : List Nat} (h : BufAt T w g bs p bl) (q : Nat) : BufAt T (w.setCell ⟨g, 1, none⟩ (.int .i64 q)) g bs q bl ∧ Turn bl bl w (w.setCell ⟨g, 1, none⟩ (.int .i64 q)) := by
  obtain ⟨A, c, rfl, hne, hb, ho⟩ := h
  exact ⟨⟨A, c, rfl, hne, hb.put 1 _, ho.but (But.put _ _) hne⟩, Turn.but (But.put _ _) (by simp)⟩
/-- the row is set: it has grown -/
theorem BufAt.row {T : TypeId} {w w1 : World} {g : Nat} {bs bs' : List UInt8} {p : Nat} {A A' : Option Addr} {c c' : Nat} (hne : (Value.slice A bs.length c).ownBlock ≠ some g) (hb : Bk w g T [.slice A bs.length c, .int .i64 p]) (hT : T ≠ 5)
    (ho : Own w1 0 5 A' bs'.length c' (bs'.map bv)) (hg : w.grownBy w1 (Value.slice A bs.length c).ownBlock) (hs : rb A' bs'.length c' = rb A bs.length c ∨ ∀ b ∈ rb A' bs'.length c', w.heap.size ≤ b) :
    BufAt T (w1.setCell ⟨g, 0, none⟩ (.slice A' bs'.length c')) g bs' p (g :: rb A' bs'.length c') ∧ Turn (g :: rb A bs.length c) (g :: rb A' bs'.length c') w (w1.setCell ⟨g, 0, none⟩ (.slice A' bs'.length c')) := by
  have hb1 : Bk w1 g T [.slice A bs.length c, .int .i64 p] := hb.grown hg hne
  have hne1 := ho.ne_block hb1 (fun e => hT e.symm)
  refine ⟨⟨A', c', rfl, hne1, hb1.put 0 _, ho.but (But.put _ _) hne1⟩, ?_⟩
  have t1 : Turn (g :: rb A bs.length c) (g :: rb A bs.length c) w w1 := Turn.of_grown hg fun b hb => by simp [rb, hb]
  have t2 : Turn (g :: rb A bs.length c) (g :: rb A bs.length c) w1 (w1.setCell ⟨g, 0, none⟩ (.slice A' bs'.length c')) := Turn.but (But.put _ _) (by simp)
  refine (t1.trans t2).to fun k hk => ?_
  rcases List.mem_cons.1 hk with rfl | hk
  · exact .inl (by simp)
  · rcases hs with h | h
    · rw [h] at hk; exact .inl (by simp [hk])
    · exact .inr (h k hk)
/-- blocks of unlike element types are not one -/
theorem Own.ne_own {w : World} {base base' n n' c c' : Nat} {e e' : TypeId} {A A' : Option Addr} {xs xs' : List Value} (h : Own w base e A n c xs) (h' : Own w base' e' A' n' c' xs') (hne : e ≠ e') : ∀ b, (Value.slice A n c).ownBlock = some b → (Value.slice A' n' c').ownBlock ≠ some b := by
  intro b hb hb'
  rcases h.2 with ⟨hv, _⟩ | ⟨q, cap, cur, hv, _, hq, _⟩
  · rw [hv] at hb; cases hb
  · rcases h'.2 with ⟨hv', _⟩ | ⟨q', cap', cur', hv', _, hq', _⟩
    · rw [hv'] at hb'; cases hb'
    · rw [hv] at hb; rw [hv'] at hb'
      simp only [Value.ownBlock, Option.some.injEq] at hb hb'
      subst hb; subst hb'
      rw [hq] at hq'
      injection hq' with hq'
      injection hq' with _ ht
      exact hne ht
theorem BufAt.off {T : TypeId} {w : World} {g : Nat} {bs : List UInt8} {p : Nat} {bl : List Nat} (h : BufAt T w g bs p bl) {base n c : Nat} {e : TypeId} {A : Option Addr} {xs : List Value} (k : Own w base e A n c xs) (h1 : e ≠ T) (h2 : e ≠ 5) : ∀ b ∈ bl, (Value.slice A n c).ownBlock ≠ some b := by
  obtain ⟨A', c', rfl, hne, hb, ho⟩ := h
  intro b hx
  rcases List.mem_cons.1 hx with rfl | hx
  · exact k.ne_block hb h1
  · exact Own.ne_own ho k (fun e' => h2 e'.symm) b (by simpa using hx)
/-- a row that a call owns, beside the blocks S -/
theorem Own.turn {w w' : World} {base : Nat} {e : TypeId} {A : Option Addr} {n c : Nat} {xs : List Value} {S S' : List Nat} (h : Own w base e A n c xs) (k : Turn S S' w w') (hS : ∀ b ∈ S, (Value.slice A n c).ownBlock ≠ some b) : Own w' base e A n c xs := by
  refine ⟨h.1, ?_⟩
  rcases h.2 with h2 | ⟨g, cap, cur, hv, hb, hg, r⟩
  · exact .inl h2
  · refine .inr ⟨g, cap, cur, hv, hb, ?_, r⟩
    rw [k.block g (Array.getElem?_eq_some_iff.1 hg).1 (fun h' => hS g h' (by rw [hv]; rfl))]
    exact hg


section
variable {P : Program}
/-- 'append(own, src...)', src nil, empty or not; what is owned stays in its row or moves to the newest block -/
theorem run_append_rdx (w : World) (base : Nat) (t ty e : TypeId) (i : TypeInfo) (z : Value) (bytes : Nat) (ht : P.underlying t = some (.slice e)) (hi : P.info? e = some i) (hz : i.zero = some z)
    (hsize : i.size = 1) (hby : i.bytes = bytes) (hzs : z.cells.size = 1)
    (A : Option Addr) (n c : Nat) (xs : List Value) (hown : Own w base e A n c xs)
    (B : Nat) (D : Option Addr) (m d : Nat) (news : List Value) (hr : Rd w B D m news) (h1 : ∀ u ∈ news, u.oneCell' = true)
    (h63 : n + m ≤ maxLen) (hbytes : (n + m) * bytes ≤ 140737488355328) (hbase : base ≤ w.heap.size) :
    ∃ A' c' w', (Builtin.append_ #[t, t] ty #[.slice A n c, .slice D m d]).run P w = .ok (.slice A' (n + m) c') w' ∧ Own w' base e A' (n + m) c' (xs ++ news) ∧ w.grownBy w' (Value.slice A n c).ownBlock ∧ ((Value.slice A' (n + m) c').ownBlock = (Value.slice A n c).ownBlock ∨ (Value.slice A' (n + m) c').ownBlock = some w.heap.size) := by
  rcases D with _ | ad
  · have hm : m = 0 := by
      rcases Nat.eq_zero_or_pos m with h0 | h0
      · exact h0
      · obtain ⟨b, off, h, _⟩ := hr.2 h0
        cases h
    subst hm
    have hn : news = [] := List.eq_nil_of_length_eq_zero hr.1
    subst hn
    exact ⟨A, c, w, run_append_nothing w base t ty e i ht hi A n c xs hown d, by simpa using hown, World.grownBy.refl w _, .inl rfl⟩
  · have hcells : ∀ j u, news[j]? = some u → w.cell? (ad.add j) = some u := by
      intro j u hu
      rcases Nat.eq_zero_or_pos m with h0 | h0
      · subst h0
        have hn : news = [] := List.eq_nil_of_length_eq_zero hr.1
        subst hn
        simp at hu
      · obtain ⟨b, off, h, _, hc⟩ := hr.2 h0
        injection h with h
        subst h
        have hadd : (⟨b, off, none⟩ : Addr).add j = ⟨b, off + j, none⟩ := by unfold Addr.add; split <;> simp_all
        rw [hadd]
        exact hc j u hu
    obtain ⟨v', w', hrun, h2, h3, _, h5⟩ := run_append_own_at (P := P) w base t ty e i z 1 bytes ht hi hz hsize hby hzs (by omega) (.slice A n c) n xs hown ad m d news (by simpa using hr.1) hcells h1 h63 hbytes hbase
    have hform : ∃ A' c', v' = .slice A' (n + m) c' := by
      rcases h2.2 with ⟨hv, hn⟩ | ⟨g, cap, cur, hv, _⟩
      · exact ⟨none, 0, by rw [hv, hn]⟩
      · exact ⟨_, cap, hv⟩
    obtain ⟨A', c', rfl⟩ := hform
    exact ⟨A', c', w', hrun, h2, h3, h5⟩

theorem wp_append_rdx (w : World) {o : Oper} {a : Act} {K : Act → World → Prop} {Q : Exit → Act → World → Prop} (s x : Operand) (t : TypeId)
    (ho : o.op = .call { callee := .builtin .append, args := #[s, x], argTypes := #[t, t] })
    (base : Nat) (e : TypeId) (i : TypeInfo) (z : Value) (bytes : Nat) (ht : P.underlying t = some (.slice e)) (hi : P.info? e = some i) (hz : i.zero = some z)
    (hsize : i.size = 1) (hby : i.bytes = bytes) (hzs : z.cells.size = 1)
    (A : Option Addr) (n c : Nat) (xs : List Value) (hs : a.eval s = .slice A n c) (hown : Own w base e A n c xs)
    (B : Nat) (D : Option Addr) (m d : Nat) (news : List Value) (hx : a.eval x = .slice D m d) (hr : Rd w B D m news) (h1 : ∀ u ∈ news, u.oneCell' = true)
    (h63 : n + m ≤ maxLen) (hbytes : (n + m) * bytes ≤ 140737488355328) (hbase : base ≤ w.heap.size)
    (h : ∀ A' c' w', Own w' base e A' (n + m) c' (xs ++ news) → w.grownBy w' (Value.slice A n c).ownBlock → ((Value.slice A' (n + m) c').ownBlock = (Value.slice A n c).ownBlock ∨ (Value.slice A' (n + m) c').ownBlock = some w.heap.size) → K (a.put o.dst (.slice A' (n + m) c')) w') : o.wp P a w K Q := by
  obtain ⟨A', c', w', hrun, h2, h3, h5⟩ := run_append_rdx (P := P) w base t o.type e i z bytes ht hi hz hsize hby hzs A n c xs hown B D m d news hr h1 h63 hbytes hbase
  unfold Oper.wp execOp
  simp only [ho, resolve, invoke, builtin, Sem.run_bind, Sem.run_pure, Result.andThen_ok, List.map_toArray, List.map_cons, List.map_nil, hs, hx, hrun]
  exact h A' c' w' h2 h3 h5

theorem wpList_append_rdx (w : World) {ops : Array Oper} {rest : List Oper} {o : Oper} {a : Act} {Q : Exit → Act → World → Prop} (hgd : o.guard = none) (s x : Operand) (t : TypeId)
    (ho : o.op = .call { callee := .builtin .append, args := #[s, x], argTypes := #[t, t] })
    (base : Nat) (e : TypeId) (i : TypeInfo) (z : Value) (bytes : Nat) (ht : P.underlying t = some (.slice e)) (hi : P.info? e = some i) (hz : i.zero = some z)
    (hsize : i.size = 1) (hby : i.bytes = bytes) (hzs : z.cells.size = 1)
    (A : Option Addr) (n c : Nat) (xs : List Value) (hs : a.eval s = .slice A n c) (hown : Own w base e A n c xs)
    (B : Nat) (D : Option Addr) (m d : Nat) (news : List Value) (hx : a.eval x = .slice D m d) (hr : Rd w B D m news) (h1 : ∀ u ∈ news, u.oneCell' = true)
    (h63 : n + m ≤ maxLen) (hbytes : (n + m) * bytes ≤ 140737488355328) (hbase : base ≤ w.heap.size)
    (h : ∀ A' c' w', Own w' base e A' (n + m) c' (xs ++ news) → w.grownBy w' (Value.slice A n c).ownBlock → ((Value.slice A' (n + m) c').ownBlock = (Value.slice A n c).ownBlock ∨ (Value.slice A' (n + m) c').ownBlock = some w.heap.size) → wpList P ops Q rest (a.put o.dst (.slice A' (n + m) c')) w') : wpList P ops Q (o :: rest) a w :=
  wpList_plain hgd fun _ hK => wp_append_rdx w s x t ho base e i z bytes ht hi hz hsize hby hzs A n c xs hs hown B D m d news hx hr h1 h63 hbytes hbase fun A' c' w' h2 h3 h5 => hK _ _ (h A' c' w' h2 h3 h5)

end

abbrev tWtr : TypeId := 86
abbrev ptr (g : Nat) : Value := .pointer (some ⟨g, 0, none⟩)
end Go.Proofs.YtcmeoappddpmcaaDoor.bitp
/-
  The contracts of bits.Reader: Read, Add, Has, Bits, Peek, Align, Left, Mark, Back. My own text.
-/
namespace Go.Proofs.YtcmeoappddpmcaaDoor.bitp
open Go.RowKit Go.Proofs.YtcmeoappddpmcaaDoor.base Go.Proofs.YtcmeoappddpmcaaDoor.num Go.Proofs.YtcmeoappddpmcaaDoor.bitnum
set_option linter.unusedVariables false

theorem ret_bool {a b : Bool} (h : a = b) : Ending.returned (.bool a) = .returned (.bool b) := by rw [h]

theorem lowest_is (n : Nat) (v : Int) (R : Nat) (w : World) (hn : n ≤ 24) (h : u64 v % 2 ^ n = R) : Calls Tryd.prog 42 #[.int .i64 n, .int .i64 v] w fun e w' => e = .returned (.int .i64 R) ∧ w = w' := by
  subst h
  exact lowest_any n v w hn
theorem u64_nat (a : Nat) (h : a < 9223372036854775808) : u64 (a : Int) = a := by unfold u64; omega

end Go.Proofs.YtcmeoappddpmcaaDoor.bitp
/-
  The contracts of bits.Reader's Add and Read, and of a reader that is not there. My own text.
-/
namespace Go.Proofs.YtcmeoappddpmcaaDoor.bitp
open Go.RowKit Go.Proofs.YtcmeoappddpmcaaDoor.base Go.Proofs.YtcmeoappddpmcaaDoor.num Go.Proofs.YtcmeoappddpmcaaDoor.bitnum
set_option linter.unusedVariables false

theorem info_byte : (Tryd.prog.info? 5).map (fun i => (i.zero, i.size, i.bytes)) = some (some (.int .u8 0), 1, 1) := by kernel_rfl
def flat (rows : List Row) : List UInt8 := rows.flatMap Row.bs
theorem flat_snoc (rows : List Row) (j : Nat) (r : Row) (h : rows[j]? = some r) : flat (rows.take (j + 1)) = flat (rows.take j) ++ r.bs := by
  rw [take_snoc _ _ _ h, flat, List.flatMap_append]; simp [flat]

/-! a reader that is not there -/
/-- bytes.Clone: nil, or the same bytes in a new row -/
theorem clone_any (A : Option Addr) (n c : Nat) (xs : List UInt8) (w : World) (B : Nat) (hr : Rd w B A n (xs.map bv)) (hB : B ≤ w.heap.size) (hn : n ≤ 1099511627776) :
    Calls Tryd.prog 48 #[.slice A n c] w fun e w' => ∃ A' c', e = .returned (.slice A' n c') ∧ Fresh w w' ∧ Own w' w.heap.size 5 A' n c' (xs.map bv) := by
  obtain ⟨i0, hi0, hz0, hz1, hz2⟩ := info_parts info_byte
  have heq : ∀ W, (binOp .eql 22 (.slice A n c) (.slice none 0 0)).run Tryd.prog W = .ok (.bool A.isNone) W := fun W => run_slice_is_nil W 22 5 A n c Tryd.underlying22
  rcases A with _ | a
  · have h0 : n = 0 := by
      rcases Nat.eq_zero_or_pos n with h0 | h0
      · exact h0
      · obtain ⟨b, off, h, _⟩ := hr.2 h0
        cases h
    subst h0
    have hx : xs = [] := by have := hr.1; rw [List.length_map] at this; exact List.eq_nil_of_length_eq_zero this
    subst hx
    go_enter Tryd.func48, Tryd.ntmps48
    go_wp2
    go_ret
    exact ⟨_, _, rfl, Fresh.refl _, Own.nil _ _ _⟩
  · go_enter Tryd.func48, Tryd.ntmps48
    go_wp2_with (first
      | (at_builtin; refine wpList_append_rd _ rfl _ _ 22 rfl w.heap.size 5 i0 _ 1 Tryd.underlying22 hi0 hz0 hz1 hz2 rfl (some ⟨w.heap.size, 0, none⟩) 0 0 [] rfl (Own.made w 5 #[] 0 rfl (Nat.zero_le _)) B (some a) n c (xs.map bv) rfl (hr.alloc hB _) (bv_one xs) (by unfold maxLen; omega) (by omega) (by simp) ?_; intro A1 c1 w1 hown1 hg1))
    go_ret
    rw [Nat.zero_add, List.nil_append] at hown1
    exact ⟨A1, c1, rfl, (Fresh.alloc w _).append (Own.made w 5 #[] 0 rfl (Nat.zero_le _)) (Nat.le_refl _) hg1, hown1⟩
end Go.Proofs.YtcmeoappddpmcaaDoor.bitp
