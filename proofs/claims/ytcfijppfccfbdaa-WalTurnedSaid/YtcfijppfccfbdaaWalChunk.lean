/-
  slices.Chunk over bytes: the iterator's contract. My own text.
-/
import Derived.Test.YtcfijppfccfbdaaBlk
import Derived.Test.YtcfijppfccfbdaaProg
import Derived.RangeFuncNested
import Derived.RangeFuncBound
import Derived.RangeFuncCalls
import Derived.RangeFuncLeaves
import Derived.RangeFuncBox
import Derived.Shelf.Abstract
import Derived.Shelf.RegionOpen
import Derived.WalkKit
import Derived.OwnWalkIn
import Derived.TacticsInMore
import Derived.LoopNIn
import Derived.LoopIn
namespace Go.Proofs.Ytcfijppfccfbdaa.walp
open Go.RowKit Go.Shelf Go.Proofs.Ytcfijppfccfbdaa.base
set_option linter.unusedVariables false
attribute [local go_sem] Oper.semAt_some

/-- below a place nothing has turned but block g -/
structure Kpt (g N : Nat) (W W' : World) : Prop where
  size : W.heap.size ≤ W'.heap.size
  block : ∀ k, k < N → k ≠ g → W'.heap[k]? = W.heap[k]?
theorem Kpt.refl (g N : Nat) (W : World) : Kpt g N W W := ⟨Nat.le_refl _, fun _ _ _ => rfl⟩
theorem Kpt.trans {g N : Nat} {A B C : World} (h : Kpt g N A B) (k : Kpt g N B C) : Kpt g N A C := ⟨Nat.le_trans h.size k.size, fun i hi hg => (k.block i hi hg).trans (h.block i hi hg)⟩
theorem Kpt.putObj {g N : Nat} (W : World) (l : Nat) (o : Obj) (hl : N ≤ l) : Kpt g N W (W.putObj l o) := ⟨by simp, fun k hk _ => World.putObj_heap_other (by omega)⟩

set_option maxRecDepth 100000 in
set_option maxHeartbeats 2000000 in
theorem chunk1_in (n : Nat) (hn : 1 ≤ n) (l Bs Bn g N b off m c : Nat) (hs : Bs < N ∧ Bs ≠ g) (hb : Bn < N ∧ Bn ≠ g) (hm : m ≤ 4096) (hc : 516 * m ≤ c) (hc2 : c ≤ maxLen) (A : Option Addr) (hA : 0 < m → A = some ⟨b, off, none⟩) (J Jx : List (Fin m) → World → Prop) (hJd : ∀ pre W, J pre W → J pre W.drew)
    (hY : ∀ pre x W, J pre W → pre.length < m → YieldAt Fence.wide (n - 1) Try.prog l #[.slice (some ⟨b, off + 516 * x.1, none⟩) 516 516] W fun e W' =>
      (e = .returned (.bool true) ∧ J (pre ++ [x]) W' ∧ Kpt g N W W') ∨ (e = .returned (.bool false) ∧ Jx (pre ++ [x]) W'))
    (W : World) (hBs : W.cell? ⟨Bs, 0, none⟩ = some (.slice A (516 * m) c)) (hBn : W.cell? ⟨Bn, 0, none⟩ = some (.int .i64 516)) (h0 : J [] W) :
    CallsIn Fence.wide n Try.prog 38 #[.func (.yield l) #[] #[], .pointer (some ⟨Bs, 0, none⟩), .pointer (some ⟨Bn, 0, none⟩)] W fun e W' => (∃ v, e = .returned v) ∧
      ((∃ ys, (ys.map (fun x => x.1) = List.range m) ∧ J ys W') ∨ (∃ pre, True ∧ Jx pre W')) := by
  refine callsIn_of_wp Try.func38 rfl trivial ?_ rfl
  simp only [Try.ntmps38, List.size_toArray, List.length_cons, List.length_nil, Nat.reduceAdd, Nat.reduceSub, Array.replicate_succ, Array.replicate_zero, List.push_toArray, List.append_toArray, List.nil_append, List.cons_append]
  generalize hM : 516 * m = M at *
  unfold maxLen at hc2
  have HM := Lib.hid hM
  clear hM
  gi_wp2
  gi_loopw [4] (fun i wr => ∃ (k p : Nat) (pre : List (Fin m)), k ≤ m ∧ i = .int .i64 p ∧ Hid (p = 516 * k) ∧ Hid (pre.map (fun x => x.1) = List.range k) ∧ J pre wr ∧ Kpt g N W wr)
    (fun i _ => M - (intOf i).toNat)
  case atStart => exact ⟨0, 0, [], Nat.zero_le _, rfl, rfl, rfl, h0, Kpt.refl _ _ _⟩
  case round =>
    obtain ⟨k, p, pre, hk, rfl, hp, hpre, hJs, hkp⟩ := hrel
    have cs := (World.cell?_of_block (hkp.block Bs hs.1 hs.2)).trans hBs
    have cn := (World.cell?_of_block (hkp.block Bn hb.1 hb.2)).trans hBn
    have hpM : p ≤ M := by have := hp.out; have := HM.out; omega
    by_cases hlt : k < m
    · obtain rfl := hA (by omega)
      have hpl : pre.length = k := by
        have := congrArg List.length hpre.out
        rwa [List.length_map, List.length_range] at this
      obtain ⟨fn, tmps, assign, body, hy, hR⟩ := hY pre ⟨k, hlt⟩ wr.drew (hJd _ _ hJs) (by omega)
      dsimp only at hy
      rw [← hp.out] at hy
      have hlt2 : p + 516 ≤ M := by have := hp.out; have := HM.out; omega
      have hlt3 : p < M := by omega
      have hmn : min (516 : Int) ((M : Int) - (p : Int)) = 516 := by omega
      have hmx : Try.prog.follows .mixedOrders = true := by kernel_rfl
      have hsn : Hid (List.map (fun x => x.1) (pre ++ [(⟨k, hlt⟩ : Fin m)]) = List.range (k + 1)) := by
        show _ = _
        rw [List.map_append, hpre.out, List.range_succ]; rfl
      gi_wp2
      gi_region
      have cs2 : wr.drew.cell? ⟨Bs, 0, none⟩ = some (.slice (some ⟨b, off, none⟩) M c) := cs
      gi_wp2
      refine hR.mono ?_
      rintro e W3 (⟨rfl, hJ3, hk3⟩ | ⟨rfl, hJx3⟩)
      · have hk4 : Kpt g N W W3 := (hkp.trans (show Kpt g N wr wr.drew from ⟨Nat.le_refl _, fun _ _ _ => rfl⟩)).trans hk3
        have cs3 := (World.cell?_of_block (hk4.block Bs hs.1 hs.2)).trans hBs
        have cn3 := (World.cell?_of_block (hk4.block Bn hb.1 hb.2)).trans hBn
        gi_wp2
        go_roundw
        case rel => exact ⟨k + 1, p + 516, _, by omega, by go_num, by show _ = _; have := hp.out; omega, hsn, hJ3, hk4⟩
        case measure => simp [intOf]; omega
      · gi_wp2
        refine bodyPost_ret (results_none rfl _ _ _) rfl ?_
        exact ⟨⟨_, rfl⟩, .inr ⟨_, trivial, hJx3⟩⟩
    · obtain rfl : k = m := by omega
      have hpM2 : p = M := by have := hp.out; have := HM.out; omega
      subst hpM2
      gi_wp2
      go_end0
      exact ⟨⟨_, rfl⟩, .inl ⟨pre, hpre.out, hJs⟩⟩

theorem chunk_stops (n : Nat) (hn : 1 ≤ n) (Bs Bn g N b off m c : Nat) (hs : Bs < N ∧ Bs ≠ g) (hb : Bn < N ∧ Bn ≠ g) (hm : m ≤ 4096) (hc : 516 * m ≤ c) (hc2 : c ≤ maxLen) (A : Option Addr) (hA : 0 < m → A = some ⟨b, off, none⟩)
    (w : World) (hBs : w.cell? ⟨Bs, 0, none⟩ = some (.slice A (516 * m) c)) (hBn : w.cell? ⟨Bn, 0, none⟩ = some (.int .i64 516)) :
    SeqStopsK Fence.wide n Try.prog 38 #[.pointer (some ⟨Bs, 0, none⟩), .pointer (some ⟨Bn, 0, none⟩)] (fun x : Fin m => #[Value.slice (some ⟨b, off + 516 * x.1, none⟩) 516 516]) (Kpt g N)
      (fun ys => ys.map (fun x => x.1) = List.range m) (fun _ => True) m w := fun l J Jx W hW hJ hJx hY h0 =>
  chunk1_in n hn l Bs Bn g N b off m c hs hb hm hc hc2 A hA J Jx (fun pre W h => hJ pre W W.drew none h ⟨rfl, rfl, rfl, Nat.le_refl _, fun _ _ _ => rfl⟩ (fun r e => by cases e)) hY W
    ((hW.cell (p := ⟨Bs, 0, none⟩) (World.block_lt_of_cell? w _ hBs)).trans hBs) ((hW.cell (p := ⟨Bn, 0, none⟩) (World.block_lt_of_cell? w _ hBn)).trans hBn) h0

theorem chunk_any (A : Option Addr) (n c : Nat) (w : World) (g g' : Nat) (hg : g = w.heap.size) (hg' : g' = w.heap.size + 1) :
    Calls Try.prog 31 #[.slice A n c, .int .i64 516] w fun e w' => e = .returned (.func (.func 38) #[] #[.pointer (some ⟨g, 0, none⟩), .pointer (some ⟨g', 0, none⟩)]) ∧ w' = (w.alloc (.cells #[.slice A n c] 23)).alloc (.cells #[.int .i64 516] 3) := by
  subst hg
  subst hg'
  go_enter Try.func31, Try.ntmps31
  go_wp2
  go_ret
  exact ⟨rfl, rfl⟩
end Go.Proofs.Ytcfijppfccfbdaa.walp
