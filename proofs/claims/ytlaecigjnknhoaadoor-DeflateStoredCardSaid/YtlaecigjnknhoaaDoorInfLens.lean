/-
  The contract of takeLengthsCode. My own text.
-/
import Derived.Test.YtlaecigjnknhoaaDoorInfFixed
import Derived.Test.YtlaecigjnknhoaaDoorInfSym2
namespace Go.Proofs.YtlaecigjnknhoaaDoor.infp
open Go.RowKit Go.Proofs.YtlaecigjnknhoaaDoor.base Go.Proofs.YtlaecigjnknhoaaDoor.num Go.Proofs.YtlaecigjnknhoaaDoor.bitnum Go.Proofs.YtlaecigjnknhoaaDoor.bitp Go.Proofs.YtlaecigjnknhoaaDoor.huffnum Go.Proofs.YtlaecigjnknhoaaDoor.huffp Go.Proofs.YtlaecigjnknhoaaDoor.infnum
set_option linter.unusedVariables false

/-- the package's order of lengths lies in its block -/
def Ord (w : World) : Prop := ∀ j s, infnum.order[j]? = some s → w.cell? ⟨1, j, none⟩ = some (iv (s : Nat))
theorem Ord.keep {w w' : World} (h : Ord w) (hk : w'.heap[1]? = w.heap[1]?) : Ord w' := fun j s hj => (World.cell?_of_block hk).trans (h j s hj)
theorem order_idx : ∀ j, j < 19 → infnum.order.idxOf (infnum.order.getD j 0) = j ∧ infnum.order.getD j 0 < 19 := by decide +kernel
theorem order_back : ∀ s, s < 19 → infnum.order.getD (infnum.order.idxOf s) 0 = s := by decide +kernel
theorem laid_len (l : List Nat) : (laid l).length = 19 := by simp [laid]
theorem laid_get (l : List Nat) {s : Nat} (h : s < 19) : (laid l)[s]? = some (l.getD (infnum.order.idxOf s) 0) := by
  simp [laid, h]
theorem laid_nil : laid [] = List.replicate 19 0 := by decide +kernel
theorem laid_more (l : List Nat) (x : Nat) (h : l.length < 19) : (laid l).set (infnum.order.getD l.length 0) x = laid (l ++ [x]) := by
  have ho := order_idx l.length h
  apply List.ext_getElem?
  intro s
  by_cases hs : s < 19
  · rw [laid_get _ hs]
    by_cases e : infnum.order.getD l.length 0 = s
    · subst e
      rw [List.getElem?_set_self (by rw [laid_len]; exact hs), ho.1]
      simp [List.getD]
    · rw [List.getElem?_set_ne e, laid_get _ hs]
      have hne : infnum.order.idxOf s ≠ l.length := fun e' => e (by rw [← e']; exact order_back s hs)
      congr 1
      rw [List.getD_eq_getElem?_getD, List.getD_eq_getElem?_getD]
      rcases Nat.lt_or_ge (infnum.order.idxOf s) l.length with h1 | h1
      · rw [List.getElem?_append_left h1]
      · rw [List.getElem?_eq_none (by omega), List.getElem?_eq_none (by rw [List.length_append, List.length_singleton]; omega)]
  · rw [List.getElem?_eq_none (by rw [List.length_set, laid_len]; omega), List.getElem?_eq_none (by rw [laid_len]; omega)]
/-- so far l was taken; what is still to come tells the whole -/
def Run3 (k U T p : Nat) (l : List Nat) (p' : Nat) : Prop :=
  times (take 3) k U T p = match times (take 3) (k - l.length) U T p' with
    | .ok (m, q) => .ok (l ++ m, q)
    | .error e => .error e
theorem Run3.start (k U T p : Nat) : Run3 k U T p [] p := by
  unfold Run3
  simp only [List.length_nil, Nat.sub_zero, List.nil_append]
  cases times (take 3) k U T p with
  | ok x => rfl
  | error e => rfl
theorem Run3.more {k U T p p' x p2 : Nat} {l : List Nat} (h : Run3 k U T p l p') (hl : l.length < k) (hx : take 3 U T p' = .ok (x, p2)) : Run3 k U T p (l ++ [x]) p2 := by
  unfold Run3 at h ⊢
  rw [h, show k - l.length = (k - (l ++ [x]).length) + 1 by rw [List.length_append, List.length_singleton]; omega, times, also_ok hx]
  unfold also
  cases times (take 3) (k - (l ++ [x]).length) U T p2 with
  | error e => rfl
  | ok y => simp [give]
theorem Run3.stop {k U T p p' e : Nat} {l : List Nat} (h : Run3 k U T p l p') (hl : l.length < k) (hx : take 3 U T p' = .error e) : times (take 3) k U T p = .error e := by
  unfold Run3 at h
  rw [h, show k - l.length = (k - l.length - 1) + 1 by omega, times, also_no hx]
theorem Run3.all {k U T p p' : Nat} {l : List Nat} (h : Run3 k U T p l p') (hl : l.length = k) : times (take 3) k U T p = .ok (l, p') := by
  unfold Run3 at h
  rw [h, hl, Nat.sub_self, times]
  simp [give]
theorem zero_19 (W : World) : (zeroValue 122).run Tryd.prog W = .ok (.agg (Array.replicate 19 (.int .i64 0))) W := by kernel_rfl
theorem CodeOfIs.no {args : Array Value} {w : World} {ls : List Nat} {b : Bool} (h : Calls Tryd.prog 103 args w (CodeOfIs w ls b)) (hm : mayBe ls b = false) : Calls Tryd.prog 103 args w fun e w' => e = .returned (.tuple #[.pointer none, .int .i64 12]) ∧ Fresh w w' :=
  h.mono fun e w' k => by unfold CodeOfIs at k; rwa [if_pos hm] at k
theorem CodeOfIs.yes {args : Array Value} {w : World} {ls : List Nat} {b : Bool} (h : Calls Tryd.prog 103 args w (CodeOfIs w ls b)) (hm : ¬ mayBe ls b = false) : Calls Tryd.prog 103 args w (MadeIs w ls) :=
  h.mono fun e w' k => by unfold CodeOfIs at k; rwa [if_neg hm] at k
/-- a code and an error -/
def CodeIs (w : World) (g : Nat) (v : V) (q : Nat) (bs : List UInt8) (p : Nat) (rl : List Nat) (r : Except Nat (List Nat × Nat)) (e : Ending) (w' : World) : Prop :=
  match r with
  | .ok (ls, p') => ∃ c cbl, e = .returned (.tuple #[ptr c, .int .i64 0]) ∧ CodeAt w' c ls cbl ∧ Fit ls ∧ SrcIs w g v q bs p' rl w'
  | .error k => e = .returned (.tuple #[.pointer none, .int .i64 (k : Nat)]) ∧ ∃ p', p ≤ p' ∧ SrcIs w g v q bs p' rl w'
theorem mayBe_fit {ls : List Nat} {b : Bool} (h15 : ∀ x ∈ ls, x ≤ 15) (h : ¬ mayBe ls b = false) : Fit ls := by
  refine ⟨?_, h15⟩
  unfold mayBe at h
  refine Decidable.byContradiction fun hn => h ?_
  rw [decide_eq_false hn]; rfl
theorem laid_le {l : List Nat} {m : Nat} (h : ∀ x ∈ l, x ≤ m) : ∀ x ∈ laid l, x ≤ m := by
  intro x hx
  unfold laid at hx
  obtain ⟨s, _, rfl⟩ := List.mem_map.1 hx
  rw [List.getD_eq_getElem?_getD]
  cases hl : l[infnum.order.idxOf s]? with
  | none => simp
  | some y => exact h y (List.mem_of_getElem? hl)
theorem Ord.cell {w : World} (h : Ord w) {j s : Nat} (hj : infnum.order[j]? = some s) : w.cell? ⟨1, j, none⟩ = some (iv (s : Nat)) := h j s hj
section
variable {w : World} {g q p : Nat} {v : V} {bs : List UInt8} {rl : List Nat}
theorem Src.aside {w' : World} (h : Src w g v q bs p rl) {L : Nat} {T : TypeId} (hb : Ty w L T) (h1 : T ≠ tInf) (h2 : T ≠ tRdr) (h3 : T ≠ 5) (k : Turn [L] [L] w w') : Src w' g v q bs p rl := by
  have hg : g ≠ L := fun e => by subst e; exact h1 (hb.uniq (Bk.ty h.inf))
  have hr : L ∉ rl := fun hx => by
    rcases RdrAt.ty h.rdr L hx with t | t
    · exact h2 (hb.uniq t)
    · exact h3 (hb.uniq t)
  exact ⟨h.inf.old (k.block g h.inf.inside (by simpa using hg)), h.bit, h.rdr.turn k (fun b hb' hx => by rw [List.mem_singleton] at hx; subst hx; exact hr hb'), h.le, h.sm⟩
theorem Src.offTy (h : Src w g v q bs p rl) {L : Nat} {T : TypeId} (hb : Ty w L T) (h1 : T ≠ tInf) (h2 : T ≠ tRdr) (h3 : T ≠ 5) : L ∉ g :: rl := fun hx => by
  rcases List.mem_cons.1 hx with e | hx
  · subst e; exact h1 (hb.uniq (Bk.ty h.inf))
  · rcases RdrAt.ty h.rdr L hx with t | t
    · exact h2 (hb.uniq t)
    · exact h3 (hb.uniq t)
set_option maxHeartbeats 4000000 in
set_option maxRecDepth 100000 in
theorem takeLengthsCode_any (h : Src w g v q bs p rl) (hO : Ord w) (hg : 1 < g) (hrl : ∀ b ∈ rl, 1 < b) (k : Nat) (hk : k ≤ 19) {r : Except Nat (List Nat × Nat)} (hr : lensP k (num bs) (8 * bs.length) p = r) :
    Calls Tryd.prog 83 #[ptr g, .int .i64 k] w (CodeIs w g v q bs p rl r) := by
  have hz := zero_19
  have HR := Lib.hid hr
  have hi19 : (k : Int) ≤ 19 := by omega
  have hw0 : 1 < w.heap.size := Nat.lt_trans hg h.inf.inside
  clear hr
  go_enter Tryd.func83, Tryd.ntmps83
  go_wp2
  have hL : Bk (w.alloc (.cells (Array.replicate 19 (.int .i64 0)) 122)) w.heap.size 122 (nv (laid [])) := by
    have := Bk.made w 122 (Array.replicate 19 (.int .i64 0))
    rw [laid_nil, nv, List.map_replicate]
    simpa using this
  have hT0 : Turn (g :: rl) (w.heap.size :: g :: rl) w (w.alloc (.cells (Array.replicate 19 (.int .i64 0)) 122)) := (Turn.fresh (Fresh.alloc _ _)).to fun x hx => by
    rcases List.mem_cons.1 hx with rfl | hx
    · exact .inr (Nat.le_refl _)
    · exact .inl hx
  have h0 := h.fresh (Fresh.alloc w (.cells (Array.replicate 19 (.int .i64 0)) 122))
  have HL := Lib.hid hL
  have HT0 := Lib.hid hT0
  have H0 := Lib.hid h0
  clear hL hT0 h0 hz
  go_loopw [14] (fun i wr => ∃ (j : Nat) (l : List Nat) (pj : Nat) (rlj : List Nat), j ≤ k ∧ i = .int .i64 (j : Nat) ∧ Hid (l.length = j) ∧ Bk wr w.heap.size 122 (nv (laid l)) ∧ Src wr g v q bs pj rlj ∧ Hid (Run3 k (num bs) (8 * bs.length) p l pj) ∧ Hid (∀ x ∈ l, x ≤ 7) ∧ Hid (Turn (g :: rl) (w.heap.size :: g :: rlj) w wr) ∧ p ≤ pj) (fun i _ => k - (intOf i).toNat)
  case atStart => exact ⟨0, [], p, rl, by omega, rfl, rfl, HL.out, H0.out, Run3.start _ _ _ _, by simp [Hid], HT0.out, Nat.le_refl _⟩
  case round =>
    obtain ⟨j, l, pj, rlj, hj, rfl, hl, hB, hS, hrun, h7, hT, hpp⟩ := hrel
    by_cases hlt : j < k
    · have hO1 : Ord wr := hO.keep (hT.out.block 1 hw0 (fun hx => by
        rcases List.mem_cons.1 hx with e | hx
        · omega
        · have := hrl 1 hx; omega))
      obtain ⟨s, hs⟩ : ∃ s, infnum.order.getD j 0 = s := ⟨_, rfl⟩
      have hs18 : s < 19 := by rw [← hs]; exact (order_idx j (by omega)).2
      have hoj : infnum.order[j]? = some s := by
        rw [List.getD_eq_getElem?_getD] at hs
        have hlen : j < infnum.order.length := by show j < 19; omega
        rw [List.getElem?_eq_getElem hlen] at hs ⊢
        exact congrArg some hs
      have hcs := hO1.cell hoj
      have hsi : (s : Int) ≤ 18 := by omega
      have hc2 := hS.bits2
      have hgl := laid_get l hs18
      have HGL := Lib.hid hgl
      clear hgl
      have hty : Ty wr w.heap.size 122 := Bk.ty hB
      have HS := Lib.hid hs
      have HOJ := Lib.hid hoj
      clear hs hoj hO1 hs18
      cases ht : take 3 (num bs) (8 * bs.length) pj with
      | error e1 =>
        have he := take_err ht
        subst he
        have hr3 : r = .error 3 := by
          rw [← HR.out, lensP, also_no (hrun.out.stop (by rw [hl.out]; exact hlt) ht)]
        subst hr3
        have hbits := bits_take_no q bs pj rlj 3 3 wr hS.rdr hS.le hS.sm (by omega) ht
        go_wp2_with (go_at_call 52; refine hbits.mono ?_; rintro e w1 ⟨rfl, hR1⟩)
        go_ret2
        obtain ⟨rl2, hS2, hT2⟩ := hS.moved hR1 hS.le
        exact ⟨rfl, pj, hpp, rl2, hS2, (hT.out.trans (turn_cons hT2 w.heap.size)).to fun x hx => (hT.out.trans (turn_cons hT2 w.heap.size)).sub x (List.mem_cons_of_mem _ hx)⟩
      | ok x =>
        obtain ⟨x, p2⟩ := x
        obtain ⟨hx8, hp2, hle2⟩ := take_lt ht
        have hbits := bits_take_ok q bs pj rlj 3 x p2 wr hS.rdr hS.sm (by omega) ht
        have hrun2 := hrun.out.more (by rw [hl.out]; exact hlt) ht
        have hx7 : x ≤ 7 := by omega
        have hset := laid_more l x (by rw [hl.out]; omega)
        rw [hl.out, HS.out] at hset
        have HRUN2 := Lib.hid hrun2
        have HSET := Lib.hid hset
        have HP2 := Lib.hid hp2
        clear hrun2 hset ht hx8 hp2
        go_wp2_with (go_at_call 52; refine hbits.mono ?_; rintro e w1 ⟨rfl, hR1⟩; obtain ⟨rl2, hS2, hT2⟩ := hS.moved hR1 hle2; have hB2 : Bk w1 w.heap.size 122 (nv (laid l)) := hB.old (hT2.block _ hB.inside (hS.offTy hty (by decide) (by decide) (by decide))); have hcl2 : w1.cell? ⟨w.heap.size, s, none⟩ = some (iv (l.getD (infnum.order.idxOf s) 0 : Nat)) := hB2.cell (by rw [List.getElem?_map, HGL.out]; rfl); have hfz2 := hB2.free s)
        go_roundw
        case rel =>
          have hput := hB2.put s (iv (x : Nat))
          have hTw : Turn [w.heap.size] [w.heap.size] w1 (w1.setCell ⟨w.heap.size, s, none⟩ (iv (x : Nat))) := Turn.but (But.put _ _) (by simp)
          refine ⟨j + 1, l ++ [x], p2, rl2, by omega, by go_num, by show _ = _; rw [List.length_append, hl.out]; rfl, ?_, hS2.aside (Bk.ty hB2) (by decide) (by decide) (by decide) hTw, HRUN2, ?_, (hT.out.trans (turn_cons hT2 w.heap.size)).trans (Turn.but (But.put _ _) (by simp)), by have := HP2.out; omega⟩
          · rw [← HSET.out]
            rw [show (iv (x : Nat)) = (fun x : Nat => iv (x : Int)) x from rfl, ← List.map_set] at hput
            exact hput
          · intro y hy
            rcases List.mem_append.1 hy with hy | hy
            · exact h7.out y hy
            · rw [List.mem_singleton] at hy; subst hy; exact hx7
        case measure => simp [intOf]; omega
    · have hj2 : j = k := by omega
      subst hj2
      have hall := hrun.out.all hl.out
      have hr2 : r = if mayBe (laid l) false = false then .error 12 else .ok (laid l, pj) := by
        rw [← HR.out, lensP, also_ok hall]
        split <;> rfl
      have h15 : ∀ x ∈ laid l, x ≤ 15 := laid_le fun x hx => by have := h7.out x hx; omega
      have hrd : Rd wr wr.heap.size (some ⟨w.heap.size, 0, none⟩) 19 (nv (laid l)) := by
        have := Bk.rd hB (off := 0) (n := 19) (by rw [List.length_map, laid_len]; omega)
        rw [List.drop_zero, List.take_of_length_le (by rw [List.length_map, laid_len]; omega)] at this
        exact this
      have hco := codeOf_any (some ⟨w.heap.size, 0, none⟩) 19 19 (laid l) false wr wr.heap.size hrd (Nat.le_refl _) (by omega) h15 1 rfl
      have HH15 := Lib.hid h15
      have HR2 := Lib.hid hr2
      clear hr2
      clear hall hrd h15
      have hT2 : Turn (g :: rl) (g :: rlj) w wr := hT.out.to fun x hx => hT.out.sub x (List.mem_cons_of_mem _ hx)
      have HT2 := Lib.hid hT2
      clear hT2
      by_cases hm : mayBe (laid l) false = false
      · have hr3 : r = .error 12 := by rw [HR2.out, if_pos hm]
        subst hr3
        have hc2 := CodeOfIs.no hco hm
        clear hco
        go_wp2_with (go_at_call 103; refine hc2.mono ?_; rintro e w1 ⟨rfl, hf⟩)
        go_ret2
        exact ⟨rfl, pj, hpp, rlj, hS.fresh hf, HT2.out.trans (Turn.fresh hf)⟩
      · have hr3 : r = .ok (laid l, pj) := by rw [HR2.out, if_neg hm]
        subst hr3
        have hc2 := CodeOfIs.yes hco hm
        clear hco
        go_wp2_with (go_at_call 103; refine hc2.mono ?_; rintro e w1 ⟨c, cbl, rfl, hCc, hSc⟩)
        go_ret2
        exact ⟨c, cbl, rfl, hCc, mayBe_fit HH15.out hm, rlj, hS.fresh hSc.1, HT2.out.trans (Turn.fresh hSc.1)⟩
end
end Go.Proofs.YtlaecigjnknhoaaDoor.infp
