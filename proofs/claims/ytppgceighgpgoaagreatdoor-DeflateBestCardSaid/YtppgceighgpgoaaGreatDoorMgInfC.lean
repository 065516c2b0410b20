import Derived.Test.YtppgceighgpgoaaGreatDoorMgInfA
import Derived.Test.YtppgceighgpgoaaGreatDoorMgInfB
/- Several of my own texts, one behind the other. -/
/-
  The contract of takeLengthsCode. My own text.
-/
namespace Go.Proofs.YtppgceighgpgoaaGreatDoor.infp
open Go.RowKit Go.Proofs.YtppgceighgpgoaaGreatDoor.base Go.Proofs.YtppgceighgpgoaaGreatDoor.num Go.Proofs.YtppgceighgpgoaaGreatDoor.bitnum Go.Proofs.YtppgceighgpgoaaGreatDoor.bitp Go.Proofs.YtppgceighgpgoaaGreatDoor.huffnum Go.Proofs.YtppgceighgpgoaaGreatDoor.huffp Go.Proofs.YtppgceighgpgoaaGreatDoor.infnum
set_option linter.unusedVariables false

/-- the package's order of lengths lies in its block -/
def Ord (w : World) : Prop := ∀ j s, infnum.order[j]? = some s → w.cell? ⟨1, j, none⟩ = some (iv (s : Nat))
theorem Ord.keep {w w' : World} (h : Ord w) (hk : w'.heap[1]? = w.heap[1]?) : Ord w' := fun j s hj => (World.cell?_of_block hk).trans (h j s hj)
theorem order_idx : ∀ j, j < 19 → infnum.order.idxOf (infnum.order.getD j 0) = j ∧ infnum.order.getD j 0 < 19 := by decide +kernel
theorem order_back : ∀ s, s < 19 → infnum.order.getD (infnum.order.idxOf s) 0 = s := by decide +kernel
theorem laid_len (l : List Nat) : (laid l).length = 19 := by simp [laid]
theorem laid_get (l : List Nat) {s : Nat} (h : s < 19) : (laid l)[s]? = some (l.getD (infnum.order.idxOf s) 0) := by
  simp [laid, h]
theorem laid_nil : laid [] = List.replicate 19 0 := by decide +kernel
theorem laid_more (l : List Nat) (x : Nat) (h : l.length < 19) : (laid l).set (infnum.order.getD l.length 0) x = laid (l ++ [x]) := by
  have ho := order_idx l.length h
  apply List.ext_getElem?
  intro s
  by_cases hs : s < 19
  · rw [laid_get _ hs]
    by_cases e : infnum.order.getD l.length 0 = s
    · subst e
      rw [List.getElem?_set_self (by rw [laid_len]; exact hs), ho.1]
      simp [List.getD]
    · rw [List.getElem?_set_ne e, laid_get _ hs]
      have hne : infnum.order.idxOf s ≠ l.length := fun e' => e (by rw [← e']; exact order_back s hs)
      congr 1
      rw [List.getD_eq_getElem?_getD, List.getD_eq_getElem?_getD]
      rcases Nat.lt_or_ge (infnum.order.idxOf s) l.length with h1 | h1
      · rw [List.getElem?_append_left h1]
      · rw [List.getElem?_eq_none (by omega), List.getElem?_eq_none (by rw [List.length_append, List.length_singleton]; omega)]
  · rw [List.getElem?_eq_none (by rw [List.length_set, laid_len]; omega), List.getElem?_eq_none (by rw [laid_len]; omega)]
/-- so far l was taken; what is still to come tells the whole -/
def Run3 (k U T p : Nat) (l : List Nat) (p' : Nat) : Prop :=
  times (take 3) k U T p = match times (take 3) (k - l.length) U T p' with
    | .ok (m, q) => .ok (l ++ m, q)
    | .error e => .error e
theorem Run3.start (k U T p : Nat) : Run3 k U T p [] p := by
  unfold Run3
  simp only [List.length_nil, Nat.sub_zero, List.nil_append]
  cases times (take 3) k U T p with
  | ok x => rfl
  | error e => rfl
theorem Run3.more {k U T p p' x p2 : Nat} {l : List Nat} (h : Run3 k U T p l p') (hl : l.length < k) (hx : take 3 U T p' = .ok (x, p2)) : Run3 k U T p (l ++ [x]) p2 := by
  unfold Run3 at h ⊢
  rw [h, show k - l.length = (k - (l ++ [x]).length) + 1 by rw [List.length_append, List.length_singleton]; omega, times, also_ok hx]
  unfold also
  cases times (take 3) (k - (l ++ [x]).length) U T p2 with
  | error e => rfl
  | ok y => simp [give]
theorem Run3.stop {k U T p p' e : Nat} {l : List Nat} (h : Run3 k U T p l p') (hl : l.length < k) (hx : take 3 U T p' = .error e) : times (take 3) k U T p = .error e := by
  unfold Run3 at h
  rw [h, show k - l.length = (k - l.length - 1) + 1 by omega, times, also_no hx]
theorem Run3.all {k U T p p' : Nat} {l : List Nat} (h : Run3 k U T p l p') (hl : l.length = k) : times (take 3) k U T p = .ok (l, p') := by
  unfold Run3 at h
  rw [h, hl, Nat.sub_self, times]
  simp [give]
theorem zero_19 (W : World) : (zeroValue 110).run Tryz.prog W = .ok (.agg (Array.replicate 19 (.int .i64 0))) W := by kernel_rfl
theorem CodeOfIs.no {args : Array Value} {w : World} {ls : List Nat} {b : Bool} (h : Calls Tryz.prog 107 args w (CodeOfIs w ls b)) (hm : mayBe ls b = false) : Calls Tryz.prog 107 args w fun e w' => e = .returned (.tuple #[.pointer none, .int .i64 12]) ∧ Fresh w w' :=
  h.mono fun e w' k => by unfold CodeOfIs at k; rwa [if_pos hm] at k
theorem CodeOfIs.yes {args : Array Value} {w : World} {ls : List Nat} {b : Bool} (h : Calls Tryz.prog 107 args w (CodeOfIs w ls b)) (hm : ¬ mayBe ls b = false) : Calls Tryz.prog 107 args w (MadeIs w ls) :=
  h.mono fun e w' k => by unfold CodeOfIs at k; rwa [if_neg hm] at k
/-- a code and an error -/
def CodeIs (w : World) (g : Nat) (v : V) (q : Nat) (bs : List UInt8) (p : Nat) (rl : List Nat) (r : Except Nat (List Nat × Nat)) (e : Ending) (w' : World) : Prop :=
  match r with
  | .ok (ls, p') => ∃ c cbl, e = .returned (.tuple #[ptr c, .int .i64 0]) ∧ CodeAt w' c ls cbl ∧ Fit ls ∧ SrcIs w g v q bs p' rl w'
  | .error k => e = .returned (.tuple #[.pointer none, .int .i64 (k : Nat)]) ∧ ∃ p', p ≤ p' ∧ SrcIs w g v q bs p' rl w'
theorem mayBe_fit {ls : List Nat} {b : Bool} (h15 : ∀ x ∈ ls, x ≤ 15) (h : ¬ mayBe ls b = false) : Fit ls := by
  refine ⟨?_, h15⟩
  unfold mayBe at h
  refine Decidable.byContradiction fun hn => h ?_
  rw [decide_eq_false hn]; rfl
theorem laid_le {l : List Nat} {m : Nat} (h : ∀ x ∈ l, x ≤ m) : ∀ x ∈ laid l, x ≤ m := by
  intro x hx
  unfold laid at hx
  obtain ⟨s, _, rfl⟩ := List.mem_map.1 hx
  rw [List.getD_eq_getElem?_getD]
  cases hl : l[infnum.order.idxOf s]? with
  | none => simp
  | some y => exact h y (List.mem_of_getElem? hl)
theorem Ord.cell {w : World} (h : Ord w) {j s : Nat} (hj : infnum.order[j]? = some s) : w.cell? ⟨1, j, none⟩ = some (iv (s : Nat)) := h j s hj
section
variable {w : World} {g q p : Nat} {v : V} {bs : List UInt8} {rl : List Nat}
theorem Src.aside {w' : World} (h : Src w g v q bs p rl) {L : Nat} {T : TypeId} (hb : Ty w L T) (h1 : T ≠ tInf) (h2 : T ≠ tRdr) (h3 : T ≠ 5) (k : Turn [L] [L] w w') : Src w' g v q bs p rl := by
  have hg : g ≠ L := fun e => by subst e; exact h1 (hb.uniq (Bk.ty h.inf))
  have hr : L ∉ rl := fun hx => by
    rcases RdrAt.ty h.rdr L hx with t | t
    · exact h2 (hb.uniq t)
    · exact h3 (hb.uniq t)
  exact ⟨h.inf.old (k.block g h.inf.inside (by simpa using hg)), h.bit, h.rdr.turn k (fun b hb' hx => by rw [List.mem_singleton] at hx; subst hx; exact hr hb'), h.le, h.sm⟩
theorem Src.offTy (h : Src w g v q bs p rl) {L : Nat} {T : TypeId} (hb : Ty w L T) (h1 : T ≠ tInf) (h2 : T ≠ tRdr) (h3 : T ≠ 5) : L ∉ g :: rl := fun hx => by
  rcases List.mem_cons.1 hx with e | hx
  · subst e; exact h1 (hb.uniq (Bk.ty h.inf))
  · rcases RdrAt.ty h.rdr L hx with t | t
    · exact h2 (hb.uniq t)
    · exact h3 (hb.uniq t)
set_option maxHeartbeats 4000000 in
set_option maxRecDepth 100000 in
theorem takeLengthsCode_any (h : Src w g v q bs p rl) (hO : Ord w) (hg : 1 < g) (hrl : ∀ b ∈ rl, 1 < b) (k : Nat) (hk : k ≤ 19) {r : Except Nat (List Nat × Nat)} (hr : lensP k (num bs) (8 * bs.length) p = r) :
    Calls Tryz.prog 94 #[ptr g, .int .i64 k] w (CodeIs w g v q bs p rl r) := by
  have hz := zero_19
  have HR := Lib.hid hr
  have hi19 : (k : Int) ≤ 19 := by omega
  have hw0 : 1 < w.heap.size := Nat.lt_trans hg h.inf.inside
  clear hr
  go_enter Tryz.func94, Tryz.ntmps94
  go_wp2
  have hL : Bk (w.alloc (.cells (Array.replicate 19 (.int .i64 0)) 110)) w.heap.size 110 (nv (laid [])) := by
    have := Bk.made w 110 (Array.replicate 19 (.int .i64 0))
    rw [laid_nil, nv, List.map_replicate]
    simpa using this
  have hT0 : Turn (g :: rl) (w.heap.size :: g :: rl) w (w.alloc (.cells (Array.replicate 19 (.int .i64 0)) 110)) := (Turn.fresh (Fresh.alloc _ _)).to fun x hx => by
    rcases List.mem_cons.1 hx with rfl | hx
    · exact .inr (Nat.le_refl _)
    · exact .inl hx
  have h0 := h.fresh (Fresh.alloc w (.cells (Array.replicate 19 (.int .i64 0)) 110))
  have HL := Lib.hid hL
  have HT0 := Lib.hid hT0
  have H0 := Lib.hid h0
  clear hL hT0 h0 hz
  go_loopw [14] (fun i wr => ∃ (j : Nat) (l : List Nat) (pj : Nat) (rlj : List Nat), j ≤ k ∧ i = .int .i64 (j : Nat) ∧ Hid (l.length = j) ∧ Bk wr w.heap.size 110 (nv (laid l)) ∧ Src wr g v q bs pj rlj ∧ Hid (Run3 k (num bs) (8 * bs.length) p l pj) ∧ Hid (∀ x ∈ l, x ≤ 7) ∧ Hid (Turn (g :: rl) (w.heap.size :: g :: rlj) w wr) ∧ p ≤ pj) (fun i _ => k - (intOf i).toNat)
  case atStart => exact ⟨0, [], p, rl, by omega, rfl, rfl, HL.out, H0.out, Run3.start _ _ _ _, by simp [Hid], HT0.out, Nat.le_refl _⟩
  case round =>
    obtain ⟨j, l, pj, rlj, hj, rfl, hl, hB, hS, hrun, h7, hT, hpp⟩ := hrel
    by_cases hlt : j < k
    · have hO1 : Ord wr := hO.keep (hT.out.block 1 hw0 (fun hx => by
        rcases List.mem_cons.1 hx with e | hx
        · omega
        · have := hrl 1 hx; omega))
      obtain ⟨s, hs⟩ : ∃ s, infnum.order.getD j 0 = s := ⟨_, rfl⟩
      have hs18 : s < 19 := by rw [← hs]; exact (order_idx j (by omega)).2
      have hoj : infnum.order[j]? = some s := by
        rw [List.getD_eq_getElem?_getD] at hs
        have hlen : j < infnum.order.length := by show j < 19; omega
        rw [List.getElem?_eq_getElem hlen] at hs ⊢
        exact congrArg some hs
      have hcs := hO1.cell hoj
      have hsi : (s : Int) ≤ 18 := by omega
      have hc2 := hS.bits2
      have hgl := laid_get l hs18
      have HGL := Lib.hid hgl
      clear hgl
      have hty : Ty wr w.heap.size 110 := Bk.ty hB
      have HS := Lib.hid hs
      have HOJ := Lib.hid hoj
      clear hs hoj hO1 hs18
      cases ht : take 3 (num bs) (8 * bs.length) pj with
      | error e1 =>
        have he := take_err ht
        subst he
        have hr3 : r = .error 3 := by
          rw [← HR.out, lensP, also_no (hrun.out.stop (by rw [hl.out]; exact hlt) ht)]
        subst hr3
        have hbits := bits_take_no q bs pj rlj 3 3 wr hS.rdr hS.le hS.sm (by omega) ht
        go_wp2_with (go_at_call 76; refine hbits.mono ?_; rintro e w1 ⟨rfl, hR1⟩)
        go_ret2
        obtain ⟨rl2, hS2, hT2⟩ := hS.moved hR1 hS.le
        exact ⟨rfl, pj, hpp, rl2, hS2, (hT.out.trans (turn_cons hT2 w.heap.size)).to fun x hx => (hT.out.trans (turn_cons hT2 w.heap.size)).sub x (List.mem_cons_of_mem _ hx)⟩
      | ok x =>
        obtain ⟨x, p2⟩ := x
        obtain ⟨hx8, hp2, hle2⟩ := take_lt ht
        have hbits := bits_take_ok q bs pj rlj 3 x p2 wr hS.rdr hS.sm (by omega) ht
        have hrun2 := hrun.out.more (by rw [hl.out]; exact hlt) ht
        have hx7 : x ≤ 7 := by omega
        have hset := laid_more l x (by rw [hl.out]; omega)
        rw [hl.out, HS.out] at hset
        have HRUN2 := Lib.hid hrun2
        have HSET := Lib.hid hset
        have HP2 := Lib.hid hp2
        clear hrun2 hset ht hx8 hp2
        go_wp2_with (go_at_call 76; refine hbits.mono ?_; rintro e w1 ⟨rfl, hR1⟩; obtain ⟨rl2, hS2, hT2⟩ := hS.moved hR1 hle2; have hB2 : Bk w1 w.heap.size 110 (nv (laid l)) := hB.old (hT2.block _ hB.inside (hS.offTy hty (by decide) (by decide) (by decide))); have hcl2 : w1.cell? ⟨w.heap.size, s, none⟩ = some (iv (l.getD (infnum.order.idxOf s) 0 : Nat)) := hB2.cell (by rw [List.getElem?_map, HGL.out]; rfl); have hfz2 := hB2.free s)
        go_roundw
        case rel =>
          have hput := hB2.put s (iv (x : Nat))
          have hTw : Turn [w.heap.size] [w.heap.size] w1 (w1.setCell ⟨w.heap.size, s, none⟩ (iv (x : Nat))) := Turn.but (But.put _ _) (by simp)
          refine ⟨j + 1, l ++ [x], p2, rl2, by omega, by go_num, by show _ = _; rw [List.length_append, hl.out]; rfl, ?_, hS2.aside (Bk.ty hB2) (by decide) (by decide) (by decide) hTw, HRUN2, ?_, (hT.out.trans (turn_cons hT2 w.heap.size)).trans (Turn.but (But.put _ _) (by simp)), by have := HP2.out; omega⟩
          · rw [← HSET.out]
            rw [show (iv (x : Nat)) = (fun x : Nat => iv (x : Int)) x from rfl, ← List.map_set] at hput
            exact hput
          · intro y hy
            rcases List.mem_append.1 hy with hy | hy
            · exact h7.out y hy
            · rw [List.mem_singleton] at hy; subst hy; exact hx7
        case measure => simp [intOf]; omega
    · have hj2 : j = k := by omega
      subst hj2
      have hall := hrun.out.all hl.out
      have hr2 : r = if mayBe (laid l) false = false then .error 12 else .ok (laid l, pj) := by
        rw [← HR.out, lensP, also_ok hall]
        split <;> rfl
      have h15 : ∀ x ∈ laid l, x ≤ 15 := laid_le fun x hx => by have := h7.out x hx; omega
      have hrd : Rd wr wr.heap.size (some ⟨w.heap.size, 0, none⟩) 19 (nv (laid l)) := by
        have := Bk.rd hB (off := 0) (n := 19) (by rw [List.length_map, laid_len]; omega)
        rw [List.drop_zero, List.take_of_length_le (by rw [List.length_map, laid_len]; omega)] at this
        exact this
      have hco := codeOf_any (some ⟨w.heap.size, 0, none⟩) 19 19 (laid l) false wr wr.heap.size hrd (Nat.le_refl _) (by omega) h15 1 rfl
      have HH15 := Lib.hid h15
      have HR2 := Lib.hid hr2
      clear hr2
      clear hall hrd h15
      have hT2 : Turn (g :: rl) (g :: rlj) w wr := hT.out.to fun x hx => hT.out.sub x (List.mem_cons_of_mem _ hx)
      have HT2 := Lib.hid hT2
      clear hT2
      by_cases hm : mayBe (laid l) false = false
      · have hr3 : r = .error 12 := by rw [HR2.out, if_pos hm]
        subst hr3
        have hc2 := CodeOfIs.no hco hm
        clear hco
        go_wp2_with (go_at_call 107; refine hc2.mono ?_; rintro e w1 ⟨rfl, hf⟩)
        go_ret2
        exact ⟨rfl, pj, hpp, rlj, hS.fresh hf, HT2.out.trans (Turn.fresh hf)⟩
      · have hr3 : r = .ok (laid l, pj) := by rw [HR2.out, if_neg hm]
        subst hr3
        have hc2 := CodeOfIs.yes hco hm
        clear hco
        go_wp2_with (go_at_call 107; refine hc2.mono ?_; rintro e w1 ⟨c, cbl, rfl, hCc, hSc⟩)
        go_ret2
        exact ⟨c, cbl, rfl, hCc, mayBe_fit HH15.out hm, rlj, hS.fresh hSc.1, HT2.out.trans (Turn.fresh hSc.1)⟩
end
end Go.Proofs.YtppgceighgpgoaaGreatDoor.infp
/-
  The contract of takeLengths. My own text.
-/
namespace Go.Proofs.YtppgceighgpgoaaGreatDoor.infp
open Go.RowKit Go.Proofs.YtppgceighgpgoaaGreatDoor.base Go.Proofs.YtppgceighgpgoaaGreatDoor.num Go.Proofs.YtppgceighgpgoaaGreatDoor.bitnum Go.Proofs.YtppgceighgpgoaaGreatDoor.bitp Go.Proofs.YtppgceighgpgoaaGreatDoor.huffnum Go.Proofs.YtppgceighgpgoaaGreatDoor.huffp Go.Proofs.YtppgceighgpgoaaGreatDoor.infnum
set_option linter.unusedVariables false

/-- how long a slice is -/
def lenS : Value → Nat
  | .slice _ n _ => n
  | _ => 0
/-- the length that a symbol tells, behind l -/
def fill (k : Nat) (l : List Nat) : Nat := if k = 16 then l.getLast?.getD 0 else if k = 17 ∨ k = 18 then 0 else k
section
variable {c : List Nat} {n f U T p : Nat} {l : List Nat}
theorem rep_succ : rep c n (f + 1) l = if n < l.length then fail 12 else if n = l.length then give l else also (sym c) fun k =>
      if k = 16 then (match l.getLast? with
        | none => fail 12
        | some v => also (take 2) fun t => rep c n f (l ++ List.replicate (3 + t) v))
      else if k = 17 then also (take 3) fun t => rep c n f (l ++ List.replicate (3 + t) 0)
      else if k = 18 then also (take 7) fun t => rep c n f (l ++ List.replicate (11 + t) 0)
      else rep c n f (l ++ [k]) := rfl
theorem rep_over (h : n < l.length) : rep c n f l U T p = .error 12 := by
  cases f with
  | zero => rfl
  | succ f => rw [rep_succ, if_pos h]; rfl
theorem rep_all (h : l.length = n) : rep c n (f + 1) l U T p = .ok (l, p) := by
  rw [rep_succ, if_neg (by omega), if_pos h.symm]; rfl
theorem rep_sym {e : Nat} (h : l.length < n) (hs : sym c U T p = .error e) : rep c n (f + 1) l U T p = .error e := by
  rw [rep_succ, if_neg (by omega), if_neg (by omega), also_no hs]
theorem rep_none {p1 : Nat} (h : 0 < n) (hs : sym c U T p = .ok (16, p1)) : rep c n (f + 1) [] U T p = .error 12 := by
  rw [rep_succ, if_neg (by simp), if_neg (by simp; omega), also_ok hs]
  rfl
theorem rep_step {k p1 : Nat} (h : l.length < n) (hs : sym c U T p = .ok (k, p1)) (hk : ¬ (k = 16 ∧ l.length = 0)) (hp1 : p1 ≤ T) :
    rep c n (f + 1) l U T p = also (timesP k) (fun t => rep c n f (l ++ List.replicate t (fill k l))) U T p1 := by
  rw [rep_succ, if_neg (by omega), if_neg (by omega), also_ok hs]
  unfold timesP fill
  by_cases h16 : k = 16
  · rw [if_pos h16]
    simp only [if_pos h16]
    cases hl : l.getLast? with
    | none =>
      rw [List.getLast?_eq_none_iff] at hl
      exact absurd ⟨h16, by rw [hl]; rfl⟩ hk
    | some v =>
      rw [also_also]
      rfl
  · rw [if_neg h16]
    simp only [if_neg h16]
    by_cases h17 : k = 17
    · rw [if_pos h17, also_also]
      simp only [if_pos h17, if_pos (Or.inl h17)]
      rfl
    · rw [if_neg h17]
      simp only [if_neg h17]
      by_cases h18 : k = 18
      · rw [if_pos h18, also_also]
        simp only [if_pos h18, if_pos (Or.inr h18)]
        rfl
      · rw [if_neg h18, also_also]
        simp only [if_neg h18]
        have ht : take 0 U T p1 = .ok (0, p1) := by
          unfold take
          rw [if_pos (by omega), Nat.pow_zero, Nat.mod_one]; rfl
        rw [also_ok ht, also_give, if_neg (by omega)]
        rfl
end
theorem times_pos {k U T p t p2 : Nat} (h : timesP k U T p = .ok (t, p2)) : 1 ≤ t ∧ t ≤ 138 := by
  unfold timesP at h
  obtain ⟨a, m, ha, h⟩ := also_of h
  obtain ⟨ha, _⟩ := take_lt ha
  injection h with h
  injection h with h _
  have h7 : a < 128 := Nat.lt_of_lt_of_le ha (Nat.pow_le_pow_right (n := 2) (j := 7) (by omega) (by split <;> (try split) <;> (try split) <;> omega))
  split at h <;> (try split at h) <;> (try split at h) <;> omega
/-- so far l was told; what is still to come tells the whole -/
def RunR (c : List Nat) (n U T p : Nat) (l : List Nat) (p' : Nat) : Prop := ∃ f, n + 1 ≤ f + l.length ∧ rep c n (n + 1) [] U T p = rep c n f l U T p'
theorem RunR.start (c : List Nat) (n U T p : Nat) : RunR c n U T p [] p := ⟨n + 1, by simp, rfl⟩
theorem RunR.fuel {c l : List Nat} {n U T p p' : Nat} (h : RunR c n U T p l p') (hl : l.length ≤ n) : ∃ f, n ≤ f + l.length ∧ rep c n (n + 1) [] U T p = rep c n (f + 1) l U T p' := by
  obtain ⟨f, hf, h⟩ := h
  exact ⟨f - 1, by omega, by rw [h, show f - 1 + 1 = f by omega]⟩

theorem Turn.grow {S S' : List Nat} {w a b : World} {row : Option Nat} (h : Turn S S' w a) (k : a.grownBy b row) (hr : ∀ g, row = some g → w.heap.size ≤ g) : Turn S S' w b where
  os := k.os.trans h.os
  tape := k.tape.trans h.tape
  output := k.output.trans h.output
  size := Nat.le_trans h.size k.size
  block i hi hS := (k.block i (Nat.lt_of_lt_of_le hi h.size) (fun e => by have := hr i e.symm; omega)).trans (h.block i hi hS)
  sub := h.sub
/-- lengths and an error -/
def ListIs (w : World) (g : Nat) (v : V) (q : Nat) (bs : List UInt8) (p : Nat) (rl : List Nat) (r : Except Nat (List Nat × Nat)) (e : Ending) (w' : World) : Prop :=
  match r with
  | .ok (l, p') => ∃ A c, e = .returned (.tuple #[.slice A l.length c, .int .i64 0]) ∧ Own w' w.heap.size tInt A l.length c (nv l) ∧ (∀ x ∈ l, x ≤ 15) ∧ SrcIs w g v q bs p' rl w'
  | .error k => e = .returned (.tuple #[.slice none 0 0, .int .i64 (k : Nat)]) ∧ ∃ p', p ≤ p' ∧ SrcIs w g v q bs p' rl w'
section
variable {w : World} {g q p : Nat} {v : V} {bs : List UInt8} {rl : List Nat}
theorem Src.grown {w' : World} {row : Option Nat} (h : Src w g v q bs p rl) (k : w.grownBy w' row) (hr : ∀ b, row = some b → b ∉ g :: rl) : Src w' g v q bs p rl := by
  have hk : ∀ b ∈ g :: rl, row ≠ some b := fun b hb e => hr b e hb
  exact ⟨h.inf.old (k.block g h.inf.inside (fun e => hk g (by simp) e.symm)), h.bit, h.rdr.grown k (fun b hb => hk b (List.mem_cons_of_mem _ hb)), h.le, h.sm⟩
theorem Own.notIn {base : Nat} {A : Option Addr} {n c : Nat} {xs : List Value} (h : Own w base tInt A n c xs) (hS : Src w g v q bs p rl) : ∀ b, (Value.slice A n c).ownBlock = some b → b ∉ g :: rl :=
  fun b hb => hS.offTy (Own.ty h b hb) (by decide) (by decide) (by decide)
theorem Own.past {w' : World} {base : Nat} {A : Option Addr} {n c : Nat} {rl' : List Nat} {xs : List Value} (h : Own w base tInt A n c xs) (hS : Src w g v q bs p rl) (k : Turn (g :: rl) (g :: rl') w w') : Own w' base tInt A n c xs :=
  bitp.Own.turn h k fun b hb e => Own.notIn h hS b e hb
theorem Own.cellAt {base b off n c : Nat} {l : List Nat} (h : Own w base tInt (some ⟨b, off, none⟩) n c (nv l)) {j x : Nat} (hx : l[j]? = some x) : w.cell? ⟨b, off + j, none⟩ = some (iv (x : Nat)) := by
  have hn : l.length = n := by have := h.rd.1; rwa [List.length_map] at this
  obtain ⟨b', off', y, e, _, hy, hc⟩ := h.rd.at_ (enc := fun x : Nat => iv (x : Int)) (k := j) (by have := (List.getElem?_eq_some_iff.1 hx).1; omega)
  injection e with e
  injection e with e1 e2 _
  subst e1; subst e2
  rw [hx] at hy
  injection hy with hy
  subst hy
  exact hc
set_option maxHeartbeats 8000000 in
set_option maxRecDepth 100000 in
theorem takeLengths_any (h : Src w g v q bs p rl) {cc : Nat} {ls cbl : List Nat} (hC : CodeAt w cc ls cbl) (hF : Fit ls) (hls : ls.length = 19) (n : Nat) (hn : n ≤ 320) {r : Except Nat (List Nat × Nat)} (hr : rep ls n (n + 1) [] (num bs) (8 * bs.length) p = r) :
    Calls Tryz.prog 95 #[ptr g, ptr cc, .int .i64 n] w (ListIs w g v q bs p rl r) := by
  obtain ⟨i0, hi0, hz0, hz1, hz2⟩ := info_parts info_int
  have HR := Lib.hid hr
  have HC := Lib.hid hC
  clear hr hC
  go_enter Tryz.func95, Tryz.ntmps95
  go_wp2
  go_loopw [8] (fun s wr => ∃ (A : Option Addr) (m c : Nat) (l : List Nat) (pj : Nat) (rlj : List Nat), m ≤ n ∧ s = .slice A m c ∧ Hid (l.length = m) ∧ Hid (Own wr w.heap.size tInt A m c (nv l)) ∧ Src wr g v q bs pj rlj ∧ Hid (RunR ls n (num bs) (8 * bs.length) p l pj) ∧ Hid (∀ x ∈ l, x ≤ 15) ∧ Hid (Turn (g :: rl) (g :: rlj) w wr) ∧ p ≤ pj) (fun s _ => n - lenS s)
  case atStart => exact ⟨none, 0, 0, [], p, rl, by omega, rfl, rfl, Own.nil _ _ _, h, RunR.start _ _ _ _ _, by simp [Hid], Turn.refl _ _, Nat.le_refl _⟩
  case round =>
    obtain ⟨A, m, c, l, pj, rlj, hm, rfl, hl, hO, hS, hrun, h15, hT, hpp⟩ := hrel
    obtain ⟨f, hf, hrep⟩ := hrun.out.fuel (by rw [hl.out]; exact hm)
    have HREP := Lib.hid hrep
    have hCr := CodeAt.src HC.out h hT.out
    have hc2 := hS.bits2
    clear hrep
    by_cases hlt : m < n
    · cases hs : sym ls (num bs) (8 * bs.length) pj with
      | error e1 =>
        have hr2 : r = .error e1 := by rw [← HR.out, HREP.out, rep_sym (by rw [hl.out]; exact hlt) hs]
        subst hr2
        have hne := not_zero (infnum.Good.sym ls) hs
        go_wp2_with (go_at_call 80; refine (next_src hS hCr hF hs).mono ?_; rintro e w1 hN; obtain ⟨rfl, rl1, hS1, hT1⟩ := hN.no)
        go_ret2
        exact ⟨rfl, pj, hpp, rl1, hS1, hT.out.trans hT1⟩
      | ok x =>
        obtain ⟨k, p1⟩ := x
        obtain ⟨hk19, hpj1⟩ := sym_lt hs
        rw [hls] at hk19
        have hp1 := (infnum.Good.sym ls).bd _ _ _ _ _ (by omega) hS.le hs
        by_cases hk0 : k = 16 ∧ m = 0
        · obtain ⟨rfl, rfl⟩ := hk0
          have hl0 : l = [] := List.eq_nil_of_length_eq_zero hl.out
          have hr2 : r = .error 12 := by rw [← HR.out, HREP.out, hl0, rep_none hlt hs]
          subst hr2
          go_wp2_with (go_at_call 80; refine (next_src hS hCr hF hs).mono ?_; rintro e w1 hN; obtain ⟨rfl, rl1, hS1, hT1⟩ := hN.ok; have hO1 := Own.past hO.out hS hT1)
          go_ret2
          exact ⟨rfl, p1, by omega, rl1, hS1, hT.out.trans hT1⟩
        · have hstep := rep_step (f := f) (c := ls) (l := l) (by rw [hl.out]; exact hlt) hs (by rw [hl.out]; exact hk0) hp1
          have HSTEP := Lib.hid hstep
          have HLE := Lib.hid hp1
          have HPJ := Lib.hid hpj1
          clear hstep hp1 hpj1
          have hway : (¬ (k : Int) = 16) ∨ (k = 16 ∧ ¬ (m : Int) = 0) := by omega
          cases ht : timesP k (num bs) (8 * bs.length) p1 with
          | error e2 =>
            have hr2 : r = .error e2 := by rw [← HR.out, HREP.out, HSTEP.out, also_no ht]
            subst hr2
            have hne := not_zero (infnum.Good.times' k) ht
            rcases hway with h16 | ⟨rfl, hm0⟩
            all_goals
              go_wp2_with (first | (go_at_call 80; refine (next_src hS hCr hF hs).mono ?_; rintro e w1 hN; obtain ⟨rfl, rl1, hS1, hT1⟩ := hN.ok; have hO1 := Own.past hO.out hS hT1) | (go_at_call 108; refine (takeTimes_any hS1 _ ht).mono ?_; rintro e w2 hN2; obtain ⟨rfl, rl2, hS2, hT2⟩ := hN2.no))
              go_ret2
              exact ⟨rfl, p1, by have := HPJ.out; omega, rl2, hS2, (hT.out.trans hT1).trans hT2⟩
          | ok x =>
            obtain ⟨t, p2⟩ := x
            obtain ⟨ht1, ht138⟩ := times_pos ht
            have hp2 := ((infnum.Good.times' k).loc _ _ _ _ _ ht).1
            have hnext : rep ls n (n + 1) [] (num bs) (8 * bs.length) p = rep ls n f (l ++ List.replicate t (fill k l)) (num bs) (8 * bs.length) p2 := by
              rw [HREP.out, HSTEP.out, also_ok ht]
            have HNEXT := Lib.hid hnext
            clear hnext
            by_cases hov : n < m + t
            · have hr2 : r = .error 12 := by rw [← HR.out, HNEXT.out, rep_over (by rw [List.length_append, List.length_replicate, hl.out]; exact hov)]
              subst hr2
              have hoi : (m : Int) + (t : Int) > (n : Int) := by omega
              rcases hway with h16 | ⟨rfl, hm0⟩
              all_goals
                go_wp2_with (first | (go_at_call 80; refine (next_src hS hCr hF hs).mono ?_; rintro e w1 hN; obtain ⟨rfl, rl1, hS1, hT1⟩ := hN.ok; have hO1 := Own.past hO.out hS hT1) | (go_at_call 108; refine (takeTimes_any hS1 _ ht).mono ?_; rintro e w2 hN2; obtain ⟨rfl, rl2, hS2, hT2⟩ := hN2.ok; have hO2 := Own.past hO1 hS1 hT2))
                go_ret2
                exact ⟨rfl, p2, by have := HPJ.out; omega, rl2, hS2, (hT.out.trans hT1).trans hT2⟩
            · have hoi : ¬ (m : Int) + (t : Int) > (n : Int) := by omega
              have hmt : m + t ≤ n := by omega
              have HP : Hid (p ≤ p2) := by show p ≤ p2; have := HPJ.out; omega
              by_cases hk16 : k = 16
              · subst hk16
                obtain ⟨m1, hm1⟩ : ∃ m1, m = m1 + 1 := ⟨m - 1, by omega⟩
                have hmi : (m : Int) - 1 = (m1 : Int) := by omega
                have hmz : ¬ (m : Int) = 0 := by omega
                have HM1 := Lib.hid hm1
                obtain ⟨b, off, x, rfl, hb, hy, hcy⟩ := hO.out.rd.at_ (enc := fun x : Nat => iv (x : Int)) (k := m1) (by omega)
                have hXle : x ≤ 15 := h15.out x (List.mem_of_getElem? hy)
                have hfill : fill 16 l = x := by
                  unfold fill
                  rw [if_pos rfl, List.getLast?_eq_getElem?, hl.out, show m - 1 = m1 by omega, hy]; rfl
                have HY := Lib.hid hy
                clear hway hk0 hcy hy hm1
                have hx15 : ∀ y ∈ l ++ List.replicate t x, y ≤ 15 := fun y hy => by
                  rcases List.mem_append.1 hy with hy | hy
                  · exact h15.out y hy
                  · rw [List.mem_replicate] at hy
                    rw [hy.2]; exact hXle
                have HX15 := Lib.hid hx15
                have hrunN : RunR ls n (num bs) (8 * bs.length) p (l ++ List.replicate t x) p2 := ⟨f, by rw [List.length_append, List.length_replicate]; omega, by have := HNEXT.out; rwa [hfill] at this⟩
                have HRUN := Lib.hid hrunN
                have HT138 := Lib.hid (show 1 ≤ t from ht1)
                clear hx15 hrunN hfill hXle
                go_wp2_with (first | (go_at_call 80; refine (next_src hS hCr hF hs).mono ?_; rintro e w1 hN; obtain ⟨rfl, rl1, hS1, hT1⟩ := hN.ok; have hO1 := Own.past hO.out hS hT1) | (go_at_call 108; refine (takeTimes_any hS1 _ ht).mono ?_; rintro e w2 hN2; obtain ⟨rfl, rl2, hS2, hT2⟩ := hN2.ok; have hO2 := Own.past hO1 hS1 hT2; have hcx := Own.cellAt hO2 HY.out))
                have HT3 := Lib.hid ((hT.out.trans hT1).trans hT2)
                go_loopw [8, 64] (fun s i wi => ∃ (A' : Option Addr) (c' j : Nat), j ≤ t ∧ s = .slice A' (m + j) c' ∧ i = .int .i64 (j : Nat) ∧ Own wi w.heap.size tInt A' (m + j) c' (nv (l ++ List.replicate j x)) ∧ Src wi g v q bs p2 rl2 ∧ Turn (g :: rl) (g :: rl2) w wi) (fun _ i _ => t - (intOf i).toNat)
                case atStart => exact ⟨(some ⟨b, off, none⟩), c, 0, by omega, rfl, rfl, by simpa using hO2, hS2, HT3.out⟩
                case round =>
                  obtain ⟨A', c', j, hj, rfl, rfl, hOi, hSi, hTi⟩ := hrel
                  by_cases hjt : j < t
                  · go_wp2_with (at_builtin; refine wpList_append_rd _ rfl (.tmp 66) (.tmp 68) 62 rfl w.heap.size 3 i0 _ 8 Tryz.underlying62 hi0 hz0 hz1 hz2 rfl A' (m + j) c' (nv (l ++ List.replicate j x)) rfl (hOi.fresh (Fresh.alloc _ _)) (wr.heap.size + 1) (some ⟨wr.heap.size, 0, none⟩) 1 1 [.int .i64 (x : Nat)] rfl (Rd.lit wr #[.int .i64 (x : Nat)] 3) (one_one _ _) (by unfold maxLen; omega) (by omega) (by have := hTi.size; simp; omega) ?_; intro A3 c3 w3 hO3 hg3)
                    go_roundw
                    case rel =>
                      have f1 := Fresh.alloc wr (.cells #[.int .i64 (x : Nat)] 3)
                      have s3 := (hSi.fresh f1).grown hg3 (Own.notIn (hOi.fresh f1) (hSi.fresh f1))
                      have t3 := Turn.grow (hTi.trans (Turn.fresh f1)) hg3 hOi.row
                      first | refine ⟨A3, c3, j + 1, by omega, rfl, by go_num, ?_, s3, t3⟩ | refine ⟨_, A3, c3, j + 1, by omega, rfl, by go_num, ?_, s3, t3⟩
                      have e : nv (l ++ List.replicate j x) ++ [.int .i64 (x : Nat)] = nv (l ++ List.replicate (j + 1) x) := by
                        rw [List.replicate_succ', ← List.append_assoc, nv, nv, List.map_append (l₂ := [x])]
                        rfl
                      rw [e] at hO3
                      exact hO3
                    case measure => simp [intOf]; omega
                  · have hjt2 : j = t := by omega
                    subst hjt2
                    go_wp2
                    go_roundw
                    case rel => first | exact ⟨A', m + j, c', l ++ List.replicate j x, p2, rl2, by omega, rfl, by show _ = _; rw [List.length_append, List.length_replicate, hl.out], hOi, hSi, HRUN.out, HX15.out, hTi, by have := HP.out; omega⟩ | exact ⟨_, A', m + j, c', l ++ List.replicate j x, p2, rl2, by omega, rfl, by show _ = _; rw [List.length_append, List.length_replicate, hl.out], hOi, hSi, HRUN.out, HX15.out, hTi, by have := HP.out; omega⟩
                    case measure => simp [lenS]; have := HT138.out; omega
              · have hki : ¬ (k : Int) = 16 := by omega
                have hb16 : ((k : Int) == 16) = false := by simpa using hki
                have HB16 := Lib.hid hb16
                clear hb16
                by_cases hk17 : k = 17 ∨ k = 18
                · have hkj : decide ((k : Int) > 16) = true := decide_eq_true (by omega)
                  have hXle : 0 ≤ 15 := by omega
                  have hfill : fill k l = 0 := by unfold fill; rw [if_neg hk16, if_pos hk17]
                  clear hway hk0 hk17 hk16
                  have hx15 : ∀ y ∈ l ++ List.replicate t 0, y ≤ 15 := fun y hy => by
                    rcases List.mem_append.1 hy with hy | hy
                    · exact h15.out y hy
                    · rw [List.mem_replicate] at hy
                      rw [hy.2]; exact hXle
                  have HX15 := Lib.hid hx15
                  have hrunN : RunR ls n (num bs) (8 * bs.length) p (l ++ List.replicate t 0) p2 := ⟨f, by rw [List.length_append, List.length_replicate]; omega, by have := HNEXT.out; rwa [hfill] at this⟩
                  have HRUN := Lib.hid hrunN
                  have HT138 := Lib.hid (show 1 ≤ t from ht1)
                  clear hx15 hrunN hfill hXle
                  go_wp2_with (first | (go_at_call 80; refine (next_src hS hCr hF hs).mono ?_; rintro e w1 hN; obtain ⟨rfl, rl1, hS1, hT1⟩ := hN.ok; have hO1 := Own.past hO.out hS hT1) | (go_at_call 108; refine (takeTimes_any hS1 _ ht).mono ?_; rintro e w2 hN2; obtain ⟨rfl, rl2, hS2, hT2⟩ := hN2.ok; have hO2 := Own.past hO1 hS1 hT2))
                  have HT3 := Lib.hid ((hT.out.trans hT1).trans hT2)
                  rw [HB16.out]
                  clear hkj hki
                  go_loopw [8, 64] (fun s i wi => ∃ (A' : Option Addr) (c' j : Nat), j ≤ t ∧ s = .slice A' (m + j) c' ∧ i = .int .i64 (j : Nat) ∧ Own wi w.heap.size tInt A' (m + j) c' (nv (l ++ List.replicate j 0)) ∧ Src wi g v q bs p2 rl2 ∧ Turn (g :: rl) (g :: rl2) w wi) (fun _ i _ => t - (intOf i).toNat)
                  case atStart => exact ⟨A, c, 0, by omega, rfl, rfl, by simpa using hO2, hS2, HT3.out⟩
                  case round =>
                    obtain ⟨A', c', j, hj, rfl, rfl, hOi, hSi, hTi⟩ := hrel
                    by_cases hjt : j < t
                    · go_wp2_with (at_builtin; refine wpList_append_rd _ rfl (.tmp 66) (.tmp 68) 62 rfl w.heap.size 3 i0 _ 8 Tryz.underlying62 hi0 hz0 hz1 hz2 rfl A' (m + j) c' (nv (l ++ List.replicate j 0)) rfl (hOi.fresh (Fresh.alloc _ _)) (wr.heap.size + 1) (some ⟨wr.heap.size, 0, none⟩) 1 1 [.int .i64 (0 : Nat)] rfl (Rd.lit wr #[.int .i64 (0 : Nat)] 3) (one_one _ _) (by unfold maxLen; omega) (by omega) (by have := hTi.size; simp; omega) ?_; intro A3 c3 w3 hO3 hg3)
                      go_roundw
                      case rel =>
                        have f1 := Fresh.alloc wr (.cells #[.int .i64 (0 : Nat)] 3)
                        have s3 := (hSi.fresh f1).grown hg3 (Own.notIn (hOi.fresh f1) (hSi.fresh f1))
                        have t3 := Turn.grow (hTi.trans (Turn.fresh f1)) hg3 hOi.row
                        first | refine ⟨A3, c3, j + 1, by omega, rfl, by go_num, ?_, s3, t3⟩ | refine ⟨_, A3, c3, j + 1, by omega, rfl, by go_num, ?_, s3, t3⟩
                        have e : nv (l ++ List.replicate j 0) ++ [.int .i64 (0 : Nat)] = nv (l ++ List.replicate (j + 1) 0) := by
                          rw [List.replicate_succ', ← List.append_assoc, nv, nv, List.map_append (l₂ := [0])]
                          rfl
                        rw [e] at hO3
                        exact hO3
                      case measure => simp [intOf]; omega
                    · have hjt2 : j = t := by omega
                      subst hjt2
                      go_wp2
                      go_roundw
                      case rel => first | exact ⟨A', m + j, c', l ++ List.replicate j 0, p2, rl2, by omega, rfl, by show _ = _; rw [List.length_append, List.length_replicate, hl.out], hOi, hSi, HRUN.out, HX15.out, hTi, by have := HP.out; omega⟩ | exact ⟨_, A', m + j, c', l ++ List.replicate j 0, p2, rl2, by omega, rfl, by show _ = _; rw [List.length_append, List.length_replicate, hl.out], hOi, hSi, HRUN.out, HX15.out, hTi, by have := HP.out; omega⟩
                      case measure => simp [lenS]; have := HT138.out; omega
                · have hkj : decide ((k : Int) > 16) = false := decide_eq_false (by omega)
                  have hXle : k ≤ 15 := by omega
                  have hfill : fill k l = k := by unfold fill; rw [if_neg hk16, if_neg hk17]
                  clear hway hk0 hk17 hk16
                  have hx15 : ∀ y ∈ l ++ List.replicate t k, y ≤ 15 := fun y hy => by
                    rcases List.mem_append.1 hy with hy | hy
                    · exact h15.out y hy
                    · rw [List.mem_replicate] at hy
                      rw [hy.2]; exact hXle
                  have HX15 := Lib.hid hx15
                  have hrunN : RunR ls n (num bs) (8 * bs.length) p (l ++ List.replicate t k) p2 := ⟨f, by rw [List.length_append, List.length_replicate]; omega, by have := HNEXT.out; rwa [hfill] at this⟩
                  have HRUN := Lib.hid hrunN
                  have HT138 := Lib.hid (show 1 ≤ t from ht1)
                  clear hx15 hrunN hfill hXle
                  go_wp2_with (first | (go_at_call 80; refine (next_src hS hCr hF hs).mono ?_; rintro e w1 hN; obtain ⟨rfl, rl1, hS1, hT1⟩ := hN.ok; have hO1 := Own.past hO.out hS hT1) | (go_at_call 108; refine (takeTimes_any hS1 _ ht).mono ?_; rintro e w2 hN2; obtain ⟨rfl, rl2, hS2, hT2⟩ := hN2.ok; have hO2 := Own.past hO1 hS1 hT2))
                  have HT3 := Lib.hid ((hT.out.trans hT1).trans hT2)
                  rw [HB16.out]
                  clear hkj hki
                  go_loopw [8, 64] (fun s i wi => ∃ (A' : Option Addr) (c' j : Nat), j ≤ t ∧ s = .slice A' (m + j) c' ∧ i = .int .i64 (j : Nat) ∧ Own wi w.heap.size tInt A' (m + j) c' (nv (l ++ List.replicate j k)) ∧ Src wi g v q bs p2 rl2 ∧ Turn (g :: rl) (g :: rl2) w wi) (fun _ i _ => t - (intOf i).toNat)
                  case atStart => exact ⟨A, c, 0, by omega, rfl, rfl, by simpa using hO2, hS2, HT3.out⟩
                  case round =>
                    obtain ⟨A', c', j, hj, rfl, rfl, hOi, hSi, hTi⟩ := hrel
                    by_cases hjt : j < t
                    · go_wp2_with (at_builtin; refine wpList_append_rd _ rfl (.tmp 66) (.tmp 68) 62 rfl w.heap.size 3 i0 _ 8 Tryz.underlying62 hi0 hz0 hz1 hz2 rfl A' (m + j) c' (nv (l ++ List.replicate j k)) rfl (hOi.fresh (Fresh.alloc _ _)) (wr.heap.size + 1) (some ⟨wr.heap.size, 0, none⟩) 1 1 [.int .i64 (k : Nat)] rfl (Rd.lit wr #[.int .i64 (k : Nat)] 3) (one_one _ _) (by unfold maxLen; omega) (by omega) (by have := hTi.size; simp; omega) ?_; intro A3 c3 w3 hO3 hg3)
                      go_roundw
                      case rel =>
                        have f1 := Fresh.alloc wr (.cells #[.int .i64 (k : Nat)] 3)
                        have s3 := (hSi.fresh f1).grown hg3 (Own.notIn (hOi.fresh f1) (hSi.fresh f1))
                        have t3 := Turn.grow (hTi.trans (Turn.fresh f1)) hg3 hOi.row
                        first | refine ⟨A3, c3, j + 1, by omega, rfl, by go_num, ?_, s3, t3⟩ | refine ⟨_, A3, c3, j + 1, by omega, rfl, by go_num, ?_, s3, t3⟩
                        have e : nv (l ++ List.replicate j k) ++ [.int .i64 (k : Nat)] = nv (l ++ List.replicate (j + 1) k) := by
                          rw [List.replicate_succ', ← List.append_assoc, nv, nv, List.map_append (l₂ := [k])]
                          rfl
                        rw [e] at hO3
                        exact hO3
                      case measure => simp [intOf]; omega
                    · have hjt2 : j = t := by omega
                      subst hjt2
                      go_wp2
                      go_roundw
                      case rel => first | exact ⟨A', m + j, c', l ++ List.replicate j k, p2, rl2, by omega, rfl, by show _ = _; rw [List.length_append, List.length_replicate, hl.out], hOi, hSi, HRUN.out, HX15.out, hTi, by have := HP.out; omega⟩ | exact ⟨_, A', m + j, c', l ++ List.replicate j k, p2, rl2, by omega, rfl, by show _ = _; rw [List.length_append, List.length_replicate, hl.out], hOi, hSi, HRUN.out, HX15.out, hTi, by have := HP.out; omega⟩
                      case measure => simp [lenS]; have := HT138.out; omega
    · have hj2 : m = n := by omega
      subst hj2
      have hr2 : r = .ok (l, pj) := by rw [← HR.out, HREP.out, rep_all hl.out]
      subst hr2
      go_wp2
      go_ret2
      have e := hl.out
      subst e
      exact ⟨A, c, rfl, hO.out, h15.out, rlj, hS, hT.out⟩
end
end Go.Proofs.YtppgceighgpgoaaGreatDoor.infp
/-
  The contracts of useLengths, takeCodes. My own text.
-/
namespace Go.Proofs.YtppgceighgpgoaaGreatDoor.infp
open Go.RowKit Go.Proofs.YtppgceighgpgoaaGreatDoor.base Go.Proofs.YtppgceighgpgoaaGreatDoor.num Go.Proofs.YtppgceighgpgoaaGreatDoor.bitnum Go.Proofs.YtppgceighgpgoaaGreatDoor.bitp Go.Proofs.YtppgceighgpgoaaGreatDoor.huffnum Go.Proofs.YtppgceighgpgoaaGreatDoor.huffp Go.Proofs.YtppgceighgpgoaaGreatDoor.infnum
set_option linter.unusedVariables false

/-- two codes that come next, or an error -/
def UseIs (w : World) (g : Nat) (v : V) (q : Nat) (bs : List UInt8) (p : Nat) (rl : List Nat) (r : Except Nat ((List Nat × List Nat) × Nat)) (e : Ending) (w' : World) : Prop :=
  match r with
  | .ok (x, p') => e = .returned (.int .i64 0) ∧ ∃ s d sbl dbl, CodeAt w' s x.1 sbl ∧ CodeAt w' d x.2 dbl ∧ Fit x.1 ∧ Fit x.2 ∧ SrcIs w g { v with next := 2, sy := ptr s, di := ptr d } q bs p' rl w'
  | .error k => e = .returned (.int .i64 (k : Nat)) ∧ ∃ p', p ≤ p' ∧ SrcIs w g v q bs p' rl w'
section
variable {w : World} {g q p : Nat} {v : V} {bs : List UInt8} {rl : List Nat}
theorem UseIs.ok {x : List Nat × List Nat} {p' : Nat} {e : Ending} {w' : World} (h : UseIs w g v q bs p rl (.ok (x, p')) e w') : e = .returned (.int .i64 0) ∧ ∃ s d sbl dbl, CodeAt w' s x.1 sbl ∧ CodeAt w' d x.2 dbl ∧ Fit x.1 ∧ Fit x.2 ∧ SrcIs w g { v with next := 2, sy := ptr s, di := ptr d } q bs p' rl w' := h
theorem UseIs.no {k : Nat} {e : Ending} {w' : World} (h : UseIs w g v q bs p rl (.error k) e w') : e = .returned (.int .i64 (k : Nat)) ∧ ∃ p', p ≤ p' ∧ SrcIs w g v q bs p' rl w' := h
set_option maxHeartbeats 4000000 in
set_option maxRecDepth 100000 in
theorem useLengths_any (h : Src w g v q bs p rl) (A1 A2 : Option Addr) (n1 n2 c1 c2 : Nat) (x y : List Nat) (B : Nat) (hr1 : Rd w B A1 n1 (nv x)) (hr2 : Rd w B A2 n2 (nv y)) (hB : B ≤ w.heap.size) (h257 : 257 ≤ n1) (hn1 : n1 ≤ 320) (hn2 : n2 ≤ 320) (hx15 : ∀ z ∈ x, z ≤ 15) (hy15 : ∀ z ∈ y, z ≤ 15)
    {r : Except Nat ((List Nat × List Nat) × Nat)} (hr : (if x.getD 256 0 = 0 ∨ mayBe x false = false ∨ mayBe y true = false then .error 12 else .ok ((x, y), p)) = r) :
    Calls Tryz.prog 96 #[ptr g, .slice A1 n1 c1, .slice A2 n2 c2] w (UseIs w g v q bs p rl r) := by
  obtain ⟨b, off, z, rfl, hb, hz, hcz⟩ := hr1.at_ (enc := fun x : Nat => iv (x : Int)) (k := 256) (by omega)
  have hzd : x.getD 256 0 = z := by rw [List.getD_eq_getElem?_getD, hz]; rfl
  have hco1 := codeOf_any (some ⟨b, off, none⟩) n1 c1 x false w B hr1 hB hn1 hx15 1 rfl
  have hi257 : (257 : Int) ≤ (n1 : Int) := by omega
  rw [hzd] at hr
  have HR2 := Lib.hid hr2
  have HZ := Lib.hid hz
  clear hr1 hr2 hz hzd
  by_cases hz0 : z = 0
  · rw [if_pos (Or.inl hz0)] at hr
    subst hr; subst hz0
    clear hco1
    go_enter Tryz.func96, Tryz.ntmps96
    go_wp2
    go_ret
    exact ⟨rfl, p, Nat.le_refl _, h.same⟩
  · have hzi : ¬ (z : Int) = 0 := by omega
    by_cases hm1 : mayBe x false = false
    · rw [if_pos (Or.inr (Or.inl hm1))] at hr
      subst hr
      have hc2 := CodeOfIs.no hco1 hm1
      clear hco1 hm1 hz0
      go_enter Tryz.func96, Tryz.ntmps96
      go_wp2_with (go_at_call 107; refine hc2.mono ?_; rintro e w1 ⟨rfl, hf⟩)
      go_ret
      exact ⟨rfl, p, Nat.le_refl _, h.freshIs hf⟩
    · have hc2 := CodeOfIs.yes hco1 hm1
      have hf1 := mayBe_fit hx15 hm1
      have HF1 := Lib.hid hf1
      clear hco1 hf1
      by_cases hm2 : mayBe y true = false
      · rw [if_pos (Or.inr (Or.inr hm2))] at hr
        subst hr
        have hlet : ∀ w1, Fresh w w1 → Calls Tryz.prog 107 #[.slice A2 n2 c2, .int .i64 0] w1 fun e w' => e = .returned (.tuple #[.pointer none, .int .i64 12]) ∧ Fresh w1 w' := fun w1 hf =>
          CodeOfIs.no (codeOf_any A2 n2 c2 y true w1 B (HR2.out.below hf hB) (Nat.le_trans hB hf.size) hn2 hy15 0 rfl) hm2
        have HLET := Lib.hid hlet
        clear hlet hm2 hm1 hz0
        go_enter Tryz.func96, Tryz.ntmps96
        go_wp2_with (first
          | (go_at_call 107; (with_reducible refine hc3.mono ?_); rintro e w2 ⟨rfl, hf2⟩)
          | (go_at_call 107; refine hc2.mono ?_; rintro e w1 ⟨s, sbl, rfl, hCs, hSs⟩; have hc3 := HLET.out w1 hSs.1))
        go_ret
        exact ⟨rfl, p, Nat.le_refl _, h.freshIs (hSs.1.trans hf2)⟩
      · rw [if_neg (fun h' => h'.elim hz0 fun h' => h'.elim hm1 hm2)] at hr
        subst hr
        have hf2 := mayBe_fit hy15 hm2
        have HF2 := Lib.hid hf2
        have hlet : ∀ w1, Fresh w w1 → Calls Tryz.prog 107 #[.slice A2 n2 c2, .int .i64 0] w1 (MadeIs w1 y) := fun w1 hf =>
          CodeOfIs.yes (codeOf_any A2 n2 c2 y true w1 B (HR2.out.below hf hB) (Nat.le_trans hB hf.size) hn2 hy15 0 rfl) hm2
        have HLET := Lib.hid hlet
        clear hlet hm2 hm1 hz0 hf2
        go_enter Tryz.func96, Tryz.ntmps96
        go_wp2_with (first
          | (go_at_call 107; (with_reducible refine hc3.mono ?_); rintro e w2 ⟨d, dbl, rfl, hCd, hSd⟩; have hi2 := (h.inf.fresh hSs.1).fresh hSd.1; have h10 : w2.cell? ⟨g, 10, none⟩ = some v.sy := hi2.cell rfl; have h11 : w2.cell? ⟨g, 11, none⟩ = some v.di := hi2.cell rfl; have h5 : w2.cell? ⟨g, 5, none⟩ = some (iv v.next) := hi2.cell rfl; have z10 := hi2.free 10; have z11 := hi2.free 11; have z5 := hi2.free 5)
          | (go_at_call 107; refine hc2.mono ?_; rintro e w1 ⟨s, sbl, rfl, hCs, hSs⟩; have hc3 := HLET.out w1 hSs.1))
        go_ret
        exact ⟨rfl, s, d, sbl, dbl, code_use (hCs.fresh hSd.1) hi2 _ _, code_use hCd hi2 _ _, HF1.out, HF2.out, SrcIs.then (h.freshIs (hSs.1.trans hSd.1)) fun rl' h' => h'.use (ptr s) (ptr d)⟩
theorem takeLengths_ok {N : Nat} {l : List Nat} {p' : Nat} {e : Ending} {w' : World} (h : ListIs w g v q bs p rl (.ok (l, p')) e w') (hl : l.length = N) : ∃ A c, e = .returned (.tuple #[.slice A N c, .int .i64 0]) ∧ Own w' w.heap.size tInt A N c (nv l) ∧ (∀ x ∈ l, x ≤ 15) ∧ SrcIs w g v q bs p' rl w' := by
  subst hl
  exact h
theorem Rd.pre {w : World} {B n m : Nat} {A : Option Addr} {xs : List Value} (h : Rd w B A n xs) (hm : m ≤ n) : Rd w B A m (xs.take m) := by
  refine ⟨by rw [List.length_take, h.1]; omega, fun hn => ?_⟩
  obtain ⟨b, off, e, hb, hc⟩ := h.2 (by omega)
  refine ⟨b, off, e, hb, fun j u hu => ?_⟩
  rw [List.getElem?_take] at hu
  split at hu
  · exact hc j u hu
  · cases hu
theorem Rd.suf {w : World} {B n lo : Nat} {A : Option Addr} {xs : List Value} (h : Rd w B A n xs) (hm : lo ≤ n) : Rd w B (A.map (·.add lo)) (n - lo) (xs.drop lo) := by
  refine ⟨by rw [List.length_drop, h.1], fun hn => ?_⟩
  obtain ⟨b, off, rfl, hb, hc⟩ := h.2 (by omega)
  refine ⟨b, off + lo, ?_, hb, fun j u hu => ?_⟩
  · simp only [Option.map_some, Option.some.injEq]
    unfold Addr.add
    split
    · subst lo; rfl
    · rfl
  · rw [List.getElem?_drop] at hu
    have := hc _ u hu
    rwa [← Nat.add_assoc] at this
theorem rep_len {c : List Nat} {n : Nat} : ∀ {f : Nat} {l m : List Nat} {U T p p' : Nat}, rep c n f l U T p = .ok (m, p') → m.length = n := by
  intro f
  induction f with
  | zero => intro l m U T p p' h; cases h
  | succ f ih =>
    intro l m U T p p' h
    rw [rep_succ] at h
    split at h
    · cases h
    · split at h
      · rename_i h2
        injection h with h
        injection h with h _
        rw [← h]; exact h2.symm
      · obtain ⟨k, p1, _, h⟩ := also_of h
        split at h
        · cases hg : l.getLast? with
          | none => rw [hg] at h; cases h
          | some v =>
            rw [hg] at h
            obtain ⟨t, p2, _, h⟩ := also_of h; exact ih h
        · split at h
          · obtain ⟨t, p2, _, h⟩ := also_of h; exact ih h
          · split at h
            · obtain ⟨t, p2, _, h⟩ := also_of h; exact ih h
            · exact ih h
theorem lens_of {k U T p p' : Nat} {ls : List Nat} (h : lensP k U T p = .ok (ls, p')) : ls.length = 19 := by
  unfold lensP at h
  obtain ⟨l, m, _, h⟩ := also_of h
  split at h
  · cases h
  · injection h with h
    injection h with h _
    rw [← h, laid_len]
set_option maxHeartbeats 8000000 in
set_option maxRecDepth 100000 in
theorem takeCodes_any (h : Src w g v q bs p rl) (hO : Ord w) (hg : 1 < g) (hrl : ∀ b ∈ rl, 1 < b) {r : Except Nat ((List Nat × List Nat) × Nat)} (hr : codes (num bs) (8 * bs.length) p = r) :
    Calls Tryz.prog 79 #[ptr g] w (UseIs w g v q bs p rl r) := by
  have hc := h.bits2
  have hw0 : 1 < w.heap.size := Nat.lt_trans hg h.inf.inside
  rw [codes_is] at hr
  cases ht : take 14 (num bs) (8 * bs.length) p with
  | error e1 =>
    rw [also_no ht] at hr
    have he := take_err ht
    subst he; subst hr
    have hb := bits_take_no q bs p rl 14 3 w h.rdr h.le h.sm (by omega) ht
    go_enter Tryz.func79, Tryz.ntmps79
    go_wp2_with (go_at_call 76; refine hb.mono ?_; rintro e w1 ⟨rfl, hR⟩)
    go_ret
    exact ⟨rfl, p, Nat.le_refl _, h.moved hR h.le⟩
  | ok x =>
    obtain ⟨x, p1⟩ := x
    rw [also_ok ht] at hr
    obtain ⟨hx, hp1, hle1⟩ := take_lt ht
    have hb := bits_take_ok q bs p rl 14 x p1 w h.rdr h.sm (by omega) ht
    obtain ⟨a, ha⟩ : ∃ a, x % 32 = a := ⟨_, rfl⟩
    obtain ⟨x5, hx5⟩ : ∃ x5, x / 32 = x5 := ⟨_, rfl⟩
    obtain ⟨d, hd⟩ : ∃ d, x5 % 32 = d := ⟨_, rfl⟩
    obtain ⟨k, hk⟩ : ∃ k, x / 1024 = k := ⟨_, rfl⟩
    rw [hx5, ha, hd, hk] at hr
    have e1 : bits .and .i64 (x : Int) 31 = (a : Int) := by
      have := and_mask (x : Int) 5 (by omega)
      rw [u64_nat x (by omega)] at this
      rw [← ha]; exact this
    have e2 : bits .and .i64 (x5 : Int) 31 = (d : Int) := by
      have := and_mask (x5 : Int) 5 (by omega)
      rw [u64_nat x5 (by omega)] at this
      rw [← hd]; exact this
    have e3 : (x : Int) / 32 = (x5 : Int) := by omega
    have e4 : (x : Int) / 1024 = (k : Int) := by omega
    have ha31 : a ≤ 31 := by omega
    have hd31 : d ≤ 31 := by omega
    have hk15 : k ≤ 15 := by omega
    have hpp : p ≤ p1 := by omega
    clear ha hx5 hd hk hx hp1 ht
    by_cases hmany : 286 < a + 257 ∨ 30 < d + 1
    · rw [if_pos hmany] at hr
      change Except.error 12 = r at hr
      subst hr
      have hway : (a : Int) + 257 > 286 ∨ (¬ (a : Int) + 257 > 286 ∧ (d : Int) + 1 > 30) := by omega
      clear hmany
      rcases hway with h1 | ⟨h1, h2⟩
      all_goals
        go_enter Tryz.func79, Tryz.ntmps79
        go_wp2_with (go_at_call 76; refine hb.mono ?_; rintro e w1 ⟨rfl, hR⟩)
        go_ret
        exact ⟨rfl, p1, hpp, h.moved hR hle1⟩
    · rw [if_neg hmany] at hr
      have h1 : ¬ (a : Int) + 257 > 286 := by omega
      have h2 : ¬ (d : Int) + 1 > 30 := by omega
      have ha29 : a ≤ 29 := by omega
      have hd29 : d ≤ 29 := by omega
      clear hmany
      cases hl : lensP (k + 4) (num bs) (8 * bs.length) p1 with
      | error e5 =>
        rw [also_no hl] at hr
        subst hr
        have hne : ¬ (e5 : Int) = 0 := by rcases (infnum.Good.lens (k + 4)).ev _ _ _ _ hl with h | h <;> omega
        have hlc : ∀ w1 rl1, Src w1 g v q bs p1 rl1 → Turn (g :: rl) (g :: rl1) w w1 → Calls Tryz.prog 94 #[ptr g, .int .i64 ((k : Int) + 4)] w1 (CodeIs w1 g v q bs p1 rl1 (.error e5)) := fun w1 rl1 hS1 hT1 =>
          takeLengthsCode_any hS1 (hO.keep (hT1.block 1 hw0 (fun hx => by
            rcases List.mem_cons.1 hx with e | hx
            · omega
            · have := hrl 1 hx; omega))) hg (fun b hb' => by
              rcases hT1.sub b (List.mem_cons_of_mem _ hb') with h' | h'
              · rcases List.mem_cons.1 h' with e | h'
                · omega
                · exact hrl b h'
              · omega) (k + 4) (by omega) hl
        have HLC := Lib.hid hlc
        clear hlc
        go_enter Tryz.func79, Tryz.ntmps79
        go_wp2_with (first
          | (go_at_call 76; refine hb.mono ?_; rintro e w1 ⟨rfl, hR⟩; obtain ⟨rl1, hS1, hT1⟩ := h.moved hR hle1)
          | (go_at_call 94; refine (HLC.out w1 rl1 hS1 hT1).mono ?_; rintro e w2 ⟨rfl, p2, hp12, rl2, hS2, hT2⟩))
        go_ret
        exact ⟨rfl, p2, by omega, rl2, hS2, hT1.trans hT2⟩
      | ok y =>
        obtain ⟨ls, p2⟩ := y
        rw [also_ok hl] at hr
        have hls := lens_of hl
        obtain ⟨S, hS⟩ : ∃ S, a + 257 = S := ⟨_, rfl⟩
        obtain ⟨D, hD⟩ : ∃ D, d + 1 = D := ⟨_, rfl⟩
        obtain ⟨N, hN⟩ : ∃ N, S + D = N := ⟨_, rfl⟩
        rw [hS, hD, hN] at hr
        have i1 : (a : Int) + 257 = (S : Int) := by omega
        have i2 : (d : Int) + 1 = (D : Int) := by omega
        have i3 : (S : Int) + (D : Int) = (N : Int) := by omega
        have j1 : ¬ (S : Int) > 286 := by omega
        have j2 : ¬ (D : Int) > 30 := by omega
        have hS257 : 257 ≤ S := by omega
        have hS286 : S ≤ 286 := by omega
        have hD30 : D ≤ 30 := by omega
        have hN320 : N ≤ 320 := by omega
        have hlp := ((infnum.Good.lens (k + 4)).loc _ _ _ _ _ hl).1
        have hlc : ∀ w1 rl1, Src w1 g v q bs p1 rl1 → Turn (g :: rl) (g :: rl1) w w1 → Calls Tryz.prog 94 #[ptr g, .int .i64 ((k : Int) + 4)] w1 (CodeIs w1 g v q bs p1 rl1 (.ok (ls, p2))) := fun w1 rl1 hS1 hT1 =>
          takeLengthsCode_any hS1 (hO.keep (hT1.block 1 hw0 (fun hx => by
            rcases List.mem_cons.1 hx with e | hx
            · omega
            · have := hrl 1 hx; omega))) hg (fun b hb' => by
              rcases hT1.sub b (List.mem_cons_of_mem _ hb') with h' | h'
              · rcases List.mem_cons.1 h' with e | h'
                · omega
                · exact hrl b h'
              · omega) (k + 4) (by omega) hl
        have HLC := Lib.hid hlc
        have HSN := Lib.hid hN
        clear hlc h1 h2 hS hD hN hl
        cases hrp : rep ls N (N + 1) [] (num bs) (8 * bs.length) p2 with
        | error e6 =>
          rw [also_no hrp] at hr
          subst hr
          have hne : ¬ (e6 : Int) = 0 := by rcases (infnum.Good.rep ls N (N + 1) []).ev _ _ _ _ hrp with h | h <;> omega
          go_enter Tryz.func79, Tryz.ntmps79
          go_wp2_with (first
          | (go_at_call 76; refine hb.mono ?_; rintro e w1 ⟨rfl, hR⟩; obtain ⟨rl1, hS1, hT1⟩ := h.moved hR hle1)
          | (go_at_call 94; refine (HLC.out w1 rl1 hS1 hT1).mono ?_; rintro e w2 ⟨c, cbl, rfl, hC2, hF2, rl2, hS2, hT2⟩)
          | (go_at_call 95; refine (takeLengths_any hS2 hC2 hF2 hls N hN320 hrp).mono ?_; rintro e w3 ⟨rfl, p3, hp23, rl3, hS3, hT3⟩))
          go_ret
          exact ⟨rfl, p3, by omega, rl3, hS3, (hT1.trans hT2).trans hT3⟩
        | ok z =>
          obtain ⟨l, p3⟩ := z
          rw [also_ok hrp] at hr
          have hll := rep_len hrp
          have hrpl := ((infnum.Good.rep ls N (N + 1) []).loc _ _ _ _ _ hrp).1
          have hboth : bothP S D l (num bs) (8 * bs.length) p3 = if (l.take S).getD 256 0 = 0 ∨ mayBe (l.take S) false = false ∨ mayBe (l.drop S) true = false then .error 12 else .ok ((l.take S, l.drop S), p3) := by
            have e : (l.take S).getD 256 0 = l.getD 256 0 := by
              rw [List.getD_eq_getElem?_getD, List.getD_eq_getElem?_getD, List.getElem?_take, if_pos (by omega)]
            rw [e]
            unfold bothP
            split <;> rfl
          rw [hboth] at hr
          have HRR := Lib.hid hr
          have HLL := Lib.hid hll
          clear hr hboth hll
          go_enter Tryz.func79, Tryz.ntmps79
          go_wp2_with (first
          | (go_at_call 76; refine hb.mono ?_; rintro e w1 ⟨rfl, hR⟩; obtain ⟨rl1, hS1, hT1⟩ := h.moved hR hle1)
          | (go_at_call 94; refine (HLC.out w1 rl1 hS1 hT1).mono ?_; rintro e w2 ⟨c, cbl, rfl, hC2, hF2, rl2, hS2, hT2⟩)
          | (go_at_call 95; refine (takeLengths_any hS2 hC2 hF2 hls N hN320 hrp).mono ?_; rintro e w3 hL; obtain ⟨A, c3, rfl, hO3, h15, rl3, hS3, hT3⟩ := takeLengths_ok hL HLL.out; have hcap := hO3.cap))
          have hSN : S ≤ N := by have := HSN.out; omega
          have hSNi : (S : Int) ≤ (N : Int) := by omega
          have hcN := hcap.1
          have hcM := hcap.2
          have hcS : ¬ c3 = S := by have := HSN.out; omega
          have hr1 : Rd w3 w3.heap.size A S (nv (l.take S)) := by
            have := Rd.pre hO3.rd hSN
            rwa [nv, ← List.map_take] at this
          have hr2 : Rd w3 w3.heap.size (A.map (·.add S)) (N - S) (nv (l.drop S)) := by
            have := Rd.suf hO3.rd hSN
            rwa [nv, ← List.map_drop] at this
          have hx15 : ∀ z ∈ l.take S, z ≤ 15 := fun z hz => h15 z (List.mem_of_mem_take hz)
          have hy15 : ∀ z ∈ l.drop S, z ≤ 15 := fun z hz => h15 z (List.mem_of_mem_drop hz)
          have hul : ∀ w4, Fresh w3 w4 → Calls Tryz.prog 96 #[ptr g, .slice A S c3, .slice (A.map (·.add S)) (N - S) (c3 - S)] w4 (UseIs w4 g v q bs p3 rl3 r) := fun w4 hf =>
            useLengths_any (hS3.fresh hf) A (A.map (·.add S)) S (N - S) c3 (c3 - S) (l.take S) (l.drop S) w3.heap.size (hr1.below hf (Nat.le_refl _)) (hr2.below hf (Nat.le_refl _)) hf.size hS257 (by omega) (by omega) hx15 hy15 HRR.out
          have HUL := Lib.hid hul
          have HO3 := Lib.hid hO3
          clear hul hr1 hr2 hx15 hy15 h15 hO3 hcap
          have HT := Lib.hid (((hT1.trans hT2).trans hT3).trans (Turn.fresh (Fresh.drew w3)))
          rcases r with e7 | ⟨z, p4⟩
          · go_region_with (go_at_call 96; refine (HUL.out _ (Fresh.drew _)).mono ?_; rintro e w5 hU; obtain ⟨rfl, p5, hp5, rl5, hS5, hT5⟩ := hU.no)
            all_goals
              go_wp2
              go_ret
              exact ⟨rfl, p5, by omega, rl5, hS5, HT.out.trans hT5⟩
          · go_region_with (go_at_call 96; refine (HUL.out _ (Fresh.drew _)).mono ?_; rintro e w5 hU; obtain ⟨rfl, s, d, sbl, dbl, hCs, hCd, hFs, hFd, rl5, hS5, hT5⟩ := hU.ok)
            all_goals
              go_wp2
              go_ret
              exact ⟨rfl, s, d, sbl, dbl, hCs, hCd, hFs, hFd, rl5, hS5, HT.out.trans hT5⟩
end
end Go.Proofs.YtppgceighgpgoaaGreatDoor.infp
/-
  The contract of takeHead. My own text.
-/
namespace Go.Proofs.YtppgceighgpgoaaGreatDoor.infp
open Go.RowKit Go.Proofs.YtppgceighgpgoaaGreatDoor.base Go.Proofs.YtppgceighgpgoaaGreatDoor.num Go.Proofs.YtppgceighgpgoaaGreatDoor.bitnum Go.Proofs.YtppgceighgpgoaaGreatDoor.bitp Go.Proofs.YtppgceighgpgoaaGreatDoor.huffnum Go.Proofs.YtppgceighgpgoaaGreatDoor.huffp Go.Proofs.YtppgceighgpgoaaGreatDoor.infnum
set_option linter.unusedVariables false

/-- behind a head: bytes that are stored, or symbols -/
def PhAt (w : World) (v : V) (s : At) : Prop :=
  match s.ph with
  | .head => False
  | .raw n => v.next = 1 ∧ v.left = n ∧ v.last = s.last
  | .sy a b => v.next = 2 ∧ v.last = s.last ∧ UseAt w v a b
def HeadIs (w : World) (g : Nat) (v : V) (q : Nat) (bs : List UInt8) (p : Nat) (rl : List Nat) (r : Except Nat (At × Nat)) (e : Ending) (w' : World) : Prop :=
  match r with
  | .ok (s, p') => e = .returned (.int .i64 0) ∧ ∃ N L F S D F0 F1, PhAt w' { v with next := N, last := L, left := F, sy := S, di := D, f0 := F0, f1 := F1 } s ∧ FixAt w' { v with next := N, last := L, left := F, sy := S, di := D, f0 := F0, f1 := F1 } ∧
      SrcIs w g { v with next := N, last := L, left := F, sy := S, di := D, f0 := F0, f1 := F1 } q bs p' rl w'
  | .error k => e = .returned (.int .i64 (k : Nat)) ∧ ∃ p' L, p ≤ p' ∧ FixAt w' v ∧ SrcIs w g { v with last := L } q bs p' rl w'
theorem headP_len (out : List UInt8) (x : Nat) (U T p : Nat) :
    also align (fun _ => also (take 16) fun n => also (take 16) fun t => if n + t = 65535 then give (⟨.raw n, decide (x % 2 = 1), out⟩ : At) else fail 12) U T p = also lenP (fun n => give ⟨.raw n, decide (x % 2 = 1), out⟩) U T p := by
  unfold lenP
  simp only [also_also]
  unfold also align
  simp only
  cases h1 : take 16 U T ((p + 7) / 8 * 8) with
  | error e => rfl
  | ok y =>
    obtain ⟨n, p2⟩ := y
    simp only
    cases h2 : take 16 U T p2 with
    | error e => rfl
    | ok z =>
      obtain ⟨t, p3⟩ := z
      simp only
      split <;> rfl
section
variable {w : World} {g q p : Nat} {v : V} {bs : List UInt8} {rl : List Nat}
theorem takeLength_no {k : Nat} (h : Src w g v q bs p rl) (hr : lenP (num bs) (8 * bs.length) p = .error k) :
    Calls Tryz.prog 77 #[ptr g] w fun e w' => e = .returned (.int .i64 k) ∧ ∃ p', p ≤ p' ∧ SrcIs w g v q bs p' rl w' := takeLength_any h hr
theorem takeLength_ok {n p' : Nat} (h : Src w g v q bs p rl) (hr : lenP (num bs) (8 * bs.length) p = .ok (n, p')) :
    Calls Tryz.prog 77 #[ptr g] w fun e w' => e = .returned (.int .i64 0) ∧ SrcIs w g { v with left := n, next := 1 } q bs p' rl w' := takeLength_any h hr
theorem FixAt.by_ {w' : World} {v2 : V} {rl' : List Nat} (hF : FixAt w v) (h : Src w g v2 q bs p rl) (k : Turn (g :: rl) (g :: rl') w w') : FixAt w' v := by
  rcases hF with hF | ⟨s, d, sbl, dbl, h0, h1, hs, hd⟩
  · exact .inl hF
  · exact .inr ⟨s, d, sbl, dbl, h0, h1, CodeAt.src hs h k, CodeAt.src hd h k⟩
theorem FixAt.last {L : Bool} (h : FixAt w v) : FixAt w { v with last := L } := h
set_option maxHeartbeats 8000000 in
set_option maxRecDepth 100000 in
theorem takeHead_any (h : Src w g v q bs p rl) (hO : Ord w) (hg : 1 < g) (hrl : ∀ b ∈ rl, 1 < b) (hfx : FixAt w v) (out : List UInt8) {r : Except Nat (At × Nat)} (hr : headP out (num bs) (8 * bs.length) p = r) :
    Calls Tryz.prog 55 #[ptr g] w (HeadIs w g v q bs p rl r) := by
  have hc := h.bits2
  have hw0 : 1 < w.heap.size := Nat.lt_trans hg h.inf.inside
  unfold headP at hr
  cases ht : take 3 (num bs) (8 * bs.length) p with
  | error e1 =>
    rw [also_no ht] at hr
    have he := take_err ht
    subst he; subst hr
    have hb := bits_take_no q bs p rl 3 3 w h.rdr h.le h.sm (by omega) ht
    go_enter Tryz.func55, Tryz.ntmps55
    go_wp2_with (go_at_call 76; refine hb.mono ?_; rintro e w1 ⟨rfl, hR⟩)
    go_ret
    obtain ⟨rl1, hS1, hT1⟩ := h.moved hR h.le
    exact ⟨rfl, p, v.last, Nat.le_refl _, FixAt.src hfx h hT1, rl1, hS1, hT1⟩
  | ok x =>
    obtain ⟨x, p1⟩ := x
    rw [also_ok ht] at hr
    obtain ⟨hx, hp1, hle1⟩ := take_lt ht
    have hb := bits_take_ok q bs p rl 3 x p1 w h.rdr h.sm (by omega) ht
    obtain ⟨L, hL⟩ : ∃ L, decide (x % 2 = 1) = L := ⟨_, rfl⟩
    obtain ⟨c, hc2⟩ : ∃ c, x % 2 = c := ⟨_, rfl⟩
    obtain ⟨k, hk⟩ : ∃ k, x / 2 = k := ⟨_, rfl⟩
    have e1 : bits .and .i64 (x : Int) 1 = (c : Int) := by rw [and_one]; omega
    have e2 : (x : Int) / 2 = (k : Int) := by omega
    have e3 : ((c : Int) == 1) = L := by
      rw [← hL, hc2]
      rcases (show c = 0 ∨ c = 1 by omega) with rfl | rfl <;> rfl
    have hk4 : k < 4 := by omega
    have hpp : p ≤ p1 := by omega
    have hst : ∀ w1, RdrIs w q bs p1 rl w1 → ∃ rl1, Src w1 g v q bs p1 rl1 ∧ Turn (g :: rl) (g :: rl1) w w1 ∧ Src (w1.setCell ⟨g, 6, none⟩ (.bool L)) g { v with last := L } q bs p1 rl1 ∧ Turn (g :: rl) (g :: rl1) w (w1.setCell ⟨g, 6, none⟩ (.bool L)) ∧ FixAt (w1.setCell ⟨g, 6, none⟩ (.bool L)) v ∧ Ord (w1.setCell ⟨g, 6, none⟩ (.bool L)) ∧ ∀ b ∈ rl1, 1 < b := fun w1 hR => by
      obtain ⟨rl1, hS1, hT1⟩ := h.moved hR hle1
      have hi2 : InfAt (w1.setCell ⟨g, 6, none⟩ (.bool L)) g { v with last := L } := hS1.inf.put 6 _
      have hTp : Turn (g :: rl1) (g :: rl1) w1 (w1.setCell ⟨g, 6, none⟩ (.bool L)) := Turn.but (But.put _ _) (by simp)
      have hR2 : RdrAt (w1.setCell ⟨g, 6, none⟩ (.bool L)) q bs p1 rl1 := hS1.rdr.turn (S := [g]) (Turn.but (But.put _ _) (by simp)) (fun b hb' hx => by rw [List.mem_singleton] at hx; subst hx; exact hS1.off hb')
      have hT2 := hT1.trans hTp
      refine ⟨rl1, hS1, hT1, ⟨hi2, h.bit, hR2, hle1, h.sm⟩, hT2, FixAt.src hfx h hT2, hO.keep (hT2.block 1 hw0 (fun hx => ?_)), fun b hb' => ?_⟩
      · rcases List.mem_cons.1 hx with e | hx
        · omega
        · have := hrl 1 hx; omega
      · rcases hT2.sub b (List.mem_cons_of_mem _ hb') with h' | h'
        · rcases List.mem_cons.1 h' with e | h'
          · omega
          · exact hrl b h'
        · omega
    have HST := Lib.hid hst
    rw [hL] at hr
    have hc6 : ∀ w1 rl1, Src w1 g v q bs p1 rl1 → w1.cell? ⟨g, 6, none⟩ = some (.bool v.last) ∧ w1.frozen? ⟨g, 6, none⟩ = false := fun w1 rl1 hS1 => ⟨hS1.inf.cell rfl, hS1.inf.free 6⟩
    have HC6 := Lib.hid hc6
    have HL := Lib.hid hL
    have hk' := Lib.hid hk
    clear hst hc6 ht hx hp1 hc2 hL
    rw [hk'.out] at hr
    clear hk
    rcases (show k = 0 ∨ k = 1 ∨ k = 2 ∨ k = 3 by omega) with rfl | rfl | rfl | rfl
    · rw [if_pos rfl] at hr
      have hr2 : also lenP (fun n => give (⟨.raw n, L, out⟩ : At)) (num bs) (8 * bs.length) p1 = r := by
        rw [← hr, ← HL.out, headP_len]
      clear hr
      cases hl : lenP (num bs) (8 * bs.length) p1 with
      | error e5 =>
        rw [also_no hl] at hr2
        subst hr2
        go_enter Tryz.func55, Tryz.ntmps55
        go_wp2_with (first
          | (go_at_call 76; refine hb.mono ?_; rintro e w1 ⟨rfl, hR⟩; obtain ⟨rl1, hS1, hT1, hS2, hT2, hF2, hO2, hrl2⟩ := HST.out w1 hR; obtain ⟨hcc6, hff6⟩ := HC6.out w1 rl1 hS1)
          | (go_at_call 77; refine (takeLength_no hS2 hl).mono ?_; rintro e w3 ⟨rfl, p3, hp3, rl3, hS3, hT3⟩))
        go_ret
        exact ⟨rfl, p3, L, by omega, FixAt.by_ hF2 hS2 hT3, rl3, hS3, hT2.trans hT3⟩
      | ok y =>
        obtain ⟨n, p2⟩ := y
        rw [also_ok hl] at hr2
        change Except.ok (_, p2) = r at hr2
        subst hr2
        go_enter Tryz.func55, Tryz.ntmps55
        go_wp2_with (first
          | (go_at_call 76; refine hb.mono ?_; rintro e w1 ⟨rfl, hR⟩; obtain ⟨rl1, hS1, hT1, hS2, hT2, hF2, hO2, hrl2⟩ := HST.out w1 hR; obtain ⟨hcc6, hff6⟩ := HC6.out w1 rl1 hS1)
          | (go_at_call 77; refine (takeLength_ok hS2 hl).mono ?_; rintro e w3 ⟨rfl, rl3, hS3, hT3⟩))
        go_ret
        exact ⟨rfl, 1, L, n, v.sy, v.di, v.f0, v.f1, ⟨rfl, rfl, rfl⟩, FixAt.by_ hF2 hS2 hT3, rl3, hS3, hT2.trans hT3⟩
    · rw [if_neg (by omega), if_pos rfl] at hr
      change Except.ok (⟨.sy fixedLits fixedDist, L, out⟩, p1) = r at hr
      subst hr
      have huf : ∀ w2 rl2, Src w2 g { v with last := L } q bs p1 rl2 → FixAt w2 v → Calls Tryz.prog 78 #[ptr g] w2 fun e w' => e = .returned (.int .i64 0) ∧ ∃ s d sbl dbl, CodeAt w' s fixedLits sbl ∧ CodeAt w' d fixedDist dbl ∧ SrcIs w2 g { v with last := L, next := 2, sy := ptr s, di := ptr d, f0 := ptr s, f1 := ptr d } q bs p1 rl2 w' := fun w2 rl2 hS2 hF2 =>
        useFixed_any fixedLits fixedDist fit_lits fit_dist fixed_any hS2 hF2
      have HUF := Lib.hid huf
      clear huf
      go_enter Tryz.func55, Tryz.ntmps55
      go_wp2_with (first
        | (go_at_call 76; refine hb.mono ?_; rintro e w1 ⟨rfl, hR⟩; obtain ⟨rl1, hS1, hT1, hS2, hT2, hF2, hO2, hrl2⟩ := HST.out w1 hR; obtain ⟨hcc6, hff6⟩ := HC6.out w1 rl1 hS1)
        | (go_at_call 78; refine (HUF.out _ rl1 hS2 hF2).mono ?_; rintro e w3 ⟨rfl, s, d, sbl, dbl, hCs, hCd, rl3, hS3, hT3⟩))
      go_ret
      exact ⟨rfl, 2, L, v.left, ptr s, ptr d, ptr s, ptr d, ⟨rfl, rfl, s, d, sbl, dbl, rfl, rfl, hCs, hCd, fit_lits, fit_dist⟩, .inr ⟨s, d, sbl, dbl, rfl, rfl, hCs, hCd⟩, rl3, hS3, hT2.trans hT3⟩
    · rw [if_neg (by omega), if_neg (by omega), if_pos rfl] at hr
      cases hl : codes (num bs) (8 * bs.length) p1 with
      | error e5 =>
        rw [also_no hl] at hr
        subst hr
        go_enter Tryz.func55, Tryz.ntmps55
        go_wp2_with (first
          | (go_at_call 76; refine hb.mono ?_; rintro e w1 ⟨rfl, hR⟩; obtain ⟨rl1, hS1, hT1, hS2, hT2, hF2, hO2, hrl2⟩ := HST.out w1 hR; obtain ⟨hcc6, hff6⟩ := HC6.out w1 rl1 hS1)
          | (go_at_call 79; refine (takeCodes_any hS2 hO2 hg hrl2 hl).mono ?_; rintro e w3 hU; obtain ⟨rfl, p3, hp3, rl3, hS3, hT3⟩ := hU.no))
        go_ret
        exact ⟨rfl, p3, L, by omega, FixAt.by_ hF2 hS2 hT3, rl3, hS3, hT2.trans hT3⟩
      | ok y =>
        obtain ⟨⟨a, b⟩, p2⟩ := y
        rw [also_ok hl] at hr
        change Except.ok (⟨.sy a b, L, out⟩, p2) = r at hr
        subst hr
        go_enter Tryz.func55, Tryz.ntmps55
        go_wp2_with (first
          | (go_at_call 76; refine hb.mono ?_; rintro e w1 ⟨rfl, hR⟩; obtain ⟨rl1, hS1, hT1, hS2, hT2, hF2, hO2, hrl2⟩ := HST.out w1 hR; obtain ⟨hcc6, hff6⟩ := HC6.out w1 rl1 hS1)
          | (go_at_call 79; refine (takeCodes_any hS2 hO2 hg hrl2 hl).mono ?_; rintro e w3 hU; obtain ⟨rfl, s, d, sbl, dbl, hCs, hCd, hFs, hFd, rl3, hS3, hT3⟩ := hU.ok))
        go_ret
        exact ⟨rfl, 2, L, v.left, ptr s, ptr d, v.f0, v.f1, ⟨rfl, rfl, s, d, sbl, dbl, rfl, rfl, hCs, hCd, hFs, hFd⟩, FixAt.by_ hF2 hS2 hT3, rl3, hS3, hT2.trans hT3⟩
    · rw [if_neg (by omega), if_neg (by omega), if_neg (by omega)] at hr
      change Except.error 12 = r at hr
      subst hr
      go_enter Tryz.func55, Tryz.ntmps55
      go_wp2_with (go_at_call 76; refine hb.mono ?_; rintro e w1 ⟨rfl, hR⟩; obtain ⟨rl1, hS1, hT1, hS2, hT2, hF2, hO2, hrl2⟩ := HST.out w1 hR; obtain ⟨hcc6, hff6⟩ := HC6.out w1 rl1 hS1)
      go_ret
      exact ⟨rfl, p1, L, hpp, hF2, rl1, hS2, hT2⟩
end
end Go.Proofs.YtppgceighgpgoaaGreatDoor.infp
