/-
  One round of the reference's Get, as memory: the slices' row grows by a page that lies in the input. My own text.
-/
import Derived.Test.YtcfijppfccfbdaaWalGet
import Derived.Test.YtcfijppfccfbdaaWalRef2
import Derived.Test.YtcfijppfccfbdaaStepApx
namespace Go.Proofs.Ytcfijppfccfbdaa.walp
open Go.RowKit Go.Proofs.Ytcfijppfccfbdaa.base Go.Proofs.Ytcfijppfccfbdaa.num Go.Proofs.Ytcfijppfccfbdaa.word Go.Proofs.Ytcfijppfccfbdaa.waln
set_option linter.unusedVariables false
abbrev tGot : TypeId := 40
theorem size_got : (Try.prog.info? tGot).map (·.size) = some 2 := by kernel_rfl
abbrev gv (A : Option Addr) (n c : Nat) (e : Nat) : List Value := [.slice A n c, .int .i64 (e : Nat)]
theorem gv_one (A : Option Addr) (n c e : Nat) : ∀ v ∈ gv A n c e, v.oneCell' = true := by
  intro u hu
  simp only [gv, List.mem_cons, List.not_mem_nil, or_false] at hu
  rcases hu with rfl | rfl <;> rfl
theorem splice_all {cur vs : List Value} (h : cur.length = vs.length) : splice cur 0 vs = vs := by
  unfold splice
  rw [List.take_zero, List.nil_append, List.drop_of_length_le (by omega), List.append_nil]
theorem got_zero (w : World) : Bk (w.alloc (.cells #[.slice none 0 0, .int .i64 0] tGot)) w.heap.size tGot (gv none 0 0 0) := Bk.made w tGot #[.slice none 0 0, .int .i64 0]

/-- the pages that have come, in the reference's hands -/
structure RAt (w wr : World) (gq k : Nat) (AA : Option Addr) (cc : Nat) (ws : List Wp) (f : Nat → Pg) : Prop where
  bk : Bk wr gq tGot (gv AA k cc 0)
  row : OwnK wr w.heap.size tWrite 2 AA k cc wpV ws
  pgs : ws.map Wp.pg = (List.range k).map f
  rd : ∀ p ∈ ws, Rd wr w.heap.size p.A p.n (p.bs.map bv) ∧ p.Ok
  res : Bk wr w.heap.size tGot (gv none 0 0 0)
  fr : Fresh w wr
  lt : w.heap.size < gq
section
variable {w wr w1 : World} {gq k : Nat} {AA : Option Addr} {cc : Nat} {ws : List Wp} {f : Nat → Pg}
theorem RAt.fresh (h : RAt w wr gq k AA cc ws f) (q : Fresh wr w1) : RAt w w1 gq k AA cc ws f :=
  ⟨h.bk.fresh q, h.row.fresh q, h.pgs, fun p hp => ⟨(h.rd p hp).1.below q h.fr.size, (h.rd p hp).2⟩, h.res.fresh q, h.fr.trans q, h.lt⟩
/-- one more -/
theorem RAt.step (h : RAt w wr gq k AA cc ws f) {A' : Option Addr} {c' : Nat} {p : Wp} (hg : wr.grownBy w1 (Value.slice AA k cc).ownBlock) (ho : OwnK w1 w.heap.size tWrite 2 A' (k + 1) c' wpV (ws ++ [p])) (hp : p.pg = f k) (hr : Rd wr w.heap.size p.A p.n (p.bs.map bv)) (hk : p.Ok) :
    Bk w1 gq tGot (gv AA k cc 0) ∧ RAt w (w1.setCell ⟨gq, 0, none⟩ (.slice A' (k + 1) c')) gq (k + 1) A' c' (ws ++ [p]) f := by
  have hb1 : Bk w1 gq tGot (gv AA k cc 0) := h.bk.grown hg (h.row.ne h.bk (by decide))
  have hr1 : Bk w1 w.heap.size tGot (gv none 0 0 0) := h.res.grown hg (h.row.ne h.res (by decide))
  have hbl : Below w.heap.size wr w1 := below_of_grown hg h.fr.size (fun q hq => (h.row.block q hq).1)
  have hpt := But.put (g := gq) (i := 0) w1 (.slice A' (k + 1) c')
  refine ⟨hb1, ⟨?_, ?_, ?_, ?_, ?_, ?_, h.lt⟩⟩
  · exact hb1.put 0 _
  · exact ho.but hpt (ho.ne hb1 (by decide))
  · rw [List.map_append, h.pgs, List.range_succ, List.map_append]
    simp [hp]
  · intro q hq
    have hbb : Below w.heap.size wr (w1.setCell ⟨gq, 0, none⟩ (.slice A' (k + 1) c')) := hbl.setCell (p := ⟨gq, 0, none⟩) (Nat.le_of_lt h.lt) _
    rcases List.mem_append.1 hq with hq | hq
    · exact ⟨(h.rd q hq).1.below hbb (Nat.le_refl _), (h.rd q hq).2⟩
    · rw [List.mem_singleton] at hq
      subst hq
      exact ⟨hr.below hbb (Nat.le_refl _), hk⟩
  · exact hr1.apart (p := ⟨gq, 0, none⟩) (by have := h.lt; simp only; omega) _
  · exact (h.row.append h.fr (Nat.le_refl _) hg).but (Nat.le_of_lt h.lt) hpt
theorem all_of (hrow : OwnK wr w.heap.size tWrite 2 AA k cc wpV ws) (hpgs : ws.map Wp.pg = (List.range k).map f) (hrd : ∀ p ∈ ws, Rd wr w.heap.size p.A p.n (p.bs.map bv) ∧ p.Ok) (hsz : w.heap.size ≤ wr.heap.size) : WsAt wr wr.heap.size AA k ws := by
  have hl : ws.length = k := by
    have := congrArg List.length hpgs
    rwa [List.length_map, List.length_map, List.length_range] at this
  refine ⟨hl, fun h0 => ?_, fun p hp => ⟨(hrd p hp).1.up hsz, (hrd p hp).2⟩⟩
  rcases hrow.2 with ⟨_, hn⟩ | ⟨g, cap, cur, hv, hbg, hg, h1, h2, h3, h4⟩
  · omega
  · injection hv with hA1 _ _
    refine ⟨g, 0, hA1, (Array.getElem?_eq_some_iff.1 hg).1, fun i s hs => ?_⟩
    obtain ⟨g2, e2, _, _, hr2⟩ := hrow.at_ wpV_len (by decide) hs
    rw [hA1] at e2
    cases e2
    rw [Nat.zero_add]
    exact hr2
theorem RAt.all (h : RAt w wr gq k AA cc ws f) : WsAt wr wr.heap.size AA k ws := all_of h.row h.pgs h.rd h.fr.size
/-- behind the store of the answer -/
theorem RAt.out (h : RAt w wr gq k AA cc ws f) (hut : But w.heap.size wr w1) : WsAt w1 w1.heap.size AA k ws :=
  all_of (h.row.but hut (h.row.ne h.res (by decide))) h.pgs (fun p hp => ⟨(h.rd p hp).1.but h.fr.size (Nat.le_refl _) hut, (h.rd p hp).2⟩) (Nat.le_trans h.fr.size hut.size)
end
end Go.Proofs.Ytcfijppfccfbdaa.walp
