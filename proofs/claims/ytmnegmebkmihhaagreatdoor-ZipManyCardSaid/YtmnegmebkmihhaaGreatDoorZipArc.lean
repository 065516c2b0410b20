/-
  zip's archive on its way, as it lies: what a row that has grown, and its store, leave. My own text.
-/
import Derived.Test.YtmnegmebkmihhaaGreatDoorZipHead
namespace Go.Proofs.YtmnegmebkmihhaaGreatDoor.zipp
open Go.RowKit Go.Proofs.YtmnegmebkmihhaaGreatDoor.base Go.Proofs.YtmnegmebkmihhaaGreatDoor.num Go.Proofs.YtmnegmebkmihhaaGreatDoor.recn Go.Proofs.YtmnegmebkmihhaaGreatDoor.recp Go.Proofs.YtmnegmebkmihhaaGreatDoor.nam Go.Proofs.YtmnegmebkmihhaaGreatDoor.namp Go.Proofs.YtmnegmebkmihhaaGreatDoor.zipn
set_option linter.unusedVariables false
abbrev tB : TypeId := 5
theorem apart_next {v v' u : Option Nat} {N : Nat} (h : ∀ r, v = some r → u ≠ some r) (hw : v' = v ∨ v' = some N) (hu : ∀ r, u = some r → r < N) : ∀ r, v' = some r → u ≠ some r := by
  intro r hr hr'
  rcases hw with e | e
  · exact h r (e ▸ hr) hr'
  · rw [e] at hr
    injection hr with hr
    have := hu r hr'
    omega
structure ArcL (w : World) (base g : Nat) (A : Option Addr) (n c : Nat) (D : Option Addr) (m d : Nat) (xs ys : List Value) (k : Int) (wd : Bool) : Prop where
  bk : Bk w g tArc [.slice A n c, .slice D m d, .int .i64 k, .bool wd]
  rowA : Own w base tB A n c xs
  rowD : Own w base tB D m d ys
  ap : ∀ q, (Value.slice A n c).ownBlock = some q → (Value.slice D m d).ownBlock ≠ some q
section
variable {w w' : World} {base g n c m d n' c' : Nat} {A D A' : Option Addr} {xs ys xs' : List Value} {k : Int} {wd : Bool}
theorem ArcL.fresh (h : ArcL w base g A n c D m d xs ys k wd) (hf : Fresh w w') : ArcL w' base g A n c D m d xs ys k wd := ⟨h.bk.fresh hf, h.rowA.fresh hf, h.rowD.fresh hf, h.ap⟩
theorem ArcL.grow0 (h : ArcL w base g A n c D m d xs ys k wd) (hg : w.grownBy w' (Value.slice A n c).ownBlock) : Bk w' g tArc [.slice A n c, .slice D m d, .int .i64 k, .bool wd] := h.bk.grown hg (h.rowA.ne_block h.bk (by decide))
theorem ArcL.grow1 (h : ArcL w base g A n c D m d xs ys k wd) (hg : w.grownBy w' (Value.slice D m d).ownBlock) : Bk w' g tArc [.slice A n c, .slice D m d, .int .i64 k, .bool wd] := h.bk.grown hg (h.rowD.ne_block h.bk (by decide))
theorem ArcL.put0 (h : ArcL w base g A n c D m d xs ys k wd) (hg : w.grownBy w' (Value.slice A n c).ownBlock) (ho : Own w' base tB A' n' c' xs') (hw : (Value.slice A' n' c').ownBlock = (Value.slice A n c).ownBlock ∨ (Value.slice A' n' c').ownBlock = some w.heap.size) :
    ArcL (w'.setCell ⟨g, 0, none⟩ (.slice A' n' c')) base g A' n' c' D m d xs' ys k wd := by
  have hb := h.grow0 hg
  have hd := h.rowD.beside hg h.ap
  refine ⟨hb.put 0 _, ho.but (But.put w' _) (ho.ne_block hb (by decide)), hd.but (But.put w' _) (hd.ne_block hb (by decide)), fun q hq hq' => ?_⟩
  rcases hw with hw | hw
  · exact h.ap q (hw ▸ hq) hq'
  · rw [hw] at hq
    injection hq with hq
    have := (World.ownsRow.lt h.rowD q hq').2
    omega
theorem ArcL.put1 (h : ArcL w base g A n c D m d xs ys k wd) (hg : w.grownBy w' (Value.slice D m d).ownBlock) (ho : Own w' base tB A' n' c' xs') (hw : (Value.slice A' n' c').ownBlock = (Value.slice D m d).ownBlock ∨ (Value.slice A' n' c').ownBlock = some w.heap.size) :
    ArcL (w'.setCell ⟨g, 1, none⟩ (.slice A' n' c')) base g A n c A' n' c' xs xs' k wd := by
  have hb := h.grow1 hg
  have ha := h.rowA.beside hg (fun q hq hq' => h.ap q hq' hq)
  refine ⟨hb.put 1 _, ha.but (But.put w' _) (ha.ne_block hb (by decide)), ho.but (But.put w' _) (ho.ne_block hb (by decide)), fun q hq hq' => ?_⟩
  rcases hw with hw | hw
  · exact h.ap q hq (hw ▸ hq')
  · rw [hw] at hq'
    injection hq' with hq'
    have := (World.ownsRow.lt h.rowA q hq).2
    omega
theorem ArcL.put2 (h : ArcL w base g A n c D m d xs ys k wd) (k' : Int) : ArcL (w.setCell ⟨g, 2, none⟩ (.int .i64 k')) base g A n c D m d xs ys k' wd :=
  ⟨h.bk.put 2 _, h.rowA.but (But.put w _) (h.rowA.ne_block h.bk (by decide)), h.rowD.but (But.put w _) (h.rowD.ne_block h.bk (by decide)), h.ap⟩
theorem ArcL.put3 (h : ArcL w base g A n c D m d xs ys k wd) (b : Bool) : ArcL (w.setCell ⟨g, 3, none⟩ (.bool b)) base g A n c D m d xs ys k b :=
  ⟨h.bk.put 3 _, h.rowA.but (But.put w _) (h.rowA.ne_block h.bk (by decide)), h.rowD.but (But.put w _) (h.rowD.ne_block h.bk (by decide)), h.ap⟩
/-- another block, of heads or items, stays -/
theorem ArcL.keep0 {q t : Nat} {V : List Value} (h : ArcL w base g A n c D m d xs ys k wd) (hg : w.grownBy w' (Value.slice A n c).ownBlock) (hq : Bk w q t V) (ht : tB ≠ t) (hne : q ≠ g) (v : Value) : Bk (w'.setCell ⟨g, 0, none⟩ v) q t V := (hq.grown hg (h.rowA.ne_block hq ht)).apart (p := ⟨g, 0, none⟩) hne v
theorem ArcL.keep1 {q t : Nat} {V : List Value} (h : ArcL w base g A n c D m d xs ys k wd) (hg : w.grownBy w' (Value.slice D m d).ownBlock) (hq : Bk w q t V) (ht : tB ≠ t) (hne : q ≠ g) (v : Value) : Bk (w'.setCell ⟨g, 1, none⟩ v) q t V := (hq.grown hg (h.rowD.ne_block hq ht)).apart (p := ⟨g, 1, none⟩) hne v
/-- what lies below stays -/
theorem ArcL.below0 {w0 : World} (h : ArcL w base g A n c D m d xs ys k wd) (hg : w.grownBy w' (Value.slice A n c).ownBlock) (hb : Below base w0 w) (hB : base ≤ w.heap.size) (hbg : base ≤ g) (v : Value) : Below base w0 (w'.setCell ⟨g, 0, none⟩ v) :=
  Below.but (Below.own hb hB h.rowA (Nat.le_refl _) hg) hbg (Nat.le_trans hB hg.size) (But.put (g := g) (i := 0) w' v)
theorem ArcL.below1 {w0 : World} (h : ArcL w base g A n c D m d xs ys k wd) (hg : w.grownBy w' (Value.slice D m d).ownBlock) (hb : Below base w0 w) (hB : base ≤ w.heap.size) (hbg : base ≤ g) (v : Value) : Below base w0 (w'.setCell ⟨g, 1, none⟩ v) :=
  Below.but (Below.own hb hB h.rowD (Nat.le_refl _) hg) hbg (Nat.le_trans hB hg.size) (But.put (g := g) (i := 1) w' v)
end
end Go.Proofs.YtmnegmebkmihhaaGreatDoor.zipp
