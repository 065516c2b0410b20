/-
  The contract of the reference's size. My own text.
-/
import Derived.Test.YtelghdfikcodmaaRefLast
import Derived.Test.YtelghdfikcodmaaAppx
/-
  What the reference's calls make of a file's rows: plain mathematics. My own text.
-/
namespace Go.Proofs.Ytelghdfikcodmaa.vref
open Go.Proofs.Ytelghdfikcodmaa.base Go.Proofs.Ytelghdfikcodmaa.vfsnum
set_option linter.unusedVariables false

theorem RRaw.same {r r' : RRaw} (h1 : r.b = r'.b) (h2 : r.old = r'.old) (h3 : r.wt = r'.wt) (h4 : r.stamp = r'.stamp) : r = r' := by
  cases r; cases r'; simp only at h1 h2 h3 h4; subst h1; subst h2; subst h3; subst h4; rfl
/-- a row of sectors -/
def secs (k : Nat) (s : Nat → Bs) : Bs := (List.range (64 * k)).map fun p => (s (p / 64)).getD (p % 64) 0
theorem secs_len (k : Nat) (s : Nat → Bs) : (secs k s).length = 64 * k := by simp [secs]
theorem gd_secs (k : Nat) (s : Nat → Bs) (p : Nat) (h : p < 64 * k) : (secs k s).getD p 0 = (s (p / 64)).getD (p % 64) 0 := by rw [secs, gd_range, if_pos h]
theorem flat_secs (k : Nat) (s : Nat → Bs) (h : ∀ j, j < k → (s j).length = 64) : (List.range k).flatMap s = secs k s := by
  induction k with
  | zero => rfl
  | succ k ih =>
    have ih' := ih fun j hj => h j (by omega)
    rw [List.range_succ, List.flatMap_append, ih']
    simp only [List.flatMap_cons, List.flatMap_nil, List.append_nil]
    refine ext_gd (by rw [List.length_append, secs_len, secs_len, h k (by omega)]; omega) fun p hp => ?_
    rw [List.length_append, secs_len, h k (by omega)] at hp
    rw [gd_append, secs_len, gd_secs (k + 1) s p (by omega)]
    by_cases hlt : p < 64 * k
    · rw [if_pos hlt, gd_secs _ _ _ hlt]
    · rw [if_neg hlt, show p / 64 = k by omega, show p % 64 = p - 64 * k by omega]
theorem oldSec_len {x : Fl} (hx : FlOk x) (k : Nat) : (oldSec x k).length = 64 := by
  unfold oldSec
  cases ho : x.old k with
  | none => exact secAt_len _ _
  | some o => exact (hx.2 k o ho).2
theorem rawR_old {x : Fl} (hx : FlOk x) : (rawR x).old = secs (tk x) (oldSec x) := flat_secs _ _ fun j _ => oldSec_len hx j
theorem rawR_old_len {x : Fl} (hx : FlOk x) : (rawR x).old.length = 64 * tk x := by rw [rawR_old hx, secs_len]
theorem rawR_wt_len (x : Fl) : (rawR x).wt.length = tk x := by simp [rawR]
/-- two rows of sectors -/
theorem secs_ext {k : Nat} {s t : Nat → Bs} (h : ∀ j i, j < k → i < 64 → (s j).getD i 0 = (t j).getD i 0) : secs k s = secs k t := by
  refine ext_gd (by rw [secs_len, secs_len]) fun p hp => ?_
  rw [secs_len] at hp
  rw [gd_secs _ _ _ hp, gd_secs _ _ _ hp]
  exact h _ _ (by omega) (Nat.mod_lt _ (by omega))
theorem map_ext {α : Type} {k : Nat} {s t : Nat → α} (h : ∀ j, j < k → s j = t j) : (List.range k).map s = (List.range k).map t := List.map_congr_left fun j hj => h j (List.mem_range.1 hj)
theorem lastRow_secs (b : Bs) (k j : Nat) (s : Nat → Bs) (hj : j < k) : lastRow b (secs k s) j 64 = secs k fun i => if i = j then secAt b j else s i := by
  refine ext_gd (by rw [lastRow_len, secs_len, secs_len]) fun p hp => ?_
  rw [lastRow_len, secs_len] at hp
  rw [lastRow, secs_len, gd_range, if_pos hp, gd_secs _ _ _ hp, gd_secs _ _ _ hp]
  by_cases h : 64 * j ≤ p ∧ p < 64 * j + 64
  · rw [if_pos h, if_pos (by omega), gd_sec _ _ _ (Nat.mod_lt _ (by omega))]
    congr 1
    omega
  · rw [if_neg h, if_neg (by omega)]

/-! sync -/
/-- when j sectors were made to last -/
def syncR (x : Fl) (j : Nat) : RRaw := ⟨x.bs, secs (tk x) fun i => if i < j then secAt x.bs i else oldSec x i, (List.range (tk x)).map fun i => if i < j then false else (x.old i).isSome, x.stamp⟩
theorem syncR_zero {x : Fl} (hx : FlOk x) : syncR x 0 = rawR x := RRaw.same rfl (by rw [rawR_old hx]; rfl) rfl rfl
theorem syncR_all (x : Fl) : syncR x (tk x) = rawR { x with old := noOld } := by
  refine RRaw.same rfl ?_ (map_ext fun j hj => by simp [hj, noOld]) rfl
  show (secs (tk x) fun i => if i < tk x then secAt x.bs i else oldSec x i) = (List.range (tk x)).flatMap (oldSec { x with old := noOld })
  rw [flat_secs (tk x) (oldSec { x with old := noOld }) (fun j _ => secAt_len _ _)]
  exact secs_ext fun j i hj hi => by simp [hj, oldSec, noOld]
theorem set_range {α : Type} (k j : Nat) (s : Nat → α) (v : α) : ((List.range k).map s).set j v = (List.range k).map fun i => if i = j then v else s i := by
  refine List.ext_getElem (by simp) fun i h1 h2 => ?_
  simp only [List.getElem_set, List.getElem_map, List.getElem_range]
  by_cases h : j = i
  · rw [if_pos h, if_pos h.symm]
  · rw [if_neg h, if_neg fun e => h e.symm]
theorem syncR_step (x : Fl) (j : Nat) (hj : j < tk x) : { syncR x j with old := lastRow (syncR x j).b (syncR x j).old j 64, wt := (syncR x j).wt.set j false } = syncR x (j + 1) := by
  refine RRaw.same rfl ?_ ?_ rfl
  · show lastRow x.bs (secs (tk x) fun i => if i < j then secAt x.bs i else oldSec x i) j 64 = secs (tk x) fun i => if i < j + 1 then secAt x.bs i else oldSec x i
    rw [lastRow_secs _ _ _ _ hj]
    refine secs_ext fun i p hi hp => ?_
    by_cases h1 : i = j
    · subst h1; simp
    · by_cases h2 : i < j
      · simp [h1, h2, show i < j + 1 by omega]
      · simp [h1, h2, show ¬ i < j + 1 by omega]
  · show ((List.range (tk x)).map fun i => if i < j then false else (x.old i).isSome).set j false = (List.range (tk x)).map fun i => if i < j + 1 then false else (x.old i).isSome
    rw [set_range]
    refine map_ext fun i hi => ?_
    by_cases h1 : i = j
    · subst h1; simp
    · by_cases h2 : i < j
      · simp [h1, h2, show i < j + 1 by omega]
      · simp [h1, h2, show ¬ i < j + 1 by omega]

/-! size -/
def sizeR (r : RRaw) (n : Nat) : RRaw :=
  { r with b := (r.b ++ List.replicate (n - r.b.length) 0).take n, old := (r.old ++ List.replicate (64 * (takes n - r.wt.length)) 0).take (64 * takes n), wt := (r.wt ++ List.replicate (takes n - r.wt.length) false).take (takes n) }
theorem isSome_range (k : Nat) (s : Nat → Bool) (j : Nat) (h : j < k) : ((List.range k).map s)[j]? = some (s j) := by simp [h]

/-! cut -/
theorem cut_raw {x : Fl} (hx : FlOk x) {n : Nat} (hn : n ≤ x.bs.length) (s : Nat) :
    rawR { ct x n with stamp := s } = { sizeR (rawR x) n with wt := if n % 64 = 0 then (sizeR (rawR x) n).wt else (sizeR (rawR x) n).wt.set (n / 64) true, stamp := s } := by
  have hL : (x.bs.take n).length = n := by rw [List.length_take]; omega
  have htk : tk { ct x n with stamp := s } = takes n := by show takes (x.bs.take n).length = _; rw [hL]
  have hle : takes n ≤ tk x := by unfold tk takes; omega
  have hbs : (sizeR (rawR x) n).b = x.bs.take n := by
    show (x.bs ++ List.replicate (n - x.bs.length) 0).take n = _
    rw [List.take_append_of_le_length hn]
  have hwt : (sizeR (rawR x) n).wt = (List.range (takes n)).map fun i => (x.old i).isSome := by
    show ((rawR x).wt ++ List.replicate (takes n - (rawR x).wt.length) false).take (takes n) = _
    rw [rawR_wt_len, List.take_append_of_le_length (by rw [rawR_wt_len]; exact hle)]
    show ((List.range (tk x)).map _).take _ = _
    rw [← List.map_take, List.take_range, Nat.min_eq_left hle]
  have hold : (sizeR (rawR x) n).old = secs (takes n) (oldSec x) := by
    show ((rawR x).old ++ List.replicate (64 * (takes n - (rawR x).wt.length)) 0).take (64 * takes n) = _
    have hl := rawR_old_len hx
    rw [List.take_append_of_le_length (by rw [hl]; omega), rawR_old hx]
    refine ext_gd (by rw [List.length_take, secs_len, secs_len]; omega) fun p hp => ?_
    rw [List.length_take, secs_len] at hp
    rw [gd_take, if_pos (by omega), gd_secs _ _ _ (by omega), gd_secs _ _ _ (by omega)]
  have hsome : ∀ i, i < takes n → ((ct x n).old i).isSome = if n % 64 ≠ 0 ∧ i = n / 64 then true else (x.old i).isSome := by
    intro i hi
    show (if takes n ≤ i then none else if n % 64 ≠ 0 ∧ i = n / 64 ∧ (x.old i).isSome = false then some (secAt x.bs i) else x.old i).isSome = _
    rw [if_neg (by omega)]
    by_cases h1 : n % 64 ≠ 0 ∧ i = n / 64
    · rw [if_pos h1]
      cases ho : x.old i with
      | none => rw [if_pos ⟨h1.1, h1.2, rfl⟩]; rfl
      | some o => rw [if_neg (by simp)]; rfl
    · rw [if_neg h1, if_neg fun h => h1 ⟨h.1, h.2.1⟩]
  refine RRaw.same hbs.symm ?_ ?_ rfl
  · show (List.range (tk { ct x n with stamp := s })).flatMap _ = (sizeR (rawR x) n).old
    rw [hold, htk]
    have hlen : ∀ j, j < takes n → (oldSec { ct x n with stamp := s } j).length = 64 := by
      intro j hj
      show (((ct x n).old j).getD (secAt (x.bs.take n) j)).length = 64
      show ((if takes n ≤ j then none else if n % 64 ≠ 0 ∧ j = n / 64 ∧ (x.old j).isSome = false then some (secAt x.bs j) else x.old j).getD _).length = 64
      rw [if_neg (by omega)]
      split
      · exact secAt_len _ _
      · cases ho : x.old j with
        | none => exact secAt_len _ _
        | some o => exact (hx.2 j o ho).2
    rw [flat_secs _ _ hlen]
    refine secs_ext fun j i hj hi => ?_
    show (((ct x n).old j).getD (secAt (x.bs.take n) j)).getD i 0 = ((x.old j).getD (secAt x.bs j)).getD i 0
    show ((if takes n ≤ j then none else if n % 64 ≠ 0 ∧ j = n / 64 ∧ (x.old j).isSome = false then some (secAt x.bs j) else x.old j).getD _).getD i 0 = _
    rw [if_neg (by omega)]
    cases ho : x.old j with
    | some o => rw [if_neg (by simp)]; rfl
    | none =>
      by_cases h1 : n % 64 ≠ 0 ∧ j = n / 64
      · rw [if_pos ⟨h1.1, h1.2, rfl⟩]; rfl
      · rw [if_neg fun h => h1 ⟨h.1, h.2.1⟩]
        show (secAt (x.bs.take n) j).getD i 0 = (secAt x.bs j).getD i 0
        have : 64 * j + 64 ≤ n := by unfold takes at hj; omega
        rw [gd_sec _ _ _ hi, gd_sec _ _ _ hi, gd_take, if_pos (by omega)]
  · show (List.range (tk { ct x n with stamp := s })).map _ = if n % 64 = 0 then (sizeR (rawR x) n).wt else (sizeR (rawR x) n).wt.set (n / 64) true
    rw [hwt, htk]
    by_cases h0 : n % 64 = 0
    · rw [if_pos h0]
      exact map_ext fun i hi => by rw [show ({ ct x n with stamp := s } : Fl).old i = (ct x n).old i from rfl, hsome i hi, if_neg (by simp [h0])]
    · rw [if_neg h0, set_range]
      refine map_ext fun i hi => ?_
      rw [show ({ ct x n with stamp := s } : Fl).old i = (ct x n).old i from rfl, hsome i hi]
      by_cases h1 : i = n / 64
      · rw [if_pos ⟨h0, h1⟩, if_pos h1]
      · rw [if_neg (by rintro ⟨_, h⟩; exact h1 h), if_neg h1]
end Go.Proofs.Ytelghdfikcodmaa.vref
/-
  A file of the reference: its rows grow and are cut; the contract of its size. My own text.
-/
namespace Go.Proofs.Ytelghdfikcodmaa.vref
open Go.RowKit Go.Maps Go.Proofs.Ytelghdfikcodmaa.base Go.Proofs.Ytelghdfikcodmaa.vfsnum Go.Proofs.Ytelghdfikcodmaa.vfs
set_option linter.unusedVariables false

theorem mem_rb {A : Option Addr} {n c b : Nat} : b ∈ rb A ↔ (Value.slice A n c).ownBlock = some b := by
  cases A <;> simp [rb, Value.ownBlock, eq_comm]
theorem nod {g : Nat} {A B C : Option Addr} : (g :: (rb A ++ (rb B ++ rb C))).Nodup ↔ (g ∉ rb A ∧ g ∉ rb B ∧ g ∉ rb C ∧ (∀ b ∈ rb A, b ∉ rb B) ∧ (∀ b ∈ rb A, b ∉ rb C) ∧ ∀ b ∈ rb B, b ∉ rb C) := by
  have ha := rb_nodup A
  have hb := rb_nodup B
  have hc := rb_nodup C
  simp only [List.nodup_cons, List.nodup_append, List.mem_append, not_or]
  constructor
  · rintro ⟨⟨h1, h2, h3⟩, _, ⟨_, _, h4⟩, h5⟩
    exact ⟨h1, h2, h3, fun b hb hb2 => h5 b hb b (.inl hb2) rfl, fun b hb hb2 => h5 b hb b (.inr hb2) rfl, fun b hb hb2 => h4 b hb b hb2 rfl⟩
  · rintro ⟨h1, h2, h3, h4, h5, h6⟩
    refine ⟨⟨h1, h2, h3⟩, ha, ⟨hb, hc, fun b hb d hd e => by subst e; exact h6 b hb hd⟩, fun b hb d hd e => ?_⟩
    subst e
    rcases hd with h | h
    · exact h4 b hb h
    · exact h5 b hb h
theorem grow_core {w w1 : World} {X X' : Option Addr} {n c n' c' : Nat} (hg : w.grownBy w1 (Value.slice X n c).ownBlock) (hw : (Value.slice X' n' c').ownBlock = (Value.slice X n c).ownBlock ∨ (Value.slice X' n' c').ownBlock = some w.heap.size) :
    (∀ b, b < w.heap.size → b ∉ rb X → b ∉ rb X' ∧ w1.heap[b]? = w.heap[b]?) ∧ ∀ b ∈ rb X', b ∈ rb X ∨ w.heap.size ≤ b := by
  refine ⟨fun b hb hX => ⟨fun hX' => ?_, hg.block b hb fun e => hX (mem_rb.2 e.symm)⟩, fun b hb => ?_⟩
  · rw [mem_rb (n := n') (c := c')] at hX'
    rcases hw with h | h
    · exact hX (mem_rb.2 (h.symm.trans hX'))
    · rw [h] at hX'; injection hX' with e; omega
  · rw [mem_rb (n := n') (c := c')] at hb
    rcases hw with h | h
    · exact .inl (mem_rb.2 (h.symm.trans hb))
    · rw [h] at hb; injection hb with e; exact .inr (by omega)
theorem turn_set {w w1 : World} {g i : Nat} {S S' : List Nat} {X : Option Addr} {n c : Nat} (hg : w.grownBy w1 (Value.slice X n c).ownBlock) (h1 : g ∈ S) (h2 : ∀ b ∈ rb X, b ∈ S) (h3 : ∀ b ∈ S', b ∈ S ∨ w.heap.size ≤ b) (v : Value) : Turn S S' w (w1.setCell ⟨g, i, none⟩ v) := by
  have t1 : Turn S S w w1 := Turn.of_grown hg fun b hb => h2 b (mem_rb.2 hb)
  exact (t1.trans (Turn.but (But.put (i := i) w1 v) h1)).to h3

theorem RFile.grow1 {w w1 : World} {g : Nat} {n : ByteArray} {r : RRaw} {A1 A2 A3 A' : Option Addr} {c1 c2 c3 c' : Nat} (hnd : (g :: (rb A1 ++ (rb A2 ++ rb A3))).Nodup) (hb : Bk w g tFile [.string n, .slice A1 r.b.length c1, .slice A2 r.old.length c2, .slice A3 r.wt.length c3, .int .i64 r.stamp])
    (h1 : Own w 0 5 A1 r.b.length c1 (r.b.map bv)) (h2 : Own w 0 5 A2 r.old.length c2 (r.old.map bv)) (h3 : Own w 0 4 A3 r.wt.length c3 (r.wt.map Value.bool)) (x' : Bs) (ho : Own w1 0 5 A' x'.length c' (x'.map bv)) (hg : w.grownBy w1 (Value.slice A1 r.b.length c1).ownBlock)
    (hw : (Value.slice A' x'.length c').ownBlock = (Value.slice A1 r.b.length c1).ownBlock ∨ (Value.slice A' x'.length c').ownBlock = some w.heap.size) :
    RFile (w1.setCell ⟨g, 1, none⟩ (.slice A' x'.length c')) g n { r with b := x' } (g :: (rb A' ++ (rb A2 ++ rb A3))) ∧ Turn (g :: (rb A1 ++ (rb A2 ++ rb A3))) (g :: (rb A' ++ (rb A2 ++ rb A3))) w (w1.setCell ⟨g, 1, none⟩ (.slice A' x'.length c')) := by
  obtain ⟨g1, g2, g3, d12, d13, d23⟩ := nod.1 hnd
  obtain ⟨hc, hs⟩ := grow_core hg hw
  have i1 := Own.inside h1
  have i2 := Own.inside h2
  have i3 := Own.inside h3
  have hgc := hc g hb.inside g1
  have hb1 : Bk w1 g tFile [.string n, .slice A1 r.b.length c1, .slice A2 r.old.length c2, .slice A3 r.wt.length c3, .int .i64 r.stamp] := hb.old hgc.2
  have k2 : Own w1 0 _ A2 _ c2 _ := Own.old h2 fun b hb => (hc b (i2 b hb) ((fun b hb hb2 => d12 b hb2 hb) b hb)).2
  have k3 : Own w1 0 _ A3 _ c3 _ := Own.old h3 fun b hb => (hc b (i3 b hb) ((fun b hb hb2 => d13 b hb2 hb) b hb)).2
  have e2 : ∀ b ∈ rb A2, b ∉ rb A' := fun b hb => (hc b (i2 b hb) ((fun b hb hb2 => d12 b hb2 hb) b hb)).1
  have e3 : ∀ b ∈ rb A3, b ∉ rb A' := fun b hb => (hc b (i3 b hb) ((fun b hb hb2 => d13 b hb2 hb) b hb)).1
  have st : ∀ {T : TypeId} {X : Option Addr} {l cx : Nat} {xs : List Value}, Own w1 0 T X l cx xs → g ∉ rb X → Own (w1.setCell ⟨g, 1, none⟩ (.slice A' x'.length c')) 0 T X l cx xs := fun h hX => Own.old h fun b hb2 => Below.heap_setCell w1 ⟨g, 1, none⟩ _ b fun e => hX ((show b = g from e) ▸ hb2)
  have hput := hb1.put 1 (.slice A' x'.length c')
  refine ⟨⟨A', c', A2, c2, A3, c3, rfl, nod.2 ?_, hput, st ho hgc.1, st k2 g2, st k3 g3⟩, turn_set hg (by simp) (fun b hb => by simp [hb]) (fun b hb => ?_) _⟩
  · exact ⟨hgc.1, g2, g3, fun b hb hb2 => e2 b hb2 hb, fun b hb hb2 => e3 b hb2 hb, d23⟩
  · simp only [List.mem_cons, List.mem_append] at hb ⊢
    rcases hb with h | h | h | h
    · exact .inl (.inl h)
    · rcases hs b h with h | h
      · exact .inl (.inr (.inl h))
      · exact .inr h
    · exact .inl (.inr (.inr (.inl h)))
    · exact .inl (.inr (.inr (.inr h)))
theorem RFile.cut1 {w : World} {g : Nat} {n : ByteArray} {r : RRaw} {A1 A2 A3 : Option Addr} {c1 c2 c3 : Nat} (hnd : (g :: (rb A1 ++ (rb A2 ++ rb A3))).Nodup) (hb : Bk w g tFile [.string n, .slice A1 r.b.length c1, .slice A2 r.old.length c2, .slice A3 r.wt.length c3, .int .i64 r.stamp])
    (h1 : Own w 0 5 A1 r.b.length c1 (r.b.map bv)) (h2 : Own w 0 5 A2 r.old.length c2 (r.old.map bv)) (h3 : Own w 0 4 A3 r.wt.length c3 (r.wt.map Value.bool)) {m : Nat} (hm : m ≤ r.b.length) :
    RFile (w.setCell ⟨g, 1, none⟩ (.slice A1 m c1)) g n { r with b := r.b.take m } (g :: (rb A1 ++ (rb A2 ++ rb A3))) ∧ Turn (g :: (rb A1 ++ (rb A2 ++ rb A3))) (g :: (rb A1 ++ (rb A2 ++ rb A3))) w (w.setCell ⟨g, 1, none⟩ (.slice A1 m c1)) := by
  obtain ⟨g1, g2, g3, d12, d13, d23⟩ := nod.1 hnd
  have hl : (r.b.take m).length = m := by rw [List.length_take]; omega
  have st : ∀ {T : TypeId} {X : Option Addr} {l cx : Nat} {xs : List Value}, Own w 0 T X l cx xs → g ∉ rb X → Own (w.setCell ⟨g, 1, none⟩ (.slice A1 m c1)) 0 T X l cx xs := fun h hX => Own.old h fun b hb2 => Below.heap_setCell w ⟨g, 1, none⟩ _ b fun e => hX ((show b = g from e) ▸ hb2)
  have hf := Own.first h1 hm
  rw [← List.map_take] at hf
  have hput := hb.put 1 (.slice A1 m c1)
  refine ⟨⟨A1, c1, A2, c2, A3, c3, rfl, hnd, ?_, st (by rw [hl]; exact hf) g1, st h2 g2, st h3 g3⟩, Turn.but (But.put w _) (by simp)⟩
  show Bk _ _ _ [.string n, .slice A1 (r.b.take m).length c1, .slice A2 r.old.length c2, .slice A3 r.wt.length c3, .int .i64 r.stamp]
  rw [hl]
  exact hput

theorem RFile.grow2 {w w1 : World} {g : Nat} {n : ByteArray} {r : RRaw} {A1 A2 A3 A' : Option Addr} {c1 c2 c3 c' : Nat} (hnd : (g :: (rb A1 ++ (rb A2 ++ rb A3))).Nodup) (hb : Bk w g tFile [.string n, .slice A1 r.b.length c1, .slice A2 r.old.length c2, .slice A3 r.wt.length c3, .int .i64 r.stamp])
    (h1 : Own w 0 5 A1 r.b.length c1 (r.b.map bv)) (h2 : Own w 0 5 A2 r.old.length c2 (r.old.map bv)) (h3 : Own w 0 4 A3 r.wt.length c3 (r.wt.map Value.bool)) (x' : Bs) (ho : Own w1 0 5 A' x'.length c' (x'.map bv)) (hg : w.grownBy w1 (Value.slice A2 r.old.length c2).ownBlock)
    (hw : (Value.slice A' x'.length c').ownBlock = (Value.slice A2 r.old.length c2).ownBlock ∨ (Value.slice A' x'.length c').ownBlock = some w.heap.size) :
    RFile (w1.setCell ⟨g, 2, none⟩ (.slice A' x'.length c')) g n { r with old := x' } (g :: (rb A1 ++ (rb A' ++ rb A3))) ∧ Turn (g :: (rb A1 ++ (rb A2 ++ rb A3))) (g :: (rb A1 ++ (rb A' ++ rb A3))) w (w1.setCell ⟨g, 2, none⟩ (.slice A' x'.length c')) := by
  obtain ⟨g1, g2, g3, d12, d13, d23⟩ := nod.1 hnd
  obtain ⟨hc, hs⟩ := grow_core hg hw
  have i1 := Own.inside h1
  have i2 := Own.inside h2
  have i3 := Own.inside h3
  have hgc := hc g hb.inside g2
  have hb1 : Bk w1 g tFile [.string n, .slice A1 r.b.length c1, .slice A2 r.old.length c2, .slice A3 r.wt.length c3, .int .i64 r.stamp] := hb.old hgc.2
  have k1 : Own w1 0 _ A1 _ c1 _ := Own.old h1 fun b hb => (hc b (i1 b hb) (d12 b hb)).2
  have k3 : Own w1 0 _ A3 _ c3 _ := Own.old h3 fun b hb => (hc b (i3 b hb) ((fun b hb hb2 => d23 b hb2 hb) b hb)).2
  have e1 : ∀ b ∈ rb A1, b ∉ rb A' := fun b hb => (hc b (i1 b hb) (d12 b hb)).1
  have e3 : ∀ b ∈ rb A3, b ∉ rb A' := fun b hb => (hc b (i3 b hb) ((fun b hb hb2 => d23 b hb2 hb) b hb)).1
  have st : ∀ {T : TypeId} {X : Option Addr} {l cx : Nat} {xs : List Value}, Own w1 0 T X l cx xs → g ∉ rb X → Own (w1.setCell ⟨g, 2, none⟩ (.slice A' x'.length c')) 0 T X l cx xs := fun h hX => Own.old h fun b hb2 => Below.heap_setCell w1 ⟨g, 2, none⟩ _ b fun e => hX ((show b = g from e) ▸ hb2)
  have hput := hb1.put 2 (.slice A' x'.length c')
  refine ⟨⟨A1, c1, A', c', A3, c3, rfl, nod.2 ?_, hput, st k1 g1, st ho hgc.1, st k3 g3⟩, turn_set hg (by simp) (fun b hb => by simp [hb]) (fun b hb => ?_) _⟩
  · exact ⟨g1, hgc.1, g3, e1, d13, fun b hb hb2 => e3 b hb2 hb⟩
  · simp only [List.mem_cons, List.mem_append] at hb ⊢
    rcases hb with h | h | h | h
    · exact .inl (.inl h)
    · exact .inl (.inr (.inl h))
    · rcases hs b h with h | h
      · exact .inl (.inr (.inr (.inl h)))
      · exact .inr h
    · exact .inl (.inr (.inr (.inr h)))
theorem RFile.cut2 {w : World} {g : Nat} {n : ByteArray} {r : RRaw} {A1 A2 A3 : Option Addr} {c1 c2 c3 : Nat} (hnd : (g :: (rb A1 ++ (rb A2 ++ rb A3))).Nodup) (hb : Bk w g tFile [.string n, .slice A1 r.b.length c1, .slice A2 r.old.length c2, .slice A3 r.wt.length c3, .int .i64 r.stamp])
    (h1 : Own w 0 5 A1 r.b.length c1 (r.b.map bv)) (h2 : Own w 0 5 A2 r.old.length c2 (r.old.map bv)) (h3 : Own w 0 4 A3 r.wt.length c3 (r.wt.map Value.bool)) {m : Nat} (hm : m ≤ r.old.length) :
    RFile (w.setCell ⟨g, 2, none⟩ (.slice A2 m c2)) g n { r with old := r.old.take m } (g :: (rb A1 ++ (rb A2 ++ rb A3))) ∧ Turn (g :: (rb A1 ++ (rb A2 ++ rb A3))) (g :: (rb A1 ++ (rb A2 ++ rb A3))) w (w.setCell ⟨g, 2, none⟩ (.slice A2 m c2)) := by
  obtain ⟨g1, g2, g3, d12, d13, d23⟩ := nod.1 hnd
  have hl : (r.old.take m).length = m := by rw [List.length_take]; omega
  have st : ∀ {T : TypeId} {X : Option Addr} {l cx : Nat} {xs : List Value}, Own w 0 T X l cx xs → g ∉ rb X → Own (w.setCell ⟨g, 2, none⟩ (.slice A2 m c2)) 0 T X l cx xs := fun h hX => Own.old h fun b hb2 => Below.heap_setCell w ⟨g, 2, none⟩ _ b fun e => hX ((show b = g from e) ▸ hb2)
  have hf := Own.first h2 hm
  rw [← List.map_take] at hf
  have hput := hb.put 2 (.slice A2 m c2)
  refine ⟨⟨A1, c1, A2, c2, A3, c3, rfl, hnd, ?_, st h1 g1, st (by rw [hl]; exact hf) g2, st h3 g3⟩, Turn.but (But.put w _) (by simp)⟩
  show Bk _ _ _ [.string n, .slice A1 r.b.length c1, .slice A2 (r.old.take m).length c2, .slice A3 r.wt.length c3, .int .i64 r.stamp]
  rw [hl]
  exact hput

theorem RFile.grow3 {w w1 : World} {g : Nat} {n : ByteArray} {r : RRaw} {A1 A2 A3 A' : Option Addr} {c1 c2 c3 c' : Nat} (hnd : (g :: (rb A1 ++ (rb A2 ++ rb A3))).Nodup) (hb : Bk w g tFile [.string n, .slice A1 r.b.length c1, .slice A2 r.old.length c2, .slice A3 r.wt.length c3, .int .i64 r.stamp])
    (h1 : Own w 0 5 A1 r.b.length c1 (r.b.map bv)) (h2 : Own w 0 5 A2 r.old.length c2 (r.old.map bv)) (h3 : Own w 0 4 A3 r.wt.length c3 (r.wt.map Value.bool)) (x' : List Bool) (ho : Own w1 0 4 A' x'.length c' (x'.map Value.bool)) (hg : w.grownBy w1 (Value.slice A3 r.wt.length c3).ownBlock)
    (hw : (Value.slice A' x'.length c').ownBlock = (Value.slice A3 r.wt.length c3).ownBlock ∨ (Value.slice A' x'.length c').ownBlock = some w.heap.size) :
    RFile (w1.setCell ⟨g, 3, none⟩ (.slice A' x'.length c')) g n { r with wt := x' } (g :: (rb A1 ++ (rb A2 ++ rb A'))) ∧ Turn (g :: (rb A1 ++ (rb A2 ++ rb A3))) (g :: (rb A1 ++ (rb A2 ++ rb A'))) w (w1.setCell ⟨g, 3, none⟩ (.slice A' x'.length c')) := by
  obtain ⟨g1, g2, g3, d12, d13, d23⟩ := nod.1 hnd
  obtain ⟨hc, hs⟩ := grow_core hg hw
  have i1 := Own.inside h1
  have i2 := Own.inside h2
  have i3 := Own.inside h3
  have hgc := hc g hb.inside g3
  have hb1 : Bk w1 g tFile [.string n, .slice A1 r.b.length c1, .slice A2 r.old.length c2, .slice A3 r.wt.length c3, .int .i64 r.stamp] := hb.old hgc.2
  have k1 : Own w1 0 _ A1 _ c1 _ := Own.old h1 fun b hb => (hc b (i1 b hb) (d13 b hb)).2
  have k2 : Own w1 0 _ A2 _ c2 _ := Own.old h2 fun b hb => (hc b (i2 b hb) (d23 b hb)).2
  have e1 : ∀ b ∈ rb A1, b ∉ rb A' := fun b hb => (hc b (i1 b hb) (d13 b hb)).1
  have e2 : ∀ b ∈ rb A2, b ∉ rb A' := fun b hb => (hc b (i2 b hb) (d23 b hb)).1
  have st : ∀ {T : TypeId} {X : Option Addr} {l cx : Nat} {xs : List Value}, Own w1 0 T X l cx xs → g ∉ rb X → Own (w1.setCell ⟨g, 3, none⟩ (.slice A' x'.length c')) 0 T X l cx xs := fun h hX => Own.old h fun b hb2 => Below.heap_setCell w1 ⟨g, 3, none⟩ _ b fun e => hX ((show b = g from e) ▸ hb2)
  have hput := hb1.put 3 (.slice A' x'.length c')
  refine ⟨⟨A1, c1, A2, c2, A', c', rfl, nod.2 ?_, hput, st k1 g1, st k2 g2, st ho hgc.1⟩, turn_set hg (by simp) (fun b hb => by simp [hb]) (fun b hb => ?_) _⟩
  · exact ⟨g1, g2, hgc.1, d12, e1, e2⟩
  · simp only [List.mem_cons, List.mem_append] at hb ⊢
    rcases hb with h | h | h | h
    · exact .inl (.inl h)
    · exact .inl (.inr (.inl h))
    · exact .inl (.inr (.inr (.inl h)))
    · rcases hs b h with h | h
      · exact .inl (.inr (.inr (.inr h)))
      · exact .inr h
theorem RFile.cut3 {w : World} {g : Nat} {n : ByteArray} {r : RRaw} {A1 A2 A3 : Option Addr} {c1 c2 c3 : Nat} (hnd : (g :: (rb A1 ++ (rb A2 ++ rb A3))).Nodup) (hb : Bk w g tFile [.string n, .slice A1 r.b.length c1, .slice A2 r.old.length c2, .slice A3 r.wt.length c3, .int .i64 r.stamp])
    (h1 : Own w 0 5 A1 r.b.length c1 (r.b.map bv)) (h2 : Own w 0 5 A2 r.old.length c2 (r.old.map bv)) (h3 : Own w 0 4 A3 r.wt.length c3 (r.wt.map Value.bool)) {m : Nat} (hm : m ≤ r.wt.length) :
    RFile (w.setCell ⟨g, 3, none⟩ (.slice A3 m c3)) g n { r with wt := r.wt.take m } (g :: (rb A1 ++ (rb A2 ++ rb A3))) ∧ Turn (g :: (rb A1 ++ (rb A2 ++ rb A3))) (g :: (rb A1 ++ (rb A2 ++ rb A3))) w (w.setCell ⟨g, 3, none⟩ (.slice A3 m c3)) := by
  obtain ⟨g1, g2, g3, d12, d13, d23⟩ := nod.1 hnd
  have hl : (r.wt.take m).length = m := by rw [List.length_take]; omega
  have st : ∀ {T : TypeId} {X : Option Addr} {l cx : Nat} {xs : List Value}, Own w 0 T X l cx xs → g ∉ rb X → Own (w.setCell ⟨g, 3, none⟩ (.slice A3 m c3)) 0 T X l cx xs := fun h hX => Own.old h fun b hb2 => Below.heap_setCell w ⟨g, 3, none⟩ _ b fun e => hX ((show b = g from e) ▸ hb2)
  have hf := Own.first h3 hm
  rw [← List.map_take] at hf
  have hput := hb.put 3 (.slice A3 m c3)
  refine ⟨⟨A1, c1, A2, c2, A3, c3, rfl, hnd, ?_, st h1 g1, st h2 g2, st (by rw [hl]; exact hf) g3⟩, Turn.but (But.put w _) (by simp)⟩
  show Bk _ _ _ [.string n, .slice A1 r.b.length c1, .slice A2 r.old.length c2, .slice A3 (r.wt.take m).length c3, .int .i64 r.stamp]
  rw [hl]
  exact hput
end Go.Proofs.Ytelghdfikcodmaa.vref
namespace Go.Proofs.Ytelghdfikcodmaa.vref
open Go.RowKit Go.Maps Go.Proofs.Ytelghdfikcodmaa.base Go.Proofs.Ytelghdfikcodmaa.vfsnum Go.Proofs.Ytelghdfikcodmaa.vfs
set_option linter.unusedVariables false

def lenC (w : World) (g i : Nat) : Nat := match w.cell? ⟨g, i, none⟩ with | some (.slice _ n _) => n | _ => 0
theorem RFile.len1 {w : World} {g : Nat} {n : ByteArray} {r : RRaw} {bl : List Nat} (h : RFile w g n r bl) : lenC w g 1 = r.b.length := by
  obtain ⟨A1, c1, A2, c2, A3, c3, rfl, hnd, hb, h1, h2, h3⟩ := h
  have : w.cell? ⟨g, 1, none⟩ = some (.slice A1 r.b.length c1) := hb.cell rfl
  unfold lenC; rw [this]
theorem RFile.len3 {w : World} {g : Nat} {n : ByteArray} {r : RRaw} {bl : List Nat} (h : RFile w g n r bl) : lenC w g 3 = r.wt.length := by
  obtain ⟨A1, c1, A2, c2, A3, c3, rfl, hnd, hb, h1, h2, h3⟩ := h
  have : w.cell? ⟨g, 3, none⟩ = some (.slice A3 r.wt.length c3) := hb.cell rfl
  unfold lenC; rw [this]
theorem byteI : (Try.prog.info? 5).map (fun i => (i.zero, i.size, i.bytes)) = some (some (.int .u8 0), 1, 1) := by kernel_rfl
theorem boolI : (Try.prog.info? 4).map (fun i => (i.zero, i.size, i.bytes)) = some (some (.bool false), 1, 1) := by kernel_rfl
theorem b_one (v : Bool) : ∀ u ∈ [Value.bool v], u.oneCell' = true := by intro u hu; rw [List.mem_singleton] at hu; subst hu; rfl
theorem rep_snoc {α : Type} (l : List α) (t : Nat) (z : α) : l ++ List.replicate (t + 1) z = (l ++ List.replicate t z) ++ [z] := by rw [List.replicate_succ', List.append_assoc]

set_option maxRecDepth 100000 in
set_option maxHeartbeats 4000000 in
theorem size_r (w : World) (g : Nat) (nm : ByteArray) (r : RRaw) (bl : List Nat) (n : Nat) (h : RFile w g nm r bl) (hb : r.b.length ≤ 16777216) (hw : r.wt.length ≤ 262144) (hol : r.old.length = 64 * r.wt.length) (hn : n ≤ 16777216) :
    Calls Try.prog 88 #[.pointer (some ⟨g, 0, none⟩), .int .i64 n] w fun e w' => e = .returned (.tuple #[]) ∧ ∃ bl', RFile w' g nm (sizeR r n) bl' ∧ Turn bl bl' w w' := by
  obtain ⟨i0, hi0, hz0, hz1, hz2⟩ := info_parts byteI
  obtain ⟨i1, hj0, hy0, hy1, hy2⟩ := info_parts boolI
  obtain ⟨rb0, ro0, rw0, rs0⟩ := r
  simp only at hb hw hol
  obtain ⟨L0, hL0⟩ : ∃ L0, rb0.length = L0 := ⟨_, rfl⟩
  obtain ⟨W0, hW0⟩ : ∃ W0, rw0.length = W0 := ⟨_, rfl⟩
  rw [hL0] at hb
  rw [hW0] at hw hol
  have HL0 := Lib.hid hL0
  have HW0 := Lib.hid hW0
  have HOL := Lib.hid hol
  have H := Lib.hid h
  obtain ⟨K, hK⟩ : ∃ K, takes n = K := ⟨_, rfl⟩
  have hKi : ((n : Int) + 63) / 64 = (K : Int) := by unfold takes at hK; omega
  have hK2 : K ≤ 262144 := by unfold takes at hK; omega
  have HK := Lib.hid hK
  clear hL0 hW0 hol h hK
  go_enter Try.func88, Try.ntmps88
  go_wp2
  go_loopw [13] (fun _ wr => ∃ (t : Nat) (bl' : List Nat), t ≤ n - L0 ∧ RFile wr g nm ⟨rb0 ++ List.replicate t 0, ro0, rw0, rs0⟩ bl' ∧ Turn bl bl' w wr) (fun _ wr => n - lenC wr g 1)
  case atStart => exact ⟨0, bl, Nat.zero_le _, by simpa using H.out, Turn.refl _ _⟩
  case round =>
    obtain ⟨t, bl', ht, hf, hT⟩ := hrel
    have hlen := hf.len1
    have hll : (rb0 ++ List.replicate t 0).length = L0 + t := by rw [List.length_append, List.length_replicate, HL0.out]
    simp only [hll] at hlen
    obtain ⟨L, hL⟩ : ∃ L, L0 + t = L := ⟨_, rfl⟩
    rw [hL] at hll hlen
    have HF := Lib.hid hf
    obtain ⟨A1, c1, A2, c2, A3, c3, rfl, hnd, hbk, h1, h2, h3⟩ := hf
    have hc1 : wr.cell? ⟨g, 1, none⟩ = some (.slice A1 L c1) := by have : wr.cell? ⟨g, 1, none⟩ = some (.slice A1 (rb0 ++ List.replicate t 0).length c1) := hbk.cell rfl; rwa [hll] at this
    have hfz := hbk.free 1
    have hLb : L ≤ 33554432 := by omega
    by_cases hlt : L < n
    · have g1 := h1
      simp only [hll] at g1
      have hne : (Value.slice A1 L c1).ownBlock ≠ some g := fun e => (nod.1 hnd).1 (mem_rb.2 e)
      have hbk2 := hbk.alloc (.cells #[.int .u8 0] 5)
      go_wp2_with (at_builtin; go_loud (refine wpList_append_at _ rfl (.tmp 17) (.tmp 18) 29 rfl 0 5 i0 _ 1 Try.underlying29 hi0 hz0 hz1 hz2 rfl A1 L c1 ((rb0 ++ List.replicate t 0).map bv) rfl (Own.fresh g1 (Fresh.alloc _ _)) (wr.heap.size + 1) (some ⟨wr.heap.size, 0, none⟩) 1 1 [.int .u8 0] rfl (Rd.lit wr #[.int .u8 0] 5) (Go.Proofs.Ytelghdfikcodmaa.base.one_one _ _) (by unfold maxLen; omega) (by omega) (Nat.zero_le _) ?_); intro A' c' w1 ho1 hg1 hw1; have hbn := hbk2.grown hg1 hne; have hfz1 := hbn.free 1; have hcc1 : w1.cell? ⟨g, 1, none⟩ = some (.slice A1 (rb0 ++ List.replicate t 0).length c1) := hbn.cell rfl)
      have hl2 : (rb0 ++ List.replicate (t + 1) 0).length = L + 1 := by rw [List.length_append, List.length_replicate, HL0.out]; omega
      have hrow := RFile.grow1 (w := wr.alloc (.cells #[.int .u8 0] 5)) (r := ⟨rb0 ++ List.replicate t 0, ro0, rw0, rs0⟩) hnd hbk2 (Own.fresh h1 (Fresh.alloc _ _)) (Own.fresh h2 (Fresh.alloc _ _)) (Own.fresh h3 (Fresh.alloc _ _)) (rb0 ++ List.replicate (t + 1) 0) (A' := A') (c' := c') (by rw [hl2, rep_snoc, List.map_append]; exact ho1) (by rw [hll]; exact hg1) (by rw [hl2, hll]; exact hw1)
      rw [hl2] at hrow
      have hlen2 := hrow.1.len1
      simp only [hl2] at hlen2
      have hT2 := hT.trans ((Turn.fresh (Fresh.alloc wr (.cells #[.int .u8 0] 5))).trans hrow.2)
      have HR := Lib.hid hrow.1
      have HT2 := Lib.hid hT2
      clear hrow hT2 ho1 hg1 hw1 hbn hfz1 hcc1
      go_roundw
      case rel => exact ⟨t + 1, _, by omega, HR.out, HT2.out⟩
      case measure => omega
    · have htn : t = n - L0 := by omega
      have hnL : n ≤ L := by omega
      have hcut := RFile.cut1 hnd hbk h1 h2 h3 (m := n) (by show n ≤ (rb0 ++ List.replicate t 0).length; rw [hll]; exact hnL)
      have hcap := h1.cap
      simp only [hll] at hcap
      have hcapm := hcap.2
      unfold maxLen at hcapm
      obtain ⟨w2, hw2⟩ : ∃ w2, wr.setCell ⟨g, 1, none⟩ (.slice A1 n c1) = w2 := ⟨_, rfl⟩
      rw [hw2] at hcut
      obtain ⟨B1, hB1⟩ : ∃ B1, (rb0 ++ List.replicate t 0).take n = B1 := ⟨_, rfl⟩
      have hf2 : RFile w2 g nm ⟨B1, ro0, rw0, rs0⟩ (g :: (rb A1 ++ (rb A2 ++ rb A3))) := by rw [← hB1]; exact hcut.1
      have HTC := Lib.hid (hT.trans hcut.2)
      have HB1 := Lib.hid hB1
      clear hcut h1 h2 h3 hT hB1
      go_wp2
      clear hw2
      go_loopw [38] (fun _ wr' => ∃ (s : Nat) (bl' : List Nat), s ≤ K - W0 ∧ RFile wr' g nm ⟨B1, ro0 ++ List.replicate (64 * s) 0, rw0 ++ List.replicate s false, rs0⟩ bl' ∧ Turn bl bl' w wr') (fun _ wr' => K - lenC wr' g 3)
      case atStart => exact ⟨0, _, Nat.zero_le _, by simpa using hf2, HTC.out⟩
      case round =>
        obtain ⟨s, bl', hs, hf, hT⟩ := hrel
        have hlen := hf.len3
        have hll : (rw0 ++ List.replicate s false).length = W0 + s := by rw [List.length_append, List.length_replicate, HW0.out]
        simp only [hll] at hlen
        obtain ⟨V, hV⟩ : ∃ V, W0 + s = V := ⟨_, rfl⟩
        rw [hV] at hll hlen
        have HF := Lib.hid hf
        obtain ⟨A1, c1, A2, c2, A3, c3, rfl, hnd, hbk, h1, h2, h3⟩ := hf
        have hc3 : wr.cell? ⟨g, 3, none⟩ = some (.slice A3 V c3) := by have : wr.cell? ⟨g, 3, none⟩ = some (.slice A3 (rw0 ++ List.replicate s false).length c3) := hbk.cell rfl; rwa [hll] at this
        have hfz := hbk.free 3
        have hVb : V ≤ 524288 := by omega
        by_cases hlt : V < K
        · have g3 := h3
          simp only [hll] at g3
          have hne : (Value.slice A3 V c3).ownBlock ≠ some g := fun e => (nod.1 hnd).2.2.1 (mem_rb.2 e)
          have hbk2 := hbk.alloc (.cells #[.bool false] 4)
          go_wp2_with (at_builtin; go_loud (refine wpList_append_at _ rfl (.tmp 45) (.tmp 46) 86 rfl 0 4 i1 _ 1 Try.underlying86 hj0 hy0 hy1 hy2 rfl A3 V c3 ((rw0 ++ List.replicate s false).map Value.bool) rfl (Own.fresh g3 (Fresh.alloc _ _)) (wr.heap.size + 1) (some ⟨wr.heap.size, 0, none⟩) 1 1 [.bool false] rfl (Rd.lit wr #[.bool false] 4) (b_one _) (by unfold maxLen; omega) (by omega) (Nat.zero_le _) ?_); intro A' c' w1 ho1 hg1 hw1; have hbn := hbk2.grown hg1 hne; have hfz1 := hbn.free 3; have hcc1 : w1.cell? ⟨g, 3, none⟩ = some (.slice A3 (rw0 ++ List.replicate s false).length c3) := hbn.cell rfl)
          have hl2 : (rw0 ++ List.replicate (s + 1) false).length = V + 1 := by rw [List.length_append, List.length_replicate, HW0.out]; omega
          have hrow := RFile.grow3 (w := wr.alloc (.cells #[.bool false] 4)) (r := ⟨B1, ro0 ++ List.replicate (64 * s) 0, rw0 ++ List.replicate s false, rs0⟩) hnd hbk2 (Own.fresh h1 (Fresh.alloc _ _)) (Own.fresh h2 (Fresh.alloc _ _)) (Own.fresh h3 (Fresh.alloc _ _)) (rw0 ++ List.replicate (s + 1) false) (A' := A') (c' := c') (by rw [hl2, rep_snoc, List.map_append]; exact ho1) (by rw [hll]; exact hg1) (by rw [hl2, hll]; exact hw1)
          rw [hl2] at hrow
          have hT2 := hT.trans ((Turn.fresh (Fresh.alloc wr (.cells #[.bool false] 4))).trans hrow.2)
          obtain ⟨w3, hw3⟩ : ∃ w3, w1.setCell ⟨g, 3, none⟩ (.slice A' (V + 1) c') = w3 := ⟨_, rfl⟩
          rw [hw3] at hrow hT2
          have hlenV : lenC w3 g 3 = V + 1 := by have := hrow.1.len3; simp only [hl2] at this; exact this
          have HR := Lib.hid hrow.1
          have HT2 := Lib.hid hT2
          clear hrow hT2 ho1 hg1 hw1 hbn hfz1 hcc1 h1 h2 h3 hbk hbk2 hc3 hfz g3
          go_wp2
          clear hw3
          go_loopw [5] (fun i wr' => ∃ (q : Nat) (bl' : List Nat), q ≤ 64 ∧ i = .int .i64 q ∧ RFile wr' g nm ⟨B1, ro0 ++ List.replicate (64 * s + q) 0, rw0 ++ List.replicate (s + 1) false, rs0⟩ bl' ∧ Turn bl bl' w wr') (fun i _ => 64 - (intOf i).toNat)
          case atStart => exact ⟨0, _, Nat.zero_le _, rfl, HR.out, HT2.out⟩
          case round =>
            obtain ⟨q, bl', hq, rfl, hf, hT⟩ := hrel
            by_cases hlt2 : q < 64
            · have hll2 : (ro0 ++ List.replicate (64 * s + q) 0).length = 64 * V + q := by rw [List.length_append, List.length_replicate, HOL.out]; omega
              obtain ⟨M, hM⟩ : ∃ M, 64 * V + q = M := ⟨_, rfl⟩
              rw [hM] at hll2
              have hMb : M ≤ 33554500 := by omega
              obtain ⟨A1, c1, A2, c2, A3, c3, rfl, hnd, hbk, h1, h2, h3⟩ := hf
              have hc2 : wr.cell? ⟨g, 2, none⟩ = some (.slice A2 M c2) := by have : wr.cell? ⟨g, 2, none⟩ = some (.slice A2 (ro0 ++ List.replicate (64 * s + q) 0).length c2) := hbk.cell rfl; rwa [hll2] at this
              have hfz := hbk.free 2
              have g2 := h2
              simp only [hll2] at g2
              have hne : (Value.slice A2 M c2).ownBlock ≠ some g := fun e => (nod.1 hnd).2.1 (mem_rb.2 e)
              have hbk2 := hbk.alloc (.cells #[.int .u8 0] 5)
              have HM := Lib.hid hM
              clear hM
              go_wp2_with (at_builtin; go_loud (refine wpList_append_at _ rfl (.tmp 58) (.tmp 59) 29 rfl 0 5 i0 _ 1 Try.underlying29 hi0 hz0 hz1 hz2 rfl A2 M c2 ((ro0 ++ List.replicate (64 * s + q) 0).map bv) rfl (Own.fresh g2 (Fresh.alloc _ _)) (wr.heap.size + 1) (some ⟨wr.heap.size, 0, none⟩) 1 1 [.int .u8 0] rfl (Rd.lit wr #[.int .u8 0] 5) (Go.Proofs.Ytelghdfikcodmaa.base.one_one _ _) (by unfold maxLen; omega) (by omega) (Nat.zero_le _) ?_); intro A' c' w1 ho1 hg1 hw1; have hbn := hbk2.grown hg1 hne; have hfz1 := hbn.free 2; have hcc1 : w1.cell? ⟨g, 2, none⟩ = some (.slice A2 (ro0 ++ List.replicate (64 * s + q) 0).length c2) := hbn.cell rfl)
              have hl2' : (ro0 ++ List.replicate (64 * s + (q + 1)) 0).length = M + 1 := by rw [List.length_append, List.length_replicate, HOL.out]; have := HM.out; omega
              have hrow := RFile.grow2 (w := wr.alloc (.cells #[.int .u8 0] 5)) (r := ⟨B1, ro0 ++ List.replicate (64 * s + q) 0, rw0 ++ List.replicate (s + 1) false, rs0⟩) hnd hbk2 (Own.fresh h1 (Fresh.alloc _ _)) (Own.fresh h2 (Fresh.alloc _ _)) (Own.fresh h3 (Fresh.alloc _ _)) (ro0 ++ List.replicate (64 * s + (q + 1)) 0) (A' := A') (c' := c') (by rw [hl2', ← Nat.add_assoc, rep_snoc, List.map_append]; exact ho1) (by rw [hll2]; exact hg1) (by rw [hl2', hll2]; exact hw1)
              rw [hl2'] at hrow
              have hT3 := hT.trans ((Turn.fresh (Fresh.alloc wr (.cells #[.int .u8 0] 5))).trans hrow.2)
              have HR3 := Lib.hid hrow.1
              have HT3 := Lib.hid hT3
              clear hrow hT3 ho1 hg1 hw1 hbn hfz1 hcc1
              go_roundw
              case rel => exact ⟨q + 1, _, by omega, by go_num, HR3.out, HT3.out⟩
              case measure => simp [intOf]; omega
            · obtain rfl : q = 64 := by omega
              have hlen4 := hf.len3
              simp only [hl2] at hlen4
              have HF4 := Lib.hid hf
              clear hf
              go_wp2
              go_roundw
              case rel => exact ⟨s + 1, bl', by omega, HF4.out, hT⟩
              case measure => omega
        · have hsK : s = K - W0 := by omega
          have hKV : K ≤ V := by omega
          have hlo : (ro0 ++ List.replicate (64 * s) 0).length = 64 * V := by rw [List.length_append, List.length_replicate, HOL.out]; omega
          have hcut := RFile.cut3 hnd hbk h1 h2 h3 (m := K) (by show K ≤ (rw0 ++ List.replicate s false).length; rw [hll]; exact hKV)
          have hcap := h3.cap
          simp only [hll] at hcap
          have hcapm := hcap.2
          unfold maxLen at hcapm
          have hcap2 := h2.cap
          simp only [hlo] at hcap2
          have hcapm2 := hcap2.2
          unfold maxLen at hcapm2
          obtain ⟨w3, hw3⟩ : ∃ w3, wr.setCell ⟨g, 3, none⟩ (.slice A3 K c3) = w3 := ⟨_, rfl⟩
          rw [hw3] at hcut
          have HTC2 := Lib.hid (hT.trans hcut.2)
          obtain ⟨X1, d1, X2, d2, X3, d3, hbl, hnd', hbk', k1, k2, k3⟩ := hcut.1
          have hc2' : w3.cell? ⟨g, 2, none⟩ = some (.slice X2 (64 * V) d2) := by have : w3.cell? ⟨g, 2, none⟩ = some (.slice X2 (ro0 ++ List.replicate (64 * s) 0).length d2) := hbk'.cell rfl; rwa [hlo] at this
          have hfz' := hbk'.free 2
          have hcap3 := k2.cap
          simp only [hlo] at hcap3
          have hcapm3 := hcap3.2
          unfold maxLen at hcapm3
          rw [hbl] at hnd'
          have hcut2 := RFile.cut2 hnd' hbk' k1 k2 k3 (m := 64 * K) (by show 64 * K ≤ (ro0 ++ List.replicate (64 * s) 0).length; rw [hlo]; omega)
          have hfin : sizeR ⟨rb0, ro0, rw0, rs0⟩ n = ⟨B1, (ro0 ++ List.replicate (64 * s) 0).take (64 * K), (rw0 ++ List.replicate s false).take K, rs0⟩ := by
            unfold sizeR
            simp only [HL0.out, HW0.out, HK.out, ← htn, ← hsK, HB1.out]
          have HFIN := Lib.hid hfin
          have HCUT := Lib.hid hcut2
          have HBL := Lib.hid hbl
          obtain ⟨M, hM⟩ : ∃ M, 64 * K = M := ⟨_, rfl⟩
          have hMi : (64 : Int) * (K : Int) = (M : Int) := by omega
          have hMV : M ≤ 64 * V := by omega
          obtain ⟨V64, hV64⟩ : ∃ V64, 64 * V = V64 := ⟨_, rfl⟩
          rw [hV64] at hc2' hMV hcap3
          rw [hM] at HCUT
          have HM := Lib.hid hM
          clear hcut hcut2 h1 h2 h3 hT hfin hbl hnd' hbk' k1 k2 k3 hM hV64 hlo hcap2 hll
          go_wp2
          go_end0
          refine ⟨rfl, _, ?_, HTC2.out.trans (HBL.out ▸ HCUT.out.2)⟩
          rw [HFIN.out, HM.out]
          exact HBL.out ▸ HCUT.out.1
end Go.Proofs.Ytelghdfikcodmaa.vref
