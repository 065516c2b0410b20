/-
  A huff.Code as it lies: three rows of cells in one block, lists of symbols, pairs. My own text.
-/
import Derived.Test.YtlaecigjnknhoaaDoorHuffNum
import Derived.Test.YtlaecigjnknhoaaDoorRdr2
import Derived.Test.YtlaecigjnknhoaaDoorStore
namespace Go.Proofs.YtlaecigjnknhoaaDoor.huffp
open Go.RowKit Go.Proofs.YtlaecigjnknhoaaDoor.base Go.Proofs.YtlaecigjnknhoaaDoor.num Go.Proofs.YtlaecigjnknhoaaDoor.bitnum Go.Proofs.YtlaecigjnknhoaaDoor.bitp Go.Proofs.YtlaecigjnknhoaaDoor.huffnum
set_option linter.unusedVariables false

abbrev tCode : TypeId := 100
abbrev tInt : TypeId := 3
abbrev tPair : TypeId := 133
/-- a slice's three parts -/
structure Sl where
  at_ : Option Addr
  len : Nat
  cap : Nat
def Sl.val (s : Sl) : Value := .slice s.at_ s.len s.cap
def Sl.nil : Sl := ⟨none, 0, 0⟩
/-- f, but v at k -/
def upd {α : Type} (f : Nat → α) (k : Nat) (v : α) : Nat → α := fun i => if i = k then v else f i
theorem upd_same {α : Type} (f : Nat → α) (k : Nat) (v : α) : upd f k v k = v := by simp [upd]
theorem upd_ne {α : Type} (f : Nat → α) {k i : Nat} (v : α) (h : i ≠ k) : upd f k v i = f i := by simp [upd, h]

/-- a Code's cells: sixteen slices, sixteen ints, a slice -/
def cells (R : Nat → Sl) (E : Nat → Nat) (D : Sl) : List Value := (List.range 33).map fun i => if i < 16 then (R i).val else if i < 32 then iv (E (i - 16) : Nat) else D.val
theorem cells_len (R : Nat → Sl) (E : Nat → Nat) (D : Sl) : (cells R E D).length = 33 := by simp [cells]
theorem cells_get (R : Nat → Sl) (E : Nat → Nat) (D : Sl) {i : Nat} (h : i < 33) : (cells R E D)[i]? = some (if i < 16 then (R i).val else if i < 32 then iv (E (i - 16) : Nat) else D.val) := by
  simp [cells, h]
theorem cells_list (R : Nat → Sl) (E : Nat → Nat) (D : Sl) {k : Nat} (h : k < 16) : (cells R E D)[k]? = some (R k).val := by rw [cells_get _ _ _ (by omega), if_pos h]
theorem cells_end (R : Nat → Sl) (E : Nat → Nat) (D : Sl) {k : Nat} (h : k < 16) : (cells R E D)[16 + k]? = some (iv (E k : Nat)) := by
  rw [cells_get _ _ _ (by omega), if_neg (by omega), if_pos (by omega), Nat.add_sub_cancel_left]
theorem cells_codes (R : Nat → Sl) (E : Nat → Nat) (D : Sl) : (cells R E D)[32]? = some D.val := by rw [cells_get _ _ _ (by omega)]; rfl
theorem cells_set_list (R : Nat → Sl) (E : Nat → Nat) (D : Sl) (k : Nat) (h : k < 16) (s : Sl) : (cells R E D).set k s.val = cells (upd R k s) E D := by
  apply List.ext_getElem?
  intro i
  by_cases hi : i < 33
  · rw [List.getElem?_set, cells_len, cells_get _ _ _ hi, cells_get _ _ _ hi]
    by_cases e : k = i
    · subst e
      rw [if_pos rfl, if_pos hi, if_pos h, upd_same]
    · rw [if_neg e, upd_ne R s (fun h => e h.symm)]
  · rw [List.getElem?_eq_none (by simp [cells_len]; omega), List.getElem?_eq_none (by simp [cells_len]; omega)]
theorem cells_set_end (R : Nat → Sl) (E : Nat → Nat) (D : Sl) (k : Nat) (h : k < 16) (v : Nat) : (cells R E D).set (16 + k) (iv (v : Nat)) = cells R (upd E k v) D := by
  apply List.ext_getElem?
  intro i
  by_cases hi : i < 33
  · rw [List.getElem?_set, cells_len, cells_get _ _ _ hi, cells_get _ _ _ hi]
    by_cases e : 16 + k = i
    · subst e
      rw [if_pos rfl, if_pos hi, if_neg (by omega), if_pos (by omega), Nat.add_sub_cancel_left, upd_same]
    · rw [if_neg e]
      by_cases h1 : i < 16
      · rw [if_pos h1, if_pos h1]
      · rw [if_neg h1, if_neg h1]
        by_cases h2 : i < 32
        · rw [if_pos h2, if_pos h2, upd_ne E v (by omega)]
        · rw [if_neg h2, if_neg h2]
  · rw [List.getElem?_eq_none (by simp [cells_len]; omega), List.getElem?_eq_none (by simp [cells_len]; omega)]

/-- n pairs -/
def pairs (F : Nat → Nat × Nat) (n : Nat) : List Value := (List.range (2 * n)).map fun i => if i % 2 = 0 then iv ((F (i / 2)).1 : Nat) else iv ((F (i / 2)).2 : Nat)
theorem pairs_len (F : Nat → Nat × Nat) (n : Nat) : (pairs F n).length = 2 * n := by simp [pairs]
theorem pairs_get (F : Nat → Nat × Nat) (n : Nat) {i : Nat} (h : i < 2 * n) : (pairs F n)[i]? = some (if i % 2 = 0 then iv ((F (i / 2)).1 : Nat) else iv ((F (i / 2)).2 : Nat)) := by
  simp [pairs, h]
theorem pairs_fst (F : Nat → Nat × Nat) (n : Nat) {s : Nat} (h : s < n) : (pairs F n)[s * 2]? = some (iv ((F s).1 : Nat)) := by
  rw [pairs_get _ _ (by omega), if_pos (by omega), show s * 2 / 2 = s by omega]
theorem pairs_snd (F : Nat → Nat × Nat) (n : Nat) {s : Nat} (h : s < n) : (pairs F n)[s * 2 + 1]? = some (iv ((F s).2 : Nat)) := by
  rw [pairs_get _ _ (by omega), if_neg (by omega), show (s * 2 + 1) / 2 = s by omega]
theorem pairs_set (F : Nat → Nat × Nat) (n s a b : Nat) : ((pairs F n).set (s * 2) (iv (a : Nat))).set (s * 2 + 1) (iv (b : Nat)) = pairs (upd F s (a, b)) n := by
  apply List.ext_getElem?
  intro i
  by_cases hi : i < 2 * n
  · rw [List.getElem?_set, List.getElem?_set, List.length_set, pairs_len, pairs_get _ _ hi, pairs_get _ _ hi]
    by_cases e : s * 2 + 1 = i
    · subst e
      rw [if_pos rfl, if_pos hi, if_neg (by omega), show (s * 2 + 1) / 2 = s by omega, upd_same]
    · rw [if_neg e]
      by_cases e2 : s * 2 = i
      · subst e2
        rw [if_pos rfl, if_pos hi, if_pos (by omega), show s * 2 / 2 = s by omega, upd_same]
      · rw [if_neg e2, upd_ne F _ (by omega)]
  · rw [List.getElem?_eq_none (by simp [pairs_len]; omega), List.getElem?_eq_none (by simp [pairs_len]; omega)]
theorem pairs_zero (n : Nat) : pairs (fun _ => (0, 0)) n = List.replicate (2 * n) (iv 0) := by
  apply List.ext_getElem?
  intro i
  by_cases hi : i < 2 * n
  · rw [pairs_get _ _ hi, List.getElem?_replicate, if_pos hi]
    split <;> rfl
  · rw [List.getElem?_eq_none (by simp [pairs_len]; omega), List.getElem?_eq_none (by simp; omega)]

/-- ints as values -/
abbrev nv (l : List Nat) : List Value := l.map fun x : Nat => iv (x : Int)
theorem nv_one (l : List Nat) : ∀ u ∈ nv l, u.oneCell' = true := by
  intro u hu
  obtain ⟨x, _, rfl⟩ := List.mem_map.1 hu
  rfl
/-- the symbols in the list of the length k -/
def lst (ls : List Nat) (k : Nat) : List Nat := if k = 0 then [] else syms ls k
theorem lst_pos (ls : List Nat) {k : Nat} (h : 1 ≤ k) : lst ls k = syms ls k := by rw [lst, if_neg (by omega)]
/-- a Code that is being made: its lists, its ends, its pairs -/
structure Mid (w : World) (base g : Nat) (ls : List Nat) (R : Nat → Sl) (E : Nat → Nat) (d n : Nat) (F : Nat → Nat × Nat) : Prop where
  all : Bk w g tCode (cells R E ⟨some ⟨d, 0, none⟩, n, n⟩)
  len : ∀ k, k < 16 → (R k).len = (lst ls k).length
  own : ∀ k, k < 16 → Own w base tInt (R k).at_ (R k).len (R k).cap (nv (lst ls k))
  apart : ∀ i k, i < 16 → k < 16 → i ≠ k → ∀ b, (R i).val.ownBlock = some b → (R k).val.ownBlock ≠ some b
  codes : Bk w d tPair (pairs F n)
  gb : base ≤ g
  db : base ≤ d
  ne : g ≠ d
section
variable {w w' : World} {base g : Nat} {ls : List Nat} {R : Nat → Sl} {E : Nat → Nat} {d n : Nat} {F : Nat → Nat × Nat}
theorem Mid.fresh (h : Mid w base g ls R E d n F) (k : Fresh w w') : Mid w' base g ls R E d n F :=
  { h with all := h.all.fresh k, own := fun i hi => (h.own i hi).fresh k, codes := h.codes.fresh k }
theorem Mid.gd (h : Mid w base g ls R E d n F) : ∀ k, k < 16 → (R k).val.ownBlock ≠ some g := fun k hk => (h.own k hk).ne_block h.all (by decide)
theorem Mid.dd (h : Mid w base g ls R E d n F) : ∀ k, k < 16 → (R k).val.ownBlock ≠ some d := fun k hk => (h.own k hk).ne_block h.codes (by decide)
/-- an end is set -/
theorem Mid.setEnd (h : Mid w base g ls R E d n F) (k : Nat) (hk : k < 16) (v : Nat) : Mid (w.setCell ⟨g, 16 + k, none⟩ (iv (v : Nat))) base g ls R (upd E k v) d n F :=
  { h with
    all := by rw [← cells_set_end _ _ _ k hk]; exact h.all.put _ _
    own := fun i hi => (h.own i hi).but (But.put _ _) (h.gd i hi)
    codes := h.codes.apart (by simpa using fun e => h.ne e.symm) _ }
/-- a pair is set -/
theorem Mid.setPair (h : Mid w base g ls R E d n F) (s a b : Nat) : Mid ((w.setCell ⟨d, s * 2, none⟩ (iv (a : Nat))).setCell ⟨d, s * 2 + 1, none⟩ (iv (b : Nat))) base g ls R E d n (upd F s (a, b)) :=
  { h with
    all := (h.all.apart (by simpa using h.ne) _).apart (by simpa using h.ne) _
    own := fun i hi => ((h.own i hi).but (But.put _ _) (h.dd i hi)).but (But.put _ _) (h.dd i hi)
    codes := by rw [← pairs_set]; exact (h.codes.put _ _).put _ _ }
theorem Fresh.setEnd {w0 : World} (h : Mid w base g ls R E d n F) (hb : base = w0.heap.size) (k : Fresh w0 w) (i : Nat) (u : Value) : Fresh w0 (w.setCell ⟨g, i, none⟩ u) := k.but (by rw [← hb]; exact h.gb) (But.put _ _)
theorem Fresh.setPair {w0 : World} (h : Mid w base g ls R E d n F) (hb : base = w0.heap.size) (k : Fresh w0 w) (i : Nat) (u : Value) : Fresh w0 (w.setCell ⟨d, i, none⟩ u) := k.but (by rw [← hb]; exact h.db) (But.put _ _)
/-- a list has grown -/
theorem Mid.grow (h : Mid w base g ls R E d n F) {k : Nat} (hk : k < 16) {w1 : World} {g1 cap : Nat} {xs : List Value} {ls' : List Nat}
    (ho : Own w1 base tInt (some ⟨g1, 0, none⟩) ((R k).len + 1) cap (nv (lst ls' k))) (hl : (lst ls' k).length = (R k).len + 1) (hrest : ∀ i, i < 16 → i ≠ k → lst ls' i = lst ls i)
    (hg : w.grownBy w1 (R k).val.ownBlock) (hat : (R k).val.ownBlock = some g1 ∨ w.heap.size ≤ g1) :
    Mid (w1.setCell ⟨g, k, none⟩ (.slice (some ⟨g1, 0, none⟩) ((R k).len + 1) cap)) base g ls' (upd R k ⟨some ⟨g1, 0, none⟩, (R k).len + 1, cap⟩) E d n F := by
  have hb1 : Bk w1 g tCode (cells R E ⟨some ⟨d, 0, none⟩, n, n⟩) := h.all.grown hg (h.gd k hk)
  have hne1 := ho.ne_block hb1 (by decide)
  have hold : ∀ i, i < 16 → i ≠ k → Own w1 base tInt (R i).at_ (R i).len (R i).cap (nv (lst ls' i)) := fun i hi hik => by
    rw [hrest i hi hik]
    exact World.ownsRow.kept (h.own i hi) hg (by
      cases e : (R i).val.ownBlock with
      | none => exact .inl e
      | some b => exact .inr fun e2 => h.apart i k hi hk hik b e (by rw [← e2]; exact e))
  have hfar : ∀ i, i < 16 → i ≠ k → ∀ b, (R i).val.ownBlock = some b → b ≠ g1 := fun i hi hik b hb e => by
    subst e
    rcases hat with h1 | h1
    · exact h.apart i k hi hk hik b hb h1
    · have := (World.ownsRow.lt (h.own i hi) b hb).2; omega
  refine ⟨?_, fun i hi => ?_, fun i hi => ?_, fun i j hi hj hij b hb => ?_, ?_, h.gb, h.db, h.ne⟩
  · rw [← cells_set_list _ _ _ k hk]; exact hb1.put _ _
  · by_cases e : i = k
    · subst e; rw [upd_same]; exact hl.symm
    · rw [upd_ne R _ e, hrest i hi e]; exact h.len i hi
  · by_cases e : i = k
    · subst e; rw [upd_same]; exact ho.but (But.put _ _) hne1
    · rw [upd_ne R _ e]
      exact (hold i hi e).but (But.put _ _) ((hold i hi e).ne_block hb1 (by decide))
  · by_cases e : i = k
    · subst e
      rw [upd_same] at hb
      rw [upd_ne R _ (fun e => hij e.symm)]
      have hb' : b = g1 := by simpa [Sl.val, Value.ownBlock] using hb.symm
      subst hb'
      exact fun h2 => hfar j hj (fun e => hij e.symm) b h2 rfl
    · rw [upd_ne R _ e] at hb
      by_cases e2 : j = k
      · subst e2
        rw [upd_same]
        intro h2
        exact hfar i hi e b hb (by simpa [Sl.val, Value.ownBlock] using h2.symm)
      · rw [upd_ne R _ e2]; exact h.apart i j hi hj hij b hb
  · exact (h.codes.grown hg (h.dd k hk)).apart (by simpa using fun e => h.ne e.symm) _
end
end Go.Proofs.YtlaecigjnknhoaaDoor.huffp
