import Derived.Test.YtppgceighgpgoaaGreatDoorMgNum
import Derived.Test.YtppgceighgpgoaaGreatDoorMgRdr
import Derived.Test.YtppgceighgpgoaaGreatDoorStore
import Derived.Deep.RegionHeld3
import Derived.Deep.AppendLies
import Derived.Deep.RegionLaw
import Derived.Lib.Tables
import Derived.Laws.BitsAllLaws
import Derived.Deep.DeepCutAuto
/- Several of my own texts, one behind the other. -/
/-
  A huff.Code as it lies: three rows of cells in one block, lists of symbols, pairs. My own text.
-/
namespace Go.Proofs.YtppgceighgpgoaaGreatDoor.huffp
open Go.RowKit Go.Proofs.YtppgceighgpgoaaGreatDoor.base Go.Proofs.YtppgceighgpgoaaGreatDoor.num Go.Proofs.YtppgceighgpgoaaGreatDoor.bitnum Go.Proofs.YtppgceighgpgoaaGreatDoor.bitp Go.Proofs.YtppgceighgpgoaaGreatDoor.huffnum
set_option linter.unusedVariables false

abbrev tCode : TypeId := 91
abbrev tInt : TypeId := 3
abbrev tPair : TypeId := 118
/-- a slice's three parts -/
structure Sl where
  at_ : Option Addr
  len : Nat
  cap : Nat
def Sl.val (s : Sl) : Value := .slice s.at_ s.len s.cap
def Sl.nil : Sl := ⟨none, 0, 0⟩
/-- f, but v at k -/
def upd {α : Type} (f : Nat → α) (k : Nat) (v : α) : Nat → α := fun i => if i = k then v else f i
theorem upd_same {α : Type} (f : Nat → α) (k : Nat) (v : α) : upd f k v k = v := by simp [upd]
theorem upd_ne {α : Type} (f : Nat → α) {k i : Nat} (v : α) (h : i ≠ k) : upd f k v i = f i := by simp [upd, h]

/-- a Code's cells: sixteen slices, sixteen ints, a slice -/
def cells (R : Nat → Sl) (E : Nat → Nat) (D : Sl) : List Value := (List.range 33).map fun i => if i < 16 then (R i).val else if i < 32 then iv (E (i - 16) : Nat) else D.val
theorem cells_len (R : Nat → Sl) (E : Nat → Nat) (D : Sl) : (cells R E D).length = 33 := by simp [cells]
theorem cells_get (R : Nat → Sl) (E : Nat → Nat) (D : Sl) {i : Nat} (h : i < 33) : (cells R E D)[i]? = some (if i < 16 then (R i).val else if i < 32 then iv (E (i - 16) : Nat) else D.val) := by
  simp [cells, h]
theorem cells_list (R : Nat → Sl) (E : Nat → Nat) (D : Sl) {k : Nat} (h : k < 16) : (cells R E D)[k]? = some (R k).val := by rw [cells_get _ _ _ (by omega), if_pos h]
theorem cells_end (R : Nat → Sl) (E : Nat → Nat) (D : Sl) {k : Nat} (h : k < 16) : (cells R E D)[16 + k]? = some (iv (E k : Nat)) := by
  rw [cells_get _ _ _ (by omega), if_neg (by omega), if_pos (by omega), Nat.add_sub_cancel_left]
theorem cells_codes (R : Nat → Sl) (E : Nat → Nat) (D : Sl) : (cells R E D)[32]? = some D.val := by rw [cells_get _ _ _ (by omega)]; rfl
theorem cells_set_list (R : Nat → Sl) (E : Nat → Nat) (D : Sl) (k : Nat) (h : k < 16) (s : Sl) : (cells R E D).set k s.val = cells (upd R k s) E D := by
  apply List.ext_getElem?
  intro i
  by_cases hi : i < 33
  · rw [List.getElem?_set, cells_len, cells_get _ _ _ hi, cells_get _ _ _ hi]
    by_cases e : k = i
    · subst e
      rw [if_pos rfl, if_pos hi, if_pos h, upd_same]
    · rw [if_neg e, upd_ne R s (fun h => e h.symm)]
  · rw [List.getElem?_eq_none (by simp [cells_len]; omega), List.getElem?_eq_none (by simp [cells_len]; omega)]
theorem cells_set_end (R : Nat → Sl) (E : Nat → Nat) (D : Sl) (k : Nat) (h : k < 16) (v : Nat) : (cells R E D).set (16 + k) (iv (v : Nat)) = cells R (upd E k v) D := by
  apply List.ext_getElem?
  intro i
  by_cases hi : i < 33
  · rw [List.getElem?_set, cells_len, cells_get _ _ _ hi, cells_get _ _ _ hi]
    by_cases e : 16 + k = i
    · subst e
      rw [if_pos rfl, if_pos hi, if_neg (by omega), if_pos (by omega), Nat.add_sub_cancel_left, upd_same]
    · rw [if_neg e]
      by_cases h1 : i < 16
      · rw [if_pos h1, if_pos h1]
      · rw [if_neg h1, if_neg h1]
        by_cases h2 : i < 32
        · rw [if_pos h2, if_pos h2, upd_ne E v (by omega)]
        · rw [if_neg h2, if_neg h2]
  · rw [List.getElem?_eq_none (by simp [cells_len]; omega), List.getElem?_eq_none (by simp [cells_len]; omega)]

/-- n pairs -/
def pairs (F : Nat → Nat × Nat) (n : Nat) : List Value := (List.range (2 * n)).map fun i => if i % 2 = 0 then iv ((F (i / 2)).1 : Nat) else iv ((F (i / 2)).2 : Nat)
theorem pairs_len (F : Nat → Nat × Nat) (n : Nat) : (pairs F n).length = 2 * n := by simp [pairs]
theorem pairs_get (F : Nat → Nat × Nat) (n : Nat) {i : Nat} (h : i < 2 * n) : (pairs F n)[i]? = some (if i % 2 = 0 then iv ((F (i / 2)).1 : Nat) else iv ((F (i / 2)).2 : Nat)) := by
  simp [pairs, h]
theorem pairs_fst (F : Nat → Nat × Nat) (n : Nat) {s : Nat} (h : s < n) : (pairs F n)[s * 2]? = some (iv ((F s).1 : Nat)) := by
  rw [pairs_get _ _ (by omega), if_pos (by omega), show s * 2 / 2 = s by omega]
theorem pairs_snd (F : Nat → Nat × Nat) (n : Nat) {s : Nat} (h : s < n) : (pairs F n)[s * 2 + 1]? = some (iv ((F s).2 : Nat)) := by
  rw [pairs_get _ _ (by omega), if_neg (by omega), show (s * 2 + 1) / 2 = s by omega]
theorem pairs_set (F : Nat → Nat × Nat) (n s a b : Nat) : ((pairs F n).set (s * 2) (iv (a : Nat))).set (s * 2 + 1) (iv (b : Nat)) = pairs (upd F s (a, b)) n := by
  apply List.ext_getElem?
  intro i
  by_cases hi : i < 2 * n
  · rw [List.getElem?_set, List.getElem?_set, List.length_set, pairs_len, pairs_get _ _ hi, pairs_get _ _ hi]
    by_cases e : s * 2 + 1 = i
    · subst e
      rw [if_pos rfl, if_pos hi, if_neg (by omega), show (s * 2 + 1) / 2 = s by omega, upd_same]
    · rw [if_neg e]
      by_cases e2 : s * 2 = i
      · subst e2
        rw [if_pos rfl, if_pos hi, if_pos (by omega), show s * 2 / 2 = s by omega, upd_same]
      · rw [if_neg e2, upd_ne F _ (by omega)]
  · rw [List.getElem?_eq_none (by simp [pairs_len]; omega), List.getElem?_eq_none (by simp [pairs_len]; omega)]
theorem pairs_zero (n : Nat) : pairs (fun _ => (0, 0)) n = List.replicate (2 * n) (iv 0) := by
  apply List.ext_getElem?
  intro i
  by_cases hi : i < 2 * n
  · rw [pairs_get _ _ hi, List.getElem?_replicate, if_pos hi]
    split <;> rfl
  · rw [List.getElem?_eq_none (by simp [pairs_len]; omega), List.getElem?_eq_none (by simp; omega)]

/-- ints as values -/
abbrev nv (l : List Nat) : List Value := l.map fun x : Nat => iv (x : Int)
theorem nv_one (l : List Nat) : ∀ u ∈ nv l, u.oneCell' = true := by
  intro u hu
  obtain ⟨x, _, rfl⟩ := List.mem_map.1 hu
  rfl
/-- the symbols in the list of the length k -/
def lst (ls : List Nat) (k : Nat) : List Nat := if k = 0 then [] else syms ls k
theorem lst_pos (ls : List Nat) {k : Nat} (h : 1 ≤ k) : lst ls k = syms ls k := by rw [lst, if_neg (by omega)]
/-- a Code that is being made: its lists, its ends, its pairs -/
structure Mid (w : World) (base g : Nat) (ls : List Nat) (R : Nat → Sl) (E : Nat → Nat) (d n : Nat) (F : Nat → Nat × Nat) : Prop where
  all : Bk w g tCode (cells R E ⟨some ⟨d, 0, none⟩, n, n⟩)
  len : ∀ k, k < 16 → (R k).len = (lst ls k).length
  own : ∀ k, k < 16 → Own w base tInt (R k).at_ (R k).len (R k).cap (nv (lst ls k))
  apart : ∀ i k, i < 16 → k < 16 → i ≠ k → ∀ b, (R i).val.ownBlock = some b → (R k).val.ownBlock ≠ some b
  codes : Bk w d tPair (pairs F n)
  gb : base ≤ g
  db : base ≤ d
  ne : g ≠ d
section
variable {w w' : World} {base g : Nat} {ls : List Nat} {R : Nat → Sl} {E : Nat → Nat} {d n : Nat} {F : Nat → Nat × Nat}
theorem Mid.fresh (h : Mid w base g ls R E d n F) (k : Fresh w w') : Mid w' base g ls R E d n F :=
  { h with all := h.all.fresh k, own := fun i hi => (h.own i hi).fresh k, codes := h.codes.fresh k }
theorem Mid.gd (h : Mid w base g ls R E d n F) : ∀ k, k < 16 → (R k).val.ownBlock ≠ some g := fun k hk => (h.own k hk).ne_block h.all (by decide)
theorem Mid.dd (h : Mid w base g ls R E d n F) : ∀ k, k < 16 → (R k).val.ownBlock ≠ some d := fun k hk => (h.own k hk).ne_block h.codes (by decide)
/-- an end is set -/
theorem Mid.setEnd (h : Mid w base g ls R E d n F) (k : Nat) (hk : k < 16) (v : Nat) : Mid (w.setCell ⟨g, 16 + k, none⟩ (iv (v : Nat))) base g ls R (upd E k v) d n F :=
  { h with
    all := by rw [← cells_set_end _ _ _ k hk]; exact h.all.put _ _
    own := fun i hi => (h.own i hi).but (But.put _ _) (h.gd i hi)
    codes := h.codes.apart (by simpa using fun e => h.ne e.symm) _ }
/-- a pair is set -/
theorem Mid.setPair (h : Mid w base g ls R E d n F) (s a b : Nat) : Mid ((w.setCell ⟨d, s * 2, none⟩ (iv (a : Nat))).setCell ⟨d, s * 2 + 1, none⟩ (iv (b : Nat))) base g ls R E d n (upd F s (a, b)) :=
  { h with
    all := (h.all.apart (by simpa using h.ne) _).apart (by simpa using h.ne) _
    own := fun i hi => ((h.own i hi).but (But.put _ _) (h.dd i hi)).but (But.put _ _) (h.dd i hi)
    codes := by rw [← pairs_set]; exact (h.codes.put _ _).put _ _ }
theorem Fresh.setEnd {w0 : World} (h : Mid w base g ls R E d n F) (hb : base = w0.heap.size) (k : Fresh w0 w) (i : Nat) (u : Value) : Fresh w0 (w.setCell ⟨g, i, none⟩ u) := k.but (by rw [← hb]; exact h.gb) (But.put _ _)
theorem Fresh.setPair {w0 : World} (h : Mid w base g ls R E d n F) (hb : base = w0.heap.size) (k : Fresh w0 w) (i : Nat) (u : Value) : Fresh w0 (w.setCell ⟨d, i, none⟩ u) := k.but (by rw [← hb]; exact h.db) (But.put _ _)
/-- a list has grown -/
theorem Mid.grow (h : Mid w base g ls R E d n F) {k : Nat} (hk : k < 16) {w1 : World} {g1 cap : Nat} {xs : List Value} {ls' : List Nat}
    (ho : Own w1 base tInt (some ⟨g1, 0, none⟩) ((R k).len + 1) cap (nv (lst ls' k))) (hl : (lst ls' k).length = (R k).len + 1) (hrest : ∀ i, i < 16 → i ≠ k → lst ls' i = lst ls i)
    (hg : w.grownBy w1 (R k).val.ownBlock) (hat : (R k).val.ownBlock = some g1 ∨ w.heap.size ≤ g1) :
    Mid (w1.setCell ⟨g, k, none⟩ (.slice (some ⟨g1, 0, none⟩) ((R k).len + 1) cap)) base g ls' (upd R k ⟨some ⟨g1, 0, none⟩, (R k).len + 1, cap⟩) E d n F := by
  have hb1 : Bk w1 g tCode (cells R E ⟨some ⟨d, 0, none⟩, n, n⟩) := h.all.grown hg (h.gd k hk)
  have hne1 := ho.ne_block hb1 (by decide)
  have hold : ∀ i, i < 16 → i ≠ k → Own w1 base tInt (R i).at_ (R i).len (R i).cap (nv (lst ls' i)) := fun i hi hik => by
    rw [hrest i hi hik]
    exact World.ownsRow.kept (h.own i hi) hg (by
      cases e : (R i).val.ownBlock with
      | none => exact .inl e
      | some b => exact .inr fun e2 => h.apart i k hi hk hik b e (by rw [← e2]; exact e))
  have hfar : ∀ i, i < 16 → i ≠ k → ∀ b, (R i).val.ownBlock = some b → b ≠ g1 := fun i hi hik b hb e => by
    subst e
    rcases hat with h1 | h1
    · exact h.apart i k hi hk hik b hb h1
    · have := (World.ownsRow.lt (h.own i hi) b hb).2; omega
  refine ⟨?_, fun i hi => ?_, fun i hi => ?_, fun i j hi hj hij b hb => ?_, ?_, h.gb, h.db, h.ne⟩
  · rw [← cells_set_list _ _ _ k hk]; exact hb1.put _ _
  · by_cases e : i = k
    · subst e; rw [upd_same]; exact hl.symm
    · rw [upd_ne R _ e, hrest i hi e]; exact h.len i hi
  · by_cases e : i = k
    · subst e; rw [upd_same]; exact ho.but (But.put _ _) hne1
    · rw [upd_ne R _ e]
      exact (hold i hi e).but (But.put _ _) ((hold i hi e).ne_block hb1 (by decide))
  · by_cases e : i = k
    · subst e
      rw [upd_same] at hb
      rw [upd_ne R _ (fun e => hij e.symm)]
      have hb' : b = g1 := by simpa [Sl.val, Value.ownBlock] using hb.symm
      subst hb'
      exact fun h2 => hfar j hj (fun e => hij e.symm) b h2 rfl
    · rw [upd_ne R _ e] at hb
      by_cases e2 : j = k
      · subst e2
        rw [upd_same]
        intro h2
        exact hfar i hi e b hb (by simpa [Sl.val, Value.ownBlock] using h2.symm)
      · rw [upd_ne R _ e2]; exact h.apart i j hi hj hij b hb
  · exact (h.codes.grown hg (h.dd k hk)).apart (by simpa using fun e => h.ne e.symm) _
end
end Go.Proofs.YtppgceighgpgoaaGreatDoor.huffp
/-
  The contract of (*huff.Code).share. My own text.
-/
namespace Go.Proofs.YtppgceighgpgoaaGreatDoor.huffp
open Go.RowKit Go.Proofs.YtppgceighgpgoaaGreatDoor.base Go.Proofs.YtppgceighgpgoaaGreatDoor.num Go.Proofs.YtppgceighgpgoaaGreatDoor.bitnum Go.Proofs.YtppgceighgpgoaaGreatDoor.bitp Go.Proofs.YtppgceighgpgoaaGreatDoor.huffnum
set_option linter.unusedVariables false

/-- the pairs of all symbols with fewer than n bits, and of the first r with n -/
def Fs (ls : List Nat) (n r : Nat) : Nat → Nat × Nat := fun s =>
  match ls[s]? with
  | some m => if 1 ≤ m ∧ (m < n ∨ (m = n ∧ rankOf ls s m < r)) then (m, cd ls s m) else (0, 0)
  | none => (0, 0)
def Es (ls : List Nat) (n : Nat) : Nat → Nat := fun k => if k < n then tx ls k else 0
theorem Es_one (ls : List Nat) : Es ls 1 = fun _ => 0 := by
  funext k
  unfold Es
  split
  · rw [show k = 0 by omega, tx_zero]
  · rfl
theorem Es_step (ls : List Nat) (k : Nat) : upd (Es ls k) k (tx ls k) = Es ls (k + 1) := by
  funext i
  unfold upd Es
  by_cases h : i = k
  · subst h; simp
  · rw [if_neg h]
    by_cases h2 : i < k
    · rw [if_pos h2, if_pos (by omega)]
    · rw [if_neg h2, if_neg (by omega)]
theorem Fs_one (ls : List Nat) : Fs ls 1 0 = fun _ => (0, 0) := by
  funext s
  unfold Fs
  split
  · rw [if_neg (by omega)]
  · rfl
theorem Fs_step {ls : List Nat} {k r s : Nat} (h1 : 1 ≤ k) (h : (lst ls k)[r]? = some s) : upd (Fs ls k r) s (k, cd ls s k) = Fs ls k (r + 1) := by
  rw [lst_pos ls h1] at h
  obtain ⟨hs, hr⟩ := syms_of h
  funext i
  unfold upd
  by_cases e : i = s
  · subst e
    rw [if_pos rfl]
    unfold Fs
    rw [hs]
    simp only
    rw [if_pos ⟨h1, .inr ⟨trivial, by omega⟩⟩]
  · rw [if_neg e]
    unfold Fs
    cases hi : ls[i]? with
    | none => rfl
    | some m =>
      simp only
      have hne : ¬ (m = k ∧ rankOf ls i m = r) := by
        rintro ⟨rfl, h2⟩
        have := syms_at hi
        rw [h2, h] at this
        injection this with this
        exact e this.symm
      have : (1 ≤ m ∧ (m < k ∨ (m = k ∧ rankOf ls i m < r))) ↔ (1 ≤ m ∧ (m < k ∨ (m = k ∧ rankOf ls i m < r + 1))) := by omega
      simp only [this]
theorem Fs_next (ls : List Nat) (k : Nat) : Fs ls k (ls.count k) = Fs ls (k + 1) 0 := by
  funext i
  unfold Fs
  cases hi : ls[i]? with
  | none => rfl
  | some m =>
    simp only
    have h := rankOf_lt hi
    have : (1 ≤ m ∧ (m < k ∨ (m = k ∧ rankOf ls i m < ls.count k))) ↔ (1 ≤ m ∧ (m < k + 1 ∨ (m = k + 1 ∧ rankOf ls i m < 0))) := by
      constructor
      · rintro ⟨a, b⟩; omega
      · rintro ⟨a, b⟩
        refine ⟨a, ?_⟩
        rcases b with b | b
        · by_cases e : m = k
          · subst e; exact .inr ⟨rfl, h⟩
          · exact .inl (by omega)
        · omega
    simp only [this]
theorem cd_div {ls : List Nat} {k r s : Nat} (h1 : 1 ≤ k) (h15 : k ≤ 15) (h : (lst ls k)[r]? = some s) : (tx ls (k - 1) + r * 2 ^ (15 - k)) / 2 ^ (15 - k) = cd ls s k := by
  rw [lst_pos ls h1] at h
  obtain ⟨hs, hr⟩ := syms_of h
  have := st_is (ls := ls) (s := s) h1 h15
  rw [hr] at this
  rw [← this, st, Nat.mul_div_cancel _ (Nat.pow_pos (by omega))]
theorem lst_len {ls : List Nat} {k : Nat} (h : 1 ≤ k) : (lst ls k).length = ls.count k := by rw [lst_pos ls h, syms_len]

theorem share_bound {ls : List Nat} {k r s : Nat} (h1 : 1 ≤ k) (h15 : k ≤ 15) (h : (lst ls k)[r]? = some s) : tx ls (k - 1) + r * 2 ^ (15 - k) + 2 ^ (15 - k) ≤ 15 * (16384 * ls.length) := by
  rw [lst_pos ls h1] at h
  obtain ⟨hs, hr⟩ := syms_of h
  have e := st_is (ls := ls) (s := s) h1 h15
  rw [hr] at e
  have h2 := st_hi hs h1
  have h3 := tx_bound ls k h15
  have h4 : k * (16384 * ls.length) ≤ 15 * (16384 * ls.length) := Nat.mul_le_mul_right _ h15
  omega
set_option maxRecDepth 100000 in
theorem share_any (base g d n : Nat) (ls : List Nat) (R : Nat → Sl) (w : World) (h : Mid w base g ls R (fun _ => 0) d n (fun _ => (0, 0))) (hn : n = ls.length) (hl : n ≤ 320) :
    Calls Tryz.prog 38 #[.pointer (some ⟨g, 0, none⟩)] w fun e w' => e = .returned (.tuple #[]) ∧ Mid w' base g ls R (Es ls 16) d n (Fs ls 16 0) ∧ Turn [g, d] [g, d] w w' := by
  have HN := Lib.hid hn
  clear hn
  go_enter Tryz.func38, Tryz.ntmps38
  go_wp2
  go_loopw [2, 3] (fun a i wr => ∃ (k q : Nat), 1 ≤ k ∧ k ≤ 16 ∧ i = .int .i64 k ∧ a = .int .i64 q ∧ Hid (q = tx ls (k - 1)) ∧ Mid wr base g ls R (Es ls k) d n (Fs ls k 0) ∧ Turn [g, d] [g, d] w wr) (fun _ i _ => 16 - (intOf i).toNat)
  case atStart => exact ⟨1, 0, by omega, by omega, rfl, rfl, (tx_zero ls).symm, by rw [Es_one, Fs_one]; exact h, Turn.refl _ _⟩
  case round =>
    obtain ⟨k, q, hk1, hk, rfl, rfl, hq, hM, hT⟩ := hrel
    by_cases hlt : k ≤ 15
    · have hc := hM.all.cell (cells_list R (Es ls k) ⟨some ⟨d, 0, none⟩, n, n⟩ (k := k) (by omega))
      obtain ⟨L, hL⟩ : ∃ L, R k = L := ⟨_, rfl⟩
      rw [hL] at hc
      have hlen := hM.len k (by omega)
      rw [hL] at hlen
      obtain ⟨A, N, c⟩ := L
      simp only [Sl.val] at hc hlen
      have hN : N ≤ 320 := by
        rw [hlen, lst_len hk1]
        have := List.count_le_length (a := k) (l := ls)
        have := HN.out
        omega
      have HL := Lib.hid hL
      have HLEN := Lib.hid hlen
      clear hL hlen
      obtain ⟨m, hm⟩ : ∃ m : Nat, 15 - k = m := ⟨_, rfl⟩
      have hmi : (15 : Int) - (k : Int) = (m : Int) := by omega
      have hm14 : m ≤ 14 := by omega
      have HM := Lib.hid hm
      have hrd := (hM.own k (by omega))
      rw [HL.out] at hrd
      simp only at hrd
      have HRD := Lib.hid hrd.rd
      clear hm hrd
      go_wp2
      go_loopw [2, 17] (fun a i ws => ∃ (r p : Nat), r ≤ N ∧ i = .int .i64 r ∧ a = .int .i64 p ∧ Hid (p = tx ls (k - 1) + r * 2 ^ m) ∧ Mid ws base g ls R (Es ls k) d n (Fs ls k r) ∧ Turn [g, d] [g, d] wr ws) (fun _ i _ => N - (intOf i).toNat)
      case atStart => exact ⟨0, q, by omega, rfl, rfl, by show _ = _; rw [hq.out]; simp, hM, Turn.refl _ _⟩
      case round =>
        obtain ⟨r, p, hr, rfl, rfl, hp, hM2, hT2⟩ := hrel
        by_cases hlt2 : r < N
        · have hrd2 := hM2.own k (by omega)
          rw [HL.out] at hrd2
          simp only at hrd2
          obtain ⟨b, off, s, rfl, hb, hx, hcx⟩ := hrd2.rd.at_ (enc := fun x : Nat => iv (x : Int)) hlt2
          have hcd := cd_div hk1 hlt hx
          have hF := Fs_step hk1 hx
          have hs : s < n := by
            rw [HN.out]
            rw [lst_pos ls hk1] at hx
            exact lt_of_get (syms_of hx).1
          have hpb := share_bound hk1 hlt hx
          rw [HM.out, ← hp.out] at hcd hpb
          rw [← HN.out] at hpb
          obtain ⟨C, hC⟩ : ∃ C, cd ls s k = C := ⟨_, rfl⟩
          rw [hC] at hcd hF
          obtain ⟨M, hM0⟩ : ∃ M, 2 ^ m = M := ⟨_, rfl⟩
          have hMi : (2 : Int) ^ m = (M : Int) := by rw [pow2i, hM0]
          rw [hM0] at hcd hpb
          have hpb2 : p + M ≤ 78643200 := by omega
          have hci : (p : Int) / (M : Int) = (C : Int) := by rw [← hcd]; simp
          have HM0 := Lib.hid hM0
          have HF := Lib.hid hF
          clear hx hcd hF hrd2 hC hM0 hpb
          have hc2 := hM2.all.cell (cells_codes R (Es ls k) ⟨some ⟨d, 0, none⟩, n, n⟩)
          simp only [Sl.val] at hc2
          have hf1 := hM2.codes.free (s * 2)
          have hf2 := hM2.codes.free (s * 2 + 1)
          have hp1 := hM2.codes.cell (pairs_fst (Fs ls k r) n hs)
          have hp2 := hM2.codes.cell (pairs_snd (Fs ls k r) n hs)
          have hs0 : (0 : Int) ≤ (s : Int) := by omega
          have hs1 : (s : Int) < (n : Int) := by omega
          go_wp2
          go_region
          go_wp2
          go_roundw
          case rel =>
            refine ⟨r + 1, p + M, by omega, by go_num, by go_num, ?_, ?_, ?_⟩
            · show _ = _
              rw [hp.out, ← HM0.out, Nat.succ_mul]; omega
            · have := (hM2.setPair s k C).fresh (Fresh.drew _)
              rw [HF.out] at this
              exact this
            · exact hT2.trans (((Turn.but (But.put _ _) (by simp)).trans (Turn.but (But.put _ _) (by simp))).trans (Turn.fresh (Fresh.drew _)))
          case measure => simp [intOf]; omega
        · obtain rfl : r = N := by omega
          have hpe : p = tx ls k := by
            have := tx_succ ls (n := k - 1) (by omega)
            rw [show k - 1 + 1 = k by omega, HM.out, ← lst_len hk1, ← HLEN.out] at this
            rw [hp.out, this]
          have HPE := Lib.hid hpe
          have hce := hM2.all.cell (cells_end R (Es ls k) ⟨some ⟨d, 0, none⟩, n, n⟩ (k := k) (by omega))
          have hfe := hM2.all.free (16 + k)
          clear hpe
          go_wp2
          go_roundw
          case rel =>
            refine ⟨k + 1, p, by omega, by omega, by go_num, rfl, HPE.out, ?_, ?_⟩
            · have h1 := hM2.setEnd k (by omega) p
              rw [HPE.out, Es_step, ← HPE.out] at h1
              rw [← Fs_next, ← lst_len hk1, ← HLEN.out]
              exact h1
            · exact hT.trans (hT2.trans (Turn.but (But.put _ _) (by simp)))
          case measure => simp [intOf]; omega
    · obtain rfl : k = 16 := by omega
      go_wp2
      go_end0
      exact ⟨rfl, hM, hT⟩
end Go.Proofs.YtppgceighgpgoaaGreatDoor.huffp
/-
  The contract of huff.New. My own text.
-/
namespace Go.Proofs.YtppgceighgpgoaaGreatDoor.huffp
open Go.RowKit Go.Proofs.YtppgceighgpgoaaGreatDoor.base Go.Proofs.YtppgceighgpgoaaGreatDoor.num Go.Proofs.YtppgceighgpgoaaGreatDoor.bitnum Go.Proofs.YtppgceighgpgoaaGreatDoor.bitp Go.Proofs.YtppgceighgpgoaaGreatDoor.huffnum
set_option linter.unusedVariables false

theorem Own.low0 {w : World} {base base' : Nat} {e : TypeId} {A : Option Addr} {n c : Nat} {xs : List Value} (h : Own w base e A n c xs) (hb : base' ≤ base) : Own w base' e A n c xs :=
  ⟨h.1, h.2.imp id fun ⟨g, cap, cur, h1, h2, h3⟩ => ⟨g, cap, cur, h1, Nat.le_trans hb h2, h3⟩⟩
/-- make of pairs -/
theorem wpList_make_two {P : Program} {w : World} {ops : Array Oper} {rest : List Oper} {o : Oper} {a : Act} {Q : Exit → Act → World → Prop} (hgd : o.guard = none) (t : TypeId) (x y : Operand) (ho : o.op = .makeSlice t x y) (e : TypeId) (i : TypeInfo) (z u : Value) (hu : P.underlying t = some (.slice e)) (hi : P.info? e = some i) (hz : i.zero = some z)
    (hsize : i.size = 2) (hzc : z.cells = #[u, u]) (n : Nat) (hx : a.eval x = .int .i64 n) (hy : a.eval y = .int .i64 n) (hbytes : i.bytes * n ≤ 281474976710656) (h63 : n ≤ maxLen) (g : Nat) (hg : w.heap.size = g)
    (h : ∀ w', Bk w' g e (List.replicate (2 * n) u) → Fresh w w' → w'.heap.size = g + 1 → wpList P ops Q rest (a.put o.dst (.slice (some ⟨g, 0, none⟩) n n)) w') : wpList P ops Q (o :: rest) a w := by
  refine wpList_plain hgd fun K hK => ?_
  subst hg
  have h63' : (n : Int) ≤ 9223372036854775807 := by
    have h := h63
    simp [maxLen] at h
    omega
  have hb' : (i.bytes : Int) * (n : Int) ≤ 281474976710656 := by
    have h : ((i.bytes * n : Nat) : Int) ≤ 281474976710656 := by omega
    rwa [Int.natCast_mul] at h
  have hr := run_make (P := P) w t e i z hu hi hz .i64 .i64 n n (by omega) (Int.le_refl _) hb' h63'
  simp only [Int.toNat_natCast] at hr
  unfold Oper.wp execOp
  simp only [ho, hx, hy, Sem.run_bind, hr, Result.andThen_ok]
  refine hK _ _ (h _ ?_ (Fresh.alloc _ _) (by simp))
  have h2 := Bk.made w e (madeCells z.cells (n * i.size))
  have e2 : (madeCells #[u, u] (n * 2)).toList = List.replicate (2 * n) u := by
    apply List.ext_getElem?
    intro j
    by_cases hj : j < 2 * n
    · have h3 : j % 2 = 0 ∨ j % 2 = 1 := by omega
      have h4 : j < n * 2 := by omega
      rcases h3 with h3 | h3 <;> simp [madeCells, hj, h4, h3]
    · have h4 : ¬ j < n * 2 := by omega
      simp [madeCells, hj, h4]
  rw [hzc, hsize, e2] at h2
  rw [hzc, hsize]
  exact h2

/-- a Code of the lengths ls lies at block g, in the blocks bl -/
def codeBl (g d : Nat) (R : Nat → Sl) : List Nat := g :: d :: (List.range 16).flatMap fun k => (R k).val.ownBlock.toList
def CodeAt (w : World) (g : Nat) (ls : List Nat) (bl : List Nat) : Prop := ∃ R d, bl = codeBl g d R ∧ Mid w 0 g ls R (Es ls 16) d ls.length (Fs ls 16 0)
theorem mem_codeBl {g d : Nat} {R : Nat → Sl} {k b : Nat} (hk : k < 16) (h : (R k).val.ownBlock = some b) : b ∈ codeBl g d R := by
  unfold codeBl
  refine List.mem_cons_of_mem _ (List.mem_cons_of_mem _ (List.mem_flatMap.2 ⟨k, List.mem_range.2 hk, ?_⟩))
  rw [h]; simp
theorem of_codeBl {g d : Nat} {R : Nat → Sl} {b : Nat} (h : b ∈ codeBl g d R) : b = g ∨ b = d ∨ ∃ k, k < 16 ∧ (R k).val.ownBlock = some b := by
  unfold codeBl at h
  rcases List.mem_cons.1 h with h | h
  · exact .inl h
  · rcases List.mem_cons.1 h with h | h
    · exact .inr (.inl h)
    · obtain ⟨k, hk, hb⟩ := List.mem_flatMap.1 h
      exact .inr (.inr ⟨k, List.mem_range.1 hk, by simpa using hb⟩)
theorem CodeAt.keep {w w' : World} {g : Nat} {ls bl : List Nat} (h : CodeAt w g ls bl) (hk : ∀ b ∈ bl, w'.heap[b]? = w.heap[b]?) : CodeAt w' g ls bl := by
  obtain ⟨R, d, rfl, h⟩ := h
  refine ⟨R, d, rfl, { h with all := h.all.old (hk g (by simp [codeBl])), own := fun i hi => ?_, codes := h.codes.old (hk d (by simp [codeBl])) }⟩
  have ho := h.own i hi
  refine ⟨ho.1, ?_⟩
  rcases ho.2 with h2 | ⟨q, cap, cur, hv, hb, hg, r⟩
  · exact .inl h2
  · refine .inr ⟨q, cap, cur, hv, hb, ?_, r⟩
    rw [hk q (mem_codeBl hi (by unfold Sl.val; rw [hv]; rfl))]
    exact hg
theorem CodeAt.inside {w : World} {g : Nat} {ls bl : List Nat} (h : CodeAt w g ls bl) : ∀ b ∈ bl, b < w.heap.size := by
  obtain ⟨R, d, rfl, h⟩ := h
  intro b hb
  rcases of_codeBl hb with rfl | rfl | ⟨k, hk, hb⟩
  · exact h.all.inside
  · exact h.codes.inside
  · exact (World.ownsRow.lt (h.own k hk) b hb).2
theorem CodeAt.fresh {w w' : World} {g : Nat} {ls bl : List Nat} (h : CodeAt w g ls bl) (k : Fresh w w') : CodeAt w' g ls bl := h.keep fun b hb => k.block b (h.inside b hb)
theorem CodeAt.turn {S S' : List Nat} {w w' : World} {g : Nat} {ls bl : List Nat} (h : CodeAt w g ls bl) (k : Turn S S' w w') (hS : ∀ b ∈ bl, b ∉ S) : CodeAt w' g ls bl := h.keep fun b hb => k.block b (h.inside b hb) (hS b hb)
theorem Mid.code {w0 w : World} {g d : Nat} {ls : List Nat} {R : Nat → Sl} (h : Mid w w0.heap.size g ls R (Es ls 16) d ls.length (Fs ls 16 0)) (hf : Fresh w0 w) : ∃ bl, CodeAt w g ls bl ∧ Since w0 w bl := by
  refine ⟨codeBl g d R, ⟨R, d, rfl, { h with gb := Nat.zero_le _, db := Nat.zero_le _, own := fun i hi => Own.low0 (h.own i hi) (Nat.zero_le _) }⟩, hf, fun b hb => ?_⟩
  rcases of_codeBl hb with rfl | rfl | ⟨k, hk, hb⟩
  · exact h.gb
  · exact h.db
  · exact (World.ownsRow.lt (h.own k hk) b hb).1

/-- what New tells -/
def NewIs (w : World) (zs : List Int) (e : Ending) (w' : World) : Prop :=
  ((∃ z ∈ zs, z < 0 ∨ 15 < z) ∧ e = .returned (.tuple #[.pointer none, .int .i64 1]) ∧ Fresh w w') ∨
  ((∀ z ∈ zs, 0 ≤ z ∧ z ≤ 15) ∧ 32768 < tx (zs.map Int.toNat) 15 ∧ e = .returned (.tuple #[.pointer none, .int .i64 12]) ∧ Fresh w w') ∨
  ((∀ z ∈ zs, 0 ≤ z ∧ z ≤ 15) ∧ tx (zs.map Int.toNat) 15 ≤ 32768 ∧ ∃ g bl, e = .returned (.tuple #[.pointer (some ⟨g, 0, none⟩), .int .i64 0]) ∧ CodeAt w' g (zs.map Int.toNat) bl ∧ Since w w' bl)

theorem new_many (A : Option Addr) (n c : Nat) (w : World) (hn : 320 < n) (hm : n ≤ maxLen) :
    Calls Tryz.prog 24 #[.slice A n c] w fun e w' => e = .returned (.tuple #[.pointer none, .int .i64 1]) ∧ Fresh w w' := by
  go_enter Tryz.func24, Tryz.ntmps24
  go_wp2
  go_ret2
  exact ⟨rfl, Fresh.refl _⟩

theorem info_pair : (Tryz.prog.info? 118).map (fun i => (i.zero, i.size, i.bytes)) = some (some (.agg #[.int .i64 0, .int .i64 0]), 2, 16) := by kernel_rfl
theorem lst_more {ls : List Nat} {j k : Nat} (h : ls[j]? = some k) (h1 : 1 ≤ k) : lst (ls.take (j + 1)) k = lst (ls.take j) k ++ [j] := by
  rw [lst_pos _ h1, lst_pos _ h1, syms_more h, if_pos rfl]
theorem lst_rest {ls : List Nat} {j k i : Nat} (h : ls[j]? = some k) (hi : i ≠ k ∨ k = 0) : lst (ls.take (j + 1)) i = lst (ls.take j) i := by
  unfold lst
  split
  · rfl
  · rw [syms_more h, if_neg (by omega), List.append_nil]

set_option maxRecDepth 100000 in
theorem new_any (A : Option Addr) (n c : Nat) (zs : List Int) (w : World) (B : Nat) (hr : Rd w B A n (zs.map iv)) (hB : B ≤ w.heap.size) (hn : n ≤ 320) :
    Calls Tryz.prog 24 #[.slice A n c] w (NewIs w zs) := by
  obtain ⟨i0, hi0, hz0, hz1, hz2⟩ := info_parts info_int
  obtain ⟨i1, hj0, hy0, hy1, hy2⟩ := info_parts info_pair
  have hlz : zs.length = n := by have := hr.1; rwa [List.length_map] at this
  have HLZ := Lib.hid hlz
  clear hlz
  go_enter Tryz.func24, Tryz.ntmps24
  go_wp2_with (first
    | (with_reducible (refine at_slot_ 12 ?_); refine wpList_make_two rfl 87 (.tmp 11) (.tmp 11) rfl 118 i1 _ (.int .i64 0) Tryz.underlying87 hj0 hy0 hy1 rfl n rfl rfl (by rw [hy2]; omega) (by unfold maxLen; omega) w.heap.size rfl ?_; intro w1 hb1 hf1 hs1)
    | (with_reducible (refine at_slot_ 13 ?_); refine wpList_buildTo (o := ⟨some 13, _, _, _, _, _⟩) rfl 91 #[(2, .tmp 12)] rfl (some 13) rfl (cells (fun _ => Sl.nil) (fun _ => 0) ⟨some ⟨w.heap.size, 0, none⟩, n, n⟩).toArray (by kernel_rfl) ?_))
  have hM0 : Mid (w1.alloc (.cells (cells (fun _ => Sl.nil) (fun _ => 0) ⟨some ⟨w.heap.size, 0, none⟩, n, n⟩).toArray tCode)) w.heap.size (w.heap.size + 1) [] (fun _ => Sl.nil) (fun _ => 0) w.heap.size n (fun _ => (0, 0)) := by
    have h1 := Bk.made w1 tCode (cells (fun _ => Sl.nil) (fun _ => 0) ⟨some ⟨w.heap.size, 0, none⟩, n, n⟩).toArray
    rw [hs1] at h1
    refine ⟨h1, fun k hk => ?_, fun k hk => ?_, fun i k _ _ _ b hb => by simp [Sl.nil, Sl.val, Value.ownBlock] at hb, ?_, by omega, Nat.le_refl _, by omega⟩
    · unfold lst; split <;> simp [Sl.nil, syms]
    · have : nv (lst [] k) = [] := by unfold lst; split <;> simp [syms]
      rw [this]
      exact Own.nil _ _ _
    · rw [pairs_zero]; exact hb1.alloc _
  have hf0 : Fresh w (w1.alloc (.cells (cells (fun _ => Sl.nil) (fun _ => 0) ⟨some ⟨w.heap.size, 0, none⟩, n, n⟩).toArray tCode)) := hf1.trans (Fresh.alloc _ _)
  have HM0 := Lib.hid hM0
  clear hM0 hb1
  go_loopw [17] (fun i wr => ∃ (j : Nat) (R : Nat → Sl), j ≤ n ∧ i = .int .i64 j ∧ Hid (∀ z ∈ zs.take j, 0 ≤ z ∧ z ≤ 15) ∧ Mid wr w.heap.size (w.heap.size + 1) ((zs.map Int.toNat).take j) R (fun _ => 0) w.heap.size n (fun _ => (0, 0)) ∧ Fresh w wr) (fun i _ => n - (intOf i).toNat)
  case atStart => exact ⟨0, _, by omega, rfl, by simp [Hid], by rw [List.take_zero]; exact HM0.out, hf0⟩
  case round =>
    obtain ⟨j, R, hj, rfl, hok, hM, hfr⟩ := hrel
    by_cases hlt : j < n
    · obtain ⟨b, off, z, rfl, hb, hx, hcx⟩ := (hr.below hfr hB).at_ hlt
      have HX := Lib.hid hx
      clear hx
      by_cases hz1' : z < 0
      · go_wp2
        go_ret2
        exact .inl ⟨⟨z, List.mem_of_getElem? HX.out, .inl hz1'⟩, rfl, hfr⟩
      · by_cases hz2' : 15 < z
        · go_wp2
          go_ret2
          exact .inl ⟨⟨z, List.mem_of_getElem? HX.out, .inr hz2'⟩, rfl, hfr⟩
        · obtain ⟨k, rfl⟩ := Int.eq_ofNat_of_zero_le (Int.not_lt.1 hz1')
          have hk15 : k < 16 := by omega
          have hls : (zs.map Int.toNat)[j]? = some k := by rw [List.getElem?_map, HX.out]; rfl
          have hok2 : Hid (∀ z ∈ zs.take (j + 1), 0 ≤ z ∧ z ≤ 15) := by
            intro z hz
            rw [take_one_more _ _ _ HX.out] at hz
            rcases List.mem_append.1 hz with hz | hz
            · exact hok.out z hz
            · rw [List.mem_singleton] at hz; subst hz; omega
          have HLS := Lib.hid hls
          clear hls hz1' hz2'
          by_cases hk0 : k = 0
          · subst hk0
            go_wp2
            go_roundw
            case rel =>
              refine ⟨j + 1, R, by omega, by go_num, hok2, ?_, hfr⟩
              exact { hM with len := fun i hi => by rw [lst_rest HLS.out (.inr rfl)]; exact hM.len i hi, own := fun i hi => by rw [lst_rest HLS.out (.inr rfl)]; exact hM.own i hi }
            case measure => simp [intOf]; omega
          · have hk0' : 0 < k := by omega
            obtain ⟨L, hL⟩ : ∃ L, R k = L := ⟨_, rfl⟩
            have hlen := hM.len k hk15
            have hown := hM.own k hk15
            have hcl := hM.all.cell (cells_list R (fun _ => 0) ⟨some ⟨w.heap.size, 0, none⟩, n, n⟩ hk15)
            have hfl := hM.all.free k
            have hgd := hM.gd k hk15
            have hgi := hM.all.inside
            rw [hL] at hlen hown hcl hgd
            obtain ⟨LA, N, lc⟩ := L
            simp only [Sl.val] at hlen hown hcl hgd
            have hN : N ≤ 320 := by
              rw [hlen, lst_len (by omega)]
              have := List.count_le_length (a := k) (l := (zs.map Int.toNat).take j)
              rw [List.length_take] at this
              omega
            have hki0 : (0 : Int) ≤ (k : Int) := by omega
            have hki1 : (k : Int) < 16 := by omega
            have hci : (cells R (fun _ => 0) ⟨some ⟨w.heap.size, 0, none⟩, n, n⟩)[k]? = some (.slice LA N lc) := by
              rw [cells_list R _ _ hk15, hL]; rfl
            have HCI := Lib.hid hci
            have HB := Lib.hid hM.all
            clear hci
            have HL := Lib.hid hL
            have HLEN := Lib.hid hlen
            have HOWN := Lib.hid hown
            have HM := Lib.hid hM
            have HR := Lib.hid hr
            clear hL hlen hown hM hr
            go_wp2
            have hc1 := (HB.out.fresh (Fresh.drew _)).cell HCI.out
            have hc2 := (HB.out.fresh ((Fresh.alloc wr (.cells #[.int .i64 (j : Int)] 3)).trans (Fresh.drew _))).cell HCI.out
            go_region_law ((refine step_append_lies _ (by rfl) _ _ _ (by rfl) w.heap.size 3 i0 _ 1 8 Tryz.underlying62 hi0 hz0 hz1 hz2 rfl (by omega) (.slice LA N lc) N _ (by rfl) ((HOWN.out.alloc _).drew) ⟨wr.heap.size, 0, none⟩ 1 1 [.int .i64 (j : Int)] (by rfl) (by rfl) (World.news_of_block (cs := #[.int .i64 (j : Int)]) (t := 3) (fr := (0, 0)) (heap_alloc_new wr _)) (by simp [Value.oneCell']) (by omega) (by unfold maxLen; omega) (by omega) (by have := hfr.size; simp; omega) (wr.heap.size + 1) (by simp) ?_; intro gg cap w2 hown1 hgrow hat hlt2; have hc3 := ((HB.out.fresh ((Fresh.alloc _ _).trans (Fresh.drew _))).grown hgrow hgd).cell HCI.out; have hf3 := ((HB.out.fresh ((Fresh.alloc _ _).trans (Fresh.drew _))).grown hgrow hgd).free k))
            all_goals
              have hgr := Mid.grow (ls' := (zs.map Int.toNat).take (j + 1)) (HM.out.fresh ((Fresh.alloc wr (.cells #[.int .i64 (j : Int)] 3)).trans (Fresh.drew _))) hk15 (w1 := w2) (g1 := gg) (cap := cap) (xs := [])
                (by rw [HL.out, lst_more HLS.out (by omega), nv, List.map_append]; exact hown1)
                (by rw [HL.out, lst_more HLS.out (by omega), List.length_append, ← HLEN.out]; rfl)
                (fun i hi hik => lst_rest HLS.out (.inl hik))
                (by rw [HL.out]; exact hgrow)
                (by rw [HL.out]; exact hat.imp id fun e => by simp [e])
              rw [HL.out] at hgr
              have hfr2 : Fresh w w2 := (hfr.trans ((Fresh.alloc wr (.cells #[.int .i64 (j : Int)] 3)).trans (Fresh.drew _))).append (Own.fresh HOWN.out ((Fresh.alloc _ _).trans (Fresh.drew _))) (Nat.le_refl _) hgrow
              have hfr3 := hfr2.but (g := w.heap.size + 1) (by omega) (But.put (g := w.heap.size + 1) (i := k) w2 (.slice (some ⟨gg, 0, none⟩) (N + 1) cap))
              have HGR := Lib.hid hgr
              clear hgr hown1 hgrow hat
              go_wp2
              go_roundw
              case rel => exact ⟨j + 1, _, by omega, by go_num, hok2, HGR.out, hfr3⟩
              case measure => simp [intOf]; omega
    · obtain rfl : j = n := by omega
      have hall : ∀ z ∈ zs, 0 ≤ z ∧ z ≤ 15 := by
        have := hok.out
        rwa [List.take_of_length_le (Nat.le_of_eq HLZ.out)] at this
      have HALL := Lib.hid hall
      rw [List.take_of_length_le (by rw [List.length_map, HLZ.out]; omega)] at hM
      clear hall
      obtain ⟨T, hT⟩ : ∃ T, tx (zs.map Int.toNat) 15 = T := ⟨_, rfl⟩
      have HT := Lib.hid hT
      clear hT
      by_cases hov : 32768 < T
      · go_wp2_with (go_at_call 38; refine (share_any w.heap.size (w.heap.size + 1) w.heap.size j (zs.map Int.toNat) R wr hM (by rw [List.length_map, HLZ.out]) hn).mono ?_; rintro e w3 ⟨rfl, hM3, hT3⟩; have hc15 : w3.cell? ⟨w.heap.size + 1, 31, none⟩ = some (.int .i64 (T : Int)) := (by have := hM3.all.cell (cells_end R (Es (zs.map Int.toNat) 16) ⟨some ⟨w.heap.size, 0, none⟩, j, j⟩ (k := 15) (by omega)); rw [Es, if_pos (by omega), HT.out] at this; exact this))
        go_ret2
        exact .inr (.inl ⟨HALL.out, by rw [HT.out]; exact hov, rfl, hT3.new hfr (by simp)⟩)
      · go_wp2_with (go_at_call 38; refine (share_any w.heap.size (w.heap.size + 1) w.heap.size j (zs.map Int.toNat) R wr hM (by rw [List.length_map, HLZ.out]) hn).mono ?_; rintro e w3 ⟨rfl, hM3, hT3⟩; have hc15 : w3.cell? ⟨w.heap.size + 1, 31, none⟩ = some (.int .i64 (T : Int)) := (by have := hM3.all.cell (cells_end R (Es (zs.map Int.toNat) 16) ⟨some ⟨w.heap.size, 0, none⟩, j, j⟩ (k := 15) (by omega)); rw [Es, if_pos (by omega), HT.out] at this; exact this))
        go_ret2
        have hl : j = (zs.map Int.toNat).length := by rw [List.length_map, HLZ.out]
        rw [hl] at hM3
        obtain ⟨bl, hC, hS⟩ := hM3.code (hT3.new hfr (by simp))
        exact .inr (.inr ⟨HALL.out, by rw [HT.out]; omega, w.heap.size + 1, bl, rfl, hC, hS⟩)
end Go.Proofs.YtppgceighgpgoaaGreatDoor.huffp
/-
  The contracts of huff.Code's Fill and Code, of huff.highestFirst. My own text.
-/
namespace Go.Proofs.YtppgceighgpgoaaGreatDoor.huffp
open Go.RowKit Go.Proofs.YtppgceighgpgoaaGreatDoor.base Go.Proofs.YtppgceighgpgoaaGreatDoor.num Go.Proofs.YtppgceighgpgoaaGreatDoor.bitnum Go.Proofs.YtppgceighgpgoaaGreatDoor.bitp Go.Proofs.YtppgceighgpgoaaGreatDoor.huffnum
set_option linter.unusedVariables false

theorem CodeAt.ends {w : World} {g : Nat} {ls bl : List Nat} (h : CodeAt w g ls bl) (n : Nat) (hn : n ≤ 15) : w.cell? ⟨g, 16 + n, none⟩ = some (.int .i64 (tx ls n : Nat)) := by
  obtain ⟨R, d, rfl, h⟩ := h
  have := h.all.cell (cells_end R (Es ls 16) ⟨some ⟨d, 0, none⟩, ls.length, ls.length⟩ (k := n) (by omega))
  rw [Es, if_pos (by omega)] at this
  exact this

set_option maxRecDepth 100000 in
theorem fill_is (g : Nat) (ls bl : List Nat) (T : Nat) (w : World) (h : CodeAt w g ls bl) (hT : tx ls 15 = T) (F : Nat) (hF : F = if T < 32768 then 1 else 0) :
    Calls Tryz.prog 111 #[.pointer (some ⟨g, 0, none⟩)] w fun e w' => e = .returned (.int .i64 F) ∧ w = w' := by
  have hc := h.ends 15 (Nat.le_refl _)
  rw [hT] at hc
  simp only [Nat.reduceAdd] at hc
  clear h hT
  by_cases ht : T < 32768
  · rw [if_pos ht] at hF
    subst hF
    have hti : (T : Int) < 32768 := by omega
    clear ht
    go_enter Tryz.func111, Tryz.ntmps111
    go_wp2
    go_ret
    exact ⟨rfl, rfl⟩
  · rw [if_neg ht] at hF
    subst hF
    have hti : ¬ (T : Int) < 32768 := by omega
    clear ht
    go_enter Tryz.func111, Tryz.ntmps111
    go_wp2
    go_ret
    exact ⟨rfl, rfl⟩

theorem code_out (g : Nat) (ls bl : List Nat) (z : Int) (w : World) (h : CodeAt w g ls bl) (hz : z < 0 ∨ (ls.length : Int) ≤ z) :
    Calls Tryz.prog 53 #[.pointer (some ⟨g, 0, none⟩), .int .i64 z] w fun e w' => e = .returned (.tuple #[.int .i64 0, .int .i64 0]) ∧ w = w' := by
  obtain ⟨R, d, rfl, h⟩ := h
  have hc := h.all.cell (cells_codes R (Es ls 16) ⟨some ⟨d, 0, none⟩, ls.length, ls.length⟩)
  simp only [Sl.val] at hc
  rcases hz with hz | hz
  · go_enter Tryz.func53, Tryz.ntmps53
    go_wp2
    go_ret2
    exact ⟨rfl, rfl⟩
  · go_enter Tryz.func53, Tryz.ntmps53
    go_wp2
    go_ret2
    exact ⟨rfl, rfl⟩
theorem code_in (g : Nat) (ls bl : List Nat) (s a b : Nat) (w : World) (h : CodeAt w g ls bl) (hs : s < ls.length) (hab : Fs ls 16 0 s = (a, b)) :
    Calls Tryz.prog 53 #[.pointer (some ⟨g, 0, none⟩), .int .i64 s] w fun e w' => e = .returned (.tuple #[.int .i64 a, .int .i64 b]) ∧ Fresh w w' := by
  obtain ⟨R, d, rfl, h⟩ := h
  have hc := h.all.cell (cells_codes R (Es ls 16) ⟨some ⟨d, 0, none⟩, ls.length, ls.length⟩)
  have h1 := h.codes.cell (pairs_fst (Fs ls 16 0) ls.length hs)
  have h2 := h.codes.cell (pairs_snd (Fs ls 16 0) ls.length hs)
  rw [hab] at h1 h2
  simp only at h1 h2
  simp only [Sl.val] at hc
  generalize ls.length = n at *
  have hs0 : (0 : Int) ≤ (s : Int) := by omega
  have hs1 : (s : Int) < (n : Int) := by omega
  go_enter Tryz.func53, Tryz.ntmps53
  go_wp2
  go_quiet (fail)
  go_wp2
  go_ret2
  exact ⟨rfl, Fresh.drewN _ _⟩

theorem rev8_is (i : Nat) (h : i < 256) : Lib.rev8 (i : Int) = ((rev 8 i : Nat) : Int) := by
  have all : ∀ j : Fin 256, Lib.rev8 ((j.val : Nat) : Int) = ((rev 8 j.val : Nat) : Int) := by decide +kernel
  exact all ⟨i, h⟩
theorem rev_split (A k : Nat) : ∀ j, rev (k + j) A = rev k A * 2 ^ j + rev j (A / 2 ^ k)
  | 0 => by simp [rev]
  | j + 1 => by
    rw [← Nat.add_assoc, rev, rev_split A k j, rev, Nat.pow_succ, Nat.div_div_eq_div_mul, ← Nat.pow_add, Nat.mul_add, Nat.mul_comm (2 ^ j) 2, Nat.mul_left_comm, Nat.add_assoc]
theorem rev_two (v : Nat) : rev 16 v = rev 8 (v % 256) * 256 + rev 8 (v / 256) := by
  have h := rev_split v 8 8
  have e := rev_mod v (k := 8) (m := 8) (Nat.le_refl _)
  rw [show (2 : Nat) ^ 8 = 256 from rfl] at h e
  rw [e]
  exact h
set_option maxRecDepth 100000 in
theorem fold_rev : (⟨(([0, 128, 64, 192, 32, 160, 96, 224, 16, 144, 80, 208, 48, 176, 112, 240, 8, 136, 72, 200, 40, 168, 104, 232, 24, 152, 88, 216, 56, 184, 120, 248, 4, 132, 68, 196, 36, 164, 100, 228, 20, 148, 84, 212, 52, 180, 116, 244, 12, 140, 76, 204, 44, 172, 108, 236, 28, 156, 92, 220, 60, 188, 124, 252].append [2, 130, 66, 194, 34, 162, 98, 226, 18, 146, 82, 210, 50, 178, 114, 242, 10, 138, 74, 202, 42, 170, 106, 234, 26, 154, 90, 218, 58, 186, 122, 250, 6, 134, 70, 198, 38, 166, 102, 230, 22, 150, 86, 214, 54, 182, 118, 246, 14, 142, 78, 206, 46, 174, 110, 238, 30, 158, 94, 222, 62, 190, 126, 254]).append ([1, 129, 65, 193, 33, 161, 97, 225, 17, 145, 81, 209, 49, 177, 113, 241, 9, 137, 73, 201, 41, 169, 105, 233, 25, 153, 89, 217, 57, 185, 121, 249, 5, 133, 69, 197, 37, 165, 101, 229, 21, 149, 85, 213, 53, 181, 117, 245, 13, 141, 77, 205, 45, 173, 109, 237, 29, 157, 93, 221, 61, 189, 125, 253].append [3, 131, 67, 195, 35, 163, 99, 227, 19, 147, 83, 211, 51, 179, 115, 243, 11, 139, 75, 203, 43, 171, 107, 235, 27, 155, 91, 219, 59, 187, 123, 251, 7, 135, 71, 199, 39, 167, 103, 231, 23, 151, 87, 215, 55, 183, 119, 247, 15, 143, 79, 207, 47, 175, 111, 239, 31, 159, 95, 223, 63, 191, 127, 255])).toArray⟩ : ByteArray) = Lib.rev8tab := by rfl
attribute [local go_sem] fold_rev
set_option maxRecDepth 100000 in
theorem rev16 (v : Nat) (w : World) (hv : v < 65536) :
    Calls Tryz.prog 109 #[.int .u16 v] w fun e w' => e = .returned (.int .u16 (rev 16 v : Nat)) ∧ ∃ m, w' = w.drewN m := by
  have h1 := rev8_is (v / 256) (by omega)
  have h2 := rev8_is (v % 256) (by omega)
  rw [show ((v / 256 : Nat) : Int) = (v : Int) / 256 by omega] at h1
  rw [show ((v % 256 : Nat) : Int) = (v : Int) % 256 by omega] at h2
  have a1 := rev_lt 8 (v / 256)
  have a2 := rev_lt 8 (v % 256)
  have e3 := rev_two v
  have hand : bits .and .u16 (v : Int) 255 = (v : Int) % 256 := by
    have := u16_and_nat v 255 hv (by omega)
    rw [show (255 : Nat) = 2 ^ 8 - 1 from rfl, Nat.and_two_pow_sub_one_eq_mod] at this
    rw [show (v : Int) % 256 = ((v % 2 ^ 8 : Nat) : Int) by omega]
    exact this
  generalize rev 8 (v / 256) = a at *
  generalize rev 8 (v % 256) = b at *
  generalize rev 16 v = c at *
  simp only [Nat.reducePow] at a1 a2
  have hor : bits .or .u16 (a : Int) ((b : Int) * 256) = (c : Int) := by
    have h := u16_or_nat a (b * 256) (by omega) (by omega)
    have h2 := Nat.two_pow_add_eq_or_of_lt (i := 8) (b := a) (by omega) b
    rw [show 2 ^ 8 * b = b * 256 by omega, Nat.or_comm] at h2
    rw [← h2, show b * 256 + a = c by omega] at h
    rw [show (b : Int) * 256 = ((b * 256 : Nat) : Int) by omega]
    exact h
  have hb1 : (0 : Int) ≤ (b : Int) := by omega
  have hb2 : (b : Int) ≤ 255 := by omega
  have ha1 : (0 : Int) ≤ (a : Int) := by omega
  have ha2 : (a : Int) ≤ 255 := by omega
  have hi0 : (0 : Int) ≤ (v : Int) / 256 := by omega
  have hi1 : (v : Int) / 256 ≤ 255 := by omega
  have hj0 : (0 : Int) ≤ (v : Int) % 256 := by omega
  have hj1 : (v : Int) % 256 ≤ 255 := by omega
  clear e3 a1 a2
  go_enter Tryz.func109, Tryz.ntmps109
  go_wp2
  go_region
  all_goals go_wp2
  all_goals go_ret
  all_goals exact ⟨rfl, 1, rfl⟩
end Go.Proofs.YtppgceighgpgoaaGreatDoor.huffp
/-
  The contract of huff.Code's Next. My own text.
-/
namespace Go.Proofs.YtppgceighgpgoaaGreatDoor.huffp
open Go.RowKit Go.Proofs.YtppgceighgpgoaaGreatDoor.base Go.Proofs.YtppgceighgpgoaaGreatDoor.num Go.Proofs.YtppgceighgpgoaaGreatDoor.bitnum Go.Proofs.YtppgceighgpgoaaGreatDoor.bitp Go.Proofs.YtppgceighgpgoaaGreatDoor.huffnum
set_option linter.unusedVariables false

theorem highest_is (v t : Nat) (w : World) (hv : v < 32768) (ht : t = rev 15 v) :
    Calls Tryz.prog 98 #[.int .i64 v] w fun e w' => e = .returned (.int .i64 t) ∧ Fresh w w' := by
  have h := rev_top v 15 1
  rw [show 15 + 1 = 16 from rfl, Nat.pow_one, ← ht] at h
  have hl := rev_lt 16 v
  have h16 : ∀ w, Calls Tryz.prog 109 #[.int .u16 v] w fun e w' => e = .returned (.int .u16 (rev 16 v : Nat)) ∧ ∃ m, w' = w.drewN m := fun w => rev16 v w (by omega)
  generalize rev 16 v = c at *
  simp only [Nat.reducePow] at hl
  have hw : IntKind.u16.wrap (v : Int) = (v : Int) := by rw [IntKind.wrap_u16]; omega
  have hc : (c : Int) / 2 = (t : Int) := by omega
  have H16 := Lib.hid h16
  clear h16 h ht
  have hci : (c : Int) < 65536 := by omega
  clear hl
  go_enter Tryz.func98, Tryz.ntmps98
  go_wp2_with (go_at_call 109; refine (H16.out _).mono ?_; rintro e w1 ⟨rfl, m, rfl⟩)
  go_ret
  exact ⟨rfl, Fresh.drewN _ _⟩

/-- what Next tells -/
def NextIs (ls : List Nat) (many t : Nat) (w : World) (q : Nat) (bs : List UInt8) (p : Nat) (rl : List Nat) (e : Ending) (w' : World) : Prop :=
  (tx ls 15 ≤ t ∧ e = .returned (.tuple #[.int .i64 0, .int .i64 12]) ∧ Fresh w w') ∨
  (∃ n, 1 ≤ n ∧ n ≤ 15 ∧ tx ls (n - 1) ≤ t ∧ t < tx ls n ∧ many < n ∧ e = .returned (.tuple #[.int .i64 0, .int .i64 3]) ∧ Fresh w w') ∨
  (∃ n s, 1 ≤ n ∧ n ≤ 15 ∧ tx ls (n - 1) ≤ t ∧ t < tx ls n ∧ n ≤ many ∧ (syms ls n)[(t - tx ls (n - 1)) / 2 ^ (15 - n)]? = some s ∧ e = .returned (.tuple #[.int .i64 (s : Nat), .int .i64 0]) ∧ RdrIs w q bs (p + n) rl w')

theorem CodeAt.list {w : World} {g : Nat} {ls bl : List Nat} (h : CodeAt w g ls bl) {k r s : Nat} (h1 : 1 ≤ k) (h15 : k ≤ 15) (hs : (syms ls k)[r]? = some s) :
    ∃ b off N c, w.cell? ⟨g, k, none⟩ = some (.slice (some ⟨b, off, none⟩) N c) ∧ r < N ∧ N ≤ c ∧ w.cell? ⟨b, off + r, none⟩ = some (.int .i64 (s : Nat)) := by
  obtain ⟨R, d, rfl, h⟩ := h
  have hc := h.all.cell (cells_list R (Es ls 16) ⟨some ⟨d, 0, none⟩, ls.length, ls.length⟩ (k := k) (by omega))
  have hl := h.len k (by omega)
  have ho := h.own k (by omega)
  rw [lst_pos ls h1] at hl ho
  have hr : r < (R k).len := by rw [hl]; exact lt_of_get hs
  obtain ⟨b, off, x, hA, hb, hx, hcx⟩ := ho.rd.at_ (enc := fun x : Nat => iv (x : Int)) hr
  rw [hs] at hx
  injection hx with hx
  subst hx
  have hcap := ho.cap
  generalize R k = L at *
  obtain ⟨A, N, c⟩ := L
  simp only at hA
  subst hA
  exact ⟨b, off, N, c, hc, hr, hcap.1, hcx⟩

set_option maxRecDepth 100000 in
theorem next_any (g q p many U t : Nat) (ls bl rl : List Nat) (bs : List UInt8) (w : World) (h : CodeAt w g ls bl) (hR : RdrAt w q bs p rl) (hp : p ≤ 8 * bs.length) (hn : bs.length ≤ 1099511627776)
    (hoff : ∀ b ∈ bl, b ∉ rl) (hmany : many = min 15 (8 * bs.length - p)) (hU : U = num bs / 2 ^ p) (hw : Nxt ls many U t) :
    Calls Tryz.prog 80 #[.pointer (some ⟨g, 0, none⟩), ptr q] w (NextIs ls many t w q bs p rl) := by
  obtain ⟨L, hL⟩ : ∃ L, 8 * bs.length - p = L := ⟨_, rfl⟩
  rw [hL] at hmany
  have hlz : ((8 * bs.length - p : Nat) : Int) = (L : Int) := by omega
  have hleft : ∀ w, RdrAt w q bs p rl → Calls Tryz.prog 97 #[ptr q] w fun e w' => e = .returned (.int .i64 L) ∧ Fresh w w' := fun w h => by
    have := left_any q bs p rl w h hp hn
    rwa [hL] at this
  have hm15 : many ≤ 15 := by omega
  have hheld : held (many : Int) = many := held_nat many (by omega)
  obtain ⟨V, hV⟩ : ∃ V, U % 2 ^ many = V := ⟨_, rfl⟩
  have hVl : V < 32768 := by
    have h1 := Nat.mod_lt U (y := 2 ^ many) (Nat.pow_pos (by omega))
    have h2 : 2 ^ many ≤ 32768 := by have := Nat.pow_le_pow_right (n := 2) (by omega) hm15; simpa using this
    omega
  have hpk : ∀ w, RdrAt w q bs p rl → Calls Tryz.prog 91 #[ptr q, .int .i64 many] w fun e w' => e = .returned (.tuple #[.int .i64 V, .bool true]) ∧ Fresh w w' := fun w h => by
    have := peek_ok q bs p rl many w h hn (by rw [hheld]; omega)
    rw [hheld, ← hU, hV] at this
    exact this
  have ht : t = rev 15 V := by rw [← hV]; exact hw.text
  have HW := Lib.hid hw
  have HLEFT := Lib.hid hleft
  have HPK := Lib.hid hpk
  have HT := Lib.hid ht
  have HOFF := Lib.hid hoff
  have HH := Lib.hid hheld
  have HC := Lib.hid h
  have HR := Lib.hid hR
  have hfits : p + many ≤ 8 * bs.length := by omega
  have hmL : min (15 : Int) (L : Int) = (many : Int) := by omega
  have HMM := Lib.hid hmany
  clear hw hleft hpk ht hoff hheld h hR hU hV hL hlz hmany
  obtain ⟨T, hT⟩ : ∃ T, tx ls 15 = T := ⟨_, rfl⟩
  have HTT := Lib.hid hT
  clear hT
  go_enter Tryz.func80, Tryz.ntmps80
  go_upto_region 3 with (fail)
  go_cut [6] (fun s wx => s = .int .i64 (many : Nat) ∧ Fresh w wx)
  case first =>
    go_wp2_with (go_at_call 97; (with_reducible refine (HLEFT.out w HR.out).mono ?_); rintro e w1 ⟨rfl, hf1⟩)
    all_goals go_meet
    · exact ⟨by congr 1; omega, hf1⟩
    · exact ⟨by congr 1; omega, hf1⟩
  case rest =>
    rename_i wx
    obtain ⟨rfl, hf1⟩ := hcut
    clear hmL
    go_wp2_with (first
      | (go_at_call 91; (with_reducible refine (HPK.out _ (HR.out.fresh hf1)).mono ?_); rintro e w2 ⟨rfl, hf2⟩)
      | (go_at_call 98; (with_reducible refine (highest_is V t w2 hVl HT.out).mono ?_); rintro e w3 ⟨rfl, hf3⟩; have hc15 : w3.cell? ⟨g, 31, none⟩ = some (.int .i64 (T : Int)) := (by have := (((HC.out.fresh hf1).fresh hf2).fresh hf3).ends 15 (Nat.le_refl _); rw [HTT.out] at this; exact this)))
    · go_ret2
      rename_i hTt
      exact .inl ⟨by rw [HTT.out]; exact hTt, rfl, (hf1.trans hf2).trans hf3⟩
    · rename_i hTt
      have hf13 := (hf1.trans hf2).trans hf3
      have hC3 := HC.out.fresh hf13
      have hR3 := HR.out.fresh hf13
      go_loopw [10] (fun i wr => ∃ (k : Nat), 1 ≤ k ∧ k ≤ 15 ∧ i = .int .i64 k ∧ Hid (tx ls (k - 1) ≤ t) ∧ wr = w3) (fun i _ => 16 - (intOf i).toNat)
      case atStart => exact ⟨1, by omega, by omega, rfl, by show _ ≤ _; rw [tx_zero]; omega, rfl⟩
      case round =>
        obtain ⟨k, hk1, hk15, rfl, hlo, rfl⟩ := hrel
        obtain ⟨E, hE⟩ : ∃ E, tx ls k = E := ⟨_, rfl⟩
        have hcE := hC3.ends k hk15
        rw [hE] at hcE
        have HE := Lib.hid hE
        clear hE
        by_cases hge : E ≤ t
        · have hk14 : k ≤ 14 := by
            rcases Nat.lt_or_ge k 15 with h | h
            · omega
            · have : k = 15 := by omega
              subst this
              have := HE.out
              rw [HTT.out] at this
              omega
          go_wp2
          go_roundw
          case rel => exact ⟨k + 1, by omega, by omega, by go_num, by show _ ≤ _; rw [Nat.add_sub_cancel, HE.out]; exact hge, trivial⟩
          case measure => simp [intOf]; omega
        · have hhi : t < tx ls k := by rw [HE.out]; omega
          have HHI := Lib.hid hhi
          clear hhi
          by_cases hkm : many < k
          · go_wp2
            go_ret2
            exact .inr (.inl ⟨k, hk1, hk15, hlo.out, HHI.out, hkm, rfl, hf13⟩)
          · have hheld : held (k : Int) = k := held_nat k (by omega)
            obtain ⟨s, hs, _, _, _⟩ := HW.out.comes hk1 hk15 hlo.out HHI.out (by omega)
            obtain ⟨k1, hk1e⟩ : ∃ k1, k - 1 = k1 := ⟨_, rfl⟩
            have hki : (k : Int) - 1 = (k1 : Int) := by omega
            have hlo2 := hlo.out
            rw [hk1e] at hs hlo2
            obtain ⟨B1, hB1⟩ : ∃ B1, tx ls k1 = B1 := ⟨_, rfl⟩
            rw [hB1] at hs hlo2
            obtain ⟨D, hD⟩ : ∃ D, t - B1 = D := ⟨_, rfl⟩
            have hDi : (t : Int) - (B1 : Int) = (D : Int) := by omega
            obtain ⟨m, hm⟩ : ∃ m, 15 - k = m := ⟨_, rfl⟩
            have hmi : (15 : Int) - (k : Int) = (m : Int) := by omega
            have hm14 : m ≤ 14 := by omega
            rw [hD, hm] at hs
            obtain ⟨M, hM⟩ : ∃ M, 2 ^ m = M := ⟨_, rfl⟩
            have hMi : (2 : Int) ^ m = (M : Int) := by rw [pow2i, hM]
            rw [hM] at hs
            obtain ⟨r, hr⟩ : ∃ r, D / M = r := ⟨_, rfl⟩
            have hri : (D : Int) / (M : Int) = (r : Int) := by rw [← hr]; simp
            rw [hr] at hs
            have HS := Lib.hid hs
            have HB1 := Lib.hid hB1
            have HFIN : Hid ((syms ls k)[(t - tx ls (k - 1)) / 2 ^ (15 - k)]? = some s) := by
              show _ = _
              rw [hk1e, hB1, hD, hm, hM, hr]; exact hs
            have hk1b : k1 ≤ 14 := by omega
            have hD32 : D ≤ 32768 := by
              have := HT.out
              have := rev_lt 15 V
              omega
            clear hs hB1 hD hr hM hm hk1e
            go_wp2_with (go_at_call 76; (with_reducible refine (bits_ok q bs p rl _ k _ wr hR3 hn hheld (by omega) rfl).mono ?_); rintro e w4 ⟨rfl, rl4, hR4, hT4⟩)
            have hC4 := hC3.turn hT4 HOFF.out
            obtain ⟨b, off, N, c, hcl, hrN, hNc, hcs⟩ := hC4.list hk1 hk15 HS.out
            have hcE1 := hC4.ends k1 (by omega)
            rw [HB1.out] at hcE1
            have hr0 : (0 : Int) ≤ (r : Int) := by omega
            have hr1 : (r : Int) < (N : Int) := by omega
            have hka : (0 : Int) ≤ (k : Int) := by omega
            have hkb : (k : Int) < 16 := by omega
            have hkc : (k1 : Int) < 16 := by omega
            have HT4 := Lib.hid hT4
            have HR4 := Lib.hid hR4
            clear hC4 hC3 hR3 hT4 hR4 hcE
            go_quiet (fail)
            go_wp2
            go_ret2
            exact .inr (.inr ⟨k, s, hk1, hk15, hlo.out, HHI.out, by omega, HFIN.out, rfl, rl4, HR4.out.fresh (Fresh.drewN _ _), ((Turn.fresh hf13).trans HT4.out).trans (Turn.fresh (Fresh.drewN _ _))⟩)
end Go.Proofs.YtppgceighgpgoaaGreatDoor.huffp
