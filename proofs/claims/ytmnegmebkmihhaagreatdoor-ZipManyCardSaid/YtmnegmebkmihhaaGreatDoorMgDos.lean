import Derived.Test.YtmnegmebkmihhaaGreatDoorMgDnm
import Derived.Test.YtmnegmebkmihhaaGreatDoorDosRight
import Derived.Test.YtmnegmebkmihhaaGreatDoorMgNam
import Derived.Lib.SmallJoins
import Derived.Laws.BytesString
import Derived.Laws.Cells
/- Several of my own texts, one behind the other. -/
/-
  The texts of moments: plain mathematics, over no program. My own text.
-/
namespace Go.Proofs.YtmnegmebkmihhaaGreatDoor.dosnum
open Go.Proofs.YtmnegmebkmihhaaGreatDoor.num Go.Proofs.YtmnegmebkmihhaaGreatDoor.bitnum
set_option linter.unusedVariables false

/-- how a moment is written: digits stand where there is a 48 -/
def shp : List UInt8 := [48, 48, 48, 48, 45, 48, 48, 45, 48, 48, 32, 48, 48, 58, 48, 48, 58, 48, 48]
/-- where the six numbers begin, how many digits they have, and which one a place belongs to (a sign: to the one ahead) -/
def st : Nat → Nat
  | 0 => 0 | 1 => 5 | 2 => 8 | 3 => 11 | 4 => 14 | _ => 17
def ln : Nat → Nat
  | 0 => 4 | _ => 2
def wh (k : Nat) : Nat := (if 4 < k then 1 else 0) + (if 7 < k then 1 else 0) + (if 10 < k then 1 else 0) + (if 13 < k then 1 else 0) + (if 16 < k then 1 else 0)
theorem wh_le (k : Nat) : wh k ≤ 5 := by unfold wh; (repeat' split) <;> omega
theorem wh_sign : ∀ k : Fin 19, ∀ x, shp[k.1]? = some x → x ≠ 48 → wh (k.1 + 1) = wh k.1 + 1 ∧ wh k.1 < 5 := by decide
theorem wh_digit : ∀ k : Fin 19, shp[k.1]? = some 48 → wh (k.1 + 1) = wh k.1 ∧ st (wh k.1) ≤ k.1 ∧ k.1 < st (wh k.1) + ln (wh k.1) := by decide
theorem seg_apart : ∀ k : Fin 19, ∀ j : Fin 6, (shp[k.1]? ≠ some 48 ∨ j.1 ≠ wh k.1) → (k.1 < st j.1 ∨ st j.1 + ln j.1 ≤ k.1) := by decide

/-- the bytes of t from s on, l of them, as far as the first k go -/
def seg {α : Type} (t : List α) (k s l : Nat) : List α := ((t.take k).drop s).take l
theorem seg_in {α : Type} {t : List α} {k s l : Nat} {x : α} (hx : t[k]? = some x) (h1 : s ≤ k) (h2 : k < s + l) : seg t (k + 1) s l = seg t k s l ++ [x] := by
  have hk : k < t.length := (List.getElem?_eq_some_iff.1 hx).1
  unfold seg
  rw [take_snoc t k x hx, List.drop_append_of_le_length (by rw [List.length_take]; omega), List.take_append, List.take_of_length_le (l := [x]) (by simp; omega)]
theorem seg_out {α : Type} {t : List α} {k s l : Nat} (h : k < s ∨ s + l ≤ k) : seg t (k + 1) s l = seg t k s l := by
  unfold seg
  rw [List.take_drop, List.take_drop, List.take_take, List.take_take]
  rcases h with h | h
  · rw [List.drop_eq_nil_of_le (by rw [List.length_take]; omega), List.drop_eq_nil_of_le (by rw [List.length_take]; omega)]
  · rw [show min (s + l) (k + 1) = min (s + l) k by omega]
theorem seg_zero {α : Type} (t : List α) (s l : Nat) : seg t 0 s l = [] := by simp [seg]

/-- digits as a number -/
def acc (l : List UInt8) : Int := l.foldl (fun v c => v * 10 + ((c.toNat : Int) - 48)) 0
theorem acc_snoc (l : List UInt8) (c : UInt8) : acc (l ++ [c]) = acc l * 10 + ((c.toNat : Int) - 48) := by simp [acc]
/-- the six numbers as far as the first k bytes go -/
def nums (t : List UInt8) (k j : Nat) : Int := acc (seg t k (st j) (ln j))
theorem nums_zero (t : List UInt8) (j : Nat) : nums t 0 j = 0 := by simp [nums, seg_zero, acc]
/-- a byte is as the shp has it -/
def fits (s c : UInt8) : Bool := if s = 48 then decide (48 ≤ c) && decide (c ≤ 57) else decide (c = s)
def digit (c : UInt8) : Bool := decide (48 ≤ c) && decide (c ≤ 57)
theorem nums_digit {t : List UInt8} {k : Nat} (hk : k < 19) {c : UInt8} (hc : t[k]? = some c) (hs : shp[k]? = some 48) (j : Nat) (hj : j < 6) :
    nums t (k + 1) j = if j = wh k then nums t k j * 10 + ((c.toNat : Int) - 48) else nums t k j := by
  split
  · subst j
    have h := wh_digit ⟨k, hk⟩ hs
    rw [nums, seg_in hc h.2.1 h.2.2, acc_snoc]
    rfl
  · rw [nums, seg_out (seg_apart ⟨k, hk⟩ ⟨j, hj⟩ (Or.inr (by assumption)))]
    rfl
theorem nums_sign {t : List UInt8} {k : Nat} (hk : k < 19) (hs : shp[k]? ≠ some 48) (j : Nat) (hj : j < 6) : nums t (k + 1) j = nums t k j := by
  rw [nums, seg_out (seg_apart ⟨k, hk⟩ ⟨j, hj⟩ (Or.inl hs))]
  rfl
/-- digits are few: the number is small -/
theorem acc_bd_rev : ∀ (l : List UInt8), (∀ c ∈ l, digit c = true) → 0 ≤ acc l.reverse ∧ acc l.reverse < 10 ^ l.length
  | [], _ => by simp [acc]
  | c :: l, h => by
    have hi := acc_bd_rev l fun x hx => h x (List.mem_cons_of_mem _ hx)
    have hc := h c (List.mem_cons_self ..)
    simp only [digit, Bool.and_eq_true, decide_eq_true_eq, UInt8.le_iff_toNat_le] at hc
    rw [List.reverse_cons, acc_snoc, List.length_cons, Int.pow_succ]
    simp at hc
    omega
theorem acc_bd (l : List UInt8) (h : ∀ c ∈ l, digit c = true) : 0 ≤ acc l ∧ acc l < 10 ^ l.length := by
  have := acc_bd_rev l.reverse fun c hc => h c (List.mem_reverse.1 hc)
  rwa [List.reverse_reverse, List.length_reverse] at this
/-- all bytes are as the shp has them -/
def fitsB : List UInt8 → List UInt8 → Bool
  | s :: ss, c :: cs => fits s c && fitsB ss cs
  | _, _ => true
def fitsTo (sh t : List UInt8) (k : Nat) : Prop := ∀ i c s, i < k → t[i]? = some c → sh[i]? = some s → fits s c = true
theorem fitsB_iff : ∀ (sh t : List UInt8), fitsB sh t = true ↔ fitsTo sh t t.length
  | [], t => ⟨fun _ i c s _ _ h => by simp at h, fun _ => by cases t <;> rfl⟩
  | s :: ss, [] => ⟨fun _ i c s _ h => by simp at h, fun _ => rfl⟩
  | s :: ss, c :: cs => by
    rw [fitsB, Bool.and_eq_true, fitsB_iff ss cs]
    constructor
    · rintro ⟨h1, h2⟩ i c' s' hi hc hs
      cases i with
      | zero => simp at hc hs; subst hc; subst hs; exact h1
      | succ i => exact h2 i c' s' (by simpa using hi) (by simpa using hc) (by simpa using hs)
    · intro h
      exact ⟨h 0 c s (by simp) rfl rfl, fun i c' s' hi hc hs => h (i + 1) c' s' (by simpa using hi) (by simpa using hc) (by simpa using hs)⟩
theorem fitsTo_step {sh t : List UInt8} {k : Nat} {c s : UInt8} (h : fitsTo sh t k) (hc : t[k]? = some c) (hs : sh[k]? = some s) (hf : fits s c = true) : fitsTo sh t (k + 1) := by
  intro i c' s' hi h1 h2
  rcases Nat.lt_succ_iff_lt_or_eq.1 hi with hi | rfl
  · exact h i c' s' hi h1 h2
  · rw [hc] at h1
    rw [hs] at h2
    injection h1 with h1
    injection h2 with h2
    rw [← h1, ← h2]
    exact hf
theorem fitsB_bad {sh t : List UInt8} {k : Nat} {c s : UInt8} (hc : t[k]? = some c) (hs : sh[k]? = some s) (hf : fits s c = false) : fitsB sh t = false := by
  rw [← Bool.not_eq_true, fitsB_iff]
  intro h
  have := h k c s (List.getElem?_eq_some_iff.1 hc).1 hc hs
  rw [hf] at this
  cases this
/-- what a text is read as -/
def readM (t : List UInt8) : Mo := if fitsB shp t = true then ⟨nums t t.length 0, nums t t.length 1, nums t t.length 2, nums t t.length 3, nums t t.length 4, nums t t.length 5⟩ else zero
/-- the digits so far are few: their number is small -/
theorem nums_bd {t : List UInt8} {k : Nat} (h : fitsTo shp t k) (hk : k ≤ 19) (j : Nat) (hj : j < 6) : 0 ≤ nums t k j ∧ nums t k j < 10000 := by
  have h2 : ∀ c ∈ seg t k (st j) (ln j), digit c = true := by
    intro c hc
    obtain ⟨i, hi⟩ := List.mem_iff_getElem?.1 hc
    unfold seg at hi
    rw [List.getElem?_take] at hi
    split at hi
    · rename_i hlt
      rw [List.getElem?_drop, List.getElem?_take] at hi
      split at hi
      · rename_i hlt2
        have hs : ∀ j : Fin 6, ∀ i : Fin 4, i.1 < ln j.1 → shp[st j.1 + i.1]? = some 48 := by decide
        have hl4 : ln j ≤ 4 := by unfold ln; split <;> omega
        have := h _ c 48 hlt2 hi (hs ⟨j, hj⟩ ⟨i, by omega⟩ hlt)
        simpa [fits, digit] using this
      · cases hi
    · cases hi
  have h3 := acc_bd _ h2
  have h4 : (seg t k (st j) (ln j)).length ≤ 4 := by
    unfold seg
    rw [List.length_take]
    have : ln j ≤ 4 := by unfold ln; split <;> omega
    omega
  have h5 : (10 : Int) ^ (seg t k (st j) (ln j)).length ≤ 10 ^ 4 := by
    have := Nat.pow_le_pow_right (n := 10) (by omega) h4
    exact_mod_cast this
  refine ⟨h3.1, ?_⟩
  have : (10 : Int) ^ 4 = 10000 := by decide
  unfold nums
  omega
end Go.Proofs.YtmnegmebkmihhaaGreatDoor.dosnum
/-
  The contracts of write and Text: a moment as a text. My own text.
-/
namespace Go.Proofs.YtmnegmebkmihhaaGreatDoor.dosnum
set_option linter.unusedVariables false
/-- the six numbers -/
def numj (m : Mo) : Nat → Int
  | 0 => m.y | 1 => m.mo | 2 => m.d | 3 => m.h | 4 => m.mi | _ => m.s
theorem numj_bd {m : Mo} (r : Right m) (j : Nat) : 0 ≤ numj m j ∧ numj m j ≤ 2107 := by
  obtain ⟨a, b, c, d, e, f, g, h, i, jj, k, l⟩ := r
  have := days_bd m.y m.mo
  unfold numj
  split <;> omega
/-- a byte of the text -/
def lngAt (m : Mo) (i : Nat) : UInt8 := if shp.getD i 0 = 48 then UInt8.ofNat (48 + (numj m (wh i) / ((10 ^ (st (wh i) + ln (wh i) - 1 - i) : Nat) : Int) % 10).toNat) else shp.getD i 0
def long (m : Mo) : List UInt8 := (List.range 19).map (lngAt m)
/-- how many digits of a number stand from place k on -/
def cnt (k j : Nat) : Nat := min (ln j) (st j + ln j - k)
theorem cnt_digit : ∀ p : Fin 19, shp[p.1]? = some 48 → cnt (p.1 + 1) (wh p.1) = st (wh p.1) + ln (wh p.1) - 1 - p.1 ∧ cnt p.1 (wh p.1) = cnt (p.1 + 1) (wh p.1) + 1 := by decide
theorem cnt_apart : ∀ p : Fin 19, ∀ j : Fin 6, (shp[p.1]? ≠ some 48 ∨ j.1 ≠ wh p.1) → cnt p.1 j.1 = cnt (p.1 + 1) j.1 := by decide
theorem cnt_end : ∀ j : Fin 6, cnt 19 j.1 = 0 := by decide
/-- the bytes, and the numbers, when the places from k on have been written -/
def byteW (m : Mo) (k : Nat) : List UInt8 := (List.range 19).map fun i => if i < k then shp.getD i 0 else lngAt m i
def cellsW (m : Mo) (k : Nat) : List Value := (List.range 6).map fun j => .int .i64 (numj m j / ((10 ^ cnt k j : Nat) : Int))
theorem byteW_len (m : Mo) (k : Nat) : (byteW m k).length = 19 := by simp [byteW]
theorem byteW_get (m : Mo) (k : Nat) {i : Nat} (h : i < 19) : (byteW m k)[i]? = some (if i < k then shp.getD i 0 else lngAt m i) := by simp [byteW, h]
theorem byteW_all (m : Mo) : byteW m 19 = shp := by
  refine List.ext_getElem? fun i => ?_
  by_cases hi : i < 19
  · rw [byteW_get m 19 hi, if_pos hi, List.getD_eq_getElem?_getD, List.getElem?_eq_getElem (show i < shp.length from hi)]
    rfl
  · rw [List.getElem?_eq_none (by rw [byteW_len]; omega), List.getElem?_eq_none (by show 19 ≤ i; omega)]
theorem byteW_none (m : Mo) : byteW m 0 = long m := by simp [byteW, long]
theorem byteW_set (m : Mo) {p : Nat} (h : p < 19) : (byteW m (p + 1)).set p (lngAt m p) = byteW m p := by
  refine List.ext_getElem? fun i => ?_
  by_cases hi : i < 19
  · rw [List.getElem?_set, byteW_len, byteW_get m (p + 1) hi, byteW_get m p hi]
    by_cases e : p = i
    · subst e
      rw [if_pos rfl, if_pos hi, if_neg (Nat.lt_irrefl _)]
    · rw [if_neg e]
      by_cases h2 : i < p
      · rw [if_pos h2, if_pos (by omega)]
      · rw [if_neg h2, if_neg (by omega)]
  · rw [List.getElem?_eq_none (by rw [List.length_set, byteW_len]; omega), List.getElem?_eq_none (by rw [byteW_len]; omega)]
theorem byteW_sign (m : Mo) {p : Nat} (h : p < 19) (hs : shp.getD p 0 ≠ 48) : byteW m p = byteW m (p + 1) := by
  simp only [byteW]
  refine List.map_congr_left fun i hi => ?_
  by_cases e : i = p
  · subst e
    rw [if_neg (Nat.lt_irrefl _), if_pos (Nat.lt_succ_self _), lngAt, if_neg hs]
  · by_cases h2 : i < p
    · rw [if_pos h2, if_pos (by omega)]
    · rw [if_neg h2, if_neg (by omega)]
theorem cellsW_len (m : Mo) (k : Nat) : (cellsW m k).length = 6 := by simp [cellsW]
theorem cellsW_get (m : Mo) (k : Nat) {j : Nat} (h : j < 6) : (cellsW m k)[j]? = some (.int .i64 (numj m j / ((10 ^ cnt k j : Nat) : Int))) := by simp [cellsW, h]
theorem cellsW_all (m : Mo) : cellsW m 19 = [.int .i64 m.y, .int .i64 m.mo, .int .i64 m.d, .int .i64 m.h, .int .i64 m.mi, .int .i64 m.s] := by
  have h : cellsW m 19 = (List.range 6).map fun j => .int .i64 (numj m j) := by
    simp only [cellsW]
    refine List.map_congr_left fun j hj => ?_
    rw [cnt_end ⟨j, List.mem_range.1 hj⟩]
    simp
  rw [h]
  rfl
theorem cellsW_sign (m : Mo) {p : Nat} (h : p < 19) (hs : shp[p]? ≠ some 48) : cellsW m p = cellsW m (p + 1) := by
  simp only [cellsW]
  refine List.map_congr_left fun j hj => ?_
  rw [cnt_apart ⟨p, h⟩ ⟨j, List.mem_range.1 hj⟩ (Or.inl hs)]
theorem cellsW_set (m : Mo) {p : Nat} (h : p < 19) (hs : shp[p]? = some 48) : (cellsW m (p + 1)).set (wh p) (.int .i64 (numj m (wh p) / ((10 ^ cnt (p + 1) (wh p) : Nat) : Int) / 10)) = cellsW m p := by
  refine List.ext_getElem? fun j => ?_
  by_cases hj : j < 6
  · rw [List.getElem?_set, cellsW_len, cellsW_get m (p + 1) hj, cellsW_get m p hj]
    have := wh_le p
    by_cases e : wh p = j
    · rw [if_pos e, if_pos (by omega), ← e, (cnt_digit ⟨p, h⟩ hs).2]
      congr 2
      rw [Nat.pow_succ, Int.natCast_mul, ← Int.ediv_ediv_of_nonneg (Int.natCast_nonneg _)]
      rfl
    · rw [if_neg e, cnt_apart ⟨p, h⟩ ⟨j, hj⟩ (Or.inr (fun h => e h.symm))]
  · rw [List.getElem?_eq_none (by rw [List.length_set, cellsW_len]; omega), List.getElem?_eq_none (by rw [cellsW_len]; omega)]
theorem numj_div {m : Mo} (r : Right m) (j c : Nat) : 0 ≤ numj m j / ((10 ^ c : Nat) : Int) ∧ numj m j / ((10 ^ c : Nat) : Int) ≤ 2107 := by
  have h := numj_bd r j
  have h1 : (1 : Int) ≤ ((10 ^ c : Nat) : Int) := by have : 1 ≤ 10 ^ c := Nat.pow_pos (by omega); omega
  refine ⟨Int.ediv_nonneg h.1 (by omega), Int.le_trans (Int.ediv_le_self _ h.1) h.2⟩
/-- the digit that is written -/
theorem lngAt_is (m : Mo) {p : Nat} (h : p < 19) (hs : shp[p]? = some 48) (N : Int) (hN : numj m (wh p) / ((10 ^ cnt (p + 1) (wh p) : Nat) : Int) = N) (h0 : 0 ≤ N) : ((lngAt m p).toNat : Int) = 48 + N % 10 := by
  rw [(cnt_digit ⟨p, h⟩ hs).1] at hN
  simp only at hN
  unfold lngAt
  rw [if_pos (by rw [List.getD_eq_getElem?_getD, hs]; rfl), hN, UInt8.toNat_ofNat']
  omega
end Go.Proofs.YtmnegmebkmihhaaGreatDoor.dosnum
namespace Go.Proofs.YtmnegmebkmihhaaGreatDoor.dosp
open Go.RowKit Go.Proofs.YtmnegmebkmihhaaGreatDoor.base Go.Proofs.YtmnegmebkmihhaaGreatDoor.num Go.Proofs.YtmnegmebkmihhaaGreatDoor.bitnum Go.Proofs.YtmnegmebkmihhaaGreatDoor.dosnum
set_option linter.unusedVariables false

/-- a block that is known whole, a part of it frozen -/
def BkM (w : World) (g : Nat) (t : TypeId) (cs : List Value) (fr : Nat × Nat) : Prop := w.heap[g]? = some (.cells cs.toArray t fr)
theorem BkM.cell {w : World} {g : Nat} {t : TypeId} {cs : List Value} {fr : Nat × Nat} (h : BkM w g t cs fr) {i : Nat} {v : Value} (hv : cs[i]? = some v) : w.cell? ⟨g, i, none⟩ = some v := by
  rw [cell_of_row w g i _ t fr h, ← hv, List.getElem?_toArray]
theorem BkM.free {w : World} {g : Nat} {t : TypeId} {cs : List Value} {fr : Nat × Nat} (h : BkM w g t cs fr) {i : Nat} (hi : i < fr.1) : w.frozen? ⟨g, i, none⟩ = false := by
  have h' : w.heap[g]? = some (.cells cs.toArray t fr) := h
  simp only [World.frozen?, h']
  simp
  omega
theorem BkM.inside {w : World} {g : Nat} {t : TypeId} {cs : List Value} {fr : Nat × Nat} (h : BkM w g t cs fr) : g < w.heap.size := (Array.getElem?_eq_some_iff.1 h).1
theorem BkM.put {w : World} {g : Nat} {t : TypeId} {cs : List Value} {fr : Nat × Nat} (h : BkM w g t cs fr) (i : Nat) (u : Value) : BkM (w.setCell ⟨g, i, none⟩ u) g t (cs.set i u) fr := by
  have h' : w.heap[g]? = some (.cells cs.toArray t fr) := h
  simp [BkM, World.setCell, Array.getElem?_modify, h']
theorem BkM.apart {w : World} {g : Nat} {t : TypeId} {cs : List Value} {fr : Nat × Nat} (h : BkM w g t cs fr) {p : Addr} (hp : g ≠ p.block) (u : Value) : BkM (w.setCell p u) g t cs fr := (Below.heap_setCell w p u g hp).trans h
theorem BkM.fresh {w w' : World} {g : Nat} {t : TypeId} {cs : List Value} {fr : Nat × Nat} (h : BkM w g t cs fr) (hb : Fresh w w') : BkM w' g t cs fr := (hb.block g h.inside).trans h
theorem BkM.made (w : World) (t : TypeId) (cs : Array Value) (fr : Nat × Nat) : BkM (w.alloc (.cells cs t fr)) w.heap.size t cs.toList fr := by
  have := heap_alloc_new w (.cells cs t fr)
  simpa [BkM] using this
/-- the bytes of a row, as a string -/
theorem run_str {P : Program} (w : World) (src dst e : TypeId) (hs : P.underlying src = some (.slice e)) (he : P.underlying e = some (.int .u8)) (hd : P.underlying dst = some .string) (g c n : Nat) (bs : List UInt8) (hn : bs.length = n)
    (h : ∀ j v, bs[j]? = some v → w.cell? ⟨g, j, none⟩ = some (bv v)) : (convert src dst (.slice (some ⟨g, 0, none⟩) n c)).run P w = .ok (.string ⟨bs.toArray⟩) w := by
  subst hn
  rw [run_convert_bytes_string w src dst e _ _ _ hs he hd]
  have hl := run_loadCells_list (w := w) (P := P) ⟨g, 0, none⟩ (bs.map bv) fun j v hv => by
    rw [List.getElem?_map, Option.map_eq_some_iff] at hv
    obtain ⟨x, hx, rfl⟩ := hv
    have := h j x hx
    have hadd : (⟨g, 0, none⟩ : Addr).add j = ⟨g, 0 + j, none⟩ := by unfold Addr.add; split <;> simp_all
    rw [hadd, Nat.zero_add]
    exact this
  rw [List.length_map] at hl
  have e1 : bs.map bv = (bs.map fun x => (x.toNat : Int)).map (Value.int .u8) := by simp [Function.comp_def]
  rw [e1] at hl
  rw [run_bytesToString w ⟨g, 0, none⟩ bs.length c _ hl]
  congr 2
  have key : ∀ (l : List UInt8) (r : ByteArray), ((l.map fun x => (x.toNat : Int)).foldl (fun r n => r.push (UInt8.ofNat n.toNat)) r) = ⟨r.data ++ l.toArray⟩ := by
    intro l
    induction l with
    | nil => intro r; simp
    | cons x l ih =>
      intro r
      simp only [List.map_cons, List.foldl_cons]
      rw [ih]
      simp [ByteArray.push]
  rw [key]
  simp [ByteArray.empty, ByteArray.emptyWithCapacity]
  rfl
end Go.Proofs.YtmnegmebkmihhaaGreatDoor.dosp
/-
  The contract of read: a text as six numbers. My own text.
-/
namespace Go.Proofs.YtmnegmebkmihhaaGreatDoor.dosp
open Go.RowKit Go.Proofs.YtmnegmebkmihhaaGreatDoor.base Go.Proofs.YtmnegmebkmihhaaGreatDoor.num Go.Proofs.YtmnegmebkmihhaaGreatDoor.bitnum Go.Proofs.YtmnegmebkmihhaaGreatDoor.dosnum
set_option linter.unusedVariables false

def cellsN (t : List UInt8) (k : Nat) : List Value := (List.range 6).map fun j => .int .i64 (nums t k j)

theorem cellsN_len (t : List UInt8) (k : Nat) : (cellsN t k).length = 6 := by simp [cellsN]
theorem cellsN_get (t : List UInt8) (k : Nat) {j : Nat} (h : j < 6) : (cellsN t k)[j]? = some (.int .i64 (nums t k j)) := by simp [cellsN, h]
theorem cellsN_zero (t : List UInt8) : cellsN t 0 = momL zero := by
  simp only [cellsN, nums_zero]
  rfl
theorem cellsN_sign {t : List UInt8} {k : Nat} (hk : k < 19) (hs : shp[k]? ≠ some 48) : cellsN t (k + 1) = cellsN t k := by
  simp only [cellsN]
  refine List.map_congr_left fun j hj => ?_
  rw [nums_sign hk hs j (List.mem_range.1 hj)]
theorem cellsN_digit {t : List UInt8} {k : Nat} (hk : k < 19) {c : UInt8} (hc : t[k]? = some c) (hs : shp[k]? = some 48) :
    (cellsN t k).set (wh k) (.int .i64 (nums t k (wh k) * 10 + ((c.toNat : Int) - 48))) = cellsN t (k + 1) := by
  refine List.ext_getElem? fun j => ?_
  by_cases hj : j < 6
  · rw [List.getElem?_set, cellsN_len, cellsN_get t k hj, cellsN_get t (k + 1) hj, nums_digit hk hc hs j hj]
    have := wh_le k
    by_cases e : wh k = j
    · rw [if_pos e, if_pos (by omega), if_pos e.symm, e]
    · rw [if_neg e, if_neg (fun h => e h.symm)]
  · rw [List.getElem?_eq_none (by rw [List.length_set, cellsN_len]; omega), List.getElem?_eq_none (by rw [cellsN_len]; omega)]

end Go.Proofs.YtmnegmebkmihhaaGreatDoor.dosp
/-
  The reference of layer 8: two, Parts, Text, number, days, Number, Parse. My own text.
-/
namespace Go.Proofs.YtmnegmebkmihhaaGreatDoor.dosp
open Go.RowKit Go.Proofs.YtmnegmebkmihhaaGreatDoor.base Go.Proofs.YtmnegmebkmihhaaGreatDoor.num Go.Proofs.YtmnegmebkmihhaaGreatDoor.bitnum Go.Proofs.YtmnegmebkmihhaaGreatDoor.dosnum
set_option linter.unusedVariables false

def dg (n : Int) : UInt8 := UInt8.ofNat (48 + n.toNat)
/-- a row of six ints that is a moment -/
abbrev MomI (w : World) (g : Nat) (m : Mo) : Prop := Bk w g 3 (momL m)
theorem digit_at (k : Int) (h0 : 0 ≤ k) (h1 : k ≤ 9) (W : World) :
    (Instr.slice 9 (.string ⟨#[48, 49, 50, 51, 52, 53, 54, 55, 56, 57]⟩) (some (.int .i64 k)) (some (.int .i64 (k + 1))) none).run Tryz.prog W = .ok (.string ⟨#[dg k]⟩) W := by
  rw [run_slice_string (w := W) (P := Tryz.prog) 9 ⟨#[48, 49, 50, 51, 52, 53, 54, 55, 56, 57]⟩ .i64 .i64 k (k + 1) Tryz.underlying9 (by omega) (by omega) (by show k + 1 ≤ 10; omega)]
  have h : ∀ j : Fin 10, (⟨#[48, 49, 50, 51, 52, 53, 54, 55, 56, 57]⟩ : ByteArray).extract j.1 (j.1 + 1) = ⟨#[UInt8.ofNat (48 + j.1)]⟩ := by decide
  obtain ⟨j, rfl⟩ := Int.eq_ofNat_of_zero_le h0
  have h2 := h ⟨j, by omega⟩
  have e : ((j : Int) + 1).toNat = j + 1 := by omega
  simp only [Int.toNat_natCast, e, dg]
  simp only at h2
  rw [h2]
/-- what has no sign is told by floor and rest -/
theorem parts_any (n : Int) (h0 : 0 ≤ n) (h1 : n ≤ 4294967295) (w : World) : Calls Tryz.prog 28 #[.int .i64 n] w fun e w' => ∃ g, e = .returned (.slice (some ⟨g, 0, none⟩) 6 6) ∧ MomI w' g (parts n) ∧ Fresh w w' ∧ w.heap.size ≤ g := by
  have hm := Bk.made w 3 (momL (parts n)).toArray
  have HM := Lib.hid hm
  clear hm
  go_enter Tryz.func28, Tryz.ntmps28
  go_wp2
  go_ret
  exact ⟨_, rfl, HM.out, Fresh.alloc _ _, Nat.le_refl _⟩
set_option maxHeartbeats 4000000 in
theorem days_ref (y m : Int) (h1 : 1980 ≤ y) (h2 : y ≤ 2107) (h3 : 1 ≤ m) (h4 : m ≤ 12) (w : World) : Calls Tryz.prog 58 #[.int .i64 y, .int .i64 m] w fun e w' => e = .returned (.int .i64 (days y m)) ∧ Fresh w w' := by
  have hm : m = 1 ∨ m = 2 ∨ m = 3 ∨ m = 4 ∨ m = 5 ∨ m = 6 ∨ m = 7 ∨ m = 8 ∨ m = 9 ∨ m = 10 ∨ m = 11 ∨ m = 12 := by omega
  clear h3 h4
  rcases hm with rfl | rfl | rfl | rfl | rfl | rfl | rfl | rfl | rfl | rfl | rfl | rfl
  all_goals
    go_enter Tryz.func58, Tryz.ntmps58
    go_wp2
    all_goals go_ret
    all_goals
      refine ⟨ret_i64 ?_, Fresh.alloc _ _⟩
      simp_all [days, leap]
end Go.Proofs.YtmnegmebkmihhaaGreatDoor.dosp
/-
  The reference of layer 8: Number, number. My own text.
-/
namespace Go.Proofs.YtmnegmebkmihhaaGreatDoor.dosp
open Go.RowKit Go.Proofs.YtmnegmebkmihhaaGreatDoor.base Go.Proofs.YtmnegmebkmihhaaGreatDoor.num Go.Proofs.YtmnegmebkmihhaaGreatDoor.bitnum Go.Proofs.YtmnegmebkmihhaaGreatDoor.dosnum
set_option linter.unusedVariables false

/-- a moment's number, or -1 -/
def numI (m : Mo) : Int := if Right m then no m else -1
set_option maxHeartbeats 8000000 in
theorem number_ok (A : Option Addr) (c : Nat) (m : Mo) (B : Nat) (w : World) (h : Rd w B A 6 (momL m)) (hB : B ≤ w.heap.size) (r : Right m) :
    Calls Tryz.prog 27 #[.slice A 6 c] w fun e w' => e = .returned (.int .i64 (numI m)) ∧ Fresh w w' := by
  obtain ⟨b, off, rfl, hb, hc⟩ := h.2 (by omega)
  have c0 := hc 0 _ rfl
  have c1 := hc 1 _ rfl
  have c2 := hc 2 _ rfl
  have c3 := hc 3 _ rfl
  have c4 := hc 4 _ rfl
  have c5 := hc 5 _ rfl
  have HC := Lib.hid hc
  have HR := Lib.hid r
  have hbd := no_bd r
  have hdd := days_bd m.y m.mo
  obtain ⟨y1, y2, mo1, mo2, d1, d2, h1, h2, mi1, mi2, s1, s2⟩ := r
  have d3 : m.d ≤ 31 := by omega
  obtain ⟨D, hD⟩ : ∃ D, days m.y m.mo = D := ⟨_, rfl⟩
  rw [hD] at d2
  have HD := Lib.hid hD
  have HBD := Lib.hid hbd
  have HH := Lib.hid h
  clear hc h hdd hD hbd
  go_enter Tryz.func27, Tryz.ntmps27
  have hk1 : w.drew.cell? ⟨b, off + 0, none⟩ = some (.int .i64 m.y) ∧ w.drew.cell? ⟨b, off + 1, none⟩ = some (.int .i64 m.mo) ∧ w.drew.cell? ⟨b, off + 2, none⟩ = some (.int .i64 m.d) := ⟨c0, c1, c2⟩
  rw [Nat.add_zero] at c0 hk1
  have t1 : decide (m.y < 1980) = false := by rw [decide_eq_false_iff_not]; omega
  have t2 : decide (2107 < m.y) = false := by rw [decide_eq_false_iff_not]; omega
  have t3 : decide (m.mo < 1) = false := by rw [decide_eq_false_iff_not]; omega
  have t4 : decide (12 < m.mo) = false := by rw [decide_eq_false_iff_not]; omega
  have t5 : decide (m.d < 1) = false := by rw [decide_eq_false_iff_not]; omega
  have t6 : decide (D < m.d) = false := by rw [decide_eq_false_iff_not]; omega
  go_wp2
  go_region_held3 (fun w' => w'.cell? ⟨b, off, none⟩ = some (.int .i64 m.y) ∧ w'.cell? ⟨b, off + 1, none⟩ = some (.int .i64 m.mo) ∧ w'.cell? ⟨b, off + 2, none⟩ = some (.int .i64 m.d))
    (first | exact hk1 | exact HK2.out)
    (first | (go_at_call 58; (refine (days_ref _ _ y1 y2 mo1 mo2 _).mono ?_); rintro e w1 ⟨rfl, hf1⟩; rw [HD.out]; have HK2 := Lib.hid (show w1.cell? ⟨b, off, none⟩ = some (.int .i64 m.y) ∧ w1.cell? ⟨b, off + 1, none⟩ = some (.int .i64 m.mo) ∧ w1.cell? ⟨b, off + 2, none⟩ = some (.int .i64 m.d) from ⟨(World.cell?_of_block (hf1.block b (by show b < w.heap.size; omega))).trans c0, (World.cell?_of_block (hf1.block b (by show b < w.heap.size; omega))).trans c1, (World.cell?_of_block (hf1.block b (by show b < w.heap.size; omega))).trans c2⟩); have HF1 := Lib.hid ((Fresh.drew w).trans hf1); clear hf1))
  obtain ⟨k0, k1, k2⟩ := HK2.out
  have k3 := (World.cell?_of_block (a := ⟨b, off + 3, none⟩) (HF1.out.block b (by omega))).trans c3
  have k4 := (World.cell?_of_block (a := ⟨b, off + 4, none⟩) (HF1.out.block b (by omega))).trans c4
  have k5 := (World.cell?_of_block (a := ⟨b, off + 5, none⟩) (HF1.out.block b (by omega))).trans c5
  rename_i hj
  clear hj hk1 c0 c1 c2 c3 c4 c5 t1 t2 t3 t4 t5 t6
  have u1 : decide (m.h < 0) = false := by rw [decide_eq_false_iff_not]; omega
  have u2 : decide (23 < m.h) = false := by rw [decide_eq_false_iff_not]; omega
  have u3 : decide (m.mi < 0) = false := by rw [decide_eq_false_iff_not]; omega
  have u4 : decide (59 < m.mi) = false := by rw [decide_eq_false_iff_not]; omega
  have u5 : decide (m.s < 0) = false := by rw [decide_eq_false_iff_not]; omega
  have u6 : decide (59 < m.s) = false := by rw [decide_eq_false_iff_not]; omega
  go_wp2
  go_quiet (fail)
  go_wp2
  go_quiet (fail)
  go_wp2
  go_ret
  refine ⟨ret_i64 ?_, (HF1.out.trans (Fresh.drewN _ _)).trans (Fresh.drewN _ _)⟩
  rw [numI, if_pos HR.out, no]
end Go.Proofs.YtmnegmebkmihhaaGreatDoor.dosp
/-
  The reference of layer 8: Number of what is no moment. My own text.
-/
namespace Go.Proofs.YtmnegmebkmihhaaGreatDoor.dosp
open Go.RowKit Go.Proofs.YtmnegmebkmihhaaGreatDoor.base Go.Proofs.YtmnegmebkmihhaaGreatDoor.num Go.Proofs.YtmnegmebkmihhaaGreatDoor.bitnum Go.Proofs.YtmnegmebkmihhaaGreatDoor.dosnum
set_option linter.unusedVariables false

set_option maxHeartbeats 40000000 in
theorem number_bad (A : Option Addr) (c : Nat) (m : Mo) (B : Nat) (w : World) (h : Rd w B A 6 (momL m)) (hB : B ≤ w.heap.size) (r : ¬ Right m) :
    Calls Tryz.prog 27 #[.slice A 6 c] w fun e w' => e = .returned (.int .i64 (numI m)) ∧ Fresh w w' := by
  obtain ⟨b, off, rfl, hb, hc⟩ := h.2 (by omega)
  have c0 := hc 0 _ rfl
  have c1 := hc 1 _ rfl
  have c2 := hc 2 _ rfl
  have c3 := hc 3 _ rfl
  have c4 := hc 4 _ rfl
  have c5 := hc 5 _ rfl
  have hnum : numI m = -1 := by rw [numI, if_neg r]
  rw [hnum]
  obtain ⟨D, hD⟩ : ∃ D, days m.y m.mo = D := ⟨_, rfl⟩
  have hk1 : w.drew.cell? ⟨b, off + 0, none⟩ = some (.int .i64 m.y) ∧ w.drew.cell? ⟨b, off + 1, none⟩ = some (.int .i64 m.mo) ∧ w.drew.cell? ⟨b, off + 2, none⟩ = some (.int .i64 m.d) := ⟨c0, c1, c2⟩
  rw [Nat.add_zero] at c0 hk1
  have HR := Lib.hid r
  have HD := Lib.hid hD
  clear hc h r hnum hD
  cases t1 : decide (m.y < 1980)
  case true =>
    go_enter Tryz.func27, Tryz.ntmps27
    go_wp2
    go_quiet (fail)
    go_wp2
    go_ret
    exact ⟨rfl, Fresh.drewN _ _⟩
  have y1 := Lib.hid (show 1980 ≤ m.y by have := of_decide_eq_false t1; omega)
  cases t2 : decide (2107 < m.y)
  case true =>
    go_enter Tryz.func27, Tryz.ntmps27
    go_wp2
    go_quiet (fail)
    go_wp2
    go_ret
    exact ⟨rfl, Fresh.drewN _ _⟩
  have y2 := Lib.hid (show m.y ≤ 2107 by have := of_decide_eq_false t2; omega)
  cases t3 : decide (m.mo < 1)
  case true =>
    go_enter Tryz.func27, Tryz.ntmps27
    go_wp2
    go_quiet (fail)
    go_wp2
    go_ret
    exact ⟨rfl, Fresh.drewN _ _⟩
  have mo1 := Lib.hid (show 1 ≤ m.mo by have := of_decide_eq_false t3; omega)
  cases t4 : decide (12 < m.mo)
  case true =>
    go_enter Tryz.func27, Tryz.ntmps27
    go_wp2
    go_quiet (fail)
    go_wp2
    go_ret
    exact ⟨rfl, Fresh.drewN _ _⟩
  have mo2 := Lib.hid (show m.mo ≤ 12 by have := of_decide_eq_false t4; omega)
  cases t5 : decide (m.d < 1)
  case true =>
    go_enter Tryz.func27, Tryz.ntmps27
    go_wp2
    go_quiet (fail)
    go_wp2
    go_ret
    exact ⟨rfl, Fresh.drewN _ _⟩
  cases t6 : decide (D < m.d)
  case true =>
    have HF1 := Lib.hid (Fresh.drew w)
    have HK2 := Lib.hid hk1
    go_enter Tryz.func27, Tryz.ntmps27
    go_wp2
    go_region_held3 (fun w' => w'.cell? ⟨b, off, none⟩ = some (.int .i64 m.y) ∧ w'.cell? ⟨b, off + 1, none⟩ = some (.int .i64 m.mo) ∧ w'.cell? ⟨b, off + 2, none⟩ = some (.int .i64 m.d))
      (first | exact hk1 | exact HK2.out)
      (first | (go_at_call 58; (refine (days_ref _ _ y1.out y2.out mo1.out mo2.out _).mono ?_); rintro e w1 ⟨rfl, hf1⟩; rw [HD.out]; have HK2 := Lib.hid (show w1.cell? ⟨b, off, none⟩ = some (.int .i64 m.y) ∧ w1.cell? ⟨b, off + 1, none⟩ = some (.int .i64 m.mo) ∧ w1.cell? ⟨b, off + 2, none⟩ = some (.int .i64 m.d) from ⟨(World.cell?_of_block (hf1.block b (by show b < w.heap.size; omega))).trans c0, (World.cell?_of_block (hf1.block b (by show b < w.heap.size; omega))).trans c1, (World.cell?_of_block (hf1.block b (by show b < w.heap.size; omega))).trans c2⟩); have HF1 := Lib.hid ((Fresh.drew w).trans hf1); clear hf1))
    go_wp2
    go_ret
    exact ⟨rfl, HF1.out⟩
  cases t7 : decide (m.h < 0)
  case true =>
    have HF1 := Lib.hid (Fresh.drew w)
    have HK2 := Lib.hid hk1
    go_enter Tryz.func27, Tryz.ntmps27
    go_wp2
    go_region_held3 (fun w' => w'.cell? ⟨b, off, none⟩ = some (.int .i64 m.y) ∧ w'.cell? ⟨b, off + 1, none⟩ = some (.int .i64 m.mo) ∧ w'.cell? ⟨b, off + 2, none⟩ = some (.int .i64 m.d))
      (first | exact hk1 | exact HK2.out)
      (first | (go_at_call 58; (refine (days_ref _ _ y1.out y2.out mo1.out mo2.out _).mono ?_); rintro e w1 ⟨rfl, hf1⟩; rw [HD.out]; have HK2 := Lib.hid (show w1.cell? ⟨b, off, none⟩ = some (.int .i64 m.y) ∧ w1.cell? ⟨b, off + 1, none⟩ = some (.int .i64 m.mo) ∧ w1.cell? ⟨b, off + 2, none⟩ = some (.int .i64 m.d) from ⟨(World.cell?_of_block (hf1.block b (by show b < w.heap.size; omega))).trans c0, (World.cell?_of_block (hf1.block b (by show b < w.heap.size; omega))).trans c1, (World.cell?_of_block (hf1.block b (by show b < w.heap.size; omega))).trans c2⟩); have HF1 := Lib.hid ((Fresh.drew w).trans hf1); clear hf1))
    have k3 := (World.cell?_of_block (a := ⟨b, off + 3, none⟩) (HF1.out.block b (by omega))).trans c3
    have k4 := (World.cell?_of_block (a := ⟨b, off + 4, none⟩) (HF1.out.block b (by omega))).trans c4
    have k5 := (World.cell?_of_block (a := ⟨b, off + 5, none⟩) (HF1.out.block b (by omega))).trans c5
    go_wp2
    go_ret
    exact ⟨rfl, HF1.out⟩
  cases t8 : decide (23 < m.h)
  case true =>
    have HF1 := Lib.hid (Fresh.drew w)
    have HK2 := Lib.hid hk1
    go_enter Tryz.func27, Tryz.ntmps27
    go_wp2
    go_region_held3 (fun w' => w'.cell? ⟨b, off, none⟩ = some (.int .i64 m.y) ∧ w'.cell? ⟨b, off + 1, none⟩ = some (.int .i64 m.mo) ∧ w'.cell? ⟨b, off + 2, none⟩ = some (.int .i64 m.d))
      (first | exact hk1 | exact HK2.out)
      (first | (go_at_call 58; (refine (days_ref _ _ y1.out y2.out mo1.out mo2.out _).mono ?_); rintro e w1 ⟨rfl, hf1⟩; rw [HD.out]; have HK2 := Lib.hid (show w1.cell? ⟨b, off, none⟩ = some (.int .i64 m.y) ∧ w1.cell? ⟨b, off + 1, none⟩ = some (.int .i64 m.mo) ∧ w1.cell? ⟨b, off + 2, none⟩ = some (.int .i64 m.d) from ⟨(World.cell?_of_block (hf1.block b (by show b < w.heap.size; omega))).trans c0, (World.cell?_of_block (hf1.block b (by show b < w.heap.size; omega))).trans c1, (World.cell?_of_block (hf1.block b (by show b < w.heap.size; omega))).trans c2⟩); have HF1 := Lib.hid ((Fresh.drew w).trans hf1); clear hf1))
    have k3 := (World.cell?_of_block (a := ⟨b, off + 3, none⟩) (HF1.out.block b (by omega))).trans c3
    have k4 := (World.cell?_of_block (a := ⟨b, off + 4, none⟩) (HF1.out.block b (by omega))).trans c4
    have k5 := (World.cell?_of_block (a := ⟨b, off + 5, none⟩) (HF1.out.block b (by omega))).trans c5
    go_wp2
    go_ret
    exact ⟨rfl, HF1.out⟩
  cases t9 : decide (m.mi < 0)
  case true =>
    have HF1 := Lib.hid (Fresh.drew w)
    have HK2 := Lib.hid hk1
    go_enter Tryz.func27, Tryz.ntmps27
    go_wp2
    go_region_held3 (fun w' => w'.cell? ⟨b, off, none⟩ = some (.int .i64 m.y) ∧ w'.cell? ⟨b, off + 1, none⟩ = some (.int .i64 m.mo) ∧ w'.cell? ⟨b, off + 2, none⟩ = some (.int .i64 m.d))
      (first | exact hk1 | exact HK2.out)
      (first | (go_at_call 58; (refine (days_ref _ _ y1.out y2.out mo1.out mo2.out _).mono ?_); rintro e w1 ⟨rfl, hf1⟩; rw [HD.out]; have HK2 := Lib.hid (show w1.cell? ⟨b, off, none⟩ = some (.int .i64 m.y) ∧ w1.cell? ⟨b, off + 1, none⟩ = some (.int .i64 m.mo) ∧ w1.cell? ⟨b, off + 2, none⟩ = some (.int .i64 m.d) from ⟨(World.cell?_of_block (hf1.block b (by show b < w.heap.size; omega))).trans c0, (World.cell?_of_block (hf1.block b (by show b < w.heap.size; omega))).trans c1, (World.cell?_of_block (hf1.block b (by show b < w.heap.size; omega))).trans c2⟩); have HF1 := Lib.hid ((Fresh.drew w).trans hf1); clear hf1))
    have k3 := (World.cell?_of_block (a := ⟨b, off + 3, none⟩) (HF1.out.block b (by omega))).trans c3
    have k4 := (World.cell?_of_block (a := ⟨b, off + 4, none⟩) (HF1.out.block b (by omega))).trans c4
    have k5 := (World.cell?_of_block (a := ⟨b, off + 5, none⟩) (HF1.out.block b (by omega))).trans c5
    go_wp2
    go_ret
    exact ⟨rfl, HF1.out⟩
  cases t10 : decide (59 < m.mi)
  case true =>
    have HF1 := Lib.hid (Fresh.drew w)
    have HK2 := Lib.hid hk1
    go_enter Tryz.func27, Tryz.ntmps27
    go_wp2
    go_region_held3 (fun w' => w'.cell? ⟨b, off, none⟩ = some (.int .i64 m.y) ∧ w'.cell? ⟨b, off + 1, none⟩ = some (.int .i64 m.mo) ∧ w'.cell? ⟨b, off + 2, none⟩ = some (.int .i64 m.d))
      (first | exact hk1 | exact HK2.out)
      (first | (go_at_call 58; (refine (days_ref _ _ y1.out y2.out mo1.out mo2.out _).mono ?_); rintro e w1 ⟨rfl, hf1⟩; rw [HD.out]; have HK2 := Lib.hid (show w1.cell? ⟨b, off, none⟩ = some (.int .i64 m.y) ∧ w1.cell? ⟨b, off + 1, none⟩ = some (.int .i64 m.mo) ∧ w1.cell? ⟨b, off + 2, none⟩ = some (.int .i64 m.d) from ⟨(World.cell?_of_block (hf1.block b (by show b < w.heap.size; omega))).trans c0, (World.cell?_of_block (hf1.block b (by show b < w.heap.size; omega))).trans c1, (World.cell?_of_block (hf1.block b (by show b < w.heap.size; omega))).trans c2⟩); have HF1 := Lib.hid ((Fresh.drew w).trans hf1); clear hf1))
    have k3 := (World.cell?_of_block (a := ⟨b, off + 3, none⟩) (HF1.out.block b (by omega))).trans c3
    have k4 := (World.cell?_of_block (a := ⟨b, off + 4, none⟩) (HF1.out.block b (by omega))).trans c4
    have k5 := (World.cell?_of_block (a := ⟨b, off + 5, none⟩) (HF1.out.block b (by omega))).trans c5
    go_wp2
    go_ret
    exact ⟨rfl, HF1.out⟩
  cases t11 : decide (m.s < 0)
  case true =>
    have HF1 := Lib.hid (Fresh.drew w)
    have HK2 := Lib.hid hk1
    go_enter Tryz.func27, Tryz.ntmps27
    go_wp2
    go_region_held3 (fun w' => w'.cell? ⟨b, off, none⟩ = some (.int .i64 m.y) ∧ w'.cell? ⟨b, off + 1, none⟩ = some (.int .i64 m.mo) ∧ w'.cell? ⟨b, off + 2, none⟩ = some (.int .i64 m.d))
      (first | exact hk1 | exact HK2.out)
      (first | (go_at_call 58; (refine (days_ref _ _ y1.out y2.out mo1.out mo2.out _).mono ?_); rintro e w1 ⟨rfl, hf1⟩; rw [HD.out]; have HK2 := Lib.hid (show w1.cell? ⟨b, off, none⟩ = some (.int .i64 m.y) ∧ w1.cell? ⟨b, off + 1, none⟩ = some (.int .i64 m.mo) ∧ w1.cell? ⟨b, off + 2, none⟩ = some (.int .i64 m.d) from ⟨(World.cell?_of_block (hf1.block b (by show b < w.heap.size; omega))).trans c0, (World.cell?_of_block (hf1.block b (by show b < w.heap.size; omega))).trans c1, (World.cell?_of_block (hf1.block b (by show b < w.heap.size; omega))).trans c2⟩); have HF1 := Lib.hid ((Fresh.drew w).trans hf1); clear hf1))
    have k3 := (World.cell?_of_block (a := ⟨b, off + 3, none⟩) (HF1.out.block b (by omega))).trans c3
    have k4 := (World.cell?_of_block (a := ⟨b, off + 4, none⟩) (HF1.out.block b (by omega))).trans c4
    have k5 := (World.cell?_of_block (a := ⟨b, off + 5, none⟩) (HF1.out.block b (by omega))).trans c5
    go_wp2
    go_ret
    exact ⟨rfl, HF1.out⟩
  cases t12 : decide (59 < m.s)
  case true =>
    have HF1 := Lib.hid (Fresh.drew w)
    have HK2 := Lib.hid hk1
    go_enter Tryz.func27, Tryz.ntmps27
    go_wp2
    go_region_held3 (fun w' => w'.cell? ⟨b, off, none⟩ = some (.int .i64 m.y) ∧ w'.cell? ⟨b, off + 1, none⟩ = some (.int .i64 m.mo) ∧ w'.cell? ⟨b, off + 2, none⟩ = some (.int .i64 m.d))
      (first | exact hk1 | exact HK2.out)
      (first | (go_at_call 58; (refine (days_ref _ _ y1.out y2.out mo1.out mo2.out _).mono ?_); rintro e w1 ⟨rfl, hf1⟩; rw [HD.out]; have HK2 := Lib.hid (show w1.cell? ⟨b, off, none⟩ = some (.int .i64 m.y) ∧ w1.cell? ⟨b, off + 1, none⟩ = some (.int .i64 m.mo) ∧ w1.cell? ⟨b, off + 2, none⟩ = some (.int .i64 m.d) from ⟨(World.cell?_of_block (hf1.block b (by show b < w.heap.size; omega))).trans c0, (World.cell?_of_block (hf1.block b (by show b < w.heap.size; omega))).trans c1, (World.cell?_of_block (hf1.block b (by show b < w.heap.size; omega))).trans c2⟩); have HF1 := Lib.hid ((Fresh.drew w).trans hf1); clear hf1))
    have k3 := (World.cell?_of_block (a := ⟨b, off + 3, none⟩) (HF1.out.block b (by omega))).trans c3
    have k4 := (World.cell?_of_block (a := ⟨b, off + 4, none⟩) (HF1.out.block b (by omega))).trans c4
    have k5 := (World.cell?_of_block (a := ⟨b, off + 5, none⟩) (HF1.out.block b (by omega))).trans c5
    go_wp2
    go_ret
    exact ⟨rfl, HF1.out⟩
  exact absurd ⟨y1.out, y2.out, mo1.out, mo2.out, by have := of_decide_eq_false t5; omega, by have := of_decide_eq_false t6; have := HD.out; omega, by have := of_decide_eq_false t7; omega, by have := of_decide_eq_false t8; omega, by have := of_decide_eq_false t9; omega, by have := of_decide_eq_false t10; omega, by have := of_decide_eq_false t11; omega, by have := of_decide_eq_false t12; omega⟩ HR.out
theorem number_any (A : Option Addr) (c : Nat) (m : Mo) (B : Nat) (w : World) (h : Rd w B A 6 (momL m)) (hB : B ≤ w.heap.size) :
    Calls Tryz.prog 27 #[.slice A 6 c] w fun e w' => e = .returned (.int .i64 (numI m)) ∧ Fresh w w' := by
  by_cases r : Right m
  · exact number_ok A c m B w h hB r
  · exact number_bad A c m B w h hB r
end Go.Proofs.YtmnegmebkmihhaaGreatDoor.dosp
