/-
  The texts of moments: plain mathematics, over no program. My own text.
-/
import Derived.Test.YtgmpdkkpmgedjaaDosNum
namespace Go.Proofs.Ytgmpdkkpmgedjaa.dosnum
open Go.Proofs.Ytgmpdkkpmgedjaa.num Go.Proofs.Ytgmpdkkpmgedjaa.bitnum
set_option linter.unusedVariables false

/-- how a moment is written: digits stand where there is a 48 -/
def shp : List UInt8 := [48, 48, 48, 48, 45, 48, 48, 45, 48, 48, 32, 48, 48, 58, 48, 48, 58, 48, 48]
/-- where the six numbers begin, how many digits they have, and which one a place belongs to (a sign: to the one ahead) -/
def st : Nat → Nat
  | 0 => 0 | 1 => 5 | 2 => 8 | 3 => 11 | 4 => 14 | _ => 17
def ln : Nat → Nat
  | 0 => 4 | _ => 2
def wh (k : Nat) : Nat := (if 4 < k then 1 else 0) + (if 7 < k then 1 else 0) + (if 10 < k then 1 else 0) + (if 13 < k then 1 else 0) + (if 16 < k then 1 else 0)
theorem wh_le (k : Nat) : wh k ≤ 5 := by unfold wh; (repeat' split) <;> omega
theorem wh_sign : ∀ k : Fin 19, ∀ x, shp[k.1]? = some x → x ≠ 48 → wh (k.1 + 1) = wh k.1 + 1 ∧ wh k.1 < 5 := by decide
theorem wh_digit : ∀ k : Fin 19, shp[k.1]? = some 48 → wh (k.1 + 1) = wh k.1 ∧ st (wh k.1) ≤ k.1 ∧ k.1 < st (wh k.1) + ln (wh k.1) := by decide
theorem seg_apart : ∀ k : Fin 19, ∀ j : Fin 6, (shp[k.1]? ≠ some 48 ∨ j.1 ≠ wh k.1) → (k.1 < st j.1 ∨ st j.1 + ln j.1 ≤ k.1) := by decide

/-- the bytes of t from s on, l of them, as far as the first k go -/
def seg {α : Type} (t : List α) (k s l : Nat) : List α := ((t.take k).drop s).take l
theorem seg_in {α : Type} {t : List α} {k s l : Nat} {x : α} (hx : t[k]? = some x) (h1 : s ≤ k) (h2 : k < s + l) : seg t (k + 1) s l = seg t k s l ++ [x] := by
  have hk : k < t.length := (List.getElem?_eq_some_iff.1 hx).1
  unfold seg
  rw [take_snoc t k x hx, List.drop_append_of_le_length (by rw [List.length_take]; omega), List.take_append, List.take_of_length_le (l := [x]) (by simp; omega)]
theorem seg_out {α : Type} {t : List α} {k s l : Nat} (h : k < s ∨ s + l ≤ k) : seg t (k + 1) s l = seg t k s l := by
  unfold seg
  rw [List.take_drop, List.take_drop, List.take_take, List.take_take]
  rcases h with h | h
  · rw [List.drop_eq_nil_of_le (by rw [List.length_take]; omega), List.drop_eq_nil_of_le (by rw [List.length_take]; omega)]
  · rw [show min (s + l) (k + 1) = min (s + l) k by omega]
theorem seg_zero {α : Type} (t : List α) (s l : Nat) : seg t 0 s l = [] := by simp [seg]

/-- digits as a number -/
def acc (l : List UInt8) : Int := l.foldl (fun v c => v * 10 + ((c.toNat : Int) - 48)) 0
theorem acc_snoc (l : List UInt8) (c : UInt8) : acc (l ++ [c]) = acc l * 10 + ((c.toNat : Int) - 48) := by simp [acc]
/-- the six numbers as far as the first k bytes go -/
def nums (t : List UInt8) (k j : Nat) : Int := acc (seg t k (st j) (ln j))
theorem nums_zero (t : List UInt8) (j : Nat) : nums t 0 j = 0 := by simp [nums, seg_zero, acc]
/-- a byte is as the shp has it -/
def fits (s c : UInt8) : Bool := if s = 48 then decide (48 ≤ c) && decide (c ≤ 57) else decide (c = s)
def digit (c : UInt8) : Bool := decide (48 ≤ c) && decide (c ≤ 57)
theorem nums_digit {t : List UInt8} {k : Nat} (hk : k < 19) {c : UInt8} (hc : t[k]? = some c) (hs : shp[k]? = some 48) (j : Nat) (hj : j < 6) :
    nums t (k + 1) j = if j = wh k then nums t k j * 10 + ((c.toNat : Int) - 48) else nums t k j := by
  split
  · subst j
    have h := wh_digit ⟨k, hk⟩ hs
    rw [nums, seg_in hc h.2.1 h.2.2, acc_snoc]
    rfl
  · rw [nums, seg_out (seg_apart ⟨k, hk⟩ ⟨j, hj⟩ (Or.inr (by assumption)))]
    rfl
theorem nums_sign {t : List UInt8} {k : Nat} (hk : k < 19) (hs : shp[k]? ≠ some 48) (j : Nat) (hj : j < 6) : nums t (k + 1) j = nums t k j := by
  rw [nums, seg_out (seg_apart ⟨k, hk⟩ ⟨j, hj⟩ (Or.inl hs))]
  rfl
/-- digits are few: the number is small -/
theorem acc_bd_rev : ∀ (l : List UInt8), (∀ c ∈ l, digit c = true) → 0 ≤ acc l.reverse ∧ acc l.reverse < 10 ^ l.length
  | [], _ => by simp [acc]
  | c :: l, h => by
    have hi := acc_bd_rev l fun x hx => h x (List.mem_cons_of_mem _ hx)
    have hc := h c (List.mem_cons_self ..)
    simp only [digit, Bool.and_eq_true, decide_eq_true_eq, UInt8.le_iff_toNat_le] at hc
    rw [List.reverse_cons, acc_snoc, List.length_cons, Int.pow_succ]
    simp at hc
    omega
theorem acc_bd (l : List UInt8) (h : ∀ c ∈ l, digit c = true) : 0 ≤ acc l ∧ acc l < 10 ^ l.length := by
  have := acc_bd_rev l.reverse fun c hc => h c (List.mem_reverse.1 hc)
  rwa [List.reverse_reverse, List.length_reverse] at this
/-- all bytes are as the shp has them -/
def fitsB : List UInt8 → List UInt8 → Bool
  | s :: ss, c :: cs => fits s c && fitsB ss cs
  | _, _ => true
def fitsTo (sh t : List UInt8) (k : Nat) : Prop := ∀ i c s, i < k → t[i]? = some c → sh[i]? = some s → fits s c = true
theorem fitsB_iff : ∀ (sh t : List UInt8), fitsB sh t = true ↔ fitsTo sh t t.length
  | [], t => ⟨fun _ i c s _ _ h => by simp at h, fun _ => by cases t <;> rfl⟩
  | s :: ss, [] => ⟨fun _ i c s _ h => by simp at h, fun _ => rfl⟩
  | s :: ss, c :: cs => by
    rw [fitsB, Bool.and_eq_true, fitsB_iff ss cs]
    constructor
    · rintro ⟨h1, h2⟩ i c' s' hi hc hs
      cases i with
      | zero => simp at hc hs; subst hc; subst hs; exact h1
      | succ i => exact h2 i c' s' (by simpa using hi) (by simpa using hc) (by simpa using hs)
    · intro h
      exact ⟨h 0 c s (by simp) rfl rfl, fun i c' s' hi hc hs => h (i + 1) c' s' (by simpa using hi) (by simpa using hc) (by simpa using hs)⟩
theorem fitsTo_step {sh t : List UInt8} {k : Nat} {c s : UInt8} (h : fitsTo sh t k) (hc : t[k]? = some c) (hs : sh[k]? = some s) (hf : fits s c = true) : fitsTo sh t (k + 1) := by
  intro i c' s' hi h1 h2
  rcases Nat.lt_succ_iff_lt_or_eq.1 hi with hi | rfl
  · exact h i c' s' hi h1 h2
  · rw [hc] at h1
    rw [hs] at h2
    injection h1 with h1
    injection h2 with h2
    rw [← h1, ← h2]
    exact hf
theorem fitsB_bad {sh t : List UInt8} {k : Nat} {c s : UInt8} (hc : t[k]? = some c) (hs : sh[k]? = some s) (hf : fits s c = false) : fitsB sh t = false := by
  rw [← Bool.not_eq_true, fitsB_iff]
  intro h
  have := h k c s (List.getElem?_eq_some_iff.1 hc).1 hc hs
  rw [hf] at this
  cases this
/-- what a text is read as -/
def readM (t : List UInt8) : Mo := if fitsB shp t = true then ⟨nums t t.length 0, nums t t.length 1, nums t t.length 2, nums t t.length 3, nums t t.length 4, nums t t.length 5⟩ else zero
/-- the digits so far are few: their number is small -/
theorem nums_bd {t : List UInt8} {k : Nat} (h : fitsTo shp t k) (hk : k ≤ 19) (j : Nat) (hj : j < 6) : 0 ≤ nums t k j ∧ nums t k j < 10000 := by
  have h2 : ∀ c ∈ seg t k (st j) (ln j), digit c = true := by
    intro c hc
    obtain ⟨i, hi⟩ := List.mem_iff_getElem?.1 hc
    unfold seg at hi
    rw [List.getElem?_take] at hi
    split at hi
    · rename_i hlt
      rw [List.getElem?_drop, List.getElem?_take] at hi
      split at hi
      · rename_i hlt2
        have hs : ∀ j : Fin 6, ∀ i : Fin 4, i.1 < ln j.1 → shp[st j.1 + i.1]? = some 48 := by decide
        have hl4 : ln j ≤ 4 := by unfold ln; split <;> omega
        have := h _ c 48 hlt2 hi (hs ⟨j, hj⟩ ⟨i, by omega⟩ hlt)
        simpa [fits, digit] using this
      · cases hi
    · cases hi
  have h3 := acc_bd _ h2
  have h4 : (seg t k (st j) (ln j)).length ≤ 4 := by
    unfold seg
    rw [List.length_take]
    have : ln j ≤ 4 := by unfold ln; split <;> omega
    omega
  have h5 : (10 : Int) ^ (seg t k (st j) (ln j)).length ≤ 10 ^ 4 := by
    have := Nat.pow_le_pow_right (n := 10) (by omega) h4
    exact_mod_cast this
  refine ⟨h3.1, ?_⟩
  have : (10 : Int) ^ 4 = 10000 := by decide
  unfold nums
  omega
end Go.Proofs.Ytgmpdkkpmgedjaa.dosnum
