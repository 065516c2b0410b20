/-
  Codes by their lengths: plain mathematics, over no program. My own text.
-/
import Derived.Test.YtlaecigjnknhoaaDoorBitsNum
namespace Go.Proofs.YtlaecigjnknhoaaDoor.huffnum
open Go.Proofs.YtlaecigjnknhoaaDoor.num Go.Proofs.YtlaecigjnknhoaaDoor.bitnum
set_option linter.unusedVariables false

/-- the symbols whose length is n -/
def syms (ls : List Nat) (n : Nat) : List Nat := (List.range ls.length).filter fun s => decide (ls[s]? = some n)
theorem syms_nil (n : Nat) : syms [] n = [] := rfl
theorem syms_snoc (ls : List Nat) (x n : Nat) : syms (ls ++ [x]) n = syms ls n ++ (if x = n then [ls.length] else []) := by
  unfold syms
  rw [List.length_append, List.length_singleton, List.range_succ, List.filter_append]
  congr 1
  · refine List.filter_congr fun s hs => ?_
    rw [List.mem_range] at hs
    rw [List.getElem?_append_left hs]
  · by_cases h : x = n <;> simp [h]
theorem take_one_more {α : Type} (l : List α) (j : Nat) (x : α) (h : l[j]? = some x) : l.take (j + 1) = l.take j ++ [x] := by rw [List.take_add_one, h]; rfl
theorem lt_of_get {α : Type} {l : List α} {j : Nat} {x : α} (h : l[j]? = some x) : j < l.length := (List.getElem?_eq_some_iff.1 h).1
theorem syms_more {ls : List Nat} {j x : Nat} (h : ls[j]? = some x) (n : Nat) : syms (ls.take (j + 1)) n = syms (ls.take j) n ++ (if x = n then [j] else []) := by
  have hj := lt_of_get h
  rw [take_one_more _ _ _ h, syms_snoc, List.length_take, Nat.min_eq_left (by omega)]
theorem count_more {ls : List Nat} {j x : Nat} (h : ls[j]? = some x) (n : Nat) : (ls.take (j + 1)).count n = (ls.take j).count n + (if x = n then 1 else 0) := by
  rw [take_one_more _ _ _ h, List.count_append]
  by_cases e : x = n <;> simp [e]
theorem syms_len_take (ls : List Nat) (n : Nat) : ∀ j, j ≤ ls.length → (syms (ls.take j) n).length = (ls.take j).count n
  | 0, _ => by simp [syms]
  | j + 1, h => by
    have hx : ls[j]? = some ls[j] := List.getElem?_eq_getElem (by omega)
    rw [syms_more hx, count_more hx, List.length_append, syms_len_take ls n j (by omega)]
    split <;> simp
theorem syms_len (ls : List Nat) (n : Nat) : (syms ls n).length = ls.count n := by
  have := syms_len_take ls n ls.length (Nat.le_refl _)
  rwa [List.take_length] at this
theorem syms_pre (ls : List Nat) (n j : Nat) : ∀ k, j + k ≤ ls.length → ∃ t, syms (ls.take (j + k)) n = syms (ls.take j) n ++ t
  | 0, _ => ⟨[], by simp⟩
  | k + 1, h => by
    obtain ⟨t, ht⟩ := syms_pre ls n j k (by omega)
    have hx : ls[j + k]? = some ls[j + k] := List.getElem?_eq_getElem (by omega)
    exact ⟨t ++ _, by rw [← Nat.add_assoc, syms_more hx, ht, List.append_assoc]⟩
/-- how many of the length n stand ahead of s -/
def rankOf (ls : List Nat) (s n : Nat) : Nat := (ls.take s).count n
theorem syms_at {ls : List Nat} {s n : Nat} (h : ls[s]? = some n) : (syms ls n)[rankOf ls s n]? = some s := by
  have hs := lt_of_get h
  obtain ⟨t, ht⟩ := syms_pre ls n (s + 1) (ls.length - (s + 1)) (by omega)
  rw [show s + 1 + (ls.length - (s + 1)) = ls.length by omega, List.take_length] at ht
  have hl := syms_len_take ls n s (by omega)
  rw [ht, syms_more h, if_pos rfl, rankOf, ← hl, List.append_assoc, List.getElem?_append_right (Nat.le_refl _), Nat.sub_self]
  rfl
theorem syms_mem {ls : List Nat} {s n : Nat} (h : s ∈ syms ls n) : ls[s]? = some n := by
  unfold syms at h
  rw [List.mem_filter] at h
  exact of_decide_eq_true h.2
theorem syms_of {ls : List Nat} {r s n : Nat} (h : (syms ls n)[r]? = some s) : ls[s]? = some n ∧ rankOf ls s n = r := by
  have h1 := syms_mem (List.mem_of_getElem? h)
  refine ⟨h1, ?_⟩
  have h2 := syms_at h1
  have hn : (syms ls n).Nodup := List.nodup_range.filter _
  exact (List.getElem?_inj (lt_of_get h2) hn).1 (h2.trans h.symm)
theorem rankOf_lt {ls : List Nat} {s n : Nat} (h : ls[s]? = some n) : rankOf ls s n < ls.count n := by
  have := lt_of_get (syms_at h)
  rwa [syms_len] at this
theorem syms_lt {ls : List Nat} {n : Nat} : ∀ s ∈ syms ls n, s < ls.length := fun s h => lt_of_get (syms_mem h)

/-- the number behind the last code of the length n -/
def nx (ls : List Nat) : Nat → Nat
  | 0 => 0
  | n + 1 => 2 * nx ls n + ls.count (n + 1)
/-- the first text of 15 bits that is begun by no code of up to n bits -/
def tx (ls : List Nat) (n : Nat) : Nat := nx ls n * 2 ^ (15 - n)
theorem tx_zero (ls : List Nat) : tx ls 0 = 0 := by simp [tx, nx]
theorem two_tx (ls : List Nat) {n : Nat} (h : n < 15) : 2 * nx ls n * 2 ^ (15 - (n + 1)) = tx ls n := by
  unfold tx
  rw [show 15 - n = (15 - (n + 1)) + 1 by omega, Nat.pow_succ, Nat.mul_comm 2 (nx ls n), Nat.mul_assoc, Nat.mul_comm 2]
theorem tx_succ (ls : List Nat) {n : Nat} (h : n < 15) : tx ls (n + 1) = tx ls n + ls.count (n + 1) * 2 ^ (15 - (n + 1)) := by
  rw [← two_tx ls h, tx, nx, Nat.add_mul]
theorem tx_mono (ls : List Nat) (m : Nat) : ∀ k, m + k ≤ 15 → tx ls m ≤ tx ls (m + k)
  | 0, _ => Nat.le_refl _
  | k + 1, h => by
    have := tx_mono ls m k (by omega)
    rw [← Nat.add_assoc, tx_succ ls (by omega)]
    omega
theorem tx_le (ls : List Nat) {m n : Nat} (h : m ≤ n) (hn : n ≤ 15) : tx ls m ≤ tx ls n := by
  have := tx_mono ls m (n - m) (by omega)
  rwa [show m + (n - m) = n by omega] at this
theorem tx_15 (ls : List Nat) : tx ls 15 = nx ls 15 := by simp [tx]
theorem nx_le {ls : List Nat} (h : tx ls 15 ≤ 32768) {n : Nat} (hn : n ≤ 15) : nx ls n ≤ 2 ^ n := by
  have h1 : tx ls n ≤ 32768 := Nat.le_trans (tx_le ls hn (Nat.le_refl _)) h
  unfold tx at h1
  have h2 : (32768 : Nat) = 2 ^ n * 2 ^ (15 - n) := by rw [← Nat.pow_add, show n + (15 - n) = 15 by omega]
  rw [h2] at h1
  exact Nat.le_of_mul_le_mul_right h1 (Nat.pow_pos (by omega))
theorem nx_over {ls : List Nat} {n : Nat} (hn : n ≤ 15) (h : 2 ^ n < nx ls n) : 32768 < tx ls 15 := by
  have h1 := tx_le ls hn (Nat.le_refl 15)
  have h2 : (32768 : Nat) = 2 ^ n * 2 ^ (15 - n) := by rw [← Nat.pow_add, show n + (15 - n) = 15 by omega]
  have h3 : 2 ^ n * 2 ^ (15 - n) < nx ls n * 2 ^ (15 - n) := Nat.mul_lt_mul_of_pos_right h (Nat.pow_pos (by omega))
  unfold tx at h1 ⊢
  omega
theorem tx_bound (ls : List Nat) : ∀ n, n ≤ 15 → tx ls n ≤ n * (16384 * ls.length)
  | 0, _ => by rw [tx_zero]; omega
  | n + 1, h => by
    have h1 := tx_bound ls n (by omega)
    have h2 : ls.count (n + 1) ≤ ls.length := List.count_le_length
    have h3 : 2 ^ (15 - (n + 1)) ≤ 16384 := by have := Nat.pow_le_pow_right (n := 2) (by omega) (show 15 - (n + 1) ≤ 14 by omega); simpa using this
    have h4 := Nat.mul_le_mul h2 h3
    rw [tx_succ ls (by omega), Nat.succ_mul]
    rw [Nat.mul_comm ls.length] at h4
    omega

/-- the code of s, whose length is n -/
def cd (ls : List Nat) (s n : Nat) : Nat := 2 * nx ls (n - 1) + rankOf ls s n
/-- the first text that it begins -/
def st (ls : List Nat) (s n : Nat) : Nat := cd ls s n * 2 ^ (15 - n)
theorem st_is {ls : List Nat} {s n : Nat} (h1 : 1 ≤ n) (h15 : n ≤ 15) : st ls s n = tx ls (n - 1) + rankOf ls s n * 2 ^ (15 - n) := by
  have := two_tx ls (n := n - 1) (by omega)
  rw [show n - 1 + 1 = n by omega] at this
  rw [st, cd, Nat.add_mul, this]
theorem cd_lt {ls : List Nat} {s n : Nat} (h : ls[s]? = some n) (h1 : 1 ≤ n) : cd ls s n < nx ls n := by
  have h2 := rankOf_lt h
  obtain ⟨m, rfl⟩ : ∃ m, n = m + 1 := ⟨n - 1, by omega⟩
  rw [cd, nx]
  simp
  omega
theorem st_hi {ls : List Nat} {s n : Nat} (h : ls[s]? = some n) (h1 : 1 ≤ n) : st ls s n + 2 ^ (15 - n) ≤ tx ls n := by
  have := Nat.mul_le_mul_right (2 ^ (15 - n)) (cd_lt h h1)
  rw [Nat.succ_mul] at this
  exact this
theorem st_lo {ls : List Nat} {s n : Nat} (h1 : 1 ≤ n) (h15 : n ≤ 15) : tx ls (n - 1) ≤ st ls s n := by
  rw [st_is h1 h15]; omega

theorem find (ls : List Nat) {t : Nat} (k : Nat) (hk : k ≤ 15) (h : t < tx ls k) : ∃ n, 1 ≤ n ∧ n ≤ k ∧ tx ls (n - 1) ≤ t ∧ t < tx ls n := by
  induction k with
  | zero => rw [tx_zero] at h; omega
  | succ k ih =>
    by_cases h2 : t < tx ls k
    · obtain ⟨n, a, b, c⟩ := ih (by omega) h2
      exact ⟨n, a, by omega, c⟩
    · exact ⟨k + 1, by omega, Nat.le_refl _, by rw [Nat.add_sub_cancel]; omega, h⟩
theorem pick {ls : List Nat} {t n : Nat} (h1 : 1 ≤ n) (h15 : n ≤ 15) (hlo : tx ls (n - 1) ≤ t) (hhi : t < tx ls n) :
    ∃ s, (syms ls n)[(t - tx ls (n - 1)) / 2 ^ (15 - n)]? = some s ∧ ls[s]? = some n ∧ st ls s n ≤ t ∧ t < st ls s n + 2 ^ (15 - n) := by
  have hp : 0 < 2 ^ (15 - n) := Nat.pow_pos (by omega)
  have hx := tx_succ ls (n := n - 1) (by omega)
  rw [show n - 1 + 1 = n by omega] at hx
  have hr : (t - tx ls (n - 1)) / 2 ^ (15 - n) < (syms ls n).length := by
    rw [syms_len, Nat.div_lt_iff_lt_mul hp]
    omega
  refine ⟨_, List.getElem?_eq_getElem hr, ?_⟩
  obtain ⟨h2, h3⟩ := syms_of (List.getElem?_eq_getElem hr)
  refine ⟨h2, ?_⟩
  rw [st_is h1 h15, h3]
  have h4 := Nat.div_add_mod (t - tx ls (n - 1)) (2 ^ (15 - n))
  have h5 := Nat.mod_lt (t - tx ls (n - 1)) hp
  rw [Nat.mul_comm] at h4
  omega
theorem same_place {a b t K : Nat} (h1 : a * K ≤ t) (h2 : t < a * K + K) (h3 : b * K ≤ t) (h4 : t < b * K + K) : a = b := by
  rcases Nat.lt_trichotomy a b with h | h | h
  · have := Nat.mul_le_mul_right K h
    rw [Nat.succ_mul] at this
    omega
  · exact h
  · have := Nat.mul_le_mul_right K h
    rw [Nat.succ_mul] at this
    omega
theorem uniq {ls : List Nat} {t s n s' n' : Nat} (h : ls[s]? = some n) (h1 : 1 ≤ n) (h15 : n ≤ 15) (hlo : st ls s n ≤ t) (hhi : t < st ls s n + 2 ^ (15 - n))
    (h' : ls[s']? = some n') (h1' : 1 ≤ n') (h15' : n' ≤ 15) (hlo' : st ls s' n' ≤ t) (hhi' : t < st ls s' n' + 2 ^ (15 - n')) : s = s' := by
  have a1 := st_lo (ls := ls) (s := s) h1 h15
  have a2 := st_hi h h1
  have b1 := st_lo (ls := ls) (s := s') h1' h15'
  have b2 := st_hi h' h1'
  have hn : n = n' := by
    rcases Nat.lt_trichotomy n n' with h0 | h0 | h0
    · have := tx_le ls (m := n) (n := n' - 1) (by omega) (by omega); omega
    · exact h0
    · have := tx_le ls (m := n') (n := n - 1) (by omega) (by omega); omega
  subst hn
  have hc := same_place hlo hhi hlo' hhi'
  have hr : rankOf ls s n = rankOf ls s' n := by unfold cd at hc; omega
  have e1 := syms_at h
  have e2 := syms_at h'
  rw [hr, e2] at e1
  injection e1 with e1
  exact e1.symm

/-! numbers turned about -/
theorem rev_top (A k : Nat) : ∀ j, rev (k + j) A / 2 ^ j = rev k A
  | 0 => by simp
  | j + 1 => by
    rw [← Nat.add_assoc, rev, Nat.pow_succ, Nat.mul_comm (2 ^ j) 2, ← Nat.div_div_eq_div_mul]
    rw [show (2 * rev (k + j) A + A / 2 ^ (k + j) % 2) / 2 = rev (k + j) A by omega]
    exact rev_top A k j
theorem rev_low {A m : Nat} (h : A < 2 ^ m) : ∀ j, rev (m + j) A = rev m A * 2 ^ j
  | 0 => by simp
  | j + 1 => by
    have hz : A / 2 ^ (m + j) = 0 := Nat.div_eq_of_lt (Nat.lt_of_lt_of_le h (Nat.pow_le_pow_right (by omega) (by omega)))
    rw [← Nat.add_assoc, rev, hz, rev_low h j, Nat.pow_succ, Nat.mul_comm (2 ^ j) 2, Nat.mul_left_comm]
    simp
theorem rev_inj (a b : Nat) : ∀ k, rev k a = rev k b ↔ a % 2 ^ k = b % 2 ^ k
  | 0 => by simp [rev, Nat.mod_one]
  | k + 1 => by
    rw [rev, rev, mod_succ, mod_succ]
    have ih := rev_inj a b k
    have h1 := Nat.mod_lt a (y := 2 ^ k) (Nat.pow_pos (by omega))
    have h2 := Nat.mod_lt b (y := 2 ^ k) (Nat.pow_pos (by omega))
    constructor
    · intro h
      have e1 : rev k a = rev k b := by omega
      have e2 : a / 2 ^ k % 2 = b / 2 ^ k % 2 := by omega
      rw [ih.1 e1, e2]
    · intro h
      have e2 : a / 2 ^ k % 2 = b / 2 ^ k % 2 := by
        have h3 : a / 2 ^ k % 2 = 0 ∨ a / 2 ^ k % 2 = 1 := by omega
        have h4 : b / 2 ^ k % 2 = 0 ∨ b / 2 ^ k % 2 = 1 := by omega
        rcases h3 with h3 | h3 <;> rcases h4 with h4 | h4 <;> rw [h3, h4] at h <;> simp only [Nat.mul_zero, Nat.mul_one, Nat.add_zero] at h <;> omega
      rw [e2] at h
      have e1 : a % 2 ^ k = b % 2 ^ k := by omega
      rw [ih.2 e1, e2]
theorem rev_mod (u : Nat) {k m : Nat} (h : k ≤ m) : rev k (u % 2 ^ m) = rev k u := by
  rw [rev_inj, Nat.mod_mod_of_dvd _ (Nat.pow_dvd_pow 2 h)]
theorem lb_inj {a b : Nat} : ∀ k, lb k a = lb k b → a % 2 ^ k = b % 2 ^ k
  | 0, _ => by simp [Nat.mod_one]
  | k + 1, h => by
    rw [lb_snoc, lb_snoc] at h
    have h1 := List.append_inj h (by rw [lb_len, lb_len])
    have h2 := lb_inj k h1.1
    have h3 : a / 2 ^ k % 2 = b / 2 ^ k % 2 := by simpa using h1.2
    rw [mod_succ, mod_succ, h2, h3]
theorem rev_rev (n v : Nat) : rev n (rev n v) = v % 2 ^ n := by
  have h : lb n (rev n (rev n v)) = lb n v := by rw [← lb_reverse, ← lb_reverse, List.reverse_reverse]
  have := lb_inj n h
  rwa [Nat.mod_eq_of_lt (rev_lt _ _)] at this

/-- what comes begins with the code c of n bits, as far as both go -/
theorem begins_iff {U many n c t : Nat} (hn : n ≤ 15) (hm : many ≤ 15) (hc : c < 2 ^ n) (ht : t = rev 15 (U % 2 ^ many)) :
    U % 2 ^ min n many = rev n c % 2 ^ min n many ↔ t / 2 ^ (15 - min n many) = c / 2 ^ (n - min n many) := by
  have h1 : min n many ≤ n := Nat.min_le_left _ _
  have h2 : min n many ≤ many := Nat.min_le_right _ _
  generalize min n many = k at h1 h2
  have e1 := rev_top (U % 2 ^ many) k (15 - k)
  rw [show k + (15 - k) = 15 by omega, ← ht, rev_mod _ h2] at e1
  have e2 := rev_top (rev n c) k (n - k)
  rw [show k + (n - k) = n by omega, rev_rev, Nat.mod_eq_of_lt hc] at e2
  rw [e1, e2, rev_inj]

/-- the three ways of what comes -/
structure Nxt (ls : List Nat) (many U t : Nat) : Prop where
  le : many ≤ 15
  text : t = rev 15 (U % 2 ^ many)
  fits : tx ls 15 ≤ 32768
  lens : ∀ n ∈ ls, n ≤ 15
/-- what comes begins with the code of s, as far as both go -/
def Begins (ls : List Nat) (many U s n : Nat) : Prop := U % 2 ^ min n many = rev n (cd ls s n) % 2 ^ min n many
section
variable {ls : List Nat} {many U t : Nat}
theorem Nxt.cd_lt (h : Nxt ls many U t) {s n : Nat} (hs : ls[s]? = some n) (h1 : 1 ≤ n) : cd ls s n < 2 ^ n :=
  Nat.lt_of_lt_of_le (huffnum.cd_lt hs h1) (nx_le h.fits (h.lens n (List.mem_of_getElem? hs)))
theorem Nxt.t_low (h : Nxt ls many U t) : t = t / 2 ^ (15 - many) * 2 ^ (15 - many) := by
  have hl : U % 2 ^ many < 2 ^ many := Nat.mod_lt _ (Nat.pow_pos (by omega))
  have e := rev_low hl (15 - many)
  rw [show many + (15 - many) = 15 by have := h.le; omega, ← h.text] at e
  rw [e, Nat.mul_div_cancel _ (Nat.pow_pos (by omega))]
/-- a code that is there whole -/
theorem Nxt.whole (h : Nxt ls many U t) {s n : Nat} (hs : ls[s]? = some n) (h1 : 1 ≤ n) (hle : n ≤ many) :
    Begins ls many U s n ↔ st ls s n ≤ t ∧ t < st ls s n + 2 ^ (15 - n) := by
  have hn := h.lens n (List.mem_of_getElem? hs)
  have hp : 0 < 2 ^ (15 - n) := Nat.pow_pos (by omega)
  unfold Begins
  rw [begins_iff hn h.le (h.cd_lt hs h1) h.text, Nat.min_eq_left hle, Nat.sub_self, Nat.pow_zero, Nat.div_one, st]
  have h4 := Nat.div_add_mod t (2 ^ (15 - n))
  have h5 := Nat.mod_lt t hp
  rw [Nat.mul_comm] at h4
  constructor
  · intro e
    rw [e] at h4
    omega
  · intro ⟨a, b⟩
    exact same_place (t := t) (by omega) (by omega) a b
/-- a code of which some bits lack -/
theorem Nxt.part (h : Nxt ls many U t) {s n : Nat} (hs : ls[s]? = some n) (h1 : 1 ≤ n) (hlt : many < n) (hb : Begins ls many U s n) : t ≤ st ls s n := by
  have hn := h.lens n (List.mem_of_getElem? hs)
  unfold Begins at hb
  rw [begins_iff hn h.le (h.cd_lt hs h1) h.text, Nat.min_eq_right (by omega)] at hb
  rw [h.t_low, hb, st]
  rw [show 15 - many = (n - many) + (15 - n) by omega, Nat.pow_add, ← Nat.mul_assoc]
  exact Nat.mul_le_mul_right _ (Nat.div_mul_le_self _ _)
theorem Nxt.part_of (h : Nxt ls many U t) {s n : Nat} (hs : ls[s]? = some n) (h1 : 1 ≤ n) (hlt : many < n) (hlo : st ls s n ≤ t) (hhi : t < st ls s n + 2 ^ (15 - n)) : Begins ls many U s n := by
  have hn := h.lens n (List.mem_of_getElem? hs)
  unfold Begins
  rw [begins_iff hn h.le (h.cd_lt hs h1) h.text, Nat.min_eq_right (by omega)]
  have e := h.t_low
  rw [show 15 - many = (n - many) + (15 - n) by omega] at e ⊢
  generalize t / 2 ^ (n - many + (15 - n)) = q at e
  rw [Nat.pow_add, ← Nat.mul_assoc] at e
  have hq := same_place (a := q * 2 ^ (n - many)) (b := cd ls s n) (t := t) (K := 2 ^ (15 - n)) (by omega) (by have : 0 < 2 ^ (15 - n) := Nat.pow_pos (by omega); omega) hlo hhi
  rw [← hq, Nat.mul_div_cancel _ (Nat.pow_pos (by omega))]
theorem Nxt.data (h : Nxt ls many U t) (hd : tx ls 15 ≤ t) {s n : Nat} (hs : ls[s]? = some n) (h1 : 1 ≤ n) : ¬ Begins ls many U s n := by
  intro hb
  have hn := h.lens n (List.mem_of_getElem? hs)
  have a := st_hi hs h1
  have b := tx_le ls hn (Nat.le_refl 15)
  have hp : 0 < 2 ^ (15 - n) := Nat.pow_pos (by omega)
  by_cases hle : n ≤ many
  · have := (h.whole hs h1 hle).1 hb; omega
  · have := h.part hs h1 (by omega) hb; omega
theorem Nxt.ends (h : Nxt ls many U t) {n : Nat} (h1 : 1 ≤ n) (h15 : n ≤ 15) (hlo : tx ls (n - 1) ≤ t) (hhi : t < tx ls n) (hlt : many < n) :
    (∃ s, ls[s]? = some n ∧ Begins ls many U s n) ∧ ∀ s' n', ls[s']? = some n' → 1 ≤ n' → Begins ls many U s' n' → many < n' := by
  obtain ⟨s, _, hs, a, b⟩ := pick h1 h15 hlo hhi
  refine ⟨⟨s, hs, h.part_of hs h1 hlt a b⟩, fun s' n' hs' h1' hb => ?_⟩
  by_cases hle : n' ≤ many
  · have hn := h.lens n' (List.mem_of_getElem? hs')
    obtain ⟨a', b'⟩ := (h.whole hs' h1' hle).1 hb
    have e := uniq hs h1 h15 a b hs' h1' hn a' b'
    subst e
    rw [hs] at hs'
    injection hs' with hs'
    omega
  · omega
theorem Nxt.comes (h : Nxt ls many U t) {n : Nat} (h1 : 1 ≤ n) (h15 : n ≤ 15) (hlo : tx ls (n - 1) ≤ t) (hhi : t < tx ls n) (hle : n ≤ many) :
    ∃ s, (syms ls n)[(t - tx ls (n - 1)) / 2 ^ (15 - n)]? = some s ∧ ls[s]? = some n ∧ Begins ls many U s n ∧ ∀ s' n', ls[s']? = some n' → 1 ≤ n' → n' ≤ many → Begins ls many U s' n' → s' = s := by
  obtain ⟨s, hg, hs, a, b⟩ := pick h1 h15 hlo hhi
  refine ⟨s, hg, hs, (h.whole hs h1 hle).2 ⟨a, b⟩, fun s' n' hs' h1' hle' hb => ?_⟩
  have hn := h.lens n' (List.mem_of_getElem? hs')
  obtain ⟨a', b'⟩ := (h.whole hs' h1' hle').1 hb
  exact uniq hs' h1' hn a' b' hs h1 h15 a b
end

/-- no code begins another one -/
theorem apart {ls : List Nat} (hf : tx ls 15 ≤ 32768) {s n s' m : Nat} (hs : ls[s]? = some n) (h1 : 1 ≤ n) (hnm : n ≤ m) (hs' : ls[s']? = some m) (h15 : m ≤ 15) (hne : s ≠ s') : cd ls s' m / 2 ^ (m - n) ≠ cd ls s n := by
  intro e
  have hp : 0 < 2 ^ (15 - m) := Nat.pow_pos (by omega)
  have h4 := Nat.div_add_mod (cd ls s' m) (2 ^ (m - n))
  have h5 := Nat.mod_lt (cd ls s' m) (y := 2 ^ (m - n)) (Nat.pow_pos (by omega))
  rw [e, Nat.mul_comm] at h4
  have h6 : 2 ^ (15 - n) = 2 ^ (m - n) * 2 ^ (15 - m) := by rw [← Nat.pow_add]; congr 1; omega
  have lo : st ls s n ≤ st ls s' m := by
    rw [st, st, h6, ← Nat.mul_assoc]
    exact Nat.mul_le_mul_right _ (by omega)
  have hi : st ls s' m < st ls s n + 2 ^ (15 - n) := by
    rw [st, st, h6, ← Nat.mul_assoc, ← Nat.add_mul]
    exact Nat.mul_lt_mul_of_pos_right (by omega) hp
  exact hne (uniq hs h1 (by omega) lo hi hs' (by omega) h15 (Nat.le_refl _) (by omega))
theorem cd_order {ls : List Nat} {s s' n : Nat} (hs : ls[s]? = some n) (hs' : ls[s']? = some n) : cd ls s n < cd ls s' n ↔ s < s' := by
  have mono : ∀ a b, a ≤ b → rankOf ls a n ≤ rankOf ls b n := fun a b hab => by
    unfold rankOf
    exact List.Sublist.count_le _ (List.take_sublist_take_left hab)
  have step : ∀ a, ls[a]? = some n → rankOf ls (a + 1) n = rankOf ls a n + 1 := fun a ha => by
    unfold rankOf
    rw [count_more ha, if_pos rfl]
  unfold cd
  constructor
  · intro h
    rcases Nat.lt_or_ge s s' with h0 | h0
    · exact h0
    · have := mono _ _ h0; omega
  · intro h
    have := mono (s + 1) s' h
    rw [step s hs] at this
    omega
end Go.Proofs.YtlaecigjnknhoaaDoor.huffnum
