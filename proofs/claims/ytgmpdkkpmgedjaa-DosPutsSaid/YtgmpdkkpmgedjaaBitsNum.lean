/-
  Bits, the lowest first, as lists and as numbers: plain mathematics, over no program. My own text.
-/
import Derived.Test.YtgmpdkkpmgedjaaNum
namespace Go.Proofs.Ytgmpdkkpmgedjaa.bitnum
open Go.Proofs.Ytgmpdkkpmgedjaa.num
set_option linter.unusedVariables false

/-- the k lowest bits of u, the lowest first -/
def lb (k u : Nat) : List Nat := (List.range k).map fun i => u / 2 ^ i % 2
theorem lb_len (k u : Nat) : (lb k u).length = k := by simp [lb]
theorem lb_get {k u i : Nat} (h : i < k) : (lb k u)[i]? = some (u / 2 ^ i % 2) := by simp [lb, h]
theorem lb_zero (u : Nat) : lb 0 u = [] := rfl
theorem lb_snoc (k u : Nat) : lb (k + 1) u = lb k u ++ [u / 2 ^ k % 2] := by simp [lb, List.range_succ]
theorem lb_mod (k u : Nat) : lb k (u % 2 ^ k) = lb k u := by
  refine List.ext_getElem (by rw [lb_len, lb_len]) fun i h1 h2 => ?_
  rw [lb_len] at h1
  have := Nat.testBit_mod_two_pow u k i
  simp only [lb, List.getElem_map, List.getElem_range]
  rw [Nat.testBit_eq_decide_div_mod_eq, Nat.testBit_eq_decide_div_mod_eq] at this
  simp only [h1, decide_true, Bool.true_and, decide_eq_decide] at this
  omega
theorem lb_cons (k u : Nat) : lb (k + 1) u = u % 2 :: lb k (u / 2) := by
  refine List.ext_getElem (by simp [lb_len]) fun i h1 h2 => ?_
  cases i with
  | zero => simp [lb]
  | succ i => simp [lb, Nat.div_div_eq_div_mul, Nat.pow_succ, Nat.mul_comm]
theorem lb_append (m n N v : Nat) : lb m N ++ lb n v = lb (m + n) (N % 2 ^ m + 2 ^ m * v) := by
  induction m generalizing N with
  | zero => simp [lb_zero, Nat.mod_one]
  | succ m ih =>
    rw [lb_cons, List.cons_append, ih, Nat.succ_add, lb_cons]
    have h0 : 0 < 2 ^ m := Nat.pow_pos (by omega)
    have h1 : N % 2 ^ (m + 1) = N % 2 + 2 * (N / 2 % 2 ^ m) := by rw [Nat.pow_succ, Nat.mul_comm, Nat.mod_mul]
    have h2 : 2 ^ (m + 1) * v = 2 * (2 ^ m * v) := by rw [Nat.pow_succ]; simp [Nat.mul_comm, Nat.mul_left_comm]
    rw [h1, h2]
    congr 1
    · omega
    · congr 1
      omega
theorem lb_take {k u n : Nat} (h : n ≤ k) : (lb k u).take n = lb n u := by
  rw [lb, ← List.map_take, List.take_range]; simp [lb, Nat.min_eq_left h]
theorem lb_cut {m N p n : Nat} (h : p + n ≤ m) : ((lb m N).drop p).take n = lb n (N / 2 ^ p) := by
  refine List.ext_getElem (by simp [lb_len]; omega) fun i h1 h2 => ?_
  rw [lb_len] at h2
  simp [lb, Nat.div_div_eq_div_mul, Nat.pow_add]
theorem mod_succ (u k : Nat) : u % 2 ^ (k + 1) = u % 2 ^ k + 2 ^ k * (u / 2 ^ k % 2) := by rw [Nat.pow_succ, Nat.mod_mul]
/-- from the top: what was seen, and one bit more -/
theorem top_step {u n j : Nat} (h : j < n) : 2 * (u % 2 ^ n / 2 ^ (j + 1)) + u / 2 ^ j % 2 = u % 2 ^ n / 2 ^ j := by
  have e : u / 2 ^ j % 2 = u % 2 ^ n / 2 ^ j % 2 := by
    have := Nat.testBit_mod_two_pow u n j
    rw [Nat.testBit_eq_decide_div_mod_eq, Nat.testBit_eq_decide_div_mod_eq] at this
    simp only [h, decide_true, Bool.true_and, decide_eq_decide] at this
    omega
  rw [e, Nat.pow_succ, ← Nat.div_div_eq_div_mul]
  omega

/-- the k lowest bits of u, turned about -/
def rev : Nat → Nat → Nat
  | 0, _ => 0
  | k + 1, u => 2 * rev k u + u / 2 ^ k % 2
theorem rev_lt (k u : Nat) : rev k u < 2 ^ k := by
  induction k with
  | zero => simp [rev]
  | succ k ih => rw [rev, Nat.pow_succ]; omega
theorem lb_reverse (k u : Nat) : (lb k u).reverse = lb k (rev k u) := by
  induction k with
  | zero => rfl
  | succ k ih =>
    rw [lb_snoc, List.reverse_append, List.reverse_singleton, ih, List.singleton_append, lb_cons, rev]
    congr 1
    · omega
    · congr 1
      omega

theorem lb_bytes (bs : List UInt8) (b : UInt8) : lb (8 * bs.length) (num bs) ++ lb 8 b.toNat = lb (8 * (bs ++ [b]).length) (num (bs ++ [b])) := by
  have h := num_lt bs
  rw [lb_append, num_append, List.length_append]
  have e : 2 ^ (8 * bs.length) = 256 ^ bs.length := pow256 _
  rw [e, Nat.mod_eq_of_lt h]
  simp [num, Nat.mul_add]
theorem lb_bytes_all (xs ys : List UInt8) : lb (8 * xs.length) (num xs) ++ lb (8 * ys.length) (num ys) = lb (8 * (xs ++ ys).length) (num (xs ++ ys)) := by
  have h := num_lt xs
  have e : 2 ^ (8 * xs.length) = 256 ^ xs.length := pow256 _
  rw [lb_append, num_append, List.length_append, e, Nat.mod_eq_of_lt h, Nat.mul_add]

theorem num_cut_drop (bs : List UInt8) (i : Nat) : num (bs.drop i) = num bs / 256 ^ i := by
  by_cases hi : i ≤ bs.length
  · have h := num_append (bs.take i) (bs.drop i)
    rw [List.take_append_drop] at h
    have hl := num_lt (bs.take i)
    rw [List.length_take, Nat.min_eq_left hi] at h hl
    rw [h, Nat.add_comm, Nat.mul_add_div (Nat.pow_pos (by omega)), Nat.div_eq_of_lt hl, Nat.add_zero]
  · rw [List.drop_of_length_le (by omega)]
    have h1 := num_lt bs
    have h2 : 256 ^ bs.length ≤ 256 ^ i := Nat.pow_le_pow_right (by omega) (by omega)
    rw [Nat.div_eq_of_lt (by omega)]
    rfl
theorem num_cut_take (bs : List UInt8) (i : Nat) (hi : i ≤ bs.length) : num (bs.take i) = num bs % 256 ^ i := by
  have h := num_append (bs.take i) (bs.drop i)
  rw [List.take_append_drop] at h
  have hl := num_lt (bs.take i)
  rw [List.length_take, Nat.min_eq_left hi] at h hl
  rw [h, Nat.add_mul_mod_self_left, Nat.mod_eq_of_lt hl]
/-- n bits from p on, out of the bytes that hold them -/
theorem bits_of_bytes (bs : List UInt8) (p n k : Nat) (h : p % 8 + n ≤ 8 * k) (hk : p / 8 + k ≤ bs.length) : num ((bs.drop (p / 8)).take k) / 2 ^ (p % 8) % 2 ^ n = num bs / 2 ^ p % 2 ^ n := by
  rw [num_cut_take _ _ (by rw [List.length_drop]; omega), num_cut_drop, ← pow256, ← pow256]
  have e : 2 ^ p = 2 ^ (8 * (p / 8)) * 2 ^ (p % 8) := by rw [← Nat.pow_add]; congr 1; omega
  rw [e, ← Nat.div_div_eq_div_mul]
  generalize num bs / 2 ^ (8 * (p / 8)) = u
  have e2 : 2 ^ (8 * k) = 2 ^ (p % 8) * (2 ^ n * 2 ^ (8 * k - (p % 8 + n))) := by rw [← Nat.pow_add, ← Nat.pow_add]; congr 1; omega
  rw [e2, Nat.mod_mul_right_div_self, Nat.mod_mul_right_mod]

/-- held within 0 to 24 -/
def held (z : Int) : Nat := if z < 0 then 0 else if 24 < z then 24 else z.toNat
theorem held_le (z : Int) : held z ≤ 24 := by unfold held; split <;> (try split) <;> omega
theorem held_lo {z : Int} (h : z < 0) : (0 : Int) = (held z : Int) := by unfold held; rw [if_pos h]; rfl
theorem held_hi {z : Int} (h : 24 < z) : (24 : Int) = (held z : Int) := by unfold held; rw [if_neg (by omega), if_pos h]; rfl
theorem held_mid {z : Int} (h1 : 0 ≤ z) (h2 : z ≤ 24) : z = (held z : Int) := by unfold held; rw [if_neg (by omega), if_neg (by omega)]; omega
theorem held_nat (n : Nat) (h : n ≤ 24) : held n = n := by have := held_mid (z := (n : Int)) (by omega) (by omega); omega

theorem pow24 {k : Nat} (h : k ≤ 24) : 1 ≤ 2 ^ k ∧ 2 ^ k ≤ 16777216 := ⟨Nat.pow_pos (by omega), by have := Nat.pow_le_pow_right (n := 2) (by omega) h; simpa using this⟩
theorem pow31 {k : Nat} (h : k ≤ 31) : 1 ≤ 2 ^ k ∧ 2 ^ k ≤ 2147483648 := ⟨Nat.pow_pos (by omega), by have := Nat.pow_le_pow_right (n := 2) (by omega) h; simpa using this⟩
theorem pow2i (k : Nat) : (2 : Int) ^ k = ((2 ^ k : Nat) : Int) := by simp

/-- 'v & (1<<n - 1)', also of numbers below 0 -/
theorem and_mask (z : Int) (n : Nat) (hn : n ≤ 62) : bits .and .i64 z (2 ^ n - 1) = ((u64 z % 2 ^ n : Nat) : Int) := by
  have hp : 1 ≤ 2 ^ n ∧ 2 ^ n ≤ 4611686018427387904 := ⟨Nat.pow_pos (by omega), by have := Nat.pow_le_pow_right (n := 2) (by omega) hn; simpa using this⟩
  have e : (2 : Int) ^ n - 1 = ((2 ^ n - 1 : Nat) : Int) := by rw [pow2i]; omega
  have h1 : (BitVec.ofInt 64 z).toNat = u64 z := by rw [BitVec.toNat_ofInt]; unfold u64; congr 1
  have h2 : u64 z % 2 ^ n < 2 ^ n := Nat.mod_lt _ (by omega)
  show IntKind.i64.wrap ((BitVec.ofInt 64 z &&& BitVec.ofInt 64 ((2 : Int) ^ n - 1)).toNat : Int) = _
  rw [e, BitVec.toNat_and, h1, ofInt_64 _ (by omega), Nat.and_two_pow_sub_one_eq_mod, IntKind.wrap_i64]
  omega

/-- a number below 0, or not: its bits as those of 64 -/
theorem bit_of (z : Int) (k : Nat) (hk : k ≤ 24) : z / 2 ^ k % 2 = ((u64 z / 2 ^ k % 2 : Nat) : Int) := by
  have h6 : k = 0 ∨ k = 1 ∨ k = 2 ∨ k = 3 ∨ k = 4 ∨ k = 5 ∨ k = 6 ∨ k = 7 ∨ k = 8 ∨ k = 9 ∨ k = 10 ∨ k = 11 ∨ k = 12 ∨ k = 13 ∨ k = 14 ∨ k = 15 ∨ k = 16 ∨ k = 17 ∨ k = 18 ∨ k = 19 ∨ k = 20 ∨ k = 21 ∨ k = 22 ∨ k = 23 ∨ k = 24 := by omega
  unfold u64
  rcases h6 with rfl | rfl | rfl | rfl | rfl | rfl | rfl | rfl | rfl | rfl | rfl | rfl | rfl | rfl | rfl | rfl | rfl | rfl | rfl | rfl | rfl | rfl | rfl | rfl | rfl <;> simp <;> omega
theorem and_one (z : Int) : bits .and .i64 z 1 = z % 2 := by
  have := and_mask z 1 (by omega)
  have e : z % 2 = ((u64 z % 2 : Nat) : Int) := by have := bit_of z 0 (by omega); simpa using this
  rw [e]
  simpa using this
theorem or_bit (a b : Nat) (ha : a < 4611686018427387904) (hb : b < 2) : bits .or .i64 (2 * (a : Int)) (b : Int) = ((2 * a + b : Nat) : Int) := by
  have h := or_nat (2 * a) b (by omega) (by omega)
  have e : ((2 * a : Nat) : Int) = 2 * (a : Int) := by omega
  rw [e] at h
  rw [h]
  have h2 := Nat.two_pow_add_eq_or_of_lt (i := 1) (b := b) (by omega) a
  have h3 : 2 ^ 1 * a = 2 * a := by omega
  rw [h3] at h2
  rw [h2]
end Go.Proofs.Ytgmpdkkpmgedjaa.bitnum
