import Derived.Test.YtmnegmebkmihhaaGreatDoorMgNum
/- Several of my own texts, one behind the other. -/
/-
  Bits, the lowest first, as lists and as numbers: plain mathematics, over no program. My own text.
-/
namespace Go.Proofs.YtmnegmebkmihhaaGreatDoor.bitnum
open Go.Proofs.YtmnegmebkmihhaaGreatDoor.num
set_option linter.unusedVariables false

/-- the k lowest bits of u, the lowest first -/
def lb (k u : Nat) : List Nat := (List.range k).map fun i => u / 2 ^ i % 2
theorem lb_len (k u : Nat) : (lb k u).length = k := by simp [lb]
theorem lb_get {k u i : Nat} (h : i < k) : (lb k u)[i]? = some (u / 2 ^ i % 2) := by simp [lb, h]
theorem lb_zero (u : Nat) : lb 0 u = [] := rfl
theorem lb_snoc (k u : Nat) : lb (k + 1) u = lb k u ++ [u / 2 ^ k % 2] := by simp [lb, List.range_succ]
theorem lb_mod (k u : Nat) : lb k (u % 2 ^ k) = lb k u := by
  refine List.ext_getElem (by rw [lb_len, lb_len]) fun i h1 h2 => ?_
  rw [lb_len] at h1
  have := Nat.testBit_mod_two_pow u k i
  simp only [lb, List.getElem_map, List.getElem_range]
  rw [Nat.testBit_eq_decide_div_mod_eq, Nat.testBit_eq_decide_div_mod_eq] at this
  simp only [h1, decide_true, Bool.true_and, decide_eq_decide] at this
  omega
theorem lb_cons (k u : Nat) : lb (k + 1) u = u % 2 :: lb k (u / 2) := by
  refine List.ext_getElem (by simp [lb_len]) fun i h1 h2 => ?_
  cases i with
  | zero => simp [lb]
  | succ i => simp [lb, Nat.div_div_eq_div_mul, Nat.pow_succ, Nat.mul_comm]
theorem lb_append (m n N v : Nat) : lb m N ++ lb n v = lb (m + n) (N % 2 ^ m + 2 ^ m * v) := by
  induction m generalizing N with
  | zero => simp [lb_zero, Nat.mod_one]
  | succ m ih =>
    rw [lb_cons, List.cons_append, ih, Nat.succ_add, lb_cons]
    have h0 : 0 < 2 ^ m := Nat.pow_pos (by omega)
    have h1 : N % 2 ^ (m + 1) = N % 2 + 2 * (N / 2 % 2 ^ m) := by rw [Nat.pow_succ, Nat.mul_comm, Nat.mod_mul]
    have h2 : 2 ^ (m + 1) * v = 2 * (2 ^ m * v) := by rw [Nat.pow_succ]; simp [Nat.mul_comm, Nat.mul_left_comm]
    rw [h1, h2]
    congr 1
    · omega
    · congr 1
      omega
theorem lb_take {k u n : Nat} (h : n ≤ k) : (lb k u).take n = lb n u := by
  rw [lb, ← List.map_take, List.take_range]; simp [lb, Nat.min_eq_left h]
theorem lb_cut {m N p n : Nat} (h : p + n ≤ m) : ((lb m N).drop p).take n = lb n (N / 2 ^ p) := by
  refine List.ext_getElem (by simp [lb_len]; omega) fun i h1 h2 => ?_
  rw [lb_len] at h2
  simp [lb, Nat.div_div_eq_div_mul, Nat.pow_add]
theorem mod_succ (u k : Nat) : u % 2 ^ (k + 1) = u % 2 ^ k + 2 ^ k * (u / 2 ^ k % 2) := by rw [Nat.pow_succ, Nat.mod_mul]
/-- from the top: what was seen, and one bit more -/
theorem top_step {u n j : Nat} (h : j < n) : 2 * (u % 2 ^ n / 2 ^ (j + 1)) + u / 2 ^ j % 2 = u % 2 ^ n / 2 ^ j := by
  have e : u / 2 ^ j % 2 = u % 2 ^ n / 2 ^ j % 2 := by
    have := Nat.testBit_mod_two_pow u n j
    rw [Nat.testBit_eq_decide_div_mod_eq, Nat.testBit_eq_decide_div_mod_eq] at this
    simp only [h, decide_true, Bool.true_and, decide_eq_decide] at this
    omega
  rw [e, Nat.pow_succ, ← Nat.div_div_eq_div_mul]
  omega

/-- the k lowest bits of u, turned about -/
def rev : Nat → Nat → Nat
  | 0, _ => 0
  | k + 1, u => 2 * rev k u + u / 2 ^ k % 2
theorem rev_lt (k u : Nat) : rev k u < 2 ^ k := by
  induction k with
  | zero => simp [rev]
  | succ k ih => rw [rev, Nat.pow_succ]; omega
theorem lb_reverse (k u : Nat) : (lb k u).reverse = lb k (rev k u) := by
  induction k with
  | zero => rfl
  | succ k ih =>
    rw [lb_snoc, List.reverse_append, List.reverse_singleton, ih, List.singleton_append, lb_cons, rev]
    congr 1
    · omega
    · congr 1
      omega

theorem lb_bytes (bs : List UInt8) (b : UInt8) : lb (8 * bs.length) (num bs) ++ lb 8 b.toNat = lb (8 * (bs ++ [b]).length) (num (bs ++ [b])) := by
  have h := num_lt bs
  rw [lb_append, num_append, List.length_append]
  have e : 2 ^ (8 * bs.length) = 256 ^ bs.length := pow256 _
  rw [e, Nat.mod_eq_of_lt h]
  simp [num, Nat.mul_add]
theorem lb_bytes_all (xs ys : List UInt8) : lb (8 * xs.length) (num xs) ++ lb (8 * ys.length) (num ys) = lb (8 * (xs ++ ys).length) (num (xs ++ ys)) := by
  have h := num_lt xs
  have e : 2 ^ (8 * xs.length) = 256 ^ xs.length := pow256 _
  rw [lb_append, num_append, List.length_append, e, Nat.mod_eq_of_lt h, Nat.mul_add]

theorem num_cut_drop (bs : List UInt8) (i : Nat) : num (bs.drop i) = num bs / 256 ^ i := by
  by_cases hi : i ≤ bs.length
  · have h := num_append (bs.take i) (bs.drop i)
    rw [List.take_append_drop] at h
    have hl := num_lt (bs.take i)
    rw [List.length_take, Nat.min_eq_left hi] at h hl
    rw [h, Nat.add_comm, Nat.mul_add_div (Nat.pow_pos (by omega)), Nat.div_eq_of_lt hl, Nat.add_zero]
  · rw [List.drop_of_length_le (by omega)]
    have h1 := num_lt bs
    have h2 : 256 ^ bs.length ≤ 256 ^ i := Nat.pow_le_pow_right (by omega) (by omega)
    rw [Nat.div_eq_of_lt (by omega)]
    rfl
theorem num_cut_take (bs : List UInt8) (i : Nat) (hi : i ≤ bs.length) : num (bs.take i) = num bs % 256 ^ i := by
  have h := num_append (bs.take i) (bs.drop i)
  rw [List.take_append_drop] at h
  have hl := num_lt (bs.take i)
  rw [List.length_take, Nat.min_eq_left hi] at h hl
  rw [h, Nat.add_mul_mod_self_left, Nat.mod_eq_of_lt hl]
/-- n bits from p on, out of the bytes that hold them -/
theorem bits_of_bytes (bs : List UInt8) (p n k : Nat) (h : p % 8 + n ≤ 8 * k) (hk : p / 8 + k ≤ bs.length) : num ((bs.drop (p / 8)).take k) / 2 ^ (p % 8) % 2 ^ n = num bs / 2 ^ p % 2 ^ n := by
  rw [num_cut_take _ _ (by rw [List.length_drop]; omega), num_cut_drop, ← pow256, ← pow256]
  have e : 2 ^ p = 2 ^ (8 * (p / 8)) * 2 ^ (p % 8) := by rw [← Nat.pow_add]; congr 1; omega
  rw [e, ← Nat.div_div_eq_div_mul]
  generalize num bs / 2 ^ (8 * (p / 8)) = u
  have e2 : 2 ^ (8 * k) = 2 ^ (p % 8) * (2 ^ n * 2 ^ (8 * k - (p % 8 + n))) := by rw [← Nat.pow_add, ← Nat.pow_add]; congr 1; omega
  rw [e2, Nat.mod_mul_right_div_self, Nat.mod_mul_right_mod]

/-- held within 0 to 24 -/
def held (z : Int) : Nat := if z < 0 then 0 else if 24 < z then 24 else z.toNat
theorem held_le (z : Int) : held z ≤ 24 := by unfold held; split <;> (try split) <;> omega
theorem held_lo {z : Int} (h : z < 0) : (0 : Int) = (held z : Int) := by unfold held; rw [if_pos h]; rfl
theorem held_hi {z : Int} (h : 24 < z) : (24 : Int) = (held z : Int) := by unfold held; rw [if_neg (by omega), if_pos h]; rfl
theorem held_mid {z : Int} (h1 : 0 ≤ z) (h2 : z ≤ 24) : z = (held z : Int) := by unfold held; rw [if_neg (by omega), if_neg (by omega)]; omega
theorem held_nat (n : Nat) (h : n ≤ 24) : held n = n := by have := held_mid (z := (n : Int)) (by omega) (by omega); omega

theorem pow24 {k : Nat} (h : k ≤ 24) : 1 ≤ 2 ^ k ∧ 2 ^ k ≤ 16777216 := ⟨Nat.pow_pos (by omega), by have := Nat.pow_le_pow_right (n := 2) (by omega) h; simpa using this⟩
theorem pow31 {k : Nat} (h : k ≤ 31) : 1 ≤ 2 ^ k ∧ 2 ^ k ≤ 2147483648 := ⟨Nat.pow_pos (by omega), by have := Nat.pow_le_pow_right (n := 2) (by omega) h; simpa using this⟩
theorem pow2i (k : Nat) : (2 : Int) ^ k = ((2 ^ k : Nat) : Int) := by simp

/-- 'v & (1<<n - 1)', also of numbers below 0 -/
theorem and_mask (z : Int) (n : Nat) (hn : n ≤ 62) : bits .and .i64 z (2 ^ n - 1) = ((u64 z % 2 ^ n : Nat) : Int) := by
  have hp : 1 ≤ 2 ^ n ∧ 2 ^ n ≤ 4611686018427387904 := ⟨Nat.pow_pos (by omega), by have := Nat.pow_le_pow_right (n := 2) (by omega) hn; simpa using this⟩
  have e : (2 : Int) ^ n - 1 = ((2 ^ n - 1 : Nat) : Int) := by rw [pow2i]; omega
  have h1 : (BitVec.ofInt 64 z).toNat = u64 z := by rw [BitVec.toNat_ofInt]; unfold u64; congr 1
  have h2 : u64 z % 2 ^ n < 2 ^ n := Nat.mod_lt _ (by omega)
  show IntKind.i64.wrap ((BitVec.ofInt 64 z &&& BitVec.ofInt 64 ((2 : Int) ^ n - 1)).toNat : Int) = _
  rw [e, BitVec.toNat_and, h1, ofInt_64 _ (by omega), Nat.and_two_pow_sub_one_eq_mod, IntKind.wrap_i64]
  omega

/-- a number below 0, or not: its bits as those of 64 -/
theorem bit_of (z : Int) (k : Nat) (hk : k ≤ 24) : z / 2 ^ k % 2 = ((u64 z / 2 ^ k % 2 : Nat) : Int) := by
  have h6 : k = 0 ∨ k = 1 ∨ k = 2 ∨ k = 3 ∨ k = 4 ∨ k = 5 ∨ k = 6 ∨ k = 7 ∨ k = 8 ∨ k = 9 ∨ k = 10 ∨ k = 11 ∨ k = 12 ∨ k = 13 ∨ k = 14 ∨ k = 15 ∨ k = 16 ∨ k = 17 ∨ k = 18 ∨ k = 19 ∨ k = 20 ∨ k = 21 ∨ k = 22 ∨ k = 23 ∨ k = 24 := by omega
  unfold u64
  rcases h6 with rfl | rfl | rfl | rfl | rfl | rfl | rfl | rfl | rfl | rfl | rfl | rfl | rfl | rfl | rfl | rfl | rfl | rfl | rfl | rfl | rfl | rfl | rfl | rfl | rfl <;> simp <;> omega
theorem and_one (z : Int) : bits .and .i64 z 1 = z % 2 := by
  have := and_mask z 1 (by omega)
  have e : z % 2 = ((u64 z % 2 : Nat) : Int) := by have := bit_of z 0 (by omega); simpa using this
  rw [e]
  simpa using this
theorem or_bit (a b : Nat) (ha : a < 4611686018427387904) (hb : b < 2) : bits .or .i64 (2 * (a : Int)) (b : Int) = ((2 * a + b : Nat) : Int) := by
  have h := or_nat (2 * a) b (by omega) (by omega)
  have e : ((2 * a : Nat) : Int) = 2 * (a : Int) := by omega
  rw [e] at h
  rw [h]
  have h2 := Nat.two_pow_add_eq_or_of_lt (i := 1) (b := b) (by omega) a
  have h3 : 2 ^ 1 * a = 2 * a := by omega
  rw [h3] at h2
  rw [h2]
end Go.Proofs.YtmnegmebkmihhaaGreatDoor.bitnum
/-
  Moments, their numbers and their texts: plain mathematics, over no program. My own text.
-/
namespace Go.Proofs.YtmnegmebkmihhaaGreatDoor.dosnum
open Go.Proofs.YtmnegmebkmihhaaGreatDoor.num Go.Proofs.YtmnegmebkmihhaaGreatDoor.bitnum
set_option linter.unusedVariables false

/-- a moment, right or not -/
structure Mo where
  y : Int
  mo : Int
  d : Int
  h : Int
  mi : Int
  s : Int

def zero : Mo := ⟨0, 0, 0, 0, 0, 0⟩
def leap (y : Int) : Bool := (decide (y % 4 = 0) && !decide (y % 100 = 0)) || decide (y % 400 = 0)
def days (y m : Int) : Int := if m = 2 then (if leap y = true then 29 else 28) else if m = 4 ∨ m = 6 ∨ m = 9 ∨ m = 11 then 30 else 31
theorem days_bd (y m : Int) : 28 ≤ days y m ∧ days y m ≤ 31 := by
  unfold days
  split
  · split <;> omega
  · split <;> omega

structure Right (m : Mo) : Prop where
  y1 : 1980 ≤ m.y
  y2 : m.y ≤ 2107
  mo1 : 1 ≤ m.mo
  mo2 : m.mo ≤ 12
  d1 : 1 ≤ m.d
  d2 : m.d ≤ days m.y m.mo
  h1 : 0 ≤ m.h
  h2 : m.h ≤ 23
  mi1 : 0 ≤ m.mi
  mi2 : m.mi ≤ 59
  s1 : 0 ≤ m.s
  s2 : m.s ≤ 59

instance (m : Mo) : Decidable (Right m) :=
  decidable_of_iff (1980 ≤ m.y ∧ m.y ≤ 2107 ∧ 1 ≤ m.mo ∧ m.mo ≤ 12 ∧ 1 ≤ m.d ∧ m.d ≤ days m.y m.mo ∧ 0 ≤ m.h ∧ m.h ≤ 23 ∧ 0 ≤ m.mi ∧ m.mi ≤ 59 ∧ 0 ≤ m.s ∧ m.s ≤ 59)
    ⟨fun ⟨a, b, c, d, e, f, g, h, i, j, k, l⟩ => ⟨a, b, c, d, e, f, g, h, i, j, k, l⟩, fun ⟨a, b, c, d, e, f, g, h, i, j, k, l⟩ => ⟨a, b, c, d, e, f, g, h, i, j, k, l⟩⟩

theorem zero_not : ¬ Right zero := fun h => by have := h.y1; simp [zero] at this
/-- the number of a moment -/
def no (m : Mo) : Int := ((m.y - 1980) * 512 + m.mo * 32 + m.d) * 65536 + m.h * 2048 + m.mi * 32 + m.s / 2
/-- what a number has, whether it is a moment's or not -/
def parts (n : Int) : Mo := ⟨1980 + n / 33554432, n / 2097152 % 16, n / 65536 % 32, n / 2048 % 32, n / 32 % 64, n % 32 * 2⟩
/-- a moment, its second even -/
def even (m : Mo) : Mo := ⟨m.y, m.mo, m.d, m.h, m.mi, m.s / 2 * 2⟩

theorem no_bd {m : Mo} (r : Right m) : 0 ≤ no m ∧ no m ≤ 4294967295 := by
  obtain ⟨y, mo, d, h, mi, s⟩ := m
  obtain ⟨a, b, c, d, e, f, g, h, i, j, k, l⟩ := r
  have := days_bd y mo
  simp only [no] at *
  omega
theorem parts_no {m : Mo} (r : Right m) : parts (no m) = even m := by
  obtain ⟨y, mo, d, h, mi, s⟩ := m
  obtain ⟨a, b, c, d, e, f, g, h, i, j, k, l⟩ := r
  have := days_bd y mo
  simp only [no, parts, even, Mo.mk.injEq] at *
  omega
theorem no_parts {n : Int} : no (parts n) = n := by
  simp only [no, parts]
  omega
theorem parts_bd {n : Int} (r : Right (parts n)) : 0 ≤ n ∧ n ≤ 4294967295 := by
  have h1 := r.y1
  have h2 := r.y2
  simp only [parts] at h1 h2
  omega
theorem Right.even {m : Mo} (r : Right m) : Right (even m) := by
  obtain ⟨a, b, c, d, e, f, g, h, i, j, k, l⟩ := r
  refine ⟨a, b, c, d, e, f, g, h, i, j, ?_, ?_⟩ <;> simp only [dosnum.even] <;> omega

def draw (n lo hi : Int) : Int := if (if n < hi then n else hi) < lo then lo else (if n < hi then n else hi)
theorem draw_bd {n lo hi : Int} (h : lo ≤ hi) : lo ≤ draw n lo hi ∧ draw n lo hi ≤ hi := by unfold draw; split <;> (split at * <;> omega)
theorem draw_in {n lo hi : Int} (h1 : lo ≤ n) (h2 : n ≤ hi) : draw n lo hi = n := by unfold draw; split <;> (split at * <;> omega)
def within (m : Mo) : Mo :=
  ⟨draw m.y 1980 2107, draw m.mo 1 12, draw m.d 1 (days (draw m.y 1980 2107) (draw m.mo 1 12)), draw m.h 0 23, draw m.mi 0 59, draw m.s 0 59⟩
theorem within_right (m : Mo) : Right (within m) := by
  have hd := days_bd (draw m.y 1980 2107) (draw m.mo 1 12)
  have h1 := draw_bd (n := m.y) (lo := 1980) (hi := 2107) (by omega)
  have h2 := draw_bd (n := m.mo) (lo := 1) (hi := 12) (by omega)
  have h3 := draw_bd (n := m.d) (lo := 1) (hi := days (draw m.y 1980 2107) (draw m.mo 1 12)) (by omega)
  have h4 := draw_bd (n := m.h) (lo := 0) (hi := 23) (by omega)
  have h5 := draw_bd (n := m.mi) (lo := 0) (hi := 59) (by omega)
  have h6 := draw_bd (n := m.s) (lo := 0) (hi := 59) (by omega)
  exact ⟨h1.1, h1.2, h2.1, h2.2, h3.1, h3.2, h4.1, h4.2, h5.1, h5.2, h6.1, h6.2⟩
theorem within_of {m : Mo} (r : Right m) : within m = m := by
  obtain ⟨y, mo, d, h, mi, s⟩ := m
  obtain ⟨a, b, c, d, e, f, g, h, i, j, k, l⟩ := r
  simp only [within, Mo.mk.injEq] at *
  rw [draw_in a b, draw_in c d]
  exact ⟨rfl, rfl, draw_in e f, draw_in g h, draw_in i j, draw_in k l⟩
theorem within_iff {m : Mo} : m = within m ↔ Right m := ⟨fun h => by rw [h]; exact within_right m, fun r => (within_of r).symm⟩

/-- a number or'ed onto one that has none of its bits -/
theorem or_sum (a b : Int) (k : Nat) (hk : k ≤ 62) (ha : 0 ≤ a) (ha2 : a < 4611686018427387904) (hd : a % ((2 ^ k : Nat) : Int) = 0) (hb : 0 ≤ b) (hb2 : b < ((2 ^ k : Nat) : Int)) : bits .or .i64 a b = a + b := by
  have hp : 1 ≤ 2 ^ k ∧ 2 ^ k ≤ 4611686018427387904 := ⟨Nat.pow_pos (by omega), by have := Nat.pow_le_pow_right (n := 2) (by omega) hk; simpa using this⟩
  obtain ⟨A, rfl⟩ := Int.eq_ofNat_of_zero_le ha
  obtain ⟨B, rfl⟩ := Int.eq_ofNat_of_zero_le hb
  rw [or_nat A B (by omega) (by omega)]
  have hA : A % 2 ^ k = 0 := by omega
  obtain ⟨q, rfl⟩ : ∃ q, A = 2 ^ k * q := ⟨A / 2 ^ k, by have := Nat.div_add_mod A (2 ^ k); omega⟩
  have h := Nat.two_pow_add_eq_or_of_lt (i := k) (b := B) (by omega) q
  rw [← h]
  omega
/-- the lowest bits, also of a number below 0 -/
theorem and_low (z : Int) (hz : -9223372036854775808 ≤ z ∧ z ≤ 9223372036854775807) (k : Nat) (hk : k ≤ 24) : bits .and .i64 z ((2 ^ k - 1 : Nat) : Int) = z % ((2 ^ k : Nat) : Int) := by
  have h6 : k = 0 ∨ k = 1 ∨ k = 2 ∨ k = 3 ∨ k = 4 ∨ k = 5 ∨ k = 6 ∨ k = 7 ∨ k = 8 ∨ k = 9 ∨ k = 10 ∨ k = 11 ∨ k = 12 ∨ k = 13 ∨ k = 14 ∨ k = 15 ∨ k = 16 ∨ k = 17 ∨ k = 18 ∨ k = 19 ∨ k = 20 ∨ k = 21 ∨ k = 22 ∨ k = 23 ∨ k = 24 := by omega
  have e : ((2 ^ k - 1 : Nat) : Int) = (2 : Int) ^ k - 1 := by have : 1 ≤ 2 ^ k := Nat.pow_pos (by omega); rw [pow2i]; omega
  rw [e, and_mask z k (by omega)]
  unfold u64
  rcases h6 with rfl | rfl | rfl | rfl | rfl | rfl | rfl | rfl | rfl | rfl | rfl | rfl | rfl | rfl | rfl | rfl | rfl | rfl | rfl | rfl | rfl | rfl | rfl | rfl | rfl <;> simp <;> omega
theorem and15 (z : Int) (hz : -9223372036854775808 ≤ z ∧ z ≤ 9223372036854775807) : bits .and .i64 z 15 = z % 16 := by simpa using and_low z hz 4 (by omega)
theorem and31 (z : Int) (hz : -9223372036854775808 ≤ z ∧ z ≤ 9223372036854775807) : bits .and .i64 z 31 = z % 32 := by simpa using and_low z hz 5 (by omega)
theorem and63 (z : Int) (hz : -9223372036854775808 ≤ z ∧ z ≤ 9223372036854775807) : bits .and .i64 z 63 = z % 64 := by simpa using and_low z hz 6 (by omega)

end Go.Proofs.YtmnegmebkmihhaaGreatDoor.dosnum
