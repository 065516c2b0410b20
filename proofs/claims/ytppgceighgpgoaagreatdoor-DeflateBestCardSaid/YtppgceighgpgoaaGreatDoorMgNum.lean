import Derived.WalkKit
/- Several of my own texts, one behind the other. -/
/-
  Numbers as bytes, the lowest first: plain mathematics, over no program. My own text.
-/
namespace Go.Proofs.YtppgceighgpgoaaGreatDoor.num

/-- the number of some bytes -/
def num : List UInt8 → Nat
  | [] => 0
  | b :: r => b.toNat + 256 * num r

/-- the k lowest bytes of a number -/
def low : Nat → Nat → List UInt8
  | 0, _ => []
  | k + 1, u => UInt8.ofNat (u % 256) :: low k (u / 256)

/-- an int as it stands in 64 bits -/
def u64 (z : Int) : Nat := (z % 18446744073709551616).toNat

theorem low_length (k u : Nat) : (low k u).length = k := by
  induction k generalizing u with
  | zero => rfl
  | succ k ih => simp [low, ih]

theorem num_append (a b : List UInt8) : num (a ++ b) = num a + 256 ^ a.length * num b := by
  induction a with
  | nil => simp [num]
  | cons x r ih =>
    simp only [List.cons_append, num, ih, List.length_cons, Nat.pow_succ]
    rw [Nat.mul_add, Nat.add_assoc, ← Nat.mul_assoc, Nat.mul_comm 256 (256 ^ r.length)]

theorem num_lt (a : List UInt8) : num a < 256 ^ a.length := by
  induction a with
  | nil => simp [num]
  | cons x r ih =>
    have hx := x.toNat_lt
    simp only [num, List.length_cons, Nat.pow_succ]
    omega

theorem ofNat_toNat (n : Nat) (h : n < 256) : (UInt8.ofNat n).toNat = n := by
  simp [UInt8.toNat_ofNat']; omega

theorem num_low (k u : Nat) : num (low k u) = u % 256 ^ k := by
  induction k generalizing u with
  | zero => simp [low, num, Nat.mod_one]
  | succ k ih =>
    simp only [low, num, ih]
    rw [ofNat_toNat _ (Nat.mod_lt _ (by omega)), Nat.pow_succ, Nat.mul_comm (256 ^ k) 256, Nat.mod_mul]

theorem low_succ (k u : Nat) : low (k + 1) u = low k u ++ [UInt8.ofNat (u / 256 ^ k % 256)] := by
  induction k generalizing u with
  | zero => simp [low]
  | succ k ih =>
    rw [low, ih, low, List.cons_append, Nat.div_div_eq_div_mul, Nat.pow_succ, Nat.mul_comm 256]

theorem num_drop (bs : List UInt8) (k : Nat) (x : UInt8) (h : bs[k]? = some x) : num (bs.drop k) = 256 * num (bs.drop (k + 1)) + x.toNat := by
  obtain ⟨hk, rfl⟩ := List.getElem?_eq_some_iff.1 h
  rw [List.drop_eq_getElem_cons hk, num]
  omega

theorem take_snoc {α : Type} (bs : List α) (k : Nat) (x : α) (h : bs[k]? = some x) : bs.take (k + 1) = bs.take k ++ [x] := by
  obtain ⟨hk, rfl⟩ := List.getElem?_eq_some_iff.1 h
  rw [List.take_succ_eq_append_getElem hk]

theorem num_take (bs : List UInt8) (k : Nat) (x : UInt8) (h : bs[k]? = some x) : num (bs.take (k + 1)) = num (bs.take k) + 256 ^ k * x.toNat := by
  have hl : (bs.take k).length = k := by
    obtain ⟨hk, rfl⟩ := List.getElem?_eq_some_iff.1 h
    rw [List.length_take]; omega
  rw [take_snoc _ _ _ h, num_append, hl]
  simp [num]

theorem pow7 {k : Nat} (h : k ≤ 7) : 256 ^ k ≤ 72057594037927936 := by
  have := Nat.pow_le_pow_right (n := 256) (by omega) h
  simpa using this

theorem num_lt7 (a : List UInt8) (h : a.length ≤ 7) : num a < 72057594037927936 := Nat.lt_of_lt_of_le (num_lt a) (pow7 h)

theorem u64_lt (z : Int) : u64 z < 18446744073709551616 := by unfold u64; omega
theorem u64_nonneg (z : Int) (h : 0 ≤ z) (h2 : z ≤ 9223372036854775807) : (u64 z : Int) = z := by unfold u64; omega

theorem pow256 (k : Nat) : (2 : Nat) ^ (8 * k) = 256 ^ k := by rw [Nat.pow_mul]
theorem pow256i (k : Nat) : (2 : Int) ^ (8 * k) = ((256 ^ k : Nat) : Int) := by rw [← pow256]; simp

theorem ofInt_64 (a : Nat) (ha : a < 9223372036854775808) : (BitVec.ofInt 64 (a : Int)).toNat = a := by
  rw [BitVec.ofInt_natCast, BitVec.toNat_ofNat]; exact Nat.mod_eq_of_lt (by omega)

theorem or_nat (a b : Nat) (ha : a < 9223372036854775808) (hb : b < 9223372036854775808) : bits .or .i64 (a : Int) (b : Int) = ((a ||| b : Nat) : Int) := by
  have hx : a ||| b < 2 ^ 63 := Nat.or_lt_two_pow (by omega) (by omega)
  show IntKind.i64.wrap ((BitVec.ofInt 64 (a : Int) ||| BitVec.ofInt 64 (b : Int)).toNat : Int) = _
  rw [BitVec.toNat_or, ofInt_64 a ha, ofInt_64 b hb, IntKind.wrap_i64]
  omega

theorem or_high (a k x : Nat) (ha : a < 256 ^ k) (hk : k ≤ 6) (hx : x < 256) :
    bits .or .i64 (a : Int) (RowKit.wrap64 ((x : Int) * 2 ^ (8 * k))) = ((a + 256 ^ k * x : Nat) : Int) := by
  have h6 : 256 ^ k ≤ 281474976710656 := by
    have := Nat.pow_le_pow_right (n := 256) (by omega) hk
    simpa using this
  have h7 : 256 ^ k * x ≤ 281474976710656 * 255 := Nat.mul_le_mul h6 (by omega)
  have e : (x : Int) * 2 ^ (8 * k) = ((256 ^ k * x : Nat) : Int) := by rw [pow256i, Nat.mul_comm]; simp
  rw [e, IntWalk.wrap64_in _ ⟨by omega, by omega⟩, or_nat _ _ (by omega) (by omega)]
  have h := Nat.shiftLeft_add_eq_or_of_lt (i := 8 * k) (b := a) (by rw [pow256]; exact ha) x
  rw [Nat.shiftLeft_eq, pow256, Nat.mul_comm x] at h
  rw [Nat.or_comm, ← h, Nat.add_comm]

theorem wrap_u64 (z : Int) : IntKind.u64.wrap z = (u64 z : Int) := by
  have : IntKind.u64.wrap z = z % 18446744073709551616 := by simp [IntKind.wrap, IntKind.signed, IntKind.bits]
  rw [this]; unfold u64; omega

theorem fits_test (z : Int) (k : Nat) (hz : -9223372036854775808 ≤ z ∧ z ≤ 9223372036854775807) (hk : 1 ≤ k ∧ k ≤ 7) : (IntKind.u64.wrap z / 2 ^ (8 * k) != 0) = !decide (0 ≤ z ∧ z < 256 ^ k) := by
  have hp : (256 : Nat) ^ k ≤ 72057594037927936 := pow7 hk.2
  have h0 : 0 < (256 : Nat) ^ k := Nat.pow_pos (by omega)
  have e : (256 : Int) ^ k = ((256 ^ k : Nat) : Int) := by simp
  rw [wrap_u64, pow256i, e, ← Int.natCast_ediv]
  generalize (256 : Nat) ^ k = p at *
  by_cases h : 0 ≤ z ∧ z < (p : Int)
  · have h1 : u64 z < p := by unfold u64; omega
    have h2 : u64 z / p = 0 := Nat.div_eq_of_lt h1
    simp [h, h2]
  · have h1 : p ≤ u64 z := by unfold u64; omega
    have h2 : 0 < u64 z / p := Nat.div_pos h1 h0
    have h3 : ((u64 z / p : Nat) : Int) ≠ 0 := by omega
    have h4 : (((u64 z / p : Nat) : Int) != 0) = true := by rw [bne_iff_ne]; exact h3
    rw [h4]
    simp [h]

/-- 'byte(n >> (8 * i))' -/
theorem byte_shr (z : Int) (k : Nat) (hk : k ≤ 6) : z / 2 ^ (8 * k) % 256 = ((UInt8.ofNat (u64 z / 256 ^ k % 256)).toNat : Int) := by
  have h6 : k = 0 ∨ k = 1 ∨ k = 2 ∨ k = 3 ∨ k = 4 ∨ k = 5 ∨ k = 6 := by omega
  rw [ofNat_toNat _ (Nat.mod_lt _ (by omega)), u64]
  rcases h6 with rfl | rfl | rfl | rfl | rfl | rfl | rfl <;> simp <;> omega

end Go.Proofs.YtppgceighgpgoaaGreatDoor.num
/-
  Bits, the lowest first, as lists and as numbers: plain mathematics, over no program. My own text.
-/
namespace Go.Proofs.YtppgceighgpgoaaGreatDoor.bitnum
open Go.Proofs.YtppgceighgpgoaaGreatDoor.num
set_option linter.unusedVariables false

/-- the k lowest bits of u, the lowest first -/
def lb (k u : Nat) : List Nat := (List.range k).map fun i => u / 2 ^ i % 2
theorem lb_len (k u : Nat) : (lb k u).length = k := by simp [lb]
theorem lb_get {k u i : Nat} (h : i < k) : (lb k u)[i]? = some (u / 2 ^ i % 2) := by simp [lb, h]
theorem lb_zero (u : Nat) : lb 0 u = [] := rfl
theorem lb_snoc (k u : Nat) : lb (k + 1) u = lb k u ++ [u / 2 ^ k % 2] := by simp [lb, List.range_succ]
theorem lb_mod (k u : Nat) : lb k (u % 2 ^ k) = lb k u := by
  refine List.ext_getElem (by rw [lb_len, lb_len]) fun i h1 h2 => ?_
  rw [lb_len] at h1
  have := Nat.testBit_mod_two_pow u k i
  simp only [lb, List.getElem_map, List.getElem_range]
  rw [Nat.testBit_eq_decide_div_mod_eq, Nat.testBit_eq_decide_div_mod_eq] at this
  simp only [h1, decide_true, Bool.true_and, decide_eq_decide] at this
  omega
theorem lb_cons (k u : Nat) : lb (k + 1) u = u % 2 :: lb k (u / 2) := by
  refine List.ext_getElem (by simp [lb_len]) fun i h1 h2 => ?_
  cases i with
  | zero => simp [lb]
  | succ i => simp [lb, Nat.div_div_eq_div_mul, Nat.pow_succ, Nat.mul_comm]
theorem lb_append (m n N v : Nat) : lb m N ++ lb n v = lb (m + n) (N % 2 ^ m + 2 ^ m * v) := by
  induction m generalizing N with
  | zero => simp [lb_zero, Nat.mod_one]
  | succ m ih =>
    rw [lb_cons, List.cons_append, ih, Nat.succ_add, lb_cons]
    have h0 : 0 < 2 ^ m := Nat.pow_pos (by omega)
    have h1 : N % 2 ^ (m + 1) = N % 2 + 2 * (N / 2 % 2 ^ m) := by rw [Nat.pow_succ, Nat.mul_comm, Nat.mod_mul]
    have h2 : 2 ^ (m + 1) * v = 2 * (2 ^ m * v) := by rw [Nat.pow_succ]; simp [Nat.mul_comm, Nat.mul_left_comm]
    rw [h1, h2]
    congr 1
    · omega
    · congr 1
      omega
theorem lb_take {k u n : Nat} (h : n ≤ k) : (lb k u).take n = lb n u := by
  rw [lb, ← List.map_take, List.take_range]; simp [lb, Nat.min_eq_left h]
theorem lb_cut {m N p n : Nat} (h : p + n ≤ m) : ((lb m N).drop p).take n = lb n (N / 2 ^ p) := by
  refine List.ext_getElem (by simp [lb_len]; omega) fun i h1 h2 => ?_
  rw [lb_len] at h2
  simp [lb, Nat.div_div_eq_div_mul, Nat.pow_add]
theorem mod_succ (u k : Nat) : u % 2 ^ (k + 1) = u % 2 ^ k + 2 ^ k * (u / 2 ^ k % 2) := by rw [Nat.pow_succ, Nat.mod_mul]
/-- from the top: what was seen, and one bit more -/
theorem top_step {u n j : Nat} (h : j < n) : 2 * (u % 2 ^ n / 2 ^ (j + 1)) + u / 2 ^ j % 2 = u % 2 ^ n / 2 ^ j := by
  have e : u / 2 ^ j % 2 = u % 2 ^ n / 2 ^ j % 2 := by
    have := Nat.testBit_mod_two_pow u n j
    rw [Nat.testBit_eq_decide_div_mod_eq, Nat.testBit_eq_decide_div_mod_eq] at this
    simp only [h, decide_true, Bool.true_and, decide_eq_decide] at this
    omega
  rw [e, Nat.pow_succ, ← Nat.div_div_eq_div_mul]
  omega

/-- the k lowest bits of u, turned about -/
def rev : Nat → Nat → Nat
  | 0, _ => 0
  | k + 1, u => 2 * rev k u + u / 2 ^ k % 2
theorem rev_lt (k u : Nat) : rev k u < 2 ^ k := by
  induction k with
  | zero => simp [rev]
  | succ k ih => rw [rev, Nat.pow_succ]; omega
theorem lb_reverse (k u : Nat) : (lb k u).reverse = lb k (rev k u) := by
  induction k with
  | zero => rfl
  | succ k ih =>
    rw [lb_snoc, List.reverse_append, List.reverse_singleton, ih, List.singleton_append, lb_cons, rev]
    congr 1
    · omega
    · congr 1
      omega

theorem lb_bytes (bs : List UInt8) (b : UInt8) : lb (8 * bs.length) (num bs) ++ lb 8 b.toNat = lb (8 * (bs ++ [b]).length) (num (bs ++ [b])) := by
  have h := num_lt bs
  rw [lb_append, num_append, List.length_append]
  have e : 2 ^ (8 * bs.length) = 256 ^ bs.length := pow256 _
  rw [e, Nat.mod_eq_of_lt h]
  simp [num, Nat.mul_add]
theorem lb_bytes_all (xs ys : List UInt8) : lb (8 * xs.length) (num xs) ++ lb (8 * ys.length) (num ys) = lb (8 * (xs ++ ys).length) (num (xs ++ ys)) := by
  have h := num_lt xs
  have e : 2 ^ (8 * xs.length) = 256 ^ xs.length := pow256 _
  rw [lb_append, num_append, List.length_append, e, Nat.mod_eq_of_lt h, Nat.mul_add]

theorem num_cut_drop (bs : List UInt8) (i : Nat) : num (bs.drop i) = num bs / 256 ^ i := by
  by_cases hi : i ≤ bs.length
  · have h := num_append (bs.take i) (bs.drop i)
    rw [List.take_append_drop] at h
    have hl := num_lt (bs.take i)
    rw [List.length_take, Nat.min_eq_left hi] at h hl
    rw [h, Nat.add_comm, Nat.mul_add_div (Nat.pow_pos (by omega)), Nat.div_eq_of_lt hl, Nat.add_zero]
  · rw [List.drop_of_length_le (by omega)]
    have h1 := num_lt bs
    have h2 : 256 ^ bs.length ≤ 256 ^ i := Nat.pow_le_pow_right (by omega) (by omega)
    rw [Nat.div_eq_of_lt (by omega)]
    rfl
theorem num_cut_take (bs : List UInt8) (i : Nat) (hi : i ≤ bs.length) : num (bs.take i) = num bs % 256 ^ i := by
  have h := num_append (bs.take i) (bs.drop i)
  rw [List.take_append_drop] at h
  have hl := num_lt (bs.take i)
  rw [List.length_take, Nat.min_eq_left hi] at h hl
  rw [h, Nat.add_mul_mod_self_left, Nat.mod_eq_of_lt hl]
/-- n bits from p on, out of the bytes that hold them -/
theorem bits_of_bytes (bs : List UInt8) (p n k : Nat) (h : p % 8 + n ≤ 8 * k) (hk : p / 8 + k ≤ bs.length) : num ((bs.drop (p / 8)).take k) / 2 ^ (p % 8) % 2 ^ n = num bs / 2 ^ p % 2 ^ n := by
  rw [num_cut_take _ _ (by rw [List.length_drop]; omega), num_cut_drop, ← pow256, ← pow256]
  have e : 2 ^ p = 2 ^ (8 * (p / 8)) * 2 ^ (p % 8) := by rw [← Nat.pow_add]; congr 1; omega
  rw [e, ← Nat.div_div_eq_div_mul]
  generalize num bs / 2 ^ (8 * (p / 8)) = u
  have e2 : 2 ^ (8 * k) = 2 ^ (p % 8) * (2 ^ n * 2 ^ (8 * k - (p % 8 + n))) := by rw [← Nat.pow_add, ← Nat.pow_add]; congr 1; omega
  rw [e2, Nat.mod_mul_right_div_self, Nat.mod_mul_right_mod]

/-- held within 0 to 24 -/
def held (z : Int) : Nat := if z < 0 then 0 else if 24 < z then 24 else z.toNat
theorem held_le (z : Int) : held z ≤ 24 := by unfold held; split <;> (try split) <;> omega
theorem held_lo {z : Int} (h : z < 0) : (0 : Int) = (held z : Int) := by unfold held; rw [if_pos h]; rfl
theorem held_hi {z : Int} (h : 24 < z) : (24 : Int) = (held z : Int) := by unfold held; rw [if_neg (by omega), if_pos h]; rfl
theorem held_mid {z : Int} (h1 : 0 ≤ z) (h2 : z ≤ 24) : z = (held z : Int) := by unfold held; rw [if_neg (by omega), if_neg (by omega)]; omega
theorem held_nat (n : Nat) (h : n ≤ 24) : held n = n := by have := held_mid (z := (n : Int)) (by omega) (by omega); omega

theorem pow24 {k : Nat} (h : k ≤ 24) : 1 ≤ 2 ^ k ∧ 2 ^ k ≤ 16777216 := ⟨Nat.pow_pos (by omega), by have := Nat.pow_le_pow_right (n := 2) (by omega) h; simpa using this⟩
theorem pow31 {k : Nat} (h : k ≤ 31) : 1 ≤ 2 ^ k ∧ 2 ^ k ≤ 2147483648 := ⟨Nat.pow_pos (by omega), by have := Nat.pow_le_pow_right (n := 2) (by omega) h; simpa using this⟩
theorem pow2i (k : Nat) : (2 : Int) ^ k = ((2 ^ k : Nat) : Int) := by simp

/-- 'v & (1<<n - 1)', also of numbers below 0 -/
theorem and_mask (z : Int) (n : Nat) (hn : n ≤ 62) : bits .and .i64 z (2 ^ n - 1) = ((u64 z % 2 ^ n : Nat) : Int) := by
  have hp : 1 ≤ 2 ^ n ∧ 2 ^ n ≤ 4611686018427387904 := ⟨Nat.pow_pos (by omega), by have := Nat.pow_le_pow_right (n := 2) (by omega) hn; simpa using this⟩
  have e : (2 : Int) ^ n - 1 = ((2 ^ n - 1 : Nat) : Int) := by rw [pow2i]; omega
  have h1 : (BitVec.ofInt 64 z).toNat = u64 z := by rw [BitVec.toNat_ofInt]; unfold u64; congr 1
  have h2 : u64 z % 2 ^ n < 2 ^ n := Nat.mod_lt _ (by omega)
  show IntKind.i64.wrap ((BitVec.ofInt 64 z &&& BitVec.ofInt 64 ((2 : Int) ^ n - 1)).toNat : Int) = _
  rw [e, BitVec.toNat_and, h1, ofInt_64 _ (by omega), Nat.and_two_pow_sub_one_eq_mod, IntKind.wrap_i64]
  omega

/-- a number below 0, or not: its bits as those of 64 -/
theorem bit_of (z : Int) (k : Nat) (hk : k ≤ 24) : z / 2 ^ k % 2 = ((u64 z / 2 ^ k % 2 : Nat) : Int) := by
  have h6 : k = 0 ∨ k = 1 ∨ k = 2 ∨ k = 3 ∨ k = 4 ∨ k = 5 ∨ k = 6 ∨ k = 7 ∨ k = 8 ∨ k = 9 ∨ k = 10 ∨ k = 11 ∨ k = 12 ∨ k = 13 ∨ k = 14 ∨ k = 15 ∨ k = 16 ∨ k = 17 ∨ k = 18 ∨ k = 19 ∨ k = 20 ∨ k = 21 ∨ k = 22 ∨ k = 23 ∨ k = 24 := by omega
  unfold u64
  rcases h6 with rfl | rfl | rfl | rfl | rfl | rfl | rfl | rfl | rfl | rfl | rfl | rfl | rfl | rfl | rfl | rfl | rfl | rfl | rfl | rfl | rfl | rfl | rfl | rfl | rfl <;> simp <;> omega
theorem and_one (z : Int) : bits .and .i64 z 1 = z % 2 := by
  have := and_mask z 1 (by omega)
  have e : z % 2 = ((u64 z % 2 : Nat) : Int) := by have := bit_of z 0 (by omega); simpa using this
  rw [e]
  simpa using this
theorem or_bit (a b : Nat) (ha : a < 4611686018427387904) (hb : b < 2) : bits .or .i64 (2 * (a : Int)) (b : Int) = ((2 * a + b : Nat) : Int) := by
  have h := or_nat (2 * a) b (by omega) (by omega)
  have e : ((2 * a : Nat) : Int) = 2 * (a : Int) := by omega
  rw [e] at h
  rw [h]
  have h2 := Nat.two_pow_add_eq_or_of_lt (i := 1) (b := b) (by omega) a
  have h3 : 2 ^ 1 * a = 2 * a := by omega
  rw [h3] at h2
  rw [h2]
end Go.Proofs.YtppgceighgpgoaaGreatDoor.bitnum
/-
  Codes by their lengths: plain mathematics, over no program. My own text.
-/
namespace Go.Proofs.YtppgceighgpgoaaGreatDoor.huffnum
open Go.Proofs.YtppgceighgpgoaaGreatDoor.num Go.Proofs.YtppgceighgpgoaaGreatDoor.bitnum
set_option linter.unusedVariables false

/-- the symbols whose length is n -/
def syms (ls : List Nat) (n : Nat) : List Nat := (List.range ls.length).filter fun s => decide (ls[s]? = some n)
theorem syms_nil (n : Nat) : syms [] n = [] := rfl
theorem syms_snoc (ls : List Nat) (x n : Nat) : syms (ls ++ [x]) n = syms ls n ++ (if x = n then [ls.length] else []) := by
  unfold syms
  rw [List.length_append, List.length_singleton, List.range_succ, List.filter_append]
  congr 1
  · refine List.filter_congr fun s hs => ?_
    rw [List.mem_range] at hs
    rw [List.getElem?_append_left hs]
  · by_cases h : x = n <;> simp [h]
theorem take_one_more {α : Type} (l : List α) (j : Nat) (x : α) (h : l[j]? = some x) : l.take (j + 1) = l.take j ++ [x] := by rw [List.take_add_one, h]; rfl
theorem lt_of_get {α : Type} {l : List α} {j : Nat} {x : α} (h : l[j]? = some x) : j < l.length := (List.getElem?_eq_some_iff.1 h).1
theorem syms_more {ls : List Nat} {j x : Nat} (h : ls[j]? = some x) (n : Nat) : syms (ls.take (j + 1)) n = syms (ls.take j) n ++ (if x = n then [j] else []) := by
  have hj := lt_of_get h
  rw [take_one_more _ _ _ h, syms_snoc, List.length_take, Nat.min_eq_left (by omega)]
theorem count_more {ls : List Nat} {j x : Nat} (h : ls[j]? = some x) (n : Nat) : (ls.take (j + 1)).count n = (ls.take j).count n + (if x = n then 1 else 0) := by
  rw [take_one_more _ _ _ h, List.count_append]
  by_cases e : x = n <;> simp [e]
theorem syms_len_take (ls : List Nat) (n : Nat) : ∀ j, j ≤ ls.length → (syms (ls.take j) n).length = (ls.take j).count n
  | 0, _ => by simp [syms]
  | j + 1, h => by
    have hx : ls[j]? = some ls[j] := List.getElem?_eq_getElem (by omega)
    rw [syms_more hx, count_more hx, List.length_append, syms_len_take ls n j (by omega)]
    split <;> simp
theorem syms_len (ls : List Nat) (n : Nat) : (syms ls n).length = ls.count n := by
  have := syms_len_take ls n ls.length (Nat.le_refl _)
  rwa [List.take_length] at this
theorem syms_pre (ls : List Nat) (n j : Nat) : ∀ k, j + k ≤ ls.length → ∃ t, syms (ls.take (j + k)) n = syms (ls.take j) n ++ t
  | 0, _ => ⟨[], by simp⟩
  | k + 1, h => by
    obtain ⟨t, ht⟩ := syms_pre ls n j k (by omega)
    have hx : ls[j + k]? = some ls[j + k] := List.getElem?_eq_getElem (by omega)
    exact ⟨t ++ _, by rw [← Nat.add_assoc, syms_more hx, ht, List.append_assoc]⟩
/-- how many of the length n stand ahead of s -/
def rankOf (ls : List Nat) (s n : Nat) : Nat := (ls.take s).count n
theorem syms_at {ls : List Nat} {s n : Nat} (h : ls[s]? = some n) : (syms ls n)[rankOf ls s n]? = some s := by
  have hs := lt_of_get h
  obtain ⟨t, ht⟩ := syms_pre ls n (s + 1) (ls.length - (s + 1)) (by omega)
  rw [show s + 1 + (ls.length - (s + 1)) = ls.length by omega, List.take_length] at ht
  have hl := syms_len_take ls n s (by omega)
  rw [ht, syms_more h, if_pos rfl, rankOf, ← hl, List.append_assoc, List.getElem?_append_right (Nat.le_refl _), Nat.sub_self]
  rfl
theorem syms_mem {ls : List Nat} {s n : Nat} (h : s ∈ syms ls n) : ls[s]? = some n := by
  unfold syms at h
  rw [List.mem_filter] at h
  exact of_decide_eq_true h.2
theorem syms_of {ls : List Nat} {r s n : Nat} (h : (syms ls n)[r]? = some s) : ls[s]? = some n ∧ rankOf ls s n = r := by
  have h1 := syms_mem (List.mem_of_getElem? h)
  refine ⟨h1, ?_⟩
  have h2 := syms_at h1
  have hn : (syms ls n).Nodup := List.nodup_range.filter _
  exact (List.getElem?_inj (lt_of_get h2) hn).1 (h2.trans h.symm)
theorem rankOf_lt {ls : List Nat} {s n : Nat} (h : ls[s]? = some n) : rankOf ls s n < ls.count n := by
  have := lt_of_get (syms_at h)
  rwa [syms_len] at this
theorem syms_lt {ls : List Nat} {n : Nat} : ∀ s ∈ syms ls n, s < ls.length := fun s h => lt_of_get (syms_mem h)

/-- the number behind the last code of the length n -/
def nx (ls : List Nat) : Nat → Nat
  | 0 => 0
  | n + 1 => 2 * nx ls n + ls.count (n + 1)
/-- the first text of 15 bits that is begun by no code of up to n bits -/
def tx (ls : List Nat) (n : Nat) : Nat := nx ls n * 2 ^ (15 - n)
theorem tx_zero (ls : List Nat) : tx ls 0 = 0 := by simp [tx, nx]
theorem two_tx (ls : List Nat) {n : Nat} (h : n < 15) : 2 * nx ls n * 2 ^ (15 - (n + 1)) = tx ls n := by
  unfold tx
  rw [show 15 - n = (15 - (n + 1)) + 1 by omega, Nat.pow_succ, Nat.mul_comm 2 (nx ls n), Nat.mul_assoc, Nat.mul_comm 2]
theorem tx_succ (ls : List Nat) {n : Nat} (h : n < 15) : tx ls (n + 1) = tx ls n + ls.count (n + 1) * 2 ^ (15 - (n + 1)) := by
  rw [← two_tx ls h, tx, nx, Nat.add_mul]
theorem tx_mono (ls : List Nat) (m : Nat) : ∀ k, m + k ≤ 15 → tx ls m ≤ tx ls (m + k)
  | 0, _ => Nat.le_refl _
  | k + 1, h => by
    have := tx_mono ls m k (by omega)
    rw [← Nat.add_assoc, tx_succ ls (by omega)]
    omega
theorem tx_le (ls : List Nat) {m n : Nat} (h : m ≤ n) (hn : n ≤ 15) : tx ls m ≤ tx ls n := by
  have := tx_mono ls m (n - m) (by omega)
  rwa [show m + (n - m) = n by omega] at this
theorem tx_15 (ls : List Nat) : tx ls 15 = nx ls 15 := by simp [tx]
theorem nx_le {ls : List Nat} (h : tx ls 15 ≤ 32768) {n : Nat} (hn : n ≤ 15) : nx ls n ≤ 2 ^ n := by
  have h1 : tx ls n ≤ 32768 := Nat.le_trans (tx_le ls hn (Nat.le_refl _)) h
  unfold tx at h1
  have h2 : (32768 : Nat) = 2 ^ n * 2 ^ (15 - n) := by rw [← Nat.pow_add, show n + (15 - n) = 15 by omega]
  rw [h2] at h1
  exact Nat.le_of_mul_le_mul_right h1 (Nat.pow_pos (by omega))
theorem nx_over {ls : List Nat} {n : Nat} (hn : n ≤ 15) (h : 2 ^ n < nx ls n) : 32768 < tx ls 15 := by
  have h1 := tx_le ls hn (Nat.le_refl 15)
  have h2 : (32768 : Nat) = 2 ^ n * 2 ^ (15 - n) := by rw [← Nat.pow_add, show n + (15 - n) = 15 by omega]
  have h3 : 2 ^ n * 2 ^ (15 - n) < nx ls n * 2 ^ (15 - n) := Nat.mul_lt_mul_of_pos_right h (Nat.pow_pos (by omega))
  unfold tx at h1 ⊢
  omega
theorem tx_bound (ls : List Nat) : ∀ n, n ≤ 15 → tx ls n ≤ n * (16384 * ls.length)
  | 0, _ => by rw [tx_zero]; omega
  | n + 1, h => by
    have h1 := tx_bound ls n (by omega)
    have h2 : ls.count (n + 1) ≤ ls.length := List.count_le_length
    have h3 : 2 ^ (15 - (n + 1)) ≤ 16384 := by have := Nat.pow_le_pow_right (n := 2) (by omega) (show 15 - (n + 1) ≤ 14 by omega); simpa using this
    have h4 := Nat.mul_le_mul h2 h3
    rw [tx_succ ls (by omega), Nat.succ_mul]
    rw [Nat.mul_comm ls.length] at h4
    omega

/-- the code of s, whose length is n -/
def cd (ls : List Nat) (s n : Nat) : Nat := 2 * nx ls (n - 1) + rankOf ls s n
/-- the first text that it begins -/
def st (ls : List Nat) (s n : Nat) : Nat := cd ls s n * 2 ^ (15 - n)
theorem st_is {ls : List Nat} {s n : Nat} (h1 : 1 ≤ n) (h15 : n ≤ 15) : st ls s n = tx ls (n - 1) + rankOf ls s n * 2 ^ (15 - n) := by
  have := two_tx ls (n := n - 1) (by omega)
  rw [show n - 1 + 1 = n by omega] at this
  rw [st, cd, Nat.add_mul, this]
theorem cd_lt {ls : List Nat} {s n : Nat} (h : ls[s]? = some n) (h1 : 1 ≤ n) : cd ls s n < nx ls n := by
  have h2 := rankOf_lt h
  obtain ⟨m, rfl⟩ : ∃ m, n = m + 1 := ⟨n - 1, by omega⟩
  rw [cd, nx]
  simp
  omega
theorem st_hi {ls : List Nat} {s n : Nat} (h : ls[s]? = some n) (h1 : 1 ≤ n) : st ls s n + 2 ^ (15 - n) ≤ tx ls n := by
  have := Nat.mul_le_mul_right (2 ^ (15 - n)) (cd_lt h h1)
  rw [Nat.succ_mul] at this
  exact this
theorem st_lo {ls : List Nat} {s n : Nat} (h1 : 1 ≤ n) (h15 : n ≤ 15) : tx ls (n - 1) ≤ st ls s n := by
  rw [st_is h1 h15]; omega

theorem find (ls : List Nat) {t : Nat} (k : Nat) (hk : k ≤ 15) (h : t < tx ls k) : ∃ n, 1 ≤ n ∧ n ≤ k ∧ tx ls (n - 1) ≤ t ∧ t < tx ls n := by
  induction k with
  | zero => rw [tx_zero] at h; omega
  | succ k ih =>
    by_cases h2 : t < tx ls k
    · obtain ⟨n, a, b, c⟩ := ih (by omega) h2
      exact ⟨n, a, by omega, c⟩
    · exact ⟨k + 1, by omega, Nat.le_refl _, by rw [Nat.add_sub_cancel]; omega, h⟩
theorem pick {ls : List Nat} {t n : Nat} (h1 : 1 ≤ n) (h15 : n ≤ 15) (hlo : tx ls (n - 1) ≤ t) (hhi : t < tx ls n) :
    ∃ s, (syms ls n)[(t - tx ls (n - 1)) / 2 ^ (15 - n)]? = some s ∧ ls[s]? = some n ∧ st ls s n ≤ t ∧ t < st ls s n + 2 ^ (15 - n) := by
  have hp : 0 < 2 ^ (15 - n) := Nat.pow_pos (by omega)
  have hx := tx_succ ls (n := n - 1) (by omega)
  rw [show n - 1 + 1 = n by omega] at hx
  have hr : (t - tx ls (n - 1)) / 2 ^ (15 - n) < (syms ls n).length := by
    rw [syms_len, Nat.div_lt_iff_lt_mul hp]
    omega
  refine ⟨_, List.getElem?_eq_getElem hr, ?_⟩
  obtain ⟨h2, h3⟩ := syms_of (List.getElem?_eq_getElem hr)
  refine ⟨h2, ?_⟩
  rw [st_is h1 h15, h3]
  have h4 := Nat.div_add_mod (t - tx ls (n - 1)) (2 ^ (15 - n))
  have h5 := Nat.mod_lt (t - tx ls (n - 1)) hp
  rw [Nat.mul_comm] at h4
  omega
theorem same_place {a b t K : Nat} (h1 : a * K ≤ t) (h2 : t < a * K + K) (h3 : b * K ≤ t) (h4 : t < b * K + K) : a = b := by
  rcases Nat.lt_trichotomy a b with h | h | h
  · have := Nat.mul_le_mul_right K h
    rw [Nat.succ_mul] at this
    omega
  · exact h
  · have := Nat.mul_le_mul_right K h
    rw [Nat.succ_mul] at this
    omega
theorem uniq {ls : List Nat} {t s n s' n' : Nat} (h : ls[s]? = some n) (h1 : 1 ≤ n) (h15 : n ≤ 15) (hlo : st ls s n ≤ t) (hhi : t < st ls s n + 2 ^ (15 - n))
    (h' : ls[s']? = some n') (h1' : 1 ≤ n') (h15' : n' ≤ 15) (hlo' : st ls s' n' ≤ t) (hhi' : t < st ls s' n' + 2 ^ (15 - n')) : s = s' := by
  have a1 := st_lo (ls := ls) (s := s) h1 h15
  have a2 := st_hi h h1
  have b1 := st_lo (ls := ls) (s := s') h1' h15'
  have b2 := st_hi h' h1'
  have hn : n = n' := by
    rcases Nat.lt_trichotomy n n' with h0 | h0 | h0
    · have := tx_le ls (m := n) (n := n' - 1) (by omega) (by omega); omega
    · exact h0
    · have := tx_le ls (m := n') (n := n - 1) (by omega) (by omega); omega
  subst hn
  have hc := same_place hlo hhi hlo' hhi'
  have hr : rankOf ls s n = rankOf ls s' n := by unfold cd at hc; omega
  have e1 := syms_at h
  have e2 := syms_at h'
  rw [hr, e2] at e1
  injection e1 with e1
  exact e1.symm

/-! numbers turned about -/
theorem rev_top (A k : Nat) : ∀ j, rev (k + j) A / 2 ^ j = rev k A
  | 0 => by simp
  | j + 1 => by
    rw [← Nat.add_assoc, rev, Nat.pow_succ, Nat.mul_comm (2 ^ j) 2, ← Nat.div_div_eq_div_mul]
    rw [show (2 * rev (k + j) A + A / 2 ^ (k + j) % 2) / 2 = rev (k + j) A by omega]
    exact rev_top A k j
theorem rev_low {A m : Nat} (h : A < 2 ^ m) : ∀ j, rev (m + j) A = rev m A * 2 ^ j
  | 0 => by simp
  | j + 1 => by
    have hz : A / 2 ^ (m + j) = 0 := Nat.div_eq_of_lt (Nat.lt_of_lt_of_le h (Nat.pow_le_pow_right (by omega) (by omega)))
    rw [← Nat.add_assoc, rev, hz, rev_low h j, Nat.pow_succ, Nat.mul_comm (2 ^ j) 2, Nat.mul_left_comm]
    simp
theorem rev_inj (a b : Nat) : ∀ k, rev k a = rev k b ↔ a % 2 ^ k = b % 2 ^ k
  | 0 => by simp [rev, Nat.mod_one]
  | k + 1 => by
    rw [rev, rev, mod_succ, mod_succ]
    have ih := rev_inj a b k
    have h1 := Nat.mod_lt a (y := 2 ^ k) (Nat.pow_pos (by omega))
    have h2 := Nat.mod_lt b (y := 2 ^ k) (Nat.pow_pos (by omega))
    constructor
    · intro h
      have e1 : rev k a = rev k b := by omega
      have e2 : a / 2 ^ k % 2 = b / 2 ^ k % 2 := by omega
      rw [ih.1 e1, e2]
    · intro h
      have e2 : a / 2 ^ k % 2 = b / 2 ^ k % 2 := by
        have h3 : a / 2 ^ k % 2 = 0 ∨ a / 2 ^ k % 2 = 1 := by omega
        have h4 : b / 2 ^ k % 2 = 0 ∨ b / 2 ^ k % 2 = 1 := by omega
        rcases h3 with h3 | h3 <;> rcases h4 with h4 | h4 <;> rw [h3, h4] at h <;> simp only [Nat.mul_zero, Nat.mul_one, Nat.add_zero] at h <;> omega
      rw [e2] at h
      have e1 : a % 2 ^ k = b % 2 ^ k := by omega
      rw [ih.2 e1, e2]
theorem rev_mod (u : Nat) {k m : Nat} (h : k ≤ m) : rev k (u % 2 ^ m) = rev k u := by
  rw [rev_inj, Nat.mod_mod_of_dvd _ (Nat.pow_dvd_pow 2 h)]
theorem lb_inj {a b : Nat} : ∀ k, lb k a = lb k b → a % 2 ^ k = b % 2 ^ k
  | 0, _ => by simp [Nat.mod_one]
  | k + 1, h => by
    rw [lb_snoc, lb_snoc] at h
    have h1 := List.append_inj h (by rw [lb_len, lb_len])
    have h2 := lb_inj k h1.1
    have h3 : a / 2 ^ k % 2 = b / 2 ^ k % 2 := by simpa using h1.2
    rw [mod_succ, mod_succ, h2, h3]
theorem rev_rev (n v : Nat) : rev n (rev n v) = v % 2 ^ n := by
  have h : lb n (rev n (rev n v)) = lb n v := by rw [← lb_reverse, ← lb_reverse, List.reverse_reverse]
  have := lb_inj n h
  rwa [Nat.mod_eq_of_lt (rev_lt _ _)] at this

/-- what comes begins with the code c of n bits, as far as both go -/
theorem begins_iff {U many n c t : Nat} (hn : n ≤ 15) (hm : many ≤ 15) (hc : c < 2 ^ n) (ht : t = rev 15 (U % 2 ^ many)) :
    U % 2 ^ min n many = rev n c % 2 ^ min n many ↔ t / 2 ^ (15 - min n many) = c / 2 ^ (n - min n many) := by
  have h1 : min n many ≤ n := Nat.min_le_left _ _
  have h2 : min n many ≤ many := Nat.min_le_right _ _
  generalize min n many = k at h1 h2
  have e1 := rev_top (U % 2 ^ many) k (15 - k)
  rw [show k + (15 - k) = 15 by omega, ← ht, rev_mod _ h2] at e1
  have e2 := rev_top (rev n c) k (n - k)
  rw [show k + (n - k) = n by omega, rev_rev, Nat.mod_eq_of_lt hc] at e2
  rw [e1, e2, rev_inj]

/-- the three ways of what comes -/
structure Nxt (ls : List Nat) (many U t : Nat) : Prop where
  le : many ≤ 15
  text : t = rev 15 (U % 2 ^ many)
  fits : tx ls 15 ≤ 32768
  lens : ∀ n ∈ ls, n ≤ 15
/-- what comes begins with the code of s, as far as both go -/
def Begins (ls : List Nat) (many U s n : Nat) : Prop := U % 2 ^ min n many = rev n (cd ls s n) % 2 ^ min n many
section
variable {ls : List Nat} {many U t : Nat}
theorem Nxt.cd_lt (h : Nxt ls many U t) {s n : Nat} (hs : ls[s]? = some n) (h1 : 1 ≤ n) : cd ls s n < 2 ^ n :=
  Nat.lt_of_lt_of_le (huffnum.cd_lt hs h1) (nx_le h.fits (h.lens n (List.mem_of_getElem? hs)))
theorem Nxt.t_low (h : Nxt ls many U t) : t = t / 2 ^ (15 - many) * 2 ^ (15 - many) := by
  have hl : U % 2 ^ many < 2 ^ many := Nat.mod_lt _ (Nat.pow_pos (by omega))
  have e := rev_low hl (15 - many)
  rw [show many + (15 - many) = 15 by have := h.le; omega, ← h.text] at e
  rw [e, Nat.mul_div_cancel _ (Nat.pow_pos (by omega))]
/-- a code that is there whole -/
theorem Nxt.whole (h : Nxt ls many U t) {s n : Nat} (hs : ls[s]? = some n) (h1 : 1 ≤ n) (hle : n ≤ many) :
    Begins ls many U s n ↔ st ls s n ≤ t ∧ t < st ls s n + 2 ^ (15 - n) := by
  have hn := h.lens n (List.mem_of_getElem? hs)
  have hp : 0 < 2 ^ (15 - n) := Nat.pow_pos (by omega)
  unfold Begins
  rw [begins_iff hn h.le (h.cd_lt hs h1) h.text, Nat.min_eq_left hle, Nat.sub_self, Nat.pow_zero, Nat.div_one, st]
  have h4 := Nat.div_add_mod t (2 ^ (15 - n))
  have h5 := Nat.mod_lt t hp
  rw [Nat.mul_comm] at h4
  constructor
  · intro e
    rw [e] at h4
    omega
  · intro ⟨a, b⟩
    exact same_place (t := t) (by omega) (by omega) a b
/-- a code of which some bits lack -/
theorem Nxt.part (h : Nxt ls many U t) {s n : Nat} (hs : ls[s]? = some n) (h1 : 1 ≤ n) (hlt : many < n) (hb : Begins ls many U s n) : t ≤ st ls s n := by
  have hn := h.lens n (List.mem_of_getElem? hs)
  unfold Begins at hb
  rw [begins_iff hn h.le (h.cd_lt hs h1) h.text, Nat.min_eq_right (by omega)] at hb
  rw [h.t_low, hb, st]
  rw [show 15 - many = (n - many) + (15 - n) by omega, Nat.pow_add, ← Nat.mul_assoc]
  exact Nat.mul_le_mul_right _ (Nat.div_mul_le_self _ _)
theorem Nxt.part_of (h : Nxt ls many U t) {s n : Nat} (hs : ls[s]? = some n) (h1 : 1 ≤ n) (hlt : many < n) (hlo : st ls s n ≤ t) (hhi : t < st ls s n + 2 ^ (15 - n)) : Begins ls many U s n := by
  have hn := h.lens n (List.mem_of_getElem? hs)
  unfold Begins
  rw [begins_iff hn h.le (h.cd_lt hs h1) h.text, Nat.min_eq_right (by omega)]
  have e := h.t_low
  rw [show 15 - many = (n - many) + (15 - n) by omega] at e ⊢
  generalize t / 2 ^ (n - many + (15 - n)) = q at e
  rw [Nat.pow_add, ← Nat.mul_assoc] at e
  have hq := same_place (a := q * 2 ^ (n - many)) (b := cd ls s n) (t := t) (K := 2 ^ (15 - n)) (by omega) (by have : 0 < 2 ^ (15 - n) := Nat.pow_pos (by omega); omega) hlo hhi
  rw [← hq, Nat.mul_div_cancel _ (Nat.pow_pos (by omega))]
theorem Nxt.data (h : Nxt ls many U t) (hd : tx ls 15 ≤ t) {s n : Nat} (hs : ls[s]? = some n) (h1 : 1 ≤ n) : ¬ Begins ls many U s n := by
  intro hb
  have hn := h.lens n (List.mem_of_getElem? hs)
  have a := st_hi hs h1
  have b := tx_le ls hn (Nat.le_refl 15)
  have hp : 0 < 2 ^ (15 - n) := Nat.pow_pos (by omega)
  by_cases hle : n ≤ many
  · have := (h.whole hs h1 hle).1 hb; omega
  · have := h.part hs h1 (by omega) hb; omega
theorem Nxt.ends (h : Nxt ls many U t) {n : Nat} (h1 : 1 ≤ n) (h15 : n ≤ 15) (hlo : tx ls (n - 1) ≤ t) (hhi : t < tx ls n) (hlt : many < n) :
    (∃ s, ls[s]? = some n ∧ Begins ls many U s n) ∧ ∀ s' n', ls[s']? = some n' → 1 ≤ n' → Begins ls many U s' n' → many < n' := by
  obtain ⟨s, _, hs, a, b⟩ := pick h1 h15 hlo hhi
  refine ⟨⟨s, hs, h.part_of hs h1 hlt a b⟩, fun s' n' hs' h1' hb => ?_⟩
  by_cases hle : n' ≤ many
  · have hn := h.lens n' (List.mem_of_getElem? hs')
    obtain ⟨a', b'⟩ := (h.whole hs' h1' hle).1 hb
    have e := uniq hs h1 h15 a b hs' h1' hn a' b'
    subst e
    rw [hs] at hs'
    injection hs' with hs'
    omega
  · omega
theorem Nxt.comes (h : Nxt ls many U t) {n : Nat} (h1 : 1 ≤ n) (h15 : n ≤ 15) (hlo : tx ls (n - 1) ≤ t) (hhi : t < tx ls n) (hle : n ≤ many) :
    ∃ s, (syms ls n)[(t - tx ls (n - 1)) / 2 ^ (15 - n)]? = some s ∧ ls[s]? = some n ∧ Begins ls many U s n ∧ ∀ s' n', ls[s']? = some n' → 1 ≤ n' → n' ≤ many → Begins ls many U s' n' → s' = s := by
  obtain ⟨s, hg, hs, a, b⟩ := pick h1 h15 hlo hhi
  refine ⟨s, hg, hs, (h.whole hs h1 hle).2 ⟨a, b⟩, fun s' n' hs' h1' hle' hb => ?_⟩
  have hn := h.lens n' (List.mem_of_getElem? hs')
  obtain ⟨a', b'⟩ := (h.whole hs' h1' hle').1 hb
  exact uniq hs' h1' hn a' b' hs h1 h15 a b
end

/-- no code begins another one -/
theorem apart {ls : List Nat} (hf : tx ls 15 ≤ 32768) {s n s' m : Nat} (hs : ls[s]? = some n) (h1 : 1 ≤ n) (hnm : n ≤ m) (hs' : ls[s']? = some m) (h15 : m ≤ 15) (hne : s ≠ s') : cd ls s' m / 2 ^ (m - n) ≠ cd ls s n := by
  intro e
  have hp : 0 < 2 ^ (15 - m) := Nat.pow_pos (by omega)
  have h4 := Nat.div_add_mod (cd ls s' m) (2 ^ (m - n))
  have h5 := Nat.mod_lt (cd ls s' m) (y := 2 ^ (m - n)) (Nat.pow_pos (by omega))
  rw [e, Nat.mul_comm] at h4
  have h6 : 2 ^ (15 - n) = 2 ^ (m - n) * 2 ^ (15 - m) := by rw [← Nat.pow_add]; congr 1; omega
  have lo : st ls s n ≤ st ls s' m := by
    rw [st, st, h6, ← Nat.mul_assoc]
    exact Nat.mul_le_mul_right _ (by omega)
  have hi : st ls s' m < st ls s n + 2 ^ (15 - n) := by
    rw [st, st, h6, ← Nat.mul_assoc, ← Nat.add_mul]
    exact Nat.mul_lt_mul_of_pos_right (by omega) hp
  exact hne (uniq hs h1 (by omega) lo hi hs' (by omega) h15 (Nat.le_refl _) (by omega))
theorem cd_order {ls : List Nat} {s s' n : Nat} (hs : ls[s]? = some n) (hs' : ls[s']? = some n) : cd ls s n < cd ls s' n ↔ s < s' := by
  have mono : ∀ a b, a ≤ b → rankOf ls a n ≤ rankOf ls b n := fun a b hab => by
    unfold rankOf
    exact List.Sublist.count_le _ (List.take_sublist_take_left hab)
  have step : ∀ a, ls[a]? = some n → rankOf ls (a + 1) n = rankOf ls a n + 1 := fun a ha => by
    unfold rankOf
    rw [count_more ha, if_pos rfl]
  unfold cd
  constructor
  · intro h
    rcases Nat.lt_or_ge s s' with h0 | h0
    · exact h0
    · have := mono _ _ h0; omega
  · intro h
    have := mono (s + 1) s' h
    rw [step s hs] at this
    omega
end Go.Proofs.YtppgceighgpgoaaGreatDoor.huffnum
/-
  Unpacking, part by part: plain mathematics, over no program. My own text.
-/
namespace Go.Proofs.YtppgceighgpgoaaGreatDoor.infnum
open Go.Proofs.YtppgceighgpgoaaGreatDoor.num Go.Proofs.YtppgceighgpgoaaGreatDoor.bitnum Go.Proofs.YtppgceighgpgoaaGreatDoor.huffnum
set_option linter.unusedVariables false

/-- a part that is taken: of the number U, of which T bits are there, from the bit p on; what it is, and where the next one begins; or an error -/
abbrev Part (α : Type) : Type := Nat → Nat → Nat → Except Nat (α × Nat)
def give {α : Type} (a : α) : Part α := fun _ _ p => .ok (a, p)
def fail {α : Type} (e : Nat) : Part α := fun _ _ _ => .error e
def also {α β : Type} (f : Part α) (g : α → Part β) : Part β := fun U T p =>
  match f U T p with
  | .ok (a, q) => g a U T q
  | .error e => .error e
/-- n bits as a number -/
def take (n : Nat) : Part Nat := fun U T p => if p + n ≤ T then .ok (U / 2 ^ p % 2 ^ n, p + n) else .error 3
/-- on to a byte's beginning -/
def align : Part Unit := fun _ _ p => .ok ((), (p + 7) / 8 * 8)
/-- the length of the code that begins the text t -/
def lev (ls : List Nat) (t : Nat) : Nat := ((List.range 16).find? fun n => decide (t < tx ls n)).getD 0
/-- a symbol -/
def sym (ls : List Nat) : Part Nat := fun U T p =>
  let t := rev 15 (U / 2 ^ p % 2 ^ min 15 (T - p))
  if tx ls 15 ≤ t then .error 12
  else if min 15 (T - p) < lev ls t then .error 3
  else .ok (((syms ls (lev ls t))[(t - tx ls (lev ls t - 1)) / 2 ^ (15 - lev ls t)]?).getD 0, p + lev ls t)

theorem lev_is {ls : List Nat} {t n : Nat} (h1 : 1 ≤ n) (h15 : n ≤ 15) (hlo : tx ls (n - 1) ≤ t) (hhi : t < tx ls n) : lev ls t = n := by
  have h : (List.range 16).find? (fun n => decide (t < tx ls n)) = some n := by
    rw [List.find?_range_eq_some]
    refine ⟨by simpa using hhi, by rw [List.mem_range]; omega, fun j hj => ?_⟩
    have := tx_le ls (m := j) (n := n - 1) (by omega) (by omega)
    simp; omega
  rw [lev, h]; rfl
theorem lev_of {ls : List Nat} {t : Nat} (h : t < tx ls 15) : 1 ≤ lev ls t ∧ lev ls t ≤ 15 ∧ tx ls (lev ls t - 1) ≤ t ∧ t < tx ls (lev ls t) := by
  obtain ⟨n, h1, h15, hlo, hhi⟩ := find ls 15 (Nat.le_refl _) h
  rw [lev_is h1 h15 hlo hhi]
  exact ⟨h1, h15, hlo, hhi⟩

/-- what a part tells, and where it ends, hangs on the bits that it takes alone -/
def Loc {α : Type} (f : Part α) : Prop := ∀ U T p a q, f U T p = .ok (a, q) → p ≤ q ∧ ∀ U' T', q ≤ T' → U % 2 ^ q = U' % 2 ^ q → f U' T' p = .ok (a, q)
theorem same_low {U U' k q : Nat} (h : U % 2 ^ q = U' % 2 ^ q) (hk : k ≤ q) : U % 2 ^ k = U' % 2 ^ k := by
  rw [← Nat.mod_mod_of_dvd U (Nat.pow_dvd_pow 2 hk), h, Nat.mod_mod_of_dvd U' (Nat.pow_dvd_pow 2 hk)]
theorem same_cut {U U' p n q : Nat} (h : U % 2 ^ q = U' % 2 ^ q) (hn : p + n ≤ q) : U / 2 ^ p % 2 ^ n = U' / 2 ^ p % 2 ^ n := by
  have h2 := same_low h hn
  rw [Nat.pow_add] at h2
  rw [← Nat.mod_mul_right_div_self, h2, Nat.mod_mul_right_div_self]
section
variable {α β : Type}
theorem Loc.give (a : α) : Loc (give a) := fun U T p b q h => by
  injection h with h
  injection h with h1 h2
  subst h1; subst h2
  exact ⟨Nat.le_refl _, fun U' T' _ _ => rfl⟩
theorem Loc.fail (e : Nat) : Loc (fail (α := α) e) := fun U T p b q h => by cases h
theorem Loc.also {f : Part α} {g : α → Part β} (hf : Loc f) (hg : ∀ a, Loc (g a)) : Loc (also f g) := fun U T p b q h => by
  unfold infnum.also at h
  cases hfe : f U T p with
  | error e => rw [hfe] at h; cases h
  | ok x =>
    obtain ⟨a, m⟩ := x
    rw [hfe] at h
    obtain ⟨h1, h2⟩ := hf _ _ _ _ _ hfe
    obtain ⟨h3, h4⟩ := hg a _ _ _ _ _ h
    refine ⟨Nat.le_trans h1 h3, fun U' T' hq hs => ?_⟩
    unfold infnum.also
    rw [h2 U' T' (Nat.le_trans h3 hq) (same_low hs h3)]
    exact h4 U' T' hq hs
theorem Loc.ite {f g : Part α} {c : Prop} [Decidable c] (hf : Loc f) (hg : Loc g) : Loc (if c then f else g) := by split <;> assumption
theorem Loc.align : Loc align := fun U T p b q h => by
  injection h with h
  injection h with h1 h2
  subst h2
  exact ⟨by omega, fun U' T' _ _ => rfl⟩
theorem Loc.take (n : Nat) : Loc (take n) := fun U T p b q h => by
  unfold infnum.take at h
  split at h
  · injection h with h
    injection h with h1 h2
    subst h1; subst h2
    refine ⟨by omega, fun U' T' hq hs => ?_⟩
    unfold infnum.take
    rw [if_pos hq, same_cut hs (Nat.le_refl _)]
  · cases h
theorem Loc.sym (ls : List Nat) : Loc (sym ls) := fun U T p b q h => by
  unfold infnum.sym at h
  simp only at h
  split at h
  · cases h
  · rename_i hd
    split at h
    · cases h
    · rename_i hm
      obtain ⟨h1, h15, hlo, hhi⟩ := lev_of (Nat.not_le.1 hd)
      injection h with h
      injection h with e1 e2
      generalize hn : lev ls (rev 15 (U / 2 ^ p % 2 ^ min 15 (T - p))) = n at *
      subst e2
      refine ⟨by omega, fun U' T' hq hs => ?_⟩
      have ht := rev_top (U / 2 ^ p % 2 ^ min 15 (T - p)) n (15 - n)
      have ht' := rev_top (U' / 2 ^ p % 2 ^ min 15 (T' - p)) n (15 - n)
      have a1 := rev_mod (U / 2 ^ p) (k := n) (m := min 15 (T - p)) (by omega)
      have a2 := rev_mod (U' / 2 ^ p) (k := n) (m := min 15 (T' - p)) (by omega)
      rw [show n + (15 - n) = 15 by omega, a1] at ht
      rw [show n + (15 - n) = 15 by omega, a2] at ht'
      have hr : rev n (U / 2 ^ p) = rev n (U' / 2 ^ p) := (rev_inj _ _ n).2 (same_cut hs (Nat.le_refl _))
      rw [← hr, ← ht] at ht'
      unfold infnum.sym
      simp only
      generalize rev 15 (U / 2 ^ p % 2 ^ min 15 (T - p)) = t at *
      generalize rev 15 (U' / 2 ^ p % 2 ^ min 15 (T' - p)) = t' at *
      have hx := two_tx ls (n := n - 1) (by omega)
      rw [show n - 1 + 1 = n by omega] at hx
      have hp : 0 < 2 ^ (15 - n) := Nat.pow_pos (by omega)
      have hlo' : tx ls (n - 1) ≤ t' := by
        rw [← hx] at hlo ⊢
        rw [← Nat.le_div_iff_mul_le hp] at hlo ⊢
        rw [ht']; exact hlo
      have hhi' : t' < tx ls n := by
        unfold tx at hhi ⊢
        rw [← Nat.div_lt_iff_lt_mul hp] at hhi ⊢
        rw [ht']; exact hhi
      have h15' := tx_le ls h15 (Nat.le_refl 15)
      rw [if_neg (by omega), lev_is h1 h15 hlo' hhi', if_neg (by omega), ← e1]
      have hi : (t' - tx ls (n - 1)) / 2 ^ (15 - n) = (t - tx ls (n - 1)) / 2 ^ (15 - n) := by
        rw [← hx, Nat.mul_comm _ (2 ^ (15 - n)), Nat.sub_mul_div, Nat.sub_mul_div, ht']
      rw [hi]
end

/-- the same part so many times -/
def times {α : Type} (f : Part α) : Nat → Part (List α)
  | 0 => give []
  | n + 1 => also f fun a => also (times f n) fun l => give (a :: l)
theorem Loc.times {α : Type} {f : Part α} (hf : Loc f) : ∀ n, Loc (times f n)
  | 0 => Loc.give _
  | n + 1 => Loc.also hf fun a => Loc.also (Loc.times hf n) fun l => Loc.give _

/-- the lengths of the code of the lengths, by their symbols -/
def order : List Nat := [16, 17, 18, 0, 8, 7, 9, 6, 10, 5, 11, 4, 12, 3, 13, 2, 14, 1, 15]
def laid (l : List Nat) : List Nat := (List.range 19).map fun s => l.getD (order.idxOf s) 0
/-- may codes be? none: they may be none at all -/
def mayBe (ls : List Nat) (none : Bool) : Bool := decide (tx ls 15 ≤ 32768) && (decide (tx ls 15 = 32768) || decide (ls.sum = 1) || (none && decide (ls.sum = 0)))
/-- n lengths by the code c, behind l -/
def rep (c : List Nat) (n : Nat) : Nat → List Nat → Part (List Nat)
  | 0, l => fail 12
  | f + 1, l =>
    if n < l.length then fail 12
    else if n = l.length then give l
    else also (sym c) fun k =>
      if k = 16 then (match l.getLast? with
        | none => fail 12
        | some v => also (take 2) fun t => rep c n f (l ++ List.replicate (3 + t) v))
      else if k = 17 then also (take 3) fun t => rep c n f (l ++ List.replicate (3 + t) 0)
      else if k = 18 then also (take 7) fun t => rep c n f (l ++ List.replicate (11 + t) 0)
      else rep c n f (l ++ [k])
theorem Loc.rep (c : List Nat) (n : Nat) : ∀ f l, Loc (rep c n f l)
  | 0, l => Loc.fail _
  | f + 1, l => by
    unfold infnum.rep
    refine Loc.ite (Loc.fail _) (Loc.ite (Loc.give _) (Loc.also (Loc.sym c) fun k => Loc.ite ?_ (Loc.ite ?_ (Loc.ite ?_ ?_))))
    · cases l.getLast? with
      | none => exact Loc.fail _
      | some v => exact Loc.also (Loc.take 2) fun t => Loc.rep c n f _
    · exact Loc.also (Loc.take 3) fun t => Loc.rep c n f _
    · exact Loc.also (Loc.take 7) fun t => Loc.rep c n f _
    · exact Loc.rep c n f _
/-- two codes by their lengths -/
def codes : Part (List Nat × List Nat) :=
  also (take 5) fun n => also (take 5) fun d => also (take 4) fun k =>
    if 286 < 257 + n ∨ 30 < 1 + d then fail 12
    else also (times (take 3) (4 + k)) fun l =>
      if mayBe (laid l) false = false then fail 12
      else also (rep (laid l) (258 + n + d) (259 + n + d) []) fun a =>
        if a.getD 256 0 = 0 ∨ mayBe (a.take (257 + n)) false = false ∨ mayBe (a.drop (257 + n)) true = false then fail 12
        else give (a.take (257 + n), a.drop (257 + n))
theorem Loc.codes : Loc codes :=
  Loc.also (Loc.take 5) fun n => Loc.also (Loc.take 5) fun d => Loc.also (Loc.take 4) fun k =>
    Loc.ite (Loc.fail _) (Loc.also (Loc.times (Loc.take 3) _) fun l =>
      Loc.ite (Loc.fail _) (Loc.also (Loc.rep _ _ _ _) fun a => Loc.ite (Loc.fail _) (Loc.give _)))

def fixedLits : List Nat := (List.range 288).map fun i => if 144 ≤ i ∧ i < 256 then 9 else if 256 ≤ i ∧ i < 280 then 7 else 8
def fixedDist : List Nat := List.replicate 32 5
/-- of the length symbols, from 257 on: the first length, how many bits more -/
def longBase : List Nat := [3, 4, 5, 6, 7, 8, 9, 10, 11, 13, 15, 17, 19, 23, 27, 31, 35, 43, 51, 59, 67, 83, 99, 115, 131, 163, 195, 227, 258]
def longMore : List Nat := [0, 0, 0, 0, 0, 0, 0, 0, 1, 1, 1, 1, 2, 2, 2, 2, 3, 3, 3, 3, 4, 4, 4, 4, 5, 5, 5, 5, 0]
/-- of the distances -/
def farBase : List Nat := [1, 2, 3, 4, 5, 7, 9, 13, 17, 25, 33, 49, 65, 97, 129, 193, 257, 385, 513, 769, 1025, 1537, 2049, 3073, 4097, 6145, 8193, 12289, 16385, 24577]
def farMore (k : Nat) : Nat := if 4 ≤ k then k / 2 - 1 else 0
/-- n bytes more, each as it stands f ahead -/
def copied (f : Nat) : Nat → List UInt8 → List UInt8
  | 0, out => out
  | n + 1, out => copied f n (out ++ [out.getD (out.length - f) 0])
theorem copied_more (f : Nat) : ∀ n out, ∃ more, copied f n out = out ++ more ∧ more.length = n
  | 0, out => ⟨[], by simp [copied], rfl⟩
  | n + 1, out => by
    obtain ⟨m, h, hl⟩ := copied_more f n (out ++ [out.getD (out.length - f) 0])
    exact ⟨_ :: m, by rw [copied, h, List.append_assoc]; rfl, by simp [hl]⟩

/-- where unpacking is: ahead of a block; within bytes that are stored; within symbols by two codes -/
inductive Ph where
  | head
  | raw (left : Nat)
  | sy (lits dist : List Nat)
structure At where
  ph : Ph
  last : Bool
  out : List UInt8
/-- one part more -/
def one (s : At) : Part At :=
  match s.ph with
  | .head =>
    if s.last = true then fail 0
    else also (take 1) fun l => also (take 2) fun k =>
      if k = 0 then also align fun _ => also (take 16) fun n => also (take 16) fun t =>
        if n + t = 65535 then give ⟨.raw n, decide (l = 1), s.out⟩ else fail 12
      else if k = 1 then give ⟨.sy fixedLits fixedDist, decide (l = 1), s.out⟩
      else if k = 2 then also codes fun c => give ⟨.sy c.1 c.2, decide (l = 1), s.out⟩
      else fail 12
  | .raw 0 => give ⟨.head, s.last, s.out⟩
  | .raw (n + 1) => also (take 8) fun v => give ⟨.raw n, s.last, s.out ++ [UInt8.ofNat v]⟩
  | .sy a b => also (sym a) fun k =>
      if k < 256 then give ⟨.sy a b, s.last, s.out ++ [UInt8.ofNat k]⟩
      else if k = 256 then give ⟨.head, s.last, s.out⟩
      else if 285 < k then fail 12
      else also (take (longMore.getD (k - 257) 0)) fun e => also (sym b) fun d =>
        if 29 < d then fail 12
        else also (take (farMore d)) fun g =>
          if s.out.length < farBase.getD d 0 + g ∨ 32768 < farBase.getD d 0 + g then fail 12
          else give ⟨.sy a b, s.last, copied (farBase.getD d 0 + g) (longBase.getD (k - 257) 0 + e) s.out⟩
theorem Loc.one (s : At) : Loc (one s) := by
  obtain ⟨ph, last, out⟩ := s
  cases ph with
  | head =>
    exact Loc.ite (Loc.fail _) (Loc.also (Loc.take 1) fun l => Loc.also (Loc.take 2) fun k =>
      Loc.ite (Loc.also Loc.align fun _ => Loc.also (Loc.take 16) fun n => Loc.also (Loc.take 16) fun t => Loc.ite (Loc.give _) (Loc.fail _))
        (Loc.ite (Loc.give _) (Loc.ite (Loc.also Loc.codes fun c => Loc.give _) (Loc.fail _))))
  | raw n =>
    cases n with
    | zero => exact Loc.give _
    | succ n => exact Loc.also (Loc.take 8) fun v => Loc.give _
  | sy a b =>
    exact Loc.also (Loc.sym a) fun k => Loc.ite (Loc.give _) (Loc.ite (Loc.give _) (Loc.ite (Loc.fail _)
      (Loc.also (Loc.take _) fun e => Loc.also (Loc.sym b) fun d => Loc.ite (Loc.fail _) (Loc.also (Loc.take _) fun g => Loc.ite (Loc.fail _) (Loc.give _)))))
/-- a part brings bytes behind those that there are -/
def Grows (f : Part At) (out : List UInt8) : Prop := ∀ U T p s q, f U T p = .ok (s, q) → ∃ more, s.out = out ++ more
theorem Grows.fail (e : Nat) (out : List UInt8) : Grows (fail e) out := fun U T p s q h => by cases h
theorem Grows.give {s : At} {out : List UInt8} (h : ∃ more, s.out = out ++ more) : Grows (give s) out := fun U T p s' q hq => by
  injection hq with hq
  injection hq with h1 h2
  subst h1
  exact h
theorem Grows.also {α : Type} {f : Part α} {g : α → Part At} {out : List UInt8} (hg : ∀ a, Grows (g a) out) : Grows (also f g) out := fun U T p b q h => by
  unfold infnum.also at h
  cases hfe : f U T p with
  | error e => rw [hfe] at h; cases h
  | ok x => rw [hfe] at h; exact hg x.1 _ _ _ _ _ h
theorem Grows.ite {f g : Part At} {out : List UInt8} {c : Prop} [Decidable c] (hf : Grows f out) (hg : Grows g out) : Grows (if c then f else g) out := by split <;> assumption
theorem one_grows (s : At) : Grows (one s) s.out := by
  obtain ⟨ph, last, out⟩ := s
  have same : ∃ more, out = out ++ more := ⟨[], (List.append_nil _).symm⟩
  cases ph with
  | head =>
    exact Grows.ite (Grows.fail _ _) (Grows.also fun l => Grows.also fun k =>
      Grows.ite (Grows.also fun _ => Grows.also fun n => Grows.also fun t => Grows.ite (Grows.give same) (Grows.fail _ _))
        (Grows.ite (Grows.give same) (Grows.ite (Grows.also fun c => Grows.give same) (Grows.fail _ _))))
  | raw n =>
    cases n with
    | zero => exact Grows.give same
    | succ n => exact Grows.also fun v => Grows.give ⟨_, rfl⟩
  | sy a b =>
    exact Grows.also fun k => Grows.ite (Grows.give ⟨_, rfl⟩) (Grows.ite (Grows.give same) (Grows.ite (Grows.fail _ _)
      (Grows.also fun e => Grows.also fun d => Grows.ite (Grows.fail _ _) (Grows.also fun g => Grows.ite (Grows.fail _ _)
        (Grows.give (by obtain ⟨m, h, _⟩ := copied_more (farBase.getD d 0 + g) (longBase.getD (k - 257) 0 + e) out; exact ⟨m, h⟩))))))

/-- parts, one behind the other -/
inductive Steps (U T : Nat) : At × Nat → At × Nat → Prop where
  | refl (x : At × Nat) : Steps U T x x
  | more {s s' : At} {p q : Nat} {y : At × Nat} (h : one s U T p = .ok (s', q)) (r : Steps U T (s', q) y) : Steps U T (s, p) y
section
variable {U T : Nat} {x y z : At × Nat}
theorem Steps.trans (h : Steps U T x y) (k : Steps U T y z) : Steps U T x z := by
  induction h with
  | refl x => exact k
  | more h r ih => exact .more h (ih k)
theorem Steps.one {s s' : At} {p q : Nat} (h : one s U T p = .ok (s', q)) : Steps U T (s, p) (s', q) := .more h (.refl _)
theorem Steps.snoc {s s' : At} {p q : Nat} (h : Steps U T x (s, p)) (k : infnum.one s U T p = .ok (s', q)) : Steps U T x (s', q) := h.trans (.one k)
theorem Steps.le (h : Steps U T x y) : x.2 ≤ y.2 := by
  induction h with
  | refl x => exact Nat.le_refl _
  | more h r ih => exact Nat.le_trans (Loc.one _ _ _ _ _ _ h).1 ih
theorem Steps.out (h : Steps U T x y) : ∃ m, y.1.out = x.1.out ++ m := by
  induction h with
  | refl x => exact ⟨[], (List.append_nil _).symm⟩
  | more h r ih =>
    obtain ⟨m, hm⟩ := ih
    obtain ⟨m', hm'⟩ := one_grows _ _ _ _ _ _ h
    exact ⟨m' ++ m, by rw [hm, hm', List.append_assoc]⟩
theorem Steps.local_ (h : Steps U T x y) {U' T' : Nat} (hT : y.2 ≤ T') (hU : U % 2 ^ y.2 = U' % 2 ^ y.2) : Steps U' T' x y := by
  induction h with
  | refl x => exact .refl x
  | more h r ih =>
    have hl := r.le
    exact .more ((Loc.one _ _ _ _ _ _ h).2 U' T' (Nat.le_trans hl hT) (same_low hU hl)) (ih hT hU)
/-- of two roads from one place one is the other's beginning -/
theorem Steps.meet (h : Steps U T x y) (k : Steps U T x z) : Steps U T y z ∨ Steps U T z y := by
  induction h with
  | refl x => exact .inl k
  | more h r ih =>
    cases k with
    | refl => exact .inr (.more h r)
    | more h' r' =>
      rw [h] at h'
      injection h' with h'
      injection h' with h1 h2
      subst h1; subst h2
      exact ih r'
end
/-- all is unpacked -/
def Fin (s : At) : Prop := s.ph = .head ∧ s.last = true
theorem Fin.stuck {s : At} (h : Fin s) {U T p : Nat} {y : At × Nat} (k : Steps U T (s, p) y) : y = (s, p) := by
  cases k with
  | refl => rfl
  | more h' r =>
    unfold one at h'
    rw [h.1] at h'
    simp only [h.2, if_true] at h'
    cases h'
def start : At := ⟨.head, false, []⟩
/-- the bytes b are unpacked to x; the first n are needed -/
def Unp (b x : List UInt8) (n : Nat) : Prop := ∃ s p, Steps (num b) (8 * b.length) (start, 0) (s, p) ∧ Fin s ∧ s.out = x ∧ n = (p + 7) / 8 ∧ p ≤ 8 * b.length
theorem Unp.uniq {b x y : List UInt8} {n m : Nat} (h : Unp b x n) (k : Unp b y m) : x = y ∧ n = m := by
  obtain ⟨s, p, hs, hf, rfl, rfl, _⟩ := h
  obtain ⟨s', p', hs', hf', rfl, rfl, _⟩ := k
  rcases hs.meet hs' with h | h
  · have := hf.stuck h
    injection this with h1 h2
    subst h1; subst h2
    exact ⟨rfl, rfl⟩
  · have := hf'.stuck h
    injection this with h1 h2
    subst h1; subst h2
    exact ⟨rfl, rfl⟩
theorem Unp.le {b x : List UInt8} {n : Nat} (h : Unp b x n) : n ≤ b.length := by
  obtain ⟨s, p, hs, hf, rfl, rfl, hp⟩ := h
  omega
theorem num_agree {b b' : List UInt8} {p : Nat} (n : Nat) (hp : p ≤ 8 * n) (h : b.take n = b'.take n) (hb : n ≤ b.length) (hb' : n ≤ b'.length) : num b % 2 ^ p = num b' % 2 ^ p := by
  have h1 := num_cut_take b n hb
  have h2 := num_cut_take b' n hb'
  rw [h, h2, ← pow256] at h1
  exact same_low h1.symm hp
/-- what stands behind is not looked at -/
theorem Unp.behind {b b' x : List UInt8} {n : Nat} (h : Unp b x n) (hb' : n ≤ b'.length) (ht : b.take n = b'.take n) : Unp b' x n := by
  have hle := h.le
  obtain ⟨s, p, hs, hf, rfl, rfl, hp⟩ := h
  exact ⟨s, p, hs.local_ (by show p ≤ _; omega) (num_agree ((p + 7) / 8) (by show p ≤ _; omega) ht hle hb'), hf, rfl, rfl, by omega⟩
end Go.Proofs.YtppgceighgpgoaaGreatDoor.infnum
