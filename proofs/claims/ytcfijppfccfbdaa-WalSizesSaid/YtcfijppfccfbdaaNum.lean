/-
  Numbers as bytes, the lowest first: plain mathematics, over no program. My own text.
-/
import Derived.WalkKit
namespace Go.Proofs.Ytcfijppfccfbdaa.num

/-- the number of some bytes -/
def num : List UInt8 → Nat
  | [] => 0
  | b :: r => b.toNat + 256 * num r

/-- the k lowest bytes of a number -/
def low : Nat → Nat → List UInt8
  | 0, _ => []
  | k + 1, u => UInt8.ofNat (u % 256) :: low k (u / 256)

/-- an int as it stands in 64 bits -/
def u64 (z : Int) : Nat := (z % 18446744073709551616).toNat

theorem low_length (k u : Nat) : (low k u).length = k := by
  induction k generalizing u with
  | zero => rfl
  | succ k ih => simp [low, ih]

theorem num_append (a b : List UInt8) : num (a ++ b) = num a + 256 ^ a.length * num b := by
  induction a with
  | nil => simp [num]
  | cons x r ih =>
    simp only [List.cons_append, num, ih, List.length_cons, Nat.pow_succ]
    rw [Nat.mul_add, Nat.add_assoc, ← Nat.mul_assoc, Nat.mul_comm 256 (256 ^ r.length)]

theorem num_lt (a : List UInt8) : num a < 256 ^ a.length := by
  induction a with
  | nil => simp [num]
  | cons x r ih =>
    have hx := x.toNat_lt
    simp only [num, List.length_cons, Nat.pow_succ]
    omega

theorem ofNat_toNat (n : Nat) (h : n < 256) : (UInt8.ofNat n).toNat = n := by
  simp [UInt8.toNat_ofNat']; omega

theorem num_low (k u : Nat) : num (low k u) = u % 256 ^ k := by
  induction k generalizing u with
  | zero => simp [low, num, Nat.mod_one]
  | succ k ih =>
    simp only [low, num, ih]
    rw [ofNat_toNat _ (Nat.mod_lt _ (by omega)), Nat.pow_succ, Nat.mul_comm (256 ^ k) 256, Nat.mod_mul]

theorem low_succ (k u : Nat) : low (k + 1) u = low k u ++ [UInt8.ofNat (u / 256 ^ k % 256)] := by
  induction k generalizing u with
  | zero => simp [low]
  | succ k ih =>
    rw [low, ih, low, List.cons_append, Nat.div_div_eq_div_mul, Nat.pow_succ, Nat.mul_comm 256]

theorem num_drop (bs : List UInt8) (k : Nat) (x : UInt8) (h : bs[k]? = some x) : num (bs.drop k) = 256 * num (bs.drop (k + 1)) + x.toNat := by
  obtain ⟨hk, rfl⟩ := List.getElem?_eq_some_iff.1 h
  rw [List.drop_eq_getElem_cons hk, num]
  omega

theorem take_snoc {α : Type} (bs : List α) (k : Nat) (x : α) (h : bs[k]? = some x) : bs.take (k + 1) = bs.take k ++ [x] := by
  obtain ⟨hk, rfl⟩ := List.getElem?_eq_some_iff.1 h
  rw [List.take_succ_eq_append_getElem hk]

theorem num_take (bs : List UInt8) (k : Nat) (x : UInt8) (h : bs[k]? = some x) : num (bs.take (k + 1)) = num (bs.take k) + 256 ^ k * x.toNat := by
  have hl : (bs.take k).length = k := by
    obtain ⟨hk, rfl⟩ := List.getElem?_eq_some_iff.1 h
    rw [List.length_take]; omega
  rw [take_snoc _ _ _ h, num_append, hl]
  simp [num]

theorem pow7 {k : Nat} (h : k ≤ 7) : 256 ^ k ≤ 72057594037927936 := by
  have := Nat.pow_le_pow_right (n := 256) (by omega) h
  simpa using this

theorem num_lt7 (a : List UInt8) (h : a.length ≤ 7) : num a < 72057594037927936 := Nat.lt_of_lt_of_le (num_lt a) (pow7 h)

theorem u64_lt (z : Int) : u64 z < 18446744073709551616 := by unfold u64; omega
theorem u64_nonneg (z : Int) (h : 0 ≤ z) (h2 : z ≤ 9223372036854775807) : (u64 z : Int) = z := by unfold u64; omega

theorem pow256 (k : Nat) : (2 : Nat) ^ (8 * k) = 256 ^ k := by rw [Nat.pow_mul]
theorem pow256i (k : Nat) : (2 : Int) ^ (8 * k) = ((256 ^ k : Nat) : Int) := by rw [← pow256]; simp

theorem ofInt_64 (a : Nat) (ha : a < 9223372036854775808) : (BitVec.ofInt 64 (a : Int)).toNat = a := by
  rw [BitVec.ofInt_natCast, BitVec.toNat_ofNat]; exact Nat.mod_eq_of_lt (by omega)

theorem or_nat (a b : Nat) (ha : a < 9223372036854775808) (hb : b < 9223372036854775808) : bits .or .i64 (a : Int) (b : Int) = ((a ||| b : Nat) : Int) := by
  have hx : a ||| b < 2 ^ 63 := Nat.or_lt_two_pow (by omega) (by omega)
  show IntKind.i64.wrap ((BitVec.ofInt 64 (a : Int) ||| BitVec.ofInt 64 (b : Int)).toNat : Int) = _
  rw [BitVec.toNat_or, ofInt_64 a ha, ofInt_64 b hb, IntKind.wrap_i64]
  omega

theorem or_high (a k x : Nat) (ha : a < 256 ^ k) (hk : k ≤ 6) (hx : x < 256) :
    bits .or .i64 (a : Int) (RowKit.wrap64 ((x : Int) * 2 ^ (8 * k))) = ((a + 256 ^ k * x : Nat) : Int) := by
  have h6 : 256 ^ k ≤ 281474976710656 := by
    have := Nat.pow_le_pow_right (n := 256) (by omega) hk
    simpa using this
  have h7 : 256 ^ k * x ≤ 281474976710656 * 255 := Nat.mul_le_mul h6 (by omega)
  have e : (x : Int) * 2 ^ (8 * k) = ((256 ^ k * x : Nat) : Int) := by rw [pow256i, Nat.mul_comm]; simp
  rw [e, IntWalk.wrap64_in _ ⟨by omega, by omega⟩, or_nat _ _ (by omega) (by omega)]
  have h := Nat.shiftLeft_add_eq_or_of_lt (i := 8 * k) (b := a) (by rw [pow256]; exact ha) x
  rw [Nat.shiftLeft_eq, pow256, Nat.mul_comm x] at h
  rw [Nat.or_comm, ← h, Nat.add_comm]

theorem wrap_u64 (z : Int) : IntKind.u64.wrap z = (u64 z : Int) := by
  have : IntKind.u64.wrap z = z % 18446744073709551616 := by simp [IntKind.wrap, IntKind.signed, IntKind.bits]
  rw [this]; unfold u64; omega

theorem fits_test (z : Int) (k : Nat) (hz : -9223372036854775808 ≤ z ∧ z ≤ 9223372036854775807) (hk : 1 ≤ k ∧ k ≤ 7) : (IntKind.u64.wrap z / 2 ^ (8 * k) != 0) = !decide (0 ≤ z ∧ z < 256 ^ k) := by
  have hp : (256 : Nat) ^ k ≤ 72057594037927936 := pow7 hk.2
  have h0 : 0 < (256 : Nat) ^ k := Nat.pow_pos (by omega)
  have e : (256 : Int) ^ k = ((256 ^ k : Nat) : Int) := by simp
  rw [wrap_u64, pow256i, e, ← Int.natCast_ediv]
  generalize (256 : Nat) ^ k = p at *
  by_cases h : 0 ≤ z ∧ z < (p : Int)
  · have h1 : u64 z < p := by unfold u64; omega
    have h2 : u64 z / p = 0 := Nat.div_eq_of_lt h1
    simp [h, h2]
  · have h1 : p ≤ u64 z := by unfold u64; omega
    have h2 : 0 < u64 z / p := Nat.div_pos h1 h0
    have h3 : ((u64 z / p : Nat) : Int) ≠ 0 := by omega
    have h4 : (((u64 z / p : Nat) : Int) != 0) = true := by rw [bne_iff_ne]; exact h3
    rw [h4]
    simp [h]

/-- 'byte(n >> (8 * i))' -/
theorem byte_shr (z : Int) (k : Nat) (hk : k ≤ 6) : z / 2 ^ (8 * k) % 256 = ((UInt8.ofNat (u64 z / 256 ^ k % 256)).toNat : Int) := by
  have h6 : k = 0 ∨ k = 1 ∨ k = 2 ∨ k = 3 ∨ k = 4 ∨ k = 5 ∨ k = 6 := by omega
  rw [ofNat_toNat _ (Nat.mod_lt _ (by omega)), u64]
  rcases h6 with rfl | rfl | rfl | rfl | rfl | rfl | rfl <;> simp <;> omega

end Go.Proofs.Ytcfijppfccfbdaa.num
