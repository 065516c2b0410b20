import Derived.Test.YtcmeoappddpmcaaDoorMgNum
/-
  Bits written behind bits, byte by byte: plain mathematics, over no program. My own text.
-/
namespace Go.Proofs.YtcmeoappddpmcaaDoor.bitnum
open Go.Proofs.YtcmeoappddpmcaaDoor.num
set_option linter.unusedVariables false

theorem low_get {L N j : Nat} (h : j < L) : (low L N)[j]? = some (UInt8.ofNat (N / 256 ^ j % 256)) := by
  induction L generalizing N j with
  | zero => omega
  | succ L ih =>
    cases j with
    | zero => simp [low]
    | succ j =>
      rw [low, List.getElem?_cons_succ, ih (by omega), Nat.div_div_eq_div_mul, Nat.pow_succ, Nat.mul_comm 256]
/-- the bytes of N, the first k of them those of M -/
def mix (L N M k : Nat) : List UInt8 := (List.range L).map fun j => UInt8.ofNat (if j < k then M / 256 ^ j % 256 else N / 256 ^ j % 256)
theorem mix_len (L N M k : Nat) : (mix L N M k).length = L := by simp [mix]
theorem mix_get {L N M k j : Nat} (h : j < L) : (mix L N M k)[j]? = some (UInt8.ofNat (if j < k then M / 256 ^ j % 256 else N / 256 ^ j % 256)) := by simp [mix, h]
theorem mix_set {L N M k : Nat} (h : k < L) : (mix L N M k).set k (UInt8.ofNat (M / 256 ^ k % 256)) = mix L N M (k + 1) := by
  apply List.ext_getElem?
  intro j
  by_cases hj : j < L
  · rw [List.getElem?_set, mix_get hj, mix_get hj, mix_len]
    by_cases e : k = j
    · subst e; simp [h]
    · have : (j < k + 1) = (j < k) := by rw [eq_iff_iff]; omega
      simp [e, this]
  · rw [List.getElem?_eq_none (by simp [mix_len]; omega), List.getElem?_eq_none (by simp [mix_len]; omega)]
theorem mix_all (L N M : Nat) : mix L N M L = low L M := by
  apply List.ext_getElem?
  intro j
  by_cases hj : j < L
  · rw [mix_get hj, low_get hj, if_pos hj]
  · rw [List.getElem?_eq_none (by simp [mix_len]; omega), List.getElem?_eq_none (by simp [low_length]; omega)]
theorem mix_start {L N M f : Nat} (h : ∀ j, j < f → M / 256 ^ j % 256 = N / 256 ^ j % 256) : mix L N M f = low L N := by
  apply List.ext_getElem?
  intro j
  by_cases hj : j < L
  · rw [mix_get hj, low_get hj]
    by_cases h2 : j < f
    · rw [if_pos h2, h j h2]
    · rw [if_neg h2]
  · rw [List.getElem?_eq_none (by simp [mix_len]; omega), List.getElem?_eq_none (by simp [low_length]; omega)]

theorem low_more (L N : Nat) (h : N < 256 ^ L) : low L N ++ [0] = low (L + 1) N := by
  rw [low_succ, Nat.div_eq_of_lt h]; rfl
theorem lt_bytes {m N : Nat} (h : N < 2 ^ m) : N < 256 ^ ((m + 7) / 8) := by
  rw [← pow256]
  exact Nat.lt_of_lt_of_le h (Nat.pow_le_pow_right (by omega) (by omega))
theorem lt_bytes' {m N k : Nat} (h : N < 2 ^ m) (hk : (m + 7) / 8 ≤ k) : N < 256 ^ k := Nat.lt_of_lt_of_le (lt_bytes h) (Nat.pow_le_pow_right (by omega) hk)

/-- what is behind, when y (of k bits) is written behind -/
theorem put_low {m N y j : Nat} (hN : N < 2 ^ m) (hj : j < m / 8) : (N + 2 ^ m * y) / 256 ^ j % 256 = N / 256 ^ j % 256 := by
  have e : 2 ^ m * y = 256 ^ j * (256 * (2 ^ (m - 8 * j - 8) * y)) := by
    have : 2 ^ m = 256 ^ j * (256 * 2 ^ (m - 8 * j - 8)) := by
      rw [← pow256, show (256 : Nat) = 2 ^ 8 from rfl, ← Nat.pow_add, ← Nat.pow_add]; congr 1; omega
    rw [this, Nat.mul_assoc, Nat.mul_assoc]
  rw [e, Nat.add_mul_div_left _ _ (Nat.pow_pos (by omega)), Nat.add_mul_mod_self_left]
theorem or_div_mod (a b i : Nat) : (a ||| b) / 256 ^ i % 256 = (a / 256 ^ i % 256) ||| (b / 256 ^ i % 256) := by
  rw [← pow256, show (256 : Nat) = 2 ^ 8 from rfl]
  apply Nat.eq_of_testBit_eq
  intro k
  simp only [Nat.testBit_or, Nat.testBit_mod_two_pow, Nat.testBit_div_two_pow]
  by_cases h : k < 8 <;> simp [h]
theorem put_high {m N y i : Nat} (hN : N < 2 ^ m) : (N + 2 ^ m * y) / 256 ^ (m / 8 + i) % 256 = (N / 256 ^ (m / 8 + i) % 256) ||| (2 ^ (m % 8) * y / 256 ^ i % 256) := by
  have e : 2 ^ m = 256 ^ (m / 8) * 2 ^ (m % 8) := by rw [← pow256, ← Nat.pow_add]; congr 1; omega
  have h1 : N / 256 ^ (m / 8) < 2 ^ (m % 8) := by
    rw [Nat.div_lt_iff_lt_mul (Nat.pow_pos (by omega)), Nat.mul_comm, ← e]; exact hN
  rw [Nat.pow_add, ← Nat.div_div_eq_div_mul, ← Nat.div_div_eq_div_mul, e, Nat.mul_assoc, Nat.add_mul_div_left _ _ (Nat.pow_pos (by omega))]
  have h2 := Nat.two_pow_add_eq_or_of_lt h1 y
  rw [Nat.add_comm, h2, or_div_mod, Nat.or_comm]
theorem put_lt {m N k y : Nat} (hN : N < 2 ^ m) (hy : y < 2 ^ k) : N + 2 ^ m * y < 2 ^ (m + k) := by
  have h1 : 2 ^ m * (y + 1) ≤ 2 ^ m * 2 ^ k := Nat.mul_le_mul_left _ hy
  rw [Nat.pow_add]
  rw [Nat.mul_succ] at h1
  omega
theorem or_u8 (a b : Nat) (ha : a < 256) (hb : b < 256) : bits .or .u8 (a : Int) (b : Int) = ((a ||| b : Nat) : Int) := by
  have hx : a ||| b < 2 ^ 8 := Nat.or_lt_two_pow (by omega) (by omega)
  show IntKind.u8.wrap ((BitVec.ofInt 8 (a : Int) ||| BitVec.ofInt 8 (b : Int)).toNat : Int) = _
  rw [BitVec.toNat_or, BitVec.ofInt_natCast, BitVec.ofInt_natCast, BitVec.toNat_ofNat, BitVec.toNat_ofNat, Nat.mod_eq_of_lt (by omega), Nat.mod_eq_of_lt (by omega)]
  simp [IntKind.wrap, IntKind.signed, IntKind.bits]
  omega
end Go.Proofs.YtcmeoappddpmcaaDoor.bitnum
