/-
  Moments, their numbers and their texts: plain mathematics, over no program. My own text.
-/
import Derived.Test.YtgmpdkkpmgedjaaBitsNum
namespace Go.Proofs.Ytgmpdkkpmgedjaa.dosnum
open Go.Proofs.Ytgmpdkkpmgedjaa.num Go.Proofs.Ytgmpdkkpmgedjaa.bitnum
set_option linter.unusedVariables false

/-- a moment, right or not -/
structure Mo where
  y : Int
  mo : Int
  d : Int
  h : Int
  mi : Int
  s : Int

def zero : Mo := ⟨0, 0, 0, 0, 0, 0⟩
def leap (y : Int) : Bool := (decide (y % 4 = 0) && !decide (y % 100 = 0)) || decide (y % 400 = 0)
def days (y m : Int) : Int := if m = 2 then (if leap y = true then 29 else 28) else if m = 4 ∨ m = 6 ∨ m = 9 ∨ m = 11 then 30 else 31
theorem days_bd (y m : Int) : 28 ≤ days y m ∧ days y m ≤ 31 := by
  unfold days
  split
  · split <;> omega
  · split <;> omega

structure Right (m : Mo) : Prop where
  y1 : 1980 ≤ m.y
  y2 : m.y ≤ 2107
  mo1 : 1 ≤ m.mo
  mo2 : m.mo ≤ 12
  d1 : 1 ≤ m.d
  d2 : m.d ≤ days m.y m.mo
  h1 : 0 ≤ m.h
  h2 : m.h ≤ 23
  mi1 : 0 ≤ m.mi
  mi2 : m.mi ≤ 59
  s1 : 0 ≤ m.s
  s2 : m.s ≤ 59

instance (m : Mo) : Decidable (Right m) :=
  decidable_of_iff (1980 ≤ m.y ∧ m.y ≤ 2107 ∧ 1 ≤ m.mo ∧ m.mo ≤ 12 ∧ 1 ≤ m.d ∧ m.d ≤ days m.y m.mo ∧ 0 ≤ m.h ∧ m.h ≤ 23 ∧ 0 ≤ m.mi ∧ m.mi ≤ 59 ∧ 0 ≤ m.s ∧ m.s ≤ 59)
    ⟨fun ⟨a, b, c, d, e, f, g, h, i, j, k, l⟩ => ⟨a, b, c, d, e, f, g, h, i, j, k, l⟩, fun ⟨a, b, c, d, e, f, g, h, i, j, k, l⟩ => ⟨a, b, c, d, e, f, g, h, i, j, k, l⟩⟩

theorem zero_not : ¬ Right zero := fun h => by have := h.y1; simp [zero] at this
/-- the number of a moment -/
def no (m : Mo) : Int := ((m.y - 1980) * 512 + m.mo * 32 + m.d) * 65536 + m.h * 2048 + m.mi * 32 + m.s / 2
/-- what a number has, whether it is a moment's or not -/
def parts (n : Int) : Mo := ⟨1980 + n / 33554432, n / 2097152 % 16, n / 65536 % 32, n / 2048 % 32, n / 32 % 64, n % 32 * 2⟩
/-- a moment, its second even -/
def even (m : Mo) : Mo := ⟨m.y, m.mo, m.d, m.h, m.mi, m.s / 2 * 2⟩

theorem no_bd {m : Mo} (r : Right m) : 0 ≤ no m ∧ no m ≤ 4294967295 := by
  obtain ⟨y, mo, d, h, mi, s⟩ := m
  obtain ⟨a, b, c, d, e, f, g, h, i, j, k, l⟩ := r
  have := days_bd y mo
  simp only [no] at *
  omega
theorem parts_no {m : Mo} (r : Right m) : parts (no m) = even m := by
  obtain ⟨y, mo, d, h, mi, s⟩ := m
  obtain ⟨a, b, c, d, e, f, g, h, i, j, k, l⟩ := r
  have := days_bd y mo
  simp only [no, parts, even, Mo.mk.injEq] at *
  omega
theorem no_parts {n : Int} : no (parts n) = n := by
  simp only [no, parts]
  omega
theorem parts_bd {n : Int} (r : Right (parts n)) : 0 ≤ n ∧ n ≤ 4294967295 := by
  have h1 := r.y1
  have h2 := r.y2
  simp only [parts] at h1 h2
  omega
theorem Right.even {m : Mo} (r : Right m) : Right (even m) := by
  obtain ⟨a, b, c, d, e, f, g, h, i, j, k, l⟩ := r
  refine ⟨a, b, c, d, e, f, g, h, i, j, ?_, ?_⟩ <;> simp only [dosnum.even] <;> omega

def draw (n lo hi : Int) : Int := if (if n < hi then n else hi) < lo then lo else (if n < hi then n else hi)
theorem draw_bd {n lo hi : Int} (h : lo ≤ hi) : lo ≤ draw n lo hi ∧ draw n lo hi ≤ hi := by unfold draw; split <;> (split at * <;> omega)
theorem draw_in {n lo hi : Int} (h1 : lo ≤ n) (h2 : n ≤ hi) : draw n lo hi = n := by unfold draw; split <;> (split at * <;> omega)
def within (m : Mo) : Mo :=
  ⟨draw m.y 1980 2107, draw m.mo 1 12, draw m.d 1 (days (draw m.y 1980 2107) (draw m.mo 1 12)), draw m.h 0 23, draw m.mi 0 59, draw m.s 0 59⟩
theorem within_right (m : Mo) : Right (within m) := by
  have hd := days_bd (draw m.y 1980 2107) (draw m.mo 1 12)
  have h1 := draw_bd (n := m.y) (lo := 1980) (hi := 2107) (by omega)
  have h2 := draw_bd (n := m.mo) (lo := 1) (hi := 12) (by omega)
  have h3 := draw_bd (n := m.d) (lo := 1) (hi := days (draw m.y 1980 2107) (draw m.mo 1 12)) (by omega)
  have h4 := draw_bd (n := m.h) (lo := 0) (hi := 23) (by omega)
  have h5 := draw_bd (n := m.mi) (lo := 0) (hi := 59) (by omega)
  have h6 := draw_bd (n := m.s) (lo := 0) (hi := 59) (by omega)
  exact ⟨h1.1, h1.2, h2.1, h2.2, h3.1, h3.2, h4.1, h4.2, h5.1, h5.2, h6.1, h6.2⟩
theorem within_of {m : Mo} (r : Right m) : within m = m := by
  obtain ⟨y, mo, d, h, mi, s⟩ := m
  obtain ⟨a, b, c, d, e, f, g, h, i, j, k, l⟩ := r
  simp only [within, Mo.mk.injEq] at *
  rw [draw_in a b, draw_in c d]
  exact ⟨rfl, rfl, draw_in e f, draw_in g h, draw_in i j, draw_in k l⟩
theorem within_iff {m : Mo} : m = within m ↔ Right m := ⟨fun h => by rw [h]; exact within_right m, fun r => (within_of r).symm⟩

/-- a number or'ed onto one that has none of its bits -/
theorem or_sum (a b : Int) (k : Nat) (hk : k ≤ 62) (ha : 0 ≤ a) (ha2 : a < 4611686018427387904) (hd : a % ((2 ^ k : Nat) : Int) = 0) (hb : 0 ≤ b) (hb2 : b < ((2 ^ k : Nat) : Int)) : bits .or .i64 a b = a + b := by
  have hp : 1 ≤ 2 ^ k ∧ 2 ^ k ≤ 4611686018427387904 := ⟨Nat.pow_pos (by omega), by have := Nat.pow_le_pow_right (n := 2) (by omega) hk; simpa using this⟩
  obtain ⟨A, rfl⟩ := Int.eq_ofNat_of_zero_le ha
  obtain ⟨B, rfl⟩ := Int.eq_ofNat_of_zero_le hb
  rw [or_nat A B (by omega) (by omega)]
  have hA : A % 2 ^ k = 0 := by omega
  obtain ⟨q, rfl⟩ : ∃ q, A = 2 ^ k * q := ⟨A / 2 ^ k, by have := Nat.div_add_mod A (2 ^ k); omega⟩
  have h := Nat.two_pow_add_eq_or_of_lt (i := k) (b := B) (by omega) q
  rw [← h]
  omega
/-- the lowest bits, also of a number below 0 -/
theorem and_low (z : Int) (hz : -9223372036854775808 ≤ z ∧ z ≤ 9223372036854775807) (k : Nat) (hk : k ≤ 24) : bits .and .i64 z ((2 ^ k - 1 : Nat) : Int) = z % ((2 ^ k : Nat) : Int) := by
  have h6 : k = 0 ∨ k = 1 ∨ k = 2 ∨ k = 3 ∨ k = 4 ∨ k = 5 ∨ k = 6 ∨ k = 7 ∨ k = 8 ∨ k = 9 ∨ k = 10 ∨ k = 11 ∨ k = 12 ∨ k = 13 ∨ k = 14 ∨ k = 15 ∨ k = 16 ∨ k = 17 ∨ k = 18 ∨ k = 19 ∨ k = 20 ∨ k = 21 ∨ k = 22 ∨ k = 23 ∨ k = 24 := by omega
  have e : ((2 ^ k - 1 : Nat) : Int) = (2 : Int) ^ k - 1 := by have : 1 ≤ 2 ^ k := Nat.pow_pos (by omega); rw [pow2i]; omega
  rw [e, and_mask z k (by omega)]
  unfold u64
  rcases h6 with rfl | rfl | rfl | rfl | rfl | rfl | rfl | rfl | rfl | rfl | rfl | rfl | rfl | rfl | rfl | rfl | rfl | rfl | rfl | rfl | rfl | rfl | rfl | rfl | rfl <;> simp <;> omega
theorem and15 (z : Int) (hz : -9223372036854775808 ≤ z ∧ z ≤ 9223372036854775807) : bits .and .i64 z 15 = z % 16 := by simpa using and_low z hz 4 (by omega)
theorem and31 (z : Int) (hz : -9223372036854775808 ≤ z ∧ z ≤ 9223372036854775807) : bits .and .i64 z 31 = z % 32 := by simpa using and_low z hz 5 (by omega)
theorem and63 (z : Int) (hz : -9223372036854775808 ≤ z ∧ z ≤ 9223372036854775807) : bits .and .i64 z 63 = z % 64 := by simpa using and_low z hz 6 (by omega)

end Go.Proofs.Ytgmpdkkpmgedjaa.dosnum
