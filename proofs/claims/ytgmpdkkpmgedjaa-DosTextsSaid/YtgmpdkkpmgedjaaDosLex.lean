/-
  The order of moments' texts: plain mathematics. My own text.
-/
import Derived.Test.YtgmpdkkpmgedjaaDosLaw
import GoSem.Op.String
namespace Go.Proofs.Ytgmpdkkpmgedjaa.dosnum
set_option linter.unusedVariables false
def dgt (z : Int) : UInt8 := UInt8.ofNat (48 + (z % 10).toNat)
theorem dgt_nat (z : Int) : (dgt z).toNat = 48 + (z % 10).toNat := by unfold dgt; rw [UInt8.toNat_ofNat']; omega
theorem dgt_lt (a b : Int) : decide (dgt a < dgt b) = decide (a % 10 < b % 10) := by
  rw [decide_eq_decide, UInt8.lt_iff_toNat_lt, dgt_nat, dgt_nat]; omega
theorem dgt_eq (a b : Int) : (dgt a == dgt b) = decide (a % 10 = b % 10) := by
  rw [Bool.eq_iff_iff, beq_iff_eq, decide_eq_true_iff, ← UInt8.toNat_inj, dgt_nat, dgt_nat]; omega
theorem bl_sign (c : UInt8) (r r' : List UInt8) : Op.bytesLess (c :: r) (c :: r') = Op.bytesLess r r' := by simp [Op.bytesLess]
theorem bl_two (X Y : Int) (hX : 0 ≤ X ∧ X ≤ 99) (hY : 0 ≤ Y ∧ Y ≤ 99) (r r' : List UInt8) :
    Op.bytesLess (dgt (X / 10) :: dgt X :: r) (dgt (Y / 10) :: dgt Y :: r') = (decide (X < Y) || (decide (X = Y) && Op.bytesLess r r')) := by
  simp only [Op.bytesLess, dgt_lt, dgt_eq]
  cases Op.bytesLess r r' <;> simp only [Bool.and_true, Bool.and_false, Bool.or_false] <;> rw [Bool.eq_iff_iff] <;> simp only [Bool.or_eq_true, Bool.and_eq_true, decide_eq_true_eq] <;> omega
theorem bl_four (X Y : Int) (hX : 0 ≤ X ∧ X ≤ 9999) (hY : 0 ≤ Y ∧ Y ≤ 9999) (r r' : List UInt8) :
    Op.bytesLess (dgt (X / 1000) :: dgt (X / 100) :: dgt (X / 10) :: dgt X :: r) (dgt (Y / 1000) :: dgt (Y / 100) :: dgt (Y / 10) :: dgt Y :: r') = (decide (X < Y) || (decide (X = Y) && Op.bytesLess r r')) := by
  simp only [Op.bytesLess, dgt_lt, dgt_eq]
  obtain ⟨a, ha⟩ : ∃ a, X / 1000 % 10 = a := ⟨_, rfl⟩
  obtain ⟨b, hb⟩ : ∃ b, X / 100 % 10 = b := ⟨_, rfl⟩
  obtain ⟨c, hc⟩ : ∃ c, X / 10 % 10 = c := ⟨_, rfl⟩
  obtain ⟨d, hd⟩ : ∃ d, X % 10 = d := ⟨_, rfl⟩
  obtain ⟨a', ha'⟩ : ∃ a, Y / 1000 % 10 = a := ⟨_, rfl⟩
  obtain ⟨b', hb'⟩ : ∃ b, Y / 100 % 10 = b := ⟨_, rfl⟩
  obtain ⟨c', hc'⟩ : ∃ c, Y / 10 % 10 = c := ⟨_, rfl⟩
  obtain ⟨d', hd'⟩ : ∃ d, Y % 10 = d := ⟨_, rfl⟩
  have e : X = 1000 * a + 100 * b + 10 * c + d := by omega
  have e' : Y = 1000 * a' + 100 * b' + 10 * c' + d' := by omega
  have h1 : 0 ≤ a ∧ a ≤ 9 ∧ 0 ≤ b ∧ b ≤ 9 ∧ 0 ≤ c ∧ c ≤ 9 ∧ 0 ≤ d ∧ d ≤ 9 := by omega
  have h2 : 0 ≤ a' ∧ a' ≤ 9 ∧ 0 ≤ b' ∧ b' ≤ 9 ∧ 0 ≤ c' ∧ c' ≤ 9 ∧ 0 ≤ d' ∧ d' ≤ 9 := by omega
  rw [ha, hb, hc, hd, ha', hb', hc', hd', e, e']
  clear ha hb hc hd ha' hb' hc' hd' e e' hX hY
  cases Op.bytesLess r r' <;> simp only [Bool.and_true, Bool.and_false, Bool.or_false] <;> rw [Bool.eq_iff_iff] <;> simp only [Bool.or_eq_true, Bool.and_eq_true, decide_eq_true_eq] <;> omega
/-- the text, digit by digit -/
theorem long_is (m : Mo) : long m = [dgt (m.y / 1000), dgt (m.y / 100), dgt (m.y / 10), dgt m.y, 45, dgt (m.mo / 10), dgt m.mo, 45, dgt (m.d / 10), dgt m.d, 32, dgt (m.h / 10), dgt m.h, 58, dgt (m.mi / 10), dgt m.mi, 58, dgt (m.s / 10), dgt m.s] := by
  have e : ∀ z : Int, dgt z = dgt (z / ((10 ^ 0 : Nat) : Int)) := fun z => by simp
  rw [e m.y, e m.mo, e m.d, e m.h, e m.mi, e m.s]
  rfl
/-- the moments' order -/
def lex (A B : Mo) : Bool := decide (A.y < B.y) || (decide (A.y = B.y) && (decide (A.mo < B.mo) || (decide (A.mo = B.mo) && (decide (A.d < B.d) || (decide (A.d = B.d) && (decide (A.h < B.h) || (decide (A.h = B.h) && (decide (A.mi < B.mi) || (decide (A.mi = B.mi) && decide (A.s < B.s))))))))))
theorem less_long {A B : Mo} (a : Right A) (b : Right B) : Op.bytesLess (long A) (long B) = lex A B := by
  obtain ⟨y1, y2, mo1, mo2, d1, d2, h1, h2, mi1, mi2, s1, s2⟩ := a
  obtain ⟨y1', y2', mo1', mo2', d1', d2', h1', h2', mi1', mi2', s1', s2'⟩ := b
  have hd := days_bd A.y A.mo
  have hd' := days_bd B.y B.mo
  rw [long_is, long_is, bl_four _ _ ⟨by omega, by omega⟩ ⟨by omega, by omega⟩, bl_sign, bl_two _ _ ⟨by omega, by omega⟩ ⟨by omega, by omega⟩, bl_sign, bl_two _ _ ⟨by omega, by omega⟩ ⟨by omega, by omega⟩, bl_sign, bl_two _ _ ⟨by omega, by omega⟩ ⟨by omega, by omega⟩, bl_sign, bl_two _ _ ⟨by omega, by omega⟩ ⟨by omega, by omega⟩, bl_sign, bl_two _ _ ⟨by omega, by omega⟩ ⟨by omega, by omega⟩]
  simp [lex, Op.bytesLess]
theorem less_short {A B : Mo} (a : Right A) (b : Right B) : Op.bytesLess ((long A).take 10) ((long B).take 10) = (decide (A.y < B.y) || (decide (A.y = B.y) && (decide (A.mo < B.mo) || (decide (A.mo = B.mo) && decide (A.d < B.d))))) := by
  obtain ⟨y1, y2, mo1, mo2, d1, d2, h1, h2, mi1, mi2, s1, s2⟩ := a
  obtain ⟨y1', y2', mo1', mo2', d1', d2', h1', h2', mi1', mi2', s1', s2'⟩ := b
  have hd := days_bd A.y A.mo
  have hd' := days_bd B.y B.mo
  rw [long_is, long_is]
  simp only [List.take_succ_cons, List.take_zero]
  rw [bl_four _ _ ⟨by omega, by omega⟩ ⟨by omega, by omega⟩, bl_sign, bl_two _ _ ⟨by omega, by omega⟩ ⟨by omega, by omega⟩, bl_sign, bl_two _ _ ⟨by omega, by omega⟩ ⟨by omega, by omega⟩]
  simp [Op.bytesLess]
theorem step16 (n m : Int) (R : Bool) : (decide (n < m) || (decide (n = m) && R)) = (decide (n / 16 < m / 16) || (decide (n / 16 = m / 16) && (decide (n % 16 < m % 16) || (decide (n % 16 = m % 16) && R)))) := by
  cases R <;> simp only [Bool.and_true, Bool.and_false, Bool.or_false] <;> rw [Bool.eq_iff_iff] <;> simp only [Bool.or_eq_true, Bool.and_eq_true, decide_eq_true_eq] <;> omega
theorem step32 (n m : Int) (R : Bool) : (decide (n < m) || (decide (n = m) && R)) = (decide (n / 32 < m / 32) || (decide (n / 32 = m / 32) && (decide (n % 32 < m % 32) || (decide (n % 32 = m % 32) && R)))) := by
  cases R <;> simp only [Bool.and_true, Bool.and_false, Bool.or_false] <;> rw [Bool.eq_iff_iff] <;> simp only [Bool.or_eq_true, Bool.and_eq_true, decide_eq_true_eq] <;> omega
theorem step64 (n m : Int) (R : Bool) : (decide (n < m) || (decide (n = m) && R)) = (decide (n / 64 < m / 64) || (decide (n / 64 = m / 64) && (decide (n % 64 < m % 64) || (decide (n % 64 = m % 64) && R)))) := by
  cases R <;> simp only [Bool.and_true, Bool.and_false, Bool.or_false] <;> rw [Bool.eq_iff_iff] <;> simp only [Bool.or_eq_true, Bool.and_eq_true, decide_eq_true_eq] <;> omega
theorem dec_year (p q : Int) : decide (1980 + p < 1980 + q) = decide (p < q) := by rw [decide_eq_decide]; omega
theorem dec_year' (p q : Int) : decide (1980 + p = 1980 + q) = decide (p = q) := by rw [decide_eq_decide]; omega
theorem dec_two (p q : Int) : decide (p * 2 < q * 2) = decide (p < q) := by rw [decide_eq_decide]; omega
theorem cut_div (a : Int) : a / 2048 = a / 32 / 64 ∧ a / 65536 = a / 32 / 64 / 32 ∧ a / 2097152 = a / 32 / 64 / 32 / 32 ∧ a / 33554432 = a / 32 / 64 / 32 / 32 / 16 := by
  refine ⟨by omega, by omega, by omega, by omega⟩
theorem lex_no {a b : Int} : lex (parts a) (parts b) = decide (a < b) := by
  have h : decide (a < b) = (decide (a < b) || (decide (a = b) && false)) := by simp
  rw [h, step32, step64, step32, step32, step16]
  obtain ⟨e1, e2, e3, e4⟩ := cut_div a
  obtain ⟨f1, f2, f3, f4⟩ := cut_div b
  simp only [lex, parts, e1, e2, e3, e4, f1, f2, f3, f4, dec_year, dec_year', dec_two, Bool.and_false, Bool.or_false]
theorem short_no {a b : Int} (ha : a % 65536 = 0) (hb : b % 65536 = 0) : (decide ((parts a).y < (parts b).y) || (decide ((parts a).y = (parts b).y) && (decide ((parts a).mo < (parts b).mo) || (decide ((parts a).mo = (parts b).mo) && decide ((parts a).d < (parts b).d))))) = decide (a < b) := by
  have h0 : decide (a < b) = decide (a / 32 / 64 / 32 < b / 32 / 64 / 32) := by rw [decide_eq_decide]; omega
  have h : decide (a / 32 / 64 / 32 < b / 32 / 64 / 32) = (decide (a / 32 / 64 / 32 < b / 32 / 64 / 32) || (decide (a / 32 / 64 / 32 = b / 32 / 64 / 32) && false)) := by simp
  rw [h0, (h.trans (step32 _ _ _)).trans (step16 _ _ _)]
  obtain ⟨e1, e2, e3, e4⟩ := cut_div a
  obtain ⟨f1, f2, f3, f4⟩ := cut_div b
  simp only [parts, e1, e2, e3, e4, f1, f2, f3, f4, dec_year, dec_year', Bool.and_false, Bool.or_false]
end Go.Proofs.Ytgmpdkkpmgedjaa.dosnum
namespace Go.Proofs.Ytgmpdkkpmgedjaa.dosp
open Go.RowKit Go.Proofs.Ytgmpdkkpmgedjaa.base Go.Proofs.Ytgmpdkkpmgedjaa.num Go.Proofs.Ytgmpdkkpmgedjaa.bitnum Go.Proofs.Ytgmpdkkpmgedjaa.dosnum
/-- how long a text is -/
def lenP (n : Int) : Nat := if n % 65536 = 0 then 10 else 19
theorem textP_len (n : Int) : (textP n).length = lenP n := by
  have hlen : (long (parts n)).length = 19 := by simp [long]
  unfold textP lenP
  split
  · rw [List.length_take, hlen]; rfl
  · exact hlen
theorem textP_less {a b : Int} (ra : Right (parts a)) (rb : Right (parts b)) (h : lenP a = lenP b) : Op.bytesLess (textP a) (textP b) = decide (a < b) := by
  unfold lenP at h
  by_cases ha : a % 65536 = 0
  · by_cases hb : b % 65536 = 0
    · rw [textP, textP, if_pos ha, if_pos hb, less_short ra rb, short_no ha hb]
    · rw [if_pos ha, if_neg hb] at h; omega
  · by_cases hb : b % 65536 = 0
    · rw [if_neg ha, if_pos hb] at h; omega
    · rw [textP, textP, if_neg ha, if_neg hb, less_long ra rb, lex_no]
end Go.Proofs.Ytgmpdkkpmgedjaa.dosp
