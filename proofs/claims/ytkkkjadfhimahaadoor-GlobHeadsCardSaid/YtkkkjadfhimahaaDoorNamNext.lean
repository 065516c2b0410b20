/-
  Layer 9's reference: next. My own text (by a generator of mine).
-/
import Derived.Test.YtkkkjadfhimahaaDoorNamRef
namespace Go.Proofs.YtkkkjadfhimahaaDoor.namp
open Go.RowKit Go.Proofs.YtkkkjadfhimahaaDoor.base Go.Proofs.YtkkkjadfhimahaaDoor.nam
set_option linter.unusedVariables false

/-- what next tells: the rune at the head, or -1 -/
def nxI (t : List UInt8) : Int := if dcd t = (65533, 1) then -1 else ((dcd t).1 : Nat)
theorem nxI_good {r : Nat} (h : Rn r) (t : List UInt8) : nxI (en r ++ t) = (r : Nat) := by rw [nxI, if_neg (dcd_ok h t), dcd_good h]
theorem nxI_bad {t : List UInt8} (h : Bad t) : nxI t = -1 := by rw [nxI, if_pos h.2]
def ct (t : List UInt8) (q : Nat) : Prop := 128 ≤ (t.getD q 0).toNat ∧ (t.getD q 0).toNat ≤ 191
theorem wid2 (R : Nat) : wid R = 2 ↔ 128 ≤ R ∧ R < 2048 := by
  unfold wid
  repeat' split
  all_goals omega
theorem wid3 (R : Nat) : wid R = 3 ↔ 2048 ≤ R ∧ R < 65536 := by
  unfold wid
  repeat' split
  all_goals omega
theorem wid4 (R : Nat) : wid R = 4 ↔ 65536 ≤ R := by
  unfold wid
  repeat' split
  all_goals omega
/-- may R, out of K bytes, be a rune -/
def okN (K R : Nat) : Prop := wid R = K ∧ (R < 55296 ∨ 57343 < R) ∧ R ≤ 1114111
/-- what a byte brings -/
def cv (t : List UInt8) (q : Nat) : Nat := (t.getD q 0).toNat - 128
/-- the number after j more bytes -/
def accs (t : List UInt8) (a : Nat) : Nat → Nat
  | 0 => a
  | j + 1 => 64 * accs t a j + cv t (j + 1)
theorem accs_lt (t : List UInt8) (a : Nat) : ∀ j, (∀ q, q < j → ct t (q + 1)) → accs t a j < (a + 1) * 64 ^ j
  | 0, _ => by simp [accs]
  | j + 1, h => by
    have h1 := accs_lt t a j (fun q hq => h q (by omega))
    have h2 := h j (by omega)
    unfold ct at h2
    have h3 : cv t (j + 1) ≤ 63 := by unfold cv; omega
    rw [accs, Nat.pow_succ, ← Nat.mul_assoc]
    omega
theorem dcd_num (t : List UInt8) : dcd t = Lib.decodeN t.length (t.getD 0 0).toNat (t.getD 1 0).toNat (t.getD 2 0).toNat (t.getD 3 0).toNat := rfl
theorem nxI_pair {t : List UInt8} {r k : Nat} (h : dcd t = (r, k)) (hk : 1 < k) : nxI t = (r : Nat) := by
  rw [nxI, if_neg (fun e => ?_), h]
  rw [h] at e
  injection e
  omega
theorem nxI_err {t : List UInt8} (h : dcd t = (65533, 1)) : nxI t = -1 := by rw [nxI, if_pos h]
theorem nxI_one (t : List UInt8) (h : (t.getD 0 0).toNat < 128) : nxI t = ((t.getD 0 0).toNat : Nat) := by
  have : dcd t = ((t.getD 0 0).toNat, 1) := by rw [dcd_num, Lib.decodeN, if_pos h]
  rw [nxI, if_neg (fun e => ?_), this]
  rw [this] at e
  injection e
  omega
theorem nxI_head (t : List UInt8) (h : (128 ≤ (t.getD 0 0).toNat ∧ (t.getD 0 0).toNat < 194) ∨ 244 < (t.getD 0 0).toNat) : nxI t = -1 := by
  refine nxI_err ?_
  rw [dcd_num]
  have h0 := (t.getD 0 0).toNat_lt
  generalize (t.getD 0 0).toNat = b0 at *
  generalize (t.getD 1 0).toNat = b1 at *
  generalize (t.getD 2 0).toNat = b2 at *
  generalize (t.getD 3 0).toNat = b3 at *
  unfold Lib.decodeN
  rw [if_neg (by omega)]
  split
  · rw [if_neg (by omega)]
  · split
    · exfalso; omega
    · split
      · rw [if_neg (by omega)]
      · rfl

/-! size 2 -/
theorem nx2_short (t : List UInt8) (h : 194 ≤ (t.getD 0 0).toNat ∧ (t.getD 0 0).toNat ≤ 223) (hl : t.length < 2) : nxI t = -1 := by
  refine nxI_err ?_
  rw [dcd_num]
  generalize (t.getD 0 0).toNat = b0 at *
  generalize (t.getD 1 0).toNat = b1 at *
  generalize (t.getD 2 0).toNat = b2 at *
  generalize (t.getD 3 0).toNat = b3 at *
  unfold Lib.decodeN
  rw [if_neg (by omega)]
  split
  · exfalso; omega
  · split
    · exfalso; omega
    · split
      · exfalso; omega
      · rfl
theorem nx2_cont (t : List UInt8) (h : 194 ≤ (t.getD 0 0).toNat ∧ (t.getD 0 0).toNat ≤ 223) (j : Nat) (hj : 1 ≤ j ∧ j < 2) (hc : ¬ ct t j) : nxI t = -1 := by
  refine nxI_err ?_
  rw [dcd_num]
  have hb1 := (t.getD 1 0).toNat_lt
  have hb2 := (t.getD 2 0).toNat_lt
  have hb3 := (t.getD 3 0).toNat_lt
  have hcase : ¬ (ct t 1) := by
    intro hh
    have hjj : j = 1 := by omega
    subst hjj; exact hc hh
  unfold ct at hcase
  clear hc
  generalize (t.getD 0 0).toNat = b0 at *
  generalize (t.getD 1 0).toNat = b1 at *
  generalize (t.getD 2 0).toNat = b2 at *
  generalize (t.getD 3 0).toNat = b3 at *
  unfold Lib.decodeN
  rw [if_neg (by omega)]
  split
  · exfalso; omega
  · split
    · exfalso; omega
    · split
      · exfalso; omega
      · rfl
theorem nx2_whole (t : List UInt8) (h : 194 ≤ (t.getD 0 0).toNat ∧ (t.getD 0 0).toNat ≤ 223) (hl : 2 ≤ t.length) (hc : ∀ q, q < 1 → ct t (q + 1)) (a k R : Nat) (ha : a = (t.getD 0 0).toNat - 192) (hk : k = 1) (hR : R = accs t a k) :
    (okN 2 R → nxI t = (R : Nat)) ∧ (¬ okN 2 R → nxI t = -1) := by
  have c1 := hc 0 (by omega)
  unfold ct at c1
  subst hk
  replace hR : R = 64 * a + ((t.getD 1 0).toNat - 128) := hR
  obtain ⟨b0, g0⟩ : ∃ b, (t.getD 0 0).toNat = b := ⟨_, rfl⟩
  rw [g0] at h ha
  obtain ⟨b1, g1⟩ : ∃ b, (t.getD 1 0).toNat = b := ⟨_, rfl⟩
  rw [g1] at c1 hR
  obtain ⟨b2, g2⟩ : ∃ b, (t.getD 2 0).toNat = b := ⟨_, rfl⟩
  obtain ⟨b3, g3⟩ : ∃ b, (t.getD 3 0).toNat = b := ⟨_, rfl⟩
  have hdn : (okN 2 R → Lib.decodeN t.length b0 b1 b2 b3 = (R, 2)) ∧ (¬ okN 2 R → Lib.decodeN t.length b0 b1 b2 b3 = (65533, 1)) := by
    unfold okN
    unfold Lib.decodeN
    rw [if_neg (by omega)]
    rw [if_pos (by omega), show b0 % 32 * 64 + b1 % 64 = R by omega]
    rw [wid2]
    split
    · exact ⟨fun _ => rfl, fun h => by exfalso; omega⟩
    · exact ⟨fun h => by exfalso; omega, fun _ => rfl⟩
  refine ⟨fun hok => nxI_pair (k := 2) (by rw [dcd_num]; simp only [g0, g1, g2, g3]; exact hdn.1 hok) (by omega), fun hok => nxI_err (by rw [dcd_num]; simp only [g0, g1, g2, g3]; exact hdn.2 hok)⟩

/-! size 3 -/
theorem nx3_short (t : List UInt8) (h : 224 ≤ (t.getD 0 0).toNat ∧ (t.getD 0 0).toNat ≤ 239) (hl : t.length < 3) : nxI t = -1 := by
  refine nxI_err ?_
  rw [dcd_num]
  generalize (t.getD 0 0).toNat = b0 at *
  generalize (t.getD 1 0).toNat = b1 at *
  generalize (t.getD 2 0).toNat = b2 at *
  generalize (t.getD 3 0).toNat = b3 at *
  unfold Lib.decodeN
  rw [if_neg (by omega)]
  split
  · exfalso; omega
  · split
    · exfalso; omega
    · split
      · exfalso; omega
      · rfl
theorem nx3_cont (t : List UInt8) (h : 224 ≤ (t.getD 0 0).toNat ∧ (t.getD 0 0).toNat ≤ 239) (j : Nat) (hj : 1 ≤ j ∧ j < 3) (hc : ¬ ct t j) : nxI t = -1 := by
  refine nxI_err ?_
  rw [dcd_num]
  have hb1 := (t.getD 1 0).toNat_lt
  have hb2 := (t.getD 2 0).toNat_lt
  have hb3 := (t.getD 3 0).toNat_lt
  have hcase : ¬ (ct t 1 ∧ ct t 2) := by
    intro hh
    have hjj : j = 1 ∨ j = 2 := by omega
    rcases hjj with rfl | rfl
    · exact hc hh.1
    · exact hc hh.2
  unfold ct at hcase
  clear hc
  generalize (t.getD 0 0).toNat = b0 at *
  generalize (t.getD 1 0).toNat = b1 at *
  generalize (t.getD 2 0).toNat = b2 at *
  generalize (t.getD 3 0).toNat = b3 at *
  unfold Lib.decodeN
  rw [if_neg (by omega)]
  split
  · exfalso; omega
  · split
    · exfalso; omega
    · split
      · exfalso; omega
      · rfl
theorem nx3_whole (t : List UInt8) (h : 224 ≤ (t.getD 0 0).toNat ∧ (t.getD 0 0).toNat ≤ 239) (hl : 3 ≤ t.length) (hc : ∀ q, q < 2 → ct t (q + 1)) (a k R : Nat) (ha : a = (t.getD 0 0).toNat - 224) (hk : k = 2) (hR : R = accs t a k) :
    (okN 3 R → nxI t = (R : Nat)) ∧ (¬ okN 3 R → nxI t = -1) := by
  have c1 := hc 0 (by omega)
  have c2 := hc 1 (by omega)
  unfold ct at c1 c2
  subst hk
  replace hR : R = 64 * (64 * a + ((t.getD 1 0).toNat - 128)) + ((t.getD 2 0).toNat - 128) := hR
  obtain ⟨b0, g0⟩ : ∃ b, (t.getD 0 0).toNat = b := ⟨_, rfl⟩
  rw [g0] at h ha
  obtain ⟨b1, g1⟩ : ∃ b, (t.getD 1 0).toNat = b := ⟨_, rfl⟩
  rw [g1] at c1 hR
  obtain ⟨b2, g2⟩ : ∃ b, (t.getD 2 0).toNat = b := ⟨_, rfl⟩
  rw [g2] at c2 hR
  obtain ⟨b3, g3⟩ : ∃ b, (t.getD 3 0).toNat = b := ⟨_, rfl⟩
  have hdn : (okN 3 R → Lib.decodeN t.length b0 b1 b2 b3 = (R, 3)) ∧ (¬ okN 3 R → Lib.decodeN t.length b0 b1 b2 b3 = (65533, 1)) := by
    unfold okN
    unfold Lib.decodeN
    rw [if_neg (by omega)]
    rw [if_neg (by omega), if_pos (by omega), show b0 % 16 * 4096 + b1 % 64 * 64 + b2 % 64 = R by omega]
    rw [wid3]
    split
    · exact ⟨fun _ => rfl, fun h => by exfalso; omega⟩
    · exact ⟨fun h => by exfalso; omega, fun _ => rfl⟩
  refine ⟨fun hok => nxI_pair (k := 3) (by rw [dcd_num]; simp only [g0, g1, g2, g3]; exact hdn.1 hok) (by omega), fun hok => nxI_err (by rw [dcd_num]; simp only [g0, g1, g2, g3]; exact hdn.2 hok)⟩

/-! size 4 -/
theorem nx4_short (t : List UInt8) (h : 240 ≤ (t.getD 0 0).toNat ∧ (t.getD 0 0).toNat ≤ 244) (hl : t.length < 4) : nxI t = -1 := by
  refine nxI_err ?_
  rw [dcd_num]
  generalize (t.getD 0 0).toNat = b0 at *
  generalize (t.getD 1 0).toNat = b1 at *
  generalize (t.getD 2 0).toNat = b2 at *
  generalize (t.getD 3 0).toNat = b3 at *
  unfold Lib.decodeN
  rw [if_neg (by omega)]
  split
  · exfalso; omega
  · split
    · exfalso; omega
    · split
      · exfalso; omega
      · rfl
theorem nx4_cont (t : List UInt8) (h : 240 ≤ (t.getD 0 0).toNat ∧ (t.getD 0 0).toNat ≤ 244) (j : Nat) (hj : 1 ≤ j ∧ j < 4) (hc : ¬ ct t j) : nxI t = -1 := by
  refine nxI_err ?_
  rw [dcd_num]
  have hb1 := (t.getD 1 0).toNat_lt
  have hb2 := (t.getD 2 0).toNat_lt
  have hb3 := (t.getD 3 0).toNat_lt
  have hcase : ¬ (ct t 1 ∧ ct t 2 ∧ ct t 3) := by
    intro hh
    have hjj : j = 1 ∨ j = 2 ∨ j = 3 := by omega
    rcases hjj with rfl | rfl | rfl
    · exact hc hh.1
    · exact hc hh.2.1
    · exact hc hh.2.2
  unfold ct at hcase
  clear hc
  generalize (t.getD 0 0).toNat = b0 at *
  generalize (t.getD 1 0).toNat = b1 at *
  generalize (t.getD 2 0).toNat = b2 at *
  generalize (t.getD 3 0).toNat = b3 at *
  unfold Lib.decodeN
  rw [if_neg (by omega)]
  split
  · exfalso; omega
  · split
    · exfalso; omega
    · split
      · exfalso; omega
      · rfl
theorem nx4_whole (t : List UInt8) (h : 240 ≤ (t.getD 0 0).toNat ∧ (t.getD 0 0).toNat ≤ 244) (hl : 4 ≤ t.length) (hc : ∀ q, q < 3 → ct t (q + 1)) (a k R : Nat) (ha : a = (t.getD 0 0).toNat - 240) (hk : k = 3) (hR : R = accs t a k) :
    (okN 4 R → nxI t = (R : Nat)) ∧ (¬ okN 4 R → nxI t = -1) := by
  have c1 := hc 0 (by omega)
  have c2 := hc 1 (by omega)
  have c3 := hc 2 (by omega)
  unfold ct at c1 c2 c3
  subst hk
  replace hR : R = 64 * (64 * (64 * a + ((t.getD 1 0).toNat - 128)) + ((t.getD 2 0).toNat - 128)) + ((t.getD 3 0).toNat - 128) := hR
  obtain ⟨b0, g0⟩ : ∃ b, (t.getD 0 0).toNat = b := ⟨_, rfl⟩
  rw [g0] at h ha
  obtain ⟨b1, g1⟩ : ∃ b, (t.getD 1 0).toNat = b := ⟨_, rfl⟩
  rw [g1] at c1 hR
  obtain ⟨b2, g2⟩ : ∃ b, (t.getD 2 0).toNat = b := ⟨_, rfl⟩
  rw [g2] at c2 hR
  obtain ⟨b3, g3⟩ : ∃ b, (t.getD 3 0).toNat = b := ⟨_, rfl⟩
  rw [g3] at c3 hR
  have hdn : (okN 4 R → Lib.decodeN t.length b0 b1 b2 b3 = (R, 4)) ∧ (¬ okN 4 R → Lib.decodeN t.length b0 b1 b2 b3 = (65533, 1)) := by
    unfold okN
    unfold Lib.decodeN
    rw [if_neg (by omega)]
    rw [if_neg (by omega), if_neg (by omega), if_pos (by omega), show b0 % 8 * 262144 + b1 % 64 * 4096 + b2 % 64 * 64 + b3 % 64 = R by omega]
    rw [wid4]
    split
    · exact ⟨fun _ => rfl, fun h => by exfalso; omega⟩
    · exact ⟨fun h => by exfalso; omega, fun _ => rfl⟩
  refine ⟨fun hok => nxI_pair (k := 4) (by rw [dcd_num]; simp only [g0, g1, g2, g3]; exact hdn.1 hok) (by omega), fun hok => nxI_err (by rw [dcd_num]; simp only [g0, g1, g2, g3]; exact hdn.2 hok)⟩
end Go.Proofs.YtkkkjadfhimahaaDoor.namp
