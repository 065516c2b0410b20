import Derived.Test.YtmnejphdjnlbjaaGreatDoorNamNum
import Derived.Test.YtmnejphdjnlbjaaGreatDoorMgRow
import Derived.Test.YtmnejphdjnlbjaaGreatDoorChecked
import Derived.Test.YtmnejphdjnlbjaaGreatDoorNamPage
import Derived.Deep.RegionLaw
import Derived.Deep.RegionHeld3
import Derived.Deep.AppendLies
import Derived.Test.YtmnejphdjnlbjaaGreatDoorBlk
import Derived.Maps.OwnSet
import Derived.Maps.RangeWalk
import Derived.Lib.OthersKept
import Derived.BigQuiet
import Derived.Deep.QuietTactic
import Derived.Test.YtmnejphdjnlbjaaGreatDoorUnzNum
/- Several of my own texts, one behind the other. -/
/-
  Layer 9's reference: utf, Page, next. My own text.
-/
namespace Go.Proofs.YtmnejphdjnlbjaaGreatDoor.namp
open Go.RowKit Go.Proofs.YtmnejphdjnlbjaaGreatDoor.base Go.Proofs.YtmnejphdjnlbjaaGreatDoor.nam
set_option linter.unusedVariables false

theorem own_lit (w : World) (e : TypeId) (cs : Array Value) (n : Nat) (hn : cs.size = n) (hm : n ≤ maxLen) (xs : List Value) (hx : cs.toList = xs) : Own (w.alloc (.cells cs e)) w.heap.size e (some ⟨w.heap.size, 0, none⟩) n n xs := by
  subst hx
  exact World.ownsRow_lit w cs n (Nat.le_refl _) hm (by omega)
theorem w8 (z : Int) (n : Nat) (h : z = (n : Int)) (hn : n < 256) : IntKind.u8.wrap z = (n : Int) := by subst h; simp [IntKind.wrap, IntKind.signed, IntKind.bits]; omega
theorem bvN (n : Nat) (h : n < 256) : Value.int .u8 (n : Int) = bv (UInt8.ofNat n) := by rw [bv, nat_u8 n h]
theorem info_int : (Tryz.prog.info? 3).map (fun i => (i.zero, i.size, i.bytes)) = some (some (.int .i64 0), 1, 8) := by kernel_rfl
/-- the page, as ints -/
def pageV : List Value := upperL.map fun r : Nat => iv r
theorem ivs_one (l : List Int) (xs : List Value) (hx : l.map (Value.int .i64) = xs) : ∀ u ∈ xs, u.oneCell' = true := by
  subst hx
  intro u hu
  obtain ⟨x, _, rfl⟩ := List.mem_map.1 hu
  rfl
theorem rd_lit (w : World) (cs : Array Value) (e : TypeId) (n : Nat) (hn : cs.size = n) (xs : List Value) (hx : cs.toList = xs) : Rd (w.alloc (.cells cs e)) (w.heap.size + 1) (some ⟨w.heap.size, 0, none⟩) n xs := by
  subst hn
  subst hx
  exact Rd.lit w cs e
end Go.Proofs.YtmnejphdjnlbjaaGreatDoor.namp
/-
  Layer 9's reference: next. My own text (by a generator of mine).
-/
namespace Go.Proofs.YtmnejphdjnlbjaaGreatDoor.namp
open Go.RowKit Go.Proofs.YtmnejphdjnlbjaaGreatDoor.base Go.Proofs.YtmnejphdjnlbjaaGreatDoor.nam
set_option linter.unusedVariables false

/-- what next tells: the rune at the head, or -1 -/
def nxI (t : List UInt8) : Int := if dcd t = (65533, 1) then -1 else ((dcd t).1 : Nat)
theorem nxI_good {r : Nat} (h : Rn r) (t : List UInt8) : nxI (en r ++ t) = (r : Nat) := by rw [nxI, if_neg (dcd_ok h t), dcd_good h]
theorem nxI_bad {t : List UInt8} (h : Bad t) : nxI t = -1 := by rw [nxI, if_pos h.2]
def ct (t : List UInt8) (q : Nat) : Prop := 128 ≤ (t.getD q 0).toNat ∧ (t.getD q 0).toNat ≤ 191
theorem wid2 (R : Nat) : wid R = 2 ↔ 128 ≤ R ∧ R < 2048 := by
  unfold wid
  repeat' split
  all_goals omega
theorem wid3 (R : Nat) : wid R = 3 ↔ 2048 ≤ R ∧ R < 65536 := by
  unfold wid
  repeat' split
  all_goals omega
theorem wid4 (R : Nat) : wid R = 4 ↔ 65536 ≤ R := by
  unfold wid
  repeat' split
  all_goals omega
/-- may R, out of K bytes, be a rune -/
def okN (K R : Nat) : Prop := wid R = K ∧ (R < 55296 ∨ 57343 < R) ∧ R ≤ 1114111
/-- what a byte brings -/
def cv (t : List UInt8) (q : Nat) : Nat := (t.getD q 0).toNat - 128
/-- the number after j more bytes -/
def accs (t : List UInt8) (a : Nat) : Nat → Nat
  | 0 => a
  | j + 1 => 64 * accs t a j + cv t (j + 1)
theorem accs_lt (t : List UInt8) (a : Nat) : ∀ j, (∀ q, q < j → ct t (q + 1)) → accs t a j < (a + 1) * 64 ^ j
  | 0, _ => by simp [accs]
  | j + 1, h => by
    have h1 := accs_lt t a j (fun q hq => h q (by omega))
    have h2 := h j (by omega)
    unfold ct at h2
    have h3 : cv t (j + 1) ≤ 63 := by unfold cv; omega
    rw [accs, Nat.pow_succ, ← Nat.mul_assoc]
    omega
theorem dcd_num (t : List UInt8) : dcd t = Lib.decodeN t.length (t.getD 0 0).toNat (t.getD 1 0).toNat (t.getD 2 0).toNat (t.getD 3 0).toNat := rfl
theorem nxI_pair {t : List UInt8} {r k : Nat} (h : dcd t = (r, k)) (hk : 1 < k) : nxI t = (r : Nat) := by
  rw [nxI, if_neg (fun e => ?_), h]
  rw [h] at e
  injection e
  omega
theorem nxI_err {t : List UInt8} (h : dcd t = (65533, 1)) : nxI t = -1 := by rw [nxI, if_pos h]
theorem nxI_one (t : List UInt8) (h : (t.getD 0 0).toNat < 128) : nxI t = ((t.getD 0 0).toNat : Nat) := by
  have : dcd t = ((t.getD 0 0).toNat, 1) := by rw [dcd_num, Lib.decodeN, if_pos h]
  rw [nxI, if_neg (fun e => ?_), this]
  rw [this] at e
  injection e
  omega
theorem nxI_head (t : List UInt8) (h : (128 ≤ (t.getD 0 0).toNat ∧ (t.getD 0 0).toNat < 194) ∨ 244 < (t.getD 0 0).toNat) : nxI t = -1 := by
  refine nxI_err ?_
  rw [dcd_num]
  have h0 := (t.getD 0 0).toNat_lt
  generalize (t.getD 0 0).toNat = b0 at *
  generalize (t.getD 1 0).toNat = b1 at *
  generalize (t.getD 2 0).toNat = b2 at *
  generalize (t.getD 3 0).toNat = b3 at *
  unfold Lib.decodeN
  rw [if_neg (by omega)]
  split
  · rw [if_neg (by omega)]
  · split
    · exfalso; omega
    · split
      · rw [if_neg (by omega)]
      · rfl

/-! size 2 -/
theorem nx2_short (t : List UInt8) (h : 194 ≤ (t.getD 0 0).toNat ∧ (t.getD 0 0).toNat ≤ 223) (hl : t.length < 2) : nxI t = -1 := by
  refine nxI_err ?_
  rw [dcd_num]
  generalize (t.getD 0 0).toNat = b0 at *
  generalize (t.getD 1 0).toNat = b1 at *
  generalize (t.getD 2 0).toNat = b2 at *
  generalize (t.getD 3 0).toNat = b3 at *
  unfold Lib.decodeN
  rw [if_neg (by omega)]
  split
  · exfalso; omega
  · split
    · exfalso; omega
    · split
      · exfalso; omega
      · rfl
theorem nx2_cont (t : List UInt8) (h : 194 ≤ (t.getD 0 0).toNat ∧ (t.getD 0 0).toNat ≤ 223) (j : Nat) (hj : 1 ≤ j ∧ j < 2) (hc : ¬ ct t j) : nxI t = -1 := by
  refine nxI_err ?_
  rw [dcd_num]
  have hb1 := (t.getD 1 0).toNat_lt
  have hb2 := (t.getD 2 0).toNat_lt
  have hb3 := (t.getD 3 0).toNat_lt
  have hcase : ¬ (ct t 1) := by
    intro hh
    have hjj : j = 1 := by omega
    subst hjj; exact hc hh
  unfold ct at hcase
  clear hc
  generalize (t.getD 0 0).toNat = b0 at *
  generalize (t.getD 1 0).toNat = b1 at *
  generalize (t.getD 2 0).toNat = b2 at *
  generalize (t.getD 3 0).toNat = b3 at *
  unfold Lib.decodeN
  rw [if_neg (by omega)]
  split
  · exfalso; omega
  · split
    · exfalso; omega
    · split
      · exfalso; omega
      · rfl
theorem nx2_whole (t : List UInt8) (h : 194 ≤ (t.getD 0 0).toNat ∧ (t.getD 0 0).toNat ≤ 223) (hl : 2 ≤ t.length) (hc : ∀ q, q < 1 → ct t (q + 1)) (a k R : Nat) (ha : a = (t.getD 0 0).toNat - 192) (hk : k = 1) (hR : R = accs t a k) :
    (okN 2 R → nxI t = (R : Nat)) ∧ (¬ okN 2 R → nxI t = -1) := by
  have c1 := hc 0 (by omega)
  unfold ct at c1
  subst hk
  replace hR : R = 64 * a + ((t.getD 1 0).toNat - 128) := hR
  obtain ⟨b0, g0⟩ : ∃ b, (t.getD 0 0).toNat = b := ⟨_, rfl⟩
  rw [g0] at h ha
  obtain ⟨b1, g1⟩ : ∃ b, (t.getD 1 0).toNat = b := ⟨_, rfl⟩
  rw [g1] at c1 hR
  obtain ⟨b2, g2⟩ : ∃ b, (t.getD 2 0).toNat = b := ⟨_, rfl⟩
  obtain ⟨b3, g3⟩ : ∃ b, (t.getD 3 0).toNat = b := ⟨_, rfl⟩
  have hdn : (okN 2 R → Lib.decodeN t.length b0 b1 b2 b3 = (R, 2)) ∧ (¬ okN 2 R → Lib.decodeN t.length b0 b1 b2 b3 = (65533, 1)) := by
    unfold okN
    unfold Lib.decodeN
    rw [if_neg (by omega)]
    rw [if_pos (by omega), show b0 % 32 * 64 + b1 % 64 = R by omega]
    rw [wid2]
    split
    · exact ⟨fun _ => rfl, fun h => by exfalso; omega⟩
    · exact ⟨fun h => by exfalso; omega, fun _ => rfl⟩
  refine ⟨fun hok => nxI_pair (k := 2) (by rw [dcd_num]; simp only [g0, g1, g2, g3]; exact hdn.1 hok) (by omega), fun hok => nxI_err (by rw [dcd_num]; simp only [g0, g1, g2, g3]; exact hdn.2 hok)⟩

/-! size 3 -/
theorem nx3_short (t : List UInt8) (h : 224 ≤ (t.getD 0 0).toNat ∧ (t.getD 0 0).toNat ≤ 239) (hl : t.length < 3) : nxI t = -1 := by
  refine nxI_err ?_
  rw [dcd_num]
  generalize (t.getD 0 0).toNat = b0 at *
  generalize (t.getD 1 0).toNat = b1 at *
  generalize (t.getD 2 0).toNat = b2 at *
  generalize (t.getD 3 0).toNat = b3 at *
  unfold Lib.decodeN
  rw [if_neg (by omega)]
  split
  · exfalso; omega
  · split
    · exfalso; omega
    · split
      · exfalso; omega
      · rfl
theorem nx3_cont (t : List UInt8) (h : 224 ≤ (t.getD 0 0).toNat ∧ (t.getD 0 0).toNat ≤ 239) (j : Nat) (hj : 1 ≤ j ∧ j < 3) (hc : ¬ ct t j) : nxI t = -1 := by
  refine nxI_err ?_
  rw [dcd_num]
  have hb1 := (t.getD 1 0).toNat_lt
  have hb2 := (t.getD 2 0).toNat_lt
  have hb3 := (t.getD 3 0).toNat_lt
  have hcase : ¬ (ct t 1 ∧ ct t 2) := by
    intro hh
    have hjj : j = 1 ∨ j = 2 := by omega
    rcases hjj with rfl | rfl
    · exact hc hh.1
    · exact hc hh.2
  unfold ct at hcase
  clear hc
  generalize (t.getD 0 0).toNat = b0 at *
  generalize (t.getD 1 0).toNat = b1 at *
  generalize (t.getD 2 0).toNat = b2 at *
  generalize (t.getD 3 0).toNat = b3 at *
  unfold Lib.decodeN
  rw [if_neg (by omega)]
  split
  · exfalso; omega
  · split
    · exfalso; omega
    · split
      · exfalso; omega
      · rfl
theorem nx3_whole (t : List UInt8) (h : 224 ≤ (t.getD 0 0).toNat ∧ (t.getD 0 0).toNat ≤ 239) (hl : 3 ≤ t.length) (hc : ∀ q, q < 2 → ct t (q + 1)) (a k R : Nat) (ha : a = (t.getD 0 0).toNat - 224) (hk : k = 2) (hR : R = accs t a k) :
    (okN 3 R → nxI t = (R : Nat)) ∧ (¬ okN 3 R → nxI t = -1) := by
  have c1 := hc 0 (by omega)
  have c2 := hc 1 (by omega)
  unfold ct at c1 c2
  subst hk
  replace hR : R = 64 * (64 * a + ((t.getD 1 0).toNat - 128)) + ((t.getD 2 0).toNat - 128) := hR
  obtain ⟨b0, g0⟩ : ∃ b, (t.getD 0 0).toNat = b := ⟨_, rfl⟩
  rw [g0] at h ha
  obtain ⟨b1, g1⟩ : ∃ b, (t.getD 1 0).toNat = b := ⟨_, rfl⟩
  rw [g1] at c1 hR
  obtain ⟨b2, g2⟩ : ∃ b, (t.getD 2 0).toNat = b := ⟨_, rfl⟩
  rw [g2] at c2 hR
  obtain ⟨b3, g3⟩ : ∃ b, (t.getD 3 0).toNat = b := ⟨_, rfl⟩
  have hdn : (okN 3 R → Lib.decodeN t.length b0 b1 b2 b3 = (R, 3)) ∧ (¬ okN 3 R → Lib.decodeN t.length b0 b1 b2 b3 = (65533, 1)) := by
    unfold okN
    unfold Lib.decodeN
    rw [if_neg (by omega)]
    rw [if_neg (by omega), if_pos (by omega), show b0 % 16 * 4096 + b1 % 64 * 64 + b2 % 64 = R by omega]
    rw [wid3]
    split
    · exact ⟨fun _ => rfl, fun h => by exfalso; omega⟩
    · exact ⟨fun h => by exfalso; omega, fun _ => rfl⟩
  refine ⟨fun hok => nxI_pair (k := 3) (by rw [dcd_num]; simp only [g0, g1, g2, g3]; exact hdn.1 hok) (by omega), fun hok => nxI_err (by rw [dcd_num]; simp only [g0, g1, g2, g3]; exact hdn.2 hok)⟩

/-! size 4 -/
theorem nx4_short (t : List UInt8) (h : 240 ≤ (t.getD 0 0).toNat ∧ (t.getD 0 0).toNat ≤ 244) (hl : t.length < 4) : nxI t = -1 := by
  refine nxI_err ?_
  rw [dcd_num]
  generalize (t.getD 0 0).toNat = b0 at *
  generalize (t.getD 1 0).toNat = b1 at *
  generalize (t.getD 2 0).toNat = b2 at *
  generalize (t.getD 3 0).toNat = b3 at *
  unfold Lib.decodeN
  rw [if_neg (by omega)]
  split
  · exfalso; omega
  · split
    · exfalso; omega
    · split
      · exfalso; omega
      · rfl
theorem nx4_cont (t : List UInt8) (h : 240 ≤ (t.getD 0 0).toNat ∧ (t.getD 0 0).toNat ≤ 244) (j : Nat) (hj : 1 ≤ j ∧ j < 4) (hc : ¬ ct t j) : nxI t = -1 := by
  refine nxI_err ?_
  rw [dcd_num]
  have hb1 := (t.getD 1 0).toNat_lt
  have hb2 := (t.getD 2 0).toNat_lt
  have hb3 := (t.getD 3 0).toNat_lt
  have hcase : ¬ (ct t 1 ∧ ct t 2 ∧ ct t 3) := by
    intro hh
    have hjj : j = 1 ∨ j = 2 ∨ j = 3 := by omega
    rcases hjj with rfl | rfl | rfl
    · exact hc hh.1
    · exact hc hh.2.1
    · exact hc hh.2.2
  unfold ct at hcase
  clear hc
  generalize (t.getD 0 0).toNat = b0 at *
  generalize (t.getD 1 0).toNat = b1 at *
  generalize (t.getD 2 0).toNat = b2 at *
  generalize (t.getD 3 0).toNat = b3 at *
  unfold Lib.decodeN
  rw [if_neg (by omega)]
  split
  · exfalso; omega
  · split
    · exfalso; omega
    · split
      · exfalso; omega
      · rfl
theorem nx4_whole (t : List UInt8) (h : 240 ≤ (t.getD 0 0).toNat ∧ (t.getD 0 0).toNat ≤ 244) (hl : 4 ≤ t.length) (hc : ∀ q, q < 3 → ct t (q + 1)) (a k R : Nat) (ha : a = (t.getD 0 0).toNat - 240) (hk : k = 3) (hR : R = accs t a k) :
    (okN 4 R → nxI t = (R : Nat)) ∧ (¬ okN 4 R → nxI t = -1) := by
  have c1 := hc 0 (by omega)
  have c2 := hc 1 (by omega)
  have c3 := hc 2 (by omega)
  unfold ct at c1 c2 c3
  subst hk
  replace hR : R = 64 * (64 * (64 * a + ((t.getD 1 0).toNat - 128)) + ((t.getD 2 0).toNat - 128)) + ((t.getD 3 0).toNat - 128) := hR
  obtain ⟨b0, g0⟩ : ∃ b, (t.getD 0 0).toNat = b := ⟨_, rfl⟩
  rw [g0] at h ha
  obtain ⟨b1, g1⟩ : ∃ b, (t.getD 1 0).toNat = b := ⟨_, rfl⟩
  rw [g1] at c1 hR
  obtain ⟨b2, g2⟩ : ∃ b, (t.getD 2 0).toNat = b := ⟨_, rfl⟩
  rw [g2] at c2 hR
  obtain ⟨b3, g3⟩ : ∃ b, (t.getD 3 0).toNat = b := ⟨_, rfl⟩
  rw [g3] at c3 hR
  have hdn : (okN 4 R → Lib.decodeN t.length b0 b1 b2 b3 = (R, 4)) ∧ (¬ okN 4 R → Lib.decodeN t.length b0 b1 b2 b3 = (65533, 1)) := by
    unfold okN
    unfold Lib.decodeN
    rw [if_neg (by omega)]
    rw [if_neg (by omega), if_neg (by omega), if_pos (by omega), show b0 % 8 * 262144 + b1 % 64 * 4096 + b2 % 64 * 64 + b3 % 64 = R by omega]
    rw [wid4]
    split
    · exact ⟨fun _ => rfl, fun h => by exfalso; omega⟩
    · exact ⟨fun h => by exfalso; omega, fun _ => rfl⟩
  refine ⟨fun hok => nxI_pair (k := 4) (by rw [dcd_num]; simp only [g0, g1, g2, g3]; exact hdn.1 hok) (by omega), fun hok => nxI_err (by rw [dcd_num]; simp only [g0, g1, g2, g3]; exact hdn.2 hok)⟩
end Go.Proofs.YtmnejphdjnlbjaaGreatDoor.namp
/-
  Layer 9's reference: next, walked. My own text (by a generator of mine).
-/
namespace Go.Proofs.YtmnejphdjnlbjaaGreatDoor.namp
open Go.RowKit Go.Proofs.YtmnejphdjnlbjaaGreatDoor.base Go.Proofs.YtmnejphdjnlbjaaGreatDoor.nam
set_option linter.unusedVariables false
theorem getD_of {t : List UInt8} {k : Nat} {x : UInt8} (h : t[k]? = some x) : t.getD k 0 = x := by rw [List.getD_eq_getElem?_getD, h]; rfl
theorem accs_succ (t : List UInt8) (a j : Nat) : accs t a (j + 1) = 64 * accs t a j + cv t (j + 1) := by rw [accs]
theorem cv_of {t : List UInt8} {q : Nat} {y : UInt8} (h : t.getD q 0 = y) : cv t q = y.toNat - 128 := by subst h; rfl
theorem ret_int {a b : Int} (h : a = b) : Ending.returned (Value.int .i64 a) = Ending.returned (Value.int .i64 b) := by rw [h]
theorem ct_step {t : List UInt8} {j : Nat} (h : ∀ q, q < j → ct t (q + 1)) (k : ct t (j + 1)) : ∀ q, q < j + 1 → ct t (q + 1) := by
  intro q hq
  by_cases e : q = j
  · subst e; exact k
  · exact h q (by omega)

end Go.Proofs.YtmnejphdjnlbjaaGreatDoor.namp
/-
  Layer 9's reference: Read. My own text.
-/
namespace Go.Proofs.YtmnejphdjnlbjaaGreatDoor.namp
open Go.RowKit Go.Proofs.YtmnejphdjnlbjaaGreatDoor.base Go.Proofs.YtmnejphdjnlbjaaGreatDoor.nam
set_option linter.unusedVariables false

abbrev rv (l : List Nat) : List Value := l.map fun x : Nat => iv (x : Int)
/-- what Read tells of a text that begins with these runes, and then with what is none -/
def ReadIs (rs : List Nat) (u : List UInt8) (w : World) (e : Ending) (w' : World) : Prop :=
  ∃ A m c, e = .returned (.agg #[.slice A m c, .bool (decide (u = []))]) ∧ Fresh w w' ∧ m ≤ c ∧ (u = [] → m = rs.length ∧ Rd w' w'.heap.size A m (rv rs))
theorem Own.low9 {w : World} {base base' : Nat} {e : TypeId} {A : Option Addr} {n c : Nat} {xs : List Value} (h : Own w base e A n c xs) (hb : base' ≤ base) : Own w base' e A n c xs :=
  ⟨h.1, h.2.imp id fun ⟨g, cap, cur, h1, h2, h3⟩ => ⟨g, cap, cur, h1, Nat.le_trans hb h2, h3⟩⟩
theorem readIs_bad {rs : List Nat} {u : List UInt8} {w w' : World} (hu : Bad u) (hf : Fresh w w') : ReadIs rs u w (.returned (.agg #[.slice none 0 0, .bool false])) w' :=
  ⟨none, 0, 0, by rw [decide_eq_false hu.1], hf, Nat.le_refl _, fun h => absurd h hu.1⟩
theorem readIs_ok {rs : List Nat} {u : List UInt8} {w w' : World} {A : Option Addr} {m c : Nat} (hu : u = []) (hf : Fresh w w') (hmc : m ≤ c) (hm : m = rs.length) (hr : Rd w' w'.heap.size A m (rv rs)) : ReadIs rs u w (.returned (.agg #[.slice A m c, .bool true])) w' :=
  ⟨A, m, c, by rw [decide_eq_true hu], hf, hmc, fun _ => ⟨hm, hr⟩⟩
end Go.Proofs.YtmnejphdjnlbjaaGreatDoor.namp
/-
  Layer 9's reference: Decode, Encode, May. My own text.
-/
namespace Go.Proofs.YtmnejphdjnlbjaaGreatDoor.namp
open Go.RowKit Go.Proofs.YtmnejphdjnlbjaaGreatDoor.base Go.Proofs.YtmnejphdjnlbjaaGreatDoor.nam
set_option linter.unusedVariables false

theorem info_byte9 : (Tryz.prog.info? 5).map (fun i => (i.zero, i.size, i.bytes)) = some (some (.int .u8 0), 1, 1) := by kernel_rfl
/-- what the reference's Decode and Encode tell: bytes, and a sign -/
def NameIs (bs : List UInt8) (is : Bool) (w : World) (e : Ending) (w' : World) : Prop :=
  ∃ A m c, e = .returned (.agg #[.slice A m c, .bool is]) ∧ m = bs.length ∧ Fresh w w' ∧ Rd w' w'.heap.size A m (bs.map bv) ∧ m ≤ c ∧ c ≤ maxLen
theorem page_at {w : World} {B : Nat} {A : Option Addr} (h : Rd w B A 128 pageV) {j : Nat} (hj : j < 128) : ∃ b off, A = some ⟨b, off, none⟩ ∧ b < B ∧ w.cell? ⟨b, off + j, none⟩ = some (iv (pageR (128 + j) : Nat)) := by
  obtain ⟨b, off, e, hb, hc⟩ := h.2 (by omega)
  refine ⟨b, off, e, hb, hc j _ ?_⟩
  have hj2 : j < upperL.length := by rw [upper_len]; omega
  rw [pageV, List.getElem?_map, List.getElem?_eq_getElem hj2, pageR, if_neg (by omega), show 128 + j - 128 = j by omega, List.getD_eq_getElem?_getD, List.getElem?_eq_getElem hj2]
  rfl
theorem st_slot_ {P : Program} {ops : Array Oper} {a : Act} {w : World} {K : Act → World → Prop} {Q : Exit → Act → World → Prop} {E : Prop} {t : TypeId} (d : Nat) {op : Op} {ps : String} {af gd} (h : if Region.wanted (⟨some d, op, t, ps, af, gd⟩ : Oper) (yielded ops a.tmps) = true then Oper.wp P ⟨some d, op, t, ps, af, gd⟩ a w K Q else E) :
    if Region.wanted (⟨some d, op, t, ps, af, gd⟩ : Oper) (yielded ops a.tmps) = true then Oper.wp P ⟨some d, op, t, ps, af, gd⟩ a w K Q else E := h
theorem own_news {w : World} {base g n c : Nat} {e : TypeId} {xs : List Value} (h : Own w base e (some ⟨g, 0, none⟩) n c xs) : ∀ j u, xs[j]? = some u → w.cell? ((⟨g, 0, none⟩ : Addr).add j) = some u := fun j u hj => World.ownsRow.cells h (g := g) rfl j u hj
end Go.Proofs.YtmnejphdjnlbjaaGreatDoor.namp
/-
  A map's block whose entries are, in some order, a list of pairs: plain lemmas on worlds, over any program. My own text.
-/
namespace Go.Proofs.YtmnejphdjnlbjaaGreatDoor.base
open Go.RowKit Go.Maps Go.ChangeMaps Go.MapKept
set_option linter.unusedVariables false

/-- block b is a map whose entries are, in some order, kv -/
def MapOf (P : Program) (k : TypeId) (w : World) (b : Nat) (kv : List (Value × Value)) : Prop :=
  ∃ es clock, w.heap[b]? = some (.map es clock) ∧ Stamped es clock ∧ (∀ e ∈ es.toList, ∃ l, keyOf P k e.key = some l) ∧ (es.toList.map fun e => (e.key, e.val)).Perm kv

section
variable {P : Program} {k e t : TypeId} {w w' : World} {b : Nat} {kv : List (Value × Value)}

theorem MapOf.inside (h : MapOf P k w b kv) : b < w.heap.size := by
  obtain ⟨es, clock, hb, _⟩ := h
  exact (Array.getElem?_eq_some_iff.1 hb).1
theorem MapOf.old (h : MapOf P k w b kv) (hk : w'.heap[b]? = w.heap[b]?) : MapOf P k w' b kv := by
  obtain ⟨es, clock, hb, r⟩ := h
  exact ⟨es, clock, hk.trans hb, r⟩
theorem MapOf.made (P : Program) (k : TypeId) (w : World) : MapOf P k (w.alloc (.map #[] 0)) w.heap.size [] :=
  ⟨#[], 0, (MapKept.heap_alloc w _).1, stamped_empty 0, by simp, by simp⟩
theorem MapOf.perm {kv' : List (Value × Value)} (h : MapOf P k w b kv) (hp : kv.Perm kv') : MapOf P k w b kv' := by
  obtain ⟨es, clock, hb, hs, hk, hq⟩ := h
  exact ⟨es, clock, hb, hs, hk, hq.trans hp⟩
theorem MapOf.apart (h : MapOf P k w b kv) : kv.Pairwise (fun p q => p.1 ≠ q.1) := by
  obtain ⟨es, clock, hb, hs, hk, hq⟩ := h
  refine (hq.pairwise_iff (fun {a b} (h : a.1 ≠ b.1) => h.symm)).1 ?_
  rw [List.pairwise_map]
  exact ((stamped_iff es clock).1 hs).2.2
theorem MapOf.keyed (h : MapOf P k w b kv) : ∀ p ∈ kv, ∃ l, keyOf P k p.1 = some l := by
  obtain ⟨es, clock, hb, hs, hk, hq⟩ := h
  intro p hp
  obtain ⟨x, hx, rfl⟩ := List.mem_map.1 (hq.mem_iff.2 hp)
  exact hk x hx
/-- not a row of cells -/
theorem MapOf.ne_cells (h : MapOf P k w b kv) {g : Nat} {c : Array Value} {te : TypeId} {fr : Nat × Nat} (hg : w.heap[g]? = some (.cells c te fr)) : b ≠ g := by
  rintro rfl
  obtain ⟨es, clock, hb, _⟩ := h
  rw [hb] at hg
  cases hg

theorem set_same {α : Type} {l : List α} {j : Nat} {x : α} (h : l[j]? = some x) : l.set j x = l := by
  obtain ⟨hj, rfl⟩ := List.getElem?_eq_some_iff.1 h
  exact List.set_getElem_self hj
theorem uniq {kv : List (Value × Value)} (hd : kv.Pairwise (fun p q => p.1 ≠ q.1)) {key v v' : Value} (h : (key, v) ∈ kv) (h' : (key, v') ∈ kv) : v = v' := by
  induction hd with
  | nil => cases h
  | cons hx _ ih =>
    rcases List.mem_cons.1 h with rfl | h1
    · rcases List.mem_cons.1 h' with h2 | h2
      · exact (Prod.mk.inj h2).2.symm
      · exact absurd rfl (hx (key, v') h2)
    · rcases List.mem_cons.1 h' with rfl | h2
      · exact absurd rfl (hx (key, v) h1)
      · exact ih h1 h2

theorem MapOf.look_hit (h : MapOf P k w b kv) (K : Keyed P k) (ht : P.underlying t = some (.map k e)) {key v : Value} {kl : Lit} (hkey : keyOf P k key = some kl) (hv : (key, v) ∈ kv) (c : Bool) :
    (Instr.lookup t (.map (some b)) key c).run P w = .ok (if c then .tuple #[v, .bool true] else v) w := by
  have hd := h.apart
  obtain ⟨es, clock, hb, hs, hk, hq⟩ := h
  rcases K.find w hkey es.toList hk with ⟨h1, h2⟩ | ⟨j, e0, h1, h2, h3⟩
  · obtain ⟨x, hx, hxe⟩ := List.mem_map.1 (hq.mem_iff.2 hv)
    exact absurd (Prod.mk.inj hxe).1 (h2 x hx)
  · have hm : (key, e0.val) ∈ kv := hq.mem_iff.1 (List.mem_map.2 ⟨e0, List.mem_of_getElem? h2, by rw [h3]⟩)
    have := uniq hd hm hv
    subst this
    simp [Instr.lookup, run_underlying ht, MapKept.run_getObj_map hb, K.check w _ hkey, h1, Result.andThen]

theorem MapOf.look_miss (h : MapOf P k w b kv) (K : Keyed P k) (ht : P.underlying t = some (.map k e)) {z : Value} (hz : (zeroValue e).run P w = .ok z w) {key : Value} {kl : Lit} (hkey : keyOf P k key = some kl) (hv : ∀ p ∈ kv, p.1 ≠ key) (c : Bool) :
    (Instr.lookup t (.map (some b)) key c).run P w = .ok (if c then .tuple #[z, .bool false] else z) w := by
  obtain ⟨es, clock, hb, hs, hk, hq⟩ := h
  rcases K.find w hkey es.toList hk with ⟨h1, h2⟩ | ⟨j, e0, h1, h2, h3⟩
  · simp [Instr.lookup, run_underlying ht, MapKept.run_getObj_map hb, K.check w _ hkey, h1, hz, Result.andThen]
  · exact absurd h3 (hv _ (hq.mem_iff.1 (List.mem_map.2 ⟨e0, List.mem_of_getElem? h2, rfl⟩)))

theorem But.setBlock_map {es es' : Array MapEntry} {clock clock' : Nat} (hb : w.heap[b]? = some (.map es clock)) : But b w (setBlock w b (.map es' clock')) :=
  World.mapTurned.grown ⟨es, clock, es', clock', hb, rfl⟩

theorem MapOf.put_new (h : MapOf P k w b kv) (K : Keyed P k) (ht : P.underlying t = some (.map k e)) {key : Value} {kl : Lit} (hkey : keyOf P k key = some kl) (hv : ∀ p ∈ kv, p.1 ≠ key) (val : Value) :
    ∃ w', (Instr.mapUpdate t (.map (some b)) key val).run P w = .ok () w' ∧ MapOf P k w' b ((key, val) :: kv) ∧ But b w w' := by
  obtain ⟨es, clock, hb, hs, hk, hq⟩ := h
  rcases K.find w hkey es.toList hk with ⟨h1, h2⟩ | ⟨j, e0, h1, h2, h3⟩
  · refine ⟨setBlock w b (.map (es.push ⟨key, val, clock⟩) (clock + 1)), ?_, ⟨_, _, heap_setBlock_same hb _, stamped_push hs h2, ?_, ?_⟩, But.setBlock_map hb⟩
    · simp [Instr.mapUpdate, run_underlying ht, MapKept.run_getObj_map hb, K.check w false hkey, h1, MapKept.run_setObj_map _ hb, Result.andThen, setBlock]
    · intro x hx
      simp only [Array.toList_push, List.mem_append, List.mem_singleton] at hx
      rcases hx with hx | rfl
      · exact hk x hx
      · exact ⟨kl, hkey⟩
    · simp only [Array.toList_push, List.map_append, List.map_cons, List.map_nil]
      exact (List.perm_append_singleton _ _).trans (hq.cons _)
  · exact absurd h3 (hv _ (hq.mem_iff.1 (List.mem_map.2 ⟨e0, List.mem_of_getElem? h2, rfl⟩)))

theorem MapOf.put_old (h : MapOf P k w b kv) (K : Keyed P k) (ht : P.underlying t = some (.map k e)) {key v0 : Value} {kl : Lit} {rest : List (Value × Value)} (hkey : keyOf P k key = some kl) (hp : kv.Perm ((key, v0) :: rest)) (val : Value) :
    ∃ w', (Instr.mapUpdate t (.map (some b)) key val).run P w = .ok () w' ∧ MapOf P k w' b ((key, val) :: rest) ∧ But b w w' := by
  have hd := h.apart
  obtain ⟨es, clock, hb, hs, hk, hq⟩ := h
  rcases K.find w hkey es.toList hk with ⟨h1, h2⟩ | ⟨j, e0, h1, h2, h3⟩
  · obtain ⟨x, hx, hxe⟩ := List.mem_map.1 (hq.mem_iff.2 (hp.mem_iff.2 (List.mem_cons_self ..)))
    exact absurd (Prod.mk.inj hxe).1 (h2 x hx)
  · have hj : es[j]? = some e0 := by simpa using h2
    have hjl : j < es.toList.length := (List.getElem?_eq_some_iff.1 h2).1
    have hv : e0.val = v0 := uniq hd (key := key) (hq.mem_iff.1 (List.mem_map.2 ⟨e0, List.mem_of_getElem? h2, by rw [h3]⟩)) (hp.mem_iff.2 (List.mem_cons_self ..))
    have hkeyf : ∀ e', es[j]? = some e' → ({ e' with key := key, val := val } : MapEntry).key = e'.key := fun e' he' => by rw [hj] at he'; cases he'; exact h3.symm
    have hlist : (es.modify j (fun e' => { e' with key := key, val := val })).toList = es.toList.set j { e0 with key := key, val := val } := by rw [Array.toList_modify, modify_eq_set _ _ _ _ h2]
    refine ⟨setBlock w b (.map (es.modify j (fun e' => { e' with key := key, val := val })) clock), ?_, ⟨_, _, heap_setBlock_same hb _, stamped_modify hs _ _ (fun _ _ => rfl) (fun e' _ he' => hkeyf e' he'), ?_, ?_⟩, But.setBlock_map hb⟩
    · simp [Instr.mapUpdate, run_underlying ht, MapKept.run_getObj_map hb, K.check w false hkey, h1, hj, h3, K.stays w hkey, MapKept.run_setObj_map _ hb, Result.andThen, setBlock]
    · intro x hx
      rw [hlist] at hx
      rcases List.mem_or_eq_of_mem_set hx with hx | rfl
      · exact hk x hx
      · exact ⟨kl, hkey⟩
    · rw [hlist, List.map_set]
      have hl2 : j < (es.toList.map fun e => (e.key, e.val)).length := by simpa using hjl
      refine (set_perm _ j hl2 _).trans ((?_ : List.Perm _ _).cons _)
      have h4 : (es.toList.map fun e => (e.key, e.val))[j]? = some (key, v0) := by rw [List.getElem?_map, h2, ← hv, ← h3]; rfl
      have h5 := set_perm (es.toList.map fun e => (e.key, e.val)) j hl2 (key, v0)
      rw [set_same h4] at h5
      exact (List.Perm.cons_inv ((h5.symm.trans hq).trans hp))

theorem MapOf.drop_hit (h : MapOf P k w b kv) (K : Keyed P k) (ht : P.underlying t = some (.map k e)) {key v0 : Value} {kl : Lit} {rest : List (Value × Value)} (hkey : keyOf P k key = some kl) (hp : kv.Perm ((key, v0) :: rest)) (ty : TypeId) :
    ∃ w', (Builtin.delete_ #[t, k] ty #[.map (some b), key]).run P w = .ok (.tuple #[]) w' ∧ MapOf P k w' b rest ∧ But b w w' := by
  have hd := h.apart
  obtain ⟨es, clock, hb, hs, hk, hq⟩ := h
  rcases K.find w hkey es.toList hk with ⟨h1, h2⟩ | ⟨j, e0, h1, h2, h3⟩
  · obtain ⟨x, hx, hxe⟩ := List.mem_map.1 (hq.mem_iff.2 (hp.mem_iff.2 (List.mem_cons_self ..)))
    exact absurd (Prod.mk.inj hxe).1 (h2 x hx)
  · have hjl : j < es.toList.length := (List.getElem?_eq_some_iff.1 h2).1
    have hjs : j < es.size := by simpa using hjl
    have hv : e0.val = v0 := uniq hd (key := key) (hq.mem_iff.1 (List.mem_map.2 ⟨e0, List.mem_of_getElem? h2, by rw [h3]⟩)) (hp.mem_iff.2 (List.mem_cons_self ..))
    have hsub : (es.eraseIdxIfInBounds j).toList = es.toList.eraseIdx j := by
      unfold Array.eraseIdxIfInBounds
      rw [dif_pos hjs]
      simp
    refine ⟨setBlock w b (.map (es.eraseIdxIfInBounds j) clock), ?_, ⟨_, _, heap_setBlock_same hb _, stamped_erase hs j, ?_, ?_⟩, But.setBlock_map hb⟩
    · simp [Builtin.delete_, run_underlying ht, MapKept.run_getObj_map hb, K.check w _ hkey, h1, MapKept.run_setObj_map _ hb, Result.andThen, setBlock]
    · intro x hx
      rw [hsub] at hx
      exact hk x ((List.eraseIdx_sublist _ _).subset hx)
    · rw [hsub, ChangeMaps.map_eraseIdx]
      have hl2 : j < (es.toList.map fun e => (e.key, e.val)).length := by simpa using hjl
      have h4 : (es.toList.map fun e => (e.key, e.val))[j]? = some (key, v0) := by rw [List.getElem?_map, h2, ← hv, ← h3]; rfl
      have h5 := set_perm (es.toList.map fun e => (e.key, e.val)) j hl2 (key, v0)
      rw [set_same h4] at h5
      exact (List.Perm.cons_inv ((h5.symm.trans hq).trans hp))

theorem MapOf.drop_miss (h : MapOf P k w b kv) (K : Keyed P k) (ht : P.underlying t = some (.map k e)) {key : Value} {kl : Lit} (hkey : keyOf P k key = some kl) (hv : ∀ p ∈ kv, p.1 ≠ key) (ty : TypeId) :
    ∃ w', (Builtin.delete_ #[t, k] ty #[.map (some b), key]).run P w = .ok (.tuple #[]) w' ∧ MapOf P k w' b kv ∧ But b w w' := by
  obtain ⟨es, clock, hb, hs, hk, hq⟩ := h
  rcases K.find w hkey es.toList hk with ⟨h1, h2⟩ | ⟨j, e0, h1, h2, h3⟩
  · refine ⟨setBlock w b (.map es clock), ?_, ⟨_, _, heap_setBlock_same hb _, hs, hk, hq⟩, But.setBlock_map hb⟩
    simp [Builtin.delete_, run_underlying ht, MapKept.run_getObj_map hb, K.check w _ hkey, h1, MapKept.run_setObj_map _ hb, Result.andThen, setBlock]
  · exact absurd h3 (hv _ (hq.mem_iff.1 (List.mem_map.2 ⟨e0, List.mem_of_getElem? h2, rfl⟩)))

theorem MapOf.len (h : MapOf P k w b kv) (ht : P.underlying t = some (.map k e)) (ty : TypeId) : (Builtin.len_ #[t] ty #[.map (some b)]).run P w = .ok (.int .i64 (kv.length : Nat)) w := by
  obtain ⟨es, clock, hb, hs, hk, hq⟩ := h
  have : es.size = kv.length := by have := hq.length_eq; simpa using this
  rw [← this]
  simp [Builtin.len_, run_underlying ht, MapKept.run_getObj_map hb, goInt, Result.andThen]

/-- the map in block b, on the way through it by the iterator in block r: 'left' are still to come -/
def RangeOf (P : Program) (k : TypeId) (w : World) (b r : Nat) (kv left : List (Value × Value)) : Prop :=
  ∃ es clock since seen c0, w.heap[b]? = some (.map es clock) ∧ Stamped es clock ∧ (∀ e ∈ es.toList, ∃ l, keyOf P k e.key = some l) ∧ (es.toList.map fun e => (e.key, e.val)).Perm kv ∧
    w.heap[r]? = some (.mapIter (some b) since seen c0) ∧ (∀ x ∈ es.toList, x.born < since) ∧ since ≤ c0 ∧ since ≤ clock ∧ ((leftOf es seen).toList.map fun e => (e.key, e.val)).Perm left

theorem RangeOf.map {r : Nat} {left : List (Value × Value)} (h : RangeOf P k w b r kv left) : MapOf P k w b kv := by
  obtain ⟨es, clock, since, seen, c0, hb, hs, hk, hq, _⟩ := h
  exact ⟨es, clock, hb, hs, hk, hq⟩
theorem RangeOf.iter {r : Nat} {left : List (Value × Value)} (h : RangeOf P k w b r kv left) : r < w.heap.size := by
  obtain ⟨es, clock, since, seen, c0, hb, hs, hk, hq, hr, _⟩ := h
  exact (Array.getElem?_eq_some_iff.1 hr).1
theorem RangeOf.ne {r : Nat} {left : List (Value × Value)} (h : RangeOf P k w b r kv left) : r ≠ b := by
  obtain ⟨es, clock, since, seen, c0, hb, hs, hk, hq, hr, _⟩ := h
  rintro rfl
  rw [hb] at hr
  cases hr
theorem RangeOf.old {r : Nat} {left : List (Value × Value)} (h : RangeOf P k w b r kv left) (h1 : w'.heap[b]? = w.heap[b]?) (h2 : w'.heap[r]? = w.heap[r]?) : RangeOf P k w' b r kv left := by
  obtain ⟨es, clock, since, seen, c0, hb, hs, hk, hq, hr, x⟩ := h
  exact ⟨es, clock, since, seen, c0, h1.trans hb, hs, hk, hq, h2.trans hr, x⟩
theorem RangeOf.fresh {r : Nat} {left : List (Value × Value)} (h : RangeOf P k w b r kv left) (hf : Fresh w w') : RangeOf P k w' b r kv left :=
  h.old (hf.block _ h.map.inside) (hf.block _ h.iter)
theorem RangeOf.sub {r : Nat} {left : List (Value × Value)} (h : RangeOf P k w b r kv left) : ∀ p ∈ left, p ∈ kv := by
  obtain ⟨es, clock, since, seen, c0, hb, hs, hk, hq, hr, h1, h2, h3, h4⟩ := h
  intro p hp
  obtain ⟨x, hx, rfl⟩ := List.mem_map.1 (h4.mem_iff.2 hp)
  exact hq.mem_iff.1 (List.mem_map.2 ⟨x, by simp [leftOf] at hx ⊢; exact hx.1, rfl⟩)


theorem MapOf.range (h : MapOf P k w b kv) (ht : P.underlying t = some (.map k e)) :
    ∃ w', (Instr.range t (.map (some b))).run P w = .ok (.pointer (some ⟨w.heap.size, 0, none⟩)) w' ∧ RangeOf P k w' b w.heap.size kv kv ∧ Fresh w w' ∧ w'.heap.size = w.heap.size + 1 := by
  have hlt := h.inside
  obtain ⟨es, clock, hb, hs, hk, hq⟩ := h
  refine ⟨_, run_range_map w t k e b es clock ht hb, ⟨es, clock, clock, #[], clock, ((MapKept.heap_alloc w _).2 b hlt).trans hb, hs, hk, hq, (MapKept.heap_alloc w _).1, ((stamped_iff es clock).1 hs).1, Nat.le_refl _, Nat.le_refl _, ?_⟩, Fresh.alloc _ _, by simp⟩
  have : leftOf es #[] = es := by unfold leftOf; exact Array.filter_eq_self.2 (fun x _ => by simp)
  rw [this]
  exact hq

theorem left_step {es : Array MapEntry} {seen : Array Nat} {e : MapEntry} (hn : (es.toList.map (·.born)).Nodup) (he : e ∈ (leftOf es seen).toList) :
    (leftOf es seen).toList.Perm (e :: (leftOf es (seen.push e.born)).toList) := by
  have h1 : ∀ (l : List MapEntry), (l.map (·.born)).Nodup → e ∈ l → l.Perm (e :: l.filter (fun x => !(x.born == e.born))) := by
    intro l
    induction l with
    | nil => intro _ h; cases h
    | cons y r ih =>
      intro hn he
      rw [List.map_cons, List.nodup_cons] at hn
      rcases List.mem_cons.1 he with rfl | he
      · rw [List.filter_cons_of_neg (by simp)]
        refine List.Perm.cons _ (List.Perm.of_eq ?_)
        refine (List.filter_eq_self.2 fun x hx => ?_).symm
        have : x.born ≠ e.born := fun h => hn.1 (h ▸ List.mem_map.2 ⟨x, hx, rfl⟩)
        simpa using this
      · have : y.born ≠ e.born := fun h => hn.1 (h ▸ List.mem_map.2 ⟨e, he, rfl⟩)
        rw [List.filter_cons_of_pos (by simpa using this)]
        exact ((ih hn.2 he).cons y).trans (List.Perm.swap _ _ _)
  have h2 : (leftOf es (seen.push e.born)).toList = (leftOf es seen).toList.filter (fun x => !(x.born == e.born)) := by
    simp only [leftOf, Array.toList_filter, List.filter_filter]
    refine List.filter_congr fun x _ => ?_
    rw [contains_push]
    cases seen.contains x.born <;> cases (x.born == e.born) <;> rfl
  rw [h2]
  refine h1 _ ?_ he
  simp only [leftOf, Array.toList_filter]
  exact (List.filter_sublist.map _).nodup hn

theorem RangeOf.next {r : Nat} {left : List (Value × Value)} (h : RangeOf P k w b r kv left) (ty : TypeId) :
    (left = [] ∧ (Instr.next (.pointer (some ⟨r, 0, none⟩)) false ty).run P w = .ok (.tuple #[.bool false]) w) ∨
    ∃ key v left' w', left.Perm ((key, v) :: left') ∧ (Instr.next (.pointer (some ⟨r, 0, none⟩)) false ty).run P w = .ok (.tuple #[.bool true, key, v]) w' ∧ RangeOf P k w' b r kv left' ∧ But r w w' ∧ w'.heap.size = w.heap.size ∧
      (Instr.entry (.pointer (some ⟨r, 0, none⟩))).run P w' = .ok (.tuple #[key, v]) w' := by
  have hne := h.ne
  obtain ⟨es, clock, since, seen, c0, hb, hs, hk, hq, hr, hold, hsc, hsk, hl⟩ := h
  rcases run_next_at (P := P) w ty r b since c0 seen es clock hr hb hold hsc with ⟨h0, hrun⟩ | ⟨x, hx, w1, hal, hrun⟩
  · left
    have : leftOf es seen = #[] := Array.eq_empty_of_size_eq_zero h0
    rw [this] at hl
    exact ⟨hl.symm.eq_nil, hrun⟩
  · right
    have hem : x ∈ es.toList := (mem_left hx).1
    have hr1 : w1.heap[r]? = some (.mapIter (some b) since seen c0) := by rcases hal with rfl | rfl <;> exact hr
    have hb1 : w1.heap[b]? = some (.map es clock) := by rcases hal with rfl | rfl <;> exact hb
    have hset := heap_set (o' := .mapIter (some b) since (seen.push x.born) clock) hr1
    have hb' : (setBlock w1 r (.mapIter (some b) since (seen.push x.born) clock)).heap[b]? = some (.map es clock) := (hset.2 b (fun e1 => hne e1.symm)).trans hb1
    have hnd := ((stamped_iff es clock).1 hs).2.1
    refine ⟨x.key, x.val, (leftOf es (seen.push x.born)).toList.map fun e => (e.key, e.val), _, hl.symm.trans (by have := (left_step hnd hx).map (fun e => (e.key, e.val)); simpa using this), hrun,
      ⟨es, clock, since, _, clock, hb', hs, hk, hq, hset.1, hold, hsk, hsk, List.Perm.refl _⟩, ?_, ?_, run_entry_at _ r b since seen es clock x hset.1 hb' hem hnd⟩
    · rcases hal with rfl | rfl <;> exact ⟨rfl, rfl, rfl, by simp [setBlock], fun i _ hi => hset.2 i (fun e1 => hi (by rw [e1]))⟩
    · rcases hal with rfl | rfl <;> simp [setBlock]
end

/-! at the operation, for the walk -/
section
variable {P : Program} (w : World) {ops : Array Oper} {rest : List Oper} {o : Oper} {a : Act} {Q : Exit → Act → World → Prop}

theorem wpList_look_hit (hg : o.guard = none) (m x : Operand) (t : TypeId) (hop : o.op = Op.lookup t m x false) (k e : TypeId) (K : Keyed P k) (ht : P.underlying t = some (.map k e)) (b : Nat) (kv : List (Value × Value))
    (hm : a.eval m = .map (some b)) (h : MapOf P k w b kv) (key v : Value) (kl : Lit) (hx : a.eval x = key) (hkey : keyOf P k key = some kl) (hv : (key, v) ∈ kv) (hK : wpList P ops Q rest (a.put o.dst v) w) : wpList P ops Q (o :: rest) a w := by
  refine wpList_plain hg fun K' hK' => ?_
  have hrun := h.look_hit K ht hkey hv false
  unfold Oper.wp
  simp [execOp, hop, hm, hx, hrun, Result.andThen]
  exact hK' _ _ hK
theorem wpList_look_miss (hg : o.guard = none) (m x : Operand) (t : TypeId) (hop : o.op = Op.lookup t m x false) (k e : TypeId) (K : Keyed P k) (ht : P.underlying t = some (.map k e)) (z : Value) (hz : (zeroValue e).run P w = .ok z w) (b : Nat) (kv : List (Value × Value))
    (hm : a.eval m = .map (some b)) (h : MapOf P k w b kv) (key : Value) (kl : Lit) (hx : a.eval x = key) (hkey : keyOf P k key = some kl) (hv : ∀ p ∈ kv, p.1 ≠ key) (hK : wpList P ops Q rest (a.put o.dst z) w) : wpList P ops Q (o :: rest) a w := by
  refine wpList_plain hg fun K' hK' => ?_
  have hrun := h.look_miss K ht hz hkey hv false
  unfold Oper.wp
  simp [execOp, hop, hm, hx, hrun, Result.andThen]
  exact hK' _ _ hK
theorem wpList_look_hit_ok (hg : o.guard = none) (m x : Operand) (t : TypeId) (hop : o.op = Op.lookup t m x true) (k e : TypeId) (K : Keyed P k) (ht : P.underlying t = some (.map k e)) (b : Nat) (kv : List (Value × Value))
    (hm : a.eval m = .map (some b)) (h : MapOf P k w b kv) (key v : Value) (kl : Lit) (hx : a.eval x = key) (hkey : keyOf P k key = some kl) (hv : (key, v) ∈ kv) (hK : wpList P ops Q rest (a.put o.dst (.tuple #[v, .bool true])) w) : wpList P ops Q (o :: rest) a w := by
  refine wpList_plain hg fun K' hK' => ?_
  have hrun := h.look_hit K ht hkey hv true
  unfold Oper.wp
  simp [execOp, hop, hm, hx, hrun, Result.andThen]
  exact hK' _ _ hK
theorem wpList_look_miss_ok (hg : o.guard = none) (m x : Operand) (t : TypeId) (hop : o.op = Op.lookup t m x true) (k e : TypeId) (K : Keyed P k) (ht : P.underlying t = some (.map k e)) (z : Value) (hz : (zeroValue e).run P w = .ok z w) (b : Nat) (kv : List (Value × Value))
    (hm : a.eval m = .map (some b)) (h : MapOf P k w b kv) (key : Value) (kl : Lit) (hx : a.eval x = key) (hkey : keyOf P k key = some kl) (hv : ∀ p ∈ kv, p.1 ≠ key) (hK : wpList P ops Q rest (a.put o.dst (.tuple #[z, .bool false])) w) : wpList P ops Q (o :: rest) a w := by
  refine wpList_plain hg fun K' hK' => ?_
  have hrun := h.look_miss K ht hz hkey hv true
  unfold Oper.wp
  simp [execOp, hop, hm, hx, hrun, Result.andThen]
  exact hK' _ _ hK
theorem wpList_put_new (hg : o.guard = none) (m x y : Operand) (t : TypeId) (hop : o.op = Op.mapUpdate t m x y) (k e : TypeId) (K : Keyed P k) (ht : P.underlying t = some (.map k e)) (b : Nat) (kv : List (Value × Value))
    (hm : a.eval m = .map (some b)) (h : MapOf P k w b kv) (key val : Value) (kl : Lit) (hx : a.eval x = key) (hy : a.eval y = val) (hkey : keyOf P k key = some kl) (hv : ∀ p ∈ kv, p.1 ≠ key)
    (hK : ∀ w', MapOf P k w' b ((key, val) :: kv) → But b w w' → wpList P ops Q rest (a.put o.dst undef) w') : wpList P ops Q (o :: rest) a w := by
  refine wpList_plain hg fun K' hK' => ?_
  obtain ⟨w', hrun, h1, h2⟩ := h.put_new K ht hkey hv val
  unfold Oper.wp
  simp [execOp, hop, hm, hx, hy, hrun, Result.andThen]
  exact hK' _ _ (hK w' h1 h2)
theorem wpList_put_old (hg : o.guard = none) (m x y : Operand) (t : TypeId) (hop : o.op = Op.mapUpdate t m x y) (k e : TypeId) (K : Keyed P k) (ht : P.underlying t = some (.map k e)) (b : Nat) (kv rest' : List (Value × Value)) (v0 : Value)
    (hm : a.eval m = .map (some b)) (h : MapOf P k w b kv) (key val : Value) (kl : Lit) (hx : a.eval x = key) (hy : a.eval y = val) (hkey : keyOf P k key = some kl) (hp : kv.Perm ((key, v0) :: rest'))
    (hK : ∀ w', MapOf P k w' b ((key, val) :: rest') → But b w w' → wpList P ops Q rest (a.put o.dst undef) w') : wpList P ops Q (o :: rest) a w := by
  refine wpList_plain hg fun K' hK' => ?_
  obtain ⟨w', hrun, h1, h2⟩ := h.put_old K ht hkey hp val
  unfold Oper.wp
  simp [execOp, hop, hm, hx, hy, hrun, Result.andThen]
  exact hK' _ _ (hK w' h1 h2)
theorem wpList_drop_hit (hg : o.guard = none) (m x : Operand) (t k : TypeId) (hop : o.op = Op.call { callee := Callee.builtin Builtin.delete, args := #[m, x], argTypes := #[t, k] }) (e : TypeId) (K : Keyed P k) (ht : P.underlying t = some (.map k e)) (b : Nat) (kv rest' : List (Value × Value)) (v0 : Value)
    (hm : a.eval m = .map (some b)) (h : MapOf P k w b kv) (key : Value) (kl : Lit) (hx : a.eval x = key) (hkey : keyOf P k key = some kl) (hp : kv.Perm ((key, v0) :: rest'))
    (hK : ∀ w', MapOf P k w' b rest' → But b w w' → wpList P ops Q rest (a.put o.dst (.tuple #[])) w') : wpList P ops Q (o :: rest) a w := by
  refine wpList_plain hg fun K' hK' => ?_
  obtain ⟨w', hrun, h1, h2⟩ := h.drop_hit K ht hkey hp o.type
  unfold Oper.wp
  simp [execOp, hop, resolve, invoke, builtin, hm, hx, hrun, Result.andThen]
  exact hK' _ _ (hK w' h1 h2)
theorem wpList_drop_miss (hg : o.guard = none) (m x : Operand) (t k : TypeId) (hop : o.op = Op.call { callee := Callee.builtin Builtin.delete, args := #[m, x], argTypes := #[t, k] }) (e : TypeId) (K : Keyed P k) (ht : P.underlying t = some (.map k e)) (b : Nat) (kv : List (Value × Value))
    (hm : a.eval m = .map (some b)) (h : MapOf P k w b kv) (key : Value) (kl : Lit) (hx : a.eval x = key) (hkey : keyOf P k key = some kl) (hv : ∀ p ∈ kv, p.1 ≠ key)
    (hK : ∀ w', MapOf P k w' b kv → But b w w' → wpList P ops Q rest (a.put o.dst (.tuple #[])) w') : wpList P ops Q (o :: rest) a w := by
  refine wpList_plain hg fun K' hK' => ?_
  obtain ⟨w', hrun, h1, h2⟩ := h.drop_miss K ht hkey hv o.type
  unfold Oper.wp
  simp [execOp, hop, resolve, invoke, builtin, hm, hx, hrun, Result.andThen]
  exact hK' _ _ (hK w' h1 h2)
theorem wpList_map_len (hg : o.guard = none) (m : Operand) (t : TypeId) (hop : o.op = Op.call { callee := Callee.builtin Builtin.len, args := #[m], argTypes := #[t] }) (k e : TypeId) (ht : P.underlying t = some (.map k e)) (b : Nat) (kv : List (Value × Value))
    (hm : a.eval m = .map (some b)) (h : MapOf P k w b kv) (hK : wpList P ops Q rest (a.put o.dst (.int .i64 (kv.length : Nat))) w) : wpList P ops Q (o :: rest) a w := by
  refine wpList_plain hg fun K' hK' => ?_
  unfold Oper.wp
  simp [execOp, hop, resolve, invoke, builtin, hm, h.len ht o.type, Result.andThen]
  exact hK' _ _ hK
theorem wpList_map_range (hg : o.guard = none) (m : Operand) (t : TypeId) (hop : o.op = Op.range t m) (k e : TypeId) (ht : P.underlying t = some (.map k e)) (b : Nat) (kv : List (Value × Value)) (hm : a.eval m = .map (some b)) (h : MapOf P k w b kv)
    (r : Nat) (hr : w.heap.size = r) (hK : ∀ w', RangeOf P k w' b r kv kv → Fresh w w' → w'.heap.size = w.heap.size + 1 → wpList P ops Q rest (a.put o.dst (.pointer (some ⟨r, 0, none⟩))) w') : wpList P ops Q (o :: rest) a w := by
  refine wpList_plain hg fun K' hK' => ?_
  subst hr
  obtain ⟨w', hrun, h1, h2, h3⟩ := h.range ht
  unfold Oper.wp
  simp [execOp, hop, hm, hrun, Result.andThen]
  exact hK' _ _ (hK w' h1 h2 h3)
theorem wpList_map_next (hg : o.guard = none) (it : Operand) (hop : o.op = Op.next it false) (k : TypeId) (b r : Nat) (kv left : List (Value × Value)) (hit : a.eval it = .pointer (some ⟨r, 0, none⟩)) (h : RangeOf P k w b r kv left)
    (hDone : left = [] → wpList P ops Q rest (a.put o.dst (.tuple #[.bool false])) w)
    (hMore : ∀ key v left' w', left.Perm ((key, v) :: left') → RangeOf P k w' b r kv left' → But r w w' → w'.heap.size = w.heap.size → (Instr.entry (.pointer (some ⟨r, 0, none⟩))).run P w' = .ok (.tuple #[key, v]) w' →
      wpList P ops Q rest (a.put o.dst (.tuple #[.bool true, key, v])) w') : wpList P ops Q (o :: rest) a w := by
  refine wpList_plain hg fun K' hK' => ?_
  unfold Oper.wp
  rcases h.next o.type with ⟨h0, hrun⟩ | ⟨key, v, left', w', hp, hrun, h1, h2, h3, h4⟩
  · simp [execOp, hop, hit, hrun, Result.andThen]
    exact hK' _ _ (hDone h0)
  · simp [execOp, hop, hit, hrun, Result.andThen]
    exact hK' _ _ (hMore key v left' w' hp h1 h2 h3 h4)
end
end Go.Proofs.YtmnejphdjnlbjaaGreatDoor.base
/-
  Layer 9: Decode, bytesByRune, Encode, May. My own text.
-/
namespace Go.Proofs.YtmnejphdjnlbjaaGreatDoor.namp
open Go.RowKit Go.Maps Go.Proofs.YtmnejphdjnlbjaaGreatDoor.base Go.Proofs.YtmnejphdjnlbjaaGreatDoor.nam
set_option linter.unusedVariables false

/-- what Decode tells -/
def decP (told : Bool) (bs : List UInt8) : Value := if told then (if Lib.validD bs = true then .tuple #[.string ⟨bs.toArray⟩, .bool true] else .tuple #[.string ⟨#[]⟩, .bool false]) else .tuple #[.string ⟨(tx (pgs bs)).toArray⟩, .bool true]
theorem decode_any (A : Option Addr) (n c : Nat) (bs : List UInt8) (told : Bool) (w : World) (B : Nat) (hr : Rd w B A n (bs.map bv)) (hB : B ≤ w.heap.size) (hn : n ≤ 4294967296) (hU : Laid w) :
    Calls Tryz.prog 27 #[.slice A n c, .bool told] w fun e w' => e = .returned (decP told bs) ∧ Fresh w w' := by
  have hl : bs.length = n := by have := hr.1; rwa [List.length_map] at this
  cases told with
  | false =>
    have hp := byPage_any A n c bs w B hr hB hn hU.up
    have e1 : decP false bs = .tuple #[.string ⟨(tx (pgs bs)).toArray⟩, .bool true] := rfl
    rw [e1]
    obtain ⟨S, hS⟩ : ∃ S, (⟨(tx (pgs bs)).toArray⟩ : ByteArray) = S := ⟨_, rfl⟩
    rw [hS] at hp ⊢
    have HP := Lib.hid hp
    clear hp hS hr hU hl
    go_enter Tryz.func27, Tryz.ntmps27
    go_wp2_with (go_at_call 46; (refine HP.out.mono ?_); rintro e w1 ⟨rfl, hf1⟩)
    go_ret2
    exact ⟨rfl, hf1⟩
  | true =>
    have hc := run_str_rd (P := Tryz.prog) w 22 9 5 Tryz.underlying22 Tryz.underlying5 Tryz.underlying9 A c n B bs hr
    have hrt := right_any ⟨bs.toArray⟩ w (by show bs.toArray.size ≤ maxLen; simp; unfold maxLen; omega) hU
    have e0 : (⟨bs.toArray⟩ : ByteArray).data.toList = bs := rfl
    rw [e0] at hrt
    obtain ⟨S, hS⟩ : ∃ S, (⟨bs.toArray⟩ : ByteArray) = S := ⟨_, rfl⟩
    rw [hS] at hc hrt
    have HRT := Lib.hid hrt
    clear hrt hr hU hl e0
    cases hv : Lib.validD bs with
    | true =>
      have e1 : decP true bs = .tuple #[.string S, .bool true] := by rw [decP, if_pos rfl, if_pos hv, hS]
      rw [e1]
      rw [hv] at HRT
      clear e1 hS hv
      go_enter Tryz.func27, Tryz.ntmps27
      go_wp2_with (go_at_call 47; (refine HRT.out.mono ?_); rintro e w1 ⟨rfl, hf1⟩)
      go_ret2
      exact ⟨rfl, hf1⟩
    | false =>
      have e1 : decP true bs = .tuple #[.string ⟨#[]⟩, .bool false] := by rw [decP, if_pos rfl, if_neg (by rw [hv]; simp)]
      rw [e1]
      rw [hv] at HRT
      clear e1 hS hv
      go_enter Tryz.func27, Tryz.ntmps27
      go_wp2_with (go_at_call 47; (refine HRT.out.mono ?_); rintro e w1 ⟨rfl, hf1⟩)
      go_ret2
      exact ⟨rfl, hf1⟩

abbrev tRune : TypeId := 21
/-- the map's entries for the first k bytes -/
def mp (k : Nat) : List (Value × Value) := (List.range k).reverse.map fun b => (.int .i32 (pageR b : Nat), .int .u8 (b : Nat))
theorem mp_succ (k : Nat) : mp (k + 1) = (.int .i32 (pageR k : Nat), .int .u8 (k : Nat)) :: mp k := by simp [mp, List.range_succ]
theorem mp_hit {r b : Nat} (h : pageB r = some b) : ((.int .i32 (r : Nat), .int .u8 (b : Nat)) : Value × Value) ∈ mp 256 := by
  have := pageB_some h
  refine List.mem_map.2 ⟨b, by simp; exact this.1, by rw [this.2]⟩
theorem mp_miss {r : Nat} (h : pageB r = none) : ∀ p ∈ mp 256, p.1 ≠ .int .i32 (r : Nat) := by
  intro p hp
  obtain ⟨b, hb, rfl⟩ := List.mem_map.1 hp
  have := pageB_none h b (by simpa using hb)
  intro e
  injection e with _ e
  exact this (by omega)
theorem mp_new {k : Nat} (hk : k < 256) : ∀ p ∈ mp k, p.1 ≠ .int .i32 (pageR k : Nat) := by
  intro p hp
  obtain ⟨b, hb, rfl⟩ := List.mem_map.1 hp
  have hb2 : b < k := by simpa using hb
  intro e
  injection e with _ e
  have := pageR_inj (a := b) (b := k) (by omega) hk (by omega)
  omega
theorem runeKey : Keyed Tryz.prog tRune := int_keyed Tryz.underlying21
theorem key_rune (r : Nat) (h : r ≤ 1114111) : keyOf Tryz.prog tRune (.int .i32 (r : Nat)) = some (.int .i32 (r : Nat)) := keyOf_int_mk Tryz.underlying21 (by simp [Lit.wf, IntKind.min, IntKind.max, IntKind.signed, IntKind.bits]; omega)
theorem zero_byte (w : World) : (zeroValue 5).run Tryz.prog w = .ok (.int .u8 0) w := by kernel_rfl

/-! a text that is gone through -/
theorem own_ne_iter {w : World} {base n c k pos : Nat} {e : TypeId} {A : Option Addr} {xs : List Value} {s : ByteArray} (h : Own w base e A n c xs) (hk : w.heap[k]? = some (.stringIter s pos)) : (Value.slice A n c).ownBlock ≠ some k := by
  rcases h.2 with ⟨hv, _⟩ | ⟨g', cap, cur, hv, _, hh, _⟩
  · rw [hv]; simp [Value.ownBlock]
  · rw [hv]
    simp only [Value.ownBlock, ne_eq, Option.some.injEq]
    intro e
    subst e
    rw [hh] at hk
    cases hk
theorem iterAt_but (w : World) (k : Nat) (s : ByteArray) (pos : Nat) : But k w (w.iterAt k s pos) :=
  ⟨rfl, rfl, rfl, by rw [Lib.iterAt_size]; exact Nat.le_refl _, fun i hi hne => Lib.iterAt_other w k i s pos (fun e => hne (by rw [e]))⟩
theorem mapOf_ne_iter {P : Program} {t : TypeId} {w : World} {b k pos : Nat} {kv : List (Value × Value)} {s : ByteArray} (h : MapOf P t w b kv) (hk : w.heap[k]? = some (.stringIter s pos)) : b ≠ k := by
  rintro rfl
  obtain ⟨es, clock, hb, _⟩ := h
  rw [hb] at hk
  cases hk
theorem mapOf_but {P : Program} {t : TypeId} {w w' : World} {b k : Nat} {kv : List (Value × Value)} (h : MapOf P t w b kv) (hb : But k w w') (hne : b ≠ k) : MapOf P t w' b kv :=
  h.old (hb.block b h.inside (fun e => hne (by injection e)))
theorem mapOf_ne_own {P : Program} {t : TypeId} {w : World} {b base n c : Nat} {e : TypeId} {A : Option Addr} {xs : List Value} {kv : List (Value × Value)} (h : MapOf P t w b kv) (ho : Own w base e A n c xs) : (Value.slice A n c).ownBlock ≠ some b := by
  obtain ⟨es, clock, hb, _⟩ := h
  rcases ho.2 with ⟨hv, _⟩ | ⟨g', cap, cur, hv, _, hh, _⟩
  · rw [hv]; simp [Value.ownBlock]
  · rw [hv]
    simp only [Value.ownBlock, ne_eq, Option.some.injEq]
    intro e
    subst e
    rw [hh] at hb
    cases hb
theorem in_of_cell' {w : World} {k : Nat} {o : Obj} (h : w.heap[k]? = some o) : k < w.heap.size := (Array.getElem?_eq_some_iff.1 h).1
theorem range_str (W : World) (s : ByteArray) : (Instr.range 9 (.string s)).run Tryz.prog W = .ok (.pointer (some ⟨W.heap.size, 0, none⟩)) (W.iter s 0) := run_range_string W 9 s Tryz.underlying9

theorem decode_rune {s : ByteArray} {done rest : List Nat} {r : Nat} {u : List UInt8} (hs : s.data.toList = tx (done ++ r :: rest) ++ u) (hr : Rn r) : Utf8.decode s (tx done).length = (r, wid r) ∧ (tx done).length < s.size ∧ (tx done).length + wid r = (tx (done ++ [r])).length := by
  have e : tx (done ++ r :: rest) ++ u = tx done ++ (en r ++ (tx rest ++ u)) := by rw [tx_append, tx_cons, List.append_assoc, List.append_assoc]
  refine ⟨?_, ?_, ?_⟩
  · rw [decode_drop, hs, e, List.drop_left, dcd_good hr]
  · have : s.size = s.data.toList.length := (Array.length_toList (xs := s.data)).symm
    rw [this, hs, e, List.length_append, List.length_append, en_len]
    have := wid_bd r
    omega
  · rw [tx_snoc, List.length_append, en_len]
theorem decode_bad {s : ByteArray} {done : List Nat} {u : List UInt8} (hs : s.data.toList = tx done ++ u) (hu : Bad u) : Utf8.decode s (tx done).length = (65533, 1) ∧ (tx done).length < s.size := by
  refine ⟨?_, ?_⟩
  · rw [decode_drop, hs, List.drop_left, hu.2]
  · have : s.size = s.data.toList.length := (Array.length_toList (xs := s.data)).symm
    rw [this, hs, List.length_append]
    have := List.length_pos_iff.2 hu.1
    omega
theorem decode_end {s : ByteArray} {done : List Nat} (hs : s.data.toList = tx done) : ¬ (tx done).length < s.size := by
  have : s.size = s.data.toList.length := (Array.length_toList (xs := s.data)).symm
  rw [this, hs]
  omega
/-- the byte of a rune -/
def bR9 (r : Nat) : UInt8 := UInt8.ofNat ((pageB r).getD 0)
def hasB (r : Nat) : Bool := (pageB r).isSome
/-- what Encode tells of a text that begins with these runes, and then with what is none -/
def encB (rs : List Nat) (u : List UInt8) : List UInt8 := if u = [] ∧ rs.all hasB = true then rs.map bR9 else tx rs ++ u
def encT (rs : List Nat) (u : List UInt8) : Bool := !(decide (u = []) && rs.all hasB)
def EncIs (rs : List Nat) (u : List UInt8) (w : World) (e : Ending) (w' : World) : Prop :=
  ∃ A n c, e = .returned (.tuple #[.slice A n c, .bool (encT rs u)]) ∧ n = (encB rs u).length ∧ n ≤ c ∧ c ≤ maxLen ∧ Fresh w w' ∧ Rd w' w'.heap.size A n ((encB rs u).map bv)
theorem bR9_is {r b : Nat} (h : pageB r = some b) : (Value.int .u8 (b : Nat)) = bv (bR9 r) := by
  have := (pageB_some h).1
  rw [bv, bR9, h, Option.getD_some, nat_u8 b this]
theorem info_byte : (Tryz.prog.info? 5).map (fun i => (i.zero, i.size, i.bytes)) = some (some (.int .u8 0), 1, 1) := by kernel_rfl

/-- what May tells -/
def mayP (rs : List Nat) (u : List UInt8) : Bool := decide (1 ≤ (tx rs ++ u).length) && (decide ((tx rs ++ u).length ≤ 40) && (decide (u = []) && rs.all fun r => decide (32 ≤ r) && decide (r ≠ 127)))
set_option maxHeartbeats 4000000 in
set_option maxRecDepth 100000 in
theorem may_any (s : ByteArray) (rs : List Nat) (u : List UInt8) (hs : s.data.toList = tx rs ++ u) (hrn : ∀ r ∈ rs, Rn r) (hu : u = [] ∨ Bad u) (w : World) (hm : s.size ≤ 4294967296) (hU : Laid w) :
    Calls Tryz.prog 28 #[.string s] w fun e w' => e = .returned (.bool (mayP rs u)) ∧ Fresh w w' := by
  have hsl : s.size = (tx rs ++ u).length := by rw [← hs]; exact (Array.length_toList (xs := s.data)).symm
  have hrt := right_any s w (by unfold maxLen; omega) hU
  rw [hs] at hrt
  have hrs := range_str w s
  have HS := Lib.hid hs
  by_cases h1 : s.size < 1
  · have hp : mayP rs u = false := by rw [mayP, decide_eq_false (by omega)]; rfl
    rw [hp]
    have t1 : decide ((s.size : Int) < 1) = true := by rw [decide_eq_true_iff]; omega
    clear hrt hs hrn hu hU hsl hrs hp h1 HS hm
    go_enter Tryz.func28, Tryz.ntmps28
    go_wp2
    go_ret
    exact ⟨rfl, Fresh.refl _⟩
  by_cases h2 : 40 < s.size
  · have hp : mayP rs u = false := by rw [mayP, decide_eq_false (p := (tx rs ++ u).length ≤ 40) (by omega)]; simp
    rw [hp]
    have t1 : decide ((s.size : Int) < 1) = false := by rw [decide_eq_false_iff_not]; omega
    have t2 : decide ((s.size : Int) > 40) = true := by rw [decide_eq_true_iff]; omega
    have t3 : decide (40 < (s.size : Int)) = true := by rw [decide_eq_true_iff]; omega
    clear hrt hs hrn hu hU hsl hrs hp h1 HS hm h2
    go_enter Tryz.func28, Tryz.ntmps28
    go_wp2
    go_ret
    exact ⟨rfl, Fresh.refl _⟩
  have t1 : decide ((s.size : Int) < 1) = false := by rw [decide_eq_false_iff_not]; omega
  have t2 : decide ((s.size : Int) > 40) = false := by rw [decide_eq_false_iff_not]; omega
  have t3 : decide (40 < (s.size : Int)) = false := by rw [decide_eq_false_iff_not]; omega
  rcases hu with hu | hub
  · rw [hu, List.append_nil, valid_good rs hrn] at hrt
    have hp : mayP rs u = rs.all fun r => decide (32 ≤ r) && decide (r ≠ 127) := by
      rw [mayP, decide_eq_true (p := 1 ≤ (tx rs ++ u).length) (by omega), decide_eq_true (p := (tx rs ++ u).length ≤ 40) (by omega), decide_eq_true hu]; rfl
    rw [hp]
    rw [hu, List.append_nil] at HS
    have HRT := Lib.hid hrt
    have HRN := Lib.hid hrn
    have hrs2 := fun W => range_str W s
    have HRS := Lib.hid hrs2
    clear hrt hs hU hsl hrs hp h1 h2 hm hrn hrs2
    go_enter Tryz.func28, Tryz.ntmps28
    go_wp2_with (go_at_call 47; (refine HRT.out.mono ?_); rintro e w1 ⟨rfl, hf1⟩; have hrs1 := HRS.out w1)
    have hit0 := World.iter_heap w1 s 0
    have hf0 : Fresh w (w1.iter s 0) := hf1.trans (Fresh.alloc w1 _)
    have hi1 := hf1.size
    have HI := Lib.hid hit0
    have HF := Lib.hid hf0
    clear hrs1 hit0 hf0 hf1
    go_loopw [20] (fun _ wr => ∃ (done rest : List Nat), Hid (rs = done ++ rest) ∧ Hid ((done.all fun r => decide (32 ≤ r) && decide (r ≠ 127)) = true) ∧ wr.heap[w1.heap.size]? = some (.stringIter s (tx done).length) ∧ Fresh w wr) (fun _ wr => s.size - wr.iterPos w1.heap.size)
    case atStart => exact ⟨[], rs, rfl, rfl, HI.out, HF.out⟩
    case round =>
      obtain ⟨done, rest, hdr, hall, hit, hfr⟩ := hrel
      cases rest with
      | nil =>
        have hrd : rs = done := by have := hdr.out; rwa [List.append_nil] at this
        subst hrd
        have hend := decode_end (s := s) (done := rs) HS.out
        have hnx : ∀ ty, (Instr.next (.pointer (some ⟨w1.heap.size, 0, none⟩)) true ty).run Tryz.prog wr = _ := fun ty => Lib.run_next_end_at wr w1.heap.size s _ ty hit hend
        have HF2 := Lib.hid hfr
        clear hit hfr hend
        go_wp2
        go_ret
        rw [hall.out]
        exact ⟨rfl, HF2.out⟩
      | cons r rest =>
        have hrr : Rn r := HRN.out r (by rw [hdr.out]; simp)
        have hss := HS.out
        rw [hdr.out, ← List.append_nil (tx (done ++ r :: rest))] at hss
        have hd := decode_rune hss hrr
        have hnx : ∀ ty, (Instr.next (.pointer (some ⟨w1.heap.size, 0, none⟩)) true ty).run Tryz.prog wr = _ := fun ty => Lib.run_next_any_at wr w1.heap.size s _ ty hit hd.2.1
        rw [hd.1] at hnx
        simp only at hnx
        rw [hd.2.2] at hnx
        have hbut := iterAt_but wr w1.heap.size s (tx (done ++ [r])).length
        have hf2 := hfr.but (by omega) hbut
        have hit2 := Lib.iterAt_heap wr w1.heap.size s _ (tx (done ++ [r])).length hit
        have hadv : (tx done).length < (tx (done ++ [r])).length := by rw [tx_snoc, List.length_append, en_len]; have := wid_bd r; omega
        have hold : wr.iterPos w1.heap.size = (tx done).length := by simp only [World.iterPos, hit]
        have HF2 := Lib.hid hf2
        have HI2 := Lib.hid hit2
        have HLEN := Lib.hid hd.2.1
        have HADV := Lib.hid hadv
        have HOLD := Lib.hid hold
        clear hit hfr hd hbut hf2 hit2 hss hrr hadv hold
        obtain ⟨V, hV⟩ : ∃ V, wr.iterAt w1.heap.size s (tx (done ++ [r])).length = V := ⟨_, rfl⟩
        rw [hV] at hnx HF2 HI2
        obtain ⟨P0, hP0⟩ : ∃ P0 : Nat, (tx done).length = P0 := ⟨_, rfl⟩
        rw [hP0] at hnx
        clear hV hP0
        by_cases b1 : r < 32
        · have c1 : decide ((r : Int) < 32) = true := by rw [decide_eq_true_iff]; omega
          have HB := Lib.hid b1
          clear b1
          go_wp2
          go_ret
          rw [hdr.out, List.all_append, List.all_cons, decide_eq_false (p := 32 ≤ r) (by have := HB.out; omega)]
          exact ⟨by simp, HF2.out⟩
        have c1 : decide ((r : Int) < 32) = false := by rw [decide_eq_false_iff_not]; omega
        by_cases b2 : r = 127
        · subst b2
          go_wp2
          go_ret
          rw [hdr.out, List.all_append, List.all_cons]
          exact ⟨by simp, HF2.out⟩
        · have c2 : ((r : Int) == 127) = false := by rw [beq_eq_false_iff_ne]; omega
          have HB1 := Lib.hid b1
          have HB2 := Lib.hid b2
          clear b1 b2
          go_wp2
          have HA := HADV.out
          have HLN := HLEN.out
          have HPO := HOLD.out
          have hit3 := HI2.out
          go_roundw
          case rel => exact ⟨done ++ [r], rest, by have := hdr.out; show _ = _; rw [this]; simp, by show _ = _; rw [List.all_append, hall.out, List.all_cons, List.all_nil, decide_eq_true (p := 32 ≤ r) (by have := HB1.out; omega), decide_eq_true (p := r ≠ 127) HB2.out]; rfl, hit3, HF2.out⟩
          case measure =>
            simp only [World.iterPos, hit3] at HPO ⊢
            omega
  · rw [valid_bad rs u hrn hub] at hrt
    have hp : mayP rs u = false := by rw [mayP, decide_eq_false (p := u = []) hub.1]; simp
    rw [hp]
    have HRT := Lib.hid hrt
    clear hrt hs hrn hub hU hsl hrs hp h1 HS hm h2
    go_enter Tryz.func28, Tryz.ntmps28
    go_wp2_with (go_at_call 47; (refine HRT.out.mono ?_); rintro e w1 ⟨rfl, hf1⟩)
    go_ret
    exact ⟨rfl, hf1⟩
end Go.Proofs.YtmnejphdjnlbjaaGreatDoor.namp
/-
  Layer 9's reference: Decode as UTF-8, Encode, May. My own text.
-/
namespace Go.Proofs.YtmnejphdjnlbjaaGreatDoor.namp
open Go.RowKit Go.Proofs.YtmnejphdjnlbjaaGreatDoor.base Go.Proofs.YtmnejphdjnlbjaaGreatDoor.nam
set_option linter.unusedVariables false

theorem Rd.far {w w' : World} {B n : Nat} {A : Option Addr} {xs : List Value} (h : Rd w B A n xs) (hB : B ≤ w.heap.size) (hf : Fresh w w') : Rd w' w'.heap.size A n xs := (h.below hf hB).up (Nat.le_trans hB hf.size)
/-- what the reference's inner loop has found in k rounds -/
def cK (r k : Nat) : Int := match pageB r with
  | some b => if b < 128 + k then (b : Int) else -1
  | none => -1
theorem pageB_high {r b : Nat} (h : pageB r = some b) (hr : 128 ≤ r) : 128 ≤ b := by
  have := pageB_some h
  by_cases hb : b < 128
  · have h2 := this.2
    rw [pageR, if_pos hb] at h2
    omega
  · omega
theorem cK_zero {r : Nat} (hr : 128 ≤ r) : cK r 0 = -1 := by
  unfold cK
  cases h : pageB r with
  | none => rfl
  | some b =>
    have := pageB_high h hr
    simp only
    rw [if_neg (by omega)]
theorem cK_hit {r k : Nat} (hk : k < 128) (h : pageR (128 + k) = r) : cK r (k + 1) = 128 + (k : Int) := by
  have := pageB_R ⟨128 + k, by omega⟩
  simp only at this
  rw [h] at this
  unfold cK
  rw [this]
  simp only
  rw [if_pos (by omega)]
  omega
theorem cK_miss {r k : Nat} (hk : k < 128) (h : pageR (128 + k) ≠ r) : cK r (k + 1) = cK r k := by
  unfold cK
  cases hp : pageB r with
  | none => rfl
  | some b =>
    simp only
    have hb := pageB_some hp
    by_cases h1 : b < 128 + k
    · rw [if_pos h1, if_pos (by omega)]
    · have : b ≠ 128 + k := fun e => by rw [e] at hb; exact h hb.2
      rw [if_neg h1, if_neg (by omega)]
theorem cK_end {r : Nat} : cK r 128 = match pageB r with
  | some b => (b : Int)
  | none => -1 := by
  unfold cK
  cases hp : pageB r with
  | none => rfl
  | some b =>
    have hb := (pageB_some hp).1
    simp only
    rw [if_pos (by omega)]
theorem cK_bd (r k : Nat) : -1 ≤ cK r k ∧ cK r k ≤ 255 := by
  unfold cK
  cases hp : pageB r with
  | none => simp
  | some b =>
    have hb := (pageB_some hp).1
    simp only
    split <;> omega

end Go.Proofs.YtmnejphdjnlbjaaGreatDoor.namp
/-
  Layer 9's reference: May. My own text.
-/
namespace Go.Proofs.YtmnejphdjnlbjaaGreatDoor.namp
open Go.RowKit Go.Proofs.YtmnejphdjnlbjaaGreatDoor.base Go.Proofs.YtmnejphdjnlbjaaGreatDoor.nam
set_option linter.unusedVariables false

end Go.Proofs.YtmnejphdjnlbjaaGreatDoor.namp
/-
  What the laws of layer 9 share: wakes, Same, the conversions that are guarded. My own text.
-/
namespace Go.Proofs.YtmnejphdjnlbjaaGreatDoor.namp
open Go.RowKit Go.Proofs.YtmnejphdjnlbjaaGreatDoor.base Go.Proofs.YtmnejphdjnlbjaaGreatDoor.nam
set_option linter.unusedVariables false

theorem same9 (A D : Option Addr) (n c d : Nat) (xs : List UInt8) (w : World) (B B' : Nat) (ha : Rd w B A n (xs.map bv)) (hd : Rd w B' D n (xs.map bv)) (hn : n ≤ maxLen) :
    Calls Tryz.prog 12 #[.slice A n c, .slice D n d] w fun e w' => e = .returned (.bool true) ∧ Fresh w w' := by
  unfold maxLen at hn
  go_enter Tryz.func12, Tryz.ntmps12
  go_wp2
  go_loopw [5] (fun i wr => ∃ (k q : Nat), k ≤ n ∧ i = .int .i64 k ∧ wr = w.drewN q) (fun i _ => n - (intOf i).toNat)
  case atStart => exact ⟨0, 0, by omega, rfl, rfl⟩
  case round =>
    obtain ⟨k, q, hk, rfl, rfl⟩ := hrel
    by_cases hlt : k < n
    · obtain ⟨b, off, x, rfl, hb, hx, hcx⟩ := ha.at_ hlt
      obtain ⟨b', off', x', rfl, hb', hx', hcx'⟩ := hd.at_ hlt
      have e : x = x' := by rw [hx] at hx'; injection hx'
      subst e
      clear hx hx' ha hd
      go_wp2
      go_quiet (fail)
      go_wp2
      go_roundw
      case rel => exact ⟨k + 1, _, by omega, by go_num, rfl⟩
      case measure => simp [intOf]; omega
    · go_wp2
      go_ret
      exact ⟨rfl, Fresh.drewN _ _⟩
theorem same_of (A D : Option Addr) (n m c d : Nat) (xs : List UInt8) (w : World) (B B' : Nat) (ha : Rd w B A n (xs.map bv)) (hd : Rd w B' D m (xs.map bv)) (hn : n ≤ maxLen) :
    Calls Tryz.prog 12 #[.slice A n c, .slice D m d] w fun e w' => e = .returned (.bool true) ∧ Fresh w w' := by
  have h1 := ha.1
  have h2 := hd.1
  have e : n = m := by rw [← h1, ← h2]
  subst e
  exact same9 A D n c d xs w B B' ha hd hn

theorem page_233 : pageB 233 = some 130 := by decide +kernel
section
variable {P : Program} {w : World} {ops : Array Oper} {rest : List Oper} {o : Oper} {a : Act} {Q : Exit → Act → World → Prop}
/-- []byte(text), guarded, where the guard holds -/
theorem wpList_bytes_of_if (hgd : Region.wanted o (yielded ops a.tmps) = true) (src dst e : TypeId) (x : Operand) (ho : o.op = .convert src dst x) (hs : P.underlying src = some .string) (hd : P.underlying dst = some (.slice e)) (he : P.underlying e = some (.int .u8))
    (s : ByteArray) (hx : a.eval x = .string s) (l : List UInt8) (hl : s.data.toList = l) (n : Nat) (hn : l.length = n) (hm : n ≤ maxLen)
    (h : ∀ A c w', Fresh w w' → Rd w' w'.heap.size A n (l.map bv) → n ≤ c → c ≤ maxLen → wpList P ops Q rest (a.put o.dst (.slice A n c)) w') : wpList P ops Q (o :: rest) a w := by
  have key := wpList_bytes_of (P := P) (w := w) (ops := ops) (rest := rest) (o := { o with guard := none }) (a := a) (Q := Q) rfl src dst e x ho hs hd he s hx l hl n hn hm h
  refine wpList_step fun K hK => ?_
  rw [if_pos hgd]
  have hsz : s.size = n := by rw [← hn, ← hl]; exact (Array.length_toList (xs := s.data)).symm
  have hrun := run_bytes_of_string (P := P) w src dst e s hs hd he
  rw [hsz] at hrun
  unfold Oper.wp execOp
  simp only [ho, hx, Sem.run_bind, hrun, Result.andThen_ok]
  have hf : Fresh w (w.drew.alloc (.cells (bytesRow s (grownCap w n 0 e)) e ((bytesRow s (grownCap w n 0 e)).size, (bytesRow s (grownCap w n 0 e)).size + 1))) := (Fresh.drew w).trans (Fresh.alloc _ _)
  refine hK _ _ (h _ _ _ hf ⟨by rw [List.length_map, hn], fun hpos => ⟨w.heap.size, 0, rfl, by simp, fun j u hu => ?_⟩⟩ ?_ ?_)
  · rw [Nat.zero_add]
    have hj : j < s.data.size := by
      have := (List.getElem?_eq_some_iff.1 hu).1
      rw [List.length_map] at this
      rw [← hl] at this
      rwa [Array.length_toList] at this
    have hcell := cell_of_row (w.drew.alloc (.cells (bytesRow s (grownCap w n 0 e)) e ((bytesRow s (grownCap w n 0 e)).size, (bytesRow s (grownCap w n 0 e)).size + 1))) w.heap.size j _ e _ (heap_alloc_new w.drew _)
    rw [hcell, bytesRow_at s _ j hj, ← hu, ← hl, List.getElem?_map, List.getElem?_eq_getElem (by simpa using hj)]
    simp
  · exact grownCap_ge w n 0 e
  · exact grownCap_le_maxLen w n 0 e hm
/-- []rune(text), guarded, where the guard holds: how many they are -/
theorem wpList_runes_if (hgd : Region.wanted o (yielded ops a.tmps) = true) (src dst e : TypeId) (x : Operand) (ho : o.op = .convert src dst x) (hs : P.underlying src = some .string) (hd : P.underlying dst = some (.slice e)) (he : P.underlying e = some (.int .i32))
    (s : ByteArray) (hx : a.eval x = .string s) (n : Nat) (hn : (Conv.runesFrom s s.size 0 #[]).size = n) (hm : n ≤ 70368744177664)
    (h : ∀ A c w', Fresh w w' → wpList P ops Q rest (a.put o.dst (.slice A n c)) w') : wpList P ops Q (o :: rest) a w := by
  refine wpList_step fun K hK => ?_
  rw [if_pos hgd]
  have hrun := run_runes_of_string (P := P) w src dst e s hs hd he (by omega)
  rw [hn] at hrun
  unfold Oper.wp execOp
  simp only [ho, hx, Sem.run_bind, hrun, Result.andThen_ok]
  exact hK _ _ (h _ _ _ ((Fresh.drew w).trans (Fresh.alloc _ _)))
end
theorem runes_from (s : ByteArray) : ∀ (rest done : List Nat) (bound : Nat) (acc : Array Value), s.data.toList = tx (done ++ rest) → (∀ r ∈ rest, Rn r) → rest.length ≤ bound → (Conv.runesFrom s bound (tx done).length acc).size = acc.size + rest.length
  | [], done, bound, acc, hs, hr, hb => by
    have hend := decode_end (s := s) (done := done) (by rw [hs, List.append_nil])
    cases bound with
    | zero => rfl
    | succ k => rw [Conv.runesFrom, if_neg hend]; rfl
  | r :: rest, done, 0, acc, hs, hr, hb => by simp at hb
  | r :: rest, done, k + 1, acc, hs, hr, hb => by
    have hd := decode_rune (u := []) (s := s) (done := done) (rest := rest) (r := r) (by rw [hs, List.append_nil]) (hr r (.head _))
    rw [Conv.runesFrom, if_pos hd.2.1, hd.1]
    simp only
    rw [hd.2.2, runes_from s rest (done ++ [r]) k _ (by rw [hs]; simp) (fun x hx => hr x (.tail _ hx)) (by simp at hb; omega)]
    simp
    omega
theorem runes_count (s : ByteArray) (rs : List Nat) (hs : s.data.toList = tx rs) (hr : ∀ r ∈ rs, Rn r) : (Conv.runesFrom s s.size 0 #[]).size = rs.length := by
  have h := runes_from s rs [] s.size #[] (by rw [hs]; rfl) hr (by
    have h1 := tx_le rs
    have h2 : s.size = s.data.toList.length := (Array.length_toList (xs := s.data)).symm
    rw [h2, hs]
    exact h1)
  simpa using h
end Go.Proofs.YtmnejphdjnlbjaaGreatDoor.namp
/-
  Names, as the program and the reference decode and allow them, by one model. My own text.
-/
namespace Go.Proofs.YtmnejphdjnlbjaaGreatDoor.unzp
open Go.RowKit Go.Proofs.YtmnejphdjnlbjaaGreatDoor.base Go.Proofs.YtmnejphdjnlbjaaGreatDoor.nam Go.Proofs.YtmnejphdjnlbjaaGreatDoor.namp Go.Proofs.YtmnejphdjnlbjaaGreatDoor.recn Go.Proofs.YtmnejphdjnlbjaaGreatDoor.unz
set_option linter.unusedVariables false
theorem mayP_is (rs : List Nat) (u : List UInt8) (h : ∀ r ∈ rs, Rn r) (hu : u = [] ∨ Bad u) : mayP rs u = mayL (tx rs ++ u) := by
  unfold mayP mayL
  rcases hu with rfl | hu
  · rw [List.append_nil, valid_good rs h, tx_ok rs h, Bool.true_and]
    simp
  · rw [valid_bad rs u h hu, decide_eq_false hu.1]
    simp
def decV (r : Option (List UInt8)) : Value := match r with
  | none => .tuple #[.string ⟨#[]⟩, .bool false]
  | some L => .tuple #[.string ⟨L.toArray⟩, .bool true]
theorem decV_is (told : Bool) (bs : List UInt8) : decP told bs = decV (decL told bs) := by
  unfold decP decL
  cases told with
  | false => rfl
  | true =>
    rw [if_pos rfl, if_pos rfl]
    split <;> rfl
theorem dec_any (A : Option Addr) (n c : Nat) (bs : List UInt8) (told : Bool) (w : World) (B : Nat) (hr : Rd w B A n (bs.map bv)) (hB : B ≤ w.heap.size) (hn : n ≤ 4294967296) (hU : Laid w) (r : Option (List UInt8)) (hres : decL told bs = r) :
    Calls Tryz.prog 27 #[.slice A n c, .bool told] w fun e w' => e = .returned (decV r) ∧ Fresh w w' := by
  subst hres
  have h := decode_any A n c bs told w B hr hB hn hU
  rwa [decV_is] at h
theorem may_of (L : List UInt8) (w : World) (hl : L.length ≤ 4294967296) (hU : Laid w) (b : Bool) (hb : mayL L = b) :
    Calls Tryz.prog 28 #[.string ⟨L.toArray⟩] w fun e w' => e = .returned (.bool b) ∧ Fresh w w' := by
  subst hb
  obtain ⟨rs, u, hrn, ht, hu⟩ := read_or L
  have h := may_any ⟨L.toArray⟩ rs u (by rw [← ht]) hrn hu w hl hU
  rw [mayP_is rs u hrn hu, ← ht] at h
  exact h
end Go.Proofs.YtmnejphdjnlbjaaGreatDoor.unzp
