import Derived.Test.YtmnejphdjnlbjaaGreatDoorUnzLeaf
import Derived.Handy
import Derived.WalkKit
import Derived.Test.YtmnejphdjnlbjaaGreatDoorBase
import Derived.Test.YtmnejphdjnlbjaaGreatDoorChecked
import Derived.BigQuiet
import Derived.Deep.QuietTactic
import Derived.Laws.BitsAllLaws
import Derived.IntWalk
import Derived.Test.YtmnejphdjnlbjaaGreatDoorBlk
import Derived.BigRegion
import Derived.StillTailTactics
import Derived.Great.BuildSlice
import Derived.Lib.SmallJoins
import Derived.Deep.RegionHeld3
/- Several of my own texts, one behind the other. -/
/-
  Plain data as a source: handing out, the rest. My own text.
-/
namespace Go.Proofs.YtmnejphdjnlbjaaGreatDoor.unzp
open Go.RowKit Go.Proofs.YtmnejphdjnlbjaaGreatDoor.base Go.Proofs.YtmnejphdjnlbjaaGreatDoor.word
set_option linter.unusedVariables false
abbrev tPlain : TypeId := 82
abbrev pt (g : Nat) : Value := .pointer (some ⟨g, 0, none⟩)
theorem prest_any (p : Nat) (w : World) : Calls Tryz.prog 85 #[pt p] w fun e w' => e = .returned (.int .i64 0) ∧ w' = w := by
  go_enter Tryz.func85, Tryz.ntmps85
  go_wp2
  go_ret
  exact ⟨rfl, rfl⟩
/-- what a plain source hands out, and what is left of it -/
def PgetIs (S : List Nat) (p k n : Nat) (bs : List UInt8) (w : World) (e : Ending) (w' : World) : Prop :=
  ∃ A1 c1 A2 c2, e = .returned (.tuple #[.slice A1 k c1, .int .i64 0]) ∧ RdA w' S A1 k ((bs.take k).map bv) ∧ Bk w' p tPlain [.slice A2 (n - k) c2] ∧ RdA w' S A2 (n - k) ((bs.drop k).map bv) ∧ n - k ≤ c2 ∧ c2 ≤ maxLen ∧ But p w w'
set_option maxRecDepth 100000 in
theorem pget_any (S : List Nat) (p : Nat) (A : Option Addr) (n c : Nat) (bs : List UInt8) (m k : Nat) (w : World) (hp : Bk w p tPlain [.slice A n c]) (hr : RdA w S A n (bs.map bv)) (hS : p ∈ S) (hSw : ∀ i ∈ S, i < w.heap.size) (hc : n ≤ c) (hcm : c ≤ maxLen) (hn : n ≤ 1099511627776) (hm : m ≤ 1099511627776) (hk : min m n = k) :
    Calls Tryz.prog 83 #[pt p, .int .i64 (m : Nat)] w (PgetIs S p k n bs w) := by
  have hkn : k ≤ n := by omega
  have hmin : min (m : Int) (n : Int) = (k : Int) := by omega
  have c0 := hp.cell (i := 0) rfl
  have f0 := hp.free 0
  have hhead : Rd w w.heap.size A k ((bs.take k).map bv) := by
    have h := (hr.head hkn).rd
    rwa [← List.map_take] at h
  have htail := hr.tail hkn hc
  rw [← List.map_drop] at htail
  have hpi := hp.inside
  have HP := Lib.hid hp
  have HH := Lib.hid hhead
  have HPI := Lib.hid hpi
  have HCM := Lib.hid hcm
  have HSW := Lib.hid hSw
  have hclone := fun (a : Nat) => clone_any A k c (bs.take k) w w.heap.size hhead (Nat.le_refl _) (by omega)
  have HCL := Lib.hid (hclone 0)
  clear hr hhead hpi hp hcm hclone hk hSw
  by_cases h : c = k
  · rw [if_pos h] at htail
    subst h
    have HT := Lib.hid htail
    clear htail
    go_enter Tryz.func83, Tryz.ntmps83
    go_wp2_with (go_at_call 30; ((with_reducible refine HCL.out.mono ?_); rintro e w1 ⟨A1, c1, rfl, hf1, ho1⟩; have hp1 := HP.out.fresh hf1; have c1' := hp1.cell (i := 0) rfl; have f1' := hp1.free 0; have HF1 := Lib.hid hf1; have HO1 := Lib.hid ho1; have HP1 := Lib.hid hp1; clear hf1 ho1 hp1))
    go_ret2
    have hb : But p w (w1.setCell ⟨p, 0, none⟩ (.slice A 0 0)) := (But.of_fresh HF1.out).trans (But.put w1 _)
    have hT := HT.out
    have e0 : n - c = 0 := by omega
    rw [e0] at hT
    unfold PgetIs
    rw [e0]
    exact ⟨A1, c1, A, 0, rfl, (RdA.of_own HO1.out HSW.out).turn (Turn.put w1 _ hS), HP1.out.put 0 _, (hT.fresh HF1.out).turn (Turn.put w1 _ hS), Nat.le_refl _, Nat.zero_le _, hb⟩
  · rw [if_neg h] at htail
    have HT := Lib.hid htail
    clear htail
    go_enter Tryz.func83, Tryz.ntmps83
    go_wp2_with (go_at_call 30; ((with_reducible refine HCL.out.mono ?_); rintro e w1 ⟨A1, c1, rfl, hf1, ho1⟩; have hp1 := HP.out.fresh hf1; have c1' := hp1.cell (i := 0) rfl; have f1' := hp1.free 0; have HF1 := Lib.hid hf1; have HO1 := Lib.hid ho1; have HP1 := Lib.hid hp1; clear hf1 ho1 hp1))
    go_ret2
    have hb : But p w (w1.setCell ⟨p, 0, none⟩ (.slice (A.map (·.add k)) (n - k) (c - k))) := (But.of_fresh HF1.out).trans (But.put w1 _)
    exact ⟨A1, c1, A.map (·.add k), c - k, rfl, (RdA.of_own HO1.out HSW.out).turn (Turn.put w1 _ hS), HP1.out.put 0 _, (HT.out.fresh HF1.out).turn (Turn.put w1 _ hS), by omega, Nat.le_trans (Nat.sub_le _ _) HCM.out, hb⟩
end Go.Proofs.YtmnejphdjnlbjaaGreatDoor.unzp
/-
  Sums of 32 bits, bit by bit: plain mathematics on numbers, over no program. My own text.
-/
namespace Go.Proofs.YtmnejphdjnlbjaaGreatDoor.crcnum

/-- what is added for a bit that goes -/
def poly : Nat := 3988292384

/-- one bit goes -/
def one (n : Nat) : Nat := if n % 2 = 1 then n / 2 ^^^ poly else n / 2

/-- k bits go -/
def many : Nat → Nat → Nat
  | 0, n => n
  | k + 1, n => one (many k n)

/-- a byte is taken in -/
def byte (n b : Nat) : Nat := many 8 (n ^^^ b)

/-- bytes are taken in -/
def over (n : Nat) (bs : List UInt8) : Nat := bs.foldl (fun n b => byte n b.toNat) n

/-- the sum -/
def sum (bs : List UInt8) : Nat := 4294967295 - over 4294967295 bs

theorem many_add (j k n : Nat) : many (j + k) n = many j (many k n) := by
  induction j with
  | zero => rw [Nat.zero_add]; rfl
  | succ j ih => rw [Nat.succ_add, many, ih, many]

theorem xor_left_cancel {a b c : Nat} (h : c ^^^ a = c ^^^ b) : a = b := by
  have := congrArg (c ^^^ ·) h
  simpa [← Nat.xor_assoc] using this
theorem xor_right_cancel {a b c : Nat} (h : a ^^^ c = b ^^^ c) : a = b := by
  rw [Nat.xor_comm a, Nat.xor_comm b] at h
  exact xor_left_cancel h
theorem xor_lt {a b : Nat} (ha : a < 4294967296) (hb : b < 4294967296) : a ^^^ b < 4294967296 := Nat.xor_lt_two_pow (n := 32) ha hb

theorem one_lt {n : Nat} (h : n < 4294967296) : one n < 4294967296 := by
  unfold one
  split
  · exact xor_lt (by omega) (by decide)
  · omega

theorem many_lt {k n : Nat} (h : n < 4294967296) : many k n < 4294967296 := by
  induction k with
  | zero => exact h
  | succ k ih => exact one_lt ih

theorem byte_lt {n b : Nat} (h : n < 4294967296) (hb : b < 256) : byte n b < 4294967296 := many_lt (xor_lt h (by omega))

theorem over_lt {n : Nat} (bs : List UInt8) (h : n < 4294967296) : over n bs < 4294967296 := by
  induction bs generalizing n with
  | nil => exact h
  | cons b r ih => exact ih (byte_lt h b.toNat_lt)

theorem over_append (n : Nat) (a b : List UInt8) : over n (a ++ b) = over (over n a) b := by simp [over, List.foldl_append]
theorem over_snoc (n : Nat) (a : List UInt8) (b : UInt8) : over n (a ++ [b]) = byte (over n a) b.toNat := by simp [over, List.foldl_append]

/-- an even part stands aside -/
theorem one_even (a m : Nat) : one (a ^^^ 2 * m) = one a ^^^ m := by
  have h1 : (a ^^^ 2 * m) % 2 = a % 2 := by
    have := Nat.xor_mod_two_eq_one (a := a) (b := 2 * m)
    by_cases h : a % 2 = 1
    · have : (a ^^^ 2 * m) % 2 = 1 := by rw [this, h]; simp
      omega
    · have : ¬ (a ^^^ 2 * m) % 2 = 1 := by rw [this]; simp [h]
      omega
  have h2 : (a ^^^ 2 * m) / 2 = a / 2 ^^^ m := by
    rw [Nat.xor_div_two]
    congr 1
    omega
  unfold one
  rw [h1, h2]
  split
  · rw [Nat.xor_assoc, Nat.xor_assoc, Nat.xor_comm m]
  · rfl

theorem many_even (k a m : Nat) : many k (a ^^^ 2 ^ k * m) = many k a ^^^ m := by
  induction k generalizing m with
  | zero => rw [Nat.pow_zero, Nat.one_mul]; rfl
  | succ k ih =>
    rw [many, Nat.pow_succ, Nat.mul_assoc, ih, one_even]
    rfl

theorem split_at (k n : Nat) : n = n % 2 ^ k ^^^ 2 ^ k * (n / 2 ^ k) := by
  have h := Nat.shiftLeft_add_eq_or_of_lt (i := k) (b := n % 2 ^ k) (Nat.mod_lt _ (Nat.pow_pos (by omega))) (n / 2 ^ k)
  have h3 : n % 2 ^ k &&& 2 ^ k * (n / 2 ^ k) = 0 := by
    apply Nat.eq_of_testBit_eq
    intro i
    rw [Nat.testBit_and, Nat.testBit_mod_two_pow, Nat.testBit_two_pow_mul, Nat.zero_testBit]
    by_cases hi : i < k
    · simp [hi, Nat.not_le.2 hi]
    · simp [hi]
  apply Nat.eq_of_testBit_eq
  intro i
  rw [Nat.testBit_xor, Nat.testBit_mod_two_pow, Nat.testBit_two_pow_mul]
  by_cases hi : i < k
  · simp [hi, Nat.not_le.2 hi]
  · have : k ≤ i := by omega
    simp only [hi, decide_false, Bool.false_and, Bool.false_xor, this, decide_true, Bool.true_and, Nat.testBit_div_two_pow]
    congr 1
    omega

/-- four bits at a time -/
theorem four_bits (n : Nat) : many 4 n = n / 16 ^^^ many 4 (n % 16) := by
  have h := many_even 4 (n % 2 ^ 4) (n / 2 ^ 4)
  rw [← split_at 4 n] at h
  rw [h, Nat.xor_comm]

theorem byte_fours (n b : Nat) : many 4 (many 4 (n ^^^ b)) = byte n b := by rw [byte, ← many_add]

/-- the bits of what comes in, one by one -/
theorem bit_in (r b k : Nat) : many k (r ^^^ b) ^^^ b / 2 ^ k = many k (r ^^^ b) ^^^ b / 2 ^ k := rfl

def bitIn (r b : Nat) : Nat := if (b % 2 ^^^ r % 2) = 1 then r / 2 ^^^ poly else r / 2

theorem mod_two_xor (a b : Nat) : (a ^^^ b) % 2 = (a % 2) ^^^ (b % 2) := Nat.xor_mod_two_pow (n := 1)

theorem one_step (r b : Nat) : one (r ^^^ b) = bitIn r b ^^^ b / 2 := by
  unfold one bitIn
  rw [mod_two_xor, Nat.xor_div_two, Nat.xor_comm (r % 2)]
  split
  · rw [Nat.xor_assoc, Nat.xor_assoc, Nat.xor_comm (b / 2)]
  · rfl

/-- k bits of b are taken in, the lowest first -/
def steps : Nat → Nat → Nat → Nat
  | 0, r, _ => r
  | k + 1, r, b => bitIn (steps k r b) (b / 2 ^ k)

theorem many_steps (k r b : Nat) : many k (r ^^^ b) = steps k r b ^^^ b / 2 ^ k := by
  induction k with
  | zero => rw [Nat.pow_zero, Nat.div_one]; rfl
  | succ k ih => rw [many, ih, one_step, steps, Nat.div_div_eq_div_mul, Nat.pow_succ]

theorem steps_byte (r b : Nat) (h : b < 256) : steps 8 r b = byte r b := by
  have := many_steps 8 r b
  rw [Nat.div_eq_of_lt (show b < 2 ^ 8 from h), Nat.xor_zero] at this
  rw [byte, this]

theorem bitIn_lt {r : Nat} (b : Nat) (h : r < 4294967296) : bitIn r b < 4294967296 := by
  unfold bitIn
  split
  · exact xor_lt (by omega) (by decide)
  · omega
theorem steps_lt {k r : Nat} (b : Nat) (h : r < 4294967296) : steps k r b < 4294967296 := by
  induction k with
  | zero => exact h
  | succ k ih => exact bitIn_lt _ ih

/-- a bit that goes loses nothing -/
theorem one_inj {a b : Nat} (ha : a < 4294967296) (hb : b < 4294967296) (h : one a = one b) : a = b := by
  have key : ∀ x y : Nat, x < 2147483648 → y < 2147483648 → x ^^^ poly ≠ y := by
    intro x y hx hy e
    have h1 : x ^^^ y = poly := by rw [← e, ← Nat.xor_assoc, Nat.xor_self, Nat.zero_xor]
    have h2 : x ^^^ y < 2 ^ 31 := Nat.xor_lt_two_pow hx hy
    rw [h1] at h2
    exact absurd h2 (by decide)
  unfold one at h
  split at h <;> split at h
  · have : a / 2 = b / 2 := xor_right_cancel h
    omega
  · exact absurd h (key _ _ (by omega) (by omega))
  · exact absurd h.symm (key _ _ (by omega) (by omega))
  · omega

theorem many_inj {k a b : Nat} (ha : a < 4294967296) (hb : b < 4294967296) (h : many k a = many k b) : a = b := by
  induction k with
  | zero => exact h
  | succ k ih => exact ih (one_inj (many_lt ha) (many_lt hb) h)

theorem byte_inj {a b x : Nat} (ha : a < 4294967296) (hb : b < 4294967296) (hx : x < 256) (h : byte a x = byte b x) : a = b :=
  xor_right_cancel (many_inj (xor_lt ha (by omega)) (xor_lt hb (by omega)) h)

theorem over_inj {a b : Nat} (bs : List UInt8) (ha : a < 4294967296) (hb : b < 4294967296) (h : over a bs = over b bs) : a = b := by
  induction bs generalizing a b with
  | nil => exact h
  | cons x r ih => exact byte_inj ha hb x.toNat_lt (ih (byte_lt ha x.toNat_lt) (byte_lt hb x.toNat_lt) h)

theorem sum_lt (bs : List UInt8) : sum bs < 4294967296 := by unfold sum; omega

theorem sum_eq {a b : List UInt8} (h : sum a = sum b) : over 4294967295 a = over 4294967295 b := by
  unfold sum at h
  have h1 := over_lt a (n := 4294967295) (by omega)
  have h2 := over_lt b (n := 4294967295) (by omega)
  omega

/-- with the same behind both -/
theorem sum_joins (a b m : List UInt8) : sum (a ++ m) = sum (b ++ m) ↔ sum a = sum b := by
  constructor
  · intro h
    have h1 := sum_eq h
    rw [over_append, over_append] at h1
    have := over_inj m (over_lt a (by omega)) (over_lt b (by omega)) h1
    unfold sum
    rw [this]
  · intro h
    unfold sum
    rw [over_append, over_append, sum_eq h]

/-- four bytes at once -/
theorem four_bytes (n w : Nat) (h : w < 4294967296) : byte (byte (byte (byte n (w % 256)) (w / 256 % 256)) (w / 65536 % 256)) (w / 16777216 % 256) = many 32 (n ^^^ w) := by
  have e : ∀ n w : Nat, many 8 (n ^^^ w) = byte n (w % 256) ^^^ w / 256 := by
    intro n w
    have h1 := many_even 8 (n ^^^ w % 2 ^ 8) (w / 2 ^ 8)
    rw [Nat.xor_assoc, ← split_at 8 w] at h1
    exact h1
  have h2 : w / 256 / 256 = w / 65536 := by omega
  have h3 : w / 65536 / 256 = w / 16777216 := by omega
  have h4 : w / 16777216 % 256 = w / 16777216 := by omega
  rw [show (32 : Nat) = 8 + (8 + (8 + 8)) from rfl, many_add, many_add, many_add, e, e, h2, e, h3, h4]
  rfl

theorem turned {n x y : Nat} (hn : n < 4294967296) (hx : x < 4294967296) (hy : y < 4294967296)
    (h : byte (byte (byte (byte n (x % 256)) (x / 256 % 256)) (x / 65536 % 256)) (x / 16777216 % 256) = byte (byte (byte (byte n (y % 256)) (y / 256 % 256)) (y / 65536 % 256)) (y / 16777216 % 256)) : x = y := by
  rw [four_bytes n x hx, four_bytes n y hy] at h
  exact xor_left_cancel (many_inj (xor_lt hn hx) (xor_lt hn hy) h)

theorem take_snoc {α : Type} (bs : List α) (k : Nat) (x : α) (h : bs[k]? = some x) : bs.take (k + 1) = bs.take k ++ [x] := by
  obtain ⟨hk, rfl⟩ := List.getElem?_eq_some_iff.1 h
  rw [List.take_succ_eq_append_getElem hk]

/-- bytes of which those from k on are turned by the bytes of a number, j of them so far -/
def turn (xs : List UInt8) (k w : Nat) : Nat → List UInt8
  | 0 => xs
  | j + 1 => (turn xs k w j).set (k + j) (UInt8.ofNat ((xs.getD (k + j) 0).toNat ^^^ (w / 256 ^ j % 256)))

theorem turn_length (xs : List UInt8) (k w j : Nat) : (turn xs k w j).length = xs.length := by
  induction j with
  | zero => rfl
  | succ j ih => simp [turn, ih]

theorem turn_ahead (xs : List UInt8) (k w j i : Nat) (h : i < k ∨ k + j ≤ i) : (turn xs k w j)[i]? = xs[i]? := by
  induction j with
  | zero => rfl
  | succ j ih => rw [turn, List.getElem?_set_ne (by omega), ih (by omega)]

theorem cut4 (xs : List UInt8) (k : Nat) (h : k + 4 ≤ xs.length) : ∃ p a b c d r, xs = p ++ a :: b :: c :: d :: r ∧ p.length = k := by
  refine ⟨xs.take k, xs[k], xs[k + 1], xs[k + 2], xs[k + 3], xs.drop (k + 4), ?_, by rw [List.length_take]; omega⟩
  rw [← List.drop_eq_getElem_cons, ← List.drop_eq_getElem_cons, ← List.drop_eq_getElem_cons, ← List.drop_eq_getElem_cons, List.take_append_drop]

theorem turn4 (p r : List UInt8) (a b c d : UInt8) (w : Nat) : turn (p ++ a :: b :: c :: d :: r) p.length w 4 =
    p ++ UInt8.ofNat (a.toNat ^^^ w % 256) :: UInt8.ofNat (b.toNat ^^^ w / 256 % 256) :: UInt8.ofNat (c.toNat ^^^ w / 65536 % 256) :: UInt8.ofNat (d.toNat ^^^ w / 16777216 % 256) :: r := by
  simp [turn, List.set_append_right]

theorem word_bytes (a b c d : Nat) (ha : a < 256) (hb : b < 256) (hc : c < 256) (hd : d < 256) :
    (a + 256 * b + 65536 * c + 16777216 * d) % 256 = a ∧ (a + 256 * b + 65536 * c + 16777216 * d) / 256 % 256 = b ∧ (a + 256 * b + 65536 * c + 16777216 * d) / 65536 % 256 = c ∧ (a + 256 * b + 65536 * c + 16777216 * d) / 16777216 % 256 = d ∧ a + 256 * b + 65536 * c + 16777216 * d < 4294967296 := by omega

theorem xor_bytes (x w : Nat) : (x ^^^ w) % 256 = x % 256 ^^^ w % 256 ∧ (x ^^^ w) / 256 % 256 = x / 256 % 256 ^^^ w / 256 % 256 ∧ (x ^^^ w) / 65536 % 256 = x / 65536 % 256 ^^^ w / 65536 % 256 ∧ (x ^^^ w) / 16777216 % 256 = x / 16777216 % 256 ^^^ w / 16777216 % 256 := by
  have hm : ∀ a b : Nat, (a ^^^ b) % 256 = a % 256 ^^^ b % 256 := fun a b => Nat.xor_mod_two_pow (n := 8)
  have hd : ∀ n : Nat, (x ^^^ w) / 2 ^ n = x / 2 ^ n ^^^ w / 2 ^ n := fun n => by
    rw [← Nat.shiftRight_eq_div_pow, ← Nat.shiftRight_eq_div_pow, ← Nat.shiftRight_eq_div_pow, Nat.shiftRight_xor_distrib]
  have h1 := hd 8
  have h2 := hd 16
  have h3 := hd 24
  simp only [Nat.reducePow] at h1 h2 h3
  refine ⟨hm _ _, ?_, ?_, ?_⟩
  · rw [h1, hm]
  · rw [h2, hm]
  · rw [h3, hm]

theorem over_cut (n : Nat) (p r : List UInt8) (a b c d : UInt8) : over n (p ++ a :: b :: c :: d :: r) = over (byte (byte (byte (byte (over n p) a.toNat) b.toNat) c.toNat) d.toNat) r := by
  rw [over_append]; rfl

theorem ofNat_toNat (n : Nat) (h : n < 256) : (UInt8.ofNat n).toNat = n := by
  simp [UInt8.toNat_ofNat']; omega

/-- turned within four bytes, the sum is another -/
theorem sum_turned (xs : List UInt8) (k w : Nat) (hk : k + 4 ≤ xs.length) (hw : w < 4294967296) (h0 : w ≠ 0) : sum (turn xs k w 4) ≠ sum xs := by
  intro e
  obtain ⟨p, a, b, c, d, r, rfl, rfl⟩ := cut4 xs k hk
  have h := sum_eq e
  have hp := over_lt (n := 4294967295) p (by omega)
  have ha := a.toNat_lt
  have hb := b.toNat_lt
  have hc := c.toNat_lt
  have hd := d.toNat_lt
  obtain ⟨y1, y2, y3, y4, y5⟩ := word_bytes a.toNat b.toNat c.toNat d.toNat ha hb hc hd
  have hx := xor_lt y5 hw
  obtain ⟨z1, z2, z3, z4⟩ := xor_bytes (a.toNat + 256 * b.toNat + 65536 * c.toNat + 16777216 * d.toNat) w
  rw [turn4, over_cut, over_cut] at h
  have hxor : ∀ u v : Nat, u < 256 → u ^^^ v % 256 < 256 := fun u v hu => Nat.xor_lt_two_pow (n := 8) hu (Nat.mod_lt _ (by omega))
  rw [ofNat_toNat _ (hxor _ _ ha), ofNat_toNat _ (hxor _ _ hb), ofNat_toNat _ (hxor _ _ hc), ofNat_toNat _ (hxor _ _ hd)] at h
  rw [y1] at z1
  rw [y2] at z2
  rw [y3] at z3
  rw [y4] at z4
  have h2 := over_inj r (byte_lt (byte_lt (byte_lt (byte_lt hp (hxor _ _ ha)) (hxor _ _ hb)) (hxor _ _ hc)) (hxor _ _ hd)) (byte_lt (byte_lt (byte_lt (byte_lt hp ha) hb) hc) hd) h
  rw [← z1, ← z2, ← z3, ← z4] at h2
  generalize hq : a.toNat + 256 * b.toNat + 65536 * c.toNat + 16777216 * d.toNat = q at *
  rw [← y1, ← y2, ← y3, ← y4] at h2
  have h3 := turned hp hx y5 h2
  have h4 : q ^^^ w = q ^^^ 0 := by rw [h3, Nat.xor_zero]
  exact h0 (xor_left_cancel h4)

end Go.Proofs.YtmnejphdjnlbjaaGreatDoor.crcnum
/-
  The contracts of crc.gone and ref02.Of. My own text.
-/
namespace Go.Proofs.YtmnejphdjnlbjaaGreatDoor.crc
open Go.RowKit Go.Proofs.YtmnejphdjnlbjaaGreatDoor.base Go.Proofs.YtmnejphdjnlbjaaGreatDoor.crcnum
set_option linter.unusedVariables false

theorem and_one (n : Nat) (h : n < 4294967296) : bits .and .u32 (n : Int) 1 = ((n % 2 : Nat) : Int) := by
  have := u32_and_nat n 1 h (by decide)
  rw [Nat.and_one_is_mod] at this
  exact this
theorem xor_poly (n : Nat) (h : n < 4294967296) : bits .xor .u32 (n : Int) 3988292384 = ((n ^^^ poly : Nat) : Int) := u32_xor_nat n poly h (by decide)

theorem xor_half (n : Nat) (h : n < 4294967296) : bits .xor .u32 ((n : Int) / 2) 3988292384 = ((n / 2 ^^^ poly : Nat) : Int) := xor_poly (n / 2) (by omega)

theorem bit_eq (x q k : Nat) (hx : x < 256) (hq : q < 4294967296) : bits .xor .u32 (bits .and .u32 ((x : Int) / 2 ^ k) 1) (bits .and .u32 (q : Int) 1) = ((x / 2 ^ k % 2 ^^^ q % 2 : Nat) : Int) := by
  have h1 : (x : Int) / 2 ^ k = ((x / 2 ^ k : Nat) : Int) := by simp
  have h2 : x / 2 ^ k ≤ x := Nat.div_le_self _ _
  rw [h1, and_one _ (by omega), and_one _ hq, u32_xor_nat _ _ (by omega) (by omega)]
theorem bit_01 (a b : Nat) : a % 2 ^^^ b % 2 = 1 ∨ a % 2 ^^^ b % 2 = 0 := by
  rw [← mod_two_xor]; omega

theorem ret_u32 {a b : Int} (h : a = b) : Ending.returned (.int .u32 a) = .returned (.int .u32 b) := by rw [h]

theorem gone_any (n : Nat) (w : World) (hn : n < 4294967296) : Calls Tryz.prog 51 #[.int .u32 n] w fun e w' => e = .returned (.int .u32 (many 4 n : Nat)) ∧ w = w' := by
  go_enter Tryz.func51, Tryz.ntmps51
  go_wp2
  go_loop [0, 4] (fun s i => ∃ k m : Nat, k ≤ 4 ∧ i = .int .i64 k ∧ s = .int .u32 m ∧ m < 4294967296 ∧ Hid (m = many k n)) (fun _ i => 4 - (intOf i).toNat)
  case atStart => exact ⟨0, n, by omega, rfl, rfl, hn, rfl⟩
  case round =>
    obtain ⟨k, m, hk, rfl, rfl, hm, hM⟩ := hrel
    by_cases hlt : k < 4
    · have e1 := and_one m hm
      have e2 := xor_half m hm
      by_cases hodd : m % 2 = 1
      · have hone : one m = m / 2 ^^^ poly := by unfold one; rw [if_pos hodd]
        have hl := one_lt hm
        have HO := Lib.hid hone
        have HODD := Lib.hid hodd
        rw [hodd] at e1
        clear hone hodd
        go_wp2
        go_round
        case rel => exact ⟨k + 1, m / 2 ^^^ poly, by omega, by go_num, rfl, by rw [← HO.out]; exact hl, by show _ = one _; rw [← hM.out]; exact HO.out.symm⟩
        case measure => simp [intOf]; omega
      · have h0 : m % 2 = 0 := by omega
        have hone : one m = m / 2 := by unfold one; rw [if_neg hodd]
        have HO := Lib.hid hone
        rw [h0] at e1
        clear hone hodd h0
        go_wp2
        go_round
        case rel => exact ⟨k + 1, m / 2, by omega, by go_num, by go_num, by omega, by show _ = one _; rw [← hM.out]; exact HO.out.symm⟩
        case measure => simp [intOf]; omega
    · have h4 : k = 4 := by omega
      subst h4
      go_wp2
      go_ret
      exact ⟨ret_u32 (by rw [hM.out]), rfl⟩

/-- the reference's sum -/
theorem of_any (A : Option Addr) (n c : Nat) (bs : List UInt8) (w : World) (B : Nat) (hr : Rd w B A n (bs.map bv)) (hn : n ≤ maxLen) :
    Calls Tryz.prog 13 #[.slice A n c] w fun e w' => e = .returned (.int .u32 (sum bs : Nat)) ∧ w = w' := by
  unfold maxLen at hn
  go_enter Tryz.func13, Tryz.ntmps13
  go_wp2
  go_loop [3, 4] (fun s i => ∃ j r : Nat, j ≤ n ∧ i = .int .i64 j ∧ s = .int .u32 r ∧ r < 4294967296 ∧ Hid (r = over 4294967295 (bs.take j))) (fun _ i => n - (intOf i).toNat)
  case atStart => exact ⟨0, 4294967295, by omega, rfl, rfl, by omega, rfl⟩
  case round =>
    obtain ⟨j, r, hj, rfl, rfl, hr0, hR⟩ := hrel
    by_cases hlt : j < n
    · obtain ⟨b, off, x, rfl, hb, hx, hcx⟩ := hr.at_ hlt
      have HX := Lib.hid hx
      have hxb := x.toNat_lt
      clear hx
      go_wp2
      go_loop [3, 5] (fun s i => ∃ k q : Nat, k ≤ 8 ∧ i = .int .i64 k ∧ s = .int .u32 q ∧ q < 4294967296 ∧ Hid (q = steps k r x.toNat)) (fun _ i => 8 - (intOf i).toNat)
      case atStart => exact ⟨0, r, by omega, rfl, rfl, hr0, rfl⟩
      case round =>
        obtain ⟨k, q, hk, rfl, rfl, hq, hQ⟩ := hrel
        by_cases hlt2 : k < 8
        · have e1 := bit_eq x.toNat q k hxb hq
          have e2 := xor_half q hq
          rcases bit_01 (x.toNat / 2 ^ k) q with h1 | h1
          · have hs : bitIn q (x.toNat / 2 ^ k) = q / 2 ^^^ poly := by unfold bitIn; rw [if_pos h1]
            have hl := bitIn_lt (x.toNat / 2 ^ k) hq
            have HS := Lib.hid hs
            rw [h1] at e1
            clear hs h1
            go_wp2
            go_round
            case rel => exact ⟨k + 1, q / 2 ^^^ poly, by omega, by go_num, rfl, by rw [← HS.out]; exact hl, by show _ = bitIn _ _; rw [← hQ.out]; exact HS.out.symm⟩
            case measure => simp [intOf]; omega
          · have hs : bitIn q (x.toNat / 2 ^ k) = q / 2 := by unfold bitIn; rw [if_neg (by omega)]
            have HS := Lib.hid hs
            rw [h1] at e1
            clear hs h1 e2
            go_wp2
            go_round
            case rel => exact ⟨k + 1, q / 2, by omega, by go_num, by go_num, by omega, by show _ = bitIn _ _; rw [← hQ.out]; exact HS.out.symm⟩
            case measure => simp [intOf]; omega
        · have h8 : k = 8 := by omega
          subst h8
          go_wp2
          go_round
          case rel => exact ⟨j + 1, q, by omega, by go_num, rfl, hq, by show _ = _; rw [hQ.out, steps_byte _ _ hxb, hR.out, take_snoc _ _ _ HX.out, over_snoc]⟩
          case measure => simp [intOf]; omega
    · have hl : bs.length = n := by have := hr.1; rwa [List.length_map] at this
      have hs : 4294967295 - r = sum bs := by
        rw [hR.out, List.take_of_length_le (by omega)]; rfl
      have HS := Lib.hid hs
      clear hs hl
      go_wp2
      go_ret
      exact ⟨ret_u32 (by rw [← HS.out]; omega), rfl⟩
end Go.Proofs.YtmnejphdjnlbjaaGreatDoor.crc
/-
  The contract of crc.fours. My own text.
-/
namespace Go.Proofs.YtmnejphdjnlbjaaGreatDoor.crc
open Go.RowKit Go.Proofs.YtmnejphdjnlbjaaGreatDoor.base Go.Proofs.YtmnejphdjnlbjaaGreatDoor.crcnum
set_option linter.unusedVariables false

/-- the table when k of its places are laid -/
def tab (k : Nat) : List Value := (List.range 16).map fun j => .int .u32 (if j < k then many 4 j else 0 : Nat)

theorem tab_len (k : Nat) : (tab k).length = 16 := by simp [tab]
theorem tab_get (k j : Nat) (h : j < 16) : (tab k)[j]? = some (.int .u32 (if j < k then many 4 j else 0 : Nat)) := by
  simp [tab, h]
theorem tab_set (k : Nat) (h : k < 16) : (tab k).set k (.int .u32 (many 4 k : Nat)) = tab (k + 1) := by
  apply List.ext_getElem?
  intro j
  by_cases hj : j < 16
  · rw [List.getElem?_set, tab_get _ _ hj, tab_get _ _ hj, tab_len]
    by_cases e : k = j
    · subst e
      simp [h]
    · have : (j < k + 1) = (j < k) := by rw [eq_iff_iff]; omega
      simp [e, this]
  · rw [List.getElem?_eq_none (by simp [tab_len]; omega), List.getElem?_eq_none (by simp [tab_len]; omega)]

set_option maxRecDepth 100000 in
theorem fours_any (w : World) : Calls Tryz.prog 33 #[] w fun e w' => e = .returned (.agg (tab 16).toArray) ∧ Fresh w w' := by
  go_enter Tryz.func33, Tryz.ntmps33
  go_wp2
  go_loopw [3] (fun i wr => ∃ k : Nat, k ≤ 16 ∧ i = .int .i64 k ∧ Bk wr w.heap.size 86 (tab 0) ∧ Bk wr (w.heap.size + 1) 86 (tab k) ∧ Fresh w wr) (fun i _ => 16 - (intOf i).toNat)
  case atStart => exact ⟨0, by omega, rfl, (Bk.made w _ _).alloc _, by have := Bk.made (w.alloc (.cells #[.int .u32 0, .int .u32 0, .int .u32 0, .int .u32 0, .int .u32 0, .int .u32 0, .int .u32 0, .int .u32 0, .int .u32 0, .int .u32 0, .int .u32 0, .int .u32 0, .int .u32 0, .int .u32 0, .int .u32 0, .int .u32 0] 86)) 86 #[.int .u32 0, .int .u32 0, .int .u32 0, .int .u32 0, .int .u32 0, .int .u32 0, .int .u32 0, .int .u32 0, .int .u32 0, .int .u32 0, .int .u32 0, .int .u32 0, .int .u32 0, .int .u32 0, .int .u32 0, .int .u32 0]; rwa [World.size_alloc] at this, (Fresh.alloc _ _).trans (Fresh.alloc _ _)⟩
  case round =>
    obtain ⟨k, hk, rfl, hb0, hb1, hfr⟩ := hrel
    by_cases hlt : k < 16
    · have hc := hb1.cell (tab_get k k hlt)
      have hz := hb1.free k
      have e1 : (k : Int) % 4294967296 = k := by omega
      go_wp2_with (go_at_call 51; refine (gone_any _ _ (by omega)).mono ?_; rintro e w' ⟨rfl, rfl⟩)
      go_roundw
      case rel =>
        refine ⟨k + 1, by omega, by go_num, hb0.apart (by simp) _, ?_, hfr.but (by omega) (But.put _ _)⟩
        rw [← tab_set k hlt]
        exact hb1.put k _
      case measure => simp [intOf]; omega
    · have h16 : k = 16 := by omega
      subst h16
      have r0 : (wr.setRow w.heap.size (tab 16).toArray).heap[w.heap.size]? = some (.cells (tab 16).toArray 86 (0, 0)) := hb0.row _
      have HB := Lib.hid hb1
      have HB0 := Lib.hid hb0
      have R0 := Lib.hid r0
      clear hb1 hb0 r0
      go_wp2_with (first
        | (refine wpList_load_row (o := ⟨some 12, _, _, _, _, _⟩) rfl 86 (.tmp 1) rfl (w.heap.size + 1) rfl 86 (tab 16).toArray (0, 0) _ HB.out Tryz.underlying86 rfl (by kernel_rfl) ?_)
        | (refine wpList_store_row (o := ⟨none, _, _, _, _, _⟩) rfl 86 (.tmp 0) (.tmp 12) rfl w.heap.size (tab 16).toArray rfl rfl 86 _ HB0.out (by kernel_rfl) (by simp [tab_len]) (by kernel_rfl) ?_))
      exact bodyPost_ret (results_cell_row (p := 0) (by kernel_rfl) _ _ w.heap.size 86 (tab 16).toArray (0, 0) _ rfl R0.out Tryz.underlying86 rfl (by kernel_rfl)) rfl ⟨rfl, hfr.but (Nat.le_refl _) (But.row _ _ _)⟩

end Go.Proofs.YtmnejphdjnlbjaaGreatDoor.crc
/-
  The contracts of crc.New, four, Add, Sum, Len, Of. My own text.
-/
namespace Go.Proofs.YtmnejphdjnlbjaaGreatDoor.crc
open Go.RowKit Go.Proofs.YtmnejphdjnlbjaaGreatDoor.base Go.Proofs.YtmnejphdjnlbjaaGreatDoor.crcnum
set_option linter.unusedVariables false
set_option maxRecDepth 100000

/-- a sum on its way, as it lies -/
def cells (r m : Nat) : List Value := tab 16 ++ [.int .u32 r, .int .i64 m]
def SumAt (w : World) (g r m : Nat) : Prop := Bk w g 89 (cells r m) ∧ r < 4294967296
theorem cells_tab (r m j : Nat) (h : j < 16) : (cells r m)[j]? = some (.int .u32 (many 4 j : Nat)) := by
  rw [cells, List.getElem?_append_left (by rw [tab_len]; exact h), tab_get _ _ h, if_pos h]
theorem cells_rest (r m : Nat) : (cells r m)[16]? = some (.int .u32 r) := by rw [cells, List.getElem?_append_right (by rw [tab_len]; omega), tab_len]; rfl
theorem cells_many (r m : Nat) : (cells r m)[17]? = some (.int .i64 m) := by rw [cells, List.getElem?_append_right (by rw [tab_len]; omega), tab_len]; rfl
theorem cells_set_rest (r m r' : Nat) : (cells r m).set 16 (.int .u32 r') = cells r' m := by rw [cells, List.set_append_right _ _ (by rw [tab_len]; omega), tab_len]; rfl
theorem cells_set_many (r m m' : Nat) : (cells r m).set 17 (.int .i64 m') = cells r m' := by rw [cells, List.set_append_right _ _ (by rw [tab_len]; omega), tab_len]; rfl

theorem new_any (w : World) : Calls Tryz.prog 20 #[] w fun e w' => ∃ g, e = .returned (.pointer (some ⟨g, 0, none⟩)) ∧ w.heap.size ≤ g ∧ Fresh w w' ∧ SumAt w' g 4294967295 0 := by
  go_enter Tryz.func20, Tryz.ntmps20
  go_wp2_with (first
    | (go_at_call 33; refine (fours_any _).mono ?_; rintro e w1 ⟨rfl, hf1⟩)
    | (refine wpList_buildTo (o := ⟨some 2, _, _, _, _, _⟩) rfl 89 #[(0, .tmp 1), (1, .const (.int .u32 4294967295))] rfl (some 2) rfl (cells 4294967295 0).toArray (by kernel_rfl) ?_))
  go_ret
  exact ⟨w1.heap.size, rfl, hf1.size, hf1.trans (Fresh.alloc _ _), by have := Bk.made w1 89 (cells 4294967295 0).toArray; exact ⟨this, by decide⟩⟩
theorem not_u32 (r : Nat) (h : r < 4294967296) : bits .xor .u32 IntKind.u32.max (r : Int) = ((4294967295 - r : Nat) : Int) := by
  have h1 := u32_xor_nat 4294967295 r (by decide) h
  have h2 : 4294967295 ^^^ r = 4294967295 - r := by
    have := congrArg BitVec.toNat (BitVec.allOnes_xor (x := BitVec.ofNat 32 r))
    rw [BitVec.toNat_xor, BitVec.toNat_not, BitVec.toNat_allOnes, BitVec.toNat_ofNat, Nat.mod_eq_of_lt h] at this
    exact this
  rw [h2] at h1
  exact h1
theorem sum_any (g r m : Nat) (w : World) (h : SumAt w g r m) : Calls Tryz.prog 53 #[.pointer (some ⟨g, 0, none⟩)] w fun e w' => e = .returned (.int .u32 (4294967295 - r : Nat)) ∧ w = w' := by
  have hc := h.1.cell (cells_rest r m)
  have hr := h.2
  have e1 := not_u32 r hr
  clear h
  go_enter Tryz.func53, Tryz.ntmps53
  go_wp2
  go_ret
  exact ⟨rfl, rfl⟩
/-- four bits at once -/
theorem four_any (g r m : Nat) (w : World) (h : SumAt w g r m) : Calls Tryz.prog 52 #[.pointer (some ⟨g, 0, none⟩)] w fun e w' => e = .returned (.tuple #[]) ∧ SumAt w' g (many 4 r) m ∧ But g w w' := by
  have hc := h.1.cell (cells_rest r m)
  have hf := h.1.free 16
  have hlt := h.2
  have ht := h.1.cell (cells_tab r m (r % 16) (by omega))
  have e1 : bits .and .u32 (r : Int) 15 = ((r % 16 : Nat) : Int) := by
    have := u32_and_nat r 15 hlt (by decide)
    rw [show (15 : Nat) = 2 ^ 4 - 1 from rfl, Nat.and_two_pow_sub_one_eq_mod] at this
    exact this
  have hm := many_lt (k := 4) (n := r % 16) (by omega)
  have e2 : bits .xor .u32 ((r : Int) / 16) ((many 4 (r % 16) : Nat) : Int) = ((many 4 r : Nat) : Int) := by
    have := u32_xor_nat (r / 16) (many 4 (r % 16)) (by omega) hm
    rw [← four_bits] at this
    exact this
  have H := Lib.hid h
  clear h hm
  go_enter Tryz.func52, Tryz.ntmps52
  go_region
  go_end0
  refine ⟨rfl, ⟨?_, many_lt hlt⟩, (But.put _ _).trans (But.of_fresh (Fresh.drew _))⟩
  rw [← cells_set_rest r m]
  exact H.out.1.put 16 _

/-- bytes are taken in -/
theorem add_any (g r m : Nat) (A : Option Addr) (n c : Nat) (bs : List UInt8) (w : World) (B : Nat) (h : SumAt w g r m) (hr : Rd w B A n (bs.map bv)) (hB : B ≤ g) (hn : n ≤ 1099511627776) (hm : m ≤ 1099511627776) :
    Calls Tryz.prog 34 #[.pointer (some ⟨g, 0, none⟩), .slice A n c] w fun e w' => e = .returned (.tuple #[]) ∧ SumAt w' g (over r bs) (m + n) ∧ But g w w' := by
  have hl : bs.length = n := by have := hr.1; rwa [List.length_map] at this
  have HL := Lib.hid hl
  clear hl
  go_enter Tryz.func34, Tryz.ntmps34
  go_wp2
  go_loopw [10] (fun i wr => ∃ j q : Nat, j ≤ n ∧ i = .int .i64 j ∧ SumAt wr g q m ∧ Hid (q = over r (bs.take j)) ∧ But g w wr) (fun i _ => n - (intOf i).toNat)
  case atStart => exact ⟨0, r, by omega, rfl, h, rfl, But.refl _ _⟩
  case round =>
    obtain ⟨j, q, hj, rfl, hs, hQ, hbut⟩ := hrel
    by_cases hlt : j < n
    · obtain ⟨b, off, x, rfl, hb, hx, hcx⟩ := (hr.but (Nat.le_trans hB (Nat.le_of_lt h.1.inside)) hB hbut).at_ hlt
      have HX := Lib.hid hx
      have hxb := x.toNat_lt
      have hc := hs.1.cell (cells_rest q m)
      have hf := hs.1.free 16
      have hq := hs.2
      have e1 := u32_xor_nat q x.toNat hq (by omega)
      have hs1 : SumAt (wr.setCell ⟨g, 16, none⟩ (.int .u32 (q ^^^ x.toNat : Nat))) g (q ^^^ x.toNat) m := ⟨by rw [← cells_set_rest q m]; exact hs.1.put 16 _, xor_lt hq (by omega)⟩
      have HB := Lib.hid hbut
      have HH := Lib.hid h
      have HR := Lib.hid hr
      clear hx hr h hbut hs
      go_wp2_with (first
        | (go_at_call 52; refine (four_any _ _ _ _ hs1).mono ?_; rintro e w1 ⟨rfl, hs2, hb1⟩; clear hs1)
        | (go_at_call 52; refine (four_any _ _ _ _ hs2).mono ?_; rintro e w2 ⟨rfl, hs3, hb2⟩; clear hs2))
      rw [byte_fours] at hs3
      go_roundw
      case rel => exact ⟨j + 1, _, by omega, by go_num, hs3, by show _ = _; rw [hQ.out, take_snoc _ _ _ HX.out, over_snoc], ((HB.out.trans (But.put _ _)).trans hb1).trans hb2⟩
      case measure => simp [intOf]; omega
    · have hj2 : j = n := by omega
      subst hj2
      have hc := hs.1.cell (cells_many q m)
      have hf := hs.1.free 17
      have HS := Lib.hid hs
      have HB := Lib.hid hbut
      clear hr h hbut hs
      go_wp2
      go_end0
      have hq : q = over r bs := by
        have := hQ.out
        rwa [List.take_of_length_le (Nat.le_of_eq HL.out)] at this
      refine ⟨rfl, ⟨?_, ?_⟩, HB.out.trans (But.put _ _)⟩
      · rw [← hq, ← cells_set_many q m]
        exact HS.out.1.put 17 _
      · rw [← hq]
        exact HS.out.2

def flat (rows : List Row) : List UInt8 := rows.flatMap Row.bs
theorem flat_snoc (rows : List Row) (j : Nat) (r : Row) (h : rows[j]? = some r) : flat (rows.take (j + 1)) = flat (rows.take j) ++ r.bs := by
  rw [take_snoc _ _ _ h, flat, List.flatMap_append]; simp [flat]

end Go.Proofs.YtmnejphdjnlbjaaGreatDoor.crc
/-
  crc.Of of one piece and of two, a Sum that is not there, the law's example. My own text.
-/
namespace Go.Proofs.YtmnejphdjnlbjaaGreatDoor.crc
open Go.RowKit Go.Proofs.YtmnejphdjnlbjaaGreatDoor.base Go.Proofs.YtmnejphdjnlbjaaGreatDoor.crcnum
set_option linter.unusedVariables false
set_option maxRecDepth 100000

theorem add_nil (A : Option Addr) (n c : Nat) (w : World) : Calls Tryz.prog 34 #[.pointer none, .slice A n c] w fun e w' => e = .returned (.tuple #[]) ∧ w = w' := by
  go_enter Tryz.func34, Tryz.ntmps34
  go_wp2
  exact bodyPost_ret (results_none rfl _ _ _) rfl ⟨rfl, rfl⟩
theorem sum_nil (w : World) : Calls Tryz.prog 53 #[.pointer none] w fun e w' => e = .returned (.int .u32 0) ∧ w = w' := by
  go_enter Tryz.func53, Tryz.ntmps53
  go_wp2
  go_ret
  exact ⟨rfl, rfl⟩
theorem known : sum [49, 50, 51, 52, 53, 54, 55, 56, 57] = 3421780262 := by decide +kernel

theorem digits_rd (w : World) : Rd (w.alloc (.cells #[.int .u8 49, .int .u8 50, .int .u8 51, .int .u8 52, .int .u8 53, .int .u8 54, .int .u8 55, .int .u8 56, .int .u8 57] 5 (9, 10))) (w.heap.size + 1) (some ⟨w.heap.size, 0, none⟩) 9 (([49, 50, 51, 52, 53, 54, 55, 56, 57] : List UInt8).map bv) :=
  Rd.mark w #[.int .u8 49, .int .u8 50, .int .u8 51, .int .u8 52, .int .u8 53, .int .u8 54, .int .u8 55, .int .u8 56, .int .u8 57] 5 _

theorem sum_is (g r m S : Nat) (w : World) (h : SumAt w g r m) (hS : 4294967295 - r = S) : Calls Tryz.prog 53 #[.pointer (some ⟨g, 0, none⟩)] w fun e w' => e = .returned (.int .u32 S) ∧ w = w' := by
  subst hS
  exact sum_any g r m w h
theorem of_is (A : Option Addr) (n c : Nat) (bs : List UInt8) (S : Nat) (w : World) (B : Nat) (hr : Rd w B A n (bs.map bv)) (hn : n ≤ maxLen) (hS : sum bs = S) :
    Calls Tryz.prog 13 #[.slice A n c] w fun e w' => e = .returned (.int .u32 S) ∧ w = w' := by
  subst hS
  exact of_any A n c bs w B hr hn
end Go.Proofs.YtmnejphdjnlbjaaGreatDoor.crc
/-
  A stream of plain data: its end. My own text.
-/
namespace Go.Proofs.YtmnejphdjnlbjaaGreatDoor.unzp
open Go.RowKit Go.Proofs.YtmnejphdjnlbjaaGreatDoor.base Go.Proofs.YtmnejphdjnlbjaaGreatDoor.word Go.Proofs.YtmnejphdjnlbjaaGreatDoor.crcnum Go.Proofs.YtmnejphdjnlbjaaGreatDoor.crc
set_option linter.unusedVariables false
abbrev tStream : TypeId := 62
abbrev ifc (p : Nat) : Value := .iface 79 (pt p)
theorem SumAt.but {w w' : World} {g r m p : Nat} (h : SumAt w g r m) (q : But p w w') (hne : g ≠ p) : SumAt w' g r m :=
  ⟨h.1.old (q.block g h.1.inside fun e => hne (by injection e)), h.2⟩
theorem SumAt.drewN {w : World} {g r m : Nat} (h : SumAt w g r m) (q : Nat) : SumAt (w.drewN q) g r m := ⟨h.1.fresh (Fresh.drewN w q), h.2⟩
set_option maxRecDepth 100000 in
set_option maxHeartbeats 4000000 in
theorem atEnd_any (s p g : Nat) (A : Option Addr) (c left r m wanted : Nat) (w : World) (hs : Bk w s tStream [ifc p, iv (left : Nat), pt g, .int .u32 (wanted : Nat), iv 0]) (hp : Bk w p tPlain [.slice A 0 c]) (hg : SumAt w g r m) (hcm : c ≤ maxLen) (k : Nat) (hk : (if 4294967295 - r = wanted then 0 else 5) = k) :
    Calls Tryz.prog 35 #[pt s] w fun e w' => e = .returned (.int .i64 (k : Nat)) ∧ But p w w' := by
  have hget : Calls Tryz.prog 83 #[pt p, .int .i64 1] w (PgetIs [p] p 0 0 [] w) := pget_any [p] p A 0 c [] 1 0 w hp (RdA.nil _ _ _) (by simp) (by intro i hi; rw [List.mem_singleton] at hi; subst hi; exact hp.inside) (Nat.zero_le _) hcm (by omega) (by omega) rfl
  have hsp : s ≠ p := hs.ne hp (by decide)
  have hgp : g ≠ p := hg.1.ne hp (by decide)
  obtain ⟨S, hS⟩ : ∃ S, 4294967295 - r = S := ⟨_, rfl⟩
  rw [hS] at hk
  have c0 := hs.cell (i := 0) rfl
  have HGET := Lib.hid hget
  have HS := Lib.hid hs
  have HG := Lib.hid hg
  have HSP := Lib.hid hsp
  have HGP := Lib.hid hgp
  have HSS := Lib.hid hS
  have HK := Lib.hid hk
  clear hget hs hp hg hsp hgp hS hk hcm
  go_enter Tryz.func35, Tryz.ntmps35
  go_upto_region 8 with (first
    | (go_at_call 83; ((with_reducible refine HGET.out.mono ?_); rintro e w1 ⟨A1, c1, A2, c2, rfl, _, _, _, _, _, hb1⟩; have hs1 : Bk w1 s tStream [ifc p, iv (left : Nat), pt g, .int .u32 (wanted : Nat), iv 0] := HS.out.old (hb1.block s HS.out.inside (fun e => HSP.out (by injection e))); have d0 := hs1.cell (i := 0) rfl; have d2 := hs1.cell (i := 2) rfl; have d3 := hs1.cell (i := 3) rfl; have HB1 := Lib.hid hb1; have HG1 := Lib.hid (SumAt.but HG.out hb1 HGP.out); clear hb1 hs1))
    | (go_at_call 85; ((with_reducible refine (prest_any _ _).mono ?_); rintro e w2 ⟨rfl, rfl⟩)))
  have hsum := fun q => (sum_is g r m S (w2.drewN q) (SumAt.drewN HG1.out q) HSS.out).mono (R' := fun e w' => e = .returned (.int .u32 S) ∧ w' = w2.drewN q) fun e w' h => ⟨h.1, h.2.symm⟩
  have HSUM := Lib.hid hsum
  clear hsum
  by_cases hw : S = wanted
  · have hk := HK.out
    rw [if_pos hw] at hk
    subst hk
    have te : ((S : Int) != (wanted : Int)) = false := by rw [hw]; simp
    clear hw
    go_quiet (with_reducible exact Calls.quiet_of_same (HSUM.out _))
    go_wp2
    go_ret
    exact ⟨rfl, HB1.out.trans (But.drewN _ _)⟩
  · have hk := HK.out
    rw [if_neg hw] at hk
    subst hk
    have te : ((S : Int) != (wanted : Int)) = true := by rw [bne_iff_ne]; omega
    clear hw
    go_quiet (with_reducible exact Calls.quiet_of_same (HSUM.out _))
    go_wp2
    go_ret
    exact ⟨rfl, HB1.out.trans (But.drewN _ _)⟩
end Go.Proofs.YtmnejphdjnlbjaaGreatDoor.unzp
/-
  A sum over what lies anywhere apart from it; sources apart from what a stream keeps. My own text.
-/
namespace Go.Proofs.YtmnejphdjnlbjaaGreatDoor.unzp
open Go.RowKit Go.Proofs.YtmnejphdjnlbjaaGreatDoor.base Go.Proofs.YtmnejphdjnlbjaaGreatDoor.word Go.Proofs.YtmnejphdjnlbjaaGreatDoor.crcnum Go.Proofs.YtmnejphdjnlbjaaGreatDoor.crc
set_option linter.unusedVariables false
set_option maxRecDepth 100000
set_option maxHeartbeats 4000000 in
theorem add_far (g r m : Nat) (A : Option Addr) (n c : Nat) (bs : List UInt8) (w : World) (h : SumAt w g r m) (hrd : ∀ w', But g w w' → Rd w' w'.heap.size A n (bs.map bv)) (hn : n ≤ 1099511627776) (hm : m ≤ 1099511627776) :
    Calls Tryz.prog 34 #[.pointer (some ⟨g, 0, none⟩), .slice A n c] w fun e w' => e = .returned (.tuple #[]) ∧ SumAt w' g (over r bs) (m + n) ∧ But g w w' := by
  have hl : bs.length = n := by have := (hrd w (But.refl _ _)).1; rwa [List.length_map] at this
  have HL := Lib.hid hl
  clear hl
  go_enter Tryz.func34, Tryz.ntmps34
  go_wp2
  go_loopw [10] (fun i wr => ∃ j q : Nat, j ≤ n ∧ i = .int .i64 j ∧ SumAt wr g q m ∧ Hid (q = over r (bs.take j)) ∧ But g w wr) (fun i _ => n - (intOf i).toNat)
  case atStart => exact ⟨0, r, by omega, rfl, h, rfl, But.refl _ _⟩
  case round =>
    obtain ⟨j, q, hj, rfl, hs, hQ, hbut⟩ := hrel
    by_cases hlt : j < n
    · obtain ⟨b, off, x, rfl, hb, hx, hcx⟩ := (hrd _ hbut).at_ hlt
      have HX := Lib.hid hx
      have hxb := x.toNat_lt
      have hc := hs.1.cell (cells_rest q m)
      have hf := hs.1.free 16
      have hq := hs.2
      have e1 := u32_xor_nat q x.toNat hq (by omega)
      have hs1 : SumAt (wr.setCell ⟨g, 16, none⟩ (.int .u32 (q ^^^ x.toNat : Nat))) g (q ^^^ x.toNat) m := ⟨by rw [← cells_set_rest q m]; exact hs.1.put 16 _, xor_lt hq (by omega)⟩
      have HB := Lib.hid hbut
      have HH := Lib.hid h
      clear hx hrd h hbut hs
      go_wp2_with (first
        | (go_at_call 52; refine (four_any _ _ _ _ hs1).mono ?_; rintro e w1 ⟨rfl, hs2, hb1⟩; clear hs1)
        | (go_at_call 52; refine (four_any _ _ _ _ hs2).mono ?_; rintro e w2 ⟨rfl, hs3, hb2⟩; clear hs2))
      rw [byte_fours] at hs3
      go_roundw
      case rel => exact ⟨j + 1, _, by omega, by go_num, hs3, by show _ = _; rw [hQ.out, take_snoc _ _ _ HX.out, over_snoc], ((HB.out.trans (But.put _ _)).trans hb1).trans hb2⟩
      case measure => simp [intOf]; omega
    · have hj2 : j = n := by omega
      subst hj2
      have hc := hs.1.cell (cells_many q m)
      have hf := hs.1.free 17
      have HS := Lib.hid hs
      have HB := Lib.hid hbut
      clear hrd h hbut hs
      go_wp2
      go_end0
      have hq : q = over r bs := by
        have := hQ.out
        rwa [List.take_of_length_le (Nat.le_of_eq HL.out)] at this
      refine ⟨rfl, ⟨?_, ?_⟩, HB.out.trans (But.put _ _)⟩
      · rw [← hq, ← cells_set_many q m]
        exact HS.out.1.put 17 _
      · rw [← hq]
        exact HS.out.2
theorem turn_but {w w' : World} {g : Nat} (k : But g w w') : Turn [g] [g] w w' := ⟨k.os, k.tape, k.output, k.size, fun i hi hS => k.block i hi (fun e => hS (by injection e with e; rw [e]; simp)), fun _ h => .inl h⟩
theorem add_apart (g r m : Nat) (A : Option Addr) (n c : Nat) (bs : List UInt8) (w : World) (h : SumAt w g r m) (hr : RdA w [g] A n (bs.map bv)) (hn : n ≤ 1099511627776) (hm : m ≤ 1099511627776) :
    Calls Tryz.prog 34 #[.pointer (some ⟨g, 0, none⟩), .slice A n c] w fun e w' => e = .returned (.tuple #[]) ∧ SumAt w' g (over r bs) (m + n) ∧ But g w w' :=
  add_far g r m A n c bs w h (fun w' k => (hr.turn (turn_but k)).rd) hn hm
end Go.Proofs.YtmnejphdjnlbjaaGreatDoor.unzp
/-
  A stream of plain data: what it takes, at first nothing, then all. My own text.
-/
namespace Go.Proofs.YtmnejphdjnlbjaaGreatDoor.unzp
open Go.RowKit Go.Proofs.YtmnejphdjnlbjaaGreatDoor.base Go.Proofs.YtmnejphdjnlbjaaGreatDoor.word Go.Proofs.YtmnejphdjnlbjaaGreatDoor.crcnum Go.Proofs.YtmnejphdjnlbjaaGreatDoor.crc
set_option linter.unusedVariables false
set_option maxRecDepth 100000
/-- a stream of plain data of which nothing came: where it, its source and its sum lie -/
structure PlnAt (w : World) (s p g n wanted : Nat) (bs : List UInt8) : Prop where
  st : Bk w s tStream [ifc p, iv (n : Nat), pt g, .int .u32 (wanted : Nat), iv 0]
  pl : ∃ A c, Bk w p tPlain [.slice A n c] ∧ RdA w [s, p, g] A n (bs.map bv) ∧ n ≤ c ∧ c ≤ maxLen
  sm : SumAt w g 4294967295 0
theorem but_turn {w w' : World} {g : Nat} {S : List Nat} (k : But g w w') (hg : g ∈ S) : Turn S S w w' := (turn_but k).wide (by intro i hi; rw [List.mem_singleton] at hi; subst hi; exact hg)
set_option maxHeartbeats 8000000 in
/-- nothing is taken ahead of something -/
theorem take_none (s p g n wanted : Nat) (bs : List UInt8) (w : World) (h : PlnAt w s p g n wanted bs) (h0 : 0 < n) (hn : n ≤ 1099511627776) :
    Calls Tryz.prog 21 #[pt s, .int .i64 0] w fun e w' => (∃ A c, e = .returned (.tuple #[.slice A 0 c, .int .i64 0])) ∧ PlnAt w' s p g n wanted bs ∧ Turn [s, p, g] [s, p, g] w w' := by
  obtain ⟨hst, ⟨A, c, hpl, hrd, hnc, hcm⟩, hsm⟩ := h
  have hsp : s ≠ p := hst.ne hpl (by decide)
  have hgp : g ≠ p := hsm.1.ne hpl (by decide)
  have hsg : s ≠ g := hst.ne hsm.1 (by decide)
  have hget : Calls Tryz.prog 83 #[pt p, .int .i64 0] w (PgetIs [s, p, g] p 0 n bs w) := pget_any [s, p, g] p A n c bs 0 0 w hpl hrd (by simp) (by intro i hi; simp at hi; rcases hi with rfl | rfl | rfl; exact hst.inside; exact hpl.inside; exact hsm.1.inside) hnc hcm hn (by omega) (by omega)
  have c0 := hst.cell (i := 0) rfl
  have hn1 : ¬ (n : Int) ≤ 0 := by omega
  have tn : decide ((n : Int) > 0) = true := by rw [decide_eq_true_iff]; omega
  have tn' : decide (0 < (n : Int)) = true := by rw [decide_eq_true_iff]; omega
  have HGET := Lib.hid hget
  have HST := Lib.hid hst
  have HSM := Lib.hid hsm
  have HSP := Lib.hid hsp
  have HGP := Lib.hid hgp
  have HSG := Lib.hid hsg
  clear hget hst hpl hrd hsm hsp hgp hsg hnc hcm
  go_enter Tryz.func21, Tryz.ntmps21
  go_wp2_with (first
    | (go_at_call 83; ((with_reducible refine HGET.out.mono ?_); rintro e w1 ⟨A1, c1, A2, c2, rfl, hr1, hp1, hr2, hn2, hc2, hb1⟩; have hs1 : Bk w1 s tStream [ifc p, iv (n : Nat), pt g, .int .u32 (wanted : Nat), iv 0] := HST.out.old (hb1.block s HST.out.inside (fun e => HSP.out (by injection e))); have d2 := hs1.cell (i := 2) rfl; have HS1 := Lib.hid hs1; have HP1 := Lib.hid hp1; have HR2 := Lib.hid hr2; have HN2 := Lib.hid hn2; have HC2 := Lib.hid hc2; have HB1 := Lib.hid hb1; have HADD := Lib.hid (add_apart g 4294967295 0 A1 0 c1 [] w1 (SumAt.but HSM.out hb1 HGP.out) (RdA.nil _ _ _) (by omega) (by omega)); clear hr1 hp1 hr2 hn2 hc2 hb1 hs1))
    | (go_at_call 34; ((with_reducible refine HADD.out.mono ?_); rintro e w2 ⟨rfl, hsum2, hb2⟩; have hs2 : Bk w2 s tStream [ifc p, iv (n : Nat), pt g, .int .u32 (wanted : Nat), iv 0] := HS1.out.old (hb2.block s HS1.out.inside (fun e => HSG.out (by injection e))); have d1 := hs2.cell (i := 1) rfl; have f1 := hs2.free 1; have HS2 := Lib.hid hs2; have HSU := Lib.hid hsum2; have HB2 := Lib.hid hb2; clear hs2 hsum2 hb2)))
  go_ret2
  have hp2 := (HP1.out.old (w' := w2) (HB2.out.block p HP1.out.inside (fun e => HGP.out (by injection e with e; exact e.symm)))).apart (p := ⟨s, 1, none⟩) (Ne.symm HSP.out) (.int .i64 (n : Nat))
  have hr2 := (HR2.out.turn (but_turn HB2.out (by simp))).turn (Turn.put (p := ⟨s, 1, none⟩) w2 (.int .i64 (n : Nat)) (by simp))
  exact ⟨⟨A1, c1, rfl⟩, ⟨HS2.out.put 1 _, ⟨A2, c2, hp2, hr2, HN2.out, HC2.out⟩, ⟨HSU.out.1.apart (p := ⟨s, 1, none⟩) (Ne.symm HSG.out) _, HSU.out.2⟩⟩, ((but_turn HB1.out (by simp)).trans (but_turn HB2.out (by simp))).trans (Turn.put _ _ (by simp))⟩
/-- what all that is taken tells -/
def TakIs (s p g n : Nat) (k : Nat) (bs : List UInt8) (w : World) (e : Ending) (w' : World) : Prop :=
  Turn [s, p, g] [s, p, g] w w' ∧ Bk w' s tStream [.nilIface, iv 0, .pointer none, .int .u32 0, iv (k : Nat)] ∧ if k = 0 then ∃ A c, e = .returned (.tuple #[.slice A n c, .int .i64 0]) ∧ RdA w' [s, p, g] A n (bs.map bv) else e = .returned (.tuple #[.slice none 0 0, .int .i64 (k : Nat)])
theorem strm_one (k : Int) : (#[.nilIface, iv 0, .pointer none, .int .u32 0, iv k] : Array Value).all (·.oneCell') = true := by
  rw [Array.all_eq_true_iff_forall_mem]
  intro v hv
  simp only [List.mem_toArray, List.mem_cons, List.not_mem_nil, or_false] at hv
  rcases hv with rfl | rfl | rfl | rfl | rfl <;> rfl
set_option maxHeartbeats 8000000 in
theorem take_all (s p g n wanted : Nat) (bs : List UInt8) (w : World) (h : PlnAt w s p g n wanted bs) (h0 : 0 < n) (hn : n ≤ 1099511627776) (k : Nat) (hk : (if sum bs = wanted then 0 else 5) = k) :
    Calls Tryz.prog 21 #[pt s, .int .i64 (n : Nat)] w (TakIs s p g n k bs w) := by
  obtain ⟨hst, ⟨A, c, hpl, hrd, hnc, hcm⟩, hsm⟩ := h
  have hl : bs.length = n := by have := hrd.1; rwa [List.length_map] at this
  have hsp : s ≠ p := hst.ne hpl (by decide)
  have hgp : g ≠ p := hsm.1.ne hpl (by decide)
  have hsg : s ≠ g := hst.ne hsm.1 (by decide)
  have hget := pget_any [s, p, g] p A n c bs n n w hpl hrd (by simp) (by intro i hi; simp at hi; rcases hi with rfl | rfl | rfl; exact hst.inside; exact hpl.inside; exact hsm.1.inside) hnc hcm hn hn (Nat.min_self n)
  have hget' : Calls Tryz.prog 83 #[pt p, .int .i64 (n : Nat)] w fun e w' => ∃ A1 c1 A2 c2, e = .returned (.tuple #[.slice A1 n c1, .int .i64 0]) ∧ RdA w' [s, p, g] A1 n (bs.map bv) ∧ Bk w' p tPlain [.slice A2 0 c2] ∧ c2 ≤ maxLen ∧ But p w w' := hget.mono fun e w' h => by
    obtain ⟨A1, c1, A2, c2, h1, h2, h3, _, _, h4, h5⟩ := h
    rw [List.take_of_length_le (Nat.le_of_eq hl)] at h2
    rw [Nat.sub_self] at h3
    exact ⟨A1, c1, A2, c2, h1, h2, h3, h4, h5⟩
  have c0 := hst.cell (i := 0) rfl
  have hk2 : (if 4294967295 - over 4294967295 bs = wanted then 0 else 5) = k := hk
  have HGET := Lib.hid hget'
  have HST := Lib.hid hst
  have HSM := Lib.hid hsm
  have HSP := Lib.hid hsp
  have HGP := Lib.hid hgp
  have HSG := Lib.hid hsg
  have HK := Lib.hid hk2
  have HN := Lib.hid hn
  have hk05 : k = 0 ∨ k = 5 := by rw [← hk]; split <;> simp
  clear hget hget' hst hpl hrd hsm hsp hgp hsg hnc hcm hk hk2 hl hn
  rcases hk05 with rfl | rfl
  · go_enter Tryz.func21, Tryz.ntmps21
    go_wp2_with (first
      | (go_at_call 83; ((with_reducible refine HGET.out.mono ?_); rintro e w1 ⟨A1, c1, A2, c2, rfl, hr1, hp1, hc2, hb1⟩; have hs1 : Bk w1 s tStream [ifc p, iv (n : Nat), pt g, .int .u32 (wanted : Nat), iv 0] := HST.out.old (hb1.block s HST.out.inside (fun e => HSP.out (by injection e))); have d2 := hs1.cell (i := 2) rfl; have HS1 := Lib.hid hs1; have HP1 := Lib.hid hp1; have HR1 := Lib.hid hr1; have HC2 := Lib.hid hc2; have HB1 := Lib.hid hb1; have HADD := Lib.hid (add_apart g 4294967295 0 A1 n c1 bs w1 (SumAt.but HSM.out hb1 HGP.out) (hr1.sub (by simp)) HN.out (by omega)); clear hr1 hp1 hc2 hb1 hs1))
      | (go_at_call 34; ((with_reducible refine HADD.out.mono ?_); rintro e w2 ⟨rfl, hsum2, hb2⟩; have hs2 : Bk w2 s tStream [ifc p, iv (n : Nat), pt g, .int .u32 (wanted : Nat), iv 0] := HS1.out.old (hb2.block s HS1.out.inside (fun e => HSG.out (by injection e))); have d1 := hs2.cell (i := 1) rfl; have f1 := hs2.free 1; have hs3 : Bk (w2.setCell ⟨s, 1, none⟩ (.int .i64 0)) s tStream [ifc p, iv ((0 : Nat) : Int), pt g, .int .u32 (wanted : Nat), iv 0] := hs2.put 1 _; have hp2 := (HP1.out.old (w' := w2) (hb2.block p HP1.out.inside (fun e => HGP.out (by injection e with e; exact e.symm)))).apart (p := ⟨s, 1, none⟩) (Ne.symm HSP.out) (.int .i64 0); have hsu3 : SumAt (w2.setCell ⟨s, 1, none⟩ (.int .i64 0)) g (over 4294967295 bs) (0 + n) := ⟨hsum2.1.apart (p := ⟨s, 1, none⟩) (Ne.symm HSG.out) _, hsum2.2⟩; have HEND := Lib.hid (atEnd_any s p g A2 c2 0 (over 4294967295 bs) (0 + n) wanted _ hs3 hp2 hsu3 HC2.out 0 HK.out); have HS3 := Lib.hid hs3; have HB2 := Lib.hid hb2; clear hs2 hs3 hp2 hsu3 hsum2 hb2))
      | (go_at_call 35; ((with_reducible refine HEND.out.mono ?_); rintro e w4 ⟨rfl, hb3⟩; have HS4 := Lib.hid (HS3.out.old (w' := w4) (hb3.block s HS3.out.inside (fun e => HSP.out (by injection e)))); have HB3 := Lib.hid hb3; clear hb3))
      | ((with_reducible (refine at_store_ 52 51 ?_)); refine wpList_store_row (o := ⟨none, _, _, _, _, _⟩) rfl tStream (.tmp 52) (.tmp 51) rfl s #[.nilIface, iv 0, .pointer none, .int .u32 0, iv 0] rfl rfl tStream _ HS4.out (by kernel_rfl) (by rfl) (strm_one _) ?_))
    go_ret2
    refine ⟨((((but_turn HB1.out (by simp)).trans (but_turn HB2.out (by simp))).trans (Turn.put (p := ⟨s, 1, none⟩) w2 (.int .i64 0) (by simp))).trans (but_turn HB3.out (by simp))).trans (Turn.row _ _ (by simp)), HS4.out.row _, ?_⟩
    exact ⟨A1, c1, rfl, ((((HR1.out.turn (but_turn HB2.out (by simp))).turn (Turn.put (p := ⟨s, 1, none⟩) w2 (.int .i64 0) (by simp))).turn (but_turn HB3.out (by simp)))).turn (Turn.row _ _ (by simp))⟩
  · go_enter Tryz.func21, Tryz.ntmps21
    go_wp2_with (first
      | (go_at_call 83; ((with_reducible refine HGET.out.mono ?_); rintro e w1 ⟨A1, c1, A2, c2, rfl, hr1, hp1, hc2, hb1⟩; have hs1 : Bk w1 s tStream [ifc p, iv (n : Nat), pt g, .int .u32 (wanted : Nat), iv 0] := HST.out.old (hb1.block s HST.out.inside (fun e => HSP.out (by injection e))); have d2 := hs1.cell (i := 2) rfl; have HS1 := Lib.hid hs1; have HP1 := Lib.hid hp1; have HR1 := Lib.hid hr1; have HC2 := Lib.hid hc2; have HB1 := Lib.hid hb1; have HADD := Lib.hid (add_apart g 4294967295 0 A1 n c1 bs w1 (SumAt.but HSM.out hb1 HGP.out) (hr1.sub (by simp)) HN.out (by omega)); clear hr1 hp1 hc2 hb1 hs1))
      | (go_at_call 34; ((with_reducible refine HADD.out.mono ?_); rintro e w2 ⟨rfl, hsum2, hb2⟩; have hs2 : Bk w2 s tStream [ifc p, iv (n : Nat), pt g, .int .u32 (wanted : Nat), iv 0] := HS1.out.old (hb2.block s HS1.out.inside (fun e => HSG.out (by injection e))); have d1 := hs2.cell (i := 1) rfl; have f1 := hs2.free 1; have hs3 : Bk (w2.setCell ⟨s, 1, none⟩ (.int .i64 0)) s tStream [ifc p, iv ((0 : Nat) : Int), pt g, .int .u32 (wanted : Nat), iv 0] := hs2.put 1 _; have hp2 := (HP1.out.old (w' := w2) (hb2.block p HP1.out.inside (fun e => HGP.out (by injection e with e; exact e.symm)))).apart (p := ⟨s, 1, none⟩) (Ne.symm HSP.out) (.int .i64 0); have hsu3 : SumAt (w2.setCell ⟨s, 1, none⟩ (.int .i64 0)) g (over 4294967295 bs) (0 + n) := ⟨hsum2.1.apart (p := ⟨s, 1, none⟩) (Ne.symm HSG.out) _, hsum2.2⟩; have HEND := Lib.hid (atEnd_any s p g A2 c2 0 (over 4294967295 bs) (0 + n) wanted _ hs3 hp2 hsu3 HC2.out 5 HK.out); have HS3 := Lib.hid hs3; have HB2 := Lib.hid hb2; clear hs2 hs3 hp2 hsu3 hsum2 hb2))
      | (go_at_call 35; ((with_reducible refine HEND.out.mono ?_); rintro e w4 ⟨rfl, hb3⟩; have HS4 := Lib.hid (HS3.out.old (w' := w4) (hb3.block s HS3.out.inside (fun e => HSP.out (by injection e)))); have HB3 := Lib.hid hb3; clear hb3))
      | ((with_reducible (refine at_store_ 52 51 ?_)); refine wpList_store_row (o := ⟨none, _, _, _, _, _⟩) rfl tStream (.tmp 52) (.tmp 51) rfl s #[.nilIface, iv 0, .pointer none, .int .u32 0, iv 5] rfl rfl tStream _ HS4.out (by kernel_rfl) (by rfl) (strm_one _) ?_))
    go_ret2
    refine ⟨((((but_turn HB1.out (by simp)).trans (but_turn HB2.out (by simp))).trans (Turn.put (p := ⟨s, 1, none⟩) w2 (.int .i64 0) (by simp))).trans (but_turn HB3.out (by simp))).trans (Turn.row _ _ (by simp)), HS4.out.row _, ?_⟩
    exact rfl
end Go.Proofs.YtmnejphdjnlbjaaGreatDoor.unzp
/-
  The content of plain data. My own text.
-/
namespace Go.Proofs.YtmnejphdjnlbjaaGreatDoor.unzp
open Go.RowKit Go.Proofs.YtmnejphdjnlbjaaGreatDoor.base Go.Proofs.YtmnejphdjnlbjaaGreatDoor.word Go.Proofs.YtmnejphdjnlbjaaGreatDoor.crcnum Go.Proofs.YtmnejphdjnlbjaaGreatDoor.crc
set_option linter.unusedVariables false
set_option maxRecDepth 100000
theorem source_any (A : Option Addr) (n c : Nat) (bs : List UInt8) (w : World) (B : Nat) (hr : Rd w B A n (bs.map bv)) (hB : B ≤ w.heap.size) (hn : n ≤ 1099511627776) :
    Calls Tryz.prog 19 #[.slice A n c, .int .i64 0] w fun e w' => ∃ p A1 c1, e = .returned (ifc p) ∧ Fresh w w' ∧ w.heap.size ≤ p ∧ Bk w' p tPlain [.slice A1 n c1] ∧ Rd w' p A1 n (bs.map bv) ∧ n ≤ c1 ∧ c1 ≤ maxLen := by
  have hcl := clone_any A n c bs w B hr hB hn
  have HCL := Lib.hid hcl
  clear hcl
  go_enter Tryz.func19, Tryz.ntmps19
  go_wp2_with (go_at_call 30; ((with_reducible refine HCL.out.mono ?_); rintro e w1 ⟨A1, c1, rfl, hf1, ho1⟩; have HF1 := Lib.hid hf1; have HO1 := Lib.hid ho1; clear hf1 ho1))
  go_ret
  have hcap := HO1.out.cap
  exact ⟨w1.heap.size, A1, c1, rfl, HF1.out.trans (Fresh.alloc _ _), HF1.out.size, Bk.made w1 tPlain #[.slice A1 n c1], (HO1.out.rd.alloc (Nat.le_refl _) _), hcap.1, hcap.2⟩
theorem done_any (s k : Nat) (w : World) (hs : Bk w s tStream [.nilIface, iv 0, .pointer none, .int .u32 0, iv (k : Nat)]) :
    Calls Tryz.prog 9 #[pt s] w fun e w' => e = .returned (.bool (k == 0)) ∧ w' = w := by
  have c0 := hs.cell (i := 0) rfl
  have c4 := hs.cell (i := 4) rfl
  have tk : ((k : Int) == 0) = (k == 0) := by rw [Bool.eq_iff_iff]; simp
  clear hs
  go_enter Tryz.func9, Tryz.ntmps9
  go_wp2
  go_ret
  exact ⟨rfl, rfl⟩
theorem undone_any (s p g n wanted : Nat) (bs : List UInt8) (w : World) (h : PlnAt w s p g n wanted bs) :
    Calls Tryz.prog 9 #[pt s] w fun e w' => e = .returned (.bool false) ∧ w' = w := by
  have c0 := h.st.cell (i := 0) rfl
  clear h
  go_enter Tryz.func9, Tryz.ntmps9
  go_wp2
  go_ret
  exact ⟨rfl, rfl⟩
theorem next_any (s p g n wanted : Nat) (bs : List UInt8) (w : World) (h : PlnAt w s p g n wanted bs) (h0 : 0 < n) (hn : n ≤ 65536) (k : Nat) (hk : (if sum bs = wanted then 0 else 5) = k) :
    Calls Tryz.prog 10 #[pt s, .int .i64 65536] w (TakIs s p g n k bs w) := by
  have ht := take_all s p g n wanted bs w h h0 (by omega) k hk
  have c0 := h.st.cell (i := 0) rfl
  have c1 := h.st.cell (i := 1) rfl
  have hmin : min (max 1 65536 : Int) (n : Int) = (n : Int) := by omega
  have ht2 : Calls Tryz.prog 21 #[pt s, .int .i64 (min (max 1 65536) (n : Int))] w (TakIs s p g n k bs w) := by rw [hmin]; exact ht
  have HT := Lib.hid ht2
  clear hmin ht2
  have HK := Lib.hid hk
  clear ht h hk
  have hk05 : k = 0 ∨ k = 5 := by have := HK.out; rw [← this]; split <;> simp
  rcases hk05 with rfl | rfl
  · go_enter Tryz.func10, Tryz.ntmps10
    go_wp2_with (go_at_call 21; ((with_reducible refine HT.out.mono ?_); rintro e w1 ⟨h1, h2, A1, c1', rfl, h3⟩; have H1 := Lib.hid h1; have H2 := Lib.hid h2; have H3 := Lib.hid h3; clear h1 h2 h3))
    go_ret2
    exact ⟨H1.out, H2.out, A1, c1', rfl, H3.out⟩
  · go_enter Tryz.func10, Tryz.ntmps10
    go_wp2_with (go_at_call 21; ((with_reducible refine HT.out.mono ?_); rintro e w1 ⟨h1, h2, rfl⟩; have H1 := Lib.hid h1; have H2 := Lib.hid h2; clear h1 h2))
    go_ret2
    exact ⟨H1.out, H2.out, rfl⟩
end Go.Proofs.YtmnejphdjnlbjaaGreatDoor.unzp
/-
  Read, of plain data. My own text.
-/
namespace Go.Proofs.YtmnejphdjnlbjaaGreatDoor.unzp
open Go.RowKit Go.Proofs.YtmnejphdjnlbjaaGreatDoor.base Go.Proofs.YtmnejphdjnlbjaaGreatDoor.word Go.Proofs.YtmnejphdjnlbjaaGreatDoor.crcnum Go.Proofs.YtmnejphdjnlbjaaGreatDoor.crc
set_option linter.unusedVariables false
set_option maxRecDepth 100000
abbrev tFl : TypeId := 31
set_option maxHeartbeats 8000000 in
theorem readp_any (A : Option Addr) (N c : Nat) (xs : List UInt8) (nm : ByteArray) (dt : Int) (a n wanted : Nat) (w : World) (B : Nat) (hr : Rd w B A N (xs.map bv)) (hB : B ≤ w.heap.size) (hc : N ≤ c) (hcm : c ≤ maxLen) (hn : 0 < n) (hn2 : n ≤ 65536) (ha : a + n ≤ N) (hN : N ≤ 1099511627776) :
    Calls Tryz.prog 8 #[.slice A N c, .agg #[.string nm, iv 0, iv dt, .int .u32 (wanted : Nat), iv (n : Nat), iv (n : Nat), iv (a : Nat)]] w fun e w' => ∃ s p g, e = .returned (pt s) ∧ Fresh w w' ∧ PlnAt w' s p g n wanted ((xs.drop a).take n) ∧ w.heap.size ≤ s ∧ w.heap.size ≤ p ∧ w.heap.size ≤ g := by
  have hal := Fresh.alloc w (.cells #[.string nm, iv 0, iv dt, .int .u32 (wanted : Nat), iv (n : Nat), iv (n : Nat), iv (a : Nat)] tFl)
  have hbk := Bk.made w tFl #[.string nm, iv 0, iv dt, .int .u32 (wanted : Nat), iv (n : Nat), iv (n : Nat), iv (a : Nat)]
  have hwi := fun W => within_any a n N W (by omega) (by omega) (by omega) true (by rw [decide_eq_true_iff]; exact ha)
  have hrd : ∀ W, Calls Tryz.prog 18 #[.int .i64 0] W fun r w' => r = .returned (.bool true) ∧ w' = W := fun W => readable_any 0 W (by omega) true rfl
  have hcut := hr.cut (lo := a) (hi := a + n) (cap := c) (by omega) ha hc
  rw [if_neg (by omega), show a + n - a = n from by omega, ← List.map_drop, ← List.map_take] at hcut
  have hca : ¬ c = a := by omega
  have hwr : wrap64 ((a : Int) + (n : Int)) = (a : Int) + (n : Int) := by unfold wrap64; omega
  have hsrc := fun (W : World) (hf : Fresh w W) => source_any (A.map (·.add a)) n (c - a) ((xs.drop a).take n) W B (hcut.keep fun i hi => hf.block i (by omega)) (Nat.le_trans hB hf.size) (by omega)
  have HAL := Lib.hid hal
  have HBK := Lib.hid hbk
  have HWI := Lib.hid hwi
  have HRD := Lib.hid hrd
  have HSRC := Lib.hid hsrc
  have t0 : ¬ (n : Int) < 0 := by omega
  have t1 : ¬ 16777216 < (n : Int) := by omega
  have k6 := hbk.cell (i := 6) rfl
  have k4 := hbk.cell (i := 4) rfl
  have k1 := hbk.cell (i := 1) rfl
  have k5 := hbk.cell (i := 5) rfl
  clear hal hbk hwi hrd hsrc hcut hr
  go_enter Tryz.func8, Tryz.ntmps8
  go_upto_region 3 with (first
    | (go_at_call 17; ((with_reducible refine (HWI.out _).mono ?_); rintro e w1 ⟨rfl, rfl⟩))
    | (go_at_call 18; ((with_reducible refine (HRD.out _).mono ?_); rintro e w1 ⟨rfl, rfl⟩)))
  generalize w.alloc (.cells #[.string nm, .int .i64 0, .int .i64 dt, .int .u32 (wanted : Nat), .int .i64 (n : Nat), .int .i64 (n : Nat), .int .i64 (a : Nat)] tFl) = W0 at *
  obtain ⟨f, hf⟩ : ∃ f, w.heap.size = f := ⟨_, rfl⟩
  have HFF := Lib.hid hf
  rw [hf]
  clear k6 k4 k1 k5 t0 t1
  have hS : ∀ W, Fresh W0 W → (W.cell? ⟨f, 6, none⟩ = some (iv (a : Nat)) ∧ W.cell? ⟨f, 4, none⟩ = some (iv (n : Nat)) ∧ W.cell? ⟨f, 1, none⟩ = some (iv 0) ∧ W.cell? ⟨f, 5, none⟩ = some (iv (n : Nat)) ∧ W.cell? ⟨f, 3, none⟩ = some (.int .u32 (wanted : Nat))) := fun W h => by rw [← HFF.out]; exact ⟨(HBK.out.fresh h).cell rfl, (HBK.out.fresh h).cell rfl, (HBK.out.fresh h).cell rfl, (HBK.out.fresh h).cell rfl, (HBK.out.fresh h).cell rfl⟩
  have HS := Lib.hid hS
  have hk0 := hS _ (Fresh.drew W0)
  clear hS hf
  have b1 : (0 : Int) ≤ (a : Int) := by omega
  have b2 : (a : Int) ≤ (a : Int) + (n : Int) := by omega
  have b3 : (a : Int) + (n : Int) ≤ (c : Int) := by omega
  have b4 : (0 : Int) ≤ (a : Int) + (n : Int) := by omega
  have b5 : ((a : Int) + (n : Int)).toNat = a + n := by omega
  have b6 : IntKind.i64.wrap ((a : Int) + (n : Int)) = (a : Int) + (n : Int) := by rw [IntKind.wrap_i64]; omega
  have b7 : ¬ c - a = 0 := by omega
  have b8 : a ≤ c := by omega
  have b9 : a + n - a = n := by omega
  go_region_held3 (fun w' => w'.cell? ⟨f, 6, none⟩ = some (iv (a : Nat)) ∧ w'.cell? ⟨f, 4, none⟩ = some (iv (n : Nat)) ∧ w'.cell? ⟨f, 1, none⟩ = some (iv 0) ∧ w'.cell? ⟨f, 5, none⟩ = some (iv (n : Nat)) ∧ w'.cell? ⟨f, 3, none⟩ = some (.int .u32 (wanted : Nat))) (first | with_reducible exact hk0 | with_reducible exact HK2.out | with_reducible exact HK3.out | with_reducible exact HK4.out)
    (first
    | (go_at_call 19; ((refine (HSRC.out _ (HAL.out.trans (Fresh.drew _))).mono ?_); rintro e w1 ⟨p, A1, c1, rfl, hf1, hp1, hpl1, hrd1, hnc1, hcm1⟩; have HF1 := Lib.hid ((Fresh.drew W0).trans hf1); have HK2 := Lib.hid (HS.out _ HF1.out); have HP1 := Lib.hid hp1; have HPL := Lib.hid hpl1; have HR1 := Lib.hid hrd1; have HNC := Lib.hid hnc1; have HCM := Lib.hid hcm1; clear hf1 hp1 hpl1 hrd1 hnc1 hcm1))
    | (go_at_call 20; ((refine (new_any _).mono ?_); rintro e w2 ⟨g, rfl, hg2, hf2, hs2⟩; have HF2 := Lib.hid (HF1.out.trans hf2); have HK3 := Lib.hid (HS.out _ HF2.out); have hal2 := Fresh.alloc w2 (.cells #[ifc p, iv (n : Nat), pt g, .int .u32 (wanted : Nat), iv 0] tStream); have HK4 := Lib.hid (HS.out _ (HF2.out.trans hal2)); have HX2 := Lib.hid hf2; have HG2 := Lib.hid hg2; have HSU := Lib.hid hs2; clear hal2 hf2 hg2 hs2)))
  have hfa := Fresh.alloc w2 (.cells #[ifc p, iv (n : Nat), pt g, .int .u32 (wanted : Nat), iv 0] tStream)
  have hpi := HPL.out.inside
  have hpl3 := (HPL.out.fresh HX2.out).fresh hfa
  have hln : PlnAt (w2.alloc (.cells #[ifc p, iv (n : Nat), pt g, .int .u32 (wanted : Nat), iv 0] tStream)) w2.heap.size p g n wanted ((xs.drop a).take n) :=
    ⟨Bk.made w2 tStream #[ifc p, iv (n : Nat), pt g, .int .u32 (wanted : Nat), iv 0], ⟨A1, c1, hpl3, RdA.of_rd ((HR1.out.keep fun i hi => (HX2.out.trans hfa).block i (by omega))) (by have := HX2.out.size; have := hfa.size; omega) (by intro i hi; simp at hi; have := HX2.out.size; have := HG2.out; rcases hi with rfl | rfl | rfl <;> omega), HNC.out, HCM.out⟩, ⟨HSU.out.1.fresh hfa, HSU.out.2⟩⟩
  have htk := take_none w2.heap.size p g n wanted ((xs.drop a).take n) _ hln hn (by omega)
  have HTK := Lib.hid htk
  have HFA := Lib.hid hfa
  clear hfa hpi hpl3 hln htk b1 b2 b3 b4 b5 b6 b7 b8 b9
  go_wp2_with (go_at_call 21; ((with_reducible refine HTK.out.mono ?_); rintro e w4 ⟨⟨A4, c4, rfl⟩, hpl4, ht4⟩; have HPL4 := Lib.hid hpl4; have HT4 := Lib.hid ht4; clear hpl4 ht4))
  go_ret
  have hx := (HAL.out.trans HF2.out).trans HFA.out
  have hgw : w.heap.size ≤ w2.heap.size := (HAL.out.trans HF2.out).size
  have hpw : w.heap.size ≤ p := by have h1 := HAL.out.size; have h2 := HP1.out; simp at h2; omega
  have hggw : w.heap.size ≤ g := by have h1 := (HAL.out.trans HF1.out).size; have h2 := HG2.out; omega
  exact ⟨w2.heap.size, p, g, rfl, HT4.out.new hx (by intro i hi; simp at hi; rcases hi with rfl | rfl | rfl; exact hgw; exact hpw; exact hggw), HPL4.out, hgw, hpw, hggw⟩
end Go.Proofs.YtmnejphdjnlbjaaGreatDoor.unzp
/-
  Content, of plain data. My own text.
-/
namespace Go.Proofs.YtmnejphdjnlbjaaGreatDoor.unzp
open Go.RowKit Go.Proofs.YtmnejphdjnlbjaaGreatDoor.base Go.Proofs.YtmnejphdjnlbjaaGreatDoor.word Go.Proofs.YtmnejphdjnlbjaaGreatDoor.crcnum Go.Proofs.YtmnejphdjnlbjaaGreatDoor.crc
set_option linter.unusedVariables false
set_option maxRecDepth 100000
theorem u8Info : (Tryz.prog.info? 5).map (fun i => (i.zero, i.size, i.bytes)) = some (some (.int .u8 0), 1, 1) := by kernel_rfl
/-- what Content tells of plain data -/
def ConIs (n k : Nat) (bs : List UInt8) (w : World) (e : Ending) (w' : World) : Prop :=
  Fresh w w' ∧ if k = 0 then ∃ A c, e = .returned (.tuple #[.slice A n c, .int .i64 0]) ∧ Rd w' w'.heap.size A n (bs.map bv) else e = .returned (.tuple #[.slice none 0 0, .int .i64 (k : Nat)])
def lenM (n : Nat) : Value → Nat
  | .slice _ l _ => n - l
  | _ => 0
set_option maxHeartbeats 8000000 in
theorem contentp_any (A : Option Addr) (N c : Nat) (xs bs : List UInt8) (nm : ByteArray) (dt : Int) (a n wanted : Nat) (w : World) (B : Nat) (hr : Rd w B A N (xs.map bv)) (hB : B ≤ w.heap.size) (hc : N ≤ c) (hcm : c ≤ maxLen) (hn : 0 < n) (hn2 : n ≤ 65536) (ha : a + n ≤ N) (hN : N ≤ 1099511627776) (hbs : (xs.drop a).take n = bs) (k : Nat) (hk : (if sum bs = wanted then 0 else 5) = k) :
    Calls Tryz.prog 7 #[.slice A N c, .agg #[.string nm, iv 0, iv dt, .int .u32 (wanted : Nat), iv (n : Nat), iv (n : Nat), iv (a : Nat)]] w (ConIs n k bs w) := by
  obtain ⟨i0, hi0, hz0, hz1, hz2⟩ := info_parts u8Info
  have hal := Fresh.alloc w (.cells #[.string nm, iv 0, iv dt, .int .u32 (wanted : Nat), iv (n : Nat), iv (n : Nat), iv (a : Nat)] tFl)
  have hread := readp_any A N c xs nm dt a n wanted _ B (hr.alloc hB (.cells #[.string nm, iv 0, iv dt, .int .u32 (wanted : Nat), iv (n : Nat), iv (n : Nat), iv (a : Nat)] tFl)) (Nat.le_trans hB hal.size) hc hcm hn hn2 ha hN
  rw [hbs] at hread
  have hlb : bs.length = n := by
    have := hr.1
    rw [List.length_map] at this
    rw [← hbs, List.length_take, List.length_drop]
    omega
  have HAL := Lib.hid hal
  have HRE := Lib.hid hread
  have HK := Lib.hid hk
  have HLB := Lib.hid hlb
  have hk05 : k = 0 ∨ k = 5 := by rw [← hk]; split <;> simp
  clear hal hread hk hr hbs hlb
  go_enter Tryz.func7, Tryz.ntmps7
  go_wp2_with (go_at_call 8; ((with_reducible refine HRE.out.mono ?_); rintro e w1 ⟨s, p, g, rfl, hf1, hpl1, hs1, hp1, hg1⟩; have HF1 := Lib.hid (HAL.out.trans hf1); have HPL := Lib.hid hpl1; have HSPG : RowKit.Hid (∀ i ∈ [s, p, g], w.heap.size ≤ i) := (by have h := HAL.out.size; intro i hi; simp at hi; rcases hi with rfl | rfl | rfl <;> omega); clear hf1 hpl1 hs1 hp1 hg1))
  go_loopw [7] (fun v wr => ∃ (Aa : Option Addr) (l ca : Nat), v = .slice Aa l ca ∧ ((l = 0 ∧ Aa = none ∧ ca = 0 ∧ Hid (PlnAt wr s p g n wanted bs)) ∨ (l = n ∧ k = 0 ∧ Hid (Bk wr s tStream [.nilIface, iv 0, .pointer none, .int .u32 0, iv 0]) ∧ Hid (Rd wr wr.heap.size Aa n (bs.map bv)))) ∧ Hid (Fresh w wr)) (fun v _ => lenM n v)
  case atStart => exact ⟨none, 0, 0, rfl, .inl ⟨rfl, rfl, rfl, HPL⟩, HF1⟩
  case round =>
    obtain ⟨Aa, l, ca, rfl, hph, HF⟩ := hrel
    rcases hph with ⟨rfl, rfl, rfl, HP⟩ | ⟨rfl, rfl, HB, HR⟩
    · have hnx := next_any s p g n wanted bs wr HP.out hn hn2 k HK.out
      have hun := fun W (h : W = wr) => undone_any s p g n wanted bs wr HP.out
      have HNX := Lib.hid hnx
      have HUN := Lib.hid (undone_any s p g n wanted bs wr HP.out)
      clear hnx hun
      rcases hk05 with rfl | rfl
      · go_wp2_with (first
          | (go_at_call 9; ((with_reducible refine HUN.out.mono ?_); rintro e w2 ⟨rfl, rfl⟩))
          | (go_at_call 10; ((with_reducible refine HNX.out.mono ?_); rintro e w3 ⟨ht3, hs3, A3, c3, rfl, hr3⟩; have HF3 := Lib.hid (ht3.new HF.out HSPG.out); have HS3 := Lib.hid hs3; have HR3 := Lib.hid hr3.rd; clear ht3 hs3 hr3))
          | (at_builtin; refine wpList_append_rd _ rfl _ _ 22 rfl w3.heap.size 5 i0 _ 1 Tryz.underlying22 hi0 hz0 hz1 hz2 rfl none 0 0 [] rfl (Own.nil _ _ _) w3.heap.size A3 n c3 (bs.map bv) rfl HR3.out (bv_one _) (by unfold maxLen; omega) (by omega) (Nat.le_refl _) ?_; intro A4 c4 w4 ho4 hg4))
        have hs4 := HS3.out.grown hg4 (by simp [Value.ownBlock])
        have hf4 : Fresh w w4 := HF3.out.trans (Fresh.append (a := w3) (Fresh.refl _) (Own.nil w3 w3.heap.size 5) (Nat.le_refl _) hg4)
        rw [Nat.zero_add, List.nil_append] at ho4
        refine ⟨⟨A4, n, c4, rfl, .inr ⟨rfl, trivial, Lib.hid hs4, Lib.hid ho4.rd⟩, Lib.hid hf4⟩, ?_⟩
        simp [lenM]; omega
      · go_wp2_with (first
          | (go_at_call 9; ((with_reducible refine HUN.out.mono ?_); rintro e w2 ⟨rfl, rfl⟩))
          | (go_at_call 10; ((with_reducible refine HNX.out.mono ?_); rintro e w3 ⟨ht3, hs3, rfl⟩; have HF3 := Lib.hid (ht3.new HF.out HSPG.out); clear ht3 hs3)))
        go_ret2
        exact ⟨HF3.out, rfl⟩
    · have HDN := Lib.hid (done_any s 0 wr HB.out)
      go_wp2_with (go_at_call 9; ((with_reducible refine HDN.out.mono ?_); rintro e w2 ⟨rfl, rfl⟩))
      go_ret2
      exact ⟨HF.out, Aa, ca, rfl, HR.out⟩
end Go.Proofs.YtmnejphdjnlbjaaGreatDoor.unzp
