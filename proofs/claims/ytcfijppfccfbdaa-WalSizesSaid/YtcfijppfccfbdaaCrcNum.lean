/-
  Sums of 32 bits, bit by bit: plain mathematics on numbers, over no program. My own text.
-/
import Derived.WalkKit
namespace Go.Proofs.Ytcfijppfccfbdaa.crcnum

/-- what is added for a bit that goes -/
def poly : Nat := 3988292384

/-- one bit goes -/
def one (n : Nat) : Nat := if n % 2 = 1 then n / 2 ^^^ poly else n / 2

/-- k bits go -/
def many : Nat → Nat → Nat
  | 0, n => n
  | k + 1, n => one (many k n)

/-- a byte is taken in -/
def byte (n b : Nat) : Nat := many 8 (n ^^^ b)

/-- bytes are taken in -/
def over (n : Nat) (bs : List UInt8) : Nat := bs.foldl (fun n b => byte n b.toNat) n

/-- the sum -/
def sum (bs : List UInt8) : Nat := 4294967295 - over 4294967295 bs

theorem many_add (j k n : Nat) : many (j + k) n = many j (many k n) := by
  induction j with
  | zero => rw [Nat.zero_add]; rfl
  | succ j ih => rw [Nat.succ_add, many, ih, many]

theorem xor_left_cancel {a b c : Nat} (h : c ^^^ a = c ^^^ b) : a = b := by
  have := congrArg (c ^^^ ·) h
  simpa [← Nat.xor_assoc] using this
theorem xor_right_cancel {a b c : Nat} (h : a ^^^ c = b ^^^ c) : a = b := by
  rw [Nat.xor_comm a, Nat.xor_comm b] at h
  exact xor_left_cancel h
theorem xor_lt {a b : Nat} (ha : a < 4294967296) (hb : b < 4294967296) : a ^^^ b < 4294967296 := Nat.xor_lt_two_pow (n := 32) ha hb

theorem one_lt {n : Nat} (h : n < 4294967296) : one n < 4294967296 := by
  unfold one
  split
  · exact xor_lt (by omega) (by decide)
  · omega

theorem many_lt {k n : Nat} (h : n < 4294967296) : many k n < 4294967296 := by
  induction k with
  | zero => exact h
  | succ k ih => exact one_lt ih

theorem byte_lt {n b : Nat} (h : n < 4294967296) (hb : b < 256) : byte n b < 4294967296 := many_lt (xor_lt h (by omega))

theorem over_lt {n : Nat} (bs : List UInt8) (h : n < 4294967296) : over n bs < 4294967296 := by
  induction bs generalizing n with
  | nil => exact h
  | cons b r ih => exact ih (byte_lt h b.toNat_lt)

theorem over_append (n : Nat) (a b : List UInt8) : over n (a ++ b) = over (over n a) b := by simp [over, List.foldl_append]
theorem over_snoc (n : Nat) (a : List UInt8) (b : UInt8) : over n (a ++ [b]) = byte (over n a) b.toNat := by simp [over, List.foldl_append]

/-- an even part stands aside -/
theorem one_even (a m : Nat) : one (a ^^^ 2 * m) = one a ^^^ m := by
  have h1 : (a ^^^ 2 * m) % 2 = a % 2 := by
    have := Nat.xor_mod_two_eq_one (a := a) (b := 2 * m)
    by_cases h : a % 2 = 1
    · have : (a ^^^ 2 * m) % 2 = 1 := by rw [this, h]; simp
      omega
    · have : ¬ (a ^^^ 2 * m) % 2 = 1 := by rw [this]; simp [h]
      omega
  have h2 : (a ^^^ 2 * m) / 2 = a / 2 ^^^ m := by
    rw [Nat.xor_div_two]
    congr 1
    omega
  unfold one
  rw [h1, h2]
  split
  · rw [Nat.xor_assoc, Nat.xor_assoc, Nat.xor_comm m]
  · rfl

theorem many_even (k a m : Nat) : many k (a ^^^ 2 ^ k * m) = many k a ^^^ m := by
  induction k generalizing m with
  | zero => rw [Nat.pow_zero, Nat.one_mul]; rfl
  | succ k ih =>
    rw [many, Nat.pow_succ, Nat.mul_assoc, ih, one_even]
    rfl

theorem split_at (k n : Nat) : n = n % 2 ^ k ^^^ 2 ^ k * (n / 2 ^ k) := by
  have h := Nat.shiftLeft_add_eq_or_of_lt (i := k) (b := n % 2 ^ k) (Nat.mod_lt _ (Nat.pow_pos (by omega))) (n / 2 ^ k)
  have h3 : n % 2 ^ k &&& 2 ^ k * (n / 2 ^ k) = 0 := by
    apply Nat.eq_of_testBit_eq
    intro i
    rw [Nat.testBit_and, Nat.testBit_mod_two_pow, Nat.testBit_two_pow_mul, Nat.zero_testBit]
    by_cases hi : i < k
    · simp [hi, Nat.not_le.2 hi]
    · simp [hi]
  apply Nat.eq_of_testBit_eq
  intro i
  rw [Nat.testBit_xor, Nat.testBit_mod_two_pow, Nat.testBit_two_pow_mul]
  by_cases hi : i < k
  · simp [hi, Nat.not_le.2 hi]
  · have : k ≤ i := by omega
    simp only [hi, decide_false, Bool.false_and, Bool.false_xor, this, decide_true, Bool.true_and, Nat.testBit_div_two_pow]
    congr 1
    omega

/-- four bits at a time -/
theorem four_bits (n : Nat) : many 4 n = n / 16 ^^^ many 4 (n % 16) := by
  have h := many_even 4 (n % 2 ^ 4) (n / 2 ^ 4)
  rw [← split_at 4 n] at h
  rw [h, Nat.xor_comm]

theorem byte_fours (n b : Nat) : many 4 (many 4 (n ^^^ b)) = byte n b := by rw [byte, ← many_add]

/-- the bits of what comes in, one by one -/
theorem bit_in (r b k : Nat) : many k (r ^^^ b) ^^^ b / 2 ^ k = many k (r ^^^ b) ^^^ b / 2 ^ k := rfl

def bitIn (r b : Nat) : Nat := if (b % 2 ^^^ r % 2) = 1 then r / 2 ^^^ poly else r / 2

theorem mod_two_xor (a b : Nat) : (a ^^^ b) % 2 = (a % 2) ^^^ (b % 2) := Nat.xor_mod_two_pow (n := 1)

theorem one_step (r b : Nat) : one (r ^^^ b) = bitIn r b ^^^ b / 2 := by
  unfold one bitIn
  rw [mod_two_xor, Nat.xor_div_two, Nat.xor_comm (r % 2)]
  split
  · rw [Nat.xor_assoc, Nat.xor_assoc, Nat.xor_comm (b / 2)]
  · rfl

/-- k bits of b are taken in, the lowest first -/
def steps : Nat → Nat → Nat → Nat
  | 0, r, _ => r
  | k + 1, r, b => bitIn (steps k r b) (b / 2 ^ k)

theorem many_steps (k r b : Nat) : many k (r ^^^ b) = steps k r b ^^^ b / 2 ^ k := by
  induction k with
  | zero => rw [Nat.pow_zero, Nat.div_one]; rfl
  | succ k ih => rw [many, ih, one_step, steps, Nat.div_div_eq_div_mul, Nat.pow_succ]

theorem steps_byte (r b : Nat) (h : b < 256) : steps 8 r b = byte r b := by
  have := many_steps 8 r b
  rw [Nat.div_eq_of_lt (show b < 2 ^ 8 from h), Nat.xor_zero] at this
  rw [byte, this]

theorem bitIn_lt {r : Nat} (b : Nat) (h : r < 4294967296) : bitIn r b < 4294967296 := by
  unfold bitIn
  split
  · exact xor_lt (by omega) (by decide)
  · omega
theorem steps_lt {k r : Nat} (b : Nat) (h : r < 4294967296) : steps k r b < 4294967296 := by
  induction k with
  | zero => exact h
  | succ k ih => exact bitIn_lt _ ih

/-- a bit that goes loses nothing -/
theorem one_inj {a b : Nat} (ha : a < 4294967296) (hb : b < 4294967296) (h : one a = one b) : a = b := by
  have key : ∀ x y : Nat, x < 2147483648 → y < 2147483648 → x ^^^ poly ≠ y := by
    intro x y hx hy e
    have h1 : x ^^^ y = poly := by rw [← e, ← Nat.xor_assoc, Nat.xor_self, Nat.zero_xor]
    have h2 : x ^^^ y < 2 ^ 31 := Nat.xor_lt_two_pow hx hy
    rw [h1] at h2
    exact absurd h2 (by decide)
  unfold one at h
  split at h <;> split at h
  · have : a / 2 = b / 2 := xor_right_cancel h
    omega
  · exact absurd h (key _ _ (by omega) (by omega))
  · exact absurd h.symm (key _ _ (by omega) (by omega))
  · omega

theorem many_inj {k a b : Nat} (ha : a < 4294967296) (hb : b < 4294967296) (h : many k a = many k b) : a = b := by
  induction k with
  | zero => exact h
  | succ k ih => exact ih (one_inj (many_lt ha) (many_lt hb) h)

theorem byte_inj {a b x : Nat} (ha : a < 4294967296) (hb : b < 4294967296) (hx : x < 256) (h : byte a x = byte b x) : a = b :=
  xor_right_cancel (many_inj (xor_lt ha (by omega)) (xor_lt hb (by omega)) h)

theorem over_inj {a b : Nat} (bs : List UInt8) (ha : a < 4294967296) (hb : b < 4294967296) (h : over a bs = over b bs) : a = b := by
  induction bs generalizing a b with
  | nil => exact h
  | cons x r ih => exact byte_inj ha hb x.toNat_lt (ih (byte_lt ha x.toNat_lt) (byte_lt hb x.toNat_lt) h)

theorem sum_lt (bs : List UInt8) : sum bs < 4294967296 := by unfold sum; omega

theorem sum_eq {a b : List UInt8} (h : sum a = sum b) : over 4294967295 a = over 4294967295 b := by
  unfold sum at h
  have h1 := over_lt a (n := 4294967295) (by omega)
  have h2 := over_lt b (n := 4294967295) (by omega)
  omega

/-- with the same behind both -/
theorem sum_joins (a b m : List UInt8) : sum (a ++ m) = sum (b ++ m) ↔ sum a = sum b := by
  constructor
  · intro h
    have h1 := sum_eq h
    rw [over_append, over_append] at h1
    have := over_inj m (over_lt a (by omega)) (over_lt b (by omega)) h1
    unfold sum
    rw [this]
  · intro h
    unfold sum
    rw [over_append, over_append, sum_eq h]

/-- four bytes at once -/
theorem four_bytes (n w : Nat) (h : w < 4294967296) : byte (byte (byte (byte n (w % 256)) (w / 256 % 256)) (w / 65536 % 256)) (w / 16777216 % 256) = many 32 (n ^^^ w) := by
  have e : ∀ n w : Nat, many 8 (n ^^^ w) = byte n (w % 256) ^^^ w / 256 := by
    intro n w
    have h1 := many_even 8 (n ^^^ w % 2 ^ 8) (w / 2 ^ 8)
    rw [Nat.xor_assoc, ← split_at 8 w] at h1
    exact h1
  have h2 : w / 256 / 256 = w / 65536 := by omega
  have h3 : w / 65536 / 256 = w / 16777216 := by omega
  have h4 : w / 16777216 % 256 = w / 16777216 := by omega
  rw [show (32 : Nat) = 8 + (8 + (8 + 8)) from rfl, many_add, many_add, many_add, e, e, h2, e, h3, h4]
  rfl

theorem turned {n x y : Nat} (hn : n < 4294967296) (hx : x < 4294967296) (hy : y < 4294967296)
    (h : byte (byte (byte (byte n (x % 256)) (x / 256 % 256)) (x / 65536 % 256)) (x / 16777216 % 256) = byte (byte (byte (byte n (y % 256)) (y / 256 % 256)) (y / 65536 % 256)) (y / 16777216 % 256)) : x = y := by
  rw [four_bytes n x hx, four_bytes n y hy] at h
  exact xor_left_cancel (many_inj (xor_lt hn hx) (xor_lt hn hy) h)

theorem take_snoc {α : Type} (bs : List α) (k : Nat) (x : α) (h : bs[k]? = some x) : bs.take (k + 1) = bs.take k ++ [x] := by
  obtain ⟨hk, rfl⟩ := List.getElem?_eq_some_iff.1 h
  rw [List.take_succ_eq_append_getElem hk]

/-- bytes of which those from k on are turned by the bytes of a number, j of them so far -/
def turn (xs : List UInt8) (k w : Nat) : Nat → List UInt8
  | 0 => xs
  | j + 1 => (turn xs k w j).set (k + j) (UInt8.ofNat ((xs.getD (k + j) 0).toNat ^^^ (w / 256 ^ j % 256)))

theorem turn_length (xs : List UInt8) (k w j : Nat) : (turn xs k w j).length = xs.length := by
  induction j with
  | zero => rfl
  | succ j ih => simp [turn, ih]

theorem turn_ahead (xs : List UInt8) (k w j i : Nat) (h : i < k ∨ k + j ≤ i) : (turn xs k w j)[i]? = xs[i]? := by
  induction j with
  | zero => rfl
  | succ j ih => rw [turn, List.getElem?_set_ne (by omega), ih (by omega)]

theorem cut4 (xs : List UInt8) (k : Nat) (h : k + 4 ≤ xs.length) : ∃ p a b c d r, xs = p ++ a :: b :: c :: d :: r ∧ p.length = k := by
  refine ⟨xs.take k, xs[k], xs[k + 1], xs[k + 2], xs[k + 3], xs.drop (k + 4), ?_, by rw [List.length_take]; omega⟩
  rw [← List.drop_eq_getElem_cons, ← List.drop_eq_getElem_cons, ← List.drop_eq_getElem_cons, ← List.drop_eq_getElem_cons, List.take_append_drop]

theorem turn4 (p r : List UInt8) (a b c d : UInt8) (w : Nat) : turn (p ++ a :: b :: c :: d :: r) p.length w 4 =
    p ++ UInt8.ofNat (a.toNat ^^^ w % 256) :: UInt8.ofNat (b.toNat ^^^ w / 256 % 256) :: UInt8.ofNat (c.toNat ^^^ w / 65536 % 256) :: UInt8.ofNat (d.toNat ^^^ w / 16777216 % 256) :: r := by
  simp [turn, List.set_append_right]

theorem word_bytes (a b c d : Nat) (ha : a < 256) (hb : b < 256) (hc : c < 256) (hd : d < 256) :
    (a + 256 * b + 65536 * c + 16777216 * d) % 256 = a ∧ (a + 256 * b + 65536 * c + 16777216 * d) / 256 % 256 = b ∧ (a + 256 * b + 65536 * c + 16777216 * d) / 65536 % 256 = c ∧ (a + 256 * b + 65536 * c + 16777216 * d) / 16777216 % 256 = d ∧ a + 256 * b + 65536 * c + 16777216 * d < 4294967296 := by omega

theorem xor_bytes (x w : Nat) : (x ^^^ w) % 256 = x % 256 ^^^ w % 256 ∧ (x ^^^ w) / 256 % 256 = x / 256 % 256 ^^^ w / 256 % 256 ∧ (x ^^^ w) / 65536 % 256 = x / 65536 % 256 ^^^ w / 65536 % 256 ∧ (x ^^^ w) / 16777216 % 256 = x / 16777216 % 256 ^^^ w / 16777216 % 256 := by
  have hm : ∀ a b : Nat, (a ^^^ b) % 256 = a % 256 ^^^ b % 256 := fun a b => Nat.xor_mod_two_pow (n := 8)
  have hd : ∀ n : Nat, (x ^^^ w) / 2 ^ n = x / 2 ^ n ^^^ w / 2 ^ n := fun n => by
    rw [← Nat.shiftRight_eq_div_pow, ← Nat.shiftRight_eq_div_pow, ← Nat.shiftRight_eq_div_pow, Nat.shiftRight_xor_distrib]
  have h1 := hd 8
  have h2 := hd 16
  have h3 := hd 24
  simp only [Nat.reducePow] at h1 h2 h3
  refine ⟨hm _ _, ?_, ?_, ?_⟩
  · rw [h1, hm]
  · rw [h2, hm]
  · rw [h3, hm]

theorem over_cut (n : Nat) (p r : List UInt8) (a b c d : UInt8) : over n (p ++ a :: b :: c :: d :: r) = over (byte (byte (byte (byte (over n p) a.toNat) b.toNat) c.toNat) d.toNat) r := by
  rw [over_append]; rfl

theorem ofNat_toNat (n : Nat) (h : n < 256) : (UInt8.ofNat n).toNat = n := by
  simp [UInt8.toNat_ofNat']; omega

/-- turned within four bytes, the sum is another -/
theorem sum_turned (xs : List UInt8) (k w : Nat) (hk : k + 4 ≤ xs.length) (hw : w < 4294967296) (h0 : w ≠ 0) : sum (turn xs k w 4) ≠ sum xs := by
  intro e
  obtain ⟨p, a, b, c, d, r, rfl, rfl⟩ := cut4 xs k hk
  have h := sum_eq e
  have hp := over_lt (n := 4294967295) p (by omega)
  have ha := a.toNat_lt
  have hb := b.toNat_lt
  have hc := c.toNat_lt
  have hd := d.toNat_lt
  obtain ⟨y1, y2, y3, y4, y5⟩ := word_bytes a.toNat b.toNat c.toNat d.toNat ha hb hc hd
  have hx := xor_lt y5 hw
  obtain ⟨z1, z2, z3, z4⟩ := xor_bytes (a.toNat + 256 * b.toNat + 65536 * c.toNat + 16777216 * d.toNat) w
  rw [turn4, over_cut, over_cut] at h
  have hxor : ∀ u v : Nat, u < 256 → u ^^^ v % 256 < 256 := fun u v hu => Nat.xor_lt_two_pow (n := 8) hu (Nat.mod_lt _ (by omega))
  rw [ofNat_toNat _ (hxor _ _ ha), ofNat_toNat _ (hxor _ _ hb), ofNat_toNat _ (hxor _ _ hc), ofNat_toNat _ (hxor _ _ hd)] at h
  rw [y1] at z1
  rw [y2] at z2
  rw [y3] at z3
  rw [y4] at z4
  have h2 := over_inj r (byte_lt (byte_lt (byte_lt (byte_lt hp (hxor _ _ ha)) (hxor _ _ hb)) (hxor _ _ hc)) (hxor _ _ hd)) (byte_lt (byte_lt (byte_lt (byte_lt hp ha) hb) hc) hd) h
  rw [← z1, ← z2, ← z3, ← z4] at h2
  generalize hq : a.toNat + 256 * b.toNat + 65536 * c.toNat + 16777216 * d.toNat = q at *
  rw [← y1, ← y2, ← y3, ← y4] at h2
  have h3 := turned hp hx y5 h2
  have h4 : q ^^^ w = q ^^^ 0 := by rw [h3, Nat.xor_zero]
  exact h0 (xor_left_cancel h4)

end Go.Proofs.Ytcfijppfccfbdaa.crcnum
