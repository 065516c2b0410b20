import Derived.WalkKit
/- Several of my own texts, one behind the other. -/
/-
  Numbers as bytes, the lowest first: plain mathematics, over no program. My own text.
-/
namespace Go.Proofs.YtmnegmebkmihhaaGreatDoor.num

/-- the number of some bytes -/
def num : List UInt8 → Nat
  | [] => 0
  | b :: r => b.toNat + 256 * num r

/-- the k lowest bytes of a number -/
def low : Nat → Nat → List UInt8
  | 0, _ => []
  | k + 1, u => UInt8.ofNat (u % 256) :: low k (u / 256)

/-- an int as it stands in 64 bits -/
def u64 (z : Int) : Nat := (z % 18446744073709551616).toNat

theorem low_length (k u : Nat) : (low k u).length = k := by
  induction k generalizing u with
  | zero => rfl
  | succ k ih => simp [low, ih]

theorem num_append (a b : List UInt8) : num (a ++ b) = num a + 256 ^ a.length * num b := by
  induction a with
  | nil => simp [num]
  | cons x r ih =>
    simp only [List.cons_append, num, ih, List.length_cons, Nat.pow_succ]
    rw [Nat.mul_add, Nat.add_assoc, ← Nat.mul_assoc, Nat.mul_comm 256 (256 ^ r.length)]

theorem num_lt (a : List UInt8) : num a < 256 ^ a.length := by
  induction a with
  | nil => simp [num]
  | cons x r ih =>
    have hx := x.toNat_lt
    simp only [num, List.length_cons, Nat.pow_succ]
    omega

theorem ofNat_toNat (n : Nat) (h : n < 256) : (UInt8.ofNat n).toNat = n := by
  simp [UInt8.toNat_ofNat']; omega

theorem num_low (k u : Nat) : num (low k u) = u % 256 ^ k := by
  induction k generalizing u with
  | zero => simp [low, num, Nat.mod_one]
  | succ k ih =>
    simp only [low, num, ih]
    rw [ofNat_toNat _ (Nat.mod_lt _ (by omega)), Nat.pow_succ, Nat.mul_comm (256 ^ k) 256, Nat.mod_mul]

theorem low_succ (k u : Nat) : low (k + 1) u = low k u ++ [UInt8.ofNat (u / 256 ^ k % 256)] := by
  induction k generalizing u with
  | zero => simp [low]
  | succ k ih =>
    rw [low, ih, low, List.cons_append, Nat.div_div_eq_div_mul, Nat.pow_succ, Nat.mul_comm 256]

theorem num_drop (bs : List UInt8) (k : Nat) (x : UInt8) (h : bs[k]? = some x) : num (bs.drop k) = 256 * num (bs.drop (k + 1)) + x.toNat := by
  obtain ⟨hk, rfl⟩ := List.getElem?_eq_some_iff.1 h
  rw [List.drop_eq_getElem_cons hk, num]
  omega

theorem take_snoc {α : Type} (bs : List α) (k : Nat) (x : α) (h : bs[k]? = some x) : bs.take (k + 1) = bs.take k ++ [x] := by
  obtain ⟨hk, rfl⟩ := List.getElem?_eq_some_iff.1 h
  rw [List.take_succ_eq_append_getElem hk]

theorem num_take (bs : List UInt8) (k : Nat) (x : UInt8) (h : bs[k]? = some x) : num (bs.take (k + 1)) = num (bs.take k) + 256 ^ k * x.toNat := by
  have hl : (bs.take k).length = k := by
    obtain ⟨hk, rfl⟩ := List.getElem?_eq_some_iff.1 h
    rw [List.length_take]; omega
  rw [take_snoc _ _ _ h, num_append, hl]
  simp [num]

theorem pow7 {k : Nat} (h : k ≤ 7) : 256 ^ k ≤ 72057594037927936 := by
  have := Nat.pow_le_pow_right (n := 256) (by omega) h
  simpa using this

theorem num_lt7 (a : List UInt8) (h : a.length ≤ 7) : num a < 72057594037927936 := Nat.lt_of_lt_of_le (num_lt a) (pow7 h)

theorem u64_lt (z : Int) : u64 z < 18446744073709551616 := by unfold u64; omega
theorem u64_nonneg (z : Int) (h : 0 ≤ z) (h2 : z ≤ 9223372036854775807) : (u64 z : Int) = z := by unfold u64; omega

theorem pow256 (k : Nat) : (2 : Nat) ^ (8 * k) = 256 ^ k := by rw [Nat.pow_mul]
theorem pow256i (k : Nat) : (2 : Int) ^ (8 * k) = ((256 ^ k : Nat) : Int) := by rw [← pow256]; simp

theorem ofInt_64 (a : Nat) (ha : a < 9223372036854775808) : (BitVec.ofInt 64 (a : Int)).toNat = a := by
  rw [BitVec.ofInt_natCast, BitVec.toNat_ofNat]; exact Nat.mod_eq_of_lt (by omega)

theorem or_nat (a b : Nat) (ha : a < 9223372036854775808) (hb : b < 9223372036854775808) : bits .or .i64 (a : Int) (b : Int) = ((a ||| b : Nat) : Int) := by
  have hx : a ||| b < 2 ^ 63 := Nat.or_lt_two_pow (by omega) (by omega)
  show IntKind.i64.wrap ((BitVec.ofInt 64 (a : Int) ||| BitVec.ofInt 64 (b : Int)).toNat : Int) = _
  rw [BitVec.toNat_or, ofInt_64 a ha, ofInt_64 b hb, IntKind.wrap_i64]
  omega

theorem or_high (a k x : Nat) (ha : a < 256 ^ k) (hk : k ≤ 6) (hx : x < 256) :
    bits .or .i64 (a : Int) (RowKit.wrap64 ((x : Int) * 2 ^ (8 * k))) = ((a + 256 ^ k * x : Nat) : Int) := by
  have h6 : 256 ^ k ≤ 281474976710656 := by
    have := Nat.pow_le_pow_right (n := 256) (by omega) hk
    simpa using this
  have h7 : 256 ^ k * x ≤ 281474976710656 * 255 := Nat.mul_le_mul h6 (by omega)
  have e : (x : Int) * 2 ^ (8 * k) = ((256 ^ k * x : Nat) : Int) := by rw [pow256i, Nat.mul_comm]; simp
  rw [e, IntWalk.wrap64_in _ ⟨by omega, by omega⟩, or_nat _ _ (by omega) (by omega)]
  have h := Nat.shiftLeft_add_eq_or_of_lt (i := 8 * k) (b := a) (by rw [pow256]; exact ha) x
  rw [Nat.shiftLeft_eq, pow256, Nat.mul_comm x] at h
  rw [Nat.or_comm, ← h, Nat.add_comm]

theorem wrap_u64 (z : Int) : IntKind.u64.wrap z = (u64 z : Int) := by
  have : IntKind.u64.wrap z = z % 18446744073709551616 := by simp [IntKind.wrap, IntKind.signed, IntKind.bits]
  rw [this]; unfold u64; omega

theorem fits_test (z : Int) (k : Nat) (hz : -9223372036854775808 ≤ z ∧ z ≤ 9223372036854775807) (hk : 1 ≤ k ∧ k ≤ 7) : (IntKind.u64.wrap z / 2 ^ (8 * k) != 0) = !decide (0 ≤ z ∧ z < 256 ^ k) := by
  have hp : (256 : Nat) ^ k ≤ 72057594037927936 := pow7 hk.2
  have h0 : 0 < (256 : Nat) ^ k := Nat.pow_pos (by omega)
  have e : (256 : Int) ^ k = ((256 ^ k : Nat) : Int) := by simp
  rw [wrap_u64, pow256i, e, ← Int.natCast_ediv]
  generalize (256 : Nat) ^ k = p at *
  by_cases h : 0 ≤ z ∧ z < (p : Int)
  · have h1 : u64 z < p := by unfold u64; omega
    have h2 : u64 z / p = 0 := Nat.div_eq_of_lt h1
    simp [h, h2]
  · have h1 : p ≤ u64 z := by unfold u64; omega
    have h2 : 0 < u64 z / p := Nat.div_pos h1 h0
    have h3 : ((u64 z / p : Nat) : Int) ≠ 0 := by omega
    have h4 : (((u64 z / p : Nat) : Int) != 0) = true := by rw [bne_iff_ne]; exact h3
    rw [h4]
    simp [h]

/-- 'byte(n >> (8 * i))' -/
theorem byte_shr (z : Int) (k : Nat) (hk : k ≤ 6) : z / 2 ^ (8 * k) % 256 = ((UInt8.ofNat (u64 z / 256 ^ k % 256)).toNat : Int) := by
  have h6 : k = 0 ∨ k = 1 ∨ k = 2 ∨ k = 3 ∨ k = 4 ∨ k = 5 ∨ k = 6 := by omega
  rw [ofNat_toNat _ (Nat.mod_lt _ (by omega)), u64]
  rcases h6 with rfl | rfl | rfl | rfl | rfl | rfl | rfl <;> simp <;> omega

end Go.Proofs.YtmnegmebkmihhaaGreatDoor.num
/-
  Heads and tails of archives: numbers within bytes, items, what is wide: plain mathematics. My own text.
-/
namespace Go.Proofs.YtmnegmebkmihhaaGreatDoor.recn
open Go.Proofs.YtmnegmebkmihhaaGreatDoor.num
set_option linter.unusedVariables false

/-- the number of k bytes from p on -/
def nm (xs : List UInt8) (p k : Nat) : Nat := num ((xs.drop p).take k)
theorem nm_lt (xs : List UInt8) (p k : Nat) : nm xs p k < 256 ^ k := by
  have h := num_lt ((xs.drop p).take k)
  have hl : ((xs.drop p).take k).length ≤ k := List.length_take_le _ _
  exact Nat.lt_of_lt_of_le h (Nat.pow_le_pow_right (by omega) hl)
theorem nm2 (xs : List UInt8) (p : Nat) : nm xs p 2 ≤ 65535 := by have := nm_lt xs p 2; omega
theorem nm4 (xs : List UInt8) (p : Nat) : nm xs p 4 ≤ 4294967295 := by have := nm_lt xs p 4; omega
theorem nm_drop (xs : List UInt8) (a p k : Nat) : nm (xs.drop a) p k = nm xs (a + p) k := by
  unfold nm; rw [List.drop_drop]
theorem nm_take (xs : List UInt8) {m p k : Nat} (h : p + k ≤ m) : nm (xs.take m) p k = nm xs p k := by
  unfold nm; rw [List.drop_take, List.take_take, Nat.min_eq_left (by omega)]
/-- eight bytes as two numbers of four -/
theorem nm8 (xs : List UInt8) (p : Nat) (h : p + 8 ≤ xs.length) : nm xs p 8 = nm xs p 4 + 4294967296 * nm xs (p + 4) 4 := by
  unfold nm
  have e : (xs.drop p).take 8 = (xs.drop p).take 4 ++ (xs.drop (p + 4)).take 4 := by
    rw [← List.drop_drop, show (8 : Nat) = 4 + 4 from rfl, List.take_add]
  rw [e, num_append, List.length_take, List.length_drop, Nat.min_eq_left (by omega)]
/-- eight bytes, of which the two last ones are zero or not -/
theorem nm86 (xs : List UInt8) (p : Nat) (h : p + 8 ≤ xs.length) : nm xs p 8 = nm xs p 6 + 281474976710656 * nm xs (p + 6) 2 := by
  unfold nm
  have e : (xs.drop p).take 8 = (xs.drop p).take 6 ++ (xs.drop (p + 6)).take 2 := by
    rw [← List.drop_drop, show (8 : Nat) = 6 + 2 from rfl, List.take_add]
  rw [e, num_append, List.length_take, List.length_drop, Nat.min_eq_left (by omega)]
/-- do four bytes stand there? -/
def sg (xs : List UInt8) (p : Nat) (c d : UInt8) : Bool := (xs.drop p).take 4 == [80, 75, c, d]

/-- an int of 64 bits -/
def sg64 (u : Nat) : Int := if u < 9223372036854775808 then u else (u : Int) - 18446744073709551616
theorem sg64_bd (u : Nat) (h : u < 18446744073709551616) : -9223372036854775808 ≤ sg64 u ∧ sg64 u ≤ 9223372036854775807 := by
  unfold sg64; split <;> omega
theorem sg64_fits (u : Nat) (h : u < 18446744073709551616) : (0 ≤ sg64 u ∧ sg64 u < 281474976710656) ↔ u < 281474976710656 := by
  unfold sg64; split <;> omega
theorem sg64_small (u : Nat) (h : u < 281474976710656) : sg64 u = u := by unfold sg64; rw [if_pos (by omega)]
theorem sg64_big (u : Nat) (h1 : ¬ u < 281474976710656) (h : u < 18446744073709551616) : sg64 u < 0 ∨ 281474976710656 ≤ sg64 u := by
  unfold sg64; split <;> omega

/-- what is beside: the item 1; f is what was found, if is -/
def items (x : List UInt8) (is : Bool) (f : List UInt8) : Option (List UInt8) :=
  if h : x.length = 0 then some f
  else if x.length < 4 then none
  else if x.length < 4 + nm x 2 2 then none
  else items (x.drop (4 + nm x 2 2)) (is || nm x 0 2 == 1) (if nm x 0 2 == 1 && !is then (x.drop 4).take (nm x 2 2) else f)
termination_by x.length
decreasing_by simp only [List.length_drop]; omega
theorem items_nil (is : Bool) (f : List UInt8) : items [] is f = some f := by unfold items; simp
theorem items_short (x : List UInt8) (is : Bool) (f : List UInt8) (h0 : 0 < x.length) (h : x.length < 4) : items x is f = none := by
  unfold items; rw [dif_neg (by omega), if_pos h]
theorem items_end (x : List UInt8) (is : Bool) (f : List UInt8) (h0 : 4 ≤ x.length) (h : x.length < 4 + nm x 2 2) : items x is f = none := by
  unfold items; rw [dif_neg (by omega), if_neg (by omega), if_pos h]
theorem items_step (x : List UInt8) (is : Bool) (f : List UInt8) (h : 4 + nm x 2 2 ≤ x.length) :
    items x is f = items (x.drop (4 + nm x 2 2)) (is || nm x 0 2 == 1) (if nm x 0 2 == 1 && !is then (x.drop 4).take (nm x 2 2) else f) := by
  rw [items, dif_neg (by omega), if_neg (by omega), if_neg (by omega)]

/-- the numbers that are all ones stand in t -/
def wd : List Nat → List UInt8 → Option (List Nat)
  | [], _ => some []
  | n :: r, t => if n = 4294967295 then (if t.length < 8 then none else if 281474976710656 ≤ nm t 0 8 then none else (wd r (t.drop 8)).map (nm t 0 8 :: ·)) else (wd r t).map (n :: ·)
theorem wd_one (r : List Nat) (t : List UInt8) (h : t.length < 8) : wd (4294967295 :: r) t = none := by simp [wd, h]
/-- all of it: the numbers, if what is beside is formed so -/
def widn (x : List UInt8) (l : List Nat) : Option (List Nat) := (items x false []).bind (wd l)

/-- a head -/
structure Hd where
  fl : Nat
  me : Nat
  dt : Nat
  cr : Nat
  cs : Nat
  si : Nat
  at_ : Nat
  nm : List UInt8
  wd : Bool
def isOnes (n : Nat) : Bool := n == 4294967295
/-- the local head at p, and where it ends -/
def loc (xs : List UInt8) (p : Int) : Except Nat (Hd × Nat) :=
  if p < 0 then .error 1 else
  let p := p.toNat
  if xs.length < p + 4 then .error 3 else
  if sg xs p 3 4 = false then .error 4 else
  if xs.length < p + 30 then .error 3 else
  let n := nm xs (p + 26) 2
  let k := nm xs (p + 28) 2
  if xs.length < p + 30 + n + k then .error 3 else
  let c := nm xs (p + 18) 4
  let s := nm xs (p + 22) 4
  match widn ((xs.drop (p + 30 + n)).take k) [s, c] with
  | some [s', c'] => .ok (⟨nm xs (p + 6) 2, nm xs (p + 8) 2, nm xs (p + 10) 4, nm xs (p + 14) 4, c', s', p, (xs.drop (p + 30)).take n, isOnes s || isOnes c⟩, p + 30 + n + k)
  | _ => .error 4
/-- the central head at p, and where it ends -/
def cen (xs : List UInt8) (p : Int) : Except Nat (Hd × Nat) :=
  if p < 0 then .error 1 else
  let p := p.toNat
  if xs.length < p + 4 then .error 3 else
  if sg xs p 1 2 = false then .error 4 else
  if xs.length < p + 46 then .error 3 else
  let n := nm xs (p + 28) 2
  let k := nm xs (p + 30) 2
  let m := nm xs (p + 32) 2
  if xs.length < p + 46 + n + k + m then .error 3 else
  let c := nm xs (p + 20) 4
  let s := nm xs (p + 24) 4
  let a := nm xs (p + 42) 4
  match widn ((xs.drop (p + 46 + n)).take k) [s, c, a] with
  | some [s', c', a'] => .ok (⟨nm xs (p + 8) 2, nm xs (p + 10) 2, nm xs (p + 12) 4, nm xs (p + 16) 4, c', s', a', (xs.drop (p + 46)).take n, isOnes s || isOnes c || isOnes a⟩, p + 46 + n + k + m)
  | _ => .error 4
theorem wd_len : ∀ (l : List Nat) (t : List UInt8) (r : List Nat), wd l t = some r → r.length = l.length
  | [], t, r, h => by simp [wd] at h; simp [h]
  | n :: l, t, r, h => by
    rw [wd] at h
    split at h
    · split at h
      · cases h
      · split at h
        · cases h
        · obtain ⟨q, hq, rfl⟩ := Option.map_eq_some_iff.1 h
          simp [wd_len l _ q hq]
    · obtain ⟨q, hq, rfl⟩ := Option.map_eq_some_iff.1 h
      simp [wd_len l _ q hq]

/-! tails -/
structure Tl where
  many : Nat
  long : Nat
  at_ : Nat
  wd : Bool
/-- does a tail lie at p, that ends where all ends? -/
def ends (xs : List UInt8) (p : Nat) : Bool := sg xs p 5 6 && decide (p + 22 + nm xs (p + 20) 2 = xs.length)
/-- the last place at which there is a tail, among those below k of the lowest 'lo' -/
def lastAt (xs : List UInt8) (lo : Nat) : Nat → Option Nat
  | 0 => none
  | k + 1 => if k < lo then none else if ends xs k then some k else lastAt xs lo k
/-- the tail that is told wide, ahead of p -/
def wideTl (xs : List UInt8) (p : Nat) : Option Tl :=
  if p < 20 then none else
  if sg xs (p - 20) 6 7 = false then none else
  let q := nm xs (p - 12) 8
  if xs.length < q + 56 then none else
  if sg xs q 6 6 = false then none else
  if nm xs (q + 32) 8 < 281474976710656 ∧ nm xs (q + 40) 8 < 281474976710656 ∧ nm xs (q + 48) 8 < 281474976710656 then some ⟨nm xs (q + 32) 8, nm xs (q + 40) 8, nm xs (q + 48) 8, true⟩ else none
/-- the tail -/
def find (xs : List UInt8) : Option Tl :=
  match lastAt xs (xs.length - 65557) (xs.length - 21) with
  | none => none
  | some p =>
    if nm xs (p + 10) 2 = 65535 ∨ nm xs (p + 12) 4 = 4294967295 ∨ nm xs (p + 16) 4 = 4294967295 then wideTl xs p
    else some ⟨nm xs (p + 10) 2, nm xs (p + 12) 4, nm xs (p + 16) 4, false⟩
end Go.Proofs.YtmnegmebkmihhaaGreatDoor.recn
/-
  Heads, what is behind data, tails: as the bytes that they are put as: plain mathematics. My own text.
-/
namespace Go.Proofs.YtmnegmebkmihhaaGreatDoor.recn
open Go.Proofs.YtmnegmebkmihhaaGreatDoor.num
set_option linter.unusedVariables false

/-- a number where there is no room for a wide one -/
def nar (wd : Bool) (k n : Nat) : List UInt8 := if wd then List.replicate k 255 else low k n
def ver (wd : Bool) : Nat := if wd then 45 else 20
def besN (wd : Bool) (k : Nat) : Nat := if wd then 4 + 8 * k else 0
/-- what is beside -/
def bes (wd : Bool) (l : List Nat) : List UInt8 := if wd then low 2 1 ++ low 2 (8 * l.length) ++ l.flatMap (low 8) else []
/-- what both heads have -/
def shd (h : Hd) (k : Nat) : List UInt8 := low 2 h.fl ++ low 2 h.me ++ low 4 h.dt ++ low 4 h.cr ++ nar h.wd 4 h.cs ++ nar h.wd 4 h.si ++ low 2 h.nm.length ++ low 2 k
def des (h : Hd) : Bool := h.fl / 8 % 2 == 1
def told (h : Hd) : Hd := if des h then { h with cr := 0, cs := 0, si := 0 } else h
def locB (h : Hd) : List UInt8 := [80, 75, 3, 4] ++ low 2 (ver h.wd) ++ shd (told h) (besN h.wd 2) ++ h.nm ++ bes h.wd [(told h).si, (told h).cs]
def cenB (h : Hd) : List UInt8 := [80, 75, 1, 2] ++ low 2 (ver h.wd) ++ low 2 (ver h.wd) ++ shd h (besN h.wd 3) ++ low 2 0 ++ low 2 0 ++ low 2 0 ++ low 4 0 ++ nar h.wd 4 h.at_ ++ h.nm ++ bes h.wd [h.si, h.cs, h.at_]
def behB (h : Hd) : List UInt8 := if des h then [80, 75, 7, 8] ++ low 4 h.cr ++ (if h.wd then low 8 h.cs ++ low 8 h.si else low 4 h.cs ++ low 4 h.si) else []
def endP (t : Tl) : List UInt8 := [80, 75, 5, 6] ++ low 2 0 ++ low 2 0 ++ nar t.wd 2 t.many ++ nar t.wd 2 t.many ++ nar t.wd 4 t.long ++ nar t.wd 4 t.at_ ++ low 2 0
def endW (t : Tl) (q : Nat) : List UInt8 := [80, 75, 6, 6] ++ low 8 44 ++ low 2 45 ++ low 2 45 ++ low 4 0 ++ low 4 0 ++ low 8 t.many ++ low 8 t.many ++ low 8 t.long ++ low 8 t.at_ ++ ([80, 75, 6, 7] ++ low 4 0 ++ low 8 q ++ low 4 1)
def endB (t : Tl) (q : Nat) : List UInt8 := if t.wd then endW t q ++ endP t else endP t

/-- may a head be? -/
structure Rgt (h : Hd) : Prop where
  fl : h.fl < 65536
  me : h.me < 65536
  nm : h.nm.length < 65536
  dt : h.dt < 4294967296
  cr : h.cr < 4294967296
  cs : h.cs < if h.wd then 281474976710656 else 4294967295
  si : h.si < if h.wd then 281474976710656 else 4294967295
  at_ : h.at_ < if h.wd then 281474976710656 else 4294967295

theorem nar_len (wd : Bool) (k n : Nat) : (nar wd k n).length = k := by
  unfold nar
  split
  · rw [List.length_replicate]
  · rw [low_length]
theorem shd_len (h : Hd) (k : Nat) : (shd h k).length = 24 := by
  unfold shd
  simp only [List.length_append, low_length, nar_len]
theorem told_nm (h : Hd) : (told h).nm = h.nm := by unfold told; split <;> rfl
theorem told_wd (h : Hd) : (told h).wd = h.wd := by unfold told; split <;> rfl
theorem told_no {h : Hd} (hd : des h = false) : told h = h := by unfold told; rw [hd]; rfl
theorem locB_len {h : Hd} (hw : h.wd = false) : (locB h).length = 30 + h.nm.length := by
  unfold locB bes
  simp only [List.length_append, low_length, shd_len, hw, List.length_cons, List.length_nil]
  simp
theorem cenB_len {h : Hd} (hw : h.wd = false) : (cenB h).length = 46 + h.nm.length := by
  unfold cenB bes
  simp only [List.length_append, low_length, shd_len, nar_len, hw, List.length_cons, List.length_nil]
  simp
theorem behB_no {h : Hd} (hd : des h = false) : behB h = [] := by unfold behB; rw [hd]; rfl
theorem endB_no {t : Tl} (q : Nat) (hw : t.wd = false) : endB t q = endP t := by unfold endB; rw [hw]; rfl
theorem endP_len (t : Tl) : (endP t).length = 22 := by
  unfold endP
  simp only [List.length_append, low_length, nar_len, List.length_cons, List.length_nil]
end Go.Proofs.YtmnegmebkmihhaaGreatDoor.recn
/-
  Sums of 32 bits, bit by bit: plain mathematics on numbers, over no program. My own text.
-/
namespace Go.Proofs.YtmnegmebkmihhaaGreatDoor.crcnum

/-- what is added for a bit that goes -/
def poly : Nat := 3988292384

/-- one bit goes -/
def one (n : Nat) : Nat := if n % 2 = 1 then n / 2 ^^^ poly else n / 2

/-- k bits go -/
def many : Nat → Nat → Nat
  | 0, n => n
  | k + 1, n => one (many k n)

/-- a byte is taken in -/
def byte (n b : Nat) : Nat := many 8 (n ^^^ b)

/-- bytes are taken in -/
def over (n : Nat) (bs : List UInt8) : Nat := bs.foldl (fun n b => byte n b.toNat) n

/-- the sum -/
def sum (bs : List UInt8) : Nat := 4294967295 - over 4294967295 bs

theorem many_add (j k n : Nat) : many (j + k) n = many j (many k n) := by
  induction j with
  | zero => rw [Nat.zero_add]; rfl
  | succ j ih => rw [Nat.succ_add, many, ih, many]

theorem xor_left_cancel {a b c : Nat} (h : c ^^^ a = c ^^^ b) : a = b := by
  have := congrArg (c ^^^ ·) h
  simpa [← Nat.xor_assoc] using this
theorem xor_right_cancel {a b c : Nat} (h : a ^^^ c = b ^^^ c) : a = b := by
  rw [Nat.xor_comm a, Nat.xor_comm b] at h
  exact xor_left_cancel h
theorem xor_lt {a b : Nat} (ha : a < 4294967296) (hb : b < 4294967296) : a ^^^ b < 4294967296 := Nat.xor_lt_two_pow (n := 32) ha hb

theorem one_lt {n : Nat} (h : n < 4294967296) : one n < 4294967296 := by
  unfold one
  split
  · exact xor_lt (by omega) (by decide)
  · omega

theorem many_lt {k n : Nat} (h : n < 4294967296) : many k n < 4294967296 := by
  induction k with
  | zero => exact h
  | succ k ih => exact one_lt ih

theorem byte_lt {n b : Nat} (h : n < 4294967296) (hb : b < 256) : byte n b < 4294967296 := many_lt (xor_lt h (by omega))

theorem over_lt {n : Nat} (bs : List UInt8) (h : n < 4294967296) : over n bs < 4294967296 := by
  induction bs generalizing n with
  | nil => exact h
  | cons b r ih => exact ih (byte_lt h b.toNat_lt)

theorem over_append (n : Nat) (a b : List UInt8) : over n (a ++ b) = over (over n a) b := by simp [over, List.foldl_append]
theorem over_snoc (n : Nat) (a : List UInt8) (b : UInt8) : over n (a ++ [b]) = byte (over n a) b.toNat := by simp [over, List.foldl_append]

/-- an even part stands aside -/
theorem one_even (a m : Nat) : one (a ^^^ 2 * m) = one a ^^^ m := by
  have h1 : (a ^^^ 2 * m) % 2 = a % 2 := by
    have := Nat.xor_mod_two_eq_one (a := a) (b := 2 * m)
    by_cases h : a % 2 = 1
    · have : (a ^^^ 2 * m) % 2 = 1 := by rw [this, h]; simp
      omega
    · have : ¬ (a ^^^ 2 * m) % 2 = 1 := by rw [this]; simp [h]
      omega
  have h2 : (a ^^^ 2 * m) / 2 = a / 2 ^^^ m := by
    rw [Nat.xor_div_two]
    congr 1
    omega
  unfold one
  rw [h1, h2]
  split
  · rw [Nat.xor_assoc, Nat.xor_assoc, Nat.xor_comm m]
  · rfl

theorem many_even (k a m : Nat) : many k (a ^^^ 2 ^ k * m) = many k a ^^^ m := by
  induction k generalizing m with
  | zero => rw [Nat.pow_zero, Nat.one_mul]; rfl
  | succ k ih =>
    rw [many, Nat.pow_succ, Nat.mul_assoc, ih, one_even]
    rfl

theorem split_at (k n : Nat) : n = n % 2 ^ k ^^^ 2 ^ k * (n / 2 ^ k) := by
  have h := Nat.shiftLeft_add_eq_or_of_lt (i := k) (b := n % 2 ^ k) (Nat.mod_lt _ (Nat.pow_pos (by omega))) (n / 2 ^ k)
  have h3 : n % 2 ^ k &&& 2 ^ k * (n / 2 ^ k) = 0 := by
    apply Nat.eq_of_testBit_eq
    intro i
    rw [Nat.testBit_and, Nat.testBit_mod_two_pow, Nat.testBit_two_pow_mul, Nat.zero_testBit]
    by_cases hi : i < k
    · simp [hi, Nat.not_le.2 hi]
    · simp [hi]
  apply Nat.eq_of_testBit_eq
  intro i
  rw [Nat.testBit_xor, Nat.testBit_mod_two_pow, Nat.testBit_two_pow_mul]
  by_cases hi : i < k
  · simp [hi, Nat.not_le.2 hi]
  · have : k ≤ i := by omega
    simp only [hi, decide_false, Bool.false_and, Bool.false_xor, this, decide_true, Bool.true_and, Nat.testBit_div_two_pow]
    congr 1
    omega

/-- four bits at a time -/
theorem four_bits (n : Nat) : many 4 n = n / 16 ^^^ many 4 (n % 16) := by
  have h := many_even 4 (n % 2 ^ 4) (n / 2 ^ 4)
  rw [← split_at 4 n] at h
  rw [h, Nat.xor_comm]

theorem byte_fours (n b : Nat) : many 4 (many 4 (n ^^^ b)) = byte n b := by rw [byte, ← many_add]

/-- the bits of what comes in, one by one -/
theorem bit_in (r b k : Nat) : many k (r ^^^ b) ^^^ b / 2 ^ k = many k (r ^^^ b) ^^^ b / 2 ^ k := rfl

def bitIn (r b : Nat) : Nat := if (b % 2 ^^^ r % 2) = 1 then r / 2 ^^^ poly else r / 2

theorem mod_two_xor (a b : Nat) : (a ^^^ b) % 2 = (a % 2) ^^^ (b % 2) := Nat.xor_mod_two_pow (n := 1)

theorem one_step (r b : Nat) : one (r ^^^ b) = bitIn r b ^^^ b / 2 := by
  unfold one bitIn
  rw [mod_two_xor, Nat.xor_div_two, Nat.xor_comm (r % 2)]
  split
  · rw [Nat.xor_assoc, Nat.xor_assoc, Nat.xor_comm (b / 2)]
  · rfl

/-- k bits of b are taken in, the lowest first -/
def steps : Nat → Nat → Nat → Nat
  | 0, r, _ => r
  | k + 1, r, b => bitIn (steps k r b) (b / 2 ^ k)

theorem many_steps (k r b : Nat) : many k (r ^^^ b) = steps k r b ^^^ b / 2 ^ k := by
  induction k with
  | zero => rw [Nat.pow_zero, Nat.div_one]; rfl
  | succ k ih => rw [many, ih, one_step, steps, Nat.div_div_eq_div_mul, Nat.pow_succ]

theorem steps_byte (r b : Nat) (h : b < 256) : steps 8 r b = byte r b := by
  have := many_steps 8 r b
  rw [Nat.div_eq_of_lt (show b < 2 ^ 8 from h), Nat.xor_zero] at this
  rw [byte, this]

theorem bitIn_lt {r : Nat} (b : Nat) (h : r < 4294967296) : bitIn r b < 4294967296 := by
  unfold bitIn
  split
  · exact xor_lt (by omega) (by decide)
  · omega
theorem steps_lt {k r : Nat} (b : Nat) (h : r < 4294967296) : steps k r b < 4294967296 := by
  induction k with
  | zero => exact h
  | succ k ih => exact bitIn_lt _ ih

/-- a bit that goes loses nothing -/
theorem one_inj {a b : Nat} (ha : a < 4294967296) (hb : b < 4294967296) (h : one a = one b) : a = b := by
  have key : ∀ x y : Nat, x < 2147483648 → y < 2147483648 → x ^^^ poly ≠ y := by
    intro x y hx hy e
    have h1 : x ^^^ y = poly := by rw [← e, ← Nat.xor_assoc, Nat.xor_self, Nat.zero_xor]
    have h2 : x ^^^ y < 2 ^ 31 := Nat.xor_lt_two_pow hx hy
    rw [h1] at h2
    exact absurd h2 (by decide)
  unfold one at h
  split at h <;> split at h
  · have : a / 2 = b / 2 := xor_right_cancel h
    omega
  · exact absurd h (key _ _ (by omega) (by omega))
  · exact absurd h.symm (key _ _ (by omega) (by omega))
  · omega

theorem many_inj {k a b : Nat} (ha : a < 4294967296) (hb : b < 4294967296) (h : many k a = many k b) : a = b := by
  induction k with
  | zero => exact h
  | succ k ih => exact ih (one_inj (many_lt ha) (many_lt hb) h)

theorem byte_inj {a b x : Nat} (ha : a < 4294967296) (hb : b < 4294967296) (hx : x < 256) (h : byte a x = byte b x) : a = b :=
  xor_right_cancel (many_inj (xor_lt ha (by omega)) (xor_lt hb (by omega)) h)

theorem over_inj {a b : Nat} (bs : List UInt8) (ha : a < 4294967296) (hb : b < 4294967296) (h : over a bs = over b bs) : a = b := by
  induction bs generalizing a b with
  | nil => exact h
  | cons x r ih => exact byte_inj ha hb x.toNat_lt (ih (byte_lt ha x.toNat_lt) (byte_lt hb x.toNat_lt) h)

theorem sum_lt (bs : List UInt8) : sum bs < 4294967296 := by unfold sum; omega

theorem sum_eq {a b : List UInt8} (h : sum a = sum b) : over 4294967295 a = over 4294967295 b := by
  unfold sum at h
  have h1 := over_lt a (n := 4294967295) (by omega)
  have h2 := over_lt b (n := 4294967295) (by omega)
  omega

/-- with the same behind both -/
theorem sum_joins (a b m : List UInt8) : sum (a ++ m) = sum (b ++ m) ↔ sum a = sum b := by
  constructor
  · intro h
    have h1 := sum_eq h
    rw [over_append, over_append] at h1
    have := over_inj m (over_lt a (by omega)) (over_lt b (by omega)) h1
    unfold sum
    rw [this]
  · intro h
    unfold sum
    rw [over_append, over_append, sum_eq h]

/-- four bytes at once -/
theorem four_bytes (n w : Nat) (h : w < 4294967296) : byte (byte (byte (byte n (w % 256)) (w / 256 % 256)) (w / 65536 % 256)) (w / 16777216 % 256) = many 32 (n ^^^ w) := by
  have e : ∀ n w : Nat, many 8 (n ^^^ w) = byte n (w % 256) ^^^ w / 256 := by
    intro n w
    have h1 := many_even 8 (n ^^^ w % 2 ^ 8) (w / 2 ^ 8)
    rw [Nat.xor_assoc, ← split_at 8 w] at h1
    exact h1
  have h2 : w / 256 / 256 = w / 65536 := by omega
  have h3 : w / 65536 / 256 = w / 16777216 := by omega
  have h4 : w / 16777216 % 256 = w / 16777216 := by omega
  rw [show (32 : Nat) = 8 + (8 + (8 + 8)) from rfl, many_add, many_add, many_add, e, e, h2, e, h3, h4]
  rfl

theorem turned {n x y : Nat} (hn : n < 4294967296) (hx : x < 4294967296) (hy : y < 4294967296)
    (h : byte (byte (byte (byte n (x % 256)) (x / 256 % 256)) (x / 65536 % 256)) (x / 16777216 % 256) = byte (byte (byte (byte n (y % 256)) (y / 256 % 256)) (y / 65536 % 256)) (y / 16777216 % 256)) : x = y := by
  rw [four_bytes n x hx, four_bytes n y hy] at h
  exact xor_left_cancel (many_inj (xor_lt hn hx) (xor_lt hn hy) h)

theorem take_snoc {α : Type} (bs : List α) (k : Nat) (x : α) (h : bs[k]? = some x) : bs.take (k + 1) = bs.take k ++ [x] := by
  obtain ⟨hk, rfl⟩ := List.getElem?_eq_some_iff.1 h
  rw [List.take_succ_eq_append_getElem hk]

/-- bytes of which those from k on are turned by the bytes of a number, j of them so far -/
def turn (xs : List UInt8) (k w : Nat) : Nat → List UInt8
  | 0 => xs
  | j + 1 => (turn xs k w j).set (k + j) (UInt8.ofNat ((xs.getD (k + j) 0).toNat ^^^ (w / 256 ^ j % 256)))

theorem turn_length (xs : List UInt8) (k w j : Nat) : (turn xs k w j).length = xs.length := by
  induction j with
  | zero => rfl
  | succ j ih => simp [turn, ih]

theorem turn_ahead (xs : List UInt8) (k w j i : Nat) (h : i < k ∨ k + j ≤ i) : (turn xs k w j)[i]? = xs[i]? := by
  induction j with
  | zero => rfl
  | succ j ih => rw [turn, List.getElem?_set_ne (by omega), ih (by omega)]

theorem cut4 (xs : List UInt8) (k : Nat) (h : k + 4 ≤ xs.length) : ∃ p a b c d r, xs = p ++ a :: b :: c :: d :: r ∧ p.length = k := by
  refine ⟨xs.take k, xs[k], xs[k + 1], xs[k + 2], xs[k + 3], xs.drop (k + 4), ?_, by rw [List.length_take]; omega⟩
  rw [← List.drop_eq_getElem_cons, ← List.drop_eq_getElem_cons, ← List.drop_eq_getElem_cons, ← List.drop_eq_getElem_cons, List.take_append_drop]

theorem turn4 (p r : List UInt8) (a b c d : UInt8) (w : Nat) : turn (p ++ a :: b :: c :: d :: r) p.length w 4 =
    p ++ UInt8.ofNat (a.toNat ^^^ w % 256) :: UInt8.ofNat (b.toNat ^^^ w / 256 % 256) :: UInt8.ofNat (c.toNat ^^^ w / 65536 % 256) :: UInt8.ofNat (d.toNat ^^^ w / 16777216 % 256) :: r := by
  simp [turn, List.set_append_right]

theorem word_bytes (a b c d : Nat) (ha : a < 256) (hb : b < 256) (hc : c < 256) (hd : d < 256) :
    (a + 256 * b + 65536 * c + 16777216 * d) % 256 = a ∧ (a + 256 * b + 65536 * c + 16777216 * d) / 256 % 256 = b ∧ (a + 256 * b + 65536 * c + 16777216 * d) / 65536 % 256 = c ∧ (a + 256 * b + 65536 * c + 16777216 * d) / 16777216 % 256 = d ∧ a + 256 * b + 65536 * c + 16777216 * d < 4294967296 := by omega

theorem xor_bytes (x w : Nat) : (x ^^^ w) % 256 = x % 256 ^^^ w % 256 ∧ (x ^^^ w) / 256 % 256 = x / 256 % 256 ^^^ w / 256 % 256 ∧ (x ^^^ w) / 65536 % 256 = x / 65536 % 256 ^^^ w / 65536 % 256 ∧ (x ^^^ w) / 16777216 % 256 = x / 16777216 % 256 ^^^ w / 16777216 % 256 := by
  have hm : ∀ a b : Nat, (a ^^^ b) % 256 = a % 256 ^^^ b % 256 := fun a b => Nat.xor_mod_two_pow (n := 8)
  have hd : ∀ n : Nat, (x ^^^ w) / 2 ^ n = x / 2 ^ n ^^^ w / 2 ^ n := fun n => by
    rw [← Nat.shiftRight_eq_div_pow, ← Nat.shiftRight_eq_div_pow, ← Nat.shiftRight_eq_div_pow, Nat.shiftRight_xor_distrib]
  have h1 := hd 8
  have h2 := hd 16
  have h3 := hd 24
  simp only [Nat.reducePow] at h1 h2 h3
  refine ⟨hm _ _, ?_, ?_, ?_⟩
  · rw [h1, hm]
  · rw [h2, hm]
  · rw [h3, hm]

theorem over_cut (n : Nat) (p r : List UInt8) (a b c d : UInt8) : over n (p ++ a :: b :: c :: d :: r) = over (byte (byte (byte (byte (over n p) a.toNat) b.toNat) c.toNat) d.toNat) r := by
  rw [over_append]; rfl

theorem ofNat_toNat (n : Nat) (h : n < 256) : (UInt8.ofNat n).toNat = n := by
  simp [UInt8.toNat_ofNat']; omega

/-- turned within four bytes, the sum is another -/
theorem sum_turned (xs : List UInt8) (k w : Nat) (hk : k + 4 ≤ xs.length) (hw : w < 4294967296) (h0 : w ≠ 0) : sum (turn xs k w 4) ≠ sum xs := by
  intro e
  obtain ⟨p, a, b, c, d, r, rfl, rfl⟩ := cut4 xs k hk
  have h := sum_eq e
  have hp := over_lt (n := 4294967295) p (by omega)
  have ha := a.toNat_lt
  have hb := b.toNat_lt
  have hc := c.toNat_lt
  have hd := d.toNat_lt
  obtain ⟨y1, y2, y3, y4, y5⟩ := word_bytes a.toNat b.toNat c.toNat d.toNat ha hb hc hd
  have hx := xor_lt y5 hw
  obtain ⟨z1, z2, z3, z4⟩ := xor_bytes (a.toNat + 256 * b.toNat + 65536 * c.toNat + 16777216 * d.toNat) w
  rw [turn4, over_cut, over_cut] at h
  have hxor : ∀ u v : Nat, u < 256 → u ^^^ v % 256 < 256 := fun u v hu => Nat.xor_lt_two_pow (n := 8) hu (Nat.mod_lt _ (by omega))
  rw [ofNat_toNat _ (hxor _ _ ha), ofNat_toNat _ (hxor _ _ hb), ofNat_toNat _ (hxor _ _ hc), ofNat_toNat _ (hxor _ _ hd)] at h
  rw [y1] at z1
  rw [y2] at z2
  rw [y3] at z3
  rw [y4] at z4
  have h2 := over_inj r (byte_lt (byte_lt (byte_lt (byte_lt hp (hxor _ _ ha)) (hxor _ _ hb)) (hxor _ _ hc)) (hxor _ _ hd)) (byte_lt (byte_lt (byte_lt (byte_lt hp ha) hb) hc) hd) h
  rw [← z1, ← z2, ← z3, ← z4] at h2
  generalize hq : a.toNat + 256 * b.toNat + 65536 * c.toNat + 16777216 * d.toNat = q at *
  rw [← y1, ← y2, ← y3, ← y4] at h2
  have h3 := turned hp hx y5 h2
  have h4 : q ^^^ w = q ^^^ 0 := by rw [h3, Nat.xor_zero]
  exact h0 (xor_left_cancel h4)

end Go.Proofs.YtmnegmebkmihhaaGreatDoor.crcnum
