/-
  Heads and tails of archives: numbers within bytes, items, what is wide: plain mathematics. My own text.
-/
import Derived.Test.YtmnejphdjnlbjaaGreatDoorNum
namespace Go.Proofs.YtmnejphdjnlbjaaGreatDoor.recn
open Go.Proofs.YtmnejphdjnlbjaaGreatDoor.num
set_option linter.unusedVariables false

/-- the number of k bytes from p on -/
def nm (xs : List UInt8) (p k : Nat) : Nat := num ((xs.drop p).take k)
theorem nm_lt (xs : List UInt8) (p k : Nat) : nm xs p k < 256 ^ k := by
  have h := num_lt ((xs.drop p).take k)
  have hl : ((xs.drop p).take k).length ≤ k := List.length_take_le _ _
  exact Nat.lt_of_lt_of_le h (Nat.pow_le_pow_right (by omega) hl)
theorem nm2 (xs : List UInt8) (p : Nat) : nm xs p 2 ≤ 65535 := by have := nm_lt xs p 2; omega
theorem nm4 (xs : List UInt8) (p : Nat) : nm xs p 4 ≤ 4294967295 := by have := nm_lt xs p 4; omega
theorem nm_drop (xs : List UInt8) (a p k : Nat) : nm (xs.drop a) p k = nm xs (a + p) k := by
  unfold nm; rw [List.drop_drop]
theorem nm_take (xs : List UInt8) {m p k : Nat} (h : p + k ≤ m) : nm (xs.take m) p k = nm xs p k := by
  unfold nm; rw [List.drop_take, List.take_take, Nat.min_eq_left (by omega)]
/-- eight bytes as two numbers of four -/
theorem nm8 (xs : List UInt8) (p : Nat) (h : p + 8 ≤ xs.length) : nm xs p 8 = nm xs p 4 + 4294967296 * nm xs (p + 4) 4 := by
  unfold nm
  have e : (xs.drop p).take 8 = (xs.drop p).take 4 ++ (xs.drop (p + 4)).take 4 := by
    rw [← List.drop_drop, show (8 : Nat) = 4 + 4 from rfl, List.take_add]
  rw [e, num_append, List.length_take, List.length_drop, Nat.min_eq_left (by omega)]
/-- eight bytes, of which the two last ones are zero or not -/
theorem nm86 (xs : List UInt8) (p : Nat) (h : p + 8 ≤ xs.length) : nm xs p 8 = nm xs p 6 + 281474976710656 * nm xs (p + 6) 2 := by
  unfold nm
  have e : (xs.drop p).take 8 = (xs.drop p).take 6 ++ (xs.drop (p + 6)).take 2 := by
    rw [← List.drop_drop, show (8 : Nat) = 6 + 2 from rfl, List.take_add]
  rw [e, num_append, List.length_take, List.length_drop, Nat.min_eq_left (by omega)]
/-- do four bytes stand there? -/
def sg (xs : List UInt8) (p : Nat) (c d : UInt8) : Bool := (xs.drop p).take 4 == [80, 75, c, d]

/-- an int of 64 bits -/
def sg64 (u : Nat) : Int := if u < 9223372036854775808 then u else (u : Int) - 18446744073709551616
theorem sg64_bd (u : Nat) (h : u < 18446744073709551616) : -9223372036854775808 ≤ sg64 u ∧ sg64 u ≤ 9223372036854775807 := by
  unfold sg64; split <;> omega
theorem sg64_fits (u : Nat) (h : u < 18446744073709551616) : (0 ≤ sg64 u ∧ sg64 u < 281474976710656) ↔ u < 281474976710656 := by
  unfold sg64; split <;> omega
theorem sg64_small (u : Nat) (h : u < 281474976710656) : sg64 u = u := by unfold sg64; rw [if_pos (by omega)]
theorem sg64_big (u : Nat) (h1 : ¬ u < 281474976710656) (h : u < 18446744073709551616) : sg64 u < 0 ∨ 281474976710656 ≤ sg64 u := by
  unfold sg64; split <;> omega

/-- what is beside: the item 1; f is what was found, if is -/
def items (x : List UInt8) (is : Bool) (f : List UInt8) : Option (List UInt8) :=
  if h : x.length = 0 then some f
  else if x.length < 4 then none
  else if x.length < 4 + nm x 2 2 then none
  else items (x.drop (4 + nm x 2 2)) (is || nm x 0 2 == 1) (if nm x 0 2 == 1 && !is then (x.drop 4).take (nm x 2 2) else f)
termination_by x.length
decreasing_by simp only [List.length_drop]; omega
theorem items_nil (is : Bool) (f : List UInt8) : items [] is f = some f := by unfold items; simp
theorem items_short (x : List UInt8) (is : Bool) (f : List UInt8) (h0 : 0 < x.length) (h : x.length < 4) : items x is f = none := by
  unfold items; rw [dif_neg (by omega), if_pos h]
theorem items_end (x : List UInt8) (is : Bool) (f : List UInt8) (h0 : 4 ≤ x.length) (h : x.length < 4 + nm x 2 2) : items x is f = none := by
  unfold items; rw [dif_neg (by omega), if_neg (by omega), if_pos h]
theorem items_step (x : List UInt8) (is : Bool) (f : List UInt8) (h : 4 + nm x 2 2 ≤ x.length) :
    items x is f = items (x.drop (4 + nm x 2 2)) (is || nm x 0 2 == 1) (if nm x 0 2 == 1 && !is then (x.drop 4).take (nm x 2 2) else f) := by
  rw [items, dif_neg (by omega), if_neg (by omega), if_neg (by omega)]

/-- the numbers that are all ones stand in t -/
def wd : List Nat → List UInt8 → Option (List Nat)
  | [], _ => some []
  | n :: r, t => if n = 4294967295 then (if t.length < 8 then none else if 281474976710656 ≤ nm t 0 8 then none else (wd r (t.drop 8)).map (nm t 0 8 :: ·)) else (wd r t).map (n :: ·)
theorem wd_one (r : List Nat) (t : List UInt8) (h : t.length < 8) : wd (4294967295 :: r) t = none := by simp [wd, h]
/-- all of it: the numbers, if what is beside is formed so -/
def widn (x : List UInt8) (l : List Nat) : Option (List Nat) := (items x false []).bind (wd l)

/-- a head -/
structure Hd where
  fl : Nat
  me : Nat
  dt : Nat
  cr : Nat
  cs : Nat
  si : Nat
  at_ : Nat
  nm : List UInt8
  wd : Bool
def isOnes (n : Nat) : Bool := n == 4294967295
/-- the local head at p, and where it ends -/
def loc (xs : List UInt8) (p : Int) : Except Nat (Hd × Nat) :=
  if p < 0 then .error 1 else
  let p := p.toNat
  if xs.length < p + 4 then .error 3 else
  if sg xs p 3 4 = false then .error 4 else
  if xs.length < p + 30 then .error 3 else
  let n := nm xs (p + 26) 2
  let k := nm xs (p + 28) 2
  if xs.length < p + 30 + n + k then .error 3 else
  let c := nm xs (p + 18) 4
  let s := nm xs (p + 22) 4
  match widn ((xs.drop (p + 30 + n)).take k) [s, c] with
  | some [s', c'] => .ok (⟨nm xs (p + 6) 2, nm xs (p + 8) 2, nm xs (p + 10) 4, nm xs (p + 14) 4, c', s', p, (xs.drop (p + 30)).take n, isOnes s || isOnes c⟩, p + 30 + n + k)
  | _ => .error 4
/-- the central head at p, and where it ends -/
def cen (xs : List UInt8) (p : Int) : Except Nat (Hd × Nat) :=
  if p < 0 then .error 1 else
  let p := p.toNat
  if xs.length < p + 4 then .error 3 else
  if sg xs p 1 2 = false then .error 4 else
  if xs.length < p + 46 then .error 3 else
  let n := nm xs (p + 28) 2
  let k := nm xs (p + 30) 2
  let m := nm xs (p + 32) 2
  if xs.length < p + 46 + n + k + m then .error 3 else
  let c := nm xs (p + 20) 4
  let s := nm xs (p + 24) 4
  let a := nm xs (p + 42) 4
  match widn ((xs.drop (p + 46 + n)).take k) [s, c, a] with
  | some [s', c', a'] => .ok (⟨nm xs (p + 8) 2, nm xs (p + 10) 2, nm xs (p + 12) 4, nm xs (p + 16) 4, c', s', a', (xs.drop (p + 46)).take n, isOnes s || isOnes c || isOnes a⟩, p + 46 + n + k + m)
  | _ => .error 4
theorem wd_len : ∀ (l : List Nat) (t : List UInt8) (r : List Nat), wd l t = some r → r.length = l.length
  | [], t, r, h => by simp [wd] at h; simp [h]
  | n :: l, t, r, h => by
    rw [wd] at h
    split at h
    · split at h
      · cases h
      · split at h
        · cases h
        · obtain ⟨q, hq, rfl⟩ := Option.map_eq_some_iff.1 h
          simp [wd_len l _ q hq]
    · obtain ⟨q, hq, rfl⟩ := Option.map_eq_some_iff.1 h
      simp [wd_len l _ q hq]

/-! tails -/
structure Tl where
  many : Nat
  long : Nat
  at_ : Nat
  wd : Bool
/-- does a tail lie at p, that ends where all ends? -/
def ends (xs : List UInt8) (p : Nat) : Bool := sg xs p 5 6 && decide (p + 22 + nm xs (p + 20) 2 = xs.length)
/-- the last place at which there is a tail, among those below k of the lowest 'lo' -/
def lastAt (xs : List UInt8) (lo : Nat) : Nat → Option Nat
  | 0 => none
  | k + 1 => if k < lo then none else if ends xs k then some k else lastAt xs lo k
/-- the tail that is told wide, ahead of p -/
def wideTl (xs : List UInt8) (p : Nat) : Option Tl :=
  if p < 20 then none else
  if sg xs (p - 20) 6 7 = false then none else
  let q := nm xs (p - 12) 8
  if xs.length < q + 56 then none else
  if sg xs q 6 6 = false then none else
  if nm xs (q + 32) 8 < 281474976710656 ∧ nm xs (q + 40) 8 < 281474976710656 ∧ nm xs (q + 48) 8 < 281474976710656 then some ⟨nm xs (q + 32) 8, nm xs (q + 40) 8, nm xs (q + 48) 8, true⟩ else none
/-- the tail -/
def find (xs : List UInt8) : Option Tl :=
  match lastAt xs (xs.length - 65557) (xs.length - 21) with
  | none => none
  | some p =>
    if nm xs (p + 10) 2 = 65535 ∨ nm xs (p + 12) 4 = 4294967295 ∨ nm xs (p + 16) 4 = 4294967295 then wideTl xs p
    else some ⟨nm xs (p + 10) 2, nm xs (p + 12) 4, nm xs (p + 16) 4, false⟩
end Go.Proofs.YtmnejphdjnlbjaaGreatDoor.recn
