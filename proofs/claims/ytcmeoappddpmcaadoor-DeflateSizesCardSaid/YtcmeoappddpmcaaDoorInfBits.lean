/-
  An unpacker's input as bits: the contracts of spread, takeTimes, takeByte, takeLength. My own text.
-/
import Derived.Test.YtcmeoappddpmcaaDoorInfAt
namespace Go.Proofs.YtcmeoappddpmcaaDoor.infp
open Go.RowKit Go.Proofs.YtcmeoappddpmcaaDoor.base Go.Proofs.YtcmeoappddpmcaaDoor.num Go.Proofs.YtcmeoappddpmcaaDoor.bitnum Go.Proofs.YtcmeoappddpmcaaDoor.bitp Go.Proofs.YtcmeoappddpmcaaDoor.huffnum Go.Proofs.YtcmeoappddpmcaaDoor.huffp Go.Proofs.YtcmeoappddpmcaaDoor.infnum
set_option linter.unusedVariables false

section
variable {w w' w'' : World} {g q p p' : Nat} {v v' v'' : V} {bs : List UInt8} {rl : List Nat}
theorem turn_cons {S S' : List Nat} {w w' : World} (h : Turn S S' w w') (g : Nat) : Turn (g :: S) (g :: S') w w' where
  os := h.os
  tape := h.tape
  output := h.output
  size := h.size
  block k hk hS := h.block k hk fun hx => hS (List.mem_cons_of_mem _ hx)
  sub k hk := by
    rcases List.mem_cons.1 hk with rfl | hk
    · exact .inl (by simp)
    · exact (h.sub k hk).imp (List.mem_cons_of_mem _) id
end

theorem take_err {n U T p e : Nat} (h : take n U T p = .error e) : e = 3 := by
  unfold take at h
  split at h
  · cases h
  · injection h with h; exact h.symm
theorem take_lt {n U T p v p' : Nat} (h : take n U T p = .ok (v, p')) : v < 2 ^ n ∧ p' = p + n ∧ p' ≤ T := by
  unfold take at h
  split at h
  · injection h with h
    injection h with h1 h2
    subst h1; subst h2
    exact ⟨Nat.mod_lt _ (Nat.pow_pos (by omega)), rfl, by assumption⟩
  · cases h

section
variable {w : World} {g q p : Nat} {v : V} {bs : List UInt8} {rl : List Nat}
/-- how a stored block begins -/
def lenP : Part Nat := also align fun _ => also (take 16) fun n => also (take 16) fun t => if n + t = 65535 then give n else fail 12
theorem xor_all {a b : Nat} (ha : a < 65536) (hb : b < 65536) : a ^^^ b = 65535 ↔ a + b = 65535 := by
  have h : a ^^^ (65535 - a) = 65535 := by
    apply Nat.eq_of_testBit_eq
    intro i
    rw [Nat.testBit_xor, show 65535 - a = 2 ^ 16 - (a + 1) by omega, Nat.testBit_two_pow_sub_succ (by omega), show 65535 = 2 ^ 16 - 1 by rfl, Nat.testBit_two_pow_sub_one]
    by_cases hi : i < 16
    · simp [hi]
    · have : a.testBit i = false := Nat.testBit_lt_two_pow (Nat.lt_of_lt_of_le ha (Nat.pow_le_pow_right (n := 2) (i := 16) (by omega) (by omega)))
      simp [hi, this]
  constructor
  · intro h2
    have h3 : a ^^^ (a ^^^ b) = a ^^^ (a ^^^ (65535 - a)) := by rw [h2, h]
    rw [← Nat.xor_assoc, ← Nat.xor_assoc, Nat.xor_self, Nat.zero_xor, Nat.zero_xor] at h3
    omega
  · intro h2
    rw [show b = 65535 - a by omega, h]
theorem xor_nat (a b : Nat) (ha : a < 65536) (hb : b < 65536) : bits .xor .i64 (a : Int) (b : Int) = ((a ^^^ b : Nat) : Int) := by
  have h3 : a ^^^ b < 65536 := Nat.xor_lt_two_pow (n := 16) ha hb
  show IntKind.i64.wrap ((BitVec.ofInt 64 (a : Int) ^^^ BitVec.ofInt 64 (b : Int)).toNat : Int) = _
  rw [BitVec.toNat_xor, ofInt_64 a (by omega), ofInt_64 b (by omega), IntKind.wrap_i64]
  omega
end
end Go.Proofs.YtcmeoappddpmcaaDoor.infp
