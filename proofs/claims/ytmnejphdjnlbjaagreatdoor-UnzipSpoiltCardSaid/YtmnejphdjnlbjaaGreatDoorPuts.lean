/-
  The contracts of word.Put and ref.Bytes, and of the law's wakes. My own text.
-/
import Derived.Test.YtmnejphdjnlbjaaGreatDoorGets
namespace Go.Proofs.YtmnejphdjnlbjaaGreatDoor.word
open Go.RowKit Go.Proofs.YtmnejphdjnlbjaaGreatDoor.base Go.Proofs.YtmnejphdjnlbjaaGreatDoor.num
set_option linter.unusedVariables false

/-- numbers put, one behind the other -/
def puts (k : Nat) (zs : List Int) : List UInt8 := zs.flatMap fun z => low k (u64 z)

theorem back (z : Int) (k : Nat) (hz : -9223372036854775808 ≤ z ∧ z ≤ 9223372036854775807) (hk : k ≤ 7) : (((u64 z % 256 ^ k : Nat) : Int) == z) = fits k [z] := by
  have hp : (256 : Nat) ^ k ≤ 72057594037927936 := pow7 hk
  have h0 : 0 < (256 : Nat) ^ k := Nat.pow_pos (by omega)
  have e : (256 : Int) ^ k = ((256 ^ k : Nat) : Int) := by simp
  unfold fits
  rw [List.all_cons, List.all_nil, Bool.and_true, e]
  generalize (256 : Nat) ^ k = p at *
  have hm := Nat.mod_lt (u64 z) h0
  by_cases h : 0 ≤ z ∧ z < (p : Int)
  · have h1 : u64 z = z.toNat := by unfold u64; omega
    have h2 : u64 z % p = z.toNat := by rw [h1]; exact Nat.mod_eq_of_lt (by omega)
    rw [h2, decide_eq_true h, beq_iff_eq]
    omega
  · rw [decide_eq_false h, beq_eq_false_iff_ne]
    omega

theorem puts_length (k : Nat) (zs : List Int) : (puts k zs).length = zs.length * k := by
  induction zs with
  | nil => simp [puts]
  | cons z r ih =>
    rw [puts, List.flatMap_cons, List.length_append, low_length, List.length_cons, Nat.succ_mul]
    rw [puts] at ih
    omega
theorem puts_snoc (k : Nat) (zs : List Int) (j : Nat) (z : Int) (h : zs[j]? = some z) : puts k (zs.take j) ++ puts k [z] = puts k (zs.take (j + 1)) := by
  rw [take_snoc _ _ _ h, puts, puts, puts, List.flatMap_append]
theorem puts_get (k : Nat) (zs : List Int) (i : Nat) (z : Int) (h : zs[i]? = some z) : ((puts k zs).drop (i * k)).take k = low k (u64 z) := by
  induction zs generalizing i with
  | nil => simp at h
  | cons y r ih =>
    rw [puts, List.flatMap_cons]
    cases i with
    | zero =>
      simp only [List.getElem?_cons_zero, Option.some.injEq] at h
      subst h
      rw [Nat.zero_mul, List.drop_zero, List.take_append_of_le_length (by rw [low_length]; omega), List.take_of_length_le (by rw [low_length]; omega)]
    | succ i =>
      rw [List.getElem?_cons_succ] at h
      have := ih i h
      rw [puts] at this
      rw [Nat.succ_mul, Nat.add_comm, ← List.drop_drop, List.drop_left' (low_length k _), this]

end Go.Proofs.YtmnejphdjnlbjaaGreatDoor.word
