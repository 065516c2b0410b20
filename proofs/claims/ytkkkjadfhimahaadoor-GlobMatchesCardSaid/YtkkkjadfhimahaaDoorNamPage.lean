/-
  Layer 9: byPage, right, Decode. My own text.
-/
import Derived.Test.YtkkkjadfhimahaaDoorNamLeaf
import Derived.Test.YtkkkjadfhimahaaDoorNamVal
namespace Go.Proofs.YtkkkjadfhimahaaDoor.namp
open Go.RowKit Go.Proofs.YtkkkjadfhimahaaDoor.base Go.Proofs.YtkkkjadfhimahaaDoor.nam
set_option linter.unusedVariables false

/-- the runes of bytes by the code page -/
abbrev pgs (l : List UInt8) : List Nat := l.map fun b => pageR b.toNat
theorem pgs_rn (l : List UInt8) : ∀ r ∈ pgs l, Rn r := by
  intro r hr
  obtain ⟨b, _, rfl⟩ := List.mem_map.1 hr
  exact Or.inl (pageR_rn ⟨b.toNat, b.toNat_lt⟩)
theorem tx_len (rs : List Nat) : (tx rs).length ≤ 4 * rs.length := by
  induction rs with
  | nil => simp
  | cons r rs ih => rw [tx_cons, List.length_append, List.length_cons, en_len]; have := wid_bd r; omega
theorem take_snoc {α : Type} (l : List α) (k : Nat) (x : α) (h : l[k]? = some x) : l.take (k + 1) = l.take k ++ [x] := by
  rw [List.take_add_one, h]; rfl

end Go.Proofs.YtkkkjadfhimahaaDoor.namp
