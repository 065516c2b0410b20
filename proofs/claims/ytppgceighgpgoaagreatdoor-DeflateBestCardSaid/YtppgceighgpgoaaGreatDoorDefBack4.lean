import Derived.Test.YtppgceighgpgoaaGreatDoorMgBk1
import Derived.Test.YtppgceighgpgoaaGreatDoorMgDfC
/-
  The steps of bytes may be where they stand; parts that tell lengths bring just these; numbers one behind the other. Plain mathematics, over no program. My own text.
-/
namespace Go.Proofs.YtppgceighgpgoaaGreatDoor.defp
open Go.Proofs.YtppgceighgpgoaaGreatDoor.num Go.Proofs.YtppgceighgpgoaaGreatDoor.bitnum Go.Proofs.YtppgceighgpgoaaGreatDoor.huffnum Go.Proofs.YtppgceighgpgoaaGreatDoor.infnum
set_option linter.unusedVariables false
theorem Fits.snoc : ∀ (l : List (Nat × Nat)) (o : List UInt8) (s : Nat × Nat), Fits o l → May (l.foldl played o).length s → Fits o (l ++ [s])
  | [], o, s, _, h => ⟨h, trivial⟩
  | a :: r, o, s, h, hs => ⟨h.1, Fits.snoc r (played o a) s h.2 hs⟩
/-- the steps of bytes may be where they stand -/
theorem St.fits {b : List UInt8} {i : Nat} {l : List (Nat × Nat)} (h : St b i l) : Fits [] l := by
  induction h with
  | nil => trivial
  | @lit i l h hi hf ih => exact Fits.snoc l [] _ ih (.inl ⟨rfl, UInt8.toNat_lt _⟩)
  | @copy i L K l h hi hf hL ih =>
    have hb := hf.bound hL
    refine Fits.snoc l [] _ ih (.inr ⟨hb.1, hb.2.1, hb.2.2.2.1, hb.2.2.2.2.1, ?_⟩)
    have hp := h.play
    show K ≤ (Go.Proofs.YtppgceighgpgoaaGreatDoor.defp.play l).length
    rw [hp.1, List.length_take]
    omega
/-- numbers of so many bits: the two ways to say them -/
theorem cat_is : ∀ (l : List (Nat × Nat)) (p q : Nat), l.foldl (fun a x => (a.1 + x.1, a.2 + 2 ^ a.1 * x.2)) (p, q) = (p + (bits_ l).1, q + 2 ^ p * (bits_ l).2)
  | [], p, q => by simp [bits_]
  | x :: r, p, q => by
    rw [List.foldl_cons, cat_is r]
    simp only [bits_, Nat.pow_add, Nat.mul_add, Nat.mul_assoc, Nat.add_assoc]
theorem cat_bits (l : List (Nat × Nat)) : l.foldl (fun a x => (a.1 + x.1, a.2 + 2 ^ a.1 * x.2)) (0, 0) = bits_ l := by
  rw [cat_is]
  simp
theorem rp_snoc {l m a : List Nat} {ps qs : List (Nat × Nat × Nat)} (h : Rp l ps m) (k : Rp m qs a) : Rp l (ps ++ qs) a := by
  induction h with
  | nil l => exact k
  | lit hk h ih => exact .lit hk (ih k)
  | last hl ht h ih => exact .last hl ht (ih k)
  | few ht h ih => exact .few ht (ih k)
  | many ht h ih => exact .many ht (ih k)
theorem take_rep {ls : List Nat} {i v : Nat} : ∀ n, i + n ≤ ls.length → (∀ j, j < n → ls.getD (i + j) 0 = v) → ls.take (i + n) = ls.take i ++ List.replicate n v
  | 0, _, _ => by simp
  | n + 1, h, hv => by
    have hx : ls[i + n]? = some v := by
      have := hv n (by omega)
      rw [List.getD_eq_getElem?_getD, List.getElem?_eq_getElem (by omega)] at this
      rw [List.getElem?_eq_getElem (by omega)]
      exact congrArg some this
    rw [← Nat.add_assoc, take_one_more ls (i + n) v hx, take_rep n (by omega) fun j hj => hv j (by omega), List.replicate_succ', List.append_assoc]
/-- parts bring the lengths that they tell -/
theorem Pa.rp {ls : List Nat} (h15 : ∀ x ∈ ls, x ≤ 15) {i : Nat} {ps : List Pt} (h : Pa ls i ps) : Rp [] ps (ls.take i) := by
  induction h with
  | nil => exact .nil []
  | @one i ps h hi ih =>
    have hx : ls[i]? = some (ls.getD i 0) := by rw [List.getD_eq_getElem?_getD, List.getElem?_eq_getElem hi]; rfl
    rw [take_one_more ls i _ hx]
    exact rp_snoc ih (.lit (by have := h15 _ (List.mem_of_getElem? hx); omega) (.nil _))
  | @rep i q ps h h0 hq hl hv ih =>
    rw [take_rep (v := ls.getD (i - 1) 0) (q + 3) hl hv, Nat.add_comm q 3]
    refine rp_snoc ih (.last ?_ hq (.nil _))
    have hle := h.le.1
    rw [List.getLast?_eq_getElem?, List.length_take, Nat.min_eq_left hle, List.getElem?_take, if_pos (by omega), List.getD_eq_getElem?_getD, List.getElem?_eq_getElem (by omega)]
    rfl
  | @few i q ps h hq hl hv ih =>
    rw [take_rep (v := 0) (q + 3) hl hv, Nat.add_comm q 3]
    exact rp_snoc ih (.few hq (.nil _))
  | @many i q ps h hq hl hv ih =>
    rw [take_rep (v := 0) (q + 11) hl hv, Nat.add_comm q 11]
    exact rp_snoc ih (.many hq (.nil _))
end Go.Proofs.YtppgceighgpgoaaGreatDoor.defp
