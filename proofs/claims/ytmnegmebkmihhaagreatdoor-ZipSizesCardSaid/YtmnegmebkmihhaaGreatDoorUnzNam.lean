import Derived.Test.YtmnegmebkmihhaaGreatDoorMgMth
import Derived.Test.YtmnegmebkmihhaaGreatDoorMgRef
/-
  Names, as the program and the reference decode and allow them, by one model. My own text.
-/
namespace Go.Proofs.YtmnegmebkmihhaaGreatDoor.unzp
open Go.RowKit Go.Proofs.YtmnegmebkmihhaaGreatDoor.base Go.Proofs.YtmnegmebkmihhaaGreatDoor.nam Go.Proofs.YtmnegmebkmihhaaGreatDoor.namp Go.Proofs.YtmnegmebkmihhaaGreatDoor.recn Go.Proofs.YtmnegmebkmihhaaGreatDoor.unz
set_option linter.unusedVariables false
theorem mayP_is (rs : List Nat) (u : List UInt8) (h : ∀ r ∈ rs, Rn r) (hu : u = [] ∨ Bad u) : mayP rs u = mayL (tx rs ++ u) := by
  unfold mayP mayL
  rcases hu with rfl | hu
  · rw [List.append_nil, valid_good rs h, tx_ok rs h, Bool.true_and]
    simp
  · rw [valid_bad rs u h hu, decide_eq_false hu.1]
    simp
def decV (r : Option (List UInt8)) : Value := match r with
  | none => .tuple #[.string ⟨#[]⟩, .bool false]
  | some L => .tuple #[.string ⟨L.toArray⟩, .bool true]
theorem decV_is (told : Bool) (bs : List UInt8) : decP told bs = decV (decL told bs) := by
  unfold decP decL
  cases told with
  | false => rfl
  | true =>
    rw [if_pos rfl, if_pos rfl]
    split <;> rfl
theorem dec_any (A : Option Addr) (n c : Nat) (bs : List UInt8) (told : Bool) (w : World) (B : Nat) (hr : Rd w B A n (bs.map bv)) (hB : B ≤ w.heap.size) (hn : n ≤ 4294967296) (hU : Laid w) (r : Option (List UInt8)) (hres : decL told bs = r) :
    Calls Tryz.prog 71 #[.slice A n c, .bool told] w fun e w' => e = .returned (decV r) ∧ Fresh w w' := by
  subst hres
  have h := decode_any A n c bs told w B hr hB hn hU
  rwa [decV_is] at h
theorem refDec_any (A : Option Addr) (n c : Nat) (bs : List UInt8) (told : Bool) (w : World) (B : Nat) (hr : Rd w B A n (bs.map bv)) (hB : B ≤ w.heap.size) (hn : n ≤ 4294967296) (hc : n ≤ c) (hcm : c ≤ maxLen) (r : Option (List UInt8)) (hres : decL told bs = r) :
    Calls Tryz.prog 80 #[.slice A n c, .bool told] w (NameIs (r.getD []) r.isSome w) := by
  subst hres
  cases told with
  | false => exact refDecode_page A n c bs w B hr hB hn
  | true =>
    obtain ⟨rs, u, hrn, ht, hu⟩ := read_or bs
    have hd := refDecode_told A n c bs rs u ht hrn hu w B hr hB hn hc hcm
    unfold decL
    rw [if_pos rfl]
    rcases hu with hu | hu
    · have hv : Lib.validD bs = true := by rw [ht, hu, List.append_nil]; exact valid_good rs hrn
      rw [if_pos hu, decide_eq_true hu] at hd
      rw [if_pos hv]
      exact hd
    · have hv : Lib.validD bs = false := by rw [ht]; exact valid_bad rs u hrn hu
      rw [if_neg hu.1, decide_eq_false hu.1] at hd
      rw [if_neg (by rw [hv]; simp)]
      exact hd
theorem may_of (L : List UInt8) (w : World) (hl : L.length ≤ 4294967296) (hU : Laid w) (b : Bool) (hb : mayL L = b) :
    Calls Tryz.prog 26 #[.string ⟨L.toArray⟩] w fun e w' => e = .returned (.bool b) ∧ Fresh w w' := by
  subst hb
  obtain ⟨rs, u, hrn, ht, hu⟩ := read_or L
  have h := may_any ⟨L.toArray⟩ rs u (by rw [← ht]) hrn hu w hl hU
  rw [mayP_is rs u hrn hu, ← ht] at h
  exact h
theorem refMay_of (A : Option Addr) (n c : Nat) (L : List UInt8) (w : World) (B : Nat) (hr : Rd w B A n (L.map bv)) (hB : B ≤ w.heap.size) (hn : n ≤ 4294967296) (hc : n ≤ c) (hcm : c ≤ maxLen) (b : Bool) (hb : mayL L = b) :
    Calls Tryz.prog 29 #[.slice A n c] w fun e w' => e = .returned (.bool b) ∧ Fresh w w' := by
  subst hb
  obtain ⟨rs, u, hrn, ht, hu⟩ := read_or L
  have h := refMay_any A n c L rs u ht hrn hu w B hr hB hn hc hcm
  rw [mayP_is rs u hrn hu, ← ht] at h
  exact h
end Go.Proofs.YtmnegmebkmihhaaGreatDoor.unzp
