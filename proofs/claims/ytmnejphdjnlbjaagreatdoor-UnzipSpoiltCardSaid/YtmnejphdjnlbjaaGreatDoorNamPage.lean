/-
  Layer 9: byPage, right, Decode. My own text.
-/
import Derived.Test.YtmnejphdjnlbjaaGreatDoorNamLeaf
import Derived.Test.YtmnejphdjnlbjaaGreatDoorNamVal
namespace Go.Proofs.YtmnejphdjnlbjaaGreatDoor.namp
open Go.RowKit Go.Proofs.YtmnejphdjnlbjaaGreatDoor.base Go.Proofs.YtmnejphdjnlbjaaGreatDoor.nam
set_option linter.unusedVariables false

/-- the runes of bytes by the code page -/
abbrev pgs (l : List UInt8) : List Nat := l.map fun b => pageR b.toNat
theorem pgs_rn (l : List UInt8) : ∀ r ∈ pgs l, Rn r := by
  intro r hr
  obtain ⟨b, _, rfl⟩ := List.mem_map.1 hr
  exact Or.inl (pageR_rn ⟨b.toNat, b.toNat_lt⟩)
theorem tx_len (rs : List Nat) : (tx rs).length ≤ 4 * rs.length := by
  induction rs with
  | nil => simp
  | cons r rs ih => rw [tx_cons, List.length_append, List.length_cons, en_len]; have := wid_bd r; omega
theorem take_snoc {α : Type} (l : List α) (k : Nat) (x : α) (h : l[k]? = some x) : l.take (k + 1) = l.take k ++ [x] := by
  rw [List.take_add_one, h]; rfl

theorem byPage_any (A : Option Addr) (n c : Nat) (bs : List UInt8) (w : World) (B : Nat) (hr : Rd w B A n (bs.map bv)) (hB : B ≤ w.heap.size) (hn : n ≤ 4294967296) (hU : Upper w) :
    Calls Tryz.prog 46 #[.slice A n c] w fun e w' => e = .returned (.string ⟨(tx (pgs bs)).toArray⟩) ∧ Fresh w w' := by
  have hl : bs.length = n := by have := hr.1; rwa [List.length_map] at this
  have HL := Lib.hid hl
  have HU := Lib.hid hU
  have hm := Bld.made w
  have HM := Lib.hid hm
  have hlen : ∀ k, (tx (pgs (bs.take k))).length ≤ 4 * k := fun k => Nat.le_trans (tx_len _) (by rw [List.length_map, List.length_take]; omega)
  have HLEN := Lib.hid hlen
  clear hl hU hm hlen
  go_enter Tryz.func46, Tryz.ntmps46
  go_wp2
  go_loopw [8] (fun i wr => ∃ k : Nat, k ≤ n ∧ i = .int .i64 k ∧ Fresh w wr ∧ Bld wr w.heap.size (tx (pgs (bs.take k)))) (fun i _ => n - (intOf i).toNat)
  case atStart => exact ⟨0, Nat.zero_le _, rfl, Fresh.alloc _ _, HM.out⟩
  case round =>
    obtain ⟨k, hk, rfl, hfr, hbl⟩ := hrel
    by_cases hlt : k < n
    · obtain ⟨b, off, x, rfl, hb, hx, hcx⟩ := (hr.below hfr hB).at_ hlt
      have hs : tx (pgs (bs.take k)) ++ en (pageR x.toNat) = tx (pgs (bs.take (k + 1))) := by
        rw [take_snoc _ _ _ hx]
        simp [tx, pgs]
      have hxb := x.toNat_lt
      have hrn : Rn (pageR x.toNat) := Or.inl (pageR_rn ⟨x.toNat, hxb⟩)
      have hro := fun W h => runeOf_any x W h
      have hU2 := HU.out.fresh hfr
      have HS := Lib.hid hs
      have HRN := Lib.hid hrn
      have HB := Lib.hid hbl
      have HRO := Lib.hid hro
      have HU2 := Lib.hid hU2
      clear hs hrn hbl hx hro hxb hU2
      go_wp2_with (first
        | (go_at_call 59; (refine (HRO.out _ HU2.out).mono ?_); rintro e w1 ⟨rfl, rfl⟩)
        | (go_at_call 58; (refine (writeRune_any _ _ HRN.out _ _ HB.out (by have := HLEN.out k; omega)).mono ?_); rintro e w2 ⟨⟨x2, rfl⟩, hb2, hbl2⟩))
      rw [HS.out] at hb2
      go_roundw
      case rel => exact ⟨k + 1, by omega, by go_num, Below.trans hfr hbl2, hb2⟩
      case measure => simp [intOf]; omega
    · obtain rfl : k = n := by omega
      rw [List.take_of_length_le (Nat.le_of_eq HL.out)] at hbl
      have hi := hfr.size
      have hst := fun W h h2 => Tryz.Builder_String_any w.heap.size w.heap.size (tx (pgs bs)) W h h2
      have HB := Lib.hid hbl.lib
      have HST := Lib.hid hst
      clear hbl hst
      go_wp2_with (go_at_call 60; (refine (HST.out _ HB.out hi).mono ?_); rintro e w1 ⟨rfl, hf1⟩)
      go_ret
      exact ⟨rfl, Below.trans hfr hf1⟩
end Go.Proofs.YtmnejphdjnlbjaaGreatDoor.namp
