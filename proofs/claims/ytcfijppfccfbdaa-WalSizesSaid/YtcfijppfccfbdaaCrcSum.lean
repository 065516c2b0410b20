/-
  The contracts of crc.New, four, Add, Sum, Len, Of. My own text.
-/
import Derived.Test.YtcfijppfccfbdaaCrcTab
import Derived.Great.BuildSlice
namespace Go.Proofs.Ytcfijppfccfbdaa.crc
open Go.RowKit Go.Proofs.Ytcfijppfccfbdaa.base Go.Proofs.Ytcfijppfccfbdaa.crcnum
set_option linter.unusedVariables false
set_option maxRecDepth 100000

/-- a sum on its way, as it lies -/
def cells (r m : Nat) : List Value := tab 16 ++ [.int .u32 r, .int .i64 m]
def SumAt (w : World) (g r m : Nat) : Prop := Bk w g 72 (cells r m) ∧ r < 4294967296
theorem cells_tab (r m j : Nat) (h : j < 16) : (cells r m)[j]? = some (.int .u32 (many 4 j : Nat)) := by
  rw [cells, List.getElem?_append_left (by rw [tab_len]; exact h), tab_get _ _ h, if_pos h]
theorem cells_rest (r m : Nat) : (cells r m)[16]? = some (.int .u32 r) := by rw [cells, List.getElem?_append_right (by rw [tab_len]; omega), tab_len]; rfl
theorem cells_many (r m : Nat) : (cells r m)[17]? = some (.int .i64 m) := by rw [cells, List.getElem?_append_right (by rw [tab_len]; omega), tab_len]; rfl
theorem cells_set_rest (r m r' : Nat) : (cells r m).set 16 (.int .u32 r') = cells r' m := by rw [cells, List.set_append_right _ _ (by rw [tab_len]; omega), tab_len]; rfl
theorem cells_set_many (r m m' : Nat) : (cells r m).set 17 (.int .i64 m') = cells r m' := by rw [cells, List.set_append_right _ _ (by rw [tab_len]; omega), tab_len]; rfl

theorem new_any (w : World) : Calls Try.prog 34 #[] w fun e w' => ∃ g, e = .returned (.pointer (some ⟨g, 0, none⟩)) ∧ w.heap.size ≤ g ∧ Fresh w w' ∧ SumAt w' g 4294967295 0 := by
  go_enter Try.func34, Try.ntmps34
  go_wp2_with (first
    | (go_at_call 40; refine (fours_any _).mono ?_; rintro e w1 ⟨rfl, hf1⟩)
    | (refine wpList_buildTo (o := ⟨some 2, _, _, _, _, _⟩) rfl 72 #[(0, .tmp 1), (1, .const (.int .u32 4294967295))] rfl (some 2) rfl (cells 4294967295 0).toArray (by kernel_rfl) ?_))
  go_ret
  exact ⟨w1.heap.size, rfl, hf1.size, hf1.trans (Fresh.alloc _ _), by have := Bk.made w1 72 (cells 4294967295 0).toArray; exact ⟨this, by decide⟩⟩
theorem not_u32 (r : Nat) (h : r < 4294967296) : bits .xor .u32 IntKind.u32.max (r : Int) = ((4294967295 - r : Nat) : Int) := by
  have h1 := u32_xor_nat 4294967295 r (by decide) h
  have h2 : 4294967295 ^^^ r = 4294967295 - r := by
    have := congrArg BitVec.toNat (BitVec.allOnes_xor (x := BitVec.ofNat 32 r))
    rw [BitVec.toNat_xor, BitVec.toNat_not, BitVec.toNat_allOnes, BitVec.toNat_ofNat, Nat.mod_eq_of_lt h] at this
    exact this
  rw [h2] at h1
  exact h1
theorem sum_any (g r m : Nat) (w : World) (h : SumAt w g r m) : Calls Try.prog 36 #[.pointer (some ⟨g, 0, none⟩)] w fun e w' => e = .returned (.int .u32 (4294967295 - r : Nat)) ∧ w = w' := by
  have hc := h.1.cell (cells_rest r m)
  have hr := h.2
  have e1 := not_u32 r hr
  clear h
  go_enter Try.func36, Try.ntmps36
  go_wp2
  go_ret
  exact ⟨rfl, rfl⟩
/-- four bits at once -/
theorem four_any (g r m : Nat) (w : World) (h : SumAt w g r m) : Calls Try.prog 41 #[.pointer (some ⟨g, 0, none⟩)] w fun e w' => e = .returned (.tuple #[]) ∧ SumAt w' g (many 4 r) m ∧ But g w w' := by
  have hc := h.1.cell (cells_rest r m)
  have hf := h.1.free 16
  have hlt := h.2
  have ht := h.1.cell (cells_tab r m (r % 16) (by omega))
  have e1 : bits .and .u32 (r : Int) 15 = ((r % 16 : Nat) : Int) := by
    have := u32_and_nat r 15 hlt (by decide)
    rw [show (15 : Nat) = 2 ^ 4 - 1 from rfl, Nat.and_two_pow_sub_one_eq_mod] at this
    exact this
  have hm := many_lt (k := 4) (n := r % 16) (by omega)
  have e2 : bits .xor .u32 ((r : Int) / 16) ((many 4 (r % 16) : Nat) : Int) = ((many 4 r : Nat) : Int) := by
    have := u32_xor_nat (r / 16) (many 4 (r % 16)) (by omega) hm
    rw [← four_bits] at this
    exact this
  have H := Lib.hid h
  clear h hm
  go_enter Try.func41, Try.ntmps41
  go_region
  go_end0
  refine ⟨rfl, ⟨?_, many_lt hlt⟩, (But.put _ _).trans (But.of_fresh (Fresh.drew _))⟩
  rw [← cells_set_rest r m]
  exact H.out.1.put 16 _

/-- bytes are taken in -/
theorem add_any (g r m : Nat) (A : Option Addr) (n c : Nat) (bs : List UInt8) (w : World) (B : Nat) (h : SumAt w g r m) (hr : Rd w B A n (bs.map bv)) (hB : B ≤ g) (hn : n ≤ 1099511627776) (hm : m ≤ 1099511627776) :
    Calls Try.prog 35 #[.pointer (some ⟨g, 0, none⟩), .slice A n c] w fun e w' => e = .returned (.tuple #[]) ∧ SumAt w' g (over r bs) (m + n) ∧ But g w w' := by
  have hl : bs.length = n := by have := hr.1; rwa [List.length_map] at this
  have HL := Lib.hid hl
  clear hl
  go_enter Try.func35, Try.ntmps35
  go_wp2
  go_loopw [10] (fun i wr => ∃ j q : Nat, j ≤ n ∧ i = .int .i64 j ∧ SumAt wr g q m ∧ Hid (q = over r (bs.take j)) ∧ But g w wr) (fun i _ => n - (intOf i).toNat)
  case atStart => exact ⟨0, r, by omega, rfl, h, rfl, But.refl _ _⟩
  case round =>
    obtain ⟨j, q, hj, rfl, hs, hQ, hbut⟩ := hrel
    by_cases hlt : j < n
    · obtain ⟨b, off, x, rfl, hb, hx, hcx⟩ := (hr.but (Nat.le_trans hB (Nat.le_of_lt h.1.inside)) hB hbut).at_ hlt
      have HX := Lib.hid hx
      have hxb := x.toNat_lt
      have hc := hs.1.cell (cells_rest q m)
      have hf := hs.1.free 16
      have hq := hs.2
      have e1 := u32_xor_nat q x.toNat hq (by omega)
      have hs1 : SumAt (wr.setCell ⟨g, 16, none⟩ (.int .u32 (q ^^^ x.toNat : Nat))) g (q ^^^ x.toNat) m := ⟨by rw [← cells_set_rest q m]; exact hs.1.put 16 _, xor_lt hq (by omega)⟩
      have HB := Lib.hid hbut
      have HH := Lib.hid h
      have HR := Lib.hid hr
      clear hx hr h hbut hs
      go_wp2_with (first
        | (go_at_call 41; refine (four_any _ _ _ _ hs1).mono ?_; rintro e w1 ⟨rfl, hs2, hb1⟩; clear hs1)
        | (go_at_call 41; refine (four_any _ _ _ _ hs2).mono ?_; rintro e w2 ⟨rfl, hs3, hb2⟩; clear hs2))
      rw [byte_fours] at hs3
      go_roundw
      case rel => exact ⟨j + 1, _, by omega, by go_num, hs3, by show _ = _; rw [hQ.out, take_snoc _ _ _ HX.out, over_snoc], ((HB.out.trans (But.put _ _)).trans hb1).trans hb2⟩
      case measure => simp [intOf]; omega
    · have hj2 : j = n := by omega
      subst hj2
      have hc := hs.1.cell (cells_many q m)
      have hf := hs.1.free 17
      have HS := Lib.hid hs
      have HB := Lib.hid hbut
      clear hr h hbut hs
      go_wp2
      go_end0
      have hq : q = over r bs := by
        have := hQ.out
        rwa [List.take_of_length_le (Nat.le_of_eq HL.out)] at this
      refine ⟨rfl, ⟨?_, ?_⟩, HB.out.trans (But.put _ _)⟩
      · rw [← hq, ← cells_set_many q m]
        exact HS.out.1.put 17 _
      · rw [← hq]
        exact HS.out.2

def flat (rows : List Row) : List UInt8 := rows.flatMap Row.bs
theorem flat_snoc (rows : List Row) (j : Nat) (r : Row) (h : rows[j]? = some r) : flat (rows.take (j + 1)) = flat (rows.take j) ++ r.bs := by
  rw [take_snoc _ _ _ h, flat, List.flatMap_append]; simp [flat]

theorem pieces_any (A : Option Addr) (n c : Nat) (rows : List Row) (w : World) (B : Nat) (h : RdRows w B A n rows) (hB : B ≤ w.heap.size) (hn : n ≤ 65536) (hlen : ∀ r ∈ rows, r.len ≤ 65536) :
    Calls Try.prog 28 #[.slice A n c] w fun e w' => e = .returned (.int .u32 (sum (flat rows) : Nat)) ∧ Fresh w w' := by
  have HL := Lib.hid hlen
  have hl : rows.length = n := by have := h.1.1; rwa [List.length_map] at this
  have HN := Lib.hid hl
  clear hlen hl
  go_enter Try.func28, Try.ntmps28
  go_wp2_with (go_at_call 34; refine (new_any _).mono ?_; rintro e w1 ⟨g, rfl, hg, hf1, hs1⟩)
  go_loopw [9] (fun i wr => ∃ j q m : Nat, j ≤ n ∧ i = .int .i64 j ∧ SumAt wr g q m ∧ m ≤ j * 65536 ∧ Hid (q = over 4294967295 (flat (rows.take j))) ∧ Fresh w wr) (fun i _ => n - (intOf i).toNat)
  case atStart => exact ⟨0, 4294967295, 0, by omega, rfl, hs1, by omega, rfl, hf1⟩
  case round =>
    obtain ⟨j, q, m, hj, rfl, hs, hm, hQ, hfr⟩ := hrel
    by_cases hlt : j < n
    · have hw := h.fresh hB hfr
      obtain ⟨b, off, x, rfl, hb, hx, hcx⟩ := hw.1.at_ hlt
      have hr := hw.2 x (List.mem_of_getElem? hx)
      have hlx := HL.out x (List.mem_of_getElem? hx)
      have HX := Lib.hid hx
      have HH := Lib.hid h
      clear hx hw h
      obtain ⟨xa, xl, xc, xb⟩ := x
      simp only [Row.val] at hcx
      simp only at hr hlx
      go_wp2_with (go_at_call 35; refine (add_any g q m xa xl xc xb wr B hs hr (by omega) (by omega) (by omega)).mono ?_; rintro e w2 ⟨rfl, hs2, hb2⟩)
      go_roundw
      case rel => exact ⟨j + 1, _, m + xl, by omega, by go_num, hs2, by omega, by show _ = _; rw [hQ.out, flat_snoc _ _ _ HX.out, over_append], hfr.but hg hb2⟩
      case measure => simp [intOf]; omega
    · have hj2 : j = n := by omega
      subst hj2
      go_wp2_with (go_at_call 36; refine (sum_any g q m wr hs).mono ?_; rintro e w2 ⟨rfl, rfl⟩)
      go_ret
      refine ⟨ret_u32 ?_, hfr⟩
      have := hQ.out
      rw [List.take_of_length_le (Nat.le_of_eq HN.out)] at this
      rw [this]
      rfl
end Go.Proofs.Ytcfijppfccfbdaa.crc
