import Derived.Test.YtcdehklcdipcfaaGreatBase
import Derived.Test.YtcdehklcdipcfaaGreatMgNm
import Derived.Test.YtcdehklcdipcfaaGreatChecked
import Derived.BigQuiet
import Derived.Deep.QuietTactic
import Derived.Laws.BitsAllLaws
import Derived.IntWalk
import Derived.Test.YtcdehklcdipcfaaGreatBlk
import Derived.BigRegion
import Derived.StillTailTactics
import Derived.Great.BuildSlice
import Derived.Lib.SmallJoins
/- Several of my own texts, one behind the other. -/
/-
  The contracts of crc.gone and ref02.Of. My own text.
-/
namespace Go.Proofs.YtcdehklcdipcfaaGreat.crc
open Go.RowKit Go.Proofs.YtcdehklcdipcfaaGreat.base Go.Proofs.YtcdehklcdipcfaaGreat.crcnum
set_option linter.unusedVariables false

theorem and_one (n : Nat) (h : n < 4294967296) : bits .and .u32 (n : Int) 1 = ((n % 2 : Nat) : Int) := by
  have := u32_and_nat n 1 h (by decide)
  rw [Nat.and_one_is_mod] at this
  exact this
theorem xor_poly (n : Nat) (h : n < 4294967296) : bits .xor .u32 (n : Int) 3988292384 = ((n ^^^ poly : Nat) : Int) := u32_xor_nat n poly h (by decide)

theorem xor_half (n : Nat) (h : n < 4294967296) : bits .xor .u32 ((n : Int) / 2) 3988292384 = ((n / 2 ^^^ poly : Nat) : Int) := xor_poly (n / 2) (by omega)

theorem bit_eq (x q k : Nat) (hx : x < 256) (hq : q < 4294967296) : bits .xor .u32 (bits .and .u32 ((x : Int) / 2 ^ k) 1) (bits .and .u32 (q : Int) 1) = ((x / 2 ^ k % 2 ^^^ q % 2 : Nat) : Int) := by
  have h1 : (x : Int) / 2 ^ k = ((x / 2 ^ k : Nat) : Int) := by simp
  have h2 : x / 2 ^ k ≤ x := Nat.div_le_self _ _
  rw [h1, and_one _ (by omega), and_one _ hq, u32_xor_nat _ _ (by omega) (by omega)]
theorem bit_01 (a b : Nat) : a % 2 ^^^ b % 2 = 1 ∨ a % 2 ^^^ b % 2 = 0 := by
  rw [← mod_two_xor]; omega

theorem ret_u32 {a b : Int} (h : a = b) : Ending.returned (.int .u32 a) = .returned (.int .u32 b) := by rw [h]

theorem gone_any (n : Nat) (w : World) (hn : n < 4294967296) : Calls Tryz.prog 173 #[.int .u32 n] w fun e w' => e = .returned (.int .u32 (many 4 n : Nat)) ∧ w = w' := by
  go_enter Tryz.func173, Tryz.ntmps173
  go_wp2
  go_loop [0, 4] (fun s i => ∃ k m : Nat, k ≤ 4 ∧ i = .int .i64 k ∧ s = .int .u32 m ∧ m < 4294967296 ∧ Hid (m = many k n)) (fun _ i => 4 - (intOf i).toNat)
  case atStart => exact ⟨0, n, by omega, rfl, rfl, hn, rfl⟩
  case round =>
    obtain ⟨k, m, hk, rfl, rfl, hm, hM⟩ := hrel
    by_cases hlt : k < 4
    · have e1 := and_one m hm
      have e2 := xor_half m hm
      by_cases hodd : m % 2 = 1
      · have hone : one m = m / 2 ^^^ poly := by unfold one; rw [if_pos hodd]
        have hl := one_lt hm
        have HO := Lib.hid hone
        have HODD := Lib.hid hodd
        rw [hodd] at e1
        clear hone hodd
        go_wp2
        go_round
        case rel => exact ⟨k + 1, m / 2 ^^^ poly, by omega, by go_num, rfl, by rw [← HO.out]; exact hl, by show _ = one _; rw [← hM.out]; exact HO.out.symm⟩
        case measure => simp [intOf]; omega
      · have h0 : m % 2 = 0 := by omega
        have hone : one m = m / 2 := by unfold one; rw [if_neg hodd]
        have HO := Lib.hid hone
        rw [h0] at e1
        clear hone hodd h0
        go_wp2
        go_round
        case rel => exact ⟨k + 1, m / 2, by omega, by go_num, by go_num, by omega, by show _ = one _; rw [← hM.out]; exact HO.out.symm⟩
        case measure => simp [intOf]; omega
    · have h4 : k = 4 := by omega
      subst h4
      go_wp2
      go_ret
      exact ⟨ret_u32 (by rw [hM.out]), rfl⟩

end Go.Proofs.YtcdehklcdipcfaaGreat.crc
/-
  The contract of crc.fours. My own text.
-/
namespace Go.Proofs.YtcdehklcdipcfaaGreat.crc
open Go.RowKit Go.Proofs.YtcdehklcdipcfaaGreat.base Go.Proofs.YtcdehklcdipcfaaGreat.crcnum
set_option linter.unusedVariables false

/-- the table when k of its places are laid -/
def tab (k : Nat) : List Value := (List.range 16).map fun j => .int .u32 (if j < k then many 4 j else 0 : Nat)

theorem tab_len (k : Nat) : (tab k).length = 16 := by simp [tab]
theorem tab_get (k j : Nat) (h : j < 16) : (tab k)[j]? = some (.int .u32 (if j < k then many 4 j else 0 : Nat)) := by
  simp [tab, h]
theorem tab_set (k : Nat) (h : k < 16) : (tab k).set k (.int .u32 (many 4 k : Nat)) = tab (k + 1) := by
  apply List.ext_getElem?
  intro j
  by_cases hj : j < 16
  · rw [List.getElem?_set, tab_get _ _ hj, tab_get _ _ hj, tab_len]
    by_cases e : k = j
    · subst e
      simp [h]
    · have : (j < k + 1) = (j < k) := by rw [eq_iff_iff]; omega
      simp [e, this]
  · rw [List.getElem?_eq_none (by simp [tab_len]; omega), List.getElem?_eq_none (by simp [tab_len]; omega)]

set_option maxRecDepth 100000 in
theorem fours_any (w : World) : Calls Tryz.prog 166 #[] w fun e w' => e = .returned (.agg (tab 16).toArray) ∧ Fresh w w' := by
  go_enter Tryz.func166, Tryz.ntmps166
  go_wp2
  go_loopw [3] (fun i wr => ∃ k : Nat, k ≤ 16 ∧ i = .int .i64 k ∧ Bk wr w.heap.size 185 (tab 0) ∧ Bk wr (w.heap.size + 1) 185 (tab k) ∧ Fresh w wr) (fun i _ => 16 - (intOf i).toNat)
  case atStart => exact ⟨0, by omega, rfl, (Bk.made w _ _).alloc _, by have := Bk.made (w.alloc (.cells #[.int .u32 0, .int .u32 0, .int .u32 0, .int .u32 0, .int .u32 0, .int .u32 0, .int .u32 0, .int .u32 0, .int .u32 0, .int .u32 0, .int .u32 0, .int .u32 0, .int .u32 0, .int .u32 0, .int .u32 0, .int .u32 0] 185)) 185 #[.int .u32 0, .int .u32 0, .int .u32 0, .int .u32 0, .int .u32 0, .int .u32 0, .int .u32 0, .int .u32 0, .int .u32 0, .int .u32 0, .int .u32 0, .int .u32 0, .int .u32 0, .int .u32 0, .int .u32 0, .int .u32 0]; rwa [World.size_alloc] at this, (Fresh.alloc _ _).trans (Fresh.alloc _ _)⟩
  case round =>
    obtain ⟨k, hk, rfl, hb0, hb1, hfr⟩ := hrel
    by_cases hlt : k < 16
    · have hc := hb1.cell (tab_get k k hlt)
      have hz := hb1.free k
      have e1 : (k : Int) % 4294967296 = k := by omega
      go_wp2_with (go_at_call 173; refine (gone_any _ _ (by omega)).mono ?_; rintro e w' ⟨rfl, rfl⟩)
      go_roundw
      case rel =>
        refine ⟨k + 1, by omega, by go_num, hb0.apart (by simp) _, ?_, hfr.but (by omega) (But.put _ _)⟩
        rw [← tab_set k hlt]
        exact hb1.put k _
      case measure => simp [intOf]; omega
    · have h16 : k = 16 := by omega
      subst h16
      have r0 : (wr.setRow w.heap.size (tab 16).toArray).heap[w.heap.size]? = some (.cells (tab 16).toArray 185 (0, 0)) := hb0.row _
      have HB := Lib.hid hb1
      have HB0 := Lib.hid hb0
      have R0 := Lib.hid r0
      clear hb1 hb0 r0
      go_wp2_with (first
        | (refine wpList_load_row (o := ⟨some 12, _, _, _, _, _⟩) rfl 185 (.tmp 1) rfl (w.heap.size + 1) rfl 185 (tab 16).toArray (0, 0) _ HB.out Tryz.underlying185 rfl (by kernel_rfl) ?_)
        | (refine wpList_store_row (o := ⟨none, _, _, _, _, _⟩) rfl 185 (.tmp 0) (.tmp 12) rfl w.heap.size (tab 16).toArray rfl rfl 185 _ HB0.out (by kernel_rfl) (by simp [tab_len]) (by kernel_rfl) ?_))
      exact bodyPost_ret (results_cell_row (p := 0) (by kernel_rfl) _ _ w.heap.size 185 (tab 16).toArray (0, 0) _ rfl R0.out Tryz.underlying185 rfl (by kernel_rfl)) rfl ⟨rfl, hfr.but (Nat.le_refl _) (But.row _ _ _)⟩

end Go.Proofs.YtcdehklcdipcfaaGreat.crc
/-
  The contracts of crc.New, four, Add, Sum, Len, Of. My own text.
-/
namespace Go.Proofs.YtcdehklcdipcfaaGreat.crc
open Go.RowKit Go.Proofs.YtcdehklcdipcfaaGreat.base Go.Proofs.YtcdehklcdipcfaaGreat.crcnum
set_option linter.unusedVariables false
set_option maxRecDepth 100000

/-- a sum on its way, as it lies -/
def cells (r m : Nat) : List Value := tab 16 ++ [.int .u32 r, .int .i64 m]
def SumAt (w : World) (g r m : Nat) : Prop := Bk w g 188 (cells r m) ∧ r < 4294967296
theorem cells_tab (r m j : Nat) (h : j < 16) : (cells r m)[j]? = some (.int .u32 (many 4 j : Nat)) := by
  rw [cells, List.getElem?_append_left (by rw [tab_len]; exact h), tab_get _ _ h, if_pos h]
theorem cells_rest (r m : Nat) : (cells r m)[16]? = some (.int .u32 r) := by rw [cells, List.getElem?_append_right (by rw [tab_len]; omega), tab_len]; rfl
theorem cells_many (r m : Nat) : (cells r m)[17]? = some (.int .i64 m) := by rw [cells, List.getElem?_append_right (by rw [tab_len]; omega), tab_len]; rfl
theorem cells_set_rest (r m r' : Nat) : (cells r m).set 16 (.int .u32 r') = cells r' m := by rw [cells, List.set_append_right _ _ (by rw [tab_len]; omega), tab_len]; rfl
theorem cells_set_many (r m m' : Nat) : (cells r m).set 17 (.int .i64 m') = cells r m' := by rw [cells, List.set_append_right _ _ (by rw [tab_len]; omega), tab_len]; rfl

theorem new_any (w : World) : Calls Tryz.prog 144 #[] w fun e w' => ∃ g, e = .returned (.pointer (some ⟨g, 0, none⟩)) ∧ w.heap.size ≤ g ∧ Fresh w w' ∧ SumAt w' g 4294967295 0 := by
  go_enter Tryz.func144, Tryz.ntmps144
  go_wp2_with (first
    | (go_at_call 166; refine (fours_any _).mono ?_; rintro e w1 ⟨rfl, hf1⟩)
    | (refine wpList_buildTo (o := ⟨some 2, _, _, _, _, _⟩) rfl 188 #[(0, .tmp 1), (1, .const (.int .u32 4294967295))] rfl (some 2) rfl (cells 4294967295 0).toArray (by kernel_rfl) ?_))
  go_ret
  exact ⟨w1.heap.size, rfl, hf1.size, hf1.trans (Fresh.alloc _ _), by have := Bk.made w1 188 (cells 4294967295 0).toArray; exact ⟨this, by decide⟩⟩
theorem not_u32 (r : Nat) (h : r < 4294967296) : bits .xor .u32 IntKind.u32.max (r : Int) = ((4294967295 - r : Nat) : Int) := by
  have h1 := u32_xor_nat 4294967295 r (by decide) h
  have h2 : 4294967295 ^^^ r = 4294967295 - r := by
    have := congrArg BitVec.toNat (BitVec.allOnes_xor (x := BitVec.ofNat 32 r))
    rw [BitVec.toNat_xor, BitVec.toNat_not, BitVec.toNat_allOnes, BitVec.toNat_ofNat, Nat.mod_eq_of_lt h] at this
    exact this
  rw [h2] at h1
  exact h1
theorem sum_any (g r m : Nat) (w : World) (h : SumAt w g r m) : Calls Tryz.prog 146 #[.pointer (some ⟨g, 0, none⟩)] w fun e w' => e = .returned (.int .u32 (4294967295 - r : Nat)) ∧ w = w' := by
  have hc := h.1.cell (cells_rest r m)
  have hr := h.2
  have e1 := not_u32 r hr
  clear h
  go_enter Tryz.func146, Tryz.ntmps146
  go_wp2
  go_ret
  exact ⟨rfl, rfl⟩
/-- four bits at once -/
theorem four_any (g r m : Nat) (w : World) (h : SumAt w g r m) : Calls Tryz.prog 167 #[.pointer (some ⟨g, 0, none⟩)] w fun e w' => e = .returned (.tuple #[]) ∧ SumAt w' g (many 4 r) m ∧ But g w w' := by
  have hc := h.1.cell (cells_rest r m)
  have hf := h.1.free 16
  have hlt := h.2
  have ht := h.1.cell (cells_tab r m (r % 16) (by omega))
  have e1 : bits .and .u32 (r : Int) 15 = ((r % 16 : Nat) : Int) := by
    have := u32_and_nat r 15 hlt (by decide)
    rw [show (15 : Nat) = 2 ^ 4 - 1 from rfl, Nat.and_two_pow_sub_one_eq_mod] at this
    exact this
  have hm := many_lt (k := 4) (n := r % 16) (by omega)
  have e2 : bits .xor .u32 ((r : Int) / 16) ((many 4 (r % 16) : Nat) : Int) = ((many 4 r : Nat) : Int) := by
    have := u32_xor_nat (r / 16) (many 4 (r % 16)) (by omega) hm
    rw [← four_bits] at this
    exact this
  have H := Lib.hid h
  clear h hm
  go_enter Tryz.func167, Tryz.ntmps167
  go_region
  go_end0
  refine ⟨rfl, ⟨?_, many_lt hlt⟩, (But.put _ _).trans (But.of_fresh (Fresh.drew _))⟩
  rw [← cells_set_rest r m]
  exact H.out.1.put 16 _

/-- bytes are taken in -/
theorem add_any (g r m : Nat) (A : Option Addr) (n c : Nat) (bs : List UInt8) (w : World) (B : Nat) (h : SumAt w g r m) (hr : Rd w B A n (bs.map bv)) (hB : B ≤ g) (hn : n ≤ 1099511627776) (hm : m ≤ 1099511627776) :
    Calls Tryz.prog 145 #[.pointer (some ⟨g, 0, none⟩), .slice A n c] w fun e w' => e = .returned (.tuple #[]) ∧ SumAt w' g (over r bs) (m + n) ∧ But g w w' := by
  have hl : bs.length = n := by have := hr.1; rwa [List.length_map] at this
  have HL := Lib.hid hl
  clear hl
  go_enter Tryz.func145, Tryz.ntmps145
  go_wp2
  go_loopw [10] (fun i wr => ∃ j q : Nat, j ≤ n ∧ i = .int .i64 j ∧ SumAt wr g q m ∧ Hid (q = over r (bs.take j)) ∧ But g w wr) (fun i _ => n - (intOf i).toNat)
  case atStart => exact ⟨0, r, by omega, rfl, h, rfl, But.refl _ _⟩
  case round =>
    obtain ⟨j, q, hj, rfl, hs, hQ, hbut⟩ := hrel
    by_cases hlt : j < n
    · obtain ⟨b, off, x, rfl, hb, hx, hcx⟩ := (hr.but (Nat.le_trans hB (Nat.le_of_lt h.1.inside)) hB hbut).at_ hlt
      have HX := Lib.hid hx
      have hxb := x.toNat_lt
      have hc := hs.1.cell (cells_rest q m)
      have hf := hs.1.free 16
      have hq := hs.2
      have e1 := u32_xor_nat q x.toNat hq (by omega)
      have hs1 : SumAt (wr.setCell ⟨g, 16, none⟩ (.int .u32 (q ^^^ x.toNat : Nat))) g (q ^^^ x.toNat) m := ⟨by rw [← cells_set_rest q m]; exact hs.1.put 16 _, xor_lt hq (by omega)⟩
      have HB := Lib.hid hbut
      have HH := Lib.hid h
      have HR := Lib.hid hr
      clear hx hr h hbut hs
      go_wp2_with (first
        | (go_at_call 167; refine (four_any _ _ _ _ hs1).mono ?_; rintro e w1 ⟨rfl, hs2, hb1⟩; clear hs1)
        | (go_at_call 167; refine (four_any _ _ _ _ hs2).mono ?_; rintro e w2 ⟨rfl, hs3, hb2⟩; clear hs2))
      rw [byte_fours] at hs3
      go_roundw
      case rel => exact ⟨j + 1, _, by omega, by go_num, hs3, by show _ = _; rw [hQ.out, take_snoc _ _ _ HX.out, over_snoc], ((HB.out.trans (But.put _ _)).trans hb1).trans hb2⟩
      case measure => simp [intOf]; omega
    · have hj2 : j = n := by omega
      subst hj2
      have hc := hs.1.cell (cells_many q m)
      have hf := hs.1.free 17
      have HS := Lib.hid hs
      have HB := Lib.hid hbut
      clear hr h hbut hs
      go_wp2
      go_end0
      have hq : q = over r bs := by
        have := hQ.out
        rwa [List.take_of_length_le (Nat.le_of_eq HL.out)] at this
      refine ⟨rfl, ⟨?_, ?_⟩, HB.out.trans (But.put _ _)⟩
      · rw [← hq, ← cells_set_many q m]
        exact HS.out.1.put 17 _
      · rw [← hq]
        exact HS.out.2

def flat (rows : List Row) : List UInt8 := rows.flatMap Row.bs
theorem flat_snoc (rows : List Row) (j : Nat) (r : Row) (h : rows[j]? = some r) : flat (rows.take (j + 1)) = flat (rows.take j) ++ r.bs := by
  rw [take_snoc _ _ _ h, flat, List.flatMap_append]; simp [flat]

theorem pieces_any (A : Option Addr) (n c : Nat) (rows : List Row) (w : World) (B : Nat) (h : RdRows w B A n rows) (hB : B ≤ w.heap.size) (hn : n ≤ 65536) (hlen : ∀ r ∈ rows, r.len ≤ 65536) :
    Calls Tryz.prog 122 #[.slice A n c] w fun e w' => e = .returned (.int .u32 (sum (flat rows) : Nat)) ∧ Fresh w w' := by
  have HL := Lib.hid hlen
  have hl : rows.length = n := by have := h.1.1; rwa [List.length_map] at this
  have HN := Lib.hid hl
  clear hlen hl
  go_enter Tryz.func122, Tryz.ntmps122
  go_wp2_with (go_at_call 144; refine (new_any _).mono ?_; rintro e w1 ⟨g, rfl, hg, hf1, hs1⟩)
  go_loopw [9] (fun i wr => ∃ j q m : Nat, j ≤ n ∧ i = .int .i64 j ∧ SumAt wr g q m ∧ m ≤ j * 65536 ∧ Hid (q = over 4294967295 (flat (rows.take j))) ∧ Fresh w wr) (fun i _ => n - (intOf i).toNat)
  case atStart => exact ⟨0, 4294967295, 0, by omega, rfl, hs1, by omega, rfl, hf1⟩
  case round =>
    obtain ⟨j, q, m, hj, rfl, hs, hm, hQ, hfr⟩ := hrel
    by_cases hlt : j < n
    · have hw := h.fresh hB hfr
      obtain ⟨b, off, x, rfl, hb, hx, hcx⟩ := hw.1.at_ hlt
      have hr := hw.2 x (List.mem_of_getElem? hx)
      have hlx := HL.out x (List.mem_of_getElem? hx)
      have HX := Lib.hid hx
      have HH := Lib.hid h
      clear hx hw h
      obtain ⟨xa, xl, xc, xb⟩ := x
      simp only [Row.val] at hcx
      simp only at hr hlx
      go_wp2_with (go_at_call 145; refine (add_any g q m xa xl xc xb wr B hs hr (by omega) (by omega) (by omega)).mono ?_; rintro e w2 ⟨rfl, hs2, hb2⟩)
      go_roundw
      case rel => exact ⟨j + 1, _, m + xl, by omega, by go_num, hs2, by omega, by show _ = _; rw [hQ.out, flat_snoc _ _ _ HX.out, over_append], hfr.but hg hb2⟩
      case measure => simp [intOf]; omega
    · have hj2 : j = n := by omega
      subst hj2
      go_wp2_with (go_at_call 146; refine (sum_any g q m wr hs).mono ?_; rintro e w2 ⟨rfl, rfl⟩)
      go_ret
      refine ⟨ret_u32 ?_, hfr⟩
      have := hQ.out
      rw [List.take_of_length_le (Nat.le_of_eq HN.out)] at this
      rw [this]
      rfl
end Go.Proofs.YtcdehklcdipcfaaGreat.crc
/-
  crc.Of of one piece and of two, a Sum that is not there, the law's example. My own text.
-/
namespace Go.Proofs.YtcdehklcdipcfaaGreat.crc
open Go.RowKit Go.Proofs.YtcdehklcdipcfaaGreat.base Go.Proofs.YtcdehklcdipcfaaGreat.crcnum
set_option linter.unusedVariables false
set_option maxRecDepth 100000

theorem of_one (A : Option Addr) (n c : Nat) (bs : List UInt8) (w : World) (B : Nat) (s : Nat) (hr : Rd w B A n (bs.map bv)) (hB : B ≤ w.heap.size) (hn : n ≤ 65536) (hs : sum bs = s) (g : Nat) (hg : g = w.heap.size) :
    Calls Tryz.prog 122 #[.slice (some ⟨g, 0, none⟩) 1 1] (w.alloc (.cells #[.slice A n c] 32)) fun e w' => e = .returned (.int .u32 s) ∧ Fresh (w.alloc (.cells #[.slice A n c] 32)) w' := by
  subst hg
  have := pieces_any (some ⟨w.heap.size, 0, none⟩) 1 1 [⟨A, n, c, bs⟩] (w.alloc (.cells #[.slice A n c] 32)) (w.heap.size + 1)
    ⟨Rd.lit w #[.slice A n c] 32, fun r h => by rw [List.mem_singleton] at h; subst h; exact (hr.alloc hB _).up (by omega)⟩ (by simp) (by omega) (fun r h => by rw [List.mem_singleton] at h; subst h; exact hn)
  rw [← hs]
  simpa [flat] using this

theorem of_two (A D : Option Addr) (n m c d : Nat) (xs bs : List UInt8) (w : World) (B : Nat) (s : Nat) (hr : Rd w B A n (xs.map bv)) (hd : Rd w B D m (bs.map bv)) (hB : B ≤ w.heap.size) (hn : n ≤ 65536) (hm : m ≤ 65536) (hs : sum (xs ++ bs) = s) (g : Nat) (hg : g = w.heap.size) :
    Calls Tryz.prog 122 #[.slice (some ⟨g, 0, none⟩) 2 2] (w.alloc (.cells #[.slice A n c, .slice D m d] 32)) fun e w' => e = .returned (.int .u32 s) ∧ Fresh (w.alloc (.cells #[.slice A n c, .slice D m d] 32)) w' := by
  subst hg
  have := pieces_any (some ⟨w.heap.size, 0, none⟩) 2 2 [⟨A, n, c, xs⟩, ⟨D, m, d, bs⟩] (w.alloc (.cells #[.slice A n c, .slice D m d] 32)) (w.heap.size + 1)
    ⟨Rd.lit w #[.slice A n c, .slice D m d] 32, fun r h => by
      simp only [List.mem_cons, List.not_mem_nil, or_false] at h
      rcases h with rfl | rfl
      · exact (hr.alloc hB _).up (by omega)
      · exact (hd.alloc hB _).up (by omega)⟩ (by simp) (by omega) (fun r h => by
      simp only [List.mem_cons, List.not_mem_nil, or_false] at h
      rcases h with rfl | rfl
      · exact hn
      · exact hm)
  rw [← hs]
  simpa [flat] using this

theorem add_nil (A : Option Addr) (n c : Nat) (w : World) : Calls Tryz.prog 145 #[.pointer none, .slice A n c] w fun e w' => e = .returned (.tuple #[]) ∧ w = w' := by
  go_enter Tryz.func145, Tryz.ntmps145
  go_wp2
  exact bodyPost_ret (results_none rfl _ _ _) rfl ⟨rfl, rfl⟩
theorem sum_nil (w : World) : Calls Tryz.prog 146 #[.pointer none] w fun e w' => e = .returned (.int .u32 0) ∧ w = w' := by
  go_enter Tryz.func146, Tryz.ntmps146
  go_wp2
  go_ret
  exact ⟨rfl, rfl⟩
theorem known : sum [49, 50, 51, 52, 53, 54, 55, 56, 57] = 3421780262 := by decide +kernel

theorem digits_rd (w : World) : Rd (w.alloc (.cells #[.int .u8 49, .int .u8 50, .int .u8 51, .int .u8 52, .int .u8 53, .int .u8 54, .int .u8 55, .int .u8 56, .int .u8 57] 5 (9, 10))) (w.heap.size + 1) (some ⟨w.heap.size, 0, none⟩) 9 (([49, 50, 51, 52, 53, 54, 55, 56, 57] : List UInt8).map bv) :=
  Rd.mark w #[.int .u8 49, .int .u8 50, .int .u8 51, .int .u8 52, .int .u8 53, .int .u8 54, .int .u8 55, .int .u8 56, .int .u8 57] 5 _

theorem of_known (w : World) (A : Option Addr) (B : Nat) (h : Rd w B A 9 (([49, 50, 51, 52, 53, 54, 55, 56, 57] : List UInt8).map bv)) (hB : B ≤ w.heap.size) (g : Nat) (hg : g = w.heap.size) :
    Calls Tryz.prog 122 #[.slice (some ⟨g, 0, none⟩) 1 1] (w.alloc (.cells #[.slice A 9 9] 32)) fun e w' => e = .returned (.int .u32 3421780262) ∧ Fresh (w.alloc (.cells #[.slice A 9 9] 32)) w' := by
  refine (of_one A 9 9 _ w B _ h hB (by omega) rfl g hg).mono ?_
  rintro e w' ⟨rfl, hf⟩
  rw [known]
  exact ⟨rfl, hf⟩

theorem sum_is (g r m S : Nat) (w : World) (h : SumAt w g r m) (hS : 4294967295 - r = S) : Calls Tryz.prog 146 #[.pointer (some ⟨g, 0, none⟩)] w fun e w' => e = .returned (.int .u32 S) ∧ w = w' := by
  subst hS
  exact sum_any g r m w h
theorem pieces_is (A : Option Addr) (n c : Nat) (rows : List Row) (S : Nat) (w : World) (B : Nat) (h : RdRows w B A n rows) (hB : B ≤ w.heap.size) (hn : n ≤ 65536) (hlen : ∀ r ∈ rows, r.len ≤ 65536) (hS : sum (flat rows) = S) :
    Calls Tryz.prog 122 #[.slice A n c] w fun e w' => e = .returned (.int .u32 S) ∧ Fresh w w' := by
  subst hS
  exact pieces_any A n c rows w B h hB hn hlen
end Go.Proofs.YtcdehklcdipcfaaGreat.crc
