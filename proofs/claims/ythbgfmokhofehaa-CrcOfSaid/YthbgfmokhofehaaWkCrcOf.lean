/-
  The walk of the law CrcOf. My own text.
-/
import Derived.Test.YthbgfmokhofehaaCrcUse
import Derived.Test.YthbgfmokhofehaaOpenRows
namespace Go.Proofs.Ythbgfmokhofehaa.crcOf
open Go.RowKit Go.Proofs.Ythbgfmokhofehaa.base Go.Proofs.Ythbgfmokhofehaa.crcnum Go.Proofs.Ythbgfmokhofehaa.crc
set_option linter.unusedVariables false

theorem byte_info : (Try.prog.info? 5).map (fun i => (i.zero, i.size, i.bytes)) = some (some (.int .u8 0), 1, 1) := by kernel_rfl

theorem crcOf_walk (A0 : Option Addr) (n0 c0 : Nat) (x0 : List Row) (w : World) (b0 : InRows w A0 n0 c0 x0) :
    Calls Try.prog 3 #[.slice A0 n0 c0] w fun e w' => e = .returned (.bool true) ∧ Below w.heap.size w w' := by
  obtain ⟨i0, hi0, hz0, hz1, hz2⟩ := info_parts byte_info
  obtain ⟨r0, hc0, hm0, hlen⟩ := b0
  have HLEN := Lib.hid hlen
  have hl : x0.length = n0 := by have := r0.1.1; rwa [List.length_map] at this
  have HL := Lib.hid hl
  unfold maxLen at hm0
  clear hlen hl
  by_cases hs : 50 < n0
  · go_enter Try.func3, Try.ntmps3
    go_wp2_with (go_at_call 7; refine (wakes_any _).mono ?_; rintro e wA ⟨rfl, hfA⟩)
    all_goals go_ret
    all_goals exact ⟨rfl, hfA⟩
  · go_enter Try.func3, Try.ntmps3
    go_wp2_with (first
      | (go_at_call 7; refine (wakes_any _).mono ?_; rintro e wA ⟨rfl, hfA⟩)
      | (go_at_call 8; refine (new_any _).mono ?_; rintro e w1 ⟨g, rfl, hg, hf1, hs1⟩))
    have hg1 : Fresh w w1 := hfA.trans hf1
    have hgw := hfA.size
    have hos : SumAt w1 g 4294967295 0 := hs1
    clear hs1 hf1
    go_loopw [3, 14] (fun v i wr => ∃ (j n c q : Nat) (A : Option Addr), j ≤ n0 ∧ i = .int .i64 j ∧ v = .slice A n c ∧ n ≤ j * 500 ∧ SumAt wr g q n ∧ Hid (q = over 4294967295 (flat (x0.take j))) ∧ Own wr w.heap.size 5 A n c ((flat (x0.take j)).map bv) ∧ Hid (∀ r ∈ x0.take j, r.len ≤ 500) ∧ Fresh w wr) (fun _ i _ => n0 - (intOf i).toNat)
    case atStart => exact ⟨0, 0, 0, 4294967295, none, by omega, rfl, rfl, by omega, hos, rfl, Own.nil _ _ _, (by intro r hr; cases hr), hg1⟩
    case round =>
      obtain ⟨j, n, c, q, A, hj, rfl, rfl, hn, hsum, hQ, hown, hL, hfr⟩ := hrel
      have hsz := hfr.size
      have hlt32 := hsum.2
      by_cases hlt : j < n0
      · have hw := r0.fresh (Nat.le_refl _) hfr
        obtain ⟨b, off, x, rfl, hb, hx, hcx⟩ := hw.1.at_ hlt
        have hr := hw.2 x (List.mem_of_getElem? hx)
        obtain ⟨hlc, hcm⟩ := HLEN.out x (List.mem_of_getElem? hx)
        have HX := Lib.hid hx
        have HR0 := Lib.hid r0
        clear hx hw r0
        obtain ⟨xa, xl, xc, xb⟩ := x
        simp only [Row.val] at hcx
        simp only at hr hlc hcm
        unfold maxLen at hcm
        by_cases hbig : 500 < xl
        · go_wp2
          go_ret
          exact ⟨rfl, hfr⟩
        · have hne := hown.ne_block hsum.1 (by decide)
          have hrr : ∀ W, Fresh w W → Rd W w.heap.size xa xl (xb.map bv) := fun W h => (HR0.out.fresh (Nat.le_refl _) h).2 _ (List.mem_of_getElem? HX.out)
          obtain ⟨S, hS⟩ : ∃ S, sum (flat (x0.take (j + 1))) = S := ⟨_, rfl⟩
          have hfl := flat_snoc x0 j _ HX.out
          have hov : over q xb = over 4294967295 (flat (x0.take (j + 1))) := by rw [hQ.out, hfl, over_append]
          have hS2 : 4294967295 - over q xb = S := by rw [hov]; exact hS
          have HRR := Lib.hid hrr
          have HS := Lib.hid hS
          have HS2 := Lib.hid hS2
          have HFL := Lib.hid hfl
          have HOV := Lib.hid hov
          clear hrr hS hS2 hfl hov
          go_wp2_with (first
            | (at_builtin; refine wpList_append_rd _ rfl _ _ 24 rfl w.heap.size 5 i0 _ 1 Try.underlying24 hi0 hz0 hz1 hz2 rfl A n c _ rfl hown w.heap.size xa xl xc (xb.map bv) rfl hr (bv_one xb) (by unfold maxLen; omega) (by omega) hfr.size ?_; intro A1 c1 w2 ho2 hg2; have hs2 : SumAt w2 g q n := ⟨hsum.1.grown hg2 hne, hsum.2⟩; have hf2 : Fresh w w2 := hfr.append hown (Nat.le_refl _) hg2; have hne2 := ho2.ne_block hs2.1 (by decide); have hcx2 : w2.cell? ⟨b, off + j, none⟩ = some (.slice xa xl xc) := (World.cell?_of_block ((hf2.block b hb).trans (hfr.block b hb).symm)).trans hcx)
            | (go_at_call 9; refine (add_any g q n xa xl xc xb w2 w.heap.size hs2 (HRR.out _ hf2) (by omega) (by omega) (by omega)).mono ?_; rintro e w3 ⟨rfl, hs3, hb3⟩; have ho3 := ho2.but hb3 hne2; have hf3 : Fresh w w3 := hf2.but (by omega) hb3; rw [← List.map_append, ← HFL.out] at ho3; clear hs2 hb3 ho2 hg2)
            | (go_at_call 10; refine (sum_is g _ _ S w3 hs3 HS2.out).mono ?_; rintro e w4 ⟨rfl, rfl⟩)
            | (go_at_call 11; refine (of_is A1 (n + xl) c1 _ S w3 w3.heap.size ho3.rd (by unfold maxLen; omega) HS.out).mono ?_; rintro e w4 ⟨rfl, rfl⟩)
            | (go_at_call 12; refine (len_is g _ _ w3 hs3 _ rfl).mono ?_; rintro e w4 ⟨rfl, rfl⟩))
          have hlast : ∀ r ∈ x0.take (j + 1), r.len ≤ 500 := by
            rw [take_snoc _ _ _ HX.out]
            intro r hr
            rcases List.mem_append.1 hr with h | h
            · exact hL.out r h
            · rw [List.mem_singleton] at h; subst h; show xl ≤ 500; omega
          have HLAST := Lib.hid hlast
          clear hlast
          go_roundw
          case rel => exact ⟨j + 1, n + xl, c1, _, A1, by omega, by go_num, rfl, by omega, hs3, HOV.out, ho3, HLAST.out, hf3⟩
          case measure => simp [intOf]; omega
      · have hjn : j = n0 := by omega
        subst hjn
        obtain ⟨S, hS⟩ : ∃ S, sum (flat x0) = S := ⟨_, rfl⟩
        have HS := Lib.hid hS
        have hall : x0.take j = x0 := List.take_of_length_le (Nat.le_of_eq HL.out)
        rw [hall] at hown
        have hl65 : ∀ r ∈ x0, r.len ≤ 65536 := fun r hr => by
          have := hL.out r (by rw [hall]; exact hr)
          omega
        have H65 := Lib.hid hl65
        clear hS hall hl65
        go_wp2_with (first
          | (go_at_call 13; refine (pieces_is A0 j c0 x0 S wr w.heap.size (r0.fresh (Nat.le_refl _) hfr) hfr.size (by omega) H65.out HS.out).mono ?_; rintro e w5 ⟨rfl, hf5⟩)
          | (go_at_call 11; refine (of_is A n c (flat x0) S w5 w5.heap.size (Own.fresh hown hf5).rd (by unfold maxLen; omega) HS.out).mono ?_; rintro e w6 ⟨rfl, rfl⟩))
        go_ret
        exact ⟨rfl, hfr.trans hf5⟩
end Go.Proofs.Ythbgfmokhofehaa.crcOf
