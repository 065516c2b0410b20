/-
  The walk of the law CrcTurned. My own text.
-/
import Derived.Test.YthbgfmokhofehaaCrcUse
import Derived.Test.YthbgfmokhofehaaOpen
namespace Go.Proofs.Ythbgfmokhofehaa.crcTurned
open Go.RowKit Go.Proofs.Ythbgfmokhofehaa.base Go.Proofs.Ythbgfmokhofehaa.crcnum Go.Proofs.Ythbgfmokhofehaa.crc
set_option linter.unusedVariables false

theorem byte_info : (Try.prog.info? 5).map (fun i => (i.zero, i.size, i.bytes)) = some (some (.int .u8 0), 1, 1) := by kernel_rfl

theorem Own.store {w : World} {base : Nat} {e : TypeId} {g n c : Nat} {xs : List Value} (h : Own w base e (some ⟨g, 0, none⟩) n c xs) (j : Nat) (hj : j < n) (u : Value) :
    Own (w.setCell ⟨g, j, none⟩ u) base e (some ⟨g, 0, none⟩) n c (xs.set j u) := (World.ownsRow.stored h j u).1

theorem u8_turn (x w j : Nat) (hx : x < 256) : bits .xor .u8 (x : Int) ((w : Int) / 2 ^ (8 * j) % 256) = ((x ^^^ (w / 256 ^ j % 256) : Nat) : Int) := by
  have e : (w : Int) / 2 ^ (8 * j) % 256 = ((w / 256 ^ j % 256 : Nat) : Int) := by
    have : (2 : Int) ^ (8 * j) = ((256 ^ j : Nat) : Int) := by rw [Int.pow_mul]; simp
    rw [this]; omega
  rw [e, u8_xor_nat _ _ hx (Nat.mod_lt _ (by omega))]
theorem bv_turn (x w j : Nat) (hx : x < 256) : bv (UInt8.ofNat (x ^^^ (w / 256 ^ j % 256))) = .int .u8 ((x ^^^ (w / 256 ^ j % 256) : Nat) : Int) := by
  rw [bv, ofNat_toNat _ (Nat.xor_lt_two_pow (n := 8) hx (Nat.mod_lt _ (by omega)))]

set_option maxHeartbeats 1000000 in
theorem crcTurned_walk (A0 : Option Addr) (n0 c0 : Nat) (x0 : List UInt8) (a1 : Int) (a2 : Int) (w : World) (b0 : InBytes w A0 n0 c0 x0) (w1 : (Lit.int .u16 a1).wf = true) (w2 : (Lit.int .u32 a2).wf = true) :
    Calls Try.prog 4 #[.slice A0 n0 c0, .int .u16 a1, .int .u32 a2] w fun e w' => e = .returned (.bool true) ∧ Below w.heap.size w w' := by
  obtain ⟨i0, hi0, hz0, hz1, hz2⟩ := info_parts byte_info
  have h1 : 0 ≤ a1 ∧ a1 ≤ 65535 := by simpa [Lit.wf, IntKind.min, IntKind.max, IntKind.signed, IntKind.bits] using w1
  have h2 : 0 ≤ a2 ∧ a2 ≤ 4294967295 := by simpa [Lit.wf, IntKind.min, IntKind.max, IntKind.signed, IntKind.bits] using w2
  obtain ⟨at_, rfl⟩ := Int.eq_ofNat_of_zero_le h1.1
  obtain ⟨by_, rfl⟩ := Int.eq_ofNat_of_zero_le h2.1
  obtain ⟨r0, hc0, hm0⟩ := b0
  unfold maxLen at hm0
  clear w1 w2
  by_cases hs : n0 < 4
  · go_enter Try.func4, Try.ntmps4
    go_wp2_with (go_at_call 7; refine (wakes_any _).mono ?_; rintro e wA ⟨rfl, hfA⟩)
    all_goals go_ret
    all_goals exact ⟨rfl, hfA⟩
  · by_cases hl : 2000 < n0
    · go_enter Try.func4, Try.ntmps4
      go_wp2_with (go_at_call 7; refine (wakes_any _).mono ?_; rintro e wA ⟨rfl, hfA⟩)
      all_goals go_ret
      all_goals exact ⟨rfl, hfA⟩
    · by_cases hz : by_ = 0
      · subst hz
        go_enter Try.func4, Try.ntmps4
        go_wp2_with (go_at_call 7; refine (wakes_any _).mono ?_; rintro e wA ⟨rfl, hfA⟩)
        all_goals go_ret
        all_goals exact ⟨rfl, hfA⟩
      · obtain ⟨k, hk, hk2⟩ : ∃ k : Nat, (at_ : Int) % ((n0 : Int) - 3) = (k : Int) ∧ k + 4 ≤ n0 := by
          have hp : (0 : Int) < (n0 : Int) - 3 := by omega
          have ha := Int.emod_nonneg (at_ : Int) (Int.ne_of_gt hp)
          have hb := Int.emod_lt_of_pos (at_ : Int) hp
          exact ⟨((at_ : Int) % ((n0 : Int) - 3)).toNat, by omega, by omega⟩
        have hlx : x0.length = n0 := by have := r0.1; rwa [List.length_map] at this
        have hne := sum_turned x0 k by_ (by omega) (by omega) hz
        obtain ⟨s0, h0⟩ : ∃ s, sum x0 = s := ⟨_, rfl⟩
        obtain ⟨s1, hs1⟩ : ∃ s, sum (turn x0 k by_ 4) = s := ⟨_, rfl⟩
        rw [h0, hs1] at hne
        have hd : (((s1 : Nat) : Int) != ((s0 : Nat) : Int)) = true := by rw [bne_iff_ne]; omega
        have hzb : ((by_ : Int) == 0) = false := by rw [beq_eq_false_iff_ne]; omega
        have HD := Lib.hid hd
        have H0 := Lib.hid h0
        have HS1 := Lib.hid hs1
        have HLX := Lib.hid hlx
        clear hd h0 hs1 hne hlx hz
        go_enter Try.func4, Try.ntmps4
        go_wp2_with (first
          | (go_at_call 7; refine (wakes_any _).mono ?_; rintro e wA ⟨rfl, hfA⟩)
          | (at_builtin; (refine wpList_append_rd _ rfl _ _ 24 rfl wA.heap.size 5 i0 _ 1 Try.underlying24 hi0 hz0 hz1 hz2 rfl (some ⟨wA.heap.size, 0, none⟩) 0 0 [] rfl (Own.made wA 5 #[] 0 rfl (Nat.zero_le _)) w.heap.size A0 n0 c0 (x0.map bv) rfl (r0.below (hfA.trans (Fresh.alloc _ _)) (Nat.le_refl _)) (bv_one x0) (by unfold maxLen; omega) (by omega) (by simp) ?_); intro A3 c3 w3 ho3 hg3; rw [Nat.zero_add, List.nil_append] at ho3; have hf3 : Fresh w w3 := (hfA.trans (Fresh.alloc _ _)).append (Own.made wA 5 #[] 0 rfl (Nat.zero_le _)) hfA.size hg3))
        obtain ⟨g, cap, hv, hgb, hgl⟩ := World.ownsRow.form ho3 (by omega)
        injection hv with hA3 _ hcap
        subst hA3
        subst hcap
        have hA := hfA.size
        rw [hk]
        clear hg3 hk
        go_loopw [33] (fun i wr => ∃ j : Nat, j ≤ 4 ∧ i = .int .i64 j ∧ Own wr wA.heap.size 5 (some ⟨g, 0, none⟩) n0 c3 ((turn x0 k by_ j).map bv) ∧ Fresh w wr) (fun i _ => 4 - (intOf i).toNat)
        case atStart => exact ⟨0, by omega, rfl, ho3, hf3⟩
        case round =>
          obtain ⟨j, hj, rfl, ho, hf⟩ := hrel
          by_cases hlt : j < 4
          · have hx : x0[k + j]? = some (x0.getD (k + j) 0) := by
              rw [List.getD_eq_getElem?_getD, List.getElem?_eq_getElem (by have := HLX.out; omega)]; rfl
            have hxt : (turn x0 k by_ j)[k + j]? = some (x0.getD (k + j) 0) := by rw [turn_ahead _ _ _ _ _ (by omega)]; exact hx
            have hcx : wr.cell? ⟨g, k + j, none⟩ = some (.int .u8 ((x0.getD (k + j) 0).toNat : Nat)) := by
              rw [World.ownsRow.cellAt ho (k + j) (by omega), List.getElem?_map, hxt]; rfl
            have hfz := World.ownsRow.frozenAt ho (k + j)
            have hxb := (x0.getD (k + j) 0).toNat_lt
            have hso := Own.store ho (k + j) (by omega) (bv (UInt8.ofNat ((x0.getD (k + j) 0).toNat ^^^ (by_ / 256 ^ j % 256))))
            rw [← List.map_set, bv_turn _ _ _ hxb] at hso
            generalize hX : x0.getD (k + j) 0 = X at *
            have e1 := u8_turn X.toNat by_ j hxb
            have HX := Lib.hid hX
            have HSO := Lib.hid hso
            have HO := Lib.hid ho
            clear hX hso ho hx hxt r0 ho3
            go_wp2
            go_region
            go_wp2
            go_roundw
            case rel => exact ⟨j + 1, by omega, by go_num, by rw [turn, HX.out]; exact HSO.out, (hf.but (by omega) (But.put _ _)).trans (Fresh.drew _)⟩
            case measure => simp [intOf]; omega
          · have h4 : j = 4 := by omega
            subst h4
            go_wp2_with (first
              | (go_at_call 13; (with_reducible refine (of_one (some ⟨g, 0, none⟩) n0 _ (turn x0 k by_ 4) wr wr.heap.size s1 ho.rd (Nat.le_refl _) (by omega) HS1.out _ rfl).mono ?_); rintro e w5 ⟨rfl, hf5⟩; have hg5 : Fresh w w5 := (hf.trans (Fresh.alloc _ _)).trans hf5)
              | (go_at_call 13; (with_reducible refine (of_one A0 n0 c0 x0 w5 w.heap.size s0 (r0.below hg5 (Nat.le_refl _)) hg5.size (by omega) H0.out _ rfl).mono ?_); rintro e w6 ⟨rfl, hf6⟩; have hg6 : Fresh w w6 := (hg5.trans (Fresh.alloc _ _)).trans hf6))
            go_ret
            exact ⟨congrArg (fun v => Ending.returned (.bool v)) HD.out, hg6⟩
end Go.Proofs.Ythbgfmokhofehaa.crcTurned
