/-
  The walk of the law HuffCodes. My own text.
-/
import Derived.Test.YtdcdkafpmnlgoaaHuffRef
import Derived.Test.YtdcdkafpmnlgoaaOpen
import Derived.Deep.DeepCutAuto
namespace Go.Proofs.Ytdcdkafpmnlgoaa.huffCodes
open Go.RowKit Go.Proofs.Ytdcdkafpmnlgoaa.base Go.Proofs.Ytdcdkafpmnlgoaa.num Go.Proofs.Ytdcdkafpmnlgoaa.bitnum Go.Proofs.Ytdcdkafpmnlgoaa.bitp Go.Proofs.Ytdcdkafpmnlgoaa.huffnum Go.Proofs.Ytdcdkafpmnlgoaa.huffp
set_option linter.unusedVariables false

theorem Fs_of {ls : List Nat} {s m : Nat} (h : ls[s]? = some m) (h15 : m ≤ 15) : Fs ls 16 0 s = if 1 ≤ m then (m, cd ls s m) else (0, 0) := by
  unfold Fs
  rw [h]
  simp only
  by_cases h1 : 1 ≤ m
  · rw [if_pos ⟨h1, .inl (by omega)⟩, if_pos h1]
  · rw [if_neg (by omega), if_neg h1]
theorem refNew_over (A : Option Addr) (n c : Nat) (zs : List Int) (ls : List Nat) (w : World) (B : Nat) (hr : Rd w B A n (zs.map iv)) (hB : B ≤ w.heap.size) (hn : n ≤ 320) (hm : May zs) (hls : zs.map Int.toNat = ls) (ho : 32768 < tx ls 15) :
    Calls Try.prog 9 #[.slice A n c] w fun e w' => ∃ A, e = .returned (.agg #[.slice A ls.length ls.length, .int .i64 2]) ∧ Fresh w w' := by
  refine (refNew_any A n c zs ls w B hr hB hn hm hls).mono ?_
  rintro e w' ⟨hf, (⟨_, A, he⟩ | ⟨h, _⟩)⟩
  · exact ⟨A, he, hf⟩
  · omega
theorem refNew_ok (A : Option Addr) (n c : Nat) (zs : List Int) (ls : List Nat) (w : World) (B : Nat) (hr : Rd w B A n (zs.map iv)) (hB : B ≤ w.heap.size) (hn : n ≤ 320) (hm : May zs) (hls : zs.map Int.toNat = ls) (ho : tx ls 15 ≤ 32768) (F : Nat) (hF : (if tx ls 15 < 32768 then 1 else 0) = F) (hln : ls.length = n) :
    Calls Try.prog 9 #[.slice A n c] w fun e w' => ∃ L R, e = .returned (.agg #[.slice (some ⟨L, 0, none⟩) n n, .int .i64 (F : Nat)]) ∧ Bits w' L ls R 16 0 ∧ Fresh w w' := by
  refine (refNew_any A n c zs ls w B hr hB hn hm hls).mono ?_
  rintro e w' ⟨hf, (⟨h, _⟩ | ⟨_, A, L, R, F', he, hF', ha⟩)⟩
  · omega
  · rw [ha.at_, hF', hF, hln] at he
    exact ⟨L, R, he, ha.all, hf⟩
/-- a code's bit, the highest first -/
theorem high_bit {m C r : Nat} (hr : r < m) : (lb m (rev m C))[r]? = some (C / 2 ^ (m - 1 - r) % 2) := by
  rw [← lb_reverse, List.getElem?_reverse (by rw [lb_len]; exact hr), lb_len, lb_get (by omega)]
theorem high_step {m C r : Nat} (hC : C < 2 ^ m) (hr : r < m) : 2 * (C / 2 ^ (m - r)) + C / 2 ^ (m - 1 - r) % 2 = C / 2 ^ (m - (r + 1)) := by
  have h := top_step (u := C) (n := m) (j := m - 1 - r) (by omega)
  rw [Nat.mod_eq_of_lt hC, show m - 1 - r + 1 = m - r by omega] at h
  rw [h, show m - 1 - r = m - (r + 1) by omega]

set_option maxRecDepth 100000 in
set_option maxHeartbeats 4000000 in
theorem huffCodes_walk (A0 : Option Addr) (n0 c0 : Nat) (z0 : List Int) (w : World) (r0 : InRow .i64 w A0 n0 c0 z0) :
    Calls Try.prog 3 #[.slice A0 n0 c0] w fun e w' => e = .returned (.bool true) ∧ Below w.heap.size w w' := by
  obtain ⟨hr0, hn0, hm0, hz0⟩ := r0
  have hr : Rd w w.heap.size A0 n0 (z0.map iv) := hr0
  have hlz : z0.length = n0 := by have := hr0.1; rwa [List.length_map] at this
  have hm : n0 ≤ maxLen := by omega
  have HM := Lib.hid hm
  unfold maxLen at hm
  clear hr0 hz0 hm0
  by_cases hbig : 400 < n0
  · go_enter Try.func3, Try.ntmps3
    go_wp2_with (go_at_call 6; refine (wakes_any _).mono ?_; rintro e wA ⟨rfl, hfA⟩)
    go_ret
    exact ⟨rfl, hfA⟩
  · have HR := Lib.hid hr
    by_cases hmay : May z0 ∧ n0 ≤ 320
    · have hls : ∀ n ∈ z0.map Int.toNat, n ≤ 15 := by
        intro n hn
        obtain ⟨z, hz, rfl⟩ := List.mem_map.1 hn
        have := hmay.1 z hz; omega
      have hll : (z0.map Int.toNat).length = n0 := by rw [List.length_map, hlz]
      obtain ⟨ls, hlse⟩ : ∃ ls, z0.map Int.toNat = ls := ⟨_, rfl⟩
      rw [hlse] at hls hll
      obtain ⟨hmay, hn320⟩ := hmay
      have HLSE := Lib.hid hlse
      have HLL := Lib.hid hll
      have HLS := Lib.hid hls
      have HMAY := Lib.hid hmay
      clear hlse hll hls hmay hlz hr
      by_cases hov : 32768 < tx ls 15
      · have HOV := Lib.hid hov
        clear hov
        go_enter Try.func3, Try.ntmps3
        go_wp2_with (first
          | (go_at_call 6; refine (wakes_any _).mono ?_; rintro e wA ⟨rfl, hfA⟩)
          | (go_at_call 7; refine (new_over A0 n0 c0 z0 ls wA w.heap.size (HR.out.below hfA (Nat.le_refl _)) hfA.size (by omega) HMAY.out HLSE.out HOV.out).mono ?_; rintro e w1 ⟨rfl, hf1⟩; have hfB := hfA.trans hf1)
          | (go_at_call 8; refine (may_any A0 n0 c0 z0 w1 w.heap.size (HR.out.below hfB (Nat.le_refl _)) HM.out true ⟨fun _ => ⟨HMAY.out, by omega⟩, fun _ => rfl⟩).mono ?_; rintro e wB ⟨rfl, rfl⟩)
          | (go_at_call 9; refine (refNew_over A0 n0 c0 z0 ls w1 w.heap.size (HR.out.below hfB (Nat.le_refl _)) hfB.size (by omega) HMAY.out HLSE.out HOV.out).mono ?_; rintro e w2 ⟨A2, rfl, hf2⟩))
        go_ret
        exact ⟨rfl, (hfB.trans hf2).trans (Fresh.alloc _ _)⟩
      · have HOV : Hid (tx ls 15 ≤ 32768) := Nat.not_lt.1 hov
        obtain ⟨F0, hF0⟩ : ∃ F0, (if tx ls 15 < 32768 then 1 else 0) = F0 := ⟨_, rfl⟩
        have hF1 : F0 ≤ 1 := by rw [← hF0]; split <;> omega
        have HF0 := Lib.hid hF0
        clear hov hF0
        go_enter Try.func3, Try.ntmps3
        go_upto_region 11 with (first
          | (go_at_call 6; refine (wakes_any _).mono ?_; rintro e wA ⟨rfl, hfA⟩)
          | (go_at_call 7; refine (new_ok A0 n0 c0 z0 ls wA w.heap.size (HR.out.below hfA (Nat.le_refl _)) hfA.size (by omega) HMAY.out HLSE.out HOV.out).mono ?_; rintro e w1 ⟨g, bl, rfl, hC1, hS1⟩; have hfB := hfA.trans hS1.1)
          | (go_at_call 8; refine (may_any A0 n0 c0 z0 w1 w.heap.size (HR.out.below hfB (Nat.le_refl _)) HM.out true ⟨fun _ => ⟨HMAY.out, by omega⟩, fun _ => rfl⟩).mono ?_; rintro e wB ⟨rfl, rfl⟩)
          | (go_at_call 9; refine (refNew_ok A0 n0 c0 z0 ls w1 w.heap.size (HR.out.below hfB (Nat.le_refl _)) hfB.size (by omega) HMAY.out HLSE.out HOV.out F0 HF0.out HLL.out).mono ?_; rintro e w2 ⟨L, R, rfl, hB2, hf2⟩))
        obtain ⟨X, hX⟩ : ∃ X, w2.heap.size = X := ⟨_, rfl⟩
        have hXb := Bk.made w2 tRef #[.slice (some ⟨L, 0, none⟩) n0 n0, .int .i64 (F0 : Nat)]
        have hfX := Fresh.alloc w2 (.cells #[.slice (some ⟨L, 0, none⟩) n0 n0, .int .i64 (F0 : Nat)] tRef)
        rw [hX] at hXb ⊢
        have hCX := ((hC1.fresh hf2).fresh hfX).fresh (Fresh.drew _)
        have hBX := (hB2.fresh hfX).fresh (Fresh.drew _)
        have hXX := hXb.fresh (Fresh.drew _)
        have hfw := ((hfB.trans hf2).trans hfX).trans (Fresh.drew _)
        have hX1 : (w2.alloc (.cells #[.slice (some ⟨L, 0, none⟩) n0 n0, .int .i64 (F0 : Nat)] tRef)).drew.cell? ⟨X, 1, none⟩ = some (.int .i64 (F0 : Nat)) := hXX.cell rfl
        clear hX hXb hB2 hC1 hf2 hS1 hfB hfX
        go_cut [50] (fun s wx => s = .bool false ∧ CodeAt wx g ls bl ∧ Bits wx L ls R 16 0 ∧ Bk wx X tRef [.slice (some ⟨L, 0, none⟩) n0 n0, .int .i64 (F0 : Nat)] ∧ Fresh w wx)
        case first =>
          go_region_with (go_at_call 10; refine (fill_is g ls bl _ _ hCX rfl F0 HF0.out.symm).mono ?_; rintro e w3 ⟨rfl, rfl⟩)
          all_goals go_wp2
          all_goals go_meet
          all_goals exact ⟨rfl, hCX, hBX, hXX, hfw⟩
        case rest =>
          obtain ⟨rfl, hC4, hB4, hX4, hf4⟩ := hcut
          clear hCX hBX hXX hfw hX1
          go_wp2
          go_loopw [6] (fun i wr => ∃ j : Nat, j ≤ n0 + 2 ∧ i = .int .i64 ((j : Int) - 1) ∧ CodeAt wr g ls bl ∧ Bits wr L ls R 16 0 ∧ Bk wr X tRef [.slice (some ⟨L, 0, none⟩) n0 n0, .int .i64 (F0 : Nat)] ∧ Fresh w wr) (fun i _ => n0 + 2 - (intOf i + 1).toNat)
          case atStart => exact ⟨0, by omega, rfl, hC4, hB4, hX4, hf4⟩
          case round =>
            obtain ⟨j, hj, rfl, hC, hB, hX, hf⟩ := hrel
            by_cases h0 : j = 0
            · subst h0
              go_wp2_with (go_at_call 11; refine (code_out g ls bl _ _ hC (.inl (by omega))).mono ?_; rintro e w5 ⟨rfl, rfl⟩)
              all_goals exact ⟨⟨1, by omega, by go_num, hC, hB, hX, hf⟩, by first | (simp [intOf]; done) | (simp [intOf]; omega)⟩
            · obtain ⟨s, rfl⟩ : ∃ s, j = s + 1 := ⟨j - 1, by omega⟩
              have e1 : ((s + 1 : Nat) : Int) - 1 = (s : Int) := by omega
              rw [e1]
              clear e1
              by_cases hlt : s < n0
              · obtain ⟨b, off, z, rfl, hb, hx, hcx⟩ := (HR.out.below hf (Nat.le_refl _)).at_ hlt
                have hzb := HMAY.out z (List.mem_of_getElem? hx)
                obtain ⟨m, rfl⟩ := Int.eq_ofNat_of_zero_le hzb.1
                have hm15 : m ≤ 15 := by omega
                have hlm : ls[s]? = some m := by rw [← HLSE.out, List.getElem?_map, hx]; rfl
                have hfs := Fs_of hlm hm15
                have hslen : s < ls.length := by rw [HLL.out]; exact hlt
                have HX := Lib.hid hlm
                have hs0 : (0 : Int) ≤ (s : Int) := by omega
                have hs1 : (s : Int) < (n0 : Int) := by omega
                clear hx hzb hlm
                by_cases hm0 : m = 0
                · subst hm0
                  rw [if_neg (by omega)] at hfs
                  go_wp2_with (go_at_call 11; refine (code_in g ls bl s 0 0 _ hC hslen hfs).mono ?_; rintro e w5 ⟨rfl, hf5⟩; have hcx5 := (World.cell?_of_block (hf5.block b (World.block_lt_of_cell? _ _ hcx))).trans hcx)
                  all_goals exact ⟨⟨s + 2, by omega, by go_num, hC.fresh hf5, hB.fresh hf5, hX.fresh hf5, hf.trans hf5⟩, by simp [intOf]; omega⟩
                · rw [if_pos (by omega)] at hfs
                  have hCl := Nat.lt_of_lt_of_le (cd_lt HX.out (by omega)) (nx_le HOV.out hm15)
                  obtain ⟨C, hCe⟩ : ∃ C, cd ls s m = C := ⟨_, rfl⟩
                  rw [hCe] at hfs hCl
                  have hC32 : C < 32768 := by
                    have := Nat.pow_le_pow_right (n := 2) (by omega) hm15
                    simp only [Nat.reducePow] at this
                    omega
                  have HCE := Lib.hid hCe
                  have HCL := Lib.hid hCl
                  have hmb : ((m : Int) == 0) = false := by rw [beq_eq_false_iff_ne]; omega
                  have hsb : ((s : Int) == (n0 : Int)) = false := by rw [beq_eq_false_iff_ne]; omega
                  obtain ⟨hrl, bb, hra, hbk⟩ := hB.done s m HX.out (by omega) (.inl (by omega))
                  have hrow : (R s).val = .slice (some ⟨bb, 0, none⟩) m (R s).cap := by unfold Sl.val; rw [hra, hrl]
                  have HROW := Lib.hid hrow
                  clear hCe hCl hrl hra hrow
                  go_wp2_with (go_at_call 11; refine (code_in g ls bl s m C _ hC hslen hfs).mono ?_; rintro e w5 ⟨rfl, hf5⟩; have hcx5 := (World.cell?_of_block (hf5.block b (World.block_lt_of_cell? _ _ hcx))).trans hcx; have hX5 : w5.cell? ⟨X, 0, none⟩ = some (.slice (some ⟨L, 0, none⟩) n0 n0) := (hX.fresh hf5).cell rfl; have hL5 : w5.cell? ⟨L, s, none⟩ = some (.slice (some ⟨bb, 0, none⟩) m (R s).cap) := (by have := (hB.fresh hf5).rows.cell (i := s) (v := (R s).val) (by rw [List.getElem?_map, List.getElem?_range hslen]; rfl); rw [HROW.out] at this; exact this))
                  have hbk5 := hbk.fresh hf5
                  go_loopw [9, 90] (fun a i wr => ∃ (r p : Nat), r ≤ m ∧ i = .int .i64 r ∧ a = .int .i64 p ∧ Hid (p = C / 2 ^ (m - r)) ∧ p ≤ 32768 ∧ wr = w5) (fun _ i _ => m - (intOf i).toNat)
                  case atStart => exact ⟨0, 0, by omega, rfl, rfl, by show _ = _; rw [Nat.sub_zero, Nat.div_eq_of_lt HCL.out], by omega, rfl⟩
                  case round =>
                    obtain ⟨r, p, hr, rfl, rfl, hp, hpl, rfl⟩ := hrel
                    by_cases hlt2 : r < m
                    · obtain ⟨bt, hbt⟩ : ∃ bt, C / 2 ^ (m - 1 - r) % 2 = bt := ⟨_, rfl⟩
                      have hbt2 : bt < 2 := by omega
                      have hcb : wr.cell? ⟨bb, r, none⟩ = some (.int .i64 (bt : Nat)) := hbk5.cell (by rw [HCE.out, nv, List.getElem?_map, high_bit hlt2, hbt]; rfl)
                      have hst := high_step HCL.out hlt2
                      rw [hbt, ← hp.out] at hst
                      have hp2 : 2 * p + bt ≤ 32768 := by rw [hst]; exact Nat.le_trans (Nat.div_le_self _ _) (by omega)
                      have HST := Lib.hid hst
                      clear hst hbt
                      go_wp2
                      go_roundw
                      case rel => exact ⟨r + 1, 2 * p + bt, by omega, by go_num, by go_num, HST.out, hp2, trivial⟩
                      case measure => simp [intOf]; omega
                    · obtain rfl : r = m := by omega
                      obtain rfl : p = C := by rw [hp.out]; simp
                      go_wp2
                      all_goals exact ⟨⟨s + 2, by omega, by go_num, hC.fresh hf5, hB.fresh hf5, hX.fresh hf5, hf.trans hf5⟩, by simp [intOf]; omega⟩
              · by_cases hsn : s = n0
                · subst hsn
                  go_wp2_with (go_at_call 11; refine (code_out g ls bl _ _ hC (.inr (by rw [HLL.out]; omega))).mono ?_; rintro e w5 ⟨rfl, rfl⟩)
                  all_goals exact ⟨⟨s + 2, by omega, by go_num, hC, hB, hX, hf⟩, by simp [intOf]; omega⟩
                · obtain rfl : s = n0 + 1 := by omega
                  go_wp2
                  go_ret
                  exact ⟨rfl, hf⟩
    · have HMAY := Lib.hid hmay
      clear hmay
      go_enter Try.func3, Try.ntmps3
      go_wp2_with (first
        | (go_at_call 6; refine (wakes_any _).mono ?_; rintro e wA ⟨rfl, hfA⟩)
        | (go_at_call 7; refine (new_arg A0 n0 c0 z0 wA w.heap.size (HR.out.below hfA (Nat.le_refl _)) hfA.size HM.out HMAY.out).mono ?_; rintro e w1 ⟨rfl, hf1⟩)
        | (go_at_call 8; refine (may_any A0 n0 c0 z0 w1 w.heap.size (HR.out.below (hfA.trans hf1) (Nat.le_refl _)) HM.out false ⟨fun h => Bool.noConfusion h, fun h => absurd h HMAY.out⟩).mono ?_; rintro e wB ⟨rfl, rfl⟩))
      go_ret
      exact ⟨rfl, hfA.trans hf1⟩
end Go.Proofs.Ytdcdkafpmnlgoaa.huffCodes
