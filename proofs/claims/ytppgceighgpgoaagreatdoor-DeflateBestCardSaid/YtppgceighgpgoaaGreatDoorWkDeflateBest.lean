/-
  The walk of the law DeflateBest. My own text.
-/
import Derived.Test.YtppgceighgpgoaaGreatDoorDefBest
import Derived.Test.YtppgceighgpgoaaGreatDoorInfLaw
import Derived.Lib.SmallJoins
namespace Go.Proofs.YtppgceighgpgoaaGreatDoor.deflateBest
open Go.RowKit Go.Proofs.YtppgceighgpgoaaGreatDoor.base Go.Proofs.YtppgceighgpgoaaGreatDoor.num Go.Proofs.YtppgceighgpgoaaGreatDoor.bitp Go.Proofs.YtppgceighgpgoaaGreatDoor.infnum Go.Proofs.YtppgceighgpgoaaGreatDoor.infp Go.Proofs.YtppgceighgpgoaaGreatDoor.defp
set_option linter.unusedVariables false
theorem chop_one : chop 1 [97] = [1, 1, 0, 254, 255, 97] := by
  rw [chop_small 1 (by decide)]
  decide
theorem char_rd (w : World) : Rd ((w.alloc (.cells #[.int .u8 97] 5 (1, 2)))) (w.heap.size + 1) (some ⟨w.heap.size, 0, none⟩) 1 (([97] : List UInt8).map bv) := Rd.mark w #[.int .u8 97] 5 (1, 2)
set_option maxRecDepth 100000 in
set_option maxHeartbeats 4000000 in
theorem wakes_any (w : World) : Calls Tryz.prog 4 #[] w fun e w' => e = .returned (.bool true) ∧ Fresh w w' := by
  have hcv := Joins.run_convert_bytes_const_at (P := Tryz.prog) w 24 5 #[.int .u8 97] 1 1 w.heap.size rfl Tryz.underlying24 Tryz.underlying5
  go_enter Tryz.func4, Tryz.ntmps4
  go_wp2_with (first
    | (go_at_call 6; clear hcv; (with_reducible refine (pack_stored _ 1 1 [97] _ (w.heap.size + 1) (char_rd w) (by simp) (by omega) (Nat.le_refl _) (by unfold maxLen; omega)).mono ?_); rintro e w2 ⟨A1, m1, c1, rfl, hl1, ho1, hf1⟩; rw [chop_one] at hl1 ho1; subst hl1)
    | (go_at_call 7; refine (same_yes A1 _ 6 _ _ [1, 1, 0, 254, 255, 97] _ _ (w2.heap.size + 1) (Own.fresh ho1 (Fresh.alloc _ _)).rd (Rd.lit w2 #[.int .u8 1, .int .u8 1, .int .u8 0, .int .u8 254, .int .u8 255, .int .u8 97] 5) (by unfold maxLen; omega)).mono ?_; rintro e w5 ⟨rfl, hf5⟩))
  go_ret
  exact ⟨rfl, (((Fresh.alloc _ _).trans hf1).trans (Fresh.alloc _ _)).trans hf5⟩
set_option maxRecDepth 100000 in
set_option maxHeartbeats 8000000 in
theorem deflateBest_walk (A0 : Option Addr) (n0 c0 : Nat) (x0 : List Row) (w : World) (b0 : InRows w A0 n0 c0 x0) (hO : OrdD w) (hI : Ord w) :
    Calls Tryz.prog 3 #[.slice A0 n0 c0] w fun e w' => e = .returned (.bool true) ∧ Below w.heap.size w w' := by
  obtain ⟨i0, hi0, hz0, hz1, hz2⟩ := info_parts info_byte
  obtain ⟨r0, hc0, hm0, hlen⟩ := b0
  have hg : 0 < w.heap.size := World.block_lt_of_cell? w _ (hO 0 16 rfl)
  have hgi : 1 < w.heap.size := Ord.in hI
  have hl : x0.length = n0 := by have := r0.1.1; rwa [List.length_map] at this
  have HLEN := Lib.hid hlen
  have HL := Lib.hid hl
  have HR0 := Lib.hid r0
  have HO := Lib.hid hO
  have HI := Lib.hid hI
  unfold maxLen at hm0
  clear hlen hl r0 hO hI
  by_cases hs : 20 < n0
  · go_enter Tryz.func3, Tryz.ntmps3
    go_wp2_with (go_at_call 4; refine (wakes_any _).mono ?_; rintro e wA ⟨rfl, hfA⟩)
    go_ret
    exact ⟨rfl, hfA⟩
  go_enter Tryz.func3, Tryz.ntmps3
  go_wp2_with (go_at_call 4; refine (wakes_any _).mono ?_; rintro e wA ⟨rfl, hfA⟩)
  go_loopw [3, 20] (fun va vi wr => ∃ (j na ca : Nat) (Aa : Option Addr), j ≤ n0 ∧ vi = .int .i64 j ∧ va = .slice Aa na ca ∧ na ≤ 200 * j ∧ Own wr w.heap.size 5 Aa na ca ((allOf (x0.take j)).map bv) ∧ Fresh w wr) (fun _ i _ => n0 - (intOf i).toNat)
  case atStart => exact ⟨0, 0, 0, none, Nat.zero_le _, rfl, rfl, Nat.zero_le _, Own.nil _ _ _, hfA⟩
  case round =>
    obtain ⟨j, na, ca, Aa, hj, rfl, rfl, hna, hoa, hfr⟩ := hrel
    have hsz := hfr.size
    by_cases hlt : j < n0
    · have hjl : (j : Int) < (n0 : Int) := by omega
      have hw := HR0.out.fresh (Nat.le_refl _) hfr
      obtain ⟨b, off, x, rfl, hb, hx, hcx⟩ := hw.1.at_ hlt
      have hr := hw.2 x (List.mem_of_getElem? hx)
      have hst : allOf (x0.take (j + 1)) = allOf (x0.take j) ++ x.bs := by rw [List.take_add_one, hx]; exact allOf_snoc _ _
      obtain ⟨hlc, hcm⟩ := HLEN.out x (List.mem_of_getElem? hx)
      have HST := Lib.hid hst
      clear hx hw hst
      obtain ⟨xa, xl, xc, xb⟩ := x
      simp only [Row.val] at hcx
      simp only at hr hlc hcm HST
      unfold maxLen at hcm
      by_cases hbig : 200 < xl
      · go_wp2
        go_ret
        exact ⟨rfl, hfr⟩
      · have HR := Lib.hid hr
        have HOA := Lib.hid hoa
        clear hr hoa
        go_wp2_with (at_builtin; refine wpList_append_rd _ rfl (.tmp 29) (.tmp 33) 24 rfl w.heap.size 5 i0 _ 1 Tryz.underlying24 hi0 hz0 hz1 hz2 rfl Aa na ca _ rfl HOA.out w.heap.size xa xl xc (xb.map bv) rfl HR.out (bv_one xb) (by unfold maxLen; omega) (by omega) hsz ?_; intro A1 c1 w1 ho1 hg1; rw [← List.map_append, ← HST.out] at ho1; have hf1 := hfr.append HOA.out (Nat.le_refl _) hg1; clear hg1)
        go_roundw
        case rel => exact ⟨j + 1, na + xl, c1, A1, by omega, by go_num, rfl, by omega, ho1, hf1⟩
        case measure => simp [intOf]; omega
    · have hjn : j = n0 := by omega
      subst hjn
      rename World => w0
      obtain ⟨b, hb⟩ : ∃ b, allOf x0 = b := ⟨_, rfl⟩
      rw [List.take_of_length_le (Nat.le_of_eq HL.out), hb] at hoa
      have hbl : b.length = na := by have := hoa.1; rw [List.length_map, Nat.mul_one] at this; exact this
      have hbest := best_any A0 j c0 x0 b hb w0 (by have h1 := HR0.out.fresh (Nat.le_refl _) hfr; exact ⟨h1.1.up hsz, fun r hr' => (h1.2 r hr').up hsz⟩) (by omega) (by omega) (HO.out.keep (hfr.block _ hg))
      have HBEST := Lib.hid hbest
      have HOA := Lib.hid hoa
      have HFR := Lib.hid hfr
      have HBL := Lib.hid hbl
      have hcapA := hoa.cap
      clear hbest hoa hfr hbl hb
      go_wp2_with (go_at_call 5; (with_reducible refine HBEST.out.mono ?_); rintro e wB ⟨how, m, cp, Ap, p, rfl, hh2, hway, hpm, hleast, hop, hfB⟩; have HWAY := Lib.hid hway; have HPM := Lib.hid hpm; have HLEAST := Lib.hid hleast; have HOP := Lib.hid hop; have HFB := Lib.hid hfB; clear hway hpm hleast hop hfB)
      go_loopw [41] (fun vk wr => ∃ (k : Nat), vk = .int .i64 k ∧ k ≤ 3 ∧ Hid (Fresh wB wr)) (fun vk _ => 3 - (intOf vk).toNat)
      case atStart => exact ⟨0, rfl, Nat.zero_le _, Lib.hid (Fresh.refl _)⟩
      case round =>
        obtain ⟨k, rfl, hk3, HF⟩ := hrel
        by_cases hlk : k < 3
        · have hkl : (k : Int) < 3 := by omega
          have hpk := pack_way Aa na ca b k wr wr.heap.size ((HOA.out.fresh (HFB.out.trans HF.out)).rd) (Nat.le_refl _) (by omega) hcapA.1 hcapA.2 (HO.out.keep (((HFR.out.trans HFB.out).trans HF.out).block _ hg)) (by omega)
          have HPK := Lib.hid hpk
          clear hpk
          by_cases hkh : k = how
          · subst hkh
            have hkk : ¬ (k : Int) < (k : Int) := by omega
            have hmm : ¬ (m : Int) < (m : Int) := by omega
            have hpq : Calls Tryz.prog 6 #[.slice Aa na ca, .int .i64 (k : Nat)] wr fun e w' => ∃ Aq cq, e = .returned (.tuple #[.slice Aq m cq, .int .i64 0]) ∧ Own w' wr.heap.size 5 Aq m cq (p.map bv) ∧ Fresh wr w' := HPK.out.mono (by
              rintro e w' ⟨Aq, mq, cq, q, rfl, hwq, hqm, hoq, hfq⟩
              obtain rfl := HWAY.out.uniq hwq
              rw [HPM.out] at hqm
              subst hqm
              exact ⟨Aq, cq, rfl, hoq, hfq⟩)
            have hmx : m ≤ maxLen := by have := HOP.out.cap; omega
            have HPQ := Lib.hid hpq
            clear hpq
            go_wp2_with (first
              | (go_at_call 6; (with_reducible refine HPQ.out.mono ?_); rintro e wP ⟨Aq, cq, rfl, hoq, hfq⟩; have hsm := same_yes Ap Aq m cp cq p wP _ _ ((HOP.out.fresh (HF.out.trans hfq)).rd) hoq.rd hmx; have HSM := Lib.hid hsm; have HFQ := Lib.hid (HF.out.trans hfq); clear hsm hoq hfq)
              | (go_at_call 7; (with_reducible refine HSM.out.mono ?_); rintro e wS ⟨rfl, hfS⟩))
            refine ⟨⟨k + 1, rfl, hlk, Lib.hid (HFQ.out.trans hfS)⟩, ?_⟩
            show 3 - ((k : Int) + 1).toNat < 3 - ((k : Int)).toNat
            omega
          · have hkb : ((k : Int) == (how : Int)) = false := by rw [beq_eq_false_iff_ne]; omega
            by_cases hklt : k < how
            · have hki : (k : Int) < (how : Int) := by omega
              go_wp2_with (go_at_call 6; (with_reducible refine HPK.out.mono ?_); rintro e wP ⟨Aq, mq, cq, q, rfl, hwq, hqm, hoq, hfq⟩; obtain ⟨hl1, hl2⟩ := HLEAST.out k q (by omega) hwq; rw [hqm] at hl1 hl2; have hl3 := hl2 hklt; have hq1 : ¬ (mq : Int) < (m : Int) := (by omega); have hq2 : ((mq : Int) == (m : Int)) = false := (by rw [beq_eq_false_iff_ne]; omega); have HFQ := Lib.hid (HF.out.trans hfq); clear hoq hfq hwq hqm hl1 hl2)
              refine ⟨⟨k + 1, rfl, hlk, HFQ⟩, ?_⟩
              show 3 - ((k : Int) + 1).toNat < 3 - ((k : Int)).toNat
              omega
            · have hki : ¬ (k : Int) < (how : Int) := by omega
              go_wp2_with (go_at_call 6; (with_reducible refine HPK.out.mono ?_); rintro e wP ⟨Aq, mq, cq, q, rfl, hwq, hqm, hoq, hfq⟩; obtain ⟨hl1, hl2⟩ := HLEAST.out k q (by omega) hwq; rw [hqm] at hl1; have hq1 : ¬ (mq : Int) < (m : Int) := (by omega); have HFQ := Lib.hid (HF.out.trans hfq); clear hoq hfq hwq hqm hl1 hl2)
              refine ⟨⟨k + 1, rfl, hlk, HFQ⟩, ?_⟩
              show 3 - ((k : Int) + 1).toNat < 3 - ((k : Int)).toNat
              omega
        · obtain rfl : k = 3 := by omega
          rename World => wl
          have hpd := HWAY.out.packed (by rw [HBL.out]; omega)
          rw [HPM.out] at hpd
          obtain ⟨_, hun, hm1, hm2⟩ := hpd
          have hal := all_ok Ap m cp p wl wl.heap.size ((HOP.out.fresh HF.out).rd) (Nat.le_refl _) hm2 (HI.out.keep (((HFR.out.trans HFB.out).trans HF.out).block _ hgi)) (na : Int) na rfl (by omega) b na m ⟨hun, by rw [HBL.out]; exact Nat.le_refl _⟩ HBL.out
          have HAL := Lib.hid hal
          clear hal hun
          go_wp2_with (first
            | (go_at_call 8; (with_reducible refine HAL.out.mono ?_); rintro e wE ⟨Ay, cy, rfl, hoY, hfE⟩; have hsm := same_yes Ay Aa na cy ca b wE _ _ hoY.rd ((HOA.out.fresh ((HFB.out.trans HF.out).trans hfE)).rd) (by unfold maxLen; omega); have HSM := Lib.hid hsm; have HFE := Lib.hid hfE; clear hsm hoY hfE)
            | (go_at_call 7; (with_reducible refine HSM.out.mono ?_); rintro e wI ⟨rfl, hfI⟩))
          go_ret
          exact ⟨rfl, (((HFR.out.trans HFB.out).trans HF.out).trans HFE.out).trans hfI⟩
end Go.Proofs.YtppgceighgpgoaaGreatDoor.deflateBest
