/-
  The walk of the law WalPuts. My own text.
-/
import Derived.Test.YtcfijppfccfbdaaWalLaw
import Derived.Test.YtcfijppfccfbdaaWalRef2
import Derived.Test.YtcfijppfccfbdaaWalSame
import Derived.Test.YtcfijppfccfbdaaWalOpen
namespace Go.Proofs.Ytcfijppfccfbdaa.walPuts
open Go.RowKit Go.Proofs.Ytcfijppfccfbdaa.base Go.Proofs.Ytcfijppfccfbdaa.num Go.Proofs.Ytcfijppfccfbdaa.word Go.Proofs.Ytcfijppfccfbdaa.waln Go.Proofs.Ytcfijppfccfbdaa.walp
set_option linter.unusedVariables false

theorem Rd.head {w : World} {B n m : Nat} {A : Option Addr} {bs : List UInt8} (h : Rd w B A n (bs.map bv)) (hm : m ≤ n) : Rd w B A m ((bs.take m).map bv) := by
  have hl := Rd.len8 h
  refine ⟨by rw [List.length_map, List.length_take]; omega, fun h0 => ?_⟩
  obtain ⟨b, off, e, hb, hc⟩ := h.2 (by omega)
  refine ⟨b, off, e, hb, fun j u hu => hc j u ?_⟩
  rw [List.map_take, List.getElem?_take] at hu
  split at hu
  · exact hu
  · cases hu

set_option maxRecDepth 100000 in
set_option maxHeartbeats 2000000 in
theorem walPuts_walk (A0 : Option Addr) (n0 c0 : Nat) (l0 : List walp.Wp) (A1 : Option Addr) (n1 c1 : Nat) (x1 : List UInt8) (a2 : Int) (w : World) (b0 : walp.InWs w A0 n0 c0 l0) (b1 : InBytes w A1 n1 c1 x1) (w2 : (Lit.int .u16 a2).wf = true) :
    Calls Try.prog 3 #[.slice A0 n0 c0, .slice A1 n1 c1, .int .u16 a2] w fun e w' => e = .returned (.bool true) ∧ Below w.heap.size w w' := by
  obtain ⟨i0, hi0, hz0, hz1, hz2⟩ := info_parts word.byte_info
  obtain ⟨r0, hc0, hm0⟩ := b0
  obtain ⟨r1, hc1, hm1⟩ := b1
  have h2 : 0 ≤ a2 ∧ a2 ≤ 65535 := by simpa [Lit.wf, IntKind.min, IntKind.max, IntKind.signed, IntKind.bits] using w2
  obtain ⟨cut, rfl⟩ := Int.eq_ofNat_of_zero_le h2.1
  unfold maxLen at hm0 hm1
  have HW := Lib.hid (wakes_any w)
  have hcw : IntKind.i64.wrap (cut : Int) = (cut : Int) := by rw [IntKind.wrap_i64]; omega
  clear w2
  by_cases hbig : 20 < n0
  · have hd : decide (20 < (n0 : Int)) = true := decide_eq_true (by omega)
    clear r0 r1
    go_enter Try.func3, Try.ntmps3
    go_wp2_with (go_at_call 7; (refine HW.out.mono ?_); rintro e w1 ⟨rfl, hf1⟩)
    go_ret
    exact ⟨rfl, hf1⟩
  · by_cases hmore : 100 < n1
    · have hd : decide (20 < (n0 : Int)) = false := decide_eq_false (by omega)
      have hd2 : decide (100 < (n1 : Int)) = true := decide_eq_true (by omega)
      clear r0 r1
      go_enter Try.func3, Try.ntmps3
      go_wp2_with (go_at_call 7; (refine HW.out.mono ?_); rintro e w1 ⟨rfl, hf1⟩)
      go_ret
      exact ⟨rfl, hf1⟩
    · have hd : decide (20 < (n0 : Int)) = false := decide_eq_false (by omega)
      have hd2 : decide (100 < (n1 : Int)) = false := decide_eq_false (by omega)
      have HL0 := Lib.hid r0.1
      have HR0 := Lib.hid r0
      have HR1 := Lib.hid r1
      clear r0 r1
      go_enter Try.func3, Try.ntmps3
      go_wp2_with (go_at_call 7; (refine HW.out.mono ?_); rintro e w1 ⟨rfl, hf1⟩)
      go_loopw [27] (fun i wr => ∃ (k : Nat), k ≤ n0 ∧ i = .int .i64 k ∧ Hid (∀ p ∈ l0.take k, p.n ≤ 600) ∧ Fresh w wr) (fun i _ => n0 - (intOf i).toNat)
      case atStart => exact ⟨0, by omega, rfl, Lib.hid (fun p hp => by simp at hp), hf1⟩
      case round =>
        obtain ⟨k, hk, rfl, hR, hfr⟩ := hrel
        by_cases hlt : k < n0
        · obtain ⟨bb, off, s, rfl, hbb, hs, hrow, hrd, hok⟩ := (HR0.out.fresh hfr).at_ hlt
          have hsn : Hid (s.n ≤ 600 → ∀ p ∈ l0.take (k + 1), p.n ≤ 600) := Lib.hid (fun h6 p hp => by
            rw [take_snoc _ _ _ hs] at hp
            rcases List.mem_append.1 hp with hp | hp
            · exact hR.out p hp
            · rw [List.mem_singleton] at hp
              subst hp
              exact h6)
          have hcap := hok.cap
          unfold maxLen at hcap
          obtain ⟨no, sA, sn, sc, sbs⟩ := s
          simp only at hcap hsn
          have hRG : Hid (wr.rangeAt bb (off + k * 2) [.int .i64 no, .slice sA sn sc]) := Lib.hid hrow
          have hij : (k : Int) < (n0 : Int) := by omega
          have hfw := Lib.hid (hfr.trans (Fresh.alloc wr (.cells #[.int .i64 no, .slice sA sn sc] tWrite)))
          clear hrow hs hok hrd hR
          by_cases h6 : 600 < sn
          · go_wp2_with ((with_reducible (refine at_slot_ 30 ?_)); refine wpList_load_mid rfl tWrite (.tmp 29) rfl bb (off + k * 2) rfl [.int .i64 no, .slice sA sn sc] _ hRG.out Try.underlying27 rfl size_write ?_)
            go_ret
            exact ⟨rfl, hfw.out⟩
          · have h6' := Lib.hid (hsn.out (by omega))
            go_wp2_with ((with_reducible (refine at_slot_ 30 ?_)); refine wpList_load_mid rfl tWrite (.tmp 29) rfl bb (off + k * 2) rfl [.int .i64 no, .slice sA sn sc] _ hRG.out Try.underlying27 rfl size_write ?_)
            go_roundw
            case rel => exact ⟨k + 1, by omega, by go_num, h6', hfw.out⟩
            case measure => simp [intOf]; omega
        · obtain rfl : k = n0 := by omega
          cases hrt : right (l0.map Wp.pg) with
          | false =>
            have HP := Lib.hid (put_no A0 k c0 l0 wr wr.heap.size (HR0.out.fresh hfr) (Nat.le_refl _) hrt)
            have HQ := Lib.hid (fun (W : World) (hf : Fresh w W) => right_any A0 k c0 l0 W W.heap.size (HR0.out.fresh hf) (Nat.le_refl _) (by omega) _ hrt)
            have HF := Lib.hid hfr
            clear hR hfr
            go_wp2_with (first
              | (go_at_call 8; (refine HP.out.mono ?_); rintro e w3 ⟨rfl, hf3⟩; have HF3 := Lib.hid (HF.out.trans hf3); clear hf3)
              | (go_at_call 9; (refine (HQ.out _ HF3.out).mono ?_); rintro e w4 ⟨rfl, hf4⟩))
            go_ret
            exact ⟨rfl, HF3.out.trans hf4⟩
          | true =>
            obtain ⟨N, hN⟩ : ∃ N, 12 + 516 * k = N := ⟨_, rfl⟩
            have hNi : (12 + 516 * (k : Int)) = (N : Int) := by omega
            have hN0 : 0 < N := by omega
            have hNb : N ≤ 20000 := by omega
            obtain ⟨ra, rb, rc⟩ := right_all hrt
            have hbl := batch_len (l0.map Wp.pg) ra
            rw [List.length_map, HL0.out, hN] at hbl
            have HP := Lib.hid (put_ok A0 k c0 l0 wr (HR0.out.fresh hfr) (by omega) hrt N hN)
            have HQ := Lib.hid (fun (W : World) (hf : Fresh w W) => right_any A0 k c0 l0 W W.heap.size (HR0.out.fresh hf) (Nat.le_refl _) (by omega) _ hrt)
            have HBY := Lib.hid (fun (W : World) (hf : Fresh w W) => refBytes_any A0 k c0 l0 W (HR0.out.fresh hf) (by omega) hrt N hN)
            have HS := Lib.hid (fun W : World => size_nat k k W (by omega) rfl (N : Int) (by omega))
            have HG := Lib.hid (fun (W : World) (A : Option Addr) (c B : Nat) (ho : base.Own W B tB A (N + n1) c ((batch (l0.map Wp.pg) ++ x1).map bv)) => walp.get_ok A (N + n1) c _ W ho.rd ho.cap.1 ho.cap.2 (by omega) _ (get_batch _ hrt x1))
            obtain ⟨q, hq⟩ : ∃ q, q = cut % N := ⟨_, rfl⟩
            have hqN : q < N := by rw [hq]; exact Nat.mod_lt _ hN0
            have hqi : (cut : Int).tmod (N : Int) = (q : Int) := by rw [hq]; rfl
            have hqj : (cut : Int) % (N : Int) = (q : Int) := by rw [hq]; rfl
            have HC := Lib.hid (fun (W : World) (A : Option Addr) (c d B : Nat) (hd : q ≤ d) (hdm : d ≤ maxLen) (ho : base.Own W B tB A N c ((batch (l0.map Wp.pg)).map bv)) => get_no A q d _ W (Rd.head ho.rd (Nat.le_of_lt hqN)) hd hdm (by omega) 3 3 rfl (get_cut _ hrt q (by omega)))
            have hcl : (batch (l0.map Wp.pg)).length = N := hbl
            have HSA := Lib.hid (fun (W : World) (A D : Option Addr) (c d B B' : Nat) (ho : Rd W B A N ((batch (l0.map Wp.pg)).map bv)) (hp : Rd W B' D N ((batch (l0.map Wp.pg)).map bv)) => same_gen A D N N c d _ _ W B B' ho hp (by omega) (by omega) true (decide_eq_true rfl))
            have HSB := Lib.hid (fun (W : World) (A : Option Addr) (m c : Nat) (ws : List Wp) (hf : Fresh w W) (hw : WsAt W W.heap.size A m ws) (hl : ws.map Wp.pg = l0.map Wp.pg) (hm : m ≤ 9223372036854775807) => sameB_any A A0 m k c c0 ws l0 W hw (HR0.out.fresh hf) hm (by omega) true (decide_eq_true hl))
            generalize batch (l0.map Wp.pg) = bt at *
            have HF := Lib.hid hfr
            have HN := Lib.hid hN
            have hqb : (q : Int) ≤ (N : Int) := by omega
            have hne : ¬ (N : Int) = 0 := by omega
            clear hR hfr hbl hcl ra rb rc hq hN hqN hrt hNi
            go_wp2_with (first
              | (go_at_call 8; (refine HP.out.mono ?_); rintro e w3 ⟨A3, c3, rfl, hf3, ho3⟩; have HF3 := Lib.hid (HF.out.trans hf3); have HO3 := Lib.hid ho3; clear hf3 ho3)
              | (go_at_call 9; (refine (HQ.out _ HF3.out).mono ?_); rintro e w4 ⟨rfl, hf4⟩; have HF4 := Lib.hid (HF3.out.trans hf4); have HO4 := Lib.hid (Own.fresh HO3.out hf4); clear hf4)
              | (go_at_call 11; (refine (HBY.out _ HF4.out).mono ?_); rintro e w5 ⟨A5, c5, rfl, hf5, ho5⟩; have HF5 := Lib.hid (HF4.out.trans hf5); have HO5 := Lib.hid (Own.fresh HO4.out hf5); have HP5 := Lib.hid ho5.rd; clear hf5 ho5)
              | (go_at_call 10; ((refine (HSA.out _ _ _ _ _ _ _ HO5.out.rd HP5.out).mono ?_); rintro e w6 ⟨rfl, hf6⟩; have HF6 := Lib.hid (HF5.out.trans hf6); have ho6 := Own.fresh HO5.out hf6; have HO6 := Lib.hid ho6; have HQ6 := Lib.hid (Own.made w6 tB #[] 0 rfl (by unfold maxLen; omega)); have HO6' := Lib.hid (Own.fresh ho6 (Fresh.alloc w6 (.cells #[] tB))); clear hf6 ho6))
              | (go_at_call 12; (refine (HS.out _).mono ?_); rintro e w7 ⟨rfl, rfl⟩)
              | ((with_reducible refine at_slot_ 71 ?_); refine wpList_append_rd _ rfl _ _ 23 rfl w6.heap.size 5 i0 _ 1 Try.underlying23 hi0 hz0 hz1 hz2 rfl _ 0 0 _ rfl HQ6.out _ A3 N c3 _ rfl HO6'.out.rd (bv_one _) (by unfold maxLen; omega) (by omega) (by simp) ?_; intro A8 c8 w8 ho8 hg8; have hf8 : Fresh w6 w8 := (Fresh.alloc _ _).append HQ6.out (Nat.le_refl _) hg8; rw [Nat.zero_add, List.nil_append] at ho8; have HF8 := Lib.hid (HF6.out.trans hf8); have HU8 := Lib.hid hf8.size; have HQ8 := Lib.hid ho8; have HO8 := Lib.hid (Own.fresh HO6.out hf8); have HX8 := Lib.hid (HR1.out.below (HF6.out.trans hf8) (Nat.le_refl _)); have HB8 := Lib.hid hf8; clear hf8 ho8 hg8)
              | ((with_reducible refine at_slot_ 73 ?_); refine wpList_append_rd _ rfl _ _ 23 rfl w6.heap.size 5 i0 _ 1 Try.underlying23 hi0 hz0 hz1 hz2 rfl A8 N c8 _ rfl HQ8.out _ A1 n1 c1 _ rfl HX8.out (bv_one _) (by unfold maxLen; omega) (by omega) HU8.out ?_; intro A9 c9 w9 ho9 hg9; have hf9 : Fresh w6 w9 := HB8.out.append HQ8.out (Nat.le_refl _) hg9; rw [← List.map_append] at ho9; have HF9 := Lib.hid (HF6.out.trans hf9); have HQ9 := Lib.hid ho9; have HO9 := Lib.hid (Own.fresh HO6.out hf9); clear hf9 ho9 hg9)
              | (go_at_call 13; ((with_reducible refine (HG.out _ _ _ _ HQ9.out).mono ?_); rintro e w10 ⟨A10, m10, c10, ws, rfl, hf10, hw10, hl10, hm10, hn10⟩; have HF10 := Lib.hid (HF9.out.trans hf10); have ho10 := Own.fresh HO9.out hf10; have hcc := ho10.cap; unfold maxLen at hcc; have HO10 := Lib.hid ho10; have HW10 := Lib.hid hw10; have HL10 := Lib.hid hl10; have HM10 := Lib.hid (Nat.le_trans hm10 hn10); clear hf10 ho10 hw10 hl10 hm10 hn10))
              | (go_at_call 13; ((refine (HC.out _ _ _ _ _ (by omega) (by unfold maxLen; omega) HO10.out).mono ?_); rintro e w11 ⟨rfl, hf11⟩; have HF11 := Lib.hid (HF10.out.trans hf11); have HW11 := Lib.hid (HW10.out.fresh hf11); clear hf11))
              | (go_at_call 14; ((refine (HSB.out _ _ _ _ _ HF11.out HW11.out HL10.out (by have := HM10.out; unfold maxLen at this; omega)).mono ?_); rintro e w12 ⟨rfl, hf12⟩; have HF12 := Lib.hid (HF11.out.trans hf12); clear hf12)))
            go_ret
            exact ⟨rfl, HF12.out⟩
end Go.Proofs.Ytcfijppfccfbdaa.walPuts
