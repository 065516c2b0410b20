/-
  The walk of the law DeflateSizes. My own text.
-/
import Derived.Test.YtcmeoappddpmcaaDoorDefTimes
import Derived.Test.YtcmeoappddpmcaaDoorWkDeflateStored
import Derived.Test.YtcmeoappddpmcaaDoorOpen
import Derived.Deep.DeepCutAuto
namespace Go.Proofs.YtcmeoappddpmcaaDoor.deflateSizes
open Go.RowKit Go.Maps Go.Proofs.YtcmeoappddpmcaaDoor.base Go.Proofs.YtcmeoappddpmcaaDoor.num Go.Proofs.YtcmeoappddpmcaaDoor.bitp Go.Proofs.YtcmeoappddpmcaaDoor.infp Go.Proofs.YtcmeoappddpmcaaDoor.defp
set_option linter.unusedVariables false
/-- the row, of which the first j bytes are filled -/
def fill (N j : Nat) (c : UInt8) : List Value := List.replicate j (bv c) ++ List.replicate (N - j) (.int .u8 0)
theorem fill_at {N j : Nat} (c : UInt8) (h : j < N) : (fill N j c)[j]? = some (.int .u8 0) := by
  unfold fill
  rw [List.getElem?_append_right (by simp), List.length_replicate, Nat.sub_self, List.getElem?_replicate, if_pos (by omega)]
theorem fill_set {N j : Nat} (c : UInt8) (h : j < N) : (fill N j c).set j (bv c) = fill N (j + 1) c := by
  unfold fill
  obtain ⟨k, rfl⟩ : ∃ k, N = j + (k + 1) := ⟨N - j - 1, by omega⟩
  rw [List.set_append_right _ _ (by simp), List.length_replicate, Nat.sub_self, show j + (k + 1) - j = k + 1 from by omega, show j + (k + 1) - (j + 1) = k from by omega, List.replicate_succ, List.set_cons_zero, List.replicate_succ', List.append_assoc]
  rfl
theorem fill_all (N : Nat) (c : UInt8) : fill N N c = (List.replicate N c).map bv := by
  unfold fill
  rw [Nat.sub_self, List.replicate_zero, List.append_nil, List.map_replicate]
set_option maxRecDepth 100000 in
set_option maxHeartbeats 8000000 in
theorem deflateSizes_walk (A0 : Option Addr) (n0 c0 : Nat) (x0 : List UInt8) (a1 : Int) (a2 : Int) (w : World) (b0 : InBytes w A0 n0 c0 x0) (w1 : (Lit.int .u8 a1).wf = true) (w2 : (Lit.int .u16 a2).wf = true) (hO : OrdD w) :
    Calls Tryd.prog 4 #[.slice A0 n0 c0, .int .u8 a1, .int .u16 a2] w fun e w' => e = .returned (.bool true) ∧ Below w.heap.size w w' := by
  obtain ⟨i0, hi0, hz0, hz1, hz2⟩ := info_parts info_byte
  obtain ⟨hr0, hn0, hm0⟩ := b0
  have h1 : 0 ≤ a1 ∧ a1 ≤ 255 := by simpa [Lit.wf, IntKind.min, IntKind.max, IntKind.signed, IntKind.bits] using w1
  have h2 : 0 ≤ a2 ∧ a2 ≤ 65535 := by simpa [Lit.wf, IntKind.min, IntKind.max, IntKind.signed, IntKind.bits] using w2
  obtain ⟨c, rfl⟩ : ∃ c : UInt8, a1 = (c.toNat : Int) := ⟨UInt8.ofNat a1.toNat, by have e : (UInt8.ofNat a1.toNat).toNat = a1.toNat % 256 := UInt8.toNat_ofNat'; rw [e]; omega⟩
  obtain ⟨t, rfl⟩ := Int.eq_ofNat_of_zero_le h2.1
  have ht : t ≤ 65535 := by omega
  have hg : 0 < w.heap.size := World.block_lt_of_cell? w _ (hO 0 16 rfl)
  have HR0 := Lib.hid hr0
  have HO := Lib.hid hO
  clear hr0 w1 w2 h1 h2 hO hm0
  by_cases hbig : 2000 < n0
  · go_enter Tryd.func4, Tryd.ntmps4
    go_wp2_with (go_at_call 5; refine (Go.Proofs.YtcmeoappddpmcaaDoor.deflateStored.wakes_any _).mono ?_; rintro e wA ⟨rfl, hfA⟩)
    go_ret
    exact ⟨rfl, hfA⟩
  obtain ⟨N, hN⟩ : ∃ N : Nat, 100 + t % 5000 = N := ⟨_, rfl⟩
  have hN1 : 100 ≤ N := by omega
  have hN2 : N ≤ 6000 := by omega
  go_enter Tryd.func4, Tryd.ntmps4
  go_upto_region 6 with (first
    | (go_at_call 5; refine (Go.Proofs.YtcmeoappddpmcaaDoor.deflateStored.wakes_any _).mono ?_; rintro e wA ⟨rfl, hfA⟩; have HFA := Lib.hid hfA; clear hfA)
    | (go_at_call 6; refine (pack_fixed A0 n0 c0 x0 _ w.heap.size (HR0.out.keep fun i hi => HFA.out.block i hi) HFA.out.size (by omega)).mono ?_; rintro e wB ⟨A1, c1, l, rfl, hs, ho, hf⟩; have hle := bytesF_few hs; have HFB := Lib.hid (HFA.out.trans hf); clear hs ho hf))
  have hq : (bytesF l : Int) ≤ (9 * (n0 : Int) + 10 + 7) / 8 := by omega
  generalize bytesF l = q at *
  clear hle
  go_upto_region 8 with (fail)
  go_cut [9] (fun v wx => v = .int .i64 (N : Nat) ∧ wx = wB)
  case first =>
    go_wp2
    all_goals go_meet
    all_goals exact ⟨congrArg (Value.int .i64) (by omega), rfl⟩
  case rest =>
  obtain ⟨rfl, rfl⟩ := hcut
  clear hN hq
  go_wp2_with (with_reducible (refine at_slot_ 44 ?_); refine wpList_make_blk rfl 22 (.tmp 43) (.tmp 43) rfl 5 i0 _ Tryd.underlying22 hi0 hz0 hz1 rfl N rfl rfl (by rw [hz2]; omega) (by unfold maxLen; omega) wc.heap.size rfl ?_; intro wD hbD hfD; have HBD := Lib.hid hbD; have HFD := Lib.hid (HFB.out.trans hfD); have hGs := HFB.out.size; clear hbD hfD)
  generalize wc.heap.size = G at *
  go_loopw [47] (fun vi wr => ∃ j : Nat, j ≤ N ∧ vi = .int .i64 j ∧ Hid (Bk wr G 5 (fill N j c)) ∧ Hid (Fresh w wr)) (fun vi _ => N - (intOf vi).toNat)
  case atStart =>
    refine ⟨0, by omega, rfl, ?_, HFD⟩
    refine Lib.hid ?_
    unfold fill
    rw [List.replicate_zero, List.nil_append]
    exact HBD.out
  case round =>
    obtain ⟨j, hj, rfl, hb, hf⟩ := hrel
    by_cases hlt : j < N
    · have hcj : wr.cell? ⟨G, j, none⟩ = some (.int .u8 0) := hb.out.cell (fill_at c hlt)
      have hfr := hb.out.free j
      have hnew := hb.out.put j (bv c)
      rw [fill_set c hlt] at hnew
      have hfn := hf.out.but hGs (But.put (g := G) (i := j) wr (bv c))
      have HN := Lib.hid hnew
      have HFN := Lib.hid hfn
      clear hnew hfn hb hf
      go_wp2
      go_roundw
      case rel => exact ⟨j + 1, by omega, by go_num, HN, HFN⟩
      case measure => simp [intOf]; omega
    · have h0 : j = N := by omega
      subst h0
      have hrow := hb.out
      rw [fill_all] at hrow
      have HROW := Lib.hid hrow
      clear hrow hb
      go_wp2
      have hbH := Bk.made wr 3 #[.int .i64 1, .int .i64 2]
      have HBH := Lib.hid hbH
      have HG0 := Lib.hid (HROW.out.alloc (.cells #[.int .i64 1, .int .i64 2] 3))
      have HF0 := Lib.hid (hf.out.trans (Fresh.alloc wr (.cells #[.int .i64 1, .int .i64 2] 3)))
      clear hbH hf HROW
      generalize wr.alloc (.cells #[.int .i64 1, .int .i64 2] 3) = wE at *
      generalize wr.heap.size = H at *
      go_loopw [57] (fun vi wx => ∃ k : Nat, k ≤ 2 ∧ vi = .int .i64 k ∧ Hid (Bk wx G 5 ((List.replicate j c).map bv)) ∧ Hid (Bk wx H 3 [iv 1, iv 2]) ∧ Hid (Fresh w wx)) (fun vi _ => 2 - (intOf vi).toNat)
      case atStart => exact ⟨0, by omega, rfl, HG0, HBH, HF0⟩
      case round =>
        obtain ⟨k, hk, rfl, hb, hh, hf⟩ := hrel
        have hrd := Bk.row0 hb.out (n := j) (by simp)
        have hk3 : k = 0 ∨ k = 1 ∨ k = 2 := by omega
        rcases hk3 with rfl | rfl | rfl
        · have hcell : wr.cell? ⟨H, 0, none⟩ = some (iv 1) := hh.out.cell rfl
          have hp := pack_fixed (some ⟨G, 0, none⟩) j j (List.replicate j c) wr wr.heap.size hrd (Nat.le_refl _) (by omega)
          have HP := Lib.hid hp
          clear hp hrd
          go_wp2_with (go_at_call 6; refine HP.out.mono ?_; rintro e w5 ⟨A5, c5, l5, rfl, hs5, ho5, hf5⟩; have hle5 := run_fixed hs5 hN1 hN2; have HB5 := Lib.hid (hb.out.fresh hf5); have HH5 := Lib.hid (hh.out.fresh hf5); have HF5 := Lib.hid (hf.out.trans hf5); clear hs5 ho5 hf5; generalize bytesF l5 = q5 at *; have hq5 : (q5 : Int) ≤ (j : Int) / 10 + 20 := (by omega))
          go_roundw
          case rel => exact ⟨1, by omega, by go_num, HB5, HH5, HF5⟩
          case measure => simp [intOf]
        · have hcell : wr.cell? ⟨H, 1, none⟩ = some (iv 2) := hh.out.cell rfl
          have hp := pack_dynamic (some ⟨G, 0, none⟩) j j (List.replicate j c) wr wr.heap.size hrd (Nat.le_refl _) (by omega) (HO.out.keep (hf.out.block _ hg)) (Nat.lt_of_lt_of_le hg hf.out.size)
          have HP := Lib.hid hp
          clear hp hrd
          go_wp2_with (go_at_call 6; refine HP.out.mono ?_; rintro e w5 ⟨A5, c5, l5, TS, TD, nS, nD, T, jj, ps, rfl, hs5, htold, ho5, hf5⟩; have hle5 := run_dynamic hs5 hN1 hN2 htold; have HB5 := Lib.hid (hb.out.fresh hf5); have HH5 := Lib.hid (hh.out.fresh hf5); have HF5 := Lib.hid (hf.out.trans hf5); clear hs5 ho5 hf5 htold; generalize bytesD (l5 ++ [(256, 0)]) TS TD nS nD T jj ps = q5 at *; have hq5 : (q5 : Int) ≤ (j : Int) / 10 + 20 := (by omega))
          go_roundw
          case rel => exact ⟨2, by omega, by go_num, HB5, HH5, HF5⟩
          case measure => simp [intOf]
        · have ht5 := refTimes_any (some ⟨G, 0, none⟩) j j c wr wr.heap.size hrd (Nat.le_refl _) (by omega)
          have HT5 := Lib.hid ht5
          clear ht5 hrd
          go_wp2_with (go_at_call 9; (with_reducible refine HT5.out.mono ?_); rintro e w6 ⟨rfl, hf6⟩)
          go_ret
          exact ⟨rfl, hf.out.trans hf6⟩
end Go.Proofs.YtcmeoappddpmcaaDoor.deflateSizes
