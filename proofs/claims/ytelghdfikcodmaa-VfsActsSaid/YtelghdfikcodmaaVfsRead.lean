/-
  The contract of vfs's file.read. My own text.
-/
import Derived.Test.YtelghdfikcodmaaVfsWrite
namespace Go.Proofs.Ytelghdfikcodmaa.vfs
open Go.RowKit Go.Maps Go.Proofs.Ytelghdfikcodmaa.base Go.Proofs.Ytelghdfikcodmaa.vfsnum
set_option linter.unusedVariables false

theorem byte_info : (Try.prog.info? 5).map (fun i => (i.zero, i.size, i.bytes)) = some (some (.int .u8 0), 1, 1) := by kernel_rfl
/-- so many bytes of what was asked for, then zeros -/
theorem rd_round (bs : Bs) (a i m z : Nat) (hz : z ≤ m) (ha : a + i + m ≤ bs.length) :
    splice (((bs.drop a).take i).map bv ++ List.replicate m (bv 0)) i (((bs.drop (a + i)).take z).map bv) = ((bs.drop a).take (i + z)).map bv ++ List.replicate (m - z) (bv 0) := by
  have l1 : (((bs.drop a).take i).map bv).length = i := by rw [List.length_map, List.length_take, List.length_drop]; omega
  have l2 : (((bs.drop (a + i)).take z).map bv).length = z := by rw [List.length_map, List.length_take, List.length_drop]; omega
  have e : ((bs.drop a).take (i + z)).map bv = ((bs.drop a).take i).map bv ++ ((bs.drop (a + i)).take z).map bv := by
    rw [List.take_add, List.drop_drop, List.map_append]
  rw [e]
  generalize ((bs.drop a).take i).map bv = X at *
  generalize ((bs.drop (a + i)).take z).map bv = Y at *
  unfold splice
  rw [l2, List.take_left' l1, List.drop_append, List.drop_of_length_le (by omega), l1, List.nil_append, show i + z - i = z by omega, List.drop_replicate, List.append_assoc]

set_option maxRecDepth 100000 in
set_option maxHeartbeats 1000000 in
theorem read_any (g : Nat) (f : Fl) (bl : List Nat) (a n : Nat) (w : World) (h : FileRaw w g (rawOf f) bl) (hfl : f.bs.length ≤ 4194304) (han : a + n ≤ f.bs.length) :
    Calls Try.prog 79 #[.pointer (some ⟨g, 0, none⟩), .int .i64 a, .int .i64 n] w fun e w' =>
      ∃ q, e = .returned (.slice (some ⟨q, 0, none⟩) n n) ∧ w.heap.size ≤ q ∧ Bk w' q 5 (((f.bs.drop a).take n).map bv) ∧ Fresh w w' := by
  obtain ⟨i0, hi0, hz0, hz1, hz2⟩ := info_parts byte_info
  have HL := Lib.hid hfl
  have HA := Lib.hid han
  go_enter Try.func79, Try.ntmps79
  go_wp2_with (at_make; refine wpList_make_blk rfl 29 (.tmp 10) (.tmp 10) rfl 5 i0 _ Try.underlying29 hi0 hz0 hz1 rfl n rfl rfl (by rw [hz2]; omega) (by unfold maxLen; omega) w.heap.size rfl ?_; intro w1 hb1 hf1)
  clear han
  go_loopw [1, 8] (fun t b wr => ∃ (s i m : Nat) (B : Option Addr), t = .int .i64 s ∧ b = .slice B m m ∧ Hid (s = a + i) ∧ Hid (m + i = n) ∧ m ≤ 4194304 ∧ s ≤ 4194304 ∧ Hid (0 < m → B = some ⟨w.heap.size, i, none⟩) ∧
      Bk wr w.heap.size 5 (((f.bs.drop a).take i).map bv ++ List.replicate m (bv 0)) ∧ Fresh w wr) (fun _ b _ => lenV b)
  case atStart => exact ⟨a, 0, n, some ⟨w.heap.size, 0, none⟩, rfl, rfl, rfl, Nat.add_zero _, by have := HA.out; omega, by have := HA.out; omega, fun _ => rfl, by rw [List.take_zero]; exact hb1, hf1⟩
  case round =>
    obtain ⟨s, i, m, B, rfl, rfl, hs, hmi, hm, hsl, hB, hbk, hfr⟩ := hrel
    by_cases hm0 : 0 < m
    · have hin : m + i = n := hmi
      have hso : s = a + i := hs
      obtain rfl : B = some ⟨w.heap.size, i, none⟩ := hB.out hm0
      have hw := h.keep (w' := wr) fun b hb => hfr.block b (h.inside b hb)
      obtain ⟨wb, A, c, kv, sb, rfl, hnd, hb, hsct, hmp, hk⟩ := hw
      have hN : (rawOf f).n = takes f.bs.length := rfl
      have hhl := HL.out
      have hha := HA.out
      obtain ⟨q, rest, rfl, rfl, hq, hrest⟩ := hsct.row (by rw [hN]; unfold takes; omega)
      have h2 := hb.cell (i := 2) rfl
      obtain ⟨p, hp1, hp2⟩ : ∃ p : Nat, (s : Int) / 64 = p ∧ p = s / 64 := ⟨s / 64, by omega, rfl⟩
      obtain ⟨o, ho1, ho2⟩ : ∃ o : Nat, (s : Int) % 64 = o ∧ o = s % 64 := ⟨s % 64, by omega, rfl⟩
      obtain ⟨z, hz⟩ : ∃ z : Nat, z = min (64 - o) m := ⟨_, rfl⟩
      have hfl2 := hsct.1
      have hvl : (((f.bs.drop s).take z).map bv).length = z := by rw [List.length_map, List.length_take, List.length_drop]; omega
      obtain ⟨N, hN2⟩ : ∃ N, (rawOf f).n = N := ⟨_, rfl⟩
      rw [hN2] at h2 hfl2 hN
      have hp6 : (p : Int) < (N : Int) := by rw [hN]; unfold takes; omega
      have hN3 : N ≤ 65536 := by rw [hN]; unfold takes; omega
      have ho3 : (o : Int) ≤ 64 := by omega
      have ho4 : ¬ 64 = o := by omega
      have hpo : ¬ (64 ≤ o) := by omega
      have hz0 : 0 < z := by omega
      have hzm : (z : Int) ≤ (m : Int) := by omega
      have ew : IntKind.i64.wrap ((s : Int) + z) = (s : Int) + z := IntWalk.i64_in _ (by omega)
      have hv1 := Lib.hid (hvl.trans hz)
      have hv2 := Lib.hid (show 0 < (((f.bs.drop s).take z).map bv).length by rw [hvl]; exact hz0)
      have hfit := Lib.hid (show i + (((f.bs.drop s).take z).map bv).length ≤ (((f.bs.drop a).take i).map bv ++ List.replicate m (bv 0)).length by rw [hvl, List.length_append, List.length_map, List.length_take, List.length_drop, List.length_replicate]; omega)
      have hsrc : Hid (∃ b so, some (⟨q, p * 64 + o, none⟩ : Addr) = some ⟨b, so, none⟩ ∧ ∀ j v, (((f.bs.drop s).take z).map bv)[j]? = some v → wr.cell? ⟨b, so + j, none⟩ = some v) := by
        refine ⟨q, p * 64 + o, rfl, fun j v hv => hq.cell ?_⟩
        have hj : j < z := by
          have := (List.getElem?_eq_some_iff.1 hv).1
          rwa [hvl] at this
        have hso2 : p * 64 + o = s := by omega
        rw [hso2]
        have hl3 : s + j < (pad f.bs).length := by rw [pad_len]; have := le_takes f.bs.length; omega
        show ((pad f.bs).map bv ++ rest)[s + j]? = some v
        rw [List.getElem?_append_left (by rw [List.length_map]; exact hl3), List.getElem?_map, List.getElem?_eq_getElem hl3]
        rw [List.getElem?_map, List.getElem?_take, if_pos hj, List.getElem?_drop, List.getElem?_eq_getElem (by omega)] at hv
        rw [← hv]
        have := gd_pad f.bs (s + j)
        rw [List.getD_eq_getElem?_getD, List.getD_eq_getElem?_getD, List.getElem?_eq_getElem hl3, List.getElem?_eq_getElem (by omega)] at this
        simp only [Option.getD_some] at this
        simp only [Option.map_some]
        rw [← this]
      have HV := Lib.hid hvl
      have HZ := Lib.hid hz
      have HS := Lib.hid hso
      have HIN := Lib.hid hin
      clear hp2 ho2 hz hso hin hvl hN hfl2 hhl hha hN2
      go_wp2_with (first
        | ((with_reducible (refine at_slot_ 27 ?_)); refine wpList_copy_blk rfl (.tmp 16) (.tmp 26) 29 29 rfl 5 Try.underlying29 byteInfo1 w.heap.size i m m (some ⟨q, p * 64 + o, none⟩) (64 - o) (64 - o) rfl rfl _ 5 hbk (((f.bs.drop s).take z).map bv) z HV.out hv1.out hv2.out hsrc.out hfit.out (bv_all _) ?_; intro w2 hb2 hbut2))
      rw [HS.out, rd_round _ _ _ _ _ (by have := HZ.out; omega) (by have := HA.out; have := HIN.out; omega)] at hb2
      have hf2 := hfr.but (Nat.le_refl _) hbut2
      clear hbk hq hb hsct hmp hk hnd h2 hbut2 hfr
      go_quiet (fail)
      go_wp2
      go_roundw
      case rel =>
        have hz1 := HZ.out
        have hz2 := HS.out
        have hz3 := HIN.out
        refine ⟨s + z, i + z, m - z, _, by go_num, rfl, show _ = _ by omega, show _ = _ by omega, by omega, ?_, ?_, hb2, hf2.trans (Fresh.drewN w2 nq)⟩
        · have := HL.out; have := HA.out; omega
        · intro hpos
          have : ¬ m = z := by omega
          simp [this]
      case measure =>
        show m - z < m
        omega
    · have hm00 : m = 0 := by omega
      subst hm00
      obtain rfl : i = n := by have : 0 + i = n := hmi; omega
      rw [List.replicate_zero, List.append_nil] at hbk
      go_wp2
      go_ret
      exact ⟨w.heap.size, rfl, Nat.le_refl _, hbk, hfr⟩
end Go.Proofs.Ytelghdfikcodmaa.vfs
