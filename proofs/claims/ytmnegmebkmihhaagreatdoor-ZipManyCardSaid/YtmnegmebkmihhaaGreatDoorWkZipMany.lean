import Derived.Test.YtmnegmebkmihhaaGreatDoorZipMn
import Derived.Test.YtmnegmebkmihhaaGreatDoorMgOpe
/-
  ZipMany: the walk. My own text.
-/
namespace Go.Proofs.YtmnegmebkmihhaaGreatDoor.zipMany
open Go.RowKit Go.Maps Go.Proofs.YtmnegmebkmihhaaGreatDoor.base Go.Proofs.YtmnegmebkmihhaaGreatDoor.num Go.Proofs.YtmnegmebkmihhaaGreatDoor.recn Go.Proofs.YtmnegmebkmihhaaGreatDoor.recp Go.Proofs.YtmnegmebkmihhaaGreatDoor.nam Go.Proofs.YtmnegmebkmihhaaGreatDoor.namp Go.Proofs.YtmnegmebkmihhaaGreatDoor.zipn Go.Proofs.YtmnegmebkmihhaaGreatDoor.zipp
set_option linter.unusedVariables false
theorem bytes3 (W : World) (a b c : UInt8) : Rd (W.alloc (.cells #[.int .u8 a.toNat, .int .u8 b.toNat, .int .u8 c.toNat] 5)) (W.heap.size + 1) (some ⟨W.heap.size, 0, none⟩) 3 (([a, b, c] : List UInt8).map bv) := Rd.lit W #[.int .u8 a.toNat, .int .u8 b.toNat, .int .u8 c.toNat] 5
set_option maxRecDepth 100000 in
set_option maxHeartbeats 16000000 in
theorem zipMany_walk (a0 : Int) (a1 : Int) (w : World) (w0 : (Lit.int .u8 a0).wf = true) (w1 : (Lit.int .u8 a1).wf = true) (hU : Laid w) :
    Calls Tryz.prog 5 #[.int .u8 a0, .int .u8 a1] w fun e w' => e = .returned (.bool true) ∧ Below w.heap.size w w' := by
  have h0 : 0 ≤ a0 ∧ a0 ≤ 255 := by simpa [Lit.wf, IntKind.min, IntKind.max, IntKind.signed, IntKind.bits] using w0
  have h1 : 0 ≤ a1 ∧ a1 ≤ 255 := by simpa [Lit.wf, IntKind.min, IntKind.max, IntKind.signed, IntKind.bits] using w1
  obtain ⟨c, hc⟩ : ∃ c : UInt8, (c.toNat : Int) = a1 := ⟨UInt8.ofNat a1.toNat, by rw [nat_u8 _ (by omega)]; omega⟩
  obtain ⟨N, hN⟩ : ∃ N : Nat, (N : Int) = 1000 - a0 % 3 + 1 := ⟨(1000 - a0 % 3 + 1).toNat, by omega⟩
  have hN1 : 999 ≤ N ∧ N ≤ 1001 := by omega
  have hwk := wakes_any w hU
  have HWK := Lib.hid hwk
  have HU := Lib.hid hU
  have HN1 := Lib.hid hN1
  have HN := Lib.hid hN
  have h00 := h0.1
  have h01 := h0.2
  subst hc
  have e14 : IntKind.i64.wrap a0 = a0 := IntWalk.i64_in _ (by omega)
  obtain ⟨j0, hj0, hy0, hy1, hy2⟩ := info_parts itemInfo
  clear hwk hU hN1 w0 w1 h0 h1
  go_enter Tryz.func5, Tryz.ntmps5
  go_wp2_with (go_at_call 8; ((with_reducible refine HWK.out.mono ?_); rintro e w2 ⟨rfl, hf2⟩; have HF2 := Lib.hid hf2; clear hf2))
  rw [← HN.out]
  have hNi : (N : Int) ≤ 1001 := by have := HN1.out; omega
  go_loopw [5, 18] (fun vo vi wr => ∃ (j co : Nat) (Ao : Option Addr) (l : List Itm), j ≤ N ∧ vi = .int .i64 j ∧ vo = .slice Ao j co ∧ Hid (Mn wr c l j) ∧ Hid (OwnK wr w2.heap.size tItem 6 Ao j co itmV l) ∧ Hid (Fresh w2 wr)) (fun _ vi _ => N - (intOf vi).toNat)
  case atStart => exact ⟨0, 0, none, [], by omega, rfl, rfl, Lib.hid ⟨rfl, fun i hi => by cases hi⟩, Lib.hid (OwnK.nil _ _ _ _ _), Lib.hid (Fresh.refl _)⟩
  case round =>
    obtain ⟨j, co, Ao, l, hj, rfl, rfl, HM, HO, HF⟩ := hrel
    by_cases hlt : j < N
    · have hj1 : j ≤ 1000 := by have := HN1.out; omega
      have hji : (j : Int) ≤ 1000 := by omega
      have hij : (j : Int) < (N : Int) := by omega
      have g1 : IntKind.u8.wrap ((j : Int) % 26) = (j : Int) % 26 := IntWalk.u8_in _ (by omega)
      have g2 : IntKind.u8.wrap ((j : Int) / 26 % 26) = (j : Int) / 26 % 26 := IntWalk.u8_in _ (by omega)
      have g3 : IntKind.u8.wrap ((j : Int) / 676) = (j : Int) / 676 := IntWalk.u8_in _ (by omega)
      have g4 : IntKind.u8.wrap (97 + (j : Int) % 26) = 97 + (j : Int) % 26 := IntWalk.u8_in _ (by omega)
      have g5 : IntKind.u8.wrap (97 + (j : Int) / 26 % 26) = 97 + (j : Int) / 26 % 26 := IntWalk.u8_in _ (by omega)
      have g6 : IntKind.u8.wrap (97 + (j : Int) / 676) = 97 + (j : Int) / 676 := IntWalk.u8_in _ (by omega)
      have hrow : (wr.alloc (.cells #[.int .u8 (97 + (j : Int) % 26), .int .u8 (97 + (j : Int) / 26 % 26), .int .u8 (97 + (j : Int) / 676)] 5)) = wr.alloc (.cells #[.int .u8 (UInt8.ofNat (97 + j % 26)).toNat, .int .u8 (UInt8.ofNat (97 + j / 26 % 26)).toNat, .int .u8 (UInt8.ofNat (97 + j / 676)).toNat] 5) := by
        rw [nat_u8 _ (by omega), nat_u8 _ (by omega), nat_u8 _ (by omega)]
        simp
      have hcv : (convert 25 9 (.slice (some ⟨wr.heap.size, 0, none⟩) 3 3)).run Tryz.prog (wr.alloc (.cells #[.int .u8 (97 + (j : Int) % 26), .int .u8 (97 + (j : Int) / 26 % 26), .int .u8 (97 + (j : Int) / 676)] 5)) = .ok (.string (nmS j)) (wr.alloc (.cells #[.int .u8 (97 + (j : Int) % 26), .int .u8 (97 + (j : Int) / 26 % 26), .int .u8 (97 + (j : Int) / 676)] 5)) := by
        rw [hrow]
        exact run_str_rd (P := Tryz.prog) _ 25 9 5 Tryz.underlying25 Tryz.underlying5 Tryz.underlying9 _ 3 3 _ (nmK j) (bytes3 wr _ _ _)
      clear hrow
      obtain ⟨S, hS⟩ : ∃ S, nmS j = S := ⟨_, rfl⟩
      rw [hS] at hcv
      have hf1 := Fresh.alloc wr (.cells #[.int .u8 (97 + (j : Int) % 26), .int .u8 (97 + (j : Int) / 26 % 26), .int .u8 (97 + (j : Int) / 676)] 5)
      have hcr := Bk.made (wr.alloc (.cells #[.int .u8 (97 + (j : Int) % 26), .int .u8 (97 + (j : Int) / 26 % 26), .int .u8 (97 + (j : Int) / 676)] 5)) 5 #[.int .u8 c.toNat]
      have hf2 := Fresh.alloc (wr.alloc (.cells #[.int .u8 (97 + (j : Int) % 26), .int .u8 (97 + (j : Int) / 26 % 26), .int .u8 (97 + (j : Int) / 676)] 5)) (.cells #[.int .u8 c.toNat] 5)
      have hw1 : (wr.alloc (.cells #[.int .u8 (97 + (j : Int) % 26), .int .u8 (97 + (j : Int) / 26 % 26), .int .u8 (97 + (j : Int) / 676)] 5)).heap.size = wr.heap.size + 1 := by simp
      rw [hw1] at hcr
      have hf3 := Fresh.alloc ((wr.alloc (.cells #[.int .u8 (97 + (j : Int) % 26), .int .u8 (97 + (j : Int) / 26 % 26), .int .u8 (97 + (j : Int) / 676)] 5)).alloc (.cells #[.int .u8 c.toNat] 5)) (.cells #[.string S, .int .i64 2162688, .slice (some ⟨wr.heap.size + 1, 0, none⟩) 1 1, .int .i64 0, .bool false, .bool false] tItem)
      have hbk := Bk.made ((wr.alloc (.cells #[.int .u8 (97 + (j : Int) % 26), .int .u8 (97 + (j : Int) / 26 % 26), .int .u8 (97 + (j : Int) / 676)] 5)).alloc (.cells #[.int .u8 c.toNat] 5)) tItem #[.string S, .int .i64 2162688, .slice (some ⟨wr.heap.size + 1, 0, none⟩) 1 1, .int .i64 0, .bool false, .bool false]
      rw [show ((wr.alloc (.cells #[.int .u8 (97 + (j : Int) % 26), .int .u8 (97 + (j : Int) / 26 % 26), .int .u8 (97 + (j : Int) / 676)] 5)).alloc (.cells #[.int .u8 c.toNat] 5)).heap.size = wr.heap.size + 1 + 1 from by simp] at hbk
      have hf123 := hf1.trans (hf2.trans hf3)
      have HBK := Lib.hid hbk
      have HF3 := Lib.hid hf123
      have HCR := Lib.hid (hcr.fresh hf3)
      have HS := Lib.hid hS
      clear hf1 hf2 hf3 hbk hcr hf123 hw1 hS
      go_wp2_with (at_builtin; go_loud (refine wpList_append_cells _ rfl (.tmp 21) (.tmp 40) 22 rfl w2.heap.size tItem j0 _ 6 64 Tryz.underlying22 hj0 hy0 hy1 hy2 rfl (by omega) itmV Ao j co l rfl (HO.out.fresh HF3.out) _ ⟨S, 2162688, some ⟨wr.heap.size + 1, 0, none⟩, 1, 1, [c], 0, false, false⟩ rfl HBK.out rfl (itmV_one _) (by omega) (by omega) (Nat.le_trans HF.out.size HF3.out.size) ?_; intro A6 c6 w6 hown6 hg6 hw6; have HM6 := Lib.hid (((HM.out.fresh HF3.out).grown (HO.out.fresh HF3.out) hg6).next (q := 1) (HCR.out.grown hg6 ((HO.out.fresh HF3.out).ne HCR.out (by decide)))); have HO6 := Lib.hid hown6; have HF6 := Lib.hid ((HO.out.fresh HF3.out).append (HF.out.trans HF3.out) (Nat.le_refl _) hg6); clear hown6 hg6 hw6))
      have ho7 := HO6.out
      rw [← HS.out] at ho7
      have HO7 := Lib.hid ho7
      clear ho7
      go_roundw
      case rel =>
        refine ⟨.slice A6 (j + 1) c6, .int .i64 j, .int .i64 ((j + 1 : Nat) : Int), ⟨j + 1, by omega, rfl, c6, A6, rfl, l ++ [⟨nmS j, 2162688, some ⟨wr.heap.size + 1, 0, none⟩, 1, 1, [c], 0, false, false⟩], ?_⟩, rfl, rfl, by go_num⟩
        exact And.intro HM6 HO7
      case measure => simp [intOf]; omega
    · have h0 : j = N := by omega
      subst h0
      have hN3 := HN1.out
      have hits := itms_own HO.out HM.out.rd
      have hln := HM.out.len
      have hfw := HF2.out.trans HF.out
      by_cases hbig : 1000 < j
      · have hmk := make_many Ao j co wr hbig
        have t1 : decide ((j : Int) > 1000) = true := by rw [decide_eq_true_eq]; omega
        have t2 : decide (1000 < (j : Int)) = true := by rw [decide_eq_true_eq]; omega
        have HMK := Lib.hid hmk
        have HFW := Lib.hid hfw
        clear hmk hits hln hfw hbig HN1 hN3 hN HN hNi HM HO
        go_wp2_with (go_at_call 10; ((with_reducible refine HMK.out.mono ?_); rintro e w5 ⟨rfl, rfl⟩))
        go_ret
        exact ⟨rfl, HFW.out⟩
      · have hmk := make_any Ao j co l ((List.range j).map (plK c)) wr wr.heap.size hits (Nat.le_refl _) (by omega) (by rw [hln, List.length_map, List.length_range]) (fun k i x hi hx => HM.out.pl (by omega) k i x hi hx) (HU.out.fresh hfw) (by rw [HM.out.1]; exact nodup_range nmS j (fun i k hi hk e => nmS_inj (by omega) (by omega) e))
        have hop := arc_ok c j (by omega)
        have hel : (entsT 0 ((List.range j).map (plK c))).length = j := by rw [entsT_len, List.length_map, List.length_range]
        have hab := made_bd ((List.range j).map (plK c)) (fun x hx => by obtain ⟨k, hk, rfl⟩ := List.mem_map.1 hx; rw [List.mem_range] at hk; exact ok_K c (by omega))
        have hal : (arc ((List.range j).map (plK c))).length ≤ 1000000000 := by
          unfold arc
          rw [List.length_append, List.length_append, endP_len]
          rw [List.length_map, List.length_range] at hab
          omega
        generalize arc ((List.range j).map (plK c)) = X at *
        generalize entsT 0 ((List.range j).map (plK c)) = F at *
        have hopn : ∀ W D m d, Fresh w W → Rd W W.heap.size D m (X.map bv) → m = X.length → m ≤ d → d ≤ maxLen → Calls Tryz.prog 17 #[.slice D m d] W fun e w' => ∃ Af cf, e = .returned (.tuple #[.slice Af j cf, .int .i64 0]) ∧ Fresh W w' := fun W D m d hW hr hm hmd hdm => by
          refine (unzp.open_any D m d X W W.heap.size hr (Nat.le_refl _) hmd hdm (by omega) (HU.out.fresh hW) _ hop).mono ?_
          rintro e w' ⟨hf, A, q, rfl, _⟩
          rw [hel]
          exact ⟨A, q, rfl, hf⟩
        have t1 : decide ((j : Int) > 1000) = false := by rw [decide_eq_false_iff_not]; omega
        have t2 : decide (1000 < (j : Int)) = false := by rw [decide_eq_false_iff_not]; omega
        have HMK := Lib.hid hmk
        have HOP := Lib.hid hopn
        have HFW := Lib.hid hfw
        clear hmk hopn hits hln hfw hbig HN1 hN3 hN HN hNi HM HO hop hel hab hal
        go_wp2_with (first
          | (go_at_call 10; ((with_reducible refine HMK.out.mono ?_); rintro e w5 ⟨D, m, d, rfl, hm5, hmd5, hdm5, hr5, hf5⟩; have HF5 := Lib.hid (HFW.out.trans hf5); have HOP5 := Lib.hid (HOP.out w5 D m d HF5.out hr5 hm5 hmd5 hdm5); clear hm5 hmd5 hdm5 hr5 hf5))
          | (go_at_call 17; ((with_reducible refine HOP5.out.mono ?_); rintro e w6 ⟨Af, cf, rfl, hf6⟩)))
        go_ret
        exact ⟨rfl, HF5.out.trans hf6⟩
end Go.Proofs.YtmnegmebkmihhaaGreatDoor.zipMany
