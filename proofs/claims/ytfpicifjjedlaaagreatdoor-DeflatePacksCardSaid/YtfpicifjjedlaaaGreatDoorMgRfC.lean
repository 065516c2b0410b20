import Derived.Test.YtfpicifjjedlaaaGreatDoorMgRfB
import Derived.Test.YtfpicifjjedlaaaGreatDoorRfG
import Derived.Test.YtfpicifjjedlaaaGreatDoorMgPart
/- Several of my own texts, one behind the other. -/
/-
  Layer 6's reference: codes, the walk. My own text.
-/
namespace Go.Proofs.YtfpicifjjedlaaaGreatDoor.refp
open Go.RowKit Go.Proofs.YtfpicifjjedlaaaGreatDoor.base Go.Proofs.YtfpicifjjedlaaaGreatDoor.num Go.Proofs.YtfpicifjjedlaaaGreatDoor.bitnum Go.Proofs.YtfpicifjjedlaaaGreatDoor.bitp Go.Proofs.YtfpicifjjedlaaaGreatDoor.huffnum Go.Proofs.YtfpicifjjedlaaaGreatDoor.infnum
set_option linter.unusedVariables false
set_option maxHeartbeats 8000000 in
set_option maxRecDepth 100000 in
theorem codes_any (w0 : World) (g U T p q : Nat) (out : List UInt8) (w : World) (hs : StAt w0 g U T p out w) (hT : T ≤ 4294967296) (la lb : List Nat) (h : codes U T p = .ok ((la, lb), q)) :
    Calls Tryz.prog 24 #[pg g] w fun e w' => ∃ A1 n1 c1 A2 n2 c2, e = .returned (.agg #[.slice A1 n1 c1, .slice A2 n2 c2]) ∧ Rd w' w'.heap.size A1 n1 (vn la) ∧ Rd w' w'.heap.size A2 n2 (vn lb) ∧ n1 ≤ 320 ∧ n2 ≤ 320 ∧ StAt w0 g U T q out w' ∧ KeepX w w' := by
  obtain ⟨i0, hi0, hz0, hz1, hz2⟩ := info_parts info_int
  obtain ⟨n, d, k, p1, p2, p3, l, p4, r, h1, h2, h3, hn, hd, h4, h5, h6, h7, h8, h9, rfl, rfl⟩ := codes_of h
  have hll : ∀ x ∈ laid l, x ≤ 15 := laid_le fun x hx => by have := times_lt _ h4 x hx; omega
  have hr15 := rep_15 (mayBe_tx h5) hll (by rw [laid_len]; omega) _ _ [] p4 (Nat.le_refl _) (fun x hx => by cases hx) h6
  have hrn := rep_n h6
  have hk16 := take_lt h3
  have hk : k ≤ 15 := by omega
  have hlK := times_len _ h4
  obtain ⟨nl, hnl⟩ : ∃ nl, 257 + n = nl := ⟨_, rfl⟩
  obtain ⟨nd, hnd⟩ : ∃ nd, 1 + d = nd := ⟨_, rfl⟩
  obtain ⟨K, hK⟩ : ∃ K, 4 + k = K := ⟨_, rfl⟩
  obtain ⟨M, hM⟩ : ∃ M, nl + nd = M := ⟨_, rfl⟩
  have hnn : 258 + n + d = M := by omega
  have hff : 259 + n + d = M + 1 := by omega
  rw [hnl] at h8 h9 hn ⊢
  rw [hnn, hff] at h6
  rw [hnn] at hrn
  rw [hnd] at hd
  rw [hK] at h4 hlK
  have hK19 : K ≤ 19 := by omega
  have hM316 : M ≤ 316 := by omega
  have hMnl : nl < M := by omega
  have HMM := Lib.hid hM
  have hnl1 : 257 ≤ nl := by omega
  have hnd1 : 1 ≤ nd := by omega
  have e1 : IntKind.i64.wrap (257 + (n : Int)) = (nl : Int) := by rw [IntWalk.i64_in _ (by omega)]; omega
  have e1b : 257 + (n : Int) = (nl : Int) := by omega
  have e2 : IntKind.i64.wrap (1 + (d : Int)) = (nd : Int) := by rw [IntWalk.i64_in _ (by omega)]; omega
  have e2b : 1 + (d : Int) = (nd : Int) := by omega
  have e3 : IntKind.i64.wrap (4 + (k : Int)) = (K : Int) := by rw [IntWalk.i64_in _ (by omega)]; omega
  have e3b : 4 + (k : Int) = (K : Int) := by omega
  have q1 : decide ((nl : Int) > 286) = false := by rw [decide_eq_false_iff_not]; omega
  have q2 : decide (286 < (nl : Int)) = false := by rw [decide_eq_false_iff_not]; omega
  have q3 : decide ((nd : Int) > 30) = false := by rw [decide_eq_false_iff_not]; omega
  have q4 : decide (30 < (nd : Int)) = false := by rw [decide_eq_false_iff_not]; omega
  have hbr := Bk.made w tPair #[.slice none 0 0, .slice none 0 0]
  have hs0 := hs.fresh (Fresh.alloc w (.cells #[.slice none 0 0, .slice none 0 0] tPair))
  have hgw : g < w.heap.size := hs.inside
  obtain ⟨wa, hwa⟩ : ∃ wa, w.alloc (.cells #[.slice none 0 0, .slice none 0 0] tPair) = wa := ⟨_, rfl⟩
  have hfa : Fresh w wa := by rw [← hwa]; exact Fresh.alloc _ _
  have hsa : wa.heap.size = w.heap.size + 1 := by rw [← hwa]; simp
  rw [hwa] at hbr hs0
  have HBR := Lib.hid hbr
  have HS0 := Lib.hid hs0
  have HFA := Lib.hid hfa
  have HSA := Lib.hid hsa
  have HWA := Lib.hid hwa
  have hk1 : Calls Tryz.prog 19 #[pg g, .int .i64 5] wa fun e w' => e = .returned (.int .i64 (n : Nat)) ∧ StAt w0 g U T p1 out w' ∧ KeepX wa w' := take_any w0 g U T p 5 n p1 out wa hs0 (by omega) hT h1
  have hk2 : ∀ V, StAt w0 g U T p1 out V → Calls Tryz.prog 19 #[pg g, .int .i64 5] V fun e w' => e = .returned (.int .i64 (d : Nat)) ∧ StAt w0 g U T p2 out w' ∧ KeepX V w' := fun V hV => take_any w0 g U T p1 5 d p2 out V hV (by omega) hT h2
  have hk3 : ∀ V, StAt w0 g U T p2 out V → Calls Tryz.prog 19 #[pg g, .int .i64 4] V fun e w' => e = .returned (.int .i64 (k : Nat)) ∧ StAt w0 g U T p3 out w' ∧ KeepX V w' := fun V hV => take_any w0 g U T p2 4 k p3 out V hV (by omega) hT h3
  have HK1 := Lib.hid hk1
  have HK2 := Lib.hid hk2
  have HK3 := Lib.hid hk3
  have H4 := Lib.hid h4
  have H5 := Lib.hid h5
  have H6 := Lib.hid h6
  have H7 := Lib.hid h7
  have H8 := Lib.hid h8
  have H9 := Lib.hid h9
  have HLL := Lib.hid hll
  have HR15 := Lib.hid hr15
  have HRN := Lib.hid hrn
  have HLK := Lib.hid hlK
  clear hs hs0 hk1 hk2 hk3 h h1 h2 h3 h4 h5 h6 h7 h8 h9 hll hr15 hrn hlK hbr hfa hsa hwa hk16 hnl hnd hK hnn hff hM
  go_enter Tryz.func24, Tryz.ntmps24
  go_upto_region 1 with (fail)
  rw [HWA.out]
  go_upto_region 6 with (first
    | (go_at_call 19; (with_reducible refine HK1.out.mono ?_); rintro e w1 ⟨rfl, hs1, hx1⟩; have HS1 := Lib.hid hs1; have HX1 := Lib.hid hx1; clear hs1 hx1)
    | (go_at_call 19; (with_reducible refine (HK2.out w1 HS1.out).mono ?_); rintro e w2 ⟨rfl, hs2, hx2⟩; have HS2 := Lib.hid hs2; have HX2 := Lib.hid (HX1.out.trans hx2); clear hs2 hx2)
    | (go_at_call 19; (with_reducible refine (HK3.out w2 HS2.out).mono ?_); rintro e w3 ⟨rfl, hs3, hx3⟩; have HS3 := Lib.hid hs3; have HX3 := Lib.hid (HX2.out.trans hx3); clear hs3 hx3))
  go_upto_region 7 with (fail)
  have hbo : Bk (w3.alloc (.cells #[.int .i64 16, .int .i64 17, .int .i64 18, .int .i64 0, .int .i64 8, .int .i64 7, .int .i64 9, .int .i64 6, .int .i64 10, .int .i64 5, .int .i64 11, .int .i64 4, .int .i64 12, .int .i64 3, .int .i64 13, .int .i64 2, .int .i64 14, .int .i64 1, .int .i64 15] tI)) w3.heap.size tI (vn order) := Bk.made w3 tI #[.int .i64 16, .int .i64 17, .int .i64 18, .int .i64 0, .int .i64 8, .int .i64 7, .int .i64 9, .int .i64 6, .int .i64 10, .int .i64 5, .int .i64 11, .int .i64 4, .int .i64 12, .int .i64 3, .int .i64 13, .int .i64 2, .int .i64 14, .int .i64 1, .int .i64 15]
  have hfb := Fresh.alloc w3 (.cells #[.int .i64 16, .int .i64 17, .int .i64 18, .int .i64 0, .int .i64 8, .int .i64 7, .int .i64 9, .int .i64 6, .int .i64 10, .int .i64 5, .int .i64 11, .int .i64 4, .int .i64 12, .int .i64 3, .int .i64 13, .int .i64 2, .int .i64 14, .int .i64 1, .int .i64 15] tI)
  generalize w3.alloc (.cells #[.int .i64 16, .int .i64 17, .int .i64 18, .int .i64 0, .int .i64 8, .int .i64 7, .int .i64 9, .int .i64 6, .int .i64 10, .int .i64 5, .int .i64 11, .int .i64 4, .int .i64 12, .int .i64 3, .int .i64 13, .int .i64 2, .int .i64 14, .int .i64 1, .int .i64 15] tI) = wb at *
  generalize w3.heap.size = go at *
  have hsb := HS3.out.fresh hfb
  have hgb : g < wb.heap.size := hsb.inside
  have HSB := Lib.hid hsb
  have HXB := Lib.hid (HX3.out.trans (KeepX.fresh hfb))
  have HBO := Lib.hid hbo
  clear hbo hfb hsb
  go_wp2_with ((with_reducible (refine at_slot_ 28 ?_)); refine wpList_make_blk rfl 44 (.const (.int .i64 19)) (.const (.int .i64 19)) rfl tI i0 _ Tryz.underlying44 hi0 hz0 hz1 rfl 19 rfl rfl (by rw [hz2]; omega) (by unfold maxLen; omega) wb.heap.size rfl ?_; intro w4 hb4 hf4)
  obtain ⟨gl, hgl⟩ : ∃ gl, wb.heap.size = gl := ⟨_, rfl⟩
  rw [hgl] at hb4 hgb ⊢
  have hb5 : Bk w4 gl tI (vn (laidTo 0 l)) := by rw [laidTo_zero]; exact hb4
  have hgo : go < gl := by rw [← hgl]; exact HBO.out.inside
  have HB5 := Lib.hid hb5
  have HF4 := Lib.hid hf4
  have HGL := Lib.hid hgl
  clear hb4 hb5 hf4 hgl
  go_loopw [8] (fun i wr => ∃ (j pj : Nat), i = .int .i64 (j : Nat) ∧ j ≤ K ∧ Bk wr gl tI (vn (laidTo j l)) ∧ StAt w0 g U T pj out wr ∧ KeepX wb wr ∧ Hid (times (take 3) (K - j) U T pj = .ok (l.drop j, p4))) (fun i _ => K - (intOf i).toNat)
  case atStart => exact ⟨0, p3, rfl, Nat.zero_le _, HB5.out, HSB.out.fresh HF4.out, KeepX.fresh HF4.out, H4⟩
  case round =>
    obtain ⟨j, pj, rfl, hj, hbl, hst, hkx, htm⟩ := hrel
    by_cases hlt : j < K
    · obtain ⟨m, hm⟩ : ∃ m, K - j = m + 1 := ⟨K - j - 1, by omega⟩
      have htm2 := htm.out
      rw [hm] at htm2
      obtain ⟨x, pn, rr, htk, hnext, hcons⟩ := times_step htm2
      have hlj : j < l.length := by rw [HLK.out]; exact hlt
      rw [List.drop_eq_getElem_cons hlj] at hcons
      injection hcons with hx1 hx2
      rw [← hx2, show m = K - (j + 1) by omega] at hnext
      have hxd : l.getD j 0 = x := by rw [List.getD_eq_getElem?_getD, List.getElem?_eq_getElem hlj]; exact hx1
      obtain ⟨o, ho⟩ : ∃ o, order.getD j 0 = o := ⟨_, rfl⟩
      have ho19 : o < 19 := by rw [← ho]; exact order_lt ⟨j, by omega⟩
      have hstep := laidTo_step l (show j < 19 by omega)
      rw [ho, hxd] at hstep
      have htake : Calls Tryz.prog 19 #[pg g, .int .i64 3] wr.drew fun e w' => e = .returned (.int .i64 (x : Nat)) ∧ StAt w0 g U T pn out w' ∧ KeepX wr.drew w' := take_any w0 g U T pj 3 x pn out wr.drew (hst.fresh (Fresh.drew wr)) (by omega) hT htk
      have hbo := hkx.bk (by decide) (by decide) HBO.out
      have hoc : (vn order)[j]? = some (iv (o : Nat)) := by
        have : order[j]? = some o := by
          rw [← ho, List.getD_eq_getElem?_getD]
          rw [List.getElem?_eq_getElem (show j < order.length by show j < 19; omega)]
          rfl
        unfold vn
        rw [List.getElem?_map, this]
        rfl
      have c1 : wr.drew.cell? ⟨go, j, none⟩ = some (iv (o : Nat)) := (hbo.fresh (Fresh.drew wr)).cell hoc
      have hol : (vn (laidTo j l)).length = 19 := by unfold vn; rw [List.length_map, laidTo_len]
      have pj1 : (j : Int) < 19 := by omega
      have pj0 : (j : Int) < (K : Int) := by omega
      have po1 : (o : Int) < 19 := by omega
      have HTK := Lib.hid htake
      have HNX := Lib.hid hnext
      have HSTEP := Lib.hid hstep
      have HKX := Lib.hid hkx
      have HBL := Lib.hid hbl
      have HOC := Lib.hid hoc
      have HBO2 := Lib.hid hbo
      clear htake hnext hstep hkx hbl htm htm2 htk hx1 hx2 hxd hbo hoc ho hst hlj hm
      go_wp2
      go_region_law ((with_reducible refine rst_slot_ 44 ?_); go_simp; (refine HTK.out.mono ?_); rintro e w5 ⟨rfl, hs5, hk5⟩; have hx5 := (KeepX.fresh (Fresh.drew wr)).trans hk5; have hbl5 := hx5.bk (by decide) (by decide) HBL.out; have c2 := (hx5.bk (by decide) (by decide) HBO2.out).cell HOC.out; have f2 := hbl5.free o; obtain ⟨v2, d2⟩ : ∃ v, w5.cell? ⟨gl, o, none⟩ = some v := ⟨_, hbl5.cell (i := o) (List.getElem?_eq_getElem (by rw [hol]; exact ho19))⟩; have HS5 := Lib.hid hs5; have HX5 := Lib.hid hx5; have HBL5 := Lib.hid hbl5; clear hs5 hk5 hx5 hbl5)
      all_goals go_wp2
      all_goals
        have hput := HBL5.out.put o (iv (x : Nat))
        rw [vn_set, HSTEP.out] at hput
        have hst6 := HS5.out.apart (i := o) (v := iv (x : Nat)) HBL5.out (by decide) (by decide) hgb
        have hkx6 := (HKX.out.trans HX5.out).put (i := o) (v := iv (x : Nat)) (Nat.le_of_eq HGL.out)
        have HPUT := Lib.hid hput
        have HST6 := Lib.hid hst6
        have HKX6 := Lib.hid hkx6
        clear hput hst6 hkx6
        go_roundw
        case rel => exact ⟨j + 1, pn, by go_num, by omega, HPUT.out, HST6.out, HKX6.out, HNX⟩
        case measure => simp [intOf]; omega
    · have hjK : j = K := by omega
      subst hjK
      have htm2 := htm.out
      rw [Nat.sub_self] at htm2
      obtain ⟨_, rfl⟩ := give_ok htm2
      rw [laidTo_all (Nat.le_of_eq HLK.out)] at hbl
      have p0 : decide ((j : Int) < (j : Int)) = false := by simp
      have k3 := hst.e0
      have hrd : Rd wr wr.heap.size (some ⟨gl, 0, none⟩) 19 (vn (laid l)) := ⟨by unfold vn; rw [List.length_map, laid_len], fun _ => ⟨gl, 0, rfl, hbl.inside, fun i u hu => by rw [Nat.zero_add]; exact hbl.cell hu⟩⟩
      have hmay := may_any (some ⟨gl, 0, none⟩) 19 19 wr.heap.size (laid l) false wr hrd (Nat.le_refl _) (by omega) HLL.out H5.out
      have hnew := fun V (hV : Fresh wr V) => newR_any (some ⟨gl, 0, none⟩) 19 19 wr.heap.size (laid l) V (hrd.below hV (Nat.le_refl _)) hV.size (by omega) HLL.out (mayBe_tx H5.out)
      obtain ⟨F, hF⟩ : ∃ F : Nat, (if tx (laid l) 15 < 32768 then 1 else 0 : Nat) = F := ⟨_, rfl⟩
      rw [hF, laid_len] at hnew
      have hlens := fun V L (hV : StAt w0 g U T p4 out V) (hc : CodeR V (laid l) (.agg #[.slice (some ⟨L, 0, none⟩) 19 19, .int .i64 (F : Nat)])) => lengths_any w0 g U T p4 M (M + 1) q out V hV (laid l) r _ hc (mayBe_tx H5.out) HLL.out (by rw [laid_len]; omega) (by omega) hT H6.out
      have e5b : (nl : Int) + (nd : Int) = (M : Int) := by have h1 := HMM.out; omega
      have e5 : IntKind.i64.wrap ((nl : Int) + (nd : Int)) = (M : Int) := by rw [IntWalk.i64_in _ (by omega)]; exact e5b
      have HMAY := Lib.hid hmay
      have HNEW := Lib.hid hnew
      have HLENS := Lib.hid hlens
      have HST := Lib.hid hst
      have HKX := Lib.hid hkx
      clear hst hkx hbl htm htm2 hmay hnew hlens hF hrd
      go_upto_region 14 with (go_at_call 46; (with_reducible refine HMAY.out.mono ?_); rintro e w6 ⟨rfl, hf6⟩; have HF6 := Lib.hid hf6; clear hf6)
      clear k3
      have k3 := (HST.out.fresh HF6.out).e0
      go_upto_region 17 with (first
        | (go_at_call 42; (with_reducible refine (HNEW.out w6 HF6.out).mono ?_); rintro e w7 ⟨L, rfl, hc7, hf7⟩; have HC7 := Lib.hid hc7; have HF7 := Lib.hid (HF6.out.trans hf7); clear hc7 hf7)
        | (go_at_call 47; (with_reducible refine (HLENS.out w7 L (HST.out.fresh HF7.out) HC7.out).mono ?_); rintro e w8 ⟨A8, c8, rfl, hrl, hown8, hst8, hkx8⟩; have HO8 := Lib.hid hown8; have HS8 := Lib.hid hst8; have HX8 := Lib.hid ((HKX.out.trans (KeepX.fresh HF7.out)).trans hkx8); clear hown8 hst8 hkx8 hrl))
      clear k3
      have k3 := HS8.out.e0
      have hrd8 := HO8.out.rd
      have hcap := HO8.out.cap
      obtain ⟨b, off, x, hA8, hbb, hxx, hcx⟩ := hrd8.at_ (enc := fun x : Nat => iv (x : Int)) (k := 256) (by omega)
      subst hA8
      have hx0 : x ≠ 0 := by
        have h1 := H7.out
        rw [List.getD_eq_getElem?_getD, hxx] at h1
        exact h1
      have ex0 : ((x : Int) == 0) = false := by rw [beq_eq_false_iff_ne]; omega
      obtain ⟨hrA, hrB⟩ := halves hrd8 HMM.out
      have hm15a : ∀ x ∈ r.take nl, x ≤ 15 := fun x hx => HR15.out x (List.mem_of_mem_take hx)
      have hm15b : ∀ x ∈ r.drop nl, x ≤ 15 := fun x hx => HR15.out x (List.mem_of_mem_drop hx)
      have hmA := fun c => may_any (some ⟨b, off, none⟩) nl c w8.heap.size (r.take nl) false w8 hrA (Nat.le_refl _) (by omega) hm15a H8.out
      have hmB := fun V c (hV : Fresh w8 V) => may_any (some ⟨b, off + nl, none⟩) nd c w8.heap.size (r.drop nl) true V (hrB.below hV (Nat.le_refl _)) hV.size (by omega) hm15b H9.out
      have HMA := Lib.hid hmA
      have HMB := Lib.hid hmB
      have HRA := Lib.hid hrA
      have HRB := Lib.hid hrB
      have pnn : nl ≤ M := by omega
      have pnn2 : (256 : Int) < (M : Int) := by omega
      have pn0 : (0 : Int) ≤ (nl : Int) := by omega
      have pn1 : (nl : Int) ≤ (c8 : Int) := by omega
      have pn2 : (nl : Int) ≤ (M : Int) := by omega
      have pn3 : (M : Int) ≤ (c8 : Int) := by omega
      have pn4 : M - nl = nd := by have h1 := HMM.out; omega
      have pne : ¬ c8 = nl := by omega
      have pne0 : ¬ c8 = 0 := by omega
      clear hrd8 hrA hrB hmA hmB hxx hx0 hm15a hm15b
      go_upto_region 22 with (first
        | (go_at_call 46; (with_reducible refine (HMA.out _).mono ?_); rintro e w9 ⟨rfl, hf9⟩; have HF9 := Lib.hid hf9; clear hf9)
        | (go_at_call 46; (with_reducible refine (HMB.out w9 _ HF9.out).mono ?_); rintro e w10 ⟨rfl, hf10⟩; have HF10 := Lib.hid (HF9.out.trans hf10); clear hf10))
      have hxa := (HXB.out.trans HX8.out).trans (KeepX.fresh HF10.out)
      have hb10 := hxa.bk (by decide) (by decide) HBR.out
      have d0 := hb10.cell (i := 0) rfl
      have d1 := hb10.cell (i := 1) rfl
      have f0 := hb10.free 0
      have f1 := hb10.free 1
      have HB10 := Lib.hid hb10
      have HXA := Lib.hid hxa
      clear hxa hb10 k3
      go_region
      have hb11 := (((HB10.out.put 0 (.slice (some ⟨b, off, none⟩) nl c8)).put 1 (.slice (some ⟨b, off + nl, none⟩) nd (c8 - nl))).fresh (Fresh.drew _))
      have hgr : g < w.heap.size := hgw
      have hst11 := (((HS8.out.fresh HF10.out).apart (i := 0) (v := .slice (some ⟨b, off, none⟩) nl c8) HB10.out (by decide) (by decide) hgr).apart (i := 1) (v := .slice (some ⟨b, off + nl, none⟩) nd (c8 - nl)) (HB10.out.put 0 _) (by decide) (by decide) hgr).fresh (Fresh.drew _)
      have hkw : KeepX w w10 := (KeepX.fresh HFA.out).trans HXA.out
      have hkx11 := ((hkw.put (gl := w.heap.size) (i := 0) (v := .slice (some ⟨b, off, none⟩) nl c8) (Nat.le_refl _)).put (gl := w.heap.size) (i := 1) (v := .slice (some ⟨b, off + nl, none⟩) nd (c8 - nl)) (Nat.le_refl _)).trans (KeepX.fresh (Fresh.drew _))
      have hne8 := (HO8.out.fresh HF10.out).ne_block HB10.out (by decide)
      have hown11 := ((((HO8.out.fresh HF10.out).but (But.put _ _) hne8).but (But.put _ _) hne8).fresh (Fresh.drew _) : Own ((w10.setCell ⟨w.heap.size, 0, none⟩ (.slice (some ⟨b, off, none⟩) nl c8)).setCell ⟨w.heap.size, 1, none⟩ (.slice (some ⟨b, off + nl, none⟩) nd (c8 - nl))).drew _ _ _ _ _ _)
      obtain ⟨hrA, hrB⟩ := halves hown11.rd HMM.out
      have hnl3 : nl ≤ 320 := by omega
      have hnd3 : nd ≤ 320 := by omega
      go_wp2
      exact bodyPost_ret (results_cell_row (p := 2) (by kernel_rfl) _ _ w.heap.size tPair #[.slice (some ⟨b, off, none⟩) nl c8, .slice (some ⟨b, off + nl, none⟩) nd (c8 - nl)] (0, 0) _ rfl hb11 Tryz.underlying53 rfl (by kernel_rfl)) rfl ⟨_, _, _, _, _, _, rfl, hrA, hrB, hnl3, hnd3, hst11, hkx11⟩
end Go.Proofs.YtfpicifjjedlaaaGreatDoor.refp
/-
  Layer 6's reference: All, what is right. My own text.
-/
namespace Go.Proofs.YtfpicifjjedlaaaGreatDoor.refp
open Go.RowKit Go.Proofs.YtfpicifjjedlaaaGreatDoor.base Go.Proofs.YtfpicifjjedlaaaGreatDoor.num Go.Proofs.YtfpicifjjedlaaaGreatDoor.bitnum Go.Proofs.YtfpicifjjedlaaaGreatDoor.bitp Go.Proofs.YtfpicifjjedlaaaGreatDoor.huffnum Go.Proofs.YtfpicifjjedlaaaGreatDoor.infnum
set_option linter.unusedVariables false
theorem fixed_fits : tx fixedLits 15 ≤ 32768 ∧ tx fixedDist 15 ≤ 32768 ∧ (∀ x ∈ fixedLits, x ≤ 15) ∧ (∀ x ∈ fixedDist, x ≤ 15) :=
  ⟨of_decide_eq_true (by kernel_rfl), of_decide_eq_true (by kernel_rfl), of_decide_eq_true (by kernel_rfl), of_decide_eq_true (by kernel_rfl)⟩
theorem sy_on {a b : List Nat} {U T p q : Nat} {o o' : List UInt8} (h : Sy a b U T o p o' q) : p ≤ q := by
  induction h with
  | fin h => exact (Loc.sym _ _ _ _ _ _ h).1
  | lit h hk r ih => exact Nat.le_trans (Loc.sym _ _ _ _ _ _ h).1 ih
  | copy h h1 h2 he hd h3 hx h4 h5 r ih =>
    have e1 := (Loc.sym _ _ _ _ _ _ h).1
    have e2 := (Loc.take _ _ _ _ _ _ he).1
    have e3 := (Loc.sym _ _ _ _ _ _ hd).1
    have e4 := (Loc.take _ _ _ _ _ _ hx).1
    omega
theorem raws_on : ∀ (n : Nat) {o a : List UInt8} {U T p q : Nat}, raws n o U T p = .ok (a, q) → p ≤ q
  | 0, o, a, U, T, p, q, h => by
    obtain ⟨_, rfl⟩ := give_ok h
    exact Nat.le_refl _
  | n + 1, o, a, U, T, p, q, h => by
    obtain ⟨v, p1, h1, h2⟩ := also_ok h
    exact Nat.le_trans (Loc.take _ _ _ _ _ _ h1).1 (raws_on n h2)
theorem blk_on {U T p l p2 q k : Nat} {o o' : List UInt8} (h : Blk U T o p l p2 o' q k) : p2 ≤ q := by
  cases h with
  | stored h1 h2 h3 h4 =>
    have e1 := (Loc.take _ _ _ _ _ _ h1).1
    have e2 := (Loc.take _ _ _ _ _ _ h2).1
    have e3 := raws_on _ h4
    omega
  | fixed h => exact sy_on h
  | own h1 h => exact Nat.le_trans (Loc.codes _ _ _ _ _ h1).1 (sy_on h)
/-- how many bits are taken, as it stands in memory -/
def posAt (W : World) (g : Nat) : Nat := match W.cell? ⟨g, 1, none⟩ with
  | some (.int _ p) => p.toNat
  | _ => 0
theorem StAt.posAt {w0 W : World} {g U T p : Nat} {out : List UInt8} (h : StAt w0 g U T p out W) : posAt W g = p := by
  obtain ⟨c1, _⟩ := h.cells
  unfold refp.posAt
  rw [c1]
  simp
/-- a state new made -/
theorem StAt.new {w w1 : World} {T U c : Nat} {A : Option Addr} (hf : Fresh w w1) (ho : Own w1 w1.heap.size tI A T c (vn (lb T U)) ∨ ∃ base, Own w1 base tI A T c (vn (lb T U))) :
    StAt w w1.heap.size U T 0 [] (w1.alloc (.cells #[.slice A T c, iv 0, .slice none 0 0, iv 0] tState)) := by
  obtain ⟨base, ho⟩ : ∃ base, Own w1 base tI A T c (vn (lb T U)) := by
    rcases ho with h | ⟨b, h⟩
    · exact ⟨_, h⟩
    · exact ⟨b, h⟩
  have hfa := Fresh.alloc w1 (.cells #[.slice A T c, iv 0, .slice none 0 0, iv 0] tState)
  have hcap := ho.cap
  exact ⟨⟨A, c, 0, none, 0, rfl, Bk.made w1 tState #[.slice A T c, iv 0, .slice none 0 0, iv 0], ⟨(RdT.of_own1 ho).fresh hfa, ho.rd.below hfa (Nat.le_refl _)⟩, hcap.1, hcap.2, Own.nil _ _ _⟩, hf.size, hf.trans hfa⟩
theorem fin_of {U T p q : Nat} {o : List UInt8} {s : At} (h : infnum.Steps U T (⟨.head, true, o⟩, p) (s, q)) : s = ⟨.head, true, o⟩ ∧ q = p := by
  have := infnum.Fin.stuck (s := ⟨.head, true, o⟩) ⟨rfl, rfl⟩ h
  injection this with h1 h2
  exact ⟨h1, h2⟩
set_option maxHeartbeats 8000000 in
set_option maxRecDepth 100000 in
theorem all_any (A : Option Addr) (n c B : Nat) (bs x : List UInt8) (m most : Nat) (w : World) (hr : Rd w B A n (bs.map bv)) (hB : B ≤ w.heap.size) (hn : n ≤ 16777216) (hu : Unp bs x m) (hx : x.length ≤ most) (hmm : most ≤ 4294967296) :
    Calls Tryz.prog 7 #[.slice A n c, .int .i64 (most : Nat)] w fun e w' => ∃ A' c', e = .returned (.agg #[.slice A' x.length c', .int .i64 (m : Nat), .int .i64 0]) ∧ Rd w' w'.heap.size A' x.length (x.map bv) ∧ Fresh w w' := by
  have hl : bs.length = n := by have := hr.1; rwa [List.length_map] at this
  obtain ⟨s, q, hst, hfin, hsx, hmq, hq8⟩ := hu
  obtain ⟨T, hT⟩ : ∃ T, 8 * n = T := ⟨_, rfl⟩
  obtain ⟨U, hU⟩ : ∃ U, num bs = U := ⟨_, rfl⟩
  rw [hl, hT, hU] at hst
  rw [hl, hT] at hq8
  have hT4 : T ≤ 4294967296 := by omega
  obtain ⟨wa, hwa⟩ : ∃ wa, w.alloc (.cells #[.slice none 0 0, .int .i64 0, .int .i64 0] 30) = wa := ⟨_, rfl⟩
  have hfa : Fresh w wa := by rw [← hwa]; exact Fresh.alloc _ _
  have hbr : Bk wa w.heap.size 30 [.slice none 0 0, .int .i64 0, .int .i64 0] := by rw [← hwa]; exact Bk.made w _ #[.slice none 0 0, .int .i64 0, .int .i64 0]
  have hbits := Bits_any A n c bs wa B (hr.below hfa hB) (by have := hfa.size; omega) (by omega)
  rw [hT, hU] at hbits
  have HBITS := Lib.hid hbits
  have HBR := Lib.hid hbr
  have HFA := Lib.hid hfa
  have HWA := Lib.hid hwa
  have HST := Lib.hid hst
  have HFIN := Lib.hid hfin
  have HSX := Lib.hid hsx
  have HMQ := Lib.hid hmq
  have HX := Lib.hid hx
  have HQ8 := Lib.hid hq8
  clear hbits hbr hfa hwa hst hfin hsx hmq hx hr hl hT hU hq8
  go_enter Tryz.func7, Tryz.ntmps7
  go_upto_region 1 with (fail)
  rw [HWA.out]
  go_upto_region 2 with (go_at_call 18; (with_reducible refine HBITS.out.mono ?_); rintro e w1 ⟨A1, c1, rfl, hf1, ho1⟩; have HF1 := Lib.hid hf1; have HO1 := Lib.hid ho1; clear hf1 ho1)
  have hs2 : StAt w w1.heap.size U T 0 [] (w1.alloc (.cells #[.slice A1 T c1, .int .i64 0, .slice none 0 0, .int .i64 0] tState)) := StAt.new (HFA.out.trans HF1.out) (.inr ⟨_, HO1.out⟩)
  have hf2 : Fresh wa (w1.alloc (.cells #[.slice A1 T c1, .int .i64 0, .slice none 0 0, .int .i64 0] tState)) := HF1.out.trans (Fresh.alloc _ _)
  generalize w1.alloc (.cells #[.slice A1 T c1, .int .i64 0, .slice none 0 0, .int .i64 0] tState) = wb at *
  have hgw : w.heap.size < w1.heap.size := Nat.lt_of_lt_of_le HBR.out.inside HF1.out.size
  generalize w1.heap.size = g at *
  have HS2 := Lib.hid hs2
  have HF2 := Lib.hid hf2
  have HGW := Lib.hid hgw
  clear hs2 hf2 hgw HF1 HO1
  go_wp2
  go_loopw [6] (fun i wr => ∃ (l p : Nat) (cur : List UInt8), i = .int .i64 (l : Nat) ∧ StAt w g U T p cur wr ∧ KeepX wb wr ∧ Hid (infnum.Steps U T (⟨.head, decide (l = 1), cur⟩, p) (s, q)) ∧ l ≤ 1) (fun _ wr => T - posAt wr g)
  case atStart => exact ⟨0, 0, [], rfl, HS2.out, KeepX.refl _, HST, by omega⟩
  case round =>
    obtain ⟨l, p, cur, rfl, hst, hkx, hsteps, hl1⟩ := hrel
    have hcm : cur.length ≤ most := by
      have h1 := out_le hsteps.out
      have h2 := HX.out
      have h3 : s.out.length = x.length := by rw [HSX.out]
      simp only at h1
      omega
    have hcm1 : decide ((cur.length : Int) ≤ (most : Int)) = true := by rw [decide_eq_true_iff]; omega
    have k3 := hst.e0
    obtain ⟨O, cO, k2, hown, _⟩ := hst.got
    have hpos := hst.posAt
    have hl2 : l = 0 ∨ l = 1 := by omega
    rcases hl2 with rfl | rfl
    · obtain ⟨l2, p1, k, p2, o', p', htk1, htk2, hblk, hnext⟩ := steps_head HFIN.out hsteps.out
      have hon := blk_on hblk
      obtain ⟨hq1, -, rfl⟩ := take_of htk1
      obtain ⟨hq2, -, rfl⟩ := take_of htk2
      have hl2 := take_lt htk1
      have hom : o'.length ≤ most := by
        have h1 := out_le hnext
        have h2 := HX.out
        have h3 : s.out.length = x.length := by rw [HSX.out]
        simp only at h1
        omega
      have hk1 : Calls Tryz.prog 19 #[pg g, .int .i64 1] wr fun e w' => e = .returned (.int .i64 (l2 : Nat)) ∧ StAt w g U T (p + 1) cur w' ∧ KeepX wr w' := take_any w g U T p 1 l2 (p + 1) cur wr hst (by omega) hT4 htk1
      have hk2 : ∀ V, StAt w g U T (p + 1) cur V → Calls Tryz.prog 19 #[pg g, .int .i64 2] V fun e w' => e = .returned (.int .i64 (k : Nat)) ∧ StAt w g U T (p + 1 + 2) cur w' ∧ KeepX V w' := fun V hV => take_any w g U T (p + 1) 2 k (p + 1 + 2) cur V hV (by omega) hT4 htk2
      have HK1 := Lib.hid hk1
      have HK2 := Lib.hid hk2
      have HKX := Lib.hid hkx
      have HST1 := Lib.hid hst
      have HNX := Lib.hid hnext
      have HOM := Lib.hid hom
      have HON := Lib.hid hon
      have HPOS := Lib.hid hpos
      have HBLK := Lib.hid hblk
      have HQ2 := Lib.hid hq2
      have hl22 : l2 ≤ 1 := by omega
      clear hk1 hk2 hkx hst hnext hom hon hpos hblk hq2 hq1 htk1 htk2 hsteps hl2 hown
      go_upto_region 7 with (first
        | (go_at_call 19; (with_reducible refine HK1.out.mono ?_); rintro e w3 ⟨rfl, hs3, hx3⟩; have HS3 := Lib.hid hs3; have HX3 := Lib.hid (HKX.out.trans hx3); clear hs3 hx3)
        | (go_at_call 19; (with_reducible refine (HK2.out w3 HS3.out).mono ?_); rintro e w4 ⟨rfl, hs4, hx4⟩; have k34 := hs4.e0; have HS4 := Lib.hid hs4; have HX4 := Lib.hid (HX3.out.trans hx4); clear hs4 hx4))
      have hmes : ∀ V, StAt w g U T p' o' V → T - posAt V g < T - posAt wr g := fun V hV => by
        rw [hV.posAt, HPOS.out]
        have h1 := HON.out
        have h2 := HQ2.out
        omega
      have HMES := Lib.hid hmes
      clear hmes k3 k2
      cases HBLK.out with
      | @stored n2 t2 p3 p4 h1 h2 h3 h4 =>
        have hsto : Calls Tryz.prog 20 #[pg g, .int .i64 (most : Nat)] w4 fun e w' => e = .returned (.tuple #[]) ∧ StAt w g U T p' o' w' ∧ KeepX w4 w' := stored_any w g U T (p + 1 + 2) n2 t2 p3 p4 p' most cur o' w4 HS4.out hT4 (by have h1 := HQ2.out; omega) h1 h2 h3 h4 HOM.out hmm
        have HSTO := Lib.hid hsto
        clear hsto h1 h2 h3 h4
        go_wp2_with (go_at_call 20; (with_reducible refine HSTO.out.mono ?_); rintro e w5 ⟨rfl, hs5, hx5⟩; have HS5 := Lib.hid hs5; have HX5 := Lib.hid (HX4.out.trans hx5); clear hs5 hx5)
        go_roundw
        case rel => exact ⟨l2, p', o', rfl, HS5.out, HX5.out, HNX, hl22⟩
        case measure => exact HMES.out _ HS5.out
      | fixed h =>
        have hfl := fun V => fixedLits_any V
        have hfd := fun V => fixedDist_any V
        have hcod : ∀ V A1 c1 A2 c2, StAt w g U T (p + 1 + 2) cur V → Own V V.heap.size tI A1 288 c1 (vn fixedLits) ∨ (∃ B, Own V B tI A1 288 c1 (vn fixedLits)) → (∃ B, Own V B tI A2 32 c2 (vn fixedDist)) → Calls Tryz.prog 21 #[pg g, .agg #[.slice A1 288 c1, .slice A2 32 c2], .int .i64 (most : Nat)] V fun e w' => e = .returned (.tuple #[]) ∧ StAt w g U T p' o' w' ∧ KeepX V w' := fun V A1 c1 A2 c2 hV h1 ⟨B2, h2⟩ => by
          have h1 : ∃ B, Own V B tI A1 288 c1 (vn fixedLits) := by
            rcases h1 with h | h
            · exact ⟨_, h⟩
            · exact h
          obtain ⟨B1, h1⟩ := h1
          exact coded_any w g U T (p + 1 + 2) p' most cur o' V hV fixedLits fixedDist A1 288 c1 A2 32 c2 V.heap.size h1.rd h2.rd (Nat.le_refl _) (by omega) (by omega) fixed_fits.2.2.1 fixed_fits.2.2.2 fixed_fits.1 fixed_fits.2.1 hT4 h HOM.out hmm
        have HFL := Lib.hid hfl
        have HFD := Lib.hid hfd
        have HCOD := Lib.hid hcod
        clear hfl hfd hcod h
        go_wp2_with (first
          | (go_at_call 22; (with_reducible refine (HFL.out _).mono ?_); rintro e w5 ⟨A5, c5, rfl, ho5, hf5⟩; have HO5 := Lib.hid ho5; have HF5 := Lib.hid hf5; clear ho5 hf5)
          | (go_at_call 23; (with_reducible refine (HFD.out _).mono ?_); rintro e w6 ⟨A6, c6, rfl, ho6, hf6⟩; have HO6 := Lib.hid ho6; have HF6 := Lib.hid hf6; clear ho6 hf6)
          | (go_at_call 21; (with_reducible refine (HCOD.out w6 A5 c5 A6 c6 (HS4.out.fresh (HF5.out.trans HF6.out)) (.inr ⟨_, HO5.out.fresh HF6.out⟩) ⟨_, HO6.out⟩).mono ?_); rintro e w7 ⟨rfl, hs7, hx7⟩; have HS7 := Lib.hid hs7; have HX7 := Lib.hid ((HX4.out.trans (KeepX.fresh (HF5.out.trans HF6.out))).trans hx7); clear hs7 hx7))
        go_roundw
        case rel => exact ⟨l2, p', o', rfl, HS7.out, HX7.out, HNX, hl22⟩
        case measure => exact HMES.out _ HS7.out
      | @own la lb p3 h1 h =>
        have hcs := codes_any w g U T (p + 1 + 2) p3 cur w4 HS4.out hT4 la lb h1
        obtain ⟨z1, z2, z3, z4, _, _⟩ := codes_fit h1
        have hcod : ∀ V A1 n1 c1 A2 n2 c2, StAt w g U T p3 cur V → (∃ B, B ≤ V.heap.size ∧ Rd V B A1 n1 (vn la) ∧ Rd V B A2 n2 (vn lb)) → n1 ≤ 320 → n2 ≤ 320 → Calls Tryz.prog 21 #[pg g, .agg #[.slice A1 n1 c1, .slice A2 n2 c2], .int .i64 (most : Nat)] V fun e w' => e = .returned (.tuple #[]) ∧ StAt w g U T p' o' w' ∧ KeepX V w' := fun V A1 n1 c1 A2 n2 c2 hV ⟨B, h1, h2, h3⟩ y1 y2 =>
          coded_any w g U T p3 p' most cur o' V hV la lb A1 n1 c1 A2 n2 c2 B h2 h3 h1 y1 y2 z1 z2 z3 z4 hT4 h HOM.out hmm
        have HCS := Lib.hid hcs
        have HCOD := Lib.hid hcod
        clear hcs hcod h1 h z1 z2 z3 z4
        go_upto_region 14 with (fail)
        go_wp2_with (first
          | (go_at_call 24; (with_reducible refine HCS.out.mono ?_); rintro e w5 ⟨A5, n5, c5, A6, n6, c6, rfl, hr5, hr6, hn5, hn6, hs5, hx5⟩; have hbp := Bk.made w5 tPair #[.slice none 0 0, .slice none 0 0]; have HR5 := Lib.hid hr5; have HR6 := Lib.hid hr6; have HBP := Lib.hid hbp; have HS5 := Lib.hid hs5; have HX5 := Lib.hid (HX4.out.trans hx5); clear hr5 hr6 hbp hs5 hx5)
          | ((with_reducible (refine at_store_ 8 59 ?_)); refine wpList_store_blk rfl tPair (.tmp 8) (.tmp 59) rfl w5.heap.size 0 tPair [.slice none 0 0, .slice none 0 0] [.slice A5 n5 c5, .slice A6 n6 c6] rfl rfl HBP.out (by simp) (by simp; exact ⟨rfl, rfl⟩) (by kernel_rfl) ?_; intro w6 hb6 hbut6; have hf6 : Fresh w5 w6 := (Fresh.alloc _ _).but (Nat.le_refl _) hbut6; have hb6' : Bk w6 w5.heap.size tPair [.slice A5 n5 c5, .slice A6 n6 c6] := hb6; have HB6 := Lib.hid hb6'; have HF6 := Lib.hid hf6; have k36 := (HS5.out.fresh hf6).e0; clear hb6 hb6' hbut6 hf6)
          | ((with_reducible refine at_slot_ 66 ?_); refine wpList_load_blk rfl tPair (.tmp 8) rfl w5.heap.size 0 2 tPair [.slice A5 n5 c5, .slice A6 n6 c6] rfl HB6.out (by simp) _ Tryz.underlying53 rfl (by kernel_rfl) ?_)
          | (go_at_call 21; (with_reducible refine (HCOD.out w6 A5 n5 c5 A6 n6 c6 (HS5.out.fresh HF6.out) ⟨w5.heap.size, HF6.out.size, HR5.out.below HF6.out (Nat.le_refl _), HR6.out.below HF6.out (Nat.le_refl _)⟩ hn5 hn6).mono ?_); rintro e w7 ⟨rfl, hs7, hx7⟩; have HS7 := Lib.hid hs7; have HX7 := Lib.hid ((HX5.out.trans (KeepX.fresh HF6.out)).trans hx7); clear hs7 hx7))
        go_roundw
        case rel => exact ⟨l2, p', o', rfl, HS7.out, HX7.out, HNX, hl22⟩
        case measure => exact HMES.out _ HS7.out
    · obtain ⟨hs, hqp⟩ := fin_of (by simpa using hsteps.out)
      subst hqp
      have hcx : cur = x := by rw [← HSX.out, hs]
      subst hcx
      have em : IntKind.i64.wrap ((q : Int) + 7) = (q : Int) + 7 := by rw [IntWalk.i64_in _ (by have := HQ8.out; omega)]
      have em2 : IntKind.i64.wrap (((q : Int) + 7) / 8) = (m : Int) := by rw [IntWalk.i64_in _ (by have := HQ8.out; omega)]; have h1 := HMQ.out; omega
      have em3 : ((q : Int) + 7) / 8 = (m : Int) := by have h1 := HMQ.out; omega
      have k1 := hst.cells.1
      have HST1 := Lib.hid hst
      have HKX := Lib.hid hkx
      have HOWN := Lib.hid hown
      have hb5 := (((KeepX.fresh HF2.out).trans hkx).bk (by decide) (by decide) HBR.out)
      have d0 := hb5.free 0
      have d1 := hb5.free 1
      have d2 := hb5.free 2
      have y0 := hb5.cell (i := 0) rfl
      have y1 := hb5.cell (i := 1) rfl
      have y2 := hb5.cell (i := 2) rfl
      have HB5 := Lib.hid hb5
      have hng : ¬ g = w.heap.size := by have := HGW.out; omega
      have hng2 : ¬ w.heap.size = g := by have := HGW.out; omega
      clear hst hkx hown hb5 hsteps hs hpos
      go_upto_region 17 with (fail)
      go_region
      rw [show wrap64 (((q : Int) + 7).tdiv 8) = (m : Int) by rw [Int.tdiv_eq_ediv_of_nonneg (by omega), em3]; exact IntWalk.wrap64_in _ ⟨by have h1 := HMQ.out; have h2 := HQ8.out; omega, by have h1 := HMQ.out; have h2 := HQ8.out; omega⟩]
      have hb6 := ((((HB5.out.put 0 (.slice O cur.length cO)).put 1 (.int .i64 (m : Nat))).put 2 (.int .i64 0)).fresh (Fresh.drew _))
      have hne := HOWN.out.ne_block HB5.out (by decide)
      have hown6 := ((((HOWN.out.but (But.put _ _) hne).but (But.put _ _) hne).but (But.put _ _) hne).fresh (Fresh.drew _) : Own (((wr.setCell ⟨w.heap.size, 0, none⟩ (.slice O cur.length cO)).setCell ⟨w.heap.size, 1, none⟩ (.int .i64 (m : Nat))).setCell ⟨w.heap.size, 2, none⟩ (.int .i64 0)).drew _ _ _ _ _ _)
      have hfr6 : Fresh w _ := ((((HST1.out.fr.but (Nat.le_refl _) (But.put (g := w.heap.size) (i := 0) wr (.slice O cur.length cO))).but (Nat.le_refl _) (But.put (g := w.heap.size) (i := 1) _ (.int .i64 (m : Nat)))).but (Nat.le_refl _) (But.put (g := w.heap.size) (i := 2) _ (.int .i64 0))).trans (Fresh.drew _))
      go_wp2
      exact bodyPost_ret (results_cell_row (p := 4) (by kernel_rfl) _ _ w.heap.size 30 #[.slice O cur.length cO, .int .i64 (m : Nat), .int .i64 0] (0, 0) _ rfl hb6 Tryz.underlying30 rfl (by kernel_rfl)) rfl ⟨_, _, rfl, hown6.rd, hfr6⟩
end Go.Proofs.YtfpicifjjedlaaaGreatDoor.refp
