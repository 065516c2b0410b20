/-
  ZipSizes: the walk. My own text.
-/
import Derived.Test.YtmnegmebkmihhaaGreatDoorZipSz
import Derived.Deep.RegionLaw
namespace Go.Proofs.YtmnegmebkmihhaaGreatDoor.zipSizes
open Go.RowKit Go.Maps Go.Proofs.YtmnegmebkmihhaaGreatDoor.base Go.Proofs.YtmnegmebkmihhaaGreatDoor.num Go.Proofs.YtmnegmebkmihhaaGreatDoor.recn Go.Proofs.YtmnegmebkmihhaaGreatDoor.recp Go.Proofs.YtmnegmebkmihhaaGreatDoor.nam Go.Proofs.YtmnegmebkmihhaaGreatDoor.namp Go.Proofs.YtmnegmebkmihhaaGreatDoor.zipn Go.Proofs.YtmnegmebkmihhaaGreatDoor.zipp
set_option linter.unusedVariables false
def siz (xs : List Pl) : Nat := (xs.map fun x => 76 + x.bs.length + 2 * (encB x.rs []).length).sum + 22
theorem siz_snoc (xs : List Pl) (x : Pl) : siz (xs ++ [x]) = siz xs + (76 + x.bs.length + 2 * (encB x.rs []).length) := by
  unfold siz
  rw [List.map_append, List.sum_append]
  simp only [List.map_cons, List.map_nil, List.sum_cons, List.sum_nil]
  omega
/-- the items so far are plain ones -/
def Pls (l : List Itm) (j : Nat) (xs : List Pl) : Prop := xs.length = j ∧ ∀ (k : Nat) (i : Itm) (x : Pl), ((l.take j).map ownI)[k]? = some i → xs[k]? = some x → IsPl i x
theorem Pls.next {l : List Itm} {j : Nat} {xs : List Pl} {s : Itm} {x : Pl} (h : Pls l j xs) (hs : l[j]? = some s) (hx : IsPl (ownI s) x) : Pls l (j + 1) (xs ++ [x]) := by
  refine ⟨by simp [h.1], fun k i y hi hy => ?_⟩
  rw [num.take_snoc _ _ _ hs, List.map_append] at hi
  have hlj : ((l.take j).map ownI).length = j := by
    rw [List.length_map, List.length_take]
    have := (List.getElem?_eq_some_iff.1 hs).1
    omega
  by_cases hk : k < j
  · rw [List.getElem?_append_left (by omega)] at hi
    rw [List.getElem?_append_left (by rw [h.1]; exact hk)] at hy
    exact h.2 k i y hi hy
  · have hk2 : k = j := by
      have := (List.getElem?_eq_some_iff.1 hy).1
      simp [h.1] at this
      omega
    subst hk2
    rw [List.getElem?_append_right (by omega), hlj, Nat.sub_self] at hi
    rw [List.getElem?_append_right (by rw [h.1]; omega), h.1, Nat.sub_self] at hy
    injection hi with hi
    injection hy with hy
    subst hi; subst hy
    exact hx
set_option maxRecDepth 100000 in
set_option maxHeartbeats 16000000 in
theorem zipSizes_walk (A0 : Option Addr) (n0 c0 : Nat) (l0 : List Itm) (w : World) (b0 : InItms w A0 n0 c0 l0) (hU : Laid w) :
    Calls Tryz.prog 6 #[.slice A0 n0 c0] w fun e w' => e = .returned (.bool true) ∧ Below w.heap.size w w' := by
  obtain ⟨hits, hnc, hcm, hall⟩ := b0
  have hwk := wakes_any w hU
  have hgr := fun W (hf : Fresh w W) => great_any A0 n0 c0 l0 W w.heap.size (hits.below hf (Nat.le_refl _)) hf.size (by omega) (fun i hi => ⟨by have := hall i hi; omega, (hall i hi).2.2.2.2⟩)
  have HWK := Lib.hid hwk
  cases hg : grt l0 with
  | true =>
    rw [hg] at hgr
    have HGR := Lib.hid hgr
    clear hwk hgr hg hits hnc hcm hall hU
    go_enter Tryz.func6, Tryz.ntmps6
    go_wp2_with (first
      | (go_at_call 8; ((with_reducible refine HWK.out.mono ?_); rintro e w1 ⟨rfl, hf1⟩; have HF1 := Lib.hid hf1; clear hf1))
      | (go_at_call 9; ((with_reducible refine (HGR.out _ HF1.out).mono ?_); rintro e w2 ⟨rfl, hf2⟩)))
    go_ret
    exact ⟨rfl, HF1.out.trans hf2⟩
  | false =>
    rw [hg] at hgr
    have HGR := Lib.hid hgr
    have hn30 : n0 ≤ 30 := by
      unfold grt at hg
      rw [Bool.or_eq_false_iff] at hg
      have := hg.2
      rw [decide_eq_false_iff_not] at this
      have := hits.1
      omega
    have hsm : ∀ i ∈ l0, i.n ≤ 2000 ∧ i.s.size ≤ 100 := fun i hi => by
      unfold grt at hg
      rw [Bool.or_eq_false_iff] at hg
      have h1 := hg.1
      rw [List.any_eq_false] at h1
      have h2 := h1 i hi
      unfold grtI at h2
      simp at h2
      omega
    have HITS := Lib.hid hits
    have HALL := Lib.hid hall
    have HSM := Lib.hid hsm
    have HU := Lib.hid hU
    have HLN := Lib.hid hits.1
    have hn30i : (n0 : Int) ≤ 30 := by omega
    clear hwk hgr hg hits hnc hcm hall hU hsm
    obtain ⟨j0, hj0, hy0, hy1, hy2⟩ := info_parts itemInfo
    go_enter Tryz.func6, Tryz.ntmps6
    go_wp2_with (first
      | (go_at_call 8; ((with_reducible refine HWK.out.mono ?_); rintro e w1 ⟨rfl, hf1⟩; have HF1 := Lib.hid hf1; clear hf1))
      | (go_at_call 9; ((with_reducible refine (HGR.out _ HF1.out).mono ?_); rintro e w2 ⟨rfl, hf2⟩; have HF2 := Lib.hid (HF1.out.trans hf2); clear hf2)))
    go_loopw [3, 4, 15] (fun vo vs vi wr => ∃ (j co S : Nat) (Ao : Option Addr), j ≤ n0 ∧ vi = .int .i64 j ∧ vo = .slice Ao j co ∧ vs = .int .i64 S ∧ S ≤ 22 + j * 2200 ∧ Hid (∃ xs, Pls l0 j xs ∧ S = siz xs) ∧ Hid (OwnK wr w2.heap.size tItem 6 Ao j co itmV ((l0.take j).map ownI)) ∧ Hid (Fresh w2 wr)) (fun _ _ vi _ => n0 - (intOf vi).toNat)
    case atStart => exact ⟨0, 0, 22, none, by omega, rfl, rfl, rfl, by omega, Lib.hid ⟨[], ⟨rfl, fun k i x hi => by simp at hi⟩, rfl⟩, Lib.hid (OwnK.nil _ _ _ _ _), Lib.hid (Fresh.refl _)⟩
    case round =>
      obtain ⟨j, co, S, Ao, hj, rfl, rfl, rfl, hS, HXS, HO, HF⟩ := hrel
      have hfw := HF2.out.trans HF.out
      by_cases hlt : j < n0
      · obtain ⟨bb, off, s, rfl, hbb, hss, hrow, hd⟩ := (HITS.out.below hfw (Nat.le_refl _)).at_ hlt
        have hsm := HSM.out s (List.mem_of_getElem? hss)
        have hsa := HALL.out s (List.mem_of_getElem? hss)
        have hij : (j : Int) < (n0 : Int) := by omega
        have hmay := refMay12 s (wr.alloc (.cells (itmV s).toArray tItem)) (HU.out.fresh (hfw.trans (Fresh.alloc _ _))) hsa.1 hsm.1 hsm.2
        cases hmr : mayR s with
        | false =>
          rw [hmr] at hmay
          obtain ⟨nm, dt, sA, sn, sc, sbs, how, wd, ds⟩ := s
          simp only [itmV] at hmay hrow
          have hbk := Bk.made wr tItem #[.string nm, .int .i64 dt, .slice sA sn sc, .int .i64 how, .bool wd, .bool ds]
          have HMAY := Lib.hid hmay
          have HROW := Lib.hid hrow
          have HBK := Lib.hid hbk
          have HFW := Lib.hid hfw
          clear hmay hrow hbk hd hss hsm hsa hmr hfw
          go_wp2_with (first
            | ((with_reducible (refine at_slot_ 18 ?_)); refine wpList_load_mid rfl tItem (.tmp 17) rfl bb (off + j * 6) rfl [.string nm, .int .i64 dt, .slice sA sn sc, .int .i64 how, .bool wd, .bool ds] _ HROW.out Tryz.underlying31 rfl size_item ?_)
            | ((with_reducible (refine at_slot_ 19 ?_)); refine wpList_load_whole rfl tItem (.tmp 6) rfl wr.heap.size tItem [.string nm, .int .i64 dt, .slice sA sn sc, .int .i64 how, .bool wd, .bool ds] 6 rfl rfl HBK.out _ Tryz.underlying31 rfl size_item ?_)
            | (go_at_call 12; ((with_reducible refine HMAY.out.mono ?_); rintro e w5 ⟨rfl, hf5⟩)))
          go_ret
          exact ⟨rfl, HFW.out.trans ((Fresh.alloc _ _).trans hf5)⟩
        | true =>
          rw [hmr] at hmay
          have hsl : s.bs.length = s.n := by have := hd.1; rwa [List.length_map] at this
          obtain ⟨x, hx⟩ := pl_of s hmr hsm.1 hsl
          have hel := enc_le x hx.ok
          have hxl : x.bs.length = s.n := by rw [← hx.bs]; exact hsl
          have henc : ∀ W A c, Rd W W.heap.size A s.s.size (s.s.data.toList.map bv) → s.s.size ≤ c → c ≤ maxLen → Calls Tryz.prog 21 #[.slice A s.s.size c] W fun e w' => ∃ A' c' b, e = .returned (.agg #[.slice A' (encB x.rs []).length c', .bool b]) ∧ Fresh W w' := fun W A c hr hc hcm => by
            refine (refEncode_any A s.s.size c s.s.data.toList x.rs [] (by rw [List.append_nil]; exact hx.s) hx.ok.rn (.inl rfl) W W.heap.size hr (Nat.le_refl _) (by omega) hc hcm).mono ?_
            rintro e w' ⟨A', m, c', rfl, rfl, hf, _⟩
            exact ⟨A', c', _, rfl, hf⟩
          have hbr := fun W => bytes_run s.s W hsa.2.2.2.2
          obtain ⟨xs, hpls, hsz⟩ := HXS.out
          have hnx := hpls.next hss hx
          have hsz2 : S + (76 + s.n + 2 * (encB x.rs []).length) = siz (xs ++ [x]) := by rw [siz_snoc, hxl, ← hsz]
          have htk := num.take_snoc _ _ _ hss
          have HNX := Lib.hid hnx
          have HSZ2 := Lib.hid hsz2
          have HTK := Lib.hid htk
          have HENC := Lib.hid henc
          have HBR := Lib.hid hbr
          have hown : ownI s = ⟨s.s, s.dt, s.A, s.n, s.c, s.bs, 0, false, false⟩ := rfl
          have HEL := Lib.hid hel
          have hsn := hsm.1
          obtain ⟨nm, dt, sA, sn, sc, sbs, how, wd, ds⟩ := s
          simp only [itmV] at hmay hrow
          simp only at HENC HBR HSZ2 hown hsn
          have hbk := Bk.made wr tItem #[.string nm, .int .i64 dt, .slice sA sn sc, .int .i64 how, .bool wd, .bool ds]
          have HMAY := Lib.hid hmay
          have HROW := Lib.hid hrow
          have HBK := Lib.hid hbk
          have HFW := Lib.hid hfw
          have HOWN := Lib.hid hown
          clear hmay hrow hbk hd hss hsm hsa hmr hfw henc hbr hpls hsz hnx hsz2 htk hsl hxl hel hown hx HXS
          generalize (encB x.rs []).length = E at *
          go_upto_region 13 with (first
            | ((with_reducible (refine at_slot_ 18 ?_)); refine wpList_load_mid rfl tItem (.tmp 17) rfl bb (off + j * 6) rfl [.string nm, .int .i64 dt, .slice sA sn sc, .int .i64 how, .bool wd, .bool ds] _ HROW.out Tryz.underlying31 rfl size_item ?_)
            | ((with_reducible (refine at_slot_ 19 ?_)); refine wpList_load_whole rfl tItem (.tmp 6) rfl wr.heap.size tItem [.string nm, .int .i64 dt, .slice sA sn sc, .int .i64 how, .bool wd, .bool ds] 6 rfl rfl HBK.out _ Tryz.underlying31 rfl size_item ?_)
            | (go_at_call 12; ((with_reducible refine HMAY.out.mono ?_); rintro e w5 ⟨rfl, hf5⟩; have HF5 := Lib.hid ((Fresh.alloc _ _).trans hf5); have hb5 := HBK.out.fresh hf5; have k0 := hb5.cell (i := 0) rfl; have k1 := hb5.cell (i := 1) rfl; have k2 := hb5.cell (i := 2) rfl; have HB5 := Lib.hid hb5; have HAC := Lib.hid (Bk.made w5 tItem #[.string nm, .int .i64 dt, .slice sA sn sc, .int .i64 0, .bool false, .bool false]); have HAF := Lib.hid (Fresh.alloc w5 (.cells #[.string nm, .int .i64 dt, .slice sA sn sc, .int .i64 0, .bool false, .bool false] tItem)); clear hf5 hb5))
            | (at_builtin; refine wpList_append_cells _ rfl (.tmp 22) (.tmp 30) 22 rfl w2.heap.size tItem j0 _ 6 64 Tryz.underlying22 hj0 hy0 hy1 hy2 rfl (by omega) itmV Ao j co ((l0.take j).map ownI) rfl ((HO.out.fresh HF5.out).fresh HAF.out) w5.heap.size ⟨nm, dt, sA, sn, sc, sbs, 0, false, false⟩ rfl HAC.out rfl (itmV_one _) (by have := hlt; have := hn30; omega) (by have := hlt; have := hn30; omega) (Nat.le_trans HF.out.size (Nat.le_trans HF5.out.size HAF.out.size)) ?_; intro A6 c6 w6 hown6 hg6 hw6; have HO6 := Lib.hid hown6; have HF6 := Lib.hid (((HO.out.fresh HF5.out).fresh HAF.out).append ((HF.out.trans HF5.out).trans HAF.out) (Nat.le_refl _) hg6); have hb6 := (HB5.out.fresh HAF.out).grown hg6 (fun e6 => absurd (HO.out.block _ e6).2.1 (Nat.lt_irrefl _)); have HB6 := Lib.hid hb6; clear hown6 hg6 hw6 hb6))
          obtain ⟨A4, c4, W4, hrun, hf4, hr4, hc4, hm4⟩ := HBR.out w6.drew
          have hbd := HB6.out.fresh (Fresh.drew w6)
          have kd0 := hbd.cell (i := 0) rfl
          have kd2 := hbd.cell (i := 2) rfl
          have hb4 := hbd.fresh hf4
          have k40 := hb4.cell (i := 0) rfl
          have k42 := hb4.cell (i := 2) rfl
          have henc := HENC.out W4 A4 c4 hr4 hc4 hm4
          have HE4 := Lib.hid henc
          have HB4 := Lib.hid hb4
          have HF4 := Lib.hid ((Fresh.drew w6).trans hf4)
          have hel := HEL.out
          have hfld := fun A m c b W => field0 A m c b W
          have e1 : IntKind.i64.wrap (76 + (sn : Int)) = 76 + (sn : Int) := IntWalk.i64_in _ (by omega)
          have e2 : IntKind.i64.wrap (2 * (E : Int)) = 2 * (E : Int) := IntWalk.i64_in _ (by omega)
          have e3 : IntKind.i64.wrap (76 + (sn : Int) + 2 * (E : Int)) = 76 + (sn : Int) + 2 * (E : Int) := IntWalk.i64_in _ (by omega)
          have e4 : IntKind.i64.wrap ((S : Int) + (76 + (sn : Int) + 2 * (E : Int))) = (S : Int) + (76 + (sn : Int) + 2 * (E : Int)) := IntWalk.i64_in _ (by omega)
          clear k0 k1 k2 hbd hb4 hf4 hr4 hc4 hm4 henc
          go_region_law ((with_reducible refine zst_slot_ 40 ?_); go_simp; (refine HE4.out.mono ?_); rintro e w7 ⟨A7, c7, b7, rfl, hf7⟩; have HF7 := Lib.hid (HF4.out.trans hf7); have k70 := (HB4.out.fresh hf7).cell (i := 0) rfl; have k72 := (HB4.out.fresh hf7).cell (i := 2) rfl; clear hf7)
          all_goals
            have ho7 := HO6.out.fresh HF7.out
            have hl7 : (l0.take j).map ownI ++ [(⟨nm, dt, sA, sn, sc, sbs, 0, false, false⟩ : Itm)] = (l0.take (j + 1)).map ownI := by rw [HTK.out, List.map_append, ← HOWN.out]; rfl
            rw [hl7] at ho7
            have HO7 := Lib.hid ho7
            have HF8 := Lib.hid (HF6.out.trans HF7.out)
            have HXS2 : Hid (∃ ys, Pls l0 (j + 1) ys ∧ S + (76 + sn + 2 * E) = siz ys) := Lib.hid ⟨_, HNX.out, HSZ2.out⟩
            clear ho7 hl7 kd0 kd2 k40 k42 k70 k72 hrun
            go_wp2
            go_roundw
            case rel => exact ⟨j + 1, c6, S + (76 + sn + 2 * E), A6, by omega, by go_num, rfl, by go_num, by omega, HXS2, HO7, HF8⟩
            case measure => simp [intOf]; omega
      · have h0 : j = n0 := by omega
        subst h0
        obtain ⟨xs, hpls, hsz⟩ := HXS.out
        have hown := HO.out
        have htk : l0.take j = l0 := List.take_of_length_le (Nat.le_of_eq HLN.out)
        have hpl2 := hpls.2
        rw [htk] at hown hpl2
        have hits := itms_own hown (fun s hs => by
          obtain ⟨i, hi, rfl⟩ := List.mem_map.1 hs
          exact ((HITS.out.below hfw (Nat.le_refl _)).2.2 i hi).up hfw.size)
        have hnm : (l0.map ownI).map (·.s) = l0.map (·.s) := by rw [List.map_map]; rfl
        have hlen : (l0.map ownI).length = xs.length := by rw [List.length_map, hpls.1]; exact HLN.out
        have hsiz : (arc xs).length = S := by rw [arc_len, hsz]; rfl
        have HFW := Lib.hid hfw
        have hpe : ∀ i ∈ l0.map ownI, ∃ x, IsPl i x := fun i hi => by
          obtain ⟨k, hk⟩ := List.getElem?_of_mem hi
          have hkl := (List.getElem?_eq_some_iff.1 hk).1
          exact ⟨xs[k]'(by omega), hpl2 k i _ hk (List.getElem?_eq_getElem (by omega))⟩
        by_cases hd : (l0.map (·.s)).Nodup
        · have hmk : Calls Tryz.prog 10 #[.slice Ao j co] wr fun e w' => ∃ D d, e = .returned (.tuple #[.slice D S d, .int .i64 0]) ∧ Fresh wr w' := by
            refine (make_any Ao j co (l0.map ownI) xs wr wr.heap.size hits (Nat.le_refl _) (by omega) hlen hpl2 (HU.out.fresh hfw) (by rw [hnm]; exact hd)).mono ?_
            rintro e w' ⟨D, m, d, rfl, hm, _, _, _, hf⟩
            rw [hsiz] at hm
            subst hm
            exact ⟨D, d, rfl, hf⟩
          have htw := fun W (hf : Fresh w W) => ltwice_any A0 j c0 l0 W w.heap.size (HITS.out.below hf (Nat.le_refl _)) hf.size (by omega) false (by simp [hd])
          have HMK := Lib.hid hmk
          have HTW := Lib.hid htw
          clear hmk htw hd hpe hsiz hlen hnm hits hpl2 htk hown hpls hsz hfw HXS HO
          go_wp2_with (first
            | (go_at_call 10; ((with_reducible refine HMK.out.mono ?_); rintro e w5 ⟨D, d, rfl, hf5⟩; have HF5 := Lib.hid (HFW.out.trans hf5); clear hf5))
            | (go_at_call 14; ((with_reducible refine (HTW.out _ HF5.out).mono ?_); rintro e w6 ⟨rfl, hf6⟩)))
          go_ret
          exact ⟨rfl, HF5.out.trans hf6⟩
        · have hmk := make_twice Ao j co (l0.map ownI) wr wr.heap.size hits (Nat.le_refl _) (by omega) hpe (HU.out.fresh hfw) (by rw [hnm]; exact hd)
          have htw := fun W (hf : Fresh w W) => ltwice_any A0 j c0 l0 W w.heap.size (HITS.out.below hf (Nat.le_refl _)) hf.size (by omega) true (by simp [hd])
          have HMK := Lib.hid hmk
          have HTW := Lib.hid htw
          clear hmk htw hd hpe hsiz hlen hnm hits hpl2 htk hown hpls hsz hfw HXS HO
          go_wp2_with (first
            | (go_at_call 10; ((with_reducible refine HMK.out.mono ?_); rintro e w5 ⟨rfl, hf5⟩; have HF5 := Lib.hid (HFW.out.trans hf5); clear hf5))
            | (go_at_call 14; ((with_reducible refine (HTW.out _ HF5.out).mono ?_); rintro e w6 ⟨rfl, hf6⟩)))
          go_ret
          exact ⟨rfl, HF5.out.trans hf6⟩
end Go.Proofs.YtmnegmebkmihhaaGreatDoor.zipSizes
