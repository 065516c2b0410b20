/-
  Layer 14: statesOf. My own text.
-/
import Derived.Test.YtgbffkneidnmfaaAhoLink
namespace Go.Proofs.Ytgbffkneidnmfaa.ahop
open Go.RowKit Go.Maps Go.Proofs.Ytgbffkneidnmfaa.base Go.Proofs.Ytgbffkneidnmfaa.aho
set_option linter.unusedVariables false
theorem ownK_lit (w : World) (base : Nat) (hb : base ≤ w.heap.size) (s : Sv) (t : TypeId) : OwnK (w.alloc (.cells (sv s).toArray t)) base t 3 (some ⟨w.heap.size, 0, none⟩) 1 1 sv [s] :=
  ⟨rfl, .inr ⟨w.heap.size, 1, (sv s).toArray, rfl, hb, heap_alloc_new w _, Nat.le_refl _, by unfold maxLen; omega, rfl, rfl⟩⟩
theorem bd_start (w : World) (base mb : Nat) (hb : base ≤ w.heap.size) (hm : MapOf Try.prog tU8 w mb (kvs [])) (hmb : base ≤ mb) : Bd (w.alloc (.cells #[.map (some mb), .int .i64 0, .slice none 0 0] tState)) base (some ⟨w.heap.size, 0, none⟩) 1 1 [⟨mb, [], 0, none, 0, []⟩] where
  row := ownK_lit w base hb ⟨mb, [], 0, none, 0, []⟩ tState
  map s hs := by
    rw [List.mem_singleton] at hs
    subst hs
    exact ⟨hm.old ((Fresh.alloc w _).block _ hm.inside), hmb⟩
  maps := by simp
  end_ s hs := by
    rw [List.mem_singleton] at hs
    subst hs
    exact Own.nil _ _ _
  apart i j s t g hs ht hij := by
    have h1 := (List.getElem?_eq_some_iff.1 hs).1
    have h2 := (List.getElem?_eq_some_iff.1 ht).1
    simp at h1 h2
    omega
def wordsOf (rows : List Row) : List Bs := rows.map (·.bs)
set_option maxRecDepth 100000 in
set_option maxHeartbeats 4000000 in
theorem statesOf_any (rows : List Row) (WA : Option Addr) (nw wc B : Nat) (w : World) (hr : RdRows w B WA nw rows) (hB : B ≤ w.heap.size) (hnw : nw ≤ 100) (hlen : ∀ r ∈ rows, r.bs.length ≤ 100 ∧ r.bs ≠ []) :
    Calls Try.prog 22 #[.slice WA nw wc] w fun e w' => ∃ (A : Option Addr) (n c : Nat) (T : List Sv) (P : List Bs), e = .returned (.slice A n c) ∧ Bd w' w.heap.size A n c T ∧ Ready (wordsOf rows) P T ∧ n ≤ 100000 ∧ Fresh w w' := by
  obtain ⟨i0, hi0, hz0, hz1, hz2⟩ := info_parts intInfo
  have hrn : rows.length = nw := by have := hr.1.1; rwa [List.length_map] at this
  have hns := newState_any w
  have HNS := Lib.hid hns
  have HR := Lib.hid hr
  have HRN := Lib.hid hrn
  have HLEN := Lib.hid hlen
  clear hr hrn hlen hns
  go_enter Try.func22, Try.ntmps22
  go_wp2_with (go_at_call 30; (refine HNS.out.mono ?_); rintro e w1 ⟨mb, rfl, hmb, hm1, hf1⟩; have HMB := Lib.hid hmb; have HM1 := Lib.hid hm1; have HF1 := Lib.hid hf1; clear hmb hm1 hf1)
  have hf1 := HF1.out
  have hs1 := hf1.size
  have hbdA := bd_start w1 w.heap.size mb (by omega) HM1.out (by have := HMB.out; omega)
  have hbdB := hbdA.fresh (Fresh.alloc _ (.cells #[.slice (some ⟨w1.heap.size, 0, none⟩) 1 1] tStates))
  have hbk := Bk.made (w1.alloc (.cells #[.map (some mb), .int .i64 0, .slice none 0 0] tState)) tStates #[.slice (some ⟨w1.heap.size, 0, none⟩) 1 1]
  have hfA : Fresh w ((w1.alloc (.cells #[.map (some mb), .int .i64 0, .slice none 0 0] tState)).alloc (.cells #[.slice (some ⟨w1.heap.size, 0, none⟩) 1 1] tStates)) := hf1.trans ((Fresh.alloc _ _).trans (Fresh.alloc _ _))
  have hsA : (w1.alloc (.cells #[.map (some mb), .int .i64 0, .slice none 0 0] tState)).heap.size = w1.heap.size + 1 := by simp
  rw [hsA] at hbk
  obtain ⟨sb, hsb⟩ : ∃ sb, w1.heap.size + 1 = sb := ⟨_, rfl⟩
  have hsbw : w.heap.size ≤ sb := by omega
  rw [hsb] at hbk ⊢
  generalize (w1.alloc (.cells #[.map (some mb), .int .i64 0, .slice none 0 0] tState)).alloc (.cells #[.slice (some ⟨w1.heap.size, 0, none⟩) 1 1] tStates) = WA0 at *
  have HBDB := Lib.hid hbdB
  have HBK := Lib.hid hbk
  have HFA := Lib.hid hfA
  obtain ⟨g0, hg0⟩ : ∃ g0, w1.heap.size = g0 := ⟨_, rfl⟩
  rw [hg0] at HBDB HBK ⊢
  clear hbdA hbdB hbk hfA hsA hf1 hs1 hsb hg0 HMB HM1 HF1
  go_loopw [11] (fun v wr => ∃ (k : Nat) (A : Option Addr) (n c : Nat) (T : List Sv) (P : List Bs), v = iv (k : Nat) ∧ k ≤ nw ∧ Hid (Bk wr sb tStates [.slice A n c]) ∧ Hid (Bd wr w.heap.size A n c T) ∧ Hid (Bld (wordsOf rows) k P T) ∧ n ≤ 1 + 100 * k ∧ Hid (Fresh w wr)) (fun v _ => nw - (intOf v).toNat)
  case atStart => exact ⟨0, _, 1, 1, _, [[]], rfl, Nat.zero_le _, HBK, HBDB, Lib.hid (Bld.start _ _ rfl rfl rfl), by omega, HFA⟩
  case round =>
    obtain ⟨k, A, n, c, T, P, rfl, hk, hb, hbd, hbl, hn, hfr⟩ := hrel
    by_cases hlt : k < nw
    · obtain ⟨x, hx⟩ : ∃ x, rows[k]? = some x := ⟨_, List.getElem?_eq_getElem (by rw [HRN.out]; exact hlt)⟩
      have hxm := List.mem_of_getElem? hx
      obtain ⟨wb, wo, hWA, hwb, hwc⟩ := HR.out.1.2 (by omega)
      subst hWA
      have hsz := hfr.out.size
      have hcx : wr.cell? ⟨wb, wo + k, none⟩ = some x.val := (World.cell?_of_block (hfr.out.block wb (by omega))).trans (hwc k _ (by rw [List.getElem?_map, hx]; rfl))
      rw [Row.val] at hcx
      have hrx : Rd wr w.heap.size x.at_ x.len (x.bs.map bv) := ((HR.out.2 x hxm).up hB).keep fun i hi => hfr.out.block i hi
      have hxl : x.bs.length = x.len := by have := hrx.1; rwa [List.length_map] at this
      have hadd := add_any (wordsOf rows) k x.bs w.heap.size sb x.at_ x.len x.cap A n c T P wr hb.out hbd.out hbl.out hrx hsz hsbw (by have := (HLEN.out x hxm).1; omega) (by omega)
      have HX := Lib.hid hx
      have HXM := Lib.hid hxm
      have HXL := Lib.hid hxl
      have HADD := Lib.hid hadd
      have hk64 : x.len ≤ 100 := by have := (HLEN.out x hxm).1; omega
      clear hx hxm hwc hrx hxl hadd
      go_upto_region 6 with (go_at_call 31; (refine HADD.out.mono ?_); rintro e w2 ⟨A2, n2, c2, T2, P2, j, rfl, hb2, hbd2, hbl2, hj2, hn2, hbel2, hsz2⟩; have HB2 := Lib.hid hb2; have HBD2 := Lib.hid hbd2; have HBL2 := Lib.hid hbl2; have HJ2 := Lib.hid hj2; have HBEL2 := Lib.hid hbel2; clear hb2 hbd2 hbl2 hj2 hbel2)
      obtain ⟨s, hs⟩ := HBL2.out.trie.sv HJ2.out
      obtain ⟨g, hA2, hbg, hgw, hjn, _, _, _, p2⟩ := HBD2.out.place hs
      subst hA2
      have hf21 : Fresh w2 w2.drew := Fresh.drew _
      have hf22 : Fresh w2 (w2.alloc (.cells #[iv (k : Nat)] tInt)).drew := (Fresh.alloc _ _).trans (Fresh.drew _)
      have hbd22 := HBD2.out.fresh hf22
      have a0 := (HB2.out.fresh hf21).cell (i := 0) rfl
      have a1 := (HB2.out.fresh hf22).cell (i := 0) rfl
      have b0 := ((HBD2.out.fresh hf21).cells hs).2.2.2.2.2.1
      have b1 := (hbd22.cells hs).2.2.2.2.2.1
      have he : Own (w2.alloc (.cells #[iv (k : Nat)] tInt)).drew w.heap.size tInt s.ea s.ends.length s.ec (es s.ends) := hbd22.end_ s (List.mem_of_getElem? hs)
      have hel : s.ends.length ≤ nw := by
        obtain ⟨p, hp⟩ := HBL2.out.trie.txt hs
        refine Nat.le_trans (nodup_few k s.ends (HBL2.out.nd s (List.mem_of_getElem? hs)) fun y hy => ?_) hk
        exact (((HBL2.out.own j s p hs hp).2 y).1 hy).1
      have hbz : w.heap.size ≤ (w2.alloc (.cells #[iv (k : Nat)] tInt)).drew.heap.size := by have := hf22.size; omega
      have HBD22 := Lib.hid hbd22
      have HF22 := Lib.hid hf22
      have HE := Lib.hid he
      have HS := Lib.hid hs
      clear he hs hbd22 hf21 hf22 hcx
      go_region_law ((with_reducible refine ast_slot_ 27 ?_); refine step_append_rdx (by rfl) (.tmp 24) (.tmp 26) 34 (by rfl) w.heap.size tInt i0 _ 8 Try.underlying34 hi0 hz0 hz1 hz2 rfl s.ea s.ends.length s.ec (es s.ends) (by rfl) HE.out (w2.heap.size + 1) (some ⟨w2.heap.size, 0, none⟩) 1 1 [iv (k : Nat)] (by rfl) ((Rd.lit w2 #[iv (k : Nat)] tInt).keep (fun _ _ => rfl)) (one_one _ _) (by unfold maxLen; omega) (by omega) hbz ?_; intro E4 d4 w4 hown4 hg4 hat4; have hown4b : Own w4 w.heap.size tInt E4 (s.ends.length + 1) d4 (es (s.ends ++ [k])) := (by unfold es at hown4 ⊢; rw [List.map_append]; exact hown4); obtain ⟨hbd4, hblk4, kc4, kf4, hcs4⟩ := HBD22.out.ends HS.out rfl (l := s.ends ++ [k]) (by rw [List.length_append]; rfl) hown4b hg4 hat4; have b4 := ((HB2.out.fresh HF22.out).grown hg4 (Own.ne_block HE.out (HB2.out.fresh HF22.out) (by decide))).cell (i := 0) rfl; have HBD4 := Lib.hid hbd4; have HCS4 := Lib.hid hcs4; have HG4 := Lib.hid hg4; clear hown4 hown4b hg4 hat4 hbd4 hblk4 hcs4)
      all_goals
        obtain ⟨cs4, hcs4⟩ := HCS4.out
        have hput : But g w4 (w4.setCell ⟨g, j * 3 + 2, none⟩ (.slice E4 (s.ends.length + 1) d4)) := But.put _ _
        have hb22 := HB2.out.fresh HF22.out
        have hb4 : Bk w4 sb tStates [.slice (some ⟨g, 0, none⟩) n2 c2] := hb22.grown HG4.out (Own.ne_block HE.out hb22 (by decide))
        have hb5 := hb4.apart (p := ⟨g, j * 3 + 2, none⟩) (fun e => by
          have e2 : sb = g := e
          subst e2
          have h1 : w4.heap[sb]? = _ := hb4
          rw [hcs4] at h1
          injection h1 with h1
          injection h1 with _ ht
          exact absurd ht (by decide)) (.slice E4 (s.ends.length + 1) d4)
        have hbelA : Below w.heap.size w w2 := Below.trans hfr.out HBEL2.out
        have hbelB := (below_fresh hbelA (by omega) HF22.out).grown HG4.out hbz fun b hb => (World.ownsRow.lt HE.out b hb).1
        have hbel5 := below_but hbelB hbg (by have h1 : w2.heap.size ≤ w4.heap.size := Nat.le_trans HF22.out.size HG4.out.size; omega) hput
        have hw : (wordsOf rows)[k]? = some x.bs := by unfold wordsOf; rw [List.getElem?_map, HX.out]; rfl
        have hbl5 := HBL2.out.end_ (s' := { s with ea := E4, ec := d4, ends := s.ends ++ [k] }) HS.out HJ2.out hw rfl rfl rfl
        have HB5 := Lib.hid hb5
        have HBL5 := Lib.hid hbl5
        have HBEL5 := Lib.hid hbel5
        clear hput hb22 hb4 hb5 hbelA hbelB hbel5 hw hbl5 hcs4 kc4 kf4 a0 a1 b0 b1 b4 p2
        generalize w4.setCell ⟨g, j * 3 + 2, none⟩ (.slice E4 (s.ends.length + 1) d4) = W5 at *
        go_wp2
        go_roundw
        case rel => exact ⟨k + 1, some ⟨g, 0, none⟩, n2, c2, _, P2, by go_num, by omega, HB5, HBD4, HBL5, by omega, HBEL5⟩
        case measure => simp [intOf]; omega
    · have hkn : k = nw := by omega
      subst hkn
      have hsz := hfr.out.size
      have hWl : (wordsOf rows).length = k := by unfold wordsOf; rw [List.length_map]; exact HRN.out
      have hbl2 : Bld (wordsOf rows) (wordsOf rows).length P T := by rw [hWl]; exact hbl.out
      have hlk := hbl2.link fun x hx => by
        obtain ⟨r, hr, rfl⟩ := List.mem_map.1 hx
        exact (HLEN.out r hr).2
      have hli := link_any (wordsOf rows) P w.heap.size A n c T wr hbd.out hlk hsz (by rw [hWl]; omega) (by omega)
      have HLI := Lib.hid hli
      have c0 := hb.out.cell (i := 0) rfl
      have HSB := hb
      clear hWl hbl2 hlk hli
      go_wp2_with (go_at_call 32; (refine HLI.out.mono ?_); rintro e w2 ⟨T2, rfl, hbd2, hrd2, hbel2, hsz2, hkt2⟩; have c1 : w2.cell? ⟨sb, 0, none⟩ = some (.slice A n c) := (show Bk w2 sb tStates [.slice A n c] from hkt2 _ _ _ HSB.out).cell (i := 0) rfl; clear hkt2; have HBD2 := Lib.hid hbd2; have HRD2 := Lib.hid hrd2; have HBEL2 := Lib.hid hbel2; clear hbd2 hrd2 hbel2)
      go_ret
      exact ⟨A, n, c, T2, P, rfl, HBD2.out, HRD2.out, by omega, Below.trans hfr.out HBEL2.out⟩
end Go.Proofs.Ytgbffkneidnmfaa.ahop
