/-
  The reference's Open: an archive's entries. My own text.
-/
import Derived.Test.YtmnejphdjnlbjaaDoorUnzRone
import Derived.Deep.RegionHeld3
namespace Go.Proofs.YtmnejphdjnlbjaaDoor.unzp
open Go.RowKit Go.Maps Go.Proofs.YtmnejphdjnlbjaaDoor.base Go.Proofs.YtmnejphdjnlbjaaDoor.nam Go.Proofs.YtmnejphdjnlbjaaDoor.namp Go.Proofs.YtmnejphdjnlbjaaDoor.recn Go.Proofs.YtmnejphdjnlbjaaDoor.recp Go.Proofs.YtmnejphdjnlbjaaDoor.unz
set_option linter.unusedVariables false
abbrev tOpened : TypeId := 29
def RopIs (w : World) (r : Except Nat (List Fe)) (e : Ending) (w' : World) : Prop :=
  Fresh w w' ∧ match r with
  | .error k => e = .returned (.agg #[.slice none 0 0, iv (k : Nat)])
  | .ok fs => ∃ A c, e = .returned (.agg #[.slice A fs.length c, iv 0]) ∧ OwnK w' w.heap.size tFile 7 A fs.length c fileV fs
theorem pair_one (A : Option Addr) (n c : Nat) (k : Int) : (#[.slice A n c, iv k] : Array Value).all (·.oneCell') = true := all_one _ (by
  intro v hv
  simp only [List.mem_cons, List.not_mem_nil, or_false] at hv
  rcases hv with rfl | rfl <;> rfl)
set_option maxRecDepth 100000 in
set_option maxHeartbeats 16000000 in
theorem refOpen_any (A : Option Addr) (n c : Nat) (xs : List UInt8) (w : World) (B : Nat) (hr : Rd w B A n (xs.map bv)) (hB : B ≤ w.heap.size) (hc : n ≤ c) (hm : c ≤ maxLen) (hn : n ≤ 1099511627776) (r : Except Nat (List Fe)) (hres : opn xs = r) :
    Calls Tryd.prog 7 #[.slice A n c] w (RopIs w r) := by
  have hlx : xs.length = n := by have := hr.1; rwa [List.length_map] at this
  have hal := Fresh.alloc w (.cells #[.slice none 0 0, iv 0] tOpened)
  have hbz := Bk.made w tOpened #[.slice none 0 0, iv 0]
  have hr0 := hr.alloc hB (.cells #[.slice none 0 0, iv 0] tOpened)
  have hB0 : B ≤ (w.alloc (.cells #[.slice none 0 0, iv 0] tOpened)).heap.size := Nat.le_trans hB hal.size
  have hfind := refFind_any A n c xs _ B hr0 hB0 hc hm hn
  unfold opn at hres
  have HF0 := Lib.hid hal
  have HZ0 := Lib.hid hbz
  have HR := Lib.hid hr
  have HB := Lib.hid hB
  have HC := Lib.hid hc
  have HM := Lib.hid hm
  have HN := Lib.hid hn
  have HLX := Lib.hid hlx
  cases hfd : find xs with
  | none =>
    rw [hfd] at hres
    simp only at hres
    subst hres
    have hfi := hfind _ hfd
    have HFI := Lib.hid hfi
    clear hfind hfd hfi hr hal hbz hr0 hB0 hB hc hm hn hlx
    go_enter Tryd.func7, Tryd.ntmps7
    go_wp2_with (first
      | (go_at_call 15; ((with_reducible refine HFI.out.mono ?_); rintro e w1 ⟨⟨x, y, z, b, rfl⟩, hf1⟩; have hal1 := hf1.trans (Fresh.alloc w1 (.cells #[iv x, iv y, iv z, .bool b, .bool false] tFound)); have HF1 := Lib.hid (HF0.out.trans hal1); have HZ1 := Lib.hid (HZ0.out.fresh hal1); clear hf1 hal1))
      | ((with_reducible (refine at_store_ 2 16 ?_)); refine wpList_store_row (o := ⟨none, _, _, _, _, _⟩) rfl tOpened (.tmp 2) (.tmp 16) rfl w.heap.size #[.slice none 0 0, iv 4] rfl rfl tOpened _ HZ1.out (by kernel_rfl) (by rfl) (pair_one _ _ _ _) ?_))
    exact bodyPost_ret (results_cell_row (p := 2) (by kernel_rfl) _ _ w.heap.size tOpened #[.slice none 0 0, iv 4] (0, 0) _ rfl (HZ1.out.row _) Tryd.underlying29 rfl (by kernel_rfl)) rfl ⟨HF1.out.but (Nat.le_refl _) (But.row _ _ _), rfl⟩
  | some t =>
    rw [hfd] at hres
    simp only at hres
    obtain ⟨tb1, tb2, tb3⟩ := find_bd hfd
    have hfi := hfind _ hfd
    obtain ⟨many, long, T, wd⟩ := t
    simp only at tb1 tb2 tb3
    simp only [FoundIs] at hfi
    have HFI := Lib.hid hfi
    have HT3 := Lib.hid tb3
    have HT2 := Lib.hid tb2
    clear hfind hfi hr hal hbz hr0 hB0 hB hc hm
    go_enter Tryd.func7, Tryd.ntmps7
    go_upto_region 2 with (first
      | (go_at_call 15; ((with_reducible refine HFI.out.mono ?_); rintro e w1 ⟨rfl, hf1⟩; have hal1 := hf1.trans (Fresh.alloc w1 (.cells #[iv (many : Nat), iv (long : Nat), iv (T : Nat), .bool wd, .bool true] tFound)); have HF1 := Lib.hid (HF0.out.trans hal1); have HZ1 := Lib.hid (HZ0.out.fresh hal1); have HT1 := Lib.hid (Bk.made w1 tFound #[iv (many : Nat), iv (long : Nat), iv (T : Nat), .bool wd, .bool true]); clear hf1 hal1)))
    generalize w1.alloc (.cells #[.int .i64 (many : Nat), .int .i64 (long : Nat), .int .i64 (T : Nat), .bool wd, .bool true] tFound) = W1 at *
    generalize w1.heap.size = g1 at *
    have p4 := HT1.out.cell (i := 4) rfl
    have p0 := HT1.out.cell (i := 0) rfl
    have p1 := HT1.out.cell (i := 1) rfl
    have p2 := HT1.out.cell (i := 2) rfl
    unfold cens at hres
    simp only [hlx] at hres
    have hwr : wrap64 ((n : Int) - (T : Int)) = (n : Int) - (T : Int) := by unfold wrap64; omega
    by_cases h1 : n < T + long
    · rw [if_pos h1] at hres
      simp only at hres
      subst hres
      by_cases h2 : n < T
      · have ta : decide ((T : Int) > (n : Int)) = true := by rw [decide_eq_true_iff]; omega
        have ta' : decide ((n : Int) < (T : Int)) = true := by rw [decide_eq_true_iff]; omega
        have ta'' : decide (n < T) = true := by rw [decide_eq_true_iff]; omega
        clear h1
        go_wp2_with ((with_reducible (refine at_store_ 2 35 ?_)); refine wpList_store_row (o := ⟨none, _, _, _, _, _⟩) rfl tOpened (.tmp 2) (.tmp 35) rfl w.heap.size #[.slice none 0 0, iv 3] rfl rfl tOpened _ HZ1.out (by kernel_rfl) (by rfl) (pair_one _ _ _ _) ?_)
        exact bodyPost_ret (results_cell_row (p := 2) (by kernel_rfl) _ _ w.heap.size tOpened #[.slice none 0 0, iv 3] (0, 0) _ rfl (HZ1.out.row _) Tryd.underlying29 rfl (by kernel_rfl)) rfl ⟨HF1.out.but (Nat.le_refl _) (But.row _ _ _), rfl⟩
      · have ta : decide ((T : Int) > (n : Int)) = false := by rw [decide_eq_false_iff_not]; omega
        have ta' : decide ((n : Int) < (T : Int)) = false := by rw [decide_eq_false_iff_not]; omega
        have ta'' : decide (n < T) = false := by rw [decide_eq_false_iff_not]; omega
        have tc : decide ((long : Int) > (n : Int) - (T : Int)) = true := by rw [decide_eq_true_iff]; omega
        have tc' : decide ((n : Int) - (T : Int) < (long : Int)) = true := by rw [decide_eq_true_iff]; omega
        clear h1 h2
        go_wp2_with ((with_reducible (refine at_store_ 2 35 ?_)); refine wpList_store_row (o := ⟨none, _, _, _, _, _⟩) rfl tOpened (.tmp 2) (.tmp 35) rfl w.heap.size #[.slice none 0 0, iv 3] rfl rfl tOpened _ HZ1.out (by kernel_rfl) (by rfl) (pair_one _ _ _ _) ?_)
        exact bodyPost_ret (results_cell_row (p := 2) (by kernel_rfl) _ _ w.heap.size tOpened #[.slice none 0 0, iv 3] (0, 0) _ rfl (HZ1.out.row _) Tryd.underlying29 rfl (by kernel_rfl)) rfl ⟨HF1.out.but (Nat.le_refl _) (But.row _ _ _), rfl⟩
    rw [if_neg h1] at hres
    have ta : decide ((T : Int) > (n : Int)) = false := by rw [decide_eq_false_iff_not]; omega
    have ta' : decide ((n : Int) < (T : Int)) = false := by rw [decide_eq_false_iff_not]; omega
    have ta'' : decide (n < T) = false := by rw [decide_eq_false_iff_not]; omega
    have tc : decide ((long : Int) > (n : Int) - (T : Int)) = false := by rw [decide_eq_false_iff_not]; omega
    have tc' : decide ((n : Int) - (T : Int) < (long : Int)) = false := by rw [decide_eq_false_iff_not]; omega
    by_cases h2 : 1000 < many
    · rw [if_pos h2] at hres
      simp only at hres
      subst hres
      have t1 : decide ((many : Int) > 1000) = true := by rw [decide_eq_true_iff]; omega
      have t2 : decide (1000 < (many : Int)) = true := by rw [decide_eq_true_iff]; omega
      clear h1 h2
      go_wp2_with ((with_reducible (refine at_store_ 2 40 ?_)); refine wpList_store_row (o := ⟨none, _, _, _, _, _⟩) rfl tOpened (.tmp 2) (.tmp 40) rfl w.heap.size #[.slice none 0 0, iv 17] rfl rfl tOpened _ HZ1.out (by kernel_rfl) (by rfl) (pair_one _ _ _ _) ?_)
      exact bodyPost_ret (results_cell_row (p := 2) (by kernel_rfl) _ _ w.heap.size tOpened #[.slice none 0 0, iv 17] (0, 0) _ rfl (HZ1.out.row _) Tryd.underlying29 rfl (by kernel_rfl)) rfl ⟨HF1.out.but (Nat.le_refl _) (But.row _ _ _), rfl⟩
    rw [if_neg h2] at hres
    have t1 : decide ((many : Int) > 1000) = false := by rw [decide_eq_false_iff_not]; omega
    have t2 : decide (1000 < (many : Int)) = false := by rw [decide_eq_false_iff_not]; omega
    have hmany : many ≤ 1000 := by omega
    have hTn : T ≤ n := by omega
    have hsum : T + long ≤ n := by omega
    have hwr2 : wrap64 ((T : Int) + (long : Int)) = (T : Int) + (long : Int) := by unfold wrap64; omega
    have HSUM := Lib.hid hsum
    have HRES := Lib.hid hres
    obtain ⟨i0, hi0, hz0, hz1, hz2⟩ := info_parts headInfo
    obtain ⟨j0, hj0, hy0, hy1, hy2⟩ := info_parts fileInfo
    have hn' := HN.out
    clear hres h1 h2 hfd tb1 tb2 tb3 hlx
    go_wp2
    go_loopw [4, 5, 6] (fun vh vp vi wr => ∃ (i p ch : Nat) (Ah : Option Addr) (l : List HRow), vi = .int .i64 (i : Nat) ∧ vp = .int .i64 (p : Nat) ∧ vh = .slice Ah i ch ∧ i ≤ many ∧ p ≤ n ∧ Hid (HeadsAt wr W1.heap.size Ah i ch l) ∧ Hid (Hup xs many T (many - i) (l.map HRow.h) p) ∧ Hid (Fresh W1 wr)) (fun _ _ vi _ => many - (intOf vi).toNat)
    case atStart => exact ⟨0, T, 0, none, [], rfl, rfl, rfl, Nat.zero_le _, hTn, Lib.hid (HeadsAt.nil _ _), Lib.hid (Hup.start _ _ _), Lib.hid (Fresh.refl _)⟩
    case round =>
      obtain ⟨i, p, ch, Ah, l, rfl, rfl, rfl, hi, hp, HH, HU, HF⟩ := hrel
      have HT := Lib.hid (HT1.out.fresh HF.out)
      have HZ := Lib.hid (HZ1.out.fresh HF.out)
      have HFW := Lib.hid (HF1.out.trans HF.out)
      clear p0 p1 p2 p4
      have p0 := HT.out.cell (i := 0) rfl
      have p1 := HT.out.cell (i := 1) rfl
      have p2 := HT.out.cell (i := 2) rfl
      have hrr : Rd wr B A n (xs.map bv) := HR.out.keep fun q hq => HFW.out.block q (by have := HB.out; omega)
      have hBr : B ≤ wr.heap.size := Nat.le_trans HB.out HFW.out.size
      by_cases hlt : i < many
      · have ti : decide ((i : Int) < (many : Int)) = true := by rw [decide_eq_true_iff]; omega
        have hmi : many - i = (many - i - 1) + 1 := by omega
        have HU' : Hid (Hup xs many T ((many - i - 1) + 1) (l.map HRow.h) p) := by rw [← hmi]; exact HU.out
        have hgo := refCentral_any A n c xs (p : Nat) wr B hrr hBr HC.out HM.out HN.out (by omega) (by omega)
        cases hce : cen xs (p : Nat) with
        | error k =>
          rw [hce] at hgo
          have hgot : Calls Tryd.prog 16 #[.slice A n c, .int .i64 (p : Nat)] wr fun e w' => Fresh wr w' ∧ e = .returned (.agg #[iv 0, iv 0, iv 0, .int .u32 0, iv 0, iv 0, iv 0, .slice none 0 0, .bool false, iv 0, iv (k : Nat)]) := hgo
          have hk := cen_err_ne hce
          have hkk : ((k : Int) != 0) = true := by rw [bne_iff_ne]; omega
          have hres := HRES.out
          rw [HU'.out.bad hce] at hres
          simp only at hres
          subst hres
          have HGOT := Lib.hid hgot
          clear hgot hgo hrr hce hk hmi HRES
          go_wp2_with (first
            | (go_at_call 16; ((with_reducible refine HGOT.out.mono ?_); rintro e w2 ⟨hf2, rfl⟩; have hal2 := hf2.trans (Fresh.alloc w2 (.cells #[iv 0, iv 0, iv 0, .int .u32 0, iv 0, iv 0, iv 0, .slice none 0 0, .bool false, iv 0, iv (k : Nat)] tGot)); have HZ2 := Lib.hid (HZ.out.fresh hal2); have HF2 := Lib.hid (HFW.out.trans hal2); clear hf2 hal2))
            | ((with_reducible (refine at_store_ 2 59 ?_)); refine wpList_store_row (o := ⟨none, _, _, _, _, _⟩) rfl tOpened (.tmp 2) (.tmp 59) rfl w.heap.size #[.slice none 0 0, iv (k : Nat)] rfl rfl tOpened _ HZ2.out (by kernel_rfl) (by rfl) (pair_one _ _ _ _) ?_))
          exact bodyPost_ret (results_cell_row (p := 2) (by kernel_rfl) _ _ w.heap.size tOpened #[.slice none 0 0, iv (k : Nat)] (0, 0) _ rfl (HZ2.out.row _) Tryd.underlying29 rfl (by kernel_rfl)) rfl ⟨HF2.out.but (Nat.le_refl _) (But.row _ _ _), rfl⟩
        | ok x =>
          obtain ⟨⟨fl, me, dt, cr, cs, si, at', nm, wd'⟩, en⟩ := x
          rw [hce] at hgo
          have hgot : Calls Tryd.prog 16 #[.slice A n c, .int .i64 (p : Nat)] wr fun e w' => Fresh wr w' ∧ ∃ A3 c3, e = .returned (.agg #[iv (fl : Nat), iv (me : Nat), iv (dt : Nat), .int .u32 (cr : Nat), iv (cs : Nat), iv (si : Nat), iv (at' : Nat), .slice A3 nm.length c3, .bool wd', iv (en : Nat), iv 0]) ∧ nm.length ≤ c3 ∧ c3 ≤ maxLen ∧ RdA w' (List.range wr.heap.size) A3 nm.length (nm.map bv) := hgo
          have hen := (cen_ok hce).2
          rw [HLX.out] at hen
          have HNX := Lib.hid (HU'.out.next hce)
          obtain ⟨ln, hln⟩ : ∃ ln, nm.length = ln := ⟨_, rfl⟩
          rw [hln] at hgot
          have HLN := Lib.hid hln
          have HGOT := Lib.hid hgot
          have HEN := Lib.hid hen
          clear hgot hgo hrr hce hen hmi hln
          go_upto_region 14 with (go_at_call 16; ((with_reducible refine HGOT.out.mono ?_); rintro e w2 ⟨hf2, A3, c3, rfl, hl3, hc3, hr3⟩; have hal2 := Fresh.alloc w2 (.cells #[iv (fl : Nat), iv (me : Nat), iv (dt : Nat), .int .u32 (cr : Nat), iv (cs : Nat), iv (si : Nat), iv (at' : Nat), .slice A3 ln c3, .bool wd', iv (en : Nat), iv 0] tGot); have HX2 := Lib.hid (hf2.trans hal2); have HG2 := Lib.hid (Bk.made w2 tGot #[iv (fl : Nat), iv (me : Nat), iv (dt : Nat), .int .u32 (cr : Nat), iv (cs : Nat), iv (si : Nat), iv (at' : Nat), .slice A3 ln c3, .bool wd', iv (en : Nat), iv 0]); have HNM := Lib.hid ((hr3.of_range (row := (Value.slice Ah i ch).ownBlock) fun q hq => (HH.out.row.block q hq).2.1).fresh hal2); have HL3 := Lib.hid hl3; have HC3 := Lib.hid hc3; clear hf2 hal2 hr3 hl3 hc3))
          generalize w2.alloc (.cells #[.int .i64 (fl : Nat), .int .i64 (me : Nat), .int .i64 (dt : Nat), .int .u32 (cr : Nat), .int .i64 (cs : Nat), .int .i64 (si : Nat), .int .i64 (at' : Nat), .slice A3 ln c3, .bool wd', .int .i64 (en : Nat), .int .i64 0] tGot) = W2 at *
          generalize w2.heap.size = g2 at *
          have HH2 := Lib.hid (HH.out.fresh HX2.out)
          have HF2 := Lib.hid (HF.out.trans HX2.out)
          have q10 := HG2.out.cell (i := 10) rfl
          have q9 := HG2.out.cell (i := 9) rfl
          have HBX := Lib.hid (Bk.made W2 tHead #[iv (fl : Nat), iv (me : Nat), iv (dt : Nat), .int .u32 (cr : Nat), iv (cs : Nat), iv (si : Nat), iv (at' : Nat), .slice A3 ln c3, .bool wd'])
          have HA2 := Lib.hid (Fresh.alloc W2 (.cells #[iv (fl : Nat), iv (me : Nat), iv (dt : Nat), .int .u32 (cr : Nat), iv (cs : Nat), iv (si : Nat), iv (at' : Nat), .slice A3 ln c3, .bool wd'] tHead))
          have HH3 := Lib.hid (HH2.out.fresh HA2.out)
          have HF3 := Lib.hid (HF2.out.trans HA2.out)
          have HN3 := Lib.hid (HNM.out.fresh HA2.out)
          have HG3 := Lib.hid (HG2.out.fresh HA2.out)
          go_wp2_with (first
            | ((with_reducible (refine at_slot_ 62 ?_)); refine wpList_load_mid rfl tHead (.tmp 61) rfl g2 0 rfl [iv (fl : Nat), iv (me : Nat), iv (dt : Nat), .int .u32 (cr : Nat), iv (cs : Nat), iv (si : Nat), iv (at' : Nat), .slice A3 ln c3, .bool wd'] _ (fun j v hj => by rw [Nat.zero_add]; exact HG2.out.cell (by have hj9 : j < 9 := (List.getElem?_eq_some_iff.1 hj).1; rw [← hj]; rcases (show j = 0 ∨ j = 1 ∨ j = 2 ∨ j = 3 ∨ j = 4 ∨ j = 5 ∨ j = 6 ∨ j = 7 ∨ j = 8 by omega) with rfl | rfl | rfl | rfl | rfl | rfl | rfl | rfl | rfl <;> rfl)) Tryd.underlying50 rfl (by kernel_rfl) ?_)
            | (at_builtin; refine wpList_append_cells _ rfl _ _ tHeads rfl W1.heap.size tHead i0 _ 9 88 Tryd.underlying45 hi0 hz0 hz1 hz2 rfl (by omega) hrow Ah i ch l rfl HH3.out.row W2.heap.size ⟨⟨fl, me, dt, cr, cs, si, at', nm, wd'⟩, A3, c3⟩ rfl (by rw [show hrow ⟨⟨fl, me, dt, cr, cs, si, at', nm, wd'⟩, A3, c3⟩ = [iv (fl : Nat), iv (me : Nat), iv (dt : Nat), .int .u32 (cr : Nat), iv (cs : Nat), iv (si : Nat), iv (at' : Nat), .slice A3 ln c3, .bool wd'] from by rw [← HLN.out]; rfl]; exact HBX.out) rfl (hrow_one _) (by omega) (by omega) HF3.out.size ?_; intro A4 c4 w4 hown4 hg4 hb4; have hg9 : w4.cell? ⟨g2, 9, none⟩ = some (iv (en : Nat)) := (HG3.out.grown hg4 (HH3.out.row.ne HG3.out (by decide))).cell rfl))
          refine ⟨⟨i + 1, en, c4, A4, l ++ [⟨⟨fl, me, dt, cr, cs, si, at', nm, wd'⟩, A3, c3⟩], by go_num, rfl, rfl, by omega, HEN.out, Lib.hid ⟨hown4, fun r hr => ?_⟩, ?_, Lib.hid (HH3.out.row.append HF3.out (Nat.le_refl _) hg4)⟩, ?_⟩
          · rcases List.mem_append.1 hr with hr | hr
            · exact ⟨(HH3.out.nms r hr).1.grown hg4 hb4, (HH3.out.nms r hr).2⟩
            · rw [List.mem_singleton] at hr
              subst hr
              have hnn := HN3.out.grown hg4 hb4
              simp only [HLN.out]
              exact ⟨hnn, HL3.out, HC3.out⟩
          · rw [List.map_append]
            have e : many - (i + 1) = many - i - 1 := by omega
            rw [e]
            exact HNX
          · simp [intOf]; omega
      · obtain rfl : i = many := by omega
        have hU := HU.out
        rw [Nat.sub_self] at hU
        have hres := HRES.out
        rw [hU.done] at hres
        simp only at hres
        have ti : decide ((i : Int) < (i : Int)) = false := by simp
        by_cases hz : p = T + long
        · rw [if_pos hz] at hres
          simp only at hres
          have tz : ((p : Int) != (T : Int) + (long : Int)) = false := by rw [hz]; simp
          obtain ⟨V, hV⟩ : ∃ V : World, V = wr := ⟨wr, rfl⟩
          subst hV
          have HL := Lib.hid HH.out.len
          have hokl : ∀ h ∈ l.map HRow.h, HdOk h xs := heads_ok hU.done
          have HOK := Lib.hid hokl
          have HRES2 := Lib.hid hres
          have hal5 := Fresh.alloc V (.cells #[.slice none 0 0, iv 0] tOpened)
          have HF5 := Lib.hid hal5
          have HO5 := Lib.hid (Bk.made V tOpened #[.slice none 0 0, iv 0])
          obtain ⟨g8, hg8⟩ : ∃ g8, V.heap.size = g8 := ⟨_, rfl⟩
          have HG8 := Lib.hid hg8
          clear hres hU hz HRES hlt hokl hal5 hg8
          go_wp2
          go_loopw [9] (fun vj wr => ∃ (j cf : Nat) (Af : Option Addr) (fs : List Fe), vj = .int .i64 (j : Nat) ∧ j ≤ i ∧ Hid (Bk wr V.heap.size tOpened [.slice Af j cf, iv 0]) ∧ Hid (OwnK wr V.heap.size tFile 7 Af j cf fileV fs) ∧ Hid (ents xs T ((l.drop j).map HRow.h) fs = r) ∧ Hid (Fresh V wr)) (fun vj _ => i - (intOf vj).toNat)
          case atStart => exact ⟨0, 0, none, [], rfl, Nat.zero_le _, HO5, Lib.hid (OwnK.nil _ _ _ _ _), Lib.hid (by rw [List.drop_zero]; exact HRES2.out), HF5⟩
          case round =>
            obtain ⟨j, cf, Af, fs, rfl, hj, HBO, HO, HE, HFX⟩ := hrel
            clear p0 p1 p2
            have p2 := (HT.out.fresh HFX.out).cell (i := 2) rfl
            by_cases hlt : j < i
            · have hil : j < l.length := by rw [HL.out]; exact hlt
              have hdrop : l.drop j = l[j] :: l.drop (j + 1) := List.drop_eq_getElem_cons hil
              have hgi : l[j]? = some l[j] := List.getElem?_eq_getElem hil
              have hHok : HdOk (l[j]).h xs := HOK.out _ (List.mem_map.2 ⟨_, List.getElem_mem hil, rfl⟩)
              have hnm := HH.out.nms _ (List.getElem_mem hil)
              obtain ⟨g, hAh, _, hgl, hrange⟩ := HH.out.row.at_ hrow_len (by omega) hgi
              generalize l[j] = row at *
              obtain ⟨⟨fl, me, dt, cr, cs, si, at_, nm, wd'⟩, N, nc⟩ := row
              simp only at hnm
              simp only [hrow, headV] at hrange
              have hE := HE.out
              rw [hdrop, List.map_cons] at hE
              have hone := fun (W : World) (hf : Fresh wr W) => one_any A n c xs ⟨fl, me, dt, cr, cs, si, at_, nm, wd'⟩ N nc T Af j cf V.heap.size fs W B (hrr.keep fun q hq => (HFX.out.trans hf).block q (by omega)) (Nat.le_trans hBr (HFX.out.trans hf).size) HC.out HM.out HN.out (hnm.1.rd.fresh (HFX.out.trans hf)) hnm.2.1 hnm.2.2 hHok HT3.out (HO.out.fresh hf) (by omega) _ rfl
              simp only [headV] at hone
              have hcell := fun (q : Nat) (v : Value) (W : World) (hf : Fresh wr W) (hq : ([iv (fl : Nat), iv (me : Nat), iv (dt : Nat), .int .u32 (cr : Nat), iv (cs : Nat), iv (si : Nat), iv (at_ : Nat), .slice N nm.length nc, .bool wd'] : List Value)[q]? = some v) => (World.cell?_of_block ((HFX.out.trans hf).block g hgl)).trans (hrange q v hq)
              generalize nm.length = ln at *
              have ti : decide ((j : Int) < (i : Int)) = true := by rw [decide_eq_true_iff]; omega
              subst hAh
              have hg8 := HG8.out
              have HCELL := Lib.hid hcell
              have hS : ∀ W, Fresh wr W → (W.cell? ⟨g, j * 9, none⟩ = some (iv (fl : Nat)) ∧ W.cell? ⟨g, j * 9 + 1, none⟩ = some (iv (me : Nat)) ∧ W.cell? ⟨g, j * 9 + 2, none⟩ = some (iv (dt : Nat)) ∧ W.cell? ⟨g, j * 9 + 3, none⟩ = some (.int .u32 (cr : Nat)) ∧ W.cell? ⟨g, j * 9 + 4, none⟩ = some (iv (cs : Nat)) ∧ W.cell? ⟨g, j * 9 + 5, none⟩ = some (iv (si : Nat)) ∧ W.cell? ⟨g, j * 9 + 6, none⟩ = some (iv (at_ : Nat)) ∧ W.cell? ⟨g, j * 9 + 7, none⟩ = some (.slice N ln nc) ∧ W.cell? ⟨g, j * 9 + 8, none⟩ = some (.bool wd') ∧ W.cell? ⟨g1, 2, none⟩ = some (iv (T : Nat)) ∧ W.cell? ⟨g8, 0, none⟩ = some (.slice Af j cf)) := fun W hf => ⟨HCELL.out 0 _ W hf rfl, HCELL.out 1 _ W hf rfl, HCELL.out 2 _ W hf rfl, HCELL.out 3 _ W hf rfl, HCELL.out 4 _ W hf rfl, HCELL.out 5 _ W hf rfl, HCELL.out 6 _ W hf rfl, HCELL.out 7 _ W hf rfl, HCELL.out 8 _ W hf rfl, ((HT.out.fresh HFX.out).fresh hf).cell rfl, by rw [← HG8.out]; exact (HBO.out.fresh hf).cell rfl⟩
              have HS := Lib.hid hS
              have hk0 := hS _ (Fresh.drew wr)
              have hk0a := hS _ ((Fresh.alloc wr (.cells #[.string ⟨#[]⟩, iv 0, iv 0, .int .u32 0, iv 0, iv 0, iv 0, iv 0] tEnt)).trans (Fresh.drew _))
              have hk0b := hS _ ((Fresh.drew wr).trans (Fresh.alloc _ (.cells #[.string ⟨#[]⟩, iv 0, iv 0, .int .u32 0, iv 0, iv 0, iv 0, iv 0] tEnt)))
              have hcap : j ≤ cf := (HO.out.cap).1
              cases he : ent xs ⟨fl, me, dt, cr, cs, si, at_, nm, wd'⟩ T (fs.map (·.nm)) with
              | error k =>
                rw [ents_bad he] at hE
                subst hE
                have hek : ∀ W, Fresh wr W → Calls Tryd.prog 17 #[.slice A n c, .agg #[iv (fl : Nat), iv (me : Nat), iv (dt : Nat), .int .u32 (cr : Nat), iv (cs : Nat), iv (si : Nat), iv (at_ : Nat), .slice N ln nc, .bool wd'], .int .i64 (T : Nat), .slice Af j cf] W fun e w' => Fresh W w' ∧ e = .returned (.agg #[.string ⟨#[]⟩, iv 0, iv 0, .int .u32 0, iv 0, iv 0, iv 0, iv (k : Nat)]) := fun W hf => by
                  have h1 := hone W hf
                  rw [he] at h1
                  exact h1
                have hk := ent_err_ne he
                have hkk : ((k : Int) != 0) = true := by rw [bne_iff_ne]; omega
                have HEK := Lib.hid hek
                clear hek hone hk he hrange hcell hnm hHok hdrop hgi hil hS hrr
                rw [HG8.out]
                go_upto_region 24 with (fail)
                go_region_held3 (fun w' => w'.cell? ⟨g, j * 9, none⟩ = some (iv (fl : Nat)) ∧ w'.cell? ⟨g, j * 9 + 1, none⟩ = some (iv (me : Nat)) ∧ w'.cell? ⟨g, j * 9 + 2, none⟩ = some (iv (dt : Nat)) ∧ w'.cell? ⟨g, j * 9 + 3, none⟩ = some (.int .u32 (cr : Nat)) ∧ w'.cell? ⟨g, j * 9 + 4, none⟩ = some (iv (cs : Nat)) ∧ w'.cell? ⟨g, j * 9 + 5, none⟩ = some (iv (si : Nat)) ∧ w'.cell? ⟨g, j * 9 + 6, none⟩ = some (iv (at_ : Nat)) ∧ w'.cell? ⟨g, j * 9 + 7, none⟩ = some (.slice N ln nc) ∧ w'.cell? ⟨g, j * 9 + 8, none⟩ = some (.bool wd') ∧ w'.cell? ⟨g1, 2, none⟩ = some (iv (T : Nat)) ∧ w'.cell? ⟨g8, 0, none⟩ = some (.slice Af j cf)) (first | with_reducible exact hk0 | with_reducible exact hk0a | with_reducible exact hk0b | with_reducible exact HK2.out | with_reducible exact HK4.out | with_reducible exact HK3.out)
                  (first
                  | (go_at_call 17; (first | ((refine (HEK.out _ (Fresh.drew _)).mono ?_); rintro e w3 ⟨hf3, rfl⟩; have hf4 := (Fresh.drew wr).trans hf3; have HK2 := Lib.hid (HS.out _ hf4); have HK4 := Lib.hid (HS.out _ (hf4.trans (Fresh.alloc w3 (.cells #[.string ⟨#[]⟩, iv 0, iv 0, .int .u32 0, iv 0, iv 0, iv 0, iv 0] tEnt)))); have hal3 := Fresh.alloc w3 (.cells #[.string ⟨#[]⟩, iv 0, iv 0, .int .u32 0, iv 0, iv 0, iv 0, iv (k : Nat)] tEnt); have HK3 := Lib.hid (HS.out _ (hf4.trans hal3)); have HX3 := Lib.hid (hf4.trans hal3); have HZ3 := Lib.hid ((HZ.out.fresh HFX.out).fresh HX3.out); have HF3 := Lib.hid ((HFW.out.trans HFX.out).trans HX3.out); clear hf3 hf4 hal3) | ((refine (HEK.out _ ((Fresh.alloc _ _).trans (Fresh.drew _))).mono ?_); rintro e w3 ⟨hf3, rfl⟩; have hf4 := ((Fresh.alloc wr (.cells #[.string ⟨#[]⟩, iv 0, iv 0, .int .u32 0, iv 0, iv 0, iv 0, iv 0] tEnt)).trans (Fresh.drew _)).trans hf3; have HK2 := Lib.hid (HS.out _ hf4); have HBB := Lib.hid (((Bk.made wr tEnt #[.string ⟨#[]⟩, iv 0, iv 0, .int .u32 0, iv 0, iv 0, iv 0, iv 0]).fresh (Fresh.drew _)).fresh hf3); have z0 := HBB.out.cell (i := 0) rfl; have zf0 := HBB.out.free 0; have z1 := HBB.out.cell (i := 1) rfl; have zf1 := HBB.out.free 1; have z2 := HBB.out.cell (i := 2) rfl; have zf2 := HBB.out.free 2; have z3 := HBB.out.cell (i := 3) rfl; have zf3 := HBB.out.free 3; have z4 := HBB.out.cell (i := 4) rfl; have zf4 := HBB.out.free 4; have z5 := HBB.out.cell (i := 5) rfl; have zf5 := HBB.out.free 5; have z6 := HBB.out.cell (i := 6) rfl; have zf6 := HBB.out.free 6; have z7 := HBB.out.cell (i := 7) rfl; have zf7 := HBB.out.free 7; have hset := (sets_turn (S := [wr.heap.size]) w3 [(⟨wr.heap.size, 0, none⟩, .string ⟨#[]⟩), (⟨wr.heap.size, 1, none⟩, iv 0), (⟨wr.heap.size, 2, none⟩, iv 0), (⟨wr.heap.size, 3, none⟩, .int .u32 0), (⟨wr.heap.size, 4, none⟩, iv 0), (⟨wr.heap.size, 5, none⟩, iv 0), (⟨wr.heap.size, 6, none⟩, iv 0), (⟨wr.heap.size, 7, none⟩, iv (k : Nat))] (by simp)).new hf4 (by simp); have hk5 := HS.out _ hset; simp only [sets] at hk5 hset; have HK3 := Lib.hid hk5; have HX3 := Lib.hid hset; have HZ3 := Lib.hid ((HZ.out.fresh HFX.out).fresh HX3.out); have HF3 := Lib.hid ((HFW.out.trans HFX.out).trans HX3.out); have y7 := (((((((((HBB.out).put 0 (.string ⟨#[]⟩)).put 1 (iv 0)).put 2 (iv 0)).put 3 (.int .u32 0)).put 4 (iv 0)).put 5 (iv 0)).put 6 (iv 0)).put 7 (iv (k : Nat))).cell (i := 7) rfl; clear hf3 hf4 hk5 hset))))
                all_goals go_wp2_with ((with_reducible (refine at_store_ 2 100 ?_)); refine wpList_store_row (o := ⟨none, _, _, _, _, _⟩) rfl tOpened (.tmp 2) (.tmp 100) rfl w.heap.size #[.slice none 0 0, iv (k : Nat)] rfl rfl tOpened _ HZ3.out (by kernel_rfl) (by rfl) (pair_one _ _ _ _) ?_)
                all_goals exact bodyPost_ret (results_cell_row (p := 2) (by kernel_rfl) _ _ w.heap.size tOpened #[.slice none 0 0, iv (k : Nat)] (0, 0) _ rfl (HZ3.out.row _) Tryd.underlying29 rfl (by kernel_rfl)) rfl ⟨HF3.out.but (Nat.le_refl _) (But.row _ _ _), rfl⟩
              | ok f =>
                rw [ents_good he] at hE
                obtain ⟨t, me', dt', cr', cs', si', a'⟩ := f
                obtain ⟨s, hs'⟩ : ∃ s, (⟨t.toArray⟩ : ByteArray) = s := ⟨_, rfl⟩
                have hek : ∀ W, Fresh wr W → Calls Tryd.prog 17 #[.slice A n c, .agg #[iv (fl : Nat), iv (me : Nat), iv (dt : Nat), .int .u32 (cr : Nat), iv (cs : Nat), iv (si : Nat), iv (at_ : Nat), .slice N ln nc, .bool wd'], .int .i64 (T : Nat), .slice Af j cf] W fun e w' => Fresh W w' ∧ e = .returned (.agg #[.string s, iv (me' : Nat), iv (dt' : Nat), .int .u32 (cr' : Nat), iv (cs' : Nat), iv (si' : Nat), iv (a' : Nat), iv 0]) := fun W hf => by
                  have h1 := hone W hf
                  rw [he] at h1
                  rw [← hs']
                  exact h1
                have HEK := Lib.hid hek
                have HSS := Lib.hid hs'
                have HE2 := Lib.hid hE
                clear hek hone he hrange hcell hnm hHok hdrop hgi hil hS hrr hs' hE
                rw [HG8.out]
                go_upto_region 24 with (fail)
                go_region_held3 (fun w' => w'.cell? ⟨g, j * 9, none⟩ = some (iv (fl : Nat)) ∧ w'.cell? ⟨g, j * 9 + 1, none⟩ = some (iv (me : Nat)) ∧ w'.cell? ⟨g, j * 9 + 2, none⟩ = some (iv (dt : Nat)) ∧ w'.cell? ⟨g, j * 9 + 3, none⟩ = some (.int .u32 (cr : Nat)) ∧ w'.cell? ⟨g, j * 9 + 4, none⟩ = some (iv (cs : Nat)) ∧ w'.cell? ⟨g, j * 9 + 5, none⟩ = some (iv (si : Nat)) ∧ w'.cell? ⟨g, j * 9 + 6, none⟩ = some (iv (at_ : Nat)) ∧ w'.cell? ⟨g, j * 9 + 7, none⟩ = some (.slice N ln nc) ∧ w'.cell? ⟨g, j * 9 + 8, none⟩ = some (.bool wd') ∧ w'.cell? ⟨g1, 2, none⟩ = some (iv (T : Nat)) ∧ w'.cell? ⟨g8, 0, none⟩ = some (.slice Af j cf)) (first | with_reducible exact hk0 | with_reducible exact hk0a | with_reducible exact hk0b | with_reducible exact HK2.out | with_reducible exact HK4.out | with_reducible exact HK3.out)
                  (first
                  | (go_at_call 17; (first | ((refine (HEK.out _ (Fresh.drew _)).mono ?_); rintro e w3 ⟨hf3, rfl⟩; have hf4 := (Fresh.drew wr).trans hf3; have HK2 := Lib.hid (HS.out _ hf4); have HK4 := Lib.hid (HS.out _ (hf4.trans (Fresh.alloc w3 (.cells #[.string ⟨#[]⟩, iv 0, iv 0, .int .u32 0, iv 0, iv 0, iv 0, iv 0] tEnt)))); have hal3 := Fresh.alloc w3 (.cells #[.string s, iv (me' : Nat), iv (dt' : Nat), .int .u32 (cr' : Nat), iv (cs' : Nat), iv (si' : Nat), iv (a' : Nat), iv 0] tEnt); have HK3 := Lib.hid (HS.out _ (hf4.trans hal3)); have HX3 := Lib.hid (hf4.trans hal3); have HB3 := Lib.hid (Bk.made w3 tEnt #[.string s, iv (me' : Nat), iv (dt' : Nat), .int .u32 (cr' : Nat), iv (cs' : Nat), iv (si' : Nat), iv (a' : Nat), iv 0]); clear hf3 hf4 hal3) | ((refine (HEK.out _ ((Fresh.alloc _ _).trans (Fresh.drew _))).mono ?_); rintro e w3 ⟨hf3, rfl⟩; have hf4 := ((Fresh.alloc wr (.cells #[.string ⟨#[]⟩, iv 0, iv 0, .int .u32 0, iv 0, iv 0, iv 0, iv 0] tEnt)).trans (Fresh.drew _)).trans hf3; have HK2 := Lib.hid (HS.out _ hf4); have HBB := Lib.hid (((Bk.made wr tEnt #[.string ⟨#[]⟩, iv 0, iv 0, .int .u32 0, iv 0, iv 0, iv 0, iv 0]).fresh (Fresh.drew _)).fresh hf3); have z0 := HBB.out.cell (i := 0) rfl; have zf0 := HBB.out.free 0; have z1 := HBB.out.cell (i := 1) rfl; have zf1 := HBB.out.free 1; have z2 := HBB.out.cell (i := 2) rfl; have zf2 := HBB.out.free 2; have z3 := HBB.out.cell (i := 3) rfl; have zf3 := HBB.out.free 3; have z4 := HBB.out.cell (i := 4) rfl; have zf4 := HBB.out.free 4; have z5 := HBB.out.cell (i := 5) rfl; have zf5 := HBB.out.free 5; have z6 := HBB.out.cell (i := 6) rfl; have zf6 := HBB.out.free 6; have z7 := HBB.out.cell (i := 7) rfl; have zf7 := HBB.out.free 7; have hset := (sets_turn (S := [wr.heap.size]) w3 [(⟨wr.heap.size, 0, none⟩, .string s), (⟨wr.heap.size, 1, none⟩, iv (me' : Nat)), (⟨wr.heap.size, 2, none⟩, iv (dt' : Nat)), (⟨wr.heap.size, 3, none⟩, .int .u32 (cr' : Nat)), (⟨wr.heap.size, 4, none⟩, iv (cs' : Nat)), (⟨wr.heap.size, 5, none⟩, iv (si' : Nat)), (⟨wr.heap.size, 6, none⟩, iv (a' : Nat)), (⟨wr.heap.size, 7, none⟩, iv 0)] (by simp)).new hf4 (by simp); have hk5 := HS.out _ hset; simp only [sets] at hk5 hset; have HK3 := Lib.hid hk5; have HX3 := Lib.hid hset; have HB3 := Lib.hid (((((((((HBB.out).put 0 (.string s)).put 1 (iv (me' : Nat))).put 2 (iv (dt' : Nat))).put 3 (.int .u32 (cr' : Nat))).put 4 (iv (cs' : Nat))).put 5 (iv (si' : Nat))).put 6 (iv (a' : Nat))).put 7 (iv 0)); clear hf3 hf4 hk5 hset))))
                all_goals first
                | (have hWC : Bk (w3.alloc (.cells #[.string s, iv (me' : Nat), iv (dt' : Nat), .int .u32 (cr' : Nat), iv (cs' : Nat), iv (si' : Nat), iv (a' : Nat), iv 0] tEnt)) w3.heap.size tEnt [.string s, iv (me' : Nat), iv (dt' : Nat), .int .u32 (cr' : Nat), iv (cs' : Nat), iv (si' : Nat), iv (a' : Nat), iv 0] := by with_reducible exact HB3.out
                   have HX9 : Hid (Fresh wr (w3.alloc (.cells #[.string s, iv (me' : Nat), iv (dt' : Nat), .int .u32 (cr' : Nat), iv (cs' : Nat), iv (si' : Nat), iv (a' : Nat), iv 0] tEnt))) := HX3
                   have HL9 : (w3.alloc (.cells #[.string s, iv (me' : Nat), iv (dt' : Nat), .int .u32 (cr' : Nat), iv (cs' : Nat), iv (si' : Nat), iv (a' : Nat), iv 0] tEnt)).cell? ⟨g8, 0, none⟩ = some (.slice Af j cf) := HK3.out.2.2.2.2.2.2.2.2.2.2
                   have HB9 := Lib.hid hWC
                   clear HB3 HX3 HK3 HK2 hWC
                   generalize (w3.alloc (.cells #[.string s, .int .i64 (me' : Nat), .int .i64 (dt' : Nat), .int .u32 (cr' : Nat), .int .i64 (cs' : Nat), .int .i64 (si' : Nat), .int .i64 (a' : Nat), .int .i64 0] tEnt)) = Wc at *
                   have e7 := HB9.out.cell (i := 7) rfl
                   have HFWc := Lib.hid (HFX.out.trans HX9.out)
                   have HOc := Lib.hid (HO.out.fresh HX9.out)
                   have HBOc := Lib.hid (HBO.out.fresh HX9.out)
                   have HAc := Lib.hid (Fresh.alloc Wc (.cells #[.string s, iv (me' : Nat), iv (dt' : Nat), .int .u32 (cr' : Nat), iv (cs' : Nat), iv (si' : Nat), iv (a' : Nat)] tFile))
                   have HBX := Lib.hid (Bk.made Wc tFile #[.string s, iv (me' : Nat), iv (dt' : Nat), .int .u32 (cr' : Nat), iv (cs' : Nat), iv (si' : Nat), iv (a' : Nat)])
                   have HO4 := Lib.hid (HOc.out.fresh HAc.out)
                   have HBO4 := Lib.hid (HBOc.out.fresh HAc.out)
                   have HF4 := Lib.hid (HFWc.out.trans HAc.out)
                   go_wp2_with (first
                     | ((with_reducible (refine at_slot_ 104 ?_)); refine wpList_load_mid rfl tFile (.tmp 103) rfl w3.heap.size 0 rfl [.string s, iv (me' : Nat), iv (dt' : Nat), .int .u32 (cr' : Nat), iv (cs' : Nat), iv (si' : Nat), iv (a' : Nat)] _ (fun q v hq => by rw [Nat.zero_add]; exact HB9.out.cell (by have hq7 : q < 7 := (List.getElem?_eq_some_iff.1 hq).1; rw [← hq]; rcases (show q = 0 ∨ q = 1 ∨ q = 2 ∨ q = 3 ∨ q = 4 ∨ q = 5 ∨ q = 6 by omega) with rfl | rfl | rfl | rfl | rfl | rfl | rfl <;> rfl)) Tryd.underlying34 rfl (by kernel_rfl) ?_)
                     | (at_builtin; refine wpList_append_cells _ rfl _ _ tFiles rfl V.heap.size tFile j0 _ 7 64 Tryd.underlying24 hj0 hy0 hy1 hy2 rfl (by omega) fileV Af j cf fs rfl HO4.out Wc.heap.size ⟨t, me', dt', cr', cs', si', a'⟩ rfl (by rw [show fileV ⟨t, me', dt', cr', cs', si', a'⟩ = [.string s, iv (me' : Nat), iv (dt' : Nat), .int .u32 (cr' : Nat), iv (cs' : Nat), iv (si' : Nat), iv (a' : Nat)] from by rw [← HSS.out]; rfl]; exact HBX.out) rfl (fileV_one _) (by omega) (by omega) HF4.out.size ?_; intro A5 c5 w5 hown5 hg5 hb5; have hb8 := HBO4.out.grown hg5 (HO4.out.ne HBO4.out (by decide)); rw [HG8.out] at hb8; have kk := hb8.cell (i := 0) rfl; have kf := hb8.free 0; have HB8 := Lib.hid hb8; have hne5 : (Value.slice A5 (j + 1) c5).ownBlock ≠ some g8 := OwnK.ne (f := fileV) (l := (fs ++ [⟨t, me', dt', cr', cs', si', a'⟩])) hown5 hb8 (show tFile ≠ tOpened by decide); have hown6 : OwnK (w5.setCell ⟨g8, 0, none⟩ (.slice A5 (j + 1) c5)) V.heap.size tFile 7 A5 (j + 1) c5 fileV (fs ++ [⟨t, me', dt', cr', cs', si', a'⟩]) := OwnK.keep (f := fileV) (l := (fs ++ [⟨t, me', dt', cr', cs', si', a'⟩])) hown5 (fun q hq => Below.heap_setCell w5 ⟨g8, 0, none⟩ _ q (fun e => hne5 (by rw [hq]; exact congrArg some e))); have HO6 := Lib.hid (OwnK.low (f := fileV) (b := g8) hown6 (Nat.le_of_eq HG8.out.symm)); clear hb8 hne5 hown6))
                   refine ⟨⟨j + 1, c5, A5, fs ++ [⟨t, me', dt', cr', cs', si', a'⟩], by go_num, by omega, Lib.hid ?_, HO6, HE2, Lib.hid ((HO4.out.append HF4.out (Nat.le_refl _) hg5).but (Nat.le_of_eq HG8.out) (But.put _ _))⟩, ?_⟩
                   · exact HB8.out.put 0 _
                   · simp [intOf]; omega)
                | (have hWC : Bk ((((((((w3.setCell ⟨wr.heap.size, 0, none⟩ (.string s)).setCell ⟨wr.heap.size, 1, none⟩ (iv (me' : Nat))).setCell ⟨wr.heap.size, 2, none⟩ (iv (dt' : Nat))).setCell ⟨wr.heap.size, 3, none⟩ (.int .u32 (cr' : Nat))).setCell ⟨wr.heap.size, 4, none⟩ (iv (cs' : Nat))).setCell ⟨wr.heap.size, 5, none⟩ (iv (si' : Nat))).setCell ⟨wr.heap.size, 6, none⟩ (iv (a' : Nat))).setCell ⟨wr.heap.size, 7, none⟩ (iv 0)) wr.heap.size tEnt [.string s, iv (me' : Nat), iv (dt' : Nat), .int .u32 (cr' : Nat), iv (cs' : Nat), iv (si' : Nat), iv (a' : Nat), iv 0] := by exact HB3.out
                   have HX9 : Hid (Fresh wr ((((((((w3.setCell ⟨wr.heap.size, 0, none⟩ (.string s)).setCell ⟨wr.heap.size, 1, none⟩ (iv (me' : Nat))).setCell ⟨wr.heap.size, 2, none⟩ (iv (dt' : Nat))).setCell ⟨wr.heap.size, 3, none⟩ (.int .u32 (cr' : Nat))).setCell ⟨wr.heap.size, 4, none⟩ (iv (cs' : Nat))).setCell ⟨wr.heap.size, 5, none⟩ (iv (si' : Nat))).setCell ⟨wr.heap.size, 6, none⟩ (iv (a' : Nat))).setCell ⟨wr.heap.size, 7, none⟩ (iv 0))) := HX3
                   have HL9 : ((((((((w3.setCell ⟨wr.heap.size, 0, none⟩ (.string s)).setCell ⟨wr.heap.size, 1, none⟩ (iv (me' : Nat))).setCell ⟨wr.heap.size, 2, none⟩ (iv (dt' : Nat))).setCell ⟨wr.heap.size, 3, none⟩ (.int .u32 (cr' : Nat))).setCell ⟨wr.heap.size, 4, none⟩ (iv (cs' : Nat))).setCell ⟨wr.heap.size, 5, none⟩ (iv (si' : Nat))).setCell ⟨wr.heap.size, 6, none⟩ (iv (a' : Nat))).setCell ⟨wr.heap.size, 7, none⟩ (iv 0)).cell? ⟨g8, 0, none⟩ = some (.slice Af j cf) := HK3.out.2.2.2.2.2.2.2.2.2.2
                   have HB9 := Lib.hid hWC
                   clear HB3 HX3 HK3 HK2 hWC
                   generalize ((((((((w3.setCell ⟨wr.heap.size, 0, none⟩ (.string s)).setCell ⟨wr.heap.size, 1, none⟩ (.int .i64 (me' : Nat))).setCell ⟨wr.heap.size, 2, none⟩ (.int .i64 (dt' : Nat))).setCell ⟨wr.heap.size, 3, none⟩ (.int .u32 (cr' : Nat))).setCell ⟨wr.heap.size, 4, none⟩ (.int .i64 (cs' : Nat))).setCell ⟨wr.heap.size, 5, none⟩ (.int .i64 (si' : Nat))).setCell ⟨wr.heap.size, 6, none⟩ (.int .i64 (a' : Nat))).setCell ⟨wr.heap.size, 7, none⟩ (.int .i64 0)) = Wc at *
                   have e7 := HB9.out.cell (i := 7) rfl
                   have HFWc := Lib.hid (HFX.out.trans HX9.out)
                   have HOc := Lib.hid (HO.out.fresh HX9.out)
                   have HBOc := Lib.hid (HBO.out.fresh HX9.out)
                   have HAc := Lib.hid (Fresh.alloc Wc (.cells #[.string s, iv (me' : Nat), iv (dt' : Nat), .int .u32 (cr' : Nat), iv (cs' : Nat), iv (si' : Nat), iv (a' : Nat)] tFile))
                   have HBX := Lib.hid (Bk.made Wc tFile #[.string s, iv (me' : Nat), iv (dt' : Nat), .int .u32 (cr' : Nat), iv (cs' : Nat), iv (si' : Nat), iv (a' : Nat)])
                   have HO4 := Lib.hid (HOc.out.fresh HAc.out)
                   have HBO4 := Lib.hid (HBOc.out.fresh HAc.out)
                   have HF4 := Lib.hid (HFWc.out.trans HAc.out)
                   go_wp2_with (first
                     | ((with_reducible (refine at_slot_ 104 ?_)); refine wpList_load_mid rfl tFile (.tmp 103) rfl wr.heap.size 0 rfl [.string s, iv (me' : Nat), iv (dt' : Nat), .int .u32 (cr' : Nat), iv (cs' : Nat), iv (si' : Nat), iv (a' : Nat)] _ (fun q v hq => by rw [Nat.zero_add]; exact HB9.out.cell (by have hq7 : q < 7 := (List.getElem?_eq_some_iff.1 hq).1; rw [← hq]; rcases (show q = 0 ∨ q = 1 ∨ q = 2 ∨ q = 3 ∨ q = 4 ∨ q = 5 ∨ q = 6 by omega) with rfl | rfl | rfl | rfl | rfl | rfl | rfl <;> rfl)) Tryd.underlying34 rfl (by kernel_rfl) ?_)
                     | (at_builtin; refine wpList_append_cells _ rfl _ _ tFiles rfl V.heap.size tFile j0 _ 7 64 Tryd.underlying24 hj0 hy0 hy1 hy2 rfl (by omega) fileV Af j cf fs rfl HO4.out Wc.heap.size ⟨t, me', dt', cr', cs', si', a'⟩ rfl (by rw [show fileV ⟨t, me', dt', cr', cs', si', a'⟩ = [.string s, iv (me' : Nat), iv (dt' : Nat), .int .u32 (cr' : Nat), iv (cs' : Nat), iv (si' : Nat), iv (a' : Nat)] from by rw [← HSS.out]; rfl]; exact HBX.out) rfl (fileV_one _) (by omega) (by omega) HF4.out.size ?_; intro A5 c5 w5 hown5 hg5 hb5; have hb8 := HBO4.out.grown hg5 (HO4.out.ne HBO4.out (by decide)); rw [HG8.out] at hb8; have kk := hb8.cell (i := 0) rfl; have kf := hb8.free 0; have HB8 := Lib.hid hb8; have hne5 : (Value.slice A5 (j + 1) c5).ownBlock ≠ some g8 := OwnK.ne (f := fileV) (l := (fs ++ [⟨t, me', dt', cr', cs', si', a'⟩])) hown5 hb8 (show tFile ≠ tOpened by decide); have hown6 : OwnK (w5.setCell ⟨g8, 0, none⟩ (.slice A5 (j + 1) c5)) V.heap.size tFile 7 A5 (j + 1) c5 fileV (fs ++ [⟨t, me', dt', cr', cs', si', a'⟩]) := OwnK.keep (f := fileV) (l := (fs ++ [⟨t, me', dt', cr', cs', si', a'⟩])) hown5 (fun q hq => Below.heap_setCell w5 ⟨g8, 0, none⟩ _ q (fun e => hne5 (by rw [hq]; exact congrArg some e))); have HO6 := Lib.hid (OwnK.low (f := fileV) (b := g8) hown6 (Nat.le_of_eq HG8.out.symm)); clear hb8 hne5 hown6))
                   refine ⟨⟨j + 1, c5, A5, fs ++ [⟨t, me', dt', cr', cs', si', a'⟩], by go_num, by omega, Lib.hid ?_, HO6, HE2, Lib.hid ((HO4.out.append HF4.out (Nat.le_refl _) hg5).but (Nat.le_of_eq HG8.out) (But.put _ _))⟩, ?_⟩
                   · exact HB8.out.put 0 _
                   · simp [intOf]; omega)
            · obtain rfl : j = i := by omega
              have hE := HE.out
              rw [List.drop_of_length_le (by rw [HL.out]; exact Nat.le_refl _), List.map_nil, ents] at hE
              subst hE
              have hfl := HO.out.len fileV_len (by omega)
              have ti : decide ((j : Int) < (j : Int)) = false := by simp
              have HZ9 := Lib.hid (HZ.out.fresh HFX.out)
              have HF9 := Lib.hid (HFW.out.trans HFX.out)
              have HFL := Lib.hid hfl
              clear hlt hfl hrr
              go_wp2_with (first
                | ((with_reducible (refine at_slot_ 108 ?_)); refine wpList_load_mid rfl tOpened (.tmp 8) rfl V.heap.size 0 rfl [.slice Af j cf, iv 0] _ (fun q v hq => by rw [Nat.zero_add]; exact HBO.out.cell hq) Tryd.underlying29 rfl (by kernel_rfl) ?_)
                | ((with_reducible (refine at_store_ 2 108 ?_)); refine wpList_store_row (o := ⟨none, _, _, _, _, _⟩) rfl tOpened (.tmp 2) (.tmp 108) rfl w.heap.size #[.slice Af j cf, iv 0] rfl rfl tOpened _ HZ9.out (by kernel_rfl) (by rfl) (pair_one _ _ _ _) ?_))
              exact bodyPost_ret (results_cell_row (p := 2) (by kernel_rfl) _ _ w.heap.size tOpened #[.slice Af j cf, iv 0] (0, 0) _ rfl (HZ9.out.row _) Tryd.underlying29 rfl (by kernel_rfl)) rfl ⟨HF9.out.but (Nat.le_refl _) (But.row _ _ _), Af, cf, by rw [HFL.out], by rw [HFL.out]; exact (HO.out.low HFW.out.size).but (But.row _ _ _) (HO.out.ne HZ9.out (by decide))⟩
        · rw [if_neg hz] at hres
          simp only at hres
          subst hres
          have tz : ((p : Int) != (T : Int) + (long : Int)) = true := by rw [bne_iff_ne]; omega
          clear hU hz HRES hlt
          go_wp2_with ((with_reducible (refine at_store_ 2 76 ?_)); refine wpList_store_row (o := ⟨none, _, _, _, _, _⟩) rfl tOpened (.tmp 2) (.tmp 76) rfl w.heap.size #[.slice none 0 0, iv 4] rfl rfl tOpened _ HZ.out (by kernel_rfl) (by rfl) (pair_one _ _ _ _) ?_)
          exact bodyPost_ret (results_cell_row (p := 2) (by kernel_rfl) _ _ w.heap.size tOpened #[.slice none 0 0, iv 4] (0, 0) _ rfl (HZ.out.row _) Tryd.underlying29 rfl (by kernel_rfl)) rfl ⟨HFW.out.but (Nat.le_refl _) (But.row _ _ _), rfl⟩
end Go.Proofs.YtmnejphdjnlbjaaDoor.unzp
