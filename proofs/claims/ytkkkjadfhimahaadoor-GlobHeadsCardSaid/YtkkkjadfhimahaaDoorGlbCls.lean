/-
  Layer 13: classOf. My own text.
-/
import Derived.Test.YtkkkjadfhimahaaDoorGlbCut
namespace Go.Proofs.YtkkkjadfhimahaaDoor.glbp
open Go.RowKit Go.Proofs.YtkkkjadfhimahaaDoor.base Go.Proofs.YtkkkjadfhimahaaDoor.nam Go.Proofs.YtkkkjadfhimahaaDoor.glb
set_option linter.unusedVariables false
theorem spanInfo : (Tryd.prog.info? tSpan).map (fun i => (i.zero, i.size, i.bytes)) = some (some (.agg #[.int .i32 0, .int .i32 0]), 2, 8) := by kernel_rfl
/-- what is told of the part at the head -/
def PrtIs (r : Option (Pt × Nat)) (w : World) (e : Ending) (w' : World) : Prop := match r with
  | none => ∃ v, e = .returned (.tuple #[v, .int .i64 0]) ∧ Fresh w w'
  | some (p, k) => ∃ v, e = .returned (.tuple #[v, .int .i64 (k : Nat)]) ∧ PtV w' v p ∧ Fresh w w'
theorem prtIs_none {w w' : World} {v : Value} {r : Option (Pt × Nat)} (hr : r = none) (h : Fresh w w') : PrtIs r w (.returned (.tuple #[v, .int .i64 0])) w' := by
  subst hr
  exact ⟨v, rfl, h⟩
theorem prtIs_some {w w' : World} {v : Value} {r : Option (Pt × Nat)} {p : Pt} {k : Nat} (hr : r = some (p, k)) (hv : PtV w' v p) (h : Fresh w w') : PrtIs r w (.returned (.tuple #[v, .int .i64 (k : Nat)])) w' := by
  subst hr
  exact ⟨v, rfl, hv, h⟩
theorem cls_at {l : List Nat} {done : List (Nat × Nat)} {at_ : Nat} (K : Nat) (h : cl true (l.drop K) = (cl (decide (done = [])) (l.drop at_)).map fun q => (done ++ q.1, at_ - K + q.2)) (hK : K ≤ at_) {r : Option (List (Nat × Nat) × Nat)} (hr : cl (decide (done = [])) (l.drop at_) = r) :
    cl true (l.drop K) = r.map fun q => (done ++ q.1, at_ - K + q.2) := by rw [h, hr]
set_option maxHeartbeats 4000000 in
set_option maxRecDepth 100000 in
theorem classOf_any (A : Option Addr) (n c B : Nat) (l : List Nat) (w : World) (hr : Rd w B A n (rr l)) (hB : B ≤ w.heap.size) (hc : n ≤ c) (hm : n ≤ 1000) (h0 : 0 < n) :
    Calls Tryd.prog 36 #[.slice A n c] w (PrtIs (clsP l) w) := by
  obtain ⟨i0, hi0, hz0, hz1, hz2⟩ := info_parts spanInfo
  have hl : l.length = n := by have := hr.1; rwa [List.length_map] at this
  obtain ⟨nt, hnt⟩ : ∃ nt, beg (l.drop 1) 33 = nt := ⟨_, rfl⟩
  obtain ⟨K, hK⟩ : ∃ K, clK l = K := ⟨_, rfl⟩
  have hKl := clK_le (l := l) (by rintro rfl; simp at hl; omega)
  rw [hK, hl] at hKl
  have hKe : K = if nt = true then 2 else 1 := by rw [← hK, clK, hnt]
  have hcls : clsP l = (cl true (l.drop K)).map fun q => (.cls nt q.1, K + q.2) := by rw [clsP, hK, hnt]
  have b1 := Bk.made w tClass #[.bool nt, .slice none 0 0]
  have f1 := Fresh.alloc w (.cells #[.bool nt, .slice none 0 0] tClass)
  have c0 := b1.cell (i := 0) rfl
  have HR := Lib.hid hr
  have HL := Lib.hid hl
  have HNT := Lib.hid hnt
  have HCLS := Lib.hid hcls
  have HB1 := Lib.hid b1
  have HF1 := Lib.hid f1
  have hK1 := hKl.1
  have hK2 := hKl.2
  clear hr hl hnt hcls b1 f1 hK hKl
  have hstart : ∀ wr, wr = w.alloc (.cells #[.bool nt, .slice none 0 0] tClass) → ∃ (at_ ls cs : Nat) (AS : Option Addr) (done : List (Nat × Nat)), Value.int .i64 (K : Nat) = .int .i64 (at_ : Nat) ∧ K ≤ at_ ∧ at_ ≤ n ∧ Bk wr w.heap.size tClass [.bool nt, .slice AS ls cs] ∧ OwnK wr (w.heap.size + 1) tSpan 2 AS ls cs spv done ∧ Hid (done.length = ls) ∧ ls ≤ at_ ∧
      Hid (cl true (l.drop K) = (cl (decide (done = [])) (l.drop at_)).map fun q => (done ++ q.1, at_ - K + q.2)) ∧ Fresh w wr := by
    rintro wr rfl
    refine ⟨K, 0, 0, none, [], rfl, Nat.le_refl _, hK2, HB1.out, OwnK.nil _ _ _ _ _, rfl, Nat.zero_le _, ?_, HF1.out⟩
    show cl true (l.drop K) = _
    cases h : cl true (l.drop K) with
    | none => simp [h]
    | some q => simp [h]
  have HST := Lib.hid hstart
  clear hstart
  have hloop : ∀ (wr : World) (u : Nat → Value), True := fun _ _ => trivial
  clear hloop
  cases nt with
  | true =>
    obtain rfl : K = 2 := hKe
    go_enter Tryd.func36, Tryd.ntmps36
    go_wp2_with (first
      | ((with_reducible refine at_slot_ 9 ?_); refine wpList_cut (by rfl) tRow 21 (.tmp 8) (.const (.int .i64 1)) rfl Tryd.underlying61 runeSize A n c 1 B (rr l) rfl rfl HR.out h0 hc ?_; intro D hD; rw [rr_drop] at hD; have hbg := begins_any D (n - 1) (c - 1) B (l.drop 1) 33 33 rfl _ hD; rw [HNT.out] at hbg; have HBD := Lib.hid hbg; clear hD hbg)
      | (go_at_call 35; (with_reducible refine HBD.out.mono ?_); rintro e w1 ⟨rfl, hw1⟩; replace hw1 := hw1.symm; subst hw1))
    go_loopw [5] (fun v wr => ∃ (at_ ls cs : Nat) (AS : Option Addr) (done : List (Nat × Nat)), v = .int .i64 (at_ : Nat) ∧ 2 ≤ at_ ∧ at_ ≤ n ∧ Bk wr w.heap.size tClass [.bool true, .slice AS ls cs] ∧ OwnK wr (w.heap.size + 1) tSpan 2 AS ls cs spv done ∧ Hid (done.length = ls) ∧ ls ≤ at_ ∧
      Hid (cl true (l.drop 2) = (cl (decide (done = [])) (l.drop at_)).map fun q => (done ++ q.1, at_ - 2 + q.2)) ∧ Fresh w wr) (fun v _ => n - (intOf v).toNat)
    case atStart => exact HST.out _ rfl
    case round =>
      obtain ⟨at_, ls, cs, AS, done, rfl, hat1, hat2, hb, hown, hdl, hls, hcl, hfr⟩ := hrel
      clear HB1 HF1 c0 HST
      have k0 := hb.cell (i := 0) rfl
      have k1 := hb.cell (i := 1) rfl
      have hsz := hb.inside
      have hrd := HR.out.below hfr hB
      have HRD := Lib.hid hrd
      have hspan := fun D => spanOf_any D (n - at_) (c - at_) B (l.drop at_) wr
      have hbB : B ≤ wr.heap.size := by omega
      have HSP := Lib.hid hspan
      have HOWN := Lib.hid hown
      have HB := Lib.hid hb
      have HF := Lib.hid hfr
      clear hrd hspan hown hb hfr
      have hexit : ls ≠ 0 → beg (l.drop at_) 93 = true → clsP l = some (.cls true done, at_ + 1) := fun h1 h2 => by
        have hd : decide (done = []) = false := by
          rw [decide_eq_false_iff_not]
          rintro rfl
          exact h1 hdl.out.symm
        have h3 := cls_at 2 hcl.out hat1 (r := some ([], 1)) (by rw [hd, cl_end h2])
        rw [HCLS.out, h3]
        simp
        omega
      have hbad : (ls = 0 ∨ beg (l.drop at_) 93 = false) → spanP (l.drop at_) = none → clsP l = none := fun h1 h2 => by
        have h3 := cls_at 2 hcl.out hat1 (r := none) (cl_bad (fun h => by
          rcases h1 with h1 | h1
          · rw [decide_eq_false_iff_not] at h
            exact h.1 (List.eq_nil_of_length_eq_zero (by rw [hdl.out]; exact h1))
          · rw [h1] at h; cases h.2) h2)
        rw [HCLS.out, h3]
        rfl
      have hstep : ∀ s k, (ls = 0 ∨ beg (l.drop at_) 93 = false) → spanP (l.drop at_) = some (s, k) → cl true (l.drop 2) = (cl (decide (done ++ [s] = [])) (l.drop (at_ + k))).map fun q => ((done ++ [s]) ++ q.1, (at_ + k) - 2 + q.2) := fun s k h1 h2 => by
        have h3 := cls_at 2 hcl.out hat1 (cl_step (fun h => by
          rcases h1 with h1 | h1
          · rw [decide_eq_false_iff_not] at h
            exact h.1 (List.eq_nil_of_length_eq_zero (by rw [hdl.out]; exact h1))
          · rw [h1] at h; cases h.2) h2)
        rw [h3, List.drop_drop, decide_eq_false (by simp), Option.map_map]
        congr 1
        funext q
        simp
        omega
      have HEX := Lib.hid hexit
      have HBAD := Lib.hid hbad
      have HSTEP := Lib.hid hstep
      have HDL := Lib.hid hdl.out
      clear hexit hbad hstep hcl hdl
      have hgo : (ls ≠ 0 ∧ beg (l.drop at_) 93 = true) ∨ (ls = 0 ∨ beg (l.drop at_) 93 = false) := by
        by_cases h1 : ls = 0
        · exact Or.inr (Or.inl h1)
        · cases h2 : beg (l.drop at_) 93 with
          | true => exact Or.inl ⟨h1, rfl⟩
          | false => exact Or.inr (Or.inr rfl)
      have hcapS := HOWN.out.cap
      have hrt := RdT.of_own HOWN.out spv_len
      have HRT := Lib.hid hrt
      clear hrt
      rcases hgo with ⟨h1, h2⟩ | hgo
      · have t1 : ((ls : Int) == 0) = false := by rw [beq_eq_false_iff_ne]; omega
        have HEXX := Lib.hid (HEX.out h1 h2)
        have HBG := Lib.hid h2
        have hfin : PrtIs (clsP l) w (.returned (.tuple #[.iface tClass (.agg #[.bool true, .slice AS ls cs]), .int .i64 ((at_ + 1 : Nat) : Int)])) wr := prtIs_some HEXX.out ⟨AS, cs, by rw [HDL.out], by rw [HDL.out]; exact hcapS.1, hcapS.2, HRT.out⟩ HF.out
        have HFIN := Lib.hid hfin
        have ea : IntKind.i64.wrap ((at_ : Int) + 1) = ((at_ + 1 : Nat) : Int) := by rw [IntWalk.i64_in _ (by omega)]; omega
        clear h1 h2 hfin hcapS
        go_wp2_with (first
          | ((with_reducible refine at_slot_ 23 ?_); refine wpList_cut (by rfl) tRow 21 (.tmp 21) (.tmp 22) rfl Tryd.underlying61 runeSize A n c at_ B (rr l) rfl rfl HRD.out hat2 hc ?_; intro D9 hD; rw [rr_drop] at hD; have hbg := begins_any D9 (n - at_) (c - at_) B (l.drop at_) 93 93 rfl _ hD; rw [HBG.out] at hbg; have HBD9 := Lib.hid hbg; clear hD hbg)
          | (go_at_call 35; (with_reducible refine HBD9.out.mono ?_); rintro e w8 ⟨rfl, hw1⟩; replace hw1 := hw1.symm; subst hw1)
          | ((with_reducible refine at_slot_ 45 ?_); refine wpList_load_blk rfl tClass (.tmp 4) rfl w.heap.size 0 2 tClass [.bool true, .slice AS ls cs] rfl HB.out (by simp) _ Tryd.underlying103 rfl (by kernel_rfl) ?_))
        go_ret2
        exact HFIN.out
      · have hstop : ∀ b, (ls = 0 → b = true) → True := fun _ _ => trivial
        clear hstop
        cases hsp : spanP (l.drop at_) with
        | none =>
          have hsv : spanV (l.drop at_) = .tuple #[.agg #[.int .i32 0, .int .i32 0], .int .i64 0] := by rw [spanV, hsp]
          have HX := Lib.hid (HBAD.out hgo hsp)
          rw [hsv] at HSP
          clear hsv hsp HBAD HSTEP HEX hcapS
          rcases hgo with h1 | h1
          · subst h1
            go_wp2_with (first
              | ((with_reducible refine at_slot_ 30 ?_); refine wpList_cut (by rfl) tRow 21 (.tmp 28) (.tmp 29) rfl Tryd.underlying61 runeSize A n c at_ B (rr l) rfl rfl HRD.out hat2 hc ?_; intro D8 hD; rw [rr_drop] at hD; have hbg := HSP.out D8 hD hbB (by omega) (by omega); have HBD8 := Lib.hid hbg; clear hD hbg)
              | (go_at_call 40; (with_reducible refine HBD8.out.mono ?_); rintro e w8 ⟨rfl, hf8⟩))
            go_ret2
            exact prtIs_none HX.out (HF.out.trans (hf8.trans (Fresh.alloc _ _)))
          · have t1 : ((ls : Int) == 0) = decide (ls = 0) := by
              by_cases h : ls = 0
              · subst h; rfl
              · rw [decide_eq_false h, beq_eq_false_iff_ne]; omega
            have HBG := Lib.hid h1
            clear h1
            by_cases h0 : ls = 0
            · subst h0
              go_wp2_with (first
                | ((with_reducible refine at_slot_ 30 ?_); refine wpList_cut (by rfl) tRow 21 (.tmp 28) (.tmp 29) rfl Tryd.underlying61 runeSize A n c at_ B (rr l) rfl rfl HRD.out hat2 hc ?_; intro D8 hD; rw [rr_drop] at hD; have hbg := HSP.out D8 hD hbB (by omega) (by omega); have HBD8 := Lib.hid hbg; clear hD hbg)
                | (go_at_call 40; (with_reducible refine HBD8.out.mono ?_); rintro e w8 ⟨rfl, hf8⟩))
              go_ret2
              exact prtIs_none HX.out (HF.out.trans (hf8.trans (Fresh.alloc _ _)))
            · rw [decide_eq_false h0] at t1
              clear h0
              go_wp2_with (first
                | ((with_reducible refine at_slot_ 23 ?_); refine wpList_cut (by rfl) tRow 21 (.tmp 21) (.tmp 22) rfl Tryd.underlying61 runeSize A n c at_ B (rr l) rfl rfl HRD.out hat2 hc ?_; intro D9 hD; rw [rr_drop] at hD; have hbg := begins_any D9 (n - at_) (c - at_) B (l.drop at_) 93 93 rfl _ hD; rw [HBG.out] at hbg; have HBD9 := Lib.hid hbg; clear hD hbg)
                | (go_at_call 35; (with_reducible refine HBD9.out.mono ?_); rintro e w8 ⟨rfl, hw1⟩; replace hw1 := hw1.symm; subst hw1)
                | ((with_reducible refine at_slot_ 30 ?_); refine wpList_cut (by rfl) tRow 21 (.tmp 28) (.tmp 29) rfl Tryd.underlying61 runeSize A n c at_ B (rr l) rfl rfl HRD.out hat2 hc ?_; intro D8 hD; rw [rr_drop] at hD; have hbg := HSP.out D8 hD hbB (by omega) (by omega); have HBD8 := Lib.hid hbg; clear hD hbg)
                | (go_at_call 40; (with_reducible refine HBD8.out.mono ?_); rintro e w8 ⟨rfl, hf8⟩))
              go_ret2
              exact prtIs_none HX.out (HF.out.trans (hf8.trans (Fresh.alloc _ _)))
        | some q =>
          obtain ⟨⟨a, b⟩, k⟩ := q
          have hsv : spanV (l.drop at_) = .tuple #[.agg #[r32 a, r32 b], .int .i64 (k : Nat)] := by rw [spanV, hsp]
          have hkk := spanP_le hsp
          rw [List.length_drop, HL.out] at hkk
          have hk1 := hkk.1
          have hk2 := hkk.2
          have HX := Lib.hid (HSTEP.out _ _ hgo hsp)
          rw [hsv] at HSP
          have t5 : ((k : Int) == 0) = false := by rw [beq_eq_false_iff_ne]; omega
          have ea : IntKind.i64.wrap ((at_ : Int) + (k : Int)) = ((at_ + k : Nat) : Int) := by rw [IntWalk.i64_in _ (by omega)]; omega
          have hkp : at_ + k ≤ n := by omega
          have HKP := Lib.hid hkp
          have HHC := Lib.hid hcapS
          clear hsv hsp HBAD HSTEP HEX hcapS hkk hkp
          have hpost : ∀ w8, Fresh wr w8 → ∀ A' c' w3, OwnK w3 (w.heap.size + 1) tSpan 2 A' (ls + 1) c' spv (done ++ [(a, b)]) → ((w8.alloc (.cells #[r32 a, r32 b] tSpan)).alloc (.cells #[r32 a, r32 b] tSpan)).grownBy w3 (Value.slice AS ls cs).ownBlock →
              w3.cell? ⟨w.heap.size, 1, none⟩ = some (.slice AS ls cs) ∧ w3.frozen? ⟨w.heap.size, 1, none⟩ = false ∧ Bk (w3.setCell ⟨w.heap.size, 1, none⟩ (.slice A' (ls + 1) c')) w.heap.size tClass [.bool true, .slice A' (ls + 1) c'] ∧
              OwnK (w3.setCell ⟨w.heap.size, 1, none⟩ (.slice A' (ls + 1) c')) (w.heap.size + 1) tSpan 2 A' (ls + 1) c' spv (done ++ [(a, b)]) ∧ Fresh w (w3.setCell ⟨w.heap.size, 1, none⟩ (.slice A' (ls + 1) c')) := by
            intro w8 hf8 A' c' w3 ho3 hg3
            have ha : Fresh wr ((w8.alloc (.cells #[r32 a, r32 b] tSpan)).alloc (.cells #[r32 a, r32 b] tSpan)) := hf8.trans ((Fresh.alloc _ _).trans (Fresh.alloc _ _))
            have hbb := (HB.out.fresh ha).grown hg3 ((HOWN.out.fresh ha).ne (HB.out.fresh ha) (by decide))
            have hpp := hbb.put 1 (.slice A' (ls + 1) c')
            refine ⟨hbb.cell (i := 1) rfl, hbb.free 1, hpp, ho3.but (But.put _ _) (ho3.ne hbb (by decide)), ?_⟩
            exact Fresh.but (OwnK.append (HOWN.out.fresh ha) (HF.out.trans ha) (by omega) hg3) (Nat.le_refl _) (But.put _ _)
          have HPO := Lib.hid hpost
          clear hpost
          rcases (show ls = 0 ∨ (ls ≠ 0 ∧ beg (l.drop at_) 93 = false) by
            rcases hgo with h | h
            · exact Or.inl h
            · by_cases h0 : ls = 0
              · exact Or.inl h0
              · exact Or.inr ⟨h0, h⟩) with h1 | ⟨h1, h2⟩
          · subst h1
            clear hgo
            go_wp2_with (first
              | ((with_reducible refine at_slot_ 30 ?_); refine wpList_cut (by rfl) tRow 21 (.tmp 28) (.tmp 29) rfl Tryd.underlying61 runeSize A n c at_ B (rr l) rfl rfl HRD.out hat2 hc ?_; intro D8 hD; rw [rr_drop] at hD; have hbg := HSP.out D8 hD hbB (by omega) (by omega); have HBD8 := Lib.hid hbg; clear hD hbg)
              | (go_at_call 40; (with_reducible refine HBD8.out.mono ?_); rintro e w8 ⟨rfl, hf8⟩; have kk1 := ((HB.out.fresh hf8).alloc (.cells #[r32 a, r32 b] tSpan)).cell (i := 1) rfl; have HB8 := Lib.hid ((HB.out.fresh hf8).alloc (.cells #[r32 a, r32 b] tSpan)); have HS8 := Lib.hid (Bk.made w8 tSpan #[r32 a, r32 b]); have HF8 := Lib.hid hf8; clear hf8)
              | ((with_reducible refine at_slot_ 38 ?_); refine wpList_load_blk rfl tSpan (.tmp 6) rfl w8.heap.size 0 2 tSpan [r32 a, r32 b] rfl HS8.out (by simp) _ Tryd.underlying105 rfl (by kernel_rfl) ?_)
              | (at_builtin; refine wpList_append_cells _ rfl _ _ 101 rfl (w.heap.size + 1) tSpan i0 _ 2 8 Tryd.underlying101 hi0 hz0 hz1 hz2 rfl (by omega) spv AS 0 cs done rfl ((HOWN.out.fresh HF8.out).fresh ((Fresh.alloc _ _).trans (Fresh.alloc _ _))) (w8.heap.size + 1) (a, b) rfl (by have h := Bk.made (w8.alloc (.cells #[r32 a, r32 b] tSpan)) tSpan #[r32 a, r32 b]; simpa [spv] using h) rfl (by intro u hu; simp [spv] at hu; rcases hu with rfl | rfl <;> rfl) (by omega) (by omega) (by have := HF8.out.size; simp; omega) ?_; intro A9 c9 w9 ho9 hg9 _; have hpo := HPO.out _ HF8.out _ _ _ ho9 hg9; obtain ⟨d1, d2, d3, d4, d5⟩ := hpo; have HD3 := Lib.hid d3; have HD4 := Lib.hid d4; have HD5 := Lib.hid d5; clear d3 d4 d5 ho9 hg9))
            go_roundw
            case rel => exact ⟨at_ + k, 0 + 1, c9, A9, done ++ [(a, b)], by go_num, by omega, HKP.out, HD3.out, HD4.out, show _ = _ by rw [List.length_append, HDL.out]; rfl, by omega, HX.out, HD5.out⟩
            case measure => have := HKP.out; simp [intOf]; omega
          · have t1 : ((ls : Int) == 0) = false := by rw [beq_eq_false_iff_ne]; omega
            have HBG := Lib.hid h2
            clear h1 h2 hgo
            go_wp2_with (first
              | ((with_reducible refine at_slot_ 23 ?_); refine wpList_cut (by rfl) tRow 21 (.tmp 21) (.tmp 22) rfl Tryd.underlying61 runeSize A n c at_ B (rr l) rfl rfl HRD.out hat2 hc ?_; intro D9 hD; rw [rr_drop] at hD; have hbg := begins_any D9 (n - at_) (c - at_) B (l.drop at_) 93 93 rfl _ hD; rw [HBG.out] at hbg; have HBD9 := Lib.hid hbg; clear hD hbg)
              | (go_at_call 35; (with_reducible refine HBD9.out.mono ?_); rintro e w7 ⟨rfl, hw1⟩; replace hw1 := hw1.symm; subst hw1)
              | ((with_reducible refine at_slot_ 30 ?_); refine wpList_cut (by rfl) tRow 21 (.tmp 28) (.tmp 29) rfl Tryd.underlying61 runeSize A n c at_ B (rr l) rfl rfl HRD.out hat2 hc ?_; intro D8 hD; rw [rr_drop] at hD; have hbg := HSP.out D8 hD hbB (by omega) (by omega); have HBD8 := Lib.hid hbg; clear hD hbg)
              | (go_at_call 40; (with_reducible refine HBD8.out.mono ?_); rintro e w8 ⟨rfl, hf8⟩; have kk1 := ((HB.out.fresh hf8).alloc (.cells #[r32 a, r32 b] tSpan)).cell (i := 1) rfl; have HB8 := Lib.hid ((HB.out.fresh hf8).alloc (.cells #[r32 a, r32 b] tSpan)); have HS8 := Lib.hid (Bk.made w8 tSpan #[r32 a, r32 b]); have HF8 := Lib.hid hf8; clear hf8)
              | ((with_reducible refine at_slot_ 38 ?_); refine wpList_load_blk rfl tSpan (.tmp 6) rfl w8.heap.size 0 2 tSpan [r32 a, r32 b] rfl HS8.out (by simp) _ Tryd.underlying105 rfl (by kernel_rfl) ?_)
              | (at_builtin; refine wpList_append_cells _ rfl _ _ 101 rfl (w.heap.size + 1) tSpan i0 _ 2 8 Tryd.underlying101 hi0 hz0 hz1 hz2 rfl (by omega) spv AS ls cs done rfl ((HOWN.out.fresh HF8.out).fresh ((Fresh.alloc _ _).trans (Fresh.alloc _ _))) (w8.heap.size + 1) (a, b) rfl (by have h := Bk.made (w8.alloc (.cells #[r32 a, r32 b] tSpan)) tSpan #[r32 a, r32 b]; simpa [spv] using h) rfl (by intro u hu; simp [spv] at hu; rcases hu with rfl | rfl <;> rfl) (by omega) (by omega) (by have := HF8.out.size; simp; omega) ?_; intro A9 c9 w9 ho9 hg9 _; have hpo := HPO.out _ HF8.out _ _ _ ho9 hg9; obtain ⟨d1, d2, d3, d4, d5⟩ := hpo; have HD3 := Lib.hid d3; have HD4 := Lib.hid d4; have HD5 := Lib.hid d5; clear d3 d4 d5 ho9 hg9))
            go_roundw
            case rel => exact ⟨at_ + k, ls + 1, c9, A9, done ++ [(a, b)], by go_num, by omega, HKP.out, HD3.out, HD4.out, show _ = _ by rw [List.length_append, HDL.out]; rfl, by omega, HX.out, HD5.out⟩
            case measure => have := HKP.out; simp [intOf]; omega
  | false =>
    obtain rfl : K = 1 := hKe
    go_enter Tryd.func36, Tryd.ntmps36
    go_wp2_with (first
      | ((with_reducible refine at_slot_ 9 ?_); refine wpList_cut (by rfl) tRow 21 (.tmp 8) (.const (.int .i64 1)) rfl Tryd.underlying61 runeSize A n c 1 B (rr l) rfl rfl HR.out h0 hc ?_; intro D hD; rw [rr_drop] at hD; have hbg := begins_any D (n - 1) (c - 1) B (l.drop 1) 33 33 rfl _ hD; rw [HNT.out] at hbg; have HBD := Lib.hid hbg; clear hD hbg)
      | (go_at_call 35; (with_reducible refine HBD.out.mono ?_); rintro e w1 ⟨rfl, hw1⟩; replace hw1 := hw1.symm; subst hw1))
    go_loopw [5] (fun v wr => ∃ (at_ ls cs : Nat) (AS : Option Addr) (done : List (Nat × Nat)), v = .int .i64 (at_ : Nat) ∧ 1 ≤ at_ ∧ at_ ≤ n ∧ Bk wr w.heap.size tClass [.bool false, .slice AS ls cs] ∧ OwnK wr (w.heap.size + 1) tSpan 2 AS ls cs spv done ∧ Hid (done.length = ls) ∧ ls ≤ at_ ∧
      Hid (cl true (l.drop 1) = (cl (decide (done = [])) (l.drop at_)).map fun q => (done ++ q.1, at_ - 1 + q.2)) ∧ Fresh w wr) (fun v _ => n - (intOf v).toNat)
    case atStart => exact HST.out _ rfl
    case round =>
      obtain ⟨at_, ls, cs, AS, done, rfl, hat1, hat2, hb, hown, hdl, hls, hcl, hfr⟩ := hrel
      clear HB1 HF1 c0 HST
      have k0 := hb.cell (i := 0) rfl
      have k1 := hb.cell (i := 1) rfl
      have hsz := hb.inside
      have hrd := HR.out.below hfr hB
      have HRD := Lib.hid hrd
      have hspan := fun D => spanOf_any D (n - at_) (c - at_) B (l.drop at_) wr
      have hbB : B ≤ wr.heap.size := by omega
      have HSP := Lib.hid hspan
      have HOWN := Lib.hid hown
      have HB := Lib.hid hb
      have HF := Lib.hid hfr
      clear hrd hspan hown hb hfr
      have hexit : ls ≠ 0 → beg (l.drop at_) 93 = true → clsP l = some (.cls false done, at_ + 1) := fun h1 h2 => by
        have hd : decide (done = []) = false := by
          rw [decide_eq_false_iff_not]
          rintro rfl
          exact h1 hdl.out.symm
        have h3 := cls_at 1 hcl.out hat1 (r := some ([], 1)) (by rw [hd, cl_end h2])
        rw [HCLS.out, h3]
        simp
        omega
      have hbad : (ls = 0 ∨ beg (l.drop at_) 93 = false) → spanP (l.drop at_) = none → clsP l = none := fun h1 h2 => by
        have h3 := cls_at 1 hcl.out hat1 (r := none) (cl_bad (fun h => by
          rcases h1 with h1 | h1
          · rw [decide_eq_false_iff_not] at h
            exact h.1 (List.eq_nil_of_length_eq_zero (by rw [hdl.out]; exact h1))
          · rw [h1] at h; cases h.2) h2)
        rw [HCLS.out, h3]
        rfl
      have hstep : ∀ s k, (ls = 0 ∨ beg (l.drop at_) 93 = false) → spanP (l.drop at_) = some (s, k) → cl true (l.drop 1) = (cl (decide (done ++ [s] = [])) (l.drop (at_ + k))).map fun q => ((done ++ [s]) ++ q.1, (at_ + k) - 1 + q.2) := fun s k h1 h2 => by
        have h3 := cls_at 1 hcl.out hat1 (cl_step (fun h => by
          rcases h1 with h1 | h1
          · rw [decide_eq_false_iff_not] at h
            exact h.1 (List.eq_nil_of_length_eq_zero (by rw [hdl.out]; exact h1))
          · rw [h1] at h; cases h.2) h2)
        rw [h3, List.drop_drop, decide_eq_false (by simp), Option.map_map]
        congr 1
        funext q
        simp
        omega
      have HEX := Lib.hid hexit
      have HBAD := Lib.hid hbad
      have HSTEP := Lib.hid hstep
      have HDL := Lib.hid hdl.out
      clear hexit hbad hstep hcl hdl
      have hgo : (ls ≠ 0 ∧ beg (l.drop at_) 93 = true) ∨ (ls = 0 ∨ beg (l.drop at_) 93 = false) := by
        by_cases h1 : ls = 0
        · exact Or.inr (Or.inl h1)
        · cases h2 : beg (l.drop at_) 93 with
          | true => exact Or.inl ⟨h1, rfl⟩
          | false => exact Or.inr (Or.inr rfl)
      have hcapS := HOWN.out.cap
      have hrt := RdT.of_own HOWN.out spv_len
      have HRT := Lib.hid hrt
      clear hrt
      rcases hgo with ⟨h1, h2⟩ | hgo
      · have t1 : ((ls : Int) == 0) = false := by rw [beq_eq_false_iff_ne]; omega
        have HEXX := Lib.hid (HEX.out h1 h2)
        have HBG := Lib.hid h2
        have hfin : PrtIs (clsP l) w (.returned (.tuple #[.iface tClass (.agg #[.bool false, .slice AS ls cs]), .int .i64 ((at_ + 1 : Nat) : Int)])) wr := prtIs_some HEXX.out ⟨AS, cs, by rw [HDL.out], by rw [HDL.out]; exact hcapS.1, hcapS.2, HRT.out⟩ HF.out
        have HFIN := Lib.hid hfin
        have ea : IntKind.i64.wrap ((at_ : Int) + 1) = ((at_ + 1 : Nat) : Int) := by rw [IntWalk.i64_in _ (by omega)]; omega
        clear h1 h2 hfin hcapS
        go_wp2_with (first
          | ((with_reducible refine at_slot_ 23 ?_); refine wpList_cut (by rfl) tRow 21 (.tmp 21) (.tmp 22) rfl Tryd.underlying61 runeSize A n c at_ B (rr l) rfl rfl HRD.out hat2 hc ?_; intro D9 hD; rw [rr_drop] at hD; have hbg := begins_any D9 (n - at_) (c - at_) B (l.drop at_) 93 93 rfl _ hD; rw [HBG.out] at hbg; have HBD9 := Lib.hid hbg; clear hD hbg)
          | (go_at_call 35; (with_reducible refine HBD9.out.mono ?_); rintro e w8 ⟨rfl, hw1⟩; replace hw1 := hw1.symm; subst hw1)
          | ((with_reducible refine at_slot_ 45 ?_); refine wpList_load_blk rfl tClass (.tmp 4) rfl w.heap.size 0 2 tClass [.bool false, .slice AS ls cs] rfl HB.out (by simp) _ Tryd.underlying103 rfl (by kernel_rfl) ?_))
        go_ret2
        exact HFIN.out
      · have hstop : ∀ b, (ls = 0 → b = true) → True := fun _ _ => trivial
        clear hstop
        cases hsp : spanP (l.drop at_) with
        | none =>
          have hsv : spanV (l.drop at_) = .tuple #[.agg #[.int .i32 0, .int .i32 0], .int .i64 0] := by rw [spanV, hsp]
          have HX := Lib.hid (HBAD.out hgo hsp)
          rw [hsv] at HSP
          clear hsv hsp HBAD HSTEP HEX hcapS
          rcases hgo with h1 | h1
          · subst h1
            go_wp2_with (first
              | ((with_reducible refine at_slot_ 30 ?_); refine wpList_cut (by rfl) tRow 21 (.tmp 28) (.tmp 29) rfl Tryd.underlying61 runeSize A n c at_ B (rr l) rfl rfl HRD.out hat2 hc ?_; intro D8 hD; rw [rr_drop] at hD; have hbg := HSP.out D8 hD hbB (by omega) (by omega); have HBD8 := Lib.hid hbg; clear hD hbg)
              | (go_at_call 40; (with_reducible refine HBD8.out.mono ?_); rintro e w8 ⟨rfl, hf8⟩))
            go_ret2
            exact prtIs_none HX.out (HF.out.trans (hf8.trans (Fresh.alloc _ _)))
          · have t1 : ((ls : Int) == 0) = decide (ls = 0) := by
              by_cases h : ls = 0
              · subst h; rfl
              · rw [decide_eq_false h, beq_eq_false_iff_ne]; omega
            have HBG := Lib.hid h1
            clear h1
            by_cases h0 : ls = 0
            · subst h0
              go_wp2_with (first
                | ((with_reducible refine at_slot_ 30 ?_); refine wpList_cut (by rfl) tRow 21 (.tmp 28) (.tmp 29) rfl Tryd.underlying61 runeSize A n c at_ B (rr l) rfl rfl HRD.out hat2 hc ?_; intro D8 hD; rw [rr_drop] at hD; have hbg := HSP.out D8 hD hbB (by omega) (by omega); have HBD8 := Lib.hid hbg; clear hD hbg)
                | (go_at_call 40; (with_reducible refine HBD8.out.mono ?_); rintro e w8 ⟨rfl, hf8⟩))
              go_ret2
              exact prtIs_none HX.out (HF.out.trans (hf8.trans (Fresh.alloc _ _)))
            · rw [decide_eq_false h0] at t1
              clear h0
              go_wp2_with (first
                | ((with_reducible refine at_slot_ 23 ?_); refine wpList_cut (by rfl) tRow 21 (.tmp 21) (.tmp 22) rfl Tryd.underlying61 runeSize A n c at_ B (rr l) rfl rfl HRD.out hat2 hc ?_; intro D9 hD; rw [rr_drop] at hD; have hbg := begins_any D9 (n - at_) (c - at_) B (l.drop at_) 93 93 rfl _ hD; rw [HBG.out] at hbg; have HBD9 := Lib.hid hbg; clear hD hbg)
                | (go_at_call 35; (with_reducible refine HBD9.out.mono ?_); rintro e w8 ⟨rfl, hw1⟩; replace hw1 := hw1.symm; subst hw1)
                | ((with_reducible refine at_slot_ 30 ?_); refine wpList_cut (by rfl) tRow 21 (.tmp 28) (.tmp 29) rfl Tryd.underlying61 runeSize A n c at_ B (rr l) rfl rfl HRD.out hat2 hc ?_; intro D8 hD; rw [rr_drop] at hD; have hbg := HSP.out D8 hD hbB (by omega) (by omega); have HBD8 := Lib.hid hbg; clear hD hbg)
                | (go_at_call 40; (with_reducible refine HBD8.out.mono ?_); rintro e w8 ⟨rfl, hf8⟩))
              go_ret2
              exact prtIs_none HX.out (HF.out.trans (hf8.trans (Fresh.alloc _ _)))
        | some q =>
          obtain ⟨⟨a, b⟩, k⟩ := q
          have hsv : spanV (l.drop at_) = .tuple #[.agg #[r32 a, r32 b], .int .i64 (k : Nat)] := by rw [spanV, hsp]
          have hkk := spanP_le hsp
          rw [List.length_drop, HL.out] at hkk
          have hk1 := hkk.1
          have hk2 := hkk.2
          have HX := Lib.hid (HSTEP.out _ _ hgo hsp)
          rw [hsv] at HSP
          have t5 : ((k : Int) == 0) = false := by rw [beq_eq_false_iff_ne]; omega
          have ea : IntKind.i64.wrap ((at_ : Int) + (k : Int)) = ((at_ + k : Nat) : Int) := by rw [IntWalk.i64_in _ (by omega)]; omega
          have hkp : at_ + k ≤ n := by omega
          have HKP := Lib.hid hkp
          have HHC := Lib.hid hcapS
          clear hsv hsp HBAD HSTEP HEX hcapS hkk hkp
          have hpost : ∀ w8, Fresh wr w8 → ∀ A' c' w3, OwnK w3 (w.heap.size + 1) tSpan 2 A' (ls + 1) c' spv (done ++ [(a, b)]) → ((w8.alloc (.cells #[r32 a, r32 b] tSpan)).alloc (.cells #[r32 a, r32 b] tSpan)).grownBy w3 (Value.slice AS ls cs).ownBlock →
              w3.cell? ⟨w.heap.size, 1, none⟩ = some (.slice AS ls cs) ∧ w3.frozen? ⟨w.heap.size, 1, none⟩ = false ∧ Bk (w3.setCell ⟨w.heap.size, 1, none⟩ (.slice A' (ls + 1) c')) w.heap.size tClass [.bool false, .slice A' (ls + 1) c'] ∧
              OwnK (w3.setCell ⟨w.heap.size, 1, none⟩ (.slice A' (ls + 1) c')) (w.heap.size + 1) tSpan 2 A' (ls + 1) c' spv (done ++ [(a, b)]) ∧ Fresh w (w3.setCell ⟨w.heap.size, 1, none⟩ (.slice A' (ls + 1) c')) := by
            intro w8 hf8 A' c' w3 ho3 hg3
            have ha : Fresh wr ((w8.alloc (.cells #[r32 a, r32 b] tSpan)).alloc (.cells #[r32 a, r32 b] tSpan)) := hf8.trans ((Fresh.alloc _ _).trans (Fresh.alloc _ _))
            have hbb := (HB.out.fresh ha).grown hg3 ((HOWN.out.fresh ha).ne (HB.out.fresh ha) (by decide))
            have hpp := hbb.put 1 (.slice A' (ls + 1) c')
            refine ⟨hbb.cell (i := 1) rfl, hbb.free 1, hpp, ho3.but (But.put _ _) (ho3.ne hbb (by decide)), ?_⟩
            exact Fresh.but (OwnK.append (HOWN.out.fresh ha) (HF.out.trans ha) (by omega) hg3) (Nat.le_refl _) (But.put _ _)
          have HPO := Lib.hid hpost
          clear hpost
          rcases (show ls = 0 ∨ (ls ≠ 0 ∧ beg (l.drop at_) 93 = false) by
            rcases hgo with h | h
            · exact Or.inl h
            · by_cases h0 : ls = 0
              · exact Or.inl h0
              · exact Or.inr ⟨h0, h⟩) with h1 | ⟨h1, h2⟩
          · subst h1
            clear hgo
            go_wp2_with (first
              | ((with_reducible refine at_slot_ 30 ?_); refine wpList_cut (by rfl) tRow 21 (.tmp 28) (.tmp 29) rfl Tryd.underlying61 runeSize A n c at_ B (rr l) rfl rfl HRD.out hat2 hc ?_; intro D8 hD; rw [rr_drop] at hD; have hbg := HSP.out D8 hD hbB (by omega) (by omega); have HBD8 := Lib.hid hbg; clear hD hbg)
              | (go_at_call 40; (with_reducible refine HBD8.out.mono ?_); rintro e w8 ⟨rfl, hf8⟩; have kk1 := ((HB.out.fresh hf8).alloc (.cells #[r32 a, r32 b] tSpan)).cell (i := 1) rfl; have HB8 := Lib.hid ((HB.out.fresh hf8).alloc (.cells #[r32 a, r32 b] tSpan)); have HS8 := Lib.hid (Bk.made w8 tSpan #[r32 a, r32 b]); have HF8 := Lib.hid hf8; clear hf8)
              | ((with_reducible refine at_slot_ 38 ?_); refine wpList_load_blk rfl tSpan (.tmp 6) rfl w8.heap.size 0 2 tSpan [r32 a, r32 b] rfl HS8.out (by simp) _ Tryd.underlying105 rfl (by kernel_rfl) ?_)
              | (at_builtin; refine wpList_append_cells _ rfl _ _ 101 rfl (w.heap.size + 1) tSpan i0 _ 2 8 Tryd.underlying101 hi0 hz0 hz1 hz2 rfl (by omega) spv AS 0 cs done rfl ((HOWN.out.fresh HF8.out).fresh ((Fresh.alloc _ _).trans (Fresh.alloc _ _))) (w8.heap.size + 1) (a, b) rfl (by have h := Bk.made (w8.alloc (.cells #[r32 a, r32 b] tSpan)) tSpan #[r32 a, r32 b]; simpa [spv] using h) rfl (by intro u hu; simp [spv] at hu; rcases hu with rfl | rfl <;> rfl) (by omega) (by omega) (by have := HF8.out.size; simp; omega) ?_; intro A9 c9 w9 ho9 hg9 _; have hpo := HPO.out _ HF8.out _ _ _ ho9 hg9; obtain ⟨d1, d2, d3, d4, d5⟩ := hpo; have HD3 := Lib.hid d3; have HD4 := Lib.hid d4; have HD5 := Lib.hid d5; clear d3 d4 d5 ho9 hg9))
            go_roundw
            case rel => exact ⟨at_ + k, 0 + 1, c9, A9, done ++ [(a, b)], by go_num, by omega, HKP.out, HD3.out, HD4.out, show _ = _ by rw [List.length_append, HDL.out]; rfl, by omega, HX.out, HD5.out⟩
            case measure => have := HKP.out; simp [intOf]; omega
          · have t1 : ((ls : Int) == 0) = false := by rw [beq_eq_false_iff_ne]; omega
            have HBG := Lib.hid h2
            clear h1 h2 hgo
            go_wp2_with (first
              | ((with_reducible refine at_slot_ 23 ?_); refine wpList_cut (by rfl) tRow 21 (.tmp 21) (.tmp 22) rfl Tryd.underlying61 runeSize A n c at_ B (rr l) rfl rfl HRD.out hat2 hc ?_; intro D9 hD; rw [rr_drop] at hD; have hbg := begins_any D9 (n - at_) (c - at_) B (l.drop at_) 93 93 rfl _ hD; rw [HBG.out] at hbg; have HBD9 := Lib.hid hbg; clear hD hbg)
              | (go_at_call 35; (with_reducible refine HBD9.out.mono ?_); rintro e w7 ⟨rfl, hw1⟩; replace hw1 := hw1.symm; subst hw1)
              | ((with_reducible refine at_slot_ 30 ?_); refine wpList_cut (by rfl) tRow 21 (.tmp 28) (.tmp 29) rfl Tryd.underlying61 runeSize A n c at_ B (rr l) rfl rfl HRD.out hat2 hc ?_; intro D8 hD; rw [rr_drop] at hD; have hbg := HSP.out D8 hD hbB (by omega) (by omega); have HBD8 := Lib.hid hbg; clear hD hbg)
              | (go_at_call 40; (with_reducible refine HBD8.out.mono ?_); rintro e w8 ⟨rfl, hf8⟩; have kk1 := ((HB.out.fresh hf8).alloc (.cells #[r32 a, r32 b] tSpan)).cell (i := 1) rfl; have HB8 := Lib.hid ((HB.out.fresh hf8).alloc (.cells #[r32 a, r32 b] tSpan)); have HS8 := Lib.hid (Bk.made w8 tSpan #[r32 a, r32 b]); have HF8 := Lib.hid hf8; clear hf8)
              | ((with_reducible refine at_slot_ 38 ?_); refine wpList_load_blk rfl tSpan (.tmp 6) rfl w8.heap.size 0 2 tSpan [r32 a, r32 b] rfl HS8.out (by simp) _ Tryd.underlying105 rfl (by kernel_rfl) ?_)
              | (at_builtin; refine wpList_append_cells _ rfl _ _ 101 rfl (w.heap.size + 1) tSpan i0 _ 2 8 Tryd.underlying101 hi0 hz0 hz1 hz2 rfl (by omega) spv AS ls cs done rfl ((HOWN.out.fresh HF8.out).fresh ((Fresh.alloc _ _).trans (Fresh.alloc _ _))) (w8.heap.size + 1) (a, b) rfl (by have h := Bk.made (w8.alloc (.cells #[r32 a, r32 b] tSpan)) tSpan #[r32 a, r32 b]; simpa [spv] using h) rfl (by intro u hu; simp [spv] at hu; rcases hu with rfl | rfl <;> rfl) (by omega) (by omega) (by have := HF8.out.size; simp; omega) ?_; intro A9 c9 w9 ho9 hg9 _; have hpo := HPO.out _ HF8.out _ _ _ ho9 hg9; obtain ⟨d1, d2, d3, d4, d5⟩ := hpo; have HD3 := Lib.hid d3; have HD4 := Lib.hid d4; have HD5 := Lib.hid d5; clear d3 d4 d5 ho9 hg9))
            go_roundw
            case rel => exact ⟨at_ + k, ls + 1, c9, A9, done ++ [(a, b)], by go_num, by omega, HKP.out, HD3.out, HD4.out, show _ = _ by rw [List.length_append, HDL.out]; rfl, by omega, HX.out, HD5.out⟩
            case measure => have := HKP.out; simp [intOf]; omega
end Go.Proofs.YtkkkjadfhimahaaDoor.glbp
