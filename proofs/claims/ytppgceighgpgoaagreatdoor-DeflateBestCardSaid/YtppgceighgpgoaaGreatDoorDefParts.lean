import Derived.Test.YtppgceighgpgoaaGreatDoorMgDfC
import Derived.Deep.Cut
/-
  partsOf. My own text.
-/
namespace Go.Proofs.YtppgceighgpgoaaGreatDoor.defp
open Go.RowKit Go.Maps Go.Proofs.YtppgceighgpgoaaGreatDoor.base Go.Proofs.YtppgceighgpgoaaGreatDoor.num Go.Proofs.YtppgceighgpgoaaGreatDoor.bitnum Go.Proofs.YtppgceighgpgoaaGreatDoor.bitp Go.Proofs.YtppgceighgpgoaaGreatDoor.huffnum Go.Proofs.YtppgceighgpgoaaGreatDoor.huffp
set_option linter.unusedVariables false
theorem cut_from {ls : List Nat} {w : World} {B n i b off : Nat} (h : Rd w B (some ⟨b, off, none⟩) n (nv ls)) (hi : i < n) : Rd w B (some ⟨b, off + i, none⟩) (n - i) (nv (ls.drop i)) := by
  obtain ⟨h1, h2⟩ := h
  refine ⟨by rw [List.length_map, List.length_drop]; rw [List.length_map] at h1; omega, fun _ => ?_⟩
  obtain ⟨b', off', e, hb, hc⟩ := h2 (by omega)
  injection e with e
  injection e with e1 e2 _
  subst e1; subst e2
  refine ⟨b, off + i, rfl, hb, fun j u hu => ?_⟩
  rw [Nat.add_assoc]
  refine hc (i + j) u ?_
  simpa [nv, List.getElem?_map, List.getElem?_drop] using hu
theorem drop_getD (ls : List Nat) (i j : Nat) : (ls.drop i).getD j 0 = ls.getD (i + j) 0 := by
  rw [List.getD_eq_getElem?_getD, List.getElem?_drop, List.getD_eq_getElem?_getD]
theorem again_lit (v s : Nat) (hv : v ≤ 15) (hs : 1 ≤ s ∧ s ≤ 1000) (p1 p2 p3 q : Nat) (h : againP v s = ((p1, p2, p3), q)) (w : World) :
    Calls Tryz.prog 72 #[.int .i64 v, .int .i64 s] w fun e w' => e = .returned (.tuple #[.agg #[.int .i64 p1, .int .i64 p2, .int .i64 p3], .int .i64 q]) ∧ Fresh w w' := by
  have := again_any v s hv hs w
  rw [h] at this
  exact this
set_option maxRecDepth 100000 in
set_option maxHeartbeats 8000000 in
theorem partsOf_any (A : Option Addr) (n c B : Nat) (ls : List Nat) (w : World) (hr : Rd w B A n (nv ls)) (hB : B ≤ w.heap.size) (hn2 : n ≤ 1000) (hc : n ≤ c) (hcm : c ≤ maxLen) (h15 : ∀ x ∈ ls, x ≤ 15) :
    Calls Tryz.prog 51 #[.slice A n c] w fun e w' => ∃ (A' : Option Addr) (c' : Nat) (ps : List Pt), e = .returned (.slice A' ps.length c') ∧ Pa ls n ps ∧ Own3 w' w.heap.size A' ps.length c' ps ∧ Fresh w w' ∧ Cost ls n ps ∧ Pd ls n n ps := by
  have hl : ls.length = n := by have := hr.1; rwa [List.length_map] at this
  have HR := Lib.hid hr
  have HL := Lib.hid hl
  have H15 := Lib.hid h15
  have HCM := Lib.hid hcm
  clear hr hl h15 hcm
  go_enter Tryz.func51, Tryz.ntmps51
  go_wp2
  go_loopw [3, 4] (fun vp vi wr => ∃ (i m c' : Nat) (A' : Option Addr) (ps : List Pt), vi = .int .i64 i ∧ vp = .slice A' m c' ∧ i ≤ n ∧ m ≤ i ∧ Hid (Pa ls i ps) ∧ Hid (Pd ls n i ps) ∧ Hid (Cost ls i ps) ∧ Hid (Own3 wr w.heap.size A' m c' ps) ∧ Hid (Fresh w wr)) (fun _ vi _ => n - (intOf vi).toNat)
  case atStart => exact ⟨0, 0, 0, none, [], rfl, rfl, Nat.zero_le _, Nat.le_refl _, Lib.hid Pa.nil, Lib.hid Pd.nil, Lib.hid (Cost.nil ls), Lib.hid (Own3.nil _ _), Lib.hid (Fresh.refl _)⟩
  case round =>
    rename World => wo
    obtain ⟨i, m, c', A', ps, rfl, rfl, hi, hm, HP, HPD, HCO, HO, HF⟩ := hrel
    by_cases hlt : i < n
    · have hil : (i : Int) < (n : Int) := by omega
      have hic : (i : Int) ≤ (c : Int) := by omega
      obtain ⟨b, off, rfl, hb, ka⟩ := nat_at (HR.out.keep (w' := wo) fun k hk => HF.out.block k (by omega)) hlt
      have hcut := alike_any (some ⟨b, off + i, none⟩) (n - i) (c - i) B (ls.drop i) wo (cut_from (HR.out.keep fun k hk => HF.out.block k (by omega)) hlt) (by have := HF.out.size; omega) (by omega) (by omega)
      have hbs : b < w.heap.size := by omega
      have HCUT := Lib.hid hcut
      clear hcut ka
      go_upto_region 5 with (go_at_call 71; (refine HCUT.out.mono ?_); rintro e w2 ⟨k, rfl, hk1, hk2, hk3, hk4, hf2⟩; have HK3 := Lib.hid hk3; have HK4 := Lib.hid hk4; have HF2 := Lib.hid (HF.out.trans hf2); have HO2 := Lib.hid (Own3.fresh HO.out hf2); clear hk3 hk4 hf2)
      obtain ⟨v, hv⟩ : ∃ v, ls.getD i 0 = v := ⟨_, rfl⟩
      have hsame : ∀ t, i ≤ t → t < i + k → ls.getD t 0 = v := fun t h1 h2 => by
        have h := HK3.out (t - i) (by omega)
        rw [drop_getD, drop_getD, Nat.add_zero, hv, show i + (t - i) = t by omega] at h
        exact h
      have hall : ∀ W, Fresh w W → ∀ t, i ≤ t → t < i + k → W.cell? ⟨b, off + t, none⟩ = some (.int .i64 (v : Nat)) := fun W hW t h1 h2 => by
        obtain ⟨b', off', e', hb', kb⟩ := nat_at (HR.out.keep (w' := W) fun k hk => hW.block k (by omega)) (j := t) (by omega)
        injection e' with e'
        injection e' with e1 e2 _
        subst e1; subst e2
        rw [hsame t h1 h2] at kb
        exact kb
      have hv15 : v ≤ 15 := by
        rw [← hv, List.getD_eq_getElem?_getD, List.getElem?_eq_getElem (by have := HL.out; omega)]
        exact H15.out _ (List.getElem_mem _)
      have ka := hall w2 HF2.out i (Nat.le_refl _) (by omega)
      have HSAME := Lib.hid hsame
      have HALL := Lib.hid hall
      have HV15 := Lib.hid hv15
      have HVE := Lib.hid hv
      clear hsame hall hv15 hv
      by_cases hv0 : 0 < v
      · have hvi : (0 : Int) < (v : Int) := by omega
        have hone : Pa ls (i + 1) (ps ++ [(v, 0, 0)]) := by
          have h := Pa.one HP.out (by have := HL.out; omega)
          rw [HVE.out] at h
          exact h
        have HONE := Lib.hid hone
        clear hone
        go_wp2_with (at_builtin; refine wpList_append_part _ rfl (.tmp 21) (.tmp 27) rfl w.heap.size A' m c' ps rfl (Own3.fresh HO2.out (Fresh.alloc _ _)) w2.heap.size (v, 0, 0) rfl (Bk.made w2 tPart #[.int .i64 (v : Nat), .int .i64 0, .int .i64 0]) (by omega) (by have := HF2.out.size; simp; omega) ?_; intro A3 c3 w3 ho3 hg3; have HO3 := Lib.hid ho3; have HF3 := Lib.hid (Own3.append (Own3.fresh HO2.out (Fresh.alloc _ _)) (HF2.out.trans (Fresh.alloc _ _)) (Nat.le_refl _) hg3); clear ho3 hg3)
        go_loopw [3, 4, 5] (fun vp vi vs wr => ∃ (j m' c2 s : Nat) (A2 : Option Addr) (ps' : List Pt), vi = .int .i64 j ∧ vp = .slice A2 m' c2 ∧ vs = .int .i64 s ∧ j + s = i + k ∧ m' ≤ j ∧ Hid (v = 0 ∨ i < j) ∧ i ≤ j ∧ Hid (RnFrom v s (ps ++ [(v, 0, 0)]) (k - 1) ps') ∧ Hid (cost ps' + phi v s ≤ cost ps + phi v k) ∧ Hid (Pa ls j ps') ∧ Hid (Own3 wr w.heap.size A2 m' c2 ps') ∧ Hid (Fresh w wr)) (fun _ _ vs _ => (intOf vs).toNat)
        case atStart => exact ⟨i + 1, m + 1, c3, k - 1, A3, ps ++ [(v, 0, 0)], rfl, rfl, by congr 1; omega, by omega, by omega, Lib.hid (.inr (by omega)), by omega, Lib.hid (RnFrom.start _ _ _), Lib.hid (by rw [cost_snoc]; unfold phi; rw [if_pos hv0, if_pos hv0]; show _ + (7 + 0) + _ ≤ _; omega), HONE, HO3, HF3⟩
        case round =>
          obtain ⟨j, m', c2, s, A2, ps', rfl, rfl, rfl, hjs, hmj, HVI, hij, HRN, HCJ, HPJ, HOJ, HFJ⟩ := hrel
          by_cases hs0 : 0 < s
          · have hsl : (0 : Int) < (s : Int) := by omega
            have hjn : (j : Int) < (n : Int) := by omega
            have kj : wr.cell? ⟨b, off + j, none⟩ = some (.int .i64 (v : Nat)) := HALL.out wr HFJ.out j hij (by omega)
            obtain ⟨⟨⟨p1, p2, p3⟩, q⟩, hpq⟩ : ∃ x, againP v s = x := ⟨_, rfl⟩
            have hpa := Pa_again HPJ.out hs0 (by have := HL.out; omega) (fun t ht => HSAME.out (j + t) (by omega) (by omega)) (HVI.out.imp id fun h => ⟨by omega, HSAME.out (j - 1) (by omega) (by omega)⟩)
            have hpc := phi_again v s hs0
            rw [hpq] at hpa hpc
            have hcj2 : cost (ps' ++ [(p1, p2, p3)]) + phi v (s - q) ≤ cost ps + phi v k := by
              rw [cost_snoc]
              have h := HCJ.out
              simp only at hpc ⊢
              omega
            have HCJ2 := Lib.hid hcj2
            have hrs := RnFrom.step HRN.out hs0
            rw [hpq] at hrs
            have HRS := Lib.hid hrs
            clear hpc hcj2 hrs
            obtain ⟨hp1, hp2, hp3⟩ := hpa
            simp only at hp1 hp2 hp3
            have hag := again_lit v s HV15.out (by omega) p1 p2 p3 q hpq
            have HAG := Lib.hid hag
            have HP1 := Lib.hid hp1
            have q1 : (q : Int) ≤ (s : Int) := by omega
            clear hag hp1 hpq
            go_wp2_with (first
              | (go_at_call 72; (with_reducible refine (HAG.out _).mono ?_); rintro e w3 ⟨rfl, hf3⟩; have HF3 := Lib.hid (HFJ.out.trans hf3); have HO3 := Lib.hid (Own3.fresh HOJ.out hf3); have hbk := Bk.made (w3.alloc (.cells #[.int .i64 (p1 : Nat), .int .i64 (p2 : Nat), .int .i64 (p3 : Nat)] tPart)) tPart #[.int .i64 (p1 : Nat), .int .i64 (p2 : Nat), .int .i64 (p3 : Nat)]; rw [show (w3.alloc (.cells #[.int .i64 (p1 : Nat), .int .i64 (p2 : Nat), .int .i64 (p3 : Nat)] tPart)).heap.size = w3.heap.size + 1 from by simp] at hbk; have HBK := Lib.hid hbk; clear hf3 hbk)
              | (at_builtin; refine wpList_append_part _ rfl (.tmp 44) (.tmp 46) rfl w.heap.size A2 m' c2 ps' rfl (Own3.fresh (Own3.fresh HO3.out (Fresh.alloc _ _)) (Fresh.alloc _ _)) (w3.heap.size + 1) (p1, p2, p3) rfl HBK.out (by omega) (by have := HF3.out.size; simp; omega) ?_; intro A4 c4 w4 ho4 hg4; have HO4 := Lib.hid ho4; have HF4 := Lib.hid (Own3.append (Own3.fresh (Own3.fresh HO3.out (Fresh.alloc _ _)) (Fresh.alloc _ _)) ((HF3.out.trans (Fresh.alloc _ _)).trans (Fresh.alloc _ _)) (Nat.le_refl _) hg4); clear ho4 hg4))
            refine ⟨⟨j + q, m' + 1, c4, s - q, A4, ps' ++ [(p1, p2, p3)], rfl, rfl, by congr 1; omega, by omega, by omega, Lib.hid (.inr (by omega)), by omega, HRS, HCJ2, HP1, HO4, HF4⟩, ?_⟩
            show ((s : Int) - (q : Int)).toNat < ((s : Int)).toNat
            omega
          · have hs1 : s = 0 := by omega
            subst hs1
            go_wp2
            refine ⟨⟨j, m', c2, A2, ps', rfl, rfl, by omega, hmj, HPJ, Lib.hid (by
              have hji : j = i + k := by omega
              rw [hji]
              exact Pd.pos HPD.out hk1 (by omega) HSAME.out (fun h1 h2 => by
                have h3 := HK4.out (by have := HL.out; omega)
                rw [drop_getD, drop_getD, Nat.add_zero, HVE.out] at h3
                exact h3 h2) hv0 HRN.out), Lib.hid (by
              have hji : j = i + k := by omega
              rw [hji]
              refine Cost.run HCO.out hk1 (by have := HL.out; omega) HSAME.out (fun h1 h2 => ?_) ?_
              · have h3 := HK4.out (by have := HL.out; omega)
                rw [drop_getD, drop_getD, Nat.add_zero, HVE.out] at h3
                exact h3 h2
              · have h := HCJ.out
                have h0 : phi v 0 = 0 := by unfold phi phi0; split <;> rfl
                rw [h0] at h
                exact h), HOJ, HFJ⟩, ?_⟩
            show n - ((j : Int)).toNat < n - ((i : Int)).toNat
            omega
      · have hv1 : v = 0 := by omega
        have hvi : ¬ (0 : Int) < (v : Int) := by omega
        have HV1 := Lib.hid hv1
        clear hv1 hv0
        go_wp2
        go_loopw [3, 4, 5] (fun vp vi vs wr => ∃ (j m' c2 s : Nat) (A2 : Option Addr) (ps' : List Pt), vi = .int .i64 j ∧ vp = .slice A2 m' c2 ∧ vs = .int .i64 s ∧ j + s = i + k ∧ m' ≤ j ∧ Hid (v = 0 ∨ i < j) ∧ i ≤ j ∧ Hid (RnFrom v s ps k ps') ∧ Hid (cost ps' + phi v s ≤ cost ps + phi v k) ∧ Hid (Pa ls j ps') ∧ Hid (Own3 wr w.heap.size A2 m' c2 ps') ∧ Hid (Fresh w wr)) (fun _ _ vs _ => (intOf vs).toNat)
        case atStart => exact ⟨i, m, c', k, A', ps, rfl, rfl, rfl, by omega, hm, Lib.hid (.inl HV1.out), Nat.le_refl _, Lib.hid (RnFrom.start _ _ _), Lib.hid (Nat.le_refl _), HP, HO2, HF2⟩
        case round =>
          obtain ⟨j, m', c2, s, A2, ps', rfl, rfl, rfl, hjs, hmj, HVI, hij, HRN, HCJ, HPJ, HOJ, HFJ⟩ := hrel
          by_cases hs0 : 0 < s
          · have hsl : (0 : Int) < (s : Int) := by omega
            have hjn : (j : Int) < (n : Int) := by omega
            have kj : wr.cell? ⟨b, off + j, none⟩ = some (.int .i64 (v : Nat)) := HALL.out wr HFJ.out j hij (by omega)
            obtain ⟨⟨⟨p1, p2, p3⟩, q⟩, hpq⟩ : ∃ x, againP v s = x := ⟨_, rfl⟩
            have hpa := Pa_again HPJ.out hs0 (by have := HL.out; omega) (fun t ht => HSAME.out (j + t) (by omega) (by omega)) (HVI.out.imp id fun h => ⟨by omega, HSAME.out (j - 1) (by omega) (by omega)⟩)
            have hpc := phi_again v s hs0
            rw [hpq] at hpa hpc
            have hcj2 : cost (ps' ++ [(p1, p2, p3)]) + phi v (s - q) ≤ cost ps + phi v k := by
              rw [cost_snoc]
              have h := HCJ.out
              simp only at hpc ⊢
              omega
            have HCJ2 := Lib.hid hcj2
            have hrs := RnFrom.step HRN.out hs0
            rw [hpq] at hrs
            have HRS := Lib.hid hrs
            clear hpc hcj2 hrs
            obtain ⟨hp1, hp2, hp3⟩ := hpa
            simp only at hp1 hp2 hp3
            have hag := again_lit v s HV15.out (by omega) p1 p2 p3 q hpq
            have HAG := Lib.hid hag
            have HP1 := Lib.hid hp1
            have q1 : (q : Int) ≤ (s : Int) := by omega
            clear hag hp1 hpq
            go_wp2_with (first
              | (go_at_call 72; (with_reducible refine (HAG.out _).mono ?_); rintro e w3 ⟨rfl, hf3⟩; have HF3 := Lib.hid (HFJ.out.trans hf3); have HO3 := Lib.hid (Own3.fresh HOJ.out hf3); have hbk := Bk.made (w3.alloc (.cells #[.int .i64 (p1 : Nat), .int .i64 (p2 : Nat), .int .i64 (p3 : Nat)] tPart)) tPart #[.int .i64 (p1 : Nat), .int .i64 (p2 : Nat), .int .i64 (p3 : Nat)]; rw [show (w3.alloc (.cells #[.int .i64 (p1 : Nat), .int .i64 (p2 : Nat), .int .i64 (p3 : Nat)] tPart)).heap.size = w3.heap.size + 1 from by simp] at hbk; have HBK := Lib.hid hbk; clear hf3 hbk)
              | (at_builtin; refine wpList_append_part _ rfl (.tmp 44) (.tmp 46) rfl w.heap.size A2 m' c2 ps' rfl (Own3.fresh (Own3.fresh HO3.out (Fresh.alloc _ _)) (Fresh.alloc _ _)) (w3.heap.size + 1) (p1, p2, p3) rfl HBK.out (by omega) (by have := HF3.out.size; simp; omega) ?_; intro A4 c4 w4 ho4 hg4; have HO4 := Lib.hid ho4; have HF4 := Lib.hid (Own3.append (Own3.fresh (Own3.fresh HO3.out (Fresh.alloc _ _)) (Fresh.alloc _ _)) ((HF3.out.trans (Fresh.alloc _ _)).trans (Fresh.alloc _ _)) (Nat.le_refl _) hg4); clear ho4 hg4))
            refine ⟨⟨j + q, m' + 1, c4, s - q, A4, ps' ++ [(p1, p2, p3)], rfl, rfl, by congr 1; omega, by omega, by omega, Lib.hid (.inr (by omega)), by omega, HRS, HCJ2, HP1, HO4, HF4⟩, ?_⟩
            show ((s : Int) - (q : Int)).toNat < ((s : Int)).toNat
            omega
          · have hs1 : s = 0 := by omega
            subst hs1
            go_wp2
            refine ⟨⟨j, m', c2, A2, ps', rfl, rfl, by omega, hmj, HPJ, Lib.hid (by
              have hji : j = i + k := by omega
              rw [hji]
              exact Pd.zero HPD.out hk1 (by omega) HSAME.out (fun h1 h2 => by
                have h3 := HK4.out (by have := HL.out; omega)
                rw [drop_getD, drop_getD, Nat.add_zero, HVE.out] at h3
                exact h3 h2) HV1.out HRN.out), Lib.hid (by
              have hji : j = i + k := by omega
              rw [hji]
              refine Cost.run HCO.out hk1 (by have := HL.out; omega) HSAME.out (fun h1 h2 => ?_) ?_
              · have h3 := HK4.out (by have := HL.out; omega)
                rw [drop_getD, drop_getD, Nat.add_zero, HVE.out] at h3
                exact h3 h2
              · have h := HCJ.out
                have h0 : phi v 0 = 0 := by unfold phi phi0; split <;> rfl
                rw [h0] at h
                exact h), HOJ, HFJ⟩, ?_⟩
            show n - ((j : Int)).toNat < n - ((i : Int)).toNat
            omega
    · have hin : i = n := by omega
      subst hin
      go_wp2
      go_ret
      have hml := HO.out.len
      subst hml
      exact ⟨A', c', ps, rfl, HP.out, HO.out, HF.out, HCO.out, HPD.out⟩
end Go.Proofs.YtppgceighgpgoaaGreatDoor.defp
