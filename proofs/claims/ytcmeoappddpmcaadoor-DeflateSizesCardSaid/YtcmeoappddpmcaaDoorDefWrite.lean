import Derived.Test.YtcmeoappddpmcaaDoorDefTell
/-
  writeLengths. My own text.
-/
namespace Go.Proofs.YtcmeoappddpmcaaDoor.defp
open Go.RowKit Go.Maps Go.Proofs.YtcmeoappddpmcaaDoor.base Go.Proofs.YtcmeoappddpmcaaDoor.num Go.Proofs.YtcmeoappddpmcaaDoor.bitnum Go.Proofs.YtcmeoappddpmcaaDoor.bitp Go.Proofs.YtcmeoappddpmcaaDoor.huffnum Go.Proofs.YtcmeoappddpmcaaDoor.huffp Go.Proofs.YtcmeoappddpmcaaDoor.infp
set_option linter.unusedVariables false
/-- what tells the lengths: how many, the lengths of the code of lengths, the parts -/
def headI (T : List Nat) (j : Nat) : List (Nat × Nat) := (4, j - 4) :: (infnum.order.take j).map fun s => (3, T.getD s 0)
def partI (T : List Nat) (p : Pt) : List (Nat × Nat) := [((Fs T 16 0 p.1).1, rev (Fs T 16 0 p.1).1 (u64 ((Fs T 16 0 p.1).2 : Int))), (p.2.1, p.2.2)]
/-- the first i of them -/
def headK (T : List Nat) (j i : Nat) : List (Nat × Nat) := (4, j - 4) :: (infnum.order.take i).map fun s => (3, T.getD s 0)
theorem headK_next (T : List Nat) (j i s : Nat) (h : infnum.order[i]? = some s) : headK T j (i + 1) = headK T j i ++ [(3, T.getD s 0)] := by
  unfold headK
  rw [List.take_add_one, h, List.map_append]
  rfl
theorem headK_none (T : List Nat) (j : Nat) : cat (headK T j 0) = (4, j - 4) := by
  unfold headK cat
  simp
def tellI (T : List Nat) (j : Nat) (ps : List Pt) : List (Nat × Nat) := headI T j ++ ps.flatMap (partI T)
theorem u64_small (x k : Nat) (hk : k ≤ 7) (h : x < 2 ^ k) : u64 (x : Int) = x := by
  have : 2 ^ k ≤ 2 ^ 7 := Nat.pow_le_pow_right (by omega) hk
  unfold u64
  omega
theorem ord_len : infnum.order.length = 19 := by decide
theorem ord_lt : ∀ s ∈ infnum.order, s < 19 := by decide
set_option maxRecDepth 100000 in
set_option maxHeartbeats 4000000 in
theorem writeLengths_any (gw N m : Nat) (bl : List Nat) (A : Option Addr) (n c B : Nat) (ls : List Nat) (w : World) (hW : WtrAt w gw N m bl) (hm : m ≤ 1000000) (hr : Rd w B A n (nv ls)) (hB : B ≤ w.heap.size) (hn1 : 1 ≤ n) (hn2 : n ≤ 320) (hc : n ≤ c) (hcm : c ≤ maxLen) (h15 : ∀ x ∈ ls, x ≤ 15)
    (hO : OrdD w) (hg : 0 < w.heap.size) (hgb : 0 ∉ bl) :
    Calls Tryd.prog 25 #[ptr gw, .slice A n c] w fun e w' => e = .returned (.tuple #[]) ∧ ∃ (T : List Nat) (j : Nat) (ps : List Pt) (bl' : List Nat), Pa ls n ps ∧ Cost ls n ps ∧ 4 ≤ j ∧ j ≤ 19 ∧ T.length = 19 ∧ Fit T ∧ (∀ x ∈ T, x ≤ 7) ∧ (∀ p ∈ ps, 1 ≤ T.getD p.1 0) ∧ Full fP 19 ps T ∧ (∀ i s, j ≤ i → infnum.order[i]? = some s → T.getD s 0 = 0) ∧ WtrAt w' gw (N + 2 ^ m * (cat (tellI T j ps)).2) (m + (cat (tellI T j ps)).1) bl' ∧ Turn bl bl' w w' := by
  have hl : ls.length = n := by have := hr.1; rwa [List.length_map] at this
  have hpo := partsOf_any A n c B ls w hr hB (by omega) hc hcm h15
  have HPO := Lib.hid hpo
  have HW := Lib.hid hW
  have H15 := Lib.hid h15
  have HO := Lib.hid hO
  have HL := Lib.hid hl
  have hz := zero_19
  have hin := hW.1.inside
  have HIN := Lib.hid hin
  have HGB := Lib.hid hgb
  clear hpo hW h15 hO hl hr hB hc hcm hin hgb
  go_enter Tryd.func25, Tryd.ntmps25
  go_wp2_with (go_at_call 43; (refine HPO.out.mono ?_); rintro e w1 ⟨A3, c3, ps, rfl, hpa, ho3, hf1, hcost⟩; have HCST := Lib.hid hcost; clear hcost; have HPA := Lib.hid hpa; have HO3 := Lib.hid ho3; have HF1 := Lib.hid hf1; clear hpa ho3 hf1)
  obtain ⟨k, hk⟩ : ∃ k, ps.length = k := ⟨_, rfl⟩
  have hk2 : k ≤ 320 := by have := HPA.out.le; omega
  have HK := Lib.hid hk
  rw [hk]
  have hbC : Bk (w1.alloc (.cells (Array.replicate 19 (.int .i64 0)) t19)) w1.heap.size t19 (nv (tal fP 19 (ps.take 0))) := by
    have h := Bk.made w1 t19 (Array.replicate 19 (.int .i64 0))
    rw [nv_zero, ← tal_nil fP 19] at h
    rw [List.take_zero]
    exact h
  have HBC := Lib.hid hbC
  clear hk hbC hz
  go_loopw [19] (fun vi wr => ∃ (i : Nat), vi = .int .i64 i ∧ i ≤ k ∧ Hid (Bk wr w1.heap.size t19 (nv (tal fP 19 (ps.take i)))) ∧ Hid (Fresh w1 wr)) (fun vi _ => k - (intOf vi).toNat)
  case atStart => exact ⟨0, rfl, Nat.zero_le _, HBC, Lib.hid (Fresh.alloc _ _)⟩
  case round =>
    obtain ⟨i, rfl, hi, HC, HF⟩ := hrel
    by_cases hlt : i < k
    · have hil : (i : Int) < (k : Int) := by omega
      obtain ⟨p, hp⟩ : ∃ p, ps[i]? = some p := ⟨_, List.getElem?_eq_getElem (by rw [HK.out]; exact hlt)⟩
      have ho3 := HO3.out
      rw [HK.out] at ho3
      obtain ⟨g, rfl, hg1, hg2, hrange⟩ := Own3.at_ (Own3.fresh ho3 HF.out) hp
      obtain ⟨p18, _, _⟩ := HPA.out.each H15.out p (List.mem_of_getElem? hp)
      have ht : ps.take (i + 1) = ps.take i ++ [p] := by rw [List.take_add_one, hp]; rfl
      obtain ⟨cS, hcS⟩ : ∃ cS, (ps.take i).countP (fun s' => decide (fP s' = some p.1)) = cS := ⟨_, rfl⟩
      have hcSb : cS ≤ 320 := by rw [← hcS]; exact Nat.le_trans List.countP_le_length (by rw [List.length_take, HK.out]; omega)
      have hgS := tal_get fP (ps.take i) (y := p.1) (nn := 19) (by omega)
      rw [hcS] at hgS
      have hsS := tal_some fP (ps.take i) (nn := 19) p (y := p.1) rfl (by omega)
      rw [hcS, ← ht] at hsS
      obtain ⟨p1, p2, p3⟩ := p
      simp only [pcell] at hrange
      simp only at p18 hgS hsS
      have HR := Lib.hid hrange
      have HGS := Lib.hid hgS
      have HSS := Lib.hid hsS
      have hwr : w1.heap.size < wr.heap.size := HC.out.inside
      have hcl : wr.cell? ⟨w1.heap.size, p1, none⟩ = some (.int .i64 (cS : Nat)) := HC.out.cell (by unfold nv; rw [List.getElem?_map, HGS.out]; rfl)
      have hfz := HC.out.free p1
      have hput := HC.out.put p1 (iv ((cS + 1 : Nat) : Int))
      rw [nv_set, HSS.out] at hput
      have HPUT := Lib.hid hput
      have p19 : (p1 : Int) < 19 := by omega
      clear hp hrange ht hcS hgS hsS hput ho3
      go_wp2_with (first
        | ((with_reducible (refine at_slot_ 22 ?_)); refine wpList_load_mid rfl tPart (.tmp 21) rfl g (i * 3) rfl _ _ HR.out Tryd.underlying92 rfl partSize ?_))
      refine ⟨⟨i + 1, rfl, hlt, Lib.hid (HPUT.out.alloc _), Lib.hid ((HF.out.but (Nat.le_refl _) (But.put _ _)).trans (Fresh.alloc _ _))⟩, ?_⟩
      show k - ((i : Int) + 1).toNat < k - ((i : Int)).toNat
      omega
    · have hin : i = k := by omega
      subst hin
      have e : ps.take i = ps := List.take_of_length_le (by have := HK.out; omega)
      have hC := HC.out
      rw [e] at hC
      have HC2 := Lib.hid hC
      have hle := lengths_of fP 19 ps w1.heap.size 0 19 wr (Bk.row0 hC (by rw [List.length_map, tal_len])) (by omega) (Nat.le_refl _) (by unfold maxLen; omega) 7 (by omega) (by omega) (by omega) (by rw [HK.out]; omega)
      have HLE := Lib.hid hle
      clear e hC hle HC HBC
      go_wp2_with (go_at_call 23; (refine HLE.out.mono ?_); rintro e w2 ⟨L, T, rfl, hL, hb, hf2, hT, hfit, h7, hpos, hful⟩; have HFUL := Lib.hid hful; clear hful; have HBT := Lib.hid hb; have HF2 := Lib.hid (HF.out.trans hf2); have HT := Lib.hid hT; have HFIT := Lib.hid hfit; have H7 := Lib.hid h7; have HPOS := Lib.hid hpos; clear hb hf2 hT hfit h7 hpos)
      have hord : ∀ W, Fresh w2 W → OrdD W := fun W k => HO.out.keep (((HF1.out.trans HF2.out).trans k).block _ hg)
      have HORD := Lib.hid hord
      clear hord
      go_loopw [9] (fun t wr => ∃ (j : Nat), t = .int .i64 j ∧ 4 ≤ j ∧ j ≤ 19 ∧ Hid (∀ i s, j ≤ i → infnum.order[i]? = some s → T.getD s 0 = 0) ∧ Hid (Fresh w2 wr)) (fun t _ => (intOf t).toNat)
      case atStart => exact ⟨19, rfl, by omega, Nat.le_refl _, Lib.hid (fun i s h1 h2 => absurd (List.getElem?_eq_some_iff.1 h2).1 (by rw [ord_len]; omega)), Lib.hid (Fresh.refl _)⟩
      case round =>
        rename World => wo
        obtain ⟨j, rfl, hj4, hj19, HZ, HFO⟩ := hrel
        by_cases hlj : 4 < j
        · obtain ⟨q, hq⟩ : ∃ q, q + 1 = j := ⟨j - 1, by omega⟩
          have hjl : (4 : Int) < (j : Int) := by omega
          have hjq : (j : Int) - 1 = (q : Int) := by omega
          have qn : (q : Int) < 19 := by omega
          obtain ⟨s, hs⟩ : ∃ s, infnum.order[q]? = some s := ⟨_, List.getElem?_eq_getElem (by rw [ord_len]; omega)⟩
          have hs19 := ord_lt s (List.mem_of_getElem? hs)
          have ks : wo.cell? ⟨0, q, none⟩ = some (.int .i64 (s : Nat)) := HORD.out wo HFO.out q s hs
          have kt : wo.cell? ⟨L, s, none⟩ = some (.int .i64 (T.getD s 0 : Nat)) := (HBT.out.fresh HFO.out).cell (by unfold nv; rw [List.getElem?_map, List.getD_eq_getElem?_getD, List.getElem?_eq_getElem (by rw [HT.out]; omega)]; rfl)
          have s19 : (s : Int) < 19 := by omega
          by_cases hz : T.getD s 0 = 0
          · rw [hz] at kt
            have hz1 : ∀ i s, q ≤ i → infnum.order[i]? = some s → T.getD s 0 = 0 := fun i s' h1 h2 => by
              rcases Nat.lt_or_ge q i with h | h
              · exact HZ.out i s' (by omega) h2
              · obtain rfl : i = q := by omega
                rw [hs] at h2
                injection h2 with h2
                rw [← h2]
                exact hz
            have HZ1 := Lib.hid hz1
            clear hz1 hz hs
            go_wp2
            refine ⟨⟨q, rfl, by omega, by omega, HZ1, HFO⟩, ?_⟩
            show ((q : Int)).toNat < ((j : Int)).toNat
            omega
          have huv' : ¬ ((T.getD s 0 : Nat) : Int) = 0 := fun h => hz (by omega)
          clear hz
          generalize T.getD s 0 = v at kt huv'
          have hfo := HFO.out
          have HWO := Lib.hid (HW.out.fresh (((HF1.out.trans HF2.out).trans HFO.out)))
          have HP4 := Lib.hid (put_any gw N m 4 (j - 4) 4 ((j : Int) - 4) bl wo HWO.out (by omega) rfl (by unfold u64; omega))
          go_wp2_with (go_at_call 24; (with_reducible refine HP4.out.mono ?_); rintro e w3 ⟨rfl, bl3, hW3, hT3⟩; have HW3 := Lib.hid hW3; have HT3 := Lib.hid hT3; clear hW3 hT3)
          have hstart := cat_step N m 4 (j - 4) []
          go_loopw [51] (fun vi wr => ∃ (t NN mm : Nat) (blr : List Nat), vi = .int .i64 t ∧ t ≤ j ∧ mm ≤ m + 4 + 3 * t ∧ Hid (NN = N + 2 ^ m * (cat (headK T j t)).2) ∧ Hid (mm = m + (cat (headK T j t)).1) ∧ Hid (WtrAt wr gw NN mm blr) ∧ Hid (Turn bl blr wo wr)) (fun vi _ => j - (intOf vi).toNat)
          case atStart => exact ⟨0, N + 2 ^ m * (j - 4), m + 4, bl3, rfl, Nat.zero_le _, by omega, Lib.hid (by rw [headK_none]), Lib.hid (by rw [headK_none]), HW3, HT3⟩
          case round =>
            obtain ⟨t, NN, mm, blr, rfl, htj, hmm, HNN, HMM, HWR, HTR⟩ := hrel
            have hLb : L ∉ bl := fun h => by have h1 := HIN.out L h; have h2 := HF1.out.size; have h3 := HF.out.size; omega
            have hzs : 0 < wo.heap.size := by have h2 := ((HF1.out.trans HF2.out).trans HFO.out).size; omega
            have hLs : L < wo.heap.size := (HBT.out.fresh HFO.out).inside
            by_cases hlt2 : t < j
            · have htl : (t : Int) < (j : Int) := by omega
              obtain ⟨s, hs⟩ : ∃ s, infnum.order[t]? = some s := ⟨_, List.getElem?_eq_getElem (by rw [ord_len]; omega)⟩
              have hs19 := ord_lt s (List.mem_of_getElem? hs)
              have ks : wr.cell? ⟨0, t, none⟩ = some (.int .i64 (s : Nat)) := ((HORD.out wo HFO.out).keep (HTR.out.block _ hzs HGB.out)) t s hs
              have kt : wr.cell? ⟨L, s, none⟩ = some (.int .i64 (T.getD s 0 : Nat)) := ((HBT.out.fresh HFO.out).old (HTR.out.block L hLs hLb)).cell (by unfold nv; rw [List.getElem?_map, List.getD_eq_getElem?_getD, List.getElem?_eq_getElem (by rw [HT.out]; omega)]; rfl)
              have s19 : (s : Int) < 19 := by omega
              have hv7 : T.getD s 0 ≤ 7 := by
                rw [List.getD_eq_getElem?_getD, List.getElem?_eq_getElem (by rw [HT.out]; omega)]
                exact H7.out _ (List.getElem_mem _)
              have hne := headK_next T j t s hs
              obtain ⟨v, hv⟩ : ∃ v, T.getD s 0 = v := ⟨_, rfl⟩
              rw [hv] at kt hv7 hne
              obtain ⟨c1, c2⟩ := cat_step N m 3 v (headK T j t)
              rw [← hne, ← HMM.out, ← HNN.out] at c1
              rw [← hne, ← HMM.out] at c2
              have C1 := Lib.hid c1
              have C2 := Lib.hid c2
              have HP3 := Lib.hid (put_any gw NN mm 3 v 3 (v : Int) blr wr HWR.out (by omega) rfl (by unfold u64; omega))
              clear hs hne hv c1 c2
              go_wp2_with (go_at_call 24; (with_reducible refine HP3.out.mono ?_); rintro e w4 ⟨rfl, bl4, hW4, hT4⟩; have HW4 := Lib.hid hW4; have HT4 := Lib.hid hT4; clear hW4 hT4)
              refine ⟨⟨t + 1, NN + 2 ^ mm * v, mm + 3, bl4, rfl, hlt2, by omega, C1, C2, HW4, Lib.hid (HTR.out.trans HT4.out)⟩, ?_⟩
              show j - ((t : Int) + 1).toNat < j - ((t : Int)).toNat
              omega
            · have hin : t = j := by omega
              subst hin
              rename World => wp
              have hmd := Lib.hid (made_ok (some ⟨L, 0, none⟩) 19 19 T wp wp.heap.size (Bk.row0 ((HBT.out.fresh HFO.out).old (HTR.out.block L hLs hLb)) (by rw [List.length_map, HT.out])) (Nat.le_refl _) (by omega) HFIT.out.2 HFIT.out.1)
              go_wp2_with (go_at_call 15; (with_reducible refine hmd.out.mono ?_); rintro e w6 ⟨gc, cbl, rfl, hC, hS⟩; have HC6 := Lib.hid hC; have HS6 := Lib.hid hS; clear hC hS)
              have hnb : ∀ g, (Value.slice A3 i c3).ownBlock = some g → ∃ cs fr, w1.heap[g]? = some (.cells cs tPart fr) ∧ w.heap.size ≤ g := fun g hg => by
                have ho3 := HO3.out
                rw [HK.out] at ho3
                obtain ⟨h1, cs, fr, h2⟩ := ho3.block g hg
                exact ⟨cs, fr, h2, h1⟩
              have ho1 : Own3 w1 w.heap.size A3 i c3 ps := by have ho3 := HO3.out; rwa [HK.out] at ho3
              have hoo := ho1.fresh (HF2.out.trans HFO.out)
              have hgo : ∀ g, (Value.slice A3 i c3).ownBlock = some g → g < wo.heap.size ∧ g ∉ bl := fun g hg => by
                obtain ⟨_, cs, fr, h2⟩ := hoo.block g hg
                obtain ⟨_, _, _, h3⟩ := hnb g hg
                exact ⟨(Array.getElem?_eq_some_iff.1 h2).1, fun h => by have := HIN.out g h; omega⟩
              have ho6 := (hoo.keep fun g hg => HTR.out.block g (hgo g hg).1 (hgo g hg).2).fresh HS6.out.1
              have hg6 : ∀ g, (Value.slice A3 i c3).ownBlock = some g → g < w6.heap.size ∧ g ∉ blr := fun g hg => by
                obtain ⟨_, cs, fr, h2⟩ := ho6.block g hg
                exact ⟨(Array.getElem?_eq_some_iff.1 h2).1, HTR.out.apart (hgo g hg).1 (hgo g hg).2⟩
              have hrow : ∀ (W : World) (bl' : List Nat), Turn blr bl' w6 W → Own3 W w.heap.size A3 i c3 ps := fun W bl' k => ho6.keep fun g hg => k.block g (hg6 g hg).1 (hg6 g hg).2
              have hcb : ∀ b ∈ cbl, b ∉ blr := fun b hb h => by have h1 := HS6.out.2 b hb; have h2 := HWR.out.1.inside b h; omega
              have HROW := Lib.hid hrow
              have HCB := Lib.hid hcb
              have HW6 := Lib.hid (HWR.out.fresh HS6.out.1)
              clear hnb ho1 hoo hgo ho6 hg6 hrow hcb
              go_loopw [70] (fun vi wr => ∃ (u N2 m2 : Nat) (bl2 : List Nat), vi = .int .i64 u ∧ u ≤ i ∧ m2 ≤ m + 100 + 22 * u ∧ Hid (N2 = N + 2 ^ m * (cat (headK T t t ++ (ps.take u).flatMap (partI T))).2) ∧ Hid (m2 = m + (cat (headK T t t ++ (ps.take u).flatMap (partI T))).1) ∧ Hid (WtrAt wr gw N2 m2 bl2) ∧ Hid (Turn blr bl2 w6 wr)) (fun vi _ => i - (intOf vi).toNat)
              case atStart => exact ⟨0, NN, mm, blr, rfl, Nat.zero_le _, by omega, Lib.hid (by rw [List.take_zero, List.flatMap_nil, List.append_nil]; exact HNN.out), Lib.hid (by rw [List.take_zero, List.flatMap_nil, List.append_nil]; exact HMM.out), HW6, Lib.hid (Turn.refl _ _)⟩
              case round =>
                obtain ⟨u, N2, m2, bl2, rfl, hui, hm2, HN2, HM2, HW2, HT2⟩ := hrel
                by_cases hlt3 : u < i
                · have hul : (u : Int) < (i : Int) := by omega
                  obtain ⟨p, hp⟩ : ∃ p, ps[u]? = some p := ⟨_, List.getElem?_eq_getElem (by rw [HK.out]; exact hlt3)⟩
                  obtain ⟨g, rfl, _, _, hrange⟩ := Own3.at_ (HROW.out wr _ HT2.out) hp
                  obtain ⟨p18, p27, p3b⟩ := HPA.out.each H15.out p (List.mem_of_getElem? hp)
                  have ht : ps.take (u + 1) = ps.take u ++ [p] := by rw [List.take_add_one, hp]; rfl
                  have hitems : headK T t t ++ (ps.take (u + 1)).flatMap (partI T) = (headK T t t ++ (ps.take u).flatMap (partI T)) ++ partI T p := by
                    rw [ht, List.flatMap_append, ← List.append_assoc]
                    simp
                  obtain ⟨a, b, hab⟩ : ∃ a b, Fs T 16 0 p.1 = (a, b) := ⟨_, _, rfl⟩
                  have ha : a ≤ 15 := by have := Fs_le T p.1; rw [hab] at this; exact this
                  obtain ⟨Y, hY⟩ : ∃ Y, rev a (u64 (b : Int)) = Y := ⟨_, rfl⟩
                  have hpi : partI T p = [(a, Y)] ++ [(p.2.1, p.2.2)] := by unfold partI; rw [hab, hY]; rfl
                  rw [hpi, ← List.append_assoc] at hitems
                  obtain ⟨c1, c2⟩ := cat_step N m a Y (headK T t t ++ (ps.take u).flatMap (partI T))
                  obtain ⟨d1, d2⟩ := cat_step N m p.2.1 p.2.2 ((headK T t t ++ (ps.take u).flatMap (partI T)) ++ [(a, Y)])
                  rw [← HM2.out, ← HN2.out] at c1
                  rw [← HM2.out] at c2
                  rw [← hitems, ← c1, ← c2] at d1
                  rw [← hitems, ← c2] at d2
                  obtain ⟨p1, p2, p3⟩ := p
                  simp only [pcell] at hrange
                  simp only at p18 p27 p3b d1 d2 hab
                  have D1 := Lib.hid d1
                  have D2 := Lib.hid d2
                  have HR := Lib.hid hrange
                  have HAB := Lib.hid hab
                  have HY := Lib.hid hY
                  have HP3B := Lib.hid p3b
                  obtain ⟨v0, hv0⟩ : ∃ v0, wr.heap.size = v0 := ⟨_, rfl⟩
                  have hvb := Bk.made wr tPart #[.int .i64 (p1 : Nat), .int .i64 (p2 : Nat), .int .i64 (p3 : Nat)]
                  rw [hv0] at hvb
                  have hvbl : v0 ∉ bl2 := fun h => by have := HW2.out.1.inside v0 h; omega
                  have HVB := Lib.hid hvb
                  have HVBL := Lib.hid hvbl
                  have HFA := Lib.hid (Fresh.alloc wr (.cells #[.int .i64 (p1 : Nat), .int .i64 (p2 : Nat), .int .i64 (p3 : Nat)] tPart))
                  have HCA := Lib.hid ((HC6.out.turn HT2.out HCB.out).fresh HFA.out)
                  clear hp hrange ht hitems hab hY hpi c1 c2 d1 d2 p3b hvb hvbl
                  go_wp2_with (first
                    | ((with_reducible (refine at_slot_ 73 ?_)); refine wpList_load_mid rfl tPart (.tmp 72) rfl g (u * 3) rfl _ _ HR.out Tryd.underlying92 rfl partSize ?_)
                    | (go_at_call 45; (refine (code_in gc T cbl p1 a b _ HCA.out (by rw [HT.out]; omega) HAB.out).mono ?_); rintro e w7 ⟨rfl, hf7⟩; have HF7 := Lib.hid (HFA.out.trans hf7); have HVB7 := Lib.hid (HVB.out.fresh hf7); clear hf7)
                    | (go_at_call 44; (refine (code_any gw N2 m2 a Y a b bl2 _ (HW2.out.fresh HF7.out) (by omega) (held_nat a (by omega)) HY.out).mono ?_); rintro e w8 ⟨rfl, bl8, hW8, hT8⟩; have HW8 := Lib.hid hW8; have HT8 := Lib.hid hT8; have hb8 := HVB7.out.old (hT8.block v0 HVB7.out.inside HVBL.out); have hk1 := hb8.cell (i := 1) rfl; have hk2 := hb8.cell (i := 2) rfl; clear hW8 hT8 hb8)
                    | (go_at_call 24; (refine (put_any gw (N2 + 2 ^ m2 * Y) (m2 + a) p2 p3 p2 p3 bl8 _ HW8.out (by omega) (held_nat p2 (by omega)) (by rw [u64_small p3 p2 p27 HP3B.out]; exact Nat.mod_eq_of_lt HP3B.out)).mono ?_); rintro e w9 ⟨rfl, bl9, hW9, hT9⟩; have HW9 := Lib.hid hW9; have HT9 := Lib.hid hT9; clear hW9 hT9))
                  refine ⟨⟨u + 1, N2 + 2 ^ m2 * Y + 2 ^ (m2 + a) * p3, m2 + a + p2, bl9, rfl, hlt3, by omega, D1, D2, HW9, Lib.hid (((HT2.out.trans (Turn.fresh HF7.out)).trans HT8.out).trans HT9.out)⟩, ?_⟩
                  show i - ((u : Int) + 1).toNat < i - ((u : Int)).toNat
                  omega
                · have hin : u = i := by omega
                  subst hin
                  have e : ps.take u = ps := List.take_of_length_le (by rw [HK.out]; exact Nat.le_refl _)
                  rw [e] at HN2 HM2
                  go_wp2
                  go_end0
                  refine ⟨rfl, T, t, ps, bl2, HPA.out, HCST.out, hj4, hj19, HT.out, HFIT.out, H7.out, ?_, HFUL.out, HZ.out, ?_, ?_⟩
                  · intro p hp
                    exact HPOS.out p hp p.1 rfl (by have := (HPA.out.each H15.out p hp).1; omega)
                  · have hw := HW2.out
                    rw [HN2.out, HM2.out] at hw
                    exact hw
                  · exact ((((Turn.fresh ((HF1.out.trans HF2.out).trans HFO.out)).trans HTR.out).trans (Turn.fresh HS6.out.1)).trans HT2.out)
        · have hjl : ¬ (4 : Int) < (j : Int) := by omega
          have hfo := HFO.out
          have HWO := Lib.hid (HW.out.fresh (((HF1.out.trans HF2.out).trans HFO.out)))
          have HP4 := Lib.hid (put_any gw N m 4 (j - 4) 4 ((j : Int) - 4) bl wo HWO.out (by omega) rfl (by unfold u64; omega))
          go_wp2_with (go_at_call 24; (with_reducible refine HP4.out.mono ?_); rintro e w3 ⟨rfl, bl3, hW3, hT3⟩; have HW3 := Lib.hid hW3; have HT3 := Lib.hid hT3; clear hW3 hT3)
          have hstart := cat_step N m 4 (j - 4) []
          go_loopw [51] (fun vi wr => ∃ (t NN mm : Nat) (blr : List Nat), vi = .int .i64 t ∧ t ≤ j ∧ mm ≤ m + 4 + 3 * t ∧ Hid (NN = N + 2 ^ m * (cat (headK T j t)).2) ∧ Hid (mm = m + (cat (headK T j t)).1) ∧ Hid (WtrAt wr gw NN mm blr) ∧ Hid (Turn bl blr wo wr)) (fun vi _ => j - (intOf vi).toNat)
          case atStart => exact ⟨0, N + 2 ^ m * (j - 4), m + 4, bl3, rfl, Nat.zero_le _, by omega, Lib.hid (by rw [headK_none]), Lib.hid (by rw [headK_none]), HW3, HT3⟩
          case round =>
            obtain ⟨t, NN, mm, blr, rfl, htj, hmm, HNN, HMM, HWR, HTR⟩ := hrel
            have hLb : L ∉ bl := fun h => by have h1 := HIN.out L h; have h2 := HF1.out.size; have h3 := HF.out.size; omega
            have hzs : 0 < wo.heap.size := by have h2 := ((HF1.out.trans HF2.out).trans HFO.out).size; omega
            have hLs : L < wo.heap.size := (HBT.out.fresh HFO.out).inside
            by_cases hlt2 : t < j
            · have htl : (t : Int) < (j : Int) := by omega
              obtain ⟨s, hs⟩ : ∃ s, infnum.order[t]? = some s := ⟨_, List.getElem?_eq_getElem (by rw [ord_len]; omega)⟩
              have hs19 := ord_lt s (List.mem_of_getElem? hs)
              have ks : wr.cell? ⟨0, t, none⟩ = some (.int .i64 (s : Nat)) := ((HORD.out wo HFO.out).keep (HTR.out.block _ hzs HGB.out)) t s hs
              have kt : wr.cell? ⟨L, s, none⟩ = some (.int .i64 (T.getD s 0 : Nat)) := ((HBT.out.fresh HFO.out).old (HTR.out.block L hLs hLb)).cell (by unfold nv; rw [List.getElem?_map, List.getD_eq_getElem?_getD, List.getElem?_eq_getElem (by rw [HT.out]; omega)]; rfl)
              have s19 : (s : Int) < 19 := by omega
              have hv7 : T.getD s 0 ≤ 7 := by
                rw [List.getD_eq_getElem?_getD, List.getElem?_eq_getElem (by rw [HT.out]; omega)]
                exact H7.out _ (List.getElem_mem _)
              have hne := headK_next T j t s hs
              obtain ⟨v, hv⟩ : ∃ v, T.getD s 0 = v := ⟨_, rfl⟩
              rw [hv] at kt hv7 hne
              obtain ⟨c1, c2⟩ := cat_step N m 3 v (headK T j t)
              rw [← hne, ← HMM.out, ← HNN.out] at c1
              rw [← hne, ← HMM.out] at c2
              have C1 := Lib.hid c1
              have C2 := Lib.hid c2
              have HP3 := Lib.hid (put_any gw NN mm 3 v 3 (v : Int) blr wr HWR.out (by omega) rfl (by unfold u64; omega))
              clear hs hne hv c1 c2
              go_wp2_with (go_at_call 24; (with_reducible refine HP3.out.mono ?_); rintro e w4 ⟨rfl, bl4, hW4, hT4⟩; have HW4 := Lib.hid hW4; have HT4 := Lib.hid hT4; clear hW4 hT4)
              refine ⟨⟨t + 1, NN + 2 ^ mm * v, mm + 3, bl4, rfl, hlt2, by omega, C1, C2, HW4, Lib.hid (HTR.out.trans HT4.out)⟩, ?_⟩
              show j - ((t : Int) + 1).toNat < j - ((t : Int)).toNat
              omega
            · have hin : t = j := by omega
              subst hin
              rename World => wp
              have hmd := Lib.hid (made_ok (some ⟨L, 0, none⟩) 19 19 T wp wp.heap.size (Bk.row0 ((HBT.out.fresh HFO.out).old (HTR.out.block L hLs hLb)) (by rw [List.length_map, HT.out])) (Nat.le_refl _) (by omega) HFIT.out.2 HFIT.out.1)
              go_wp2_with (go_at_call 15; (with_reducible refine hmd.out.mono ?_); rintro e w6 ⟨gc, cbl, rfl, hC, hS⟩; have HC6 := Lib.hid hC; have HS6 := Lib.hid hS; clear hC hS)
              have hnb : ∀ g, (Value.slice A3 i c3).ownBlock = some g → ∃ cs fr, w1.heap[g]? = some (.cells cs tPart fr) ∧ w.heap.size ≤ g := fun g hg => by
                have ho3 := HO3.out
                rw [HK.out] at ho3
                obtain ⟨h1, cs, fr, h2⟩ := ho3.block g hg
                exact ⟨cs, fr, h2, h1⟩
              have ho1 : Own3 w1 w.heap.size A3 i c3 ps := by have ho3 := HO3.out; rwa [HK.out] at ho3
              have hoo := ho1.fresh (HF2.out.trans HFO.out)
              have hgo : ∀ g, (Value.slice A3 i c3).ownBlock = some g → g < wo.heap.size ∧ g ∉ bl := fun g hg => by
                obtain ⟨_, cs, fr, h2⟩ := hoo.block g hg
                obtain ⟨_, _, _, h3⟩ := hnb g hg
                exact ⟨(Array.getElem?_eq_some_iff.1 h2).1, fun h => by have := HIN.out g h; omega⟩
              have ho6 := (hoo.keep fun g hg => HTR.out.block g (hgo g hg).1 (hgo g hg).2).fresh HS6.out.1
              have hg6 : ∀ g, (Value.slice A3 i c3).ownBlock = some g → g < w6.heap.size ∧ g ∉ blr := fun g hg => by
                obtain ⟨_, cs, fr, h2⟩ := ho6.block g hg
                exact ⟨(Array.getElem?_eq_some_iff.1 h2).1, HTR.out.apart (hgo g hg).1 (hgo g hg).2⟩
              have hrow : ∀ (W : World) (bl' : List Nat), Turn blr bl' w6 W → Own3 W w.heap.size A3 i c3 ps := fun W bl' k => ho6.keep fun g hg => k.block g (hg6 g hg).1 (hg6 g hg).2
              have hcb : ∀ b ∈ cbl, b ∉ blr := fun b hb h => by have h1 := HS6.out.2 b hb; have h2 := HWR.out.1.inside b h; omega
              have HROW := Lib.hid hrow
              have HCB := Lib.hid hcb
              have HW6 := Lib.hid (HWR.out.fresh HS6.out.1)
              clear hnb ho1 hoo hgo ho6 hg6 hrow hcb
              go_loopw [70] (fun vi wr => ∃ (u N2 m2 : Nat) (bl2 : List Nat), vi = .int .i64 u ∧ u ≤ i ∧ m2 ≤ m + 100 + 22 * u ∧ Hid (N2 = N + 2 ^ m * (cat (headK T t t ++ (ps.take u).flatMap (partI T))).2) ∧ Hid (m2 = m + (cat (headK T t t ++ (ps.take u).flatMap (partI T))).1) ∧ Hid (WtrAt wr gw N2 m2 bl2) ∧ Hid (Turn blr bl2 w6 wr)) (fun vi _ => i - (intOf vi).toNat)
              case atStart => exact ⟨0, NN, mm, blr, rfl, Nat.zero_le _, by omega, Lib.hid (by rw [List.take_zero, List.flatMap_nil, List.append_nil]; exact HNN.out), Lib.hid (by rw [List.take_zero, List.flatMap_nil, List.append_nil]; exact HMM.out), HW6, Lib.hid (Turn.refl _ _)⟩
              case round =>
                obtain ⟨u, N2, m2, bl2, rfl, hui, hm2, HN2, HM2, HW2, HT2⟩ := hrel
                by_cases hlt3 : u < i
                · have hul : (u : Int) < (i : Int) := by omega
                  obtain ⟨p, hp⟩ : ∃ p, ps[u]? = some p := ⟨_, List.getElem?_eq_getElem (by rw [HK.out]; exact hlt3)⟩
                  obtain ⟨g, rfl, _, _, hrange⟩ := Own3.at_ (HROW.out wr _ HT2.out) hp
                  obtain ⟨p18, p27, p3b⟩ := HPA.out.each H15.out p (List.mem_of_getElem? hp)
                  have ht : ps.take (u + 1) = ps.take u ++ [p] := by rw [List.take_add_one, hp]; rfl
                  have hitems : headK T t t ++ (ps.take (u + 1)).flatMap (partI T) = (headK T t t ++ (ps.take u).flatMap (partI T)) ++ partI T p := by
                    rw [ht, List.flatMap_append, ← List.append_assoc]
                    simp
                  obtain ⟨a, b, hab⟩ : ∃ a b, Fs T 16 0 p.1 = (a, b) := ⟨_, _, rfl⟩
                  have ha : a ≤ 15 := by have := Fs_le T p.1; rw [hab] at this; exact this
                  obtain ⟨Y, hY⟩ : ∃ Y, rev a (u64 (b : Int)) = Y := ⟨_, rfl⟩
                  have hpi : partI T p = [(a, Y)] ++ [(p.2.1, p.2.2)] := by unfold partI; rw [hab, hY]; rfl
                  rw [hpi, ← List.append_assoc] at hitems
                  obtain ⟨c1, c2⟩ := cat_step N m a Y (headK T t t ++ (ps.take u).flatMap (partI T))
                  obtain ⟨d1, d2⟩ := cat_step N m p.2.1 p.2.2 ((headK T t t ++ (ps.take u).flatMap (partI T)) ++ [(a, Y)])
                  rw [← HM2.out, ← HN2.out] at c1
                  rw [← HM2.out] at c2
                  rw [← hitems, ← c1, ← c2] at d1
                  rw [← hitems, ← c2] at d2
                  obtain ⟨p1, p2, p3⟩ := p
                  simp only [pcell] at hrange
                  simp only at p18 p27 p3b d1 d2 hab
                  have D1 := Lib.hid d1
                  have D2 := Lib.hid d2
                  have HR := Lib.hid hrange
                  have HAB := Lib.hid hab
                  have HY := Lib.hid hY
                  have HP3B := Lib.hid p3b
                  obtain ⟨v0, hv0⟩ : ∃ v0, wr.heap.size = v0 := ⟨_, rfl⟩
                  have hvb := Bk.made wr tPart #[.int .i64 (p1 : Nat), .int .i64 (p2 : Nat), .int .i64 (p3 : Nat)]
                  rw [hv0] at hvb
                  have hvbl : v0 ∉ bl2 := fun h => by have := HW2.out.1.inside v0 h; omega
                  have HVB := Lib.hid hvb
                  have HVBL := Lib.hid hvbl
                  have HFA := Lib.hid (Fresh.alloc wr (.cells #[.int .i64 (p1 : Nat), .int .i64 (p2 : Nat), .int .i64 (p3 : Nat)] tPart))
                  have HCA := Lib.hid ((HC6.out.turn HT2.out HCB.out).fresh HFA.out)
                  clear hp hrange ht hitems hab hY hpi c1 c2 d1 d2 p3b hvb hvbl
                  go_wp2_with (first
                    | ((with_reducible (refine at_slot_ 73 ?_)); refine wpList_load_mid rfl tPart (.tmp 72) rfl g (u * 3) rfl _ _ HR.out Tryd.underlying92 rfl partSize ?_)
                    | (go_at_call 45; (refine (code_in gc T cbl p1 a b _ HCA.out (by rw [HT.out]; omega) HAB.out).mono ?_); rintro e w7 ⟨rfl, hf7⟩; have HF7 := Lib.hid (HFA.out.trans hf7); have HVB7 := Lib.hid (HVB.out.fresh hf7); clear hf7)
                    | (go_at_call 44; (refine (code_any gw N2 m2 a Y a b bl2 _ (HW2.out.fresh HF7.out) (by omega) (held_nat a (by omega)) HY.out).mono ?_); rintro e w8 ⟨rfl, bl8, hW8, hT8⟩; have HW8 := Lib.hid hW8; have HT8 := Lib.hid hT8; have hb8 := HVB7.out.old (hT8.block v0 HVB7.out.inside HVBL.out); have hk1 := hb8.cell (i := 1) rfl; have hk2 := hb8.cell (i := 2) rfl; clear hW8 hT8 hb8)
                    | (go_at_call 24; (refine (put_any gw (N2 + 2 ^ m2 * Y) (m2 + a) p2 p3 p2 p3 bl8 _ HW8.out (by omega) (held_nat p2 (by omega)) (by rw [u64_small p3 p2 p27 HP3B.out]; exact Nat.mod_eq_of_lt HP3B.out)).mono ?_); rintro e w9 ⟨rfl, bl9, hW9, hT9⟩; have HW9 := Lib.hid hW9; have HT9 := Lib.hid hT9; clear hW9 hT9))
                  refine ⟨⟨u + 1, N2 + 2 ^ m2 * Y + 2 ^ (m2 + a) * p3, m2 + a + p2, bl9, rfl, hlt3, by omega, D1, D2, HW9, Lib.hid (((HT2.out.trans (Turn.fresh HF7.out)).trans HT8.out).trans HT9.out)⟩, ?_⟩
                  show i - ((u : Int) + 1).toNat < i - ((u : Int)).toNat
                  omega
                · have hin : u = i := by omega
                  subst hin
                  have e : ps.take u = ps := List.take_of_length_le (by rw [HK.out]; exact Nat.le_refl _)
                  rw [e] at HN2 HM2
                  go_wp2
                  go_end0
                  refine ⟨rfl, T, t, ps, bl2, HPA.out, HCST.out, hj4, hj19, HT.out, HFIT.out, H7.out, ?_, HFUL.out, HZ.out, ?_, ?_⟩
                  · intro p hp
                    exact HPOS.out p hp p.1 rfl (by have := (HPA.out.each H15.out p hp).1; omega)
                  · have hw := HW2.out
                    rw [HN2.out, HM2.out] at hw
                    exact hw
                  · exact ((((Turn.fresh ((HF1.out.trans HF2.out).trans HFO.out)).trans HTR.out).trans (Turn.fresh HS6.out.1)).trans HT2.out)
end Go.Proofs.YtcmeoappddpmcaaDoor.defp
