/-
  Layer 13's reference: Match. My own text.
-/
import Derived.Test.YtkkkjadfhimahaaDoorGlbRfi
import Derived.Test.YtkkkjadfhimahaaDoorGlbMt
namespace Go.Proofs.YtkkkjadfhimahaaDoor.glbp
open Go.RowKit Go.Proofs.YtkkkjadfhimahaaDoor.base Go.Proofs.YtkkkjadfhimahaaDoor.nam Go.Proofs.YtkkkjadfhimahaaDoor.glb
set_option linter.unusedVariables false
abbrev tRGlob : TypeId := 30
/-- the places from i on are told -/
def from_ (i : Nat) (f : Nat → Bool) : Nat → Bool := fun j => if i ≤ j then f j else false
theorem from_set (L i : Nat) (f : Nat → Bool) (b : Bool) (hb : b = f i) : (rowB L (from_ (i + 1) f)).set i (.bool b) = rowB L (from_ i f) := by
  rw [rowB_set]
  refine rowB_congr fun j hj => ?_
  unfold from_
  by_cases h : j = i
  · subst h; rw [if_pos rfl, if_pos (Nat.le_refl _), hb]
  · rw [if_neg h]
    by_cases h2 : i + 1 ≤ j
    · rw [if_pos h2, if_pos (by omega)]
    · rw [if_neg h2, if_neg (by omega)]
theorem from_zero (L : Nat) (f : Nat → Bool) : rowB L (from_ 0 f) = rowB L f := rowB_congr fun j _ => if_pos (Nat.zero_le _)
theorem kd_many (p : Pt) : many p = (decide (kd p = 2) || decide (kd p = 3)) := by cases p <;> rfl
theorem from_top (L : Nat) (f : Nat → Bool) (h : f L = false) : (rowB (L + 1) fun _ => false) = rowB (L + 1) (from_ L f) := rowB_congr fun j hj => by
  unfold from_
  by_cases h2 : L ≤ j
  · obtain rfl : j = L := by omega
    rw [if_pos (Nat.le_refl _), h]
  · rw [if_neg h2]
theorem from_top1 (L : Nat) (f : Nat → Bool) : (rowB (L + 1) fun _ => false) = rowB (L + 1) (from_ (L + 1) f) := rowB_congr fun j hj => by
  unfold from_
  rw [if_neg (by omega)]
theorem drop_parts {ps : List Pt} {k : Nat} {p : Pt} (h : ps[k]? = some p) : ps.drop k = p :: ps.drop (k + 1) := by
  have h1 := (List.getElem?_eq_some_iff.1 h).1
  rw [List.drop_eq_getElem_cons h1]
  congr 1
  rw [List.getElem?_eq_getElem h1] at h
  exact Option.some.inj h
theorem kd_not (p : Pt) (h : many p = false) : ((kd p : Int) == 2) = false ∧ ((kd p : Int) == 3) = false := by
  cases p with
  | star => cases h
  | all => cases h
  | _ => exact ⟨rfl, rfl⟩
theorem fits_at (vk vr : Nat) (vn : Bool) (vl : Nat) (A1 : Option Addr) (c1 : Nat) (A2 : Option Addr) (c2 : Nat) (p : Pt) (x : Nat) (Z : Int) (hZ : (vk : Int) = Z) (hm : many p = false) (w : World) (hv : RPtV w ⟨vk, vr, vn, vl, A1, c1, A2, c2⟩ p) :
    Calls Tryd.prog 23 #[.agg #[.int .i64 Z, iv (vr : Nat), .bool vn, .slice A1 vl c1, .slice A2 vl c2], iv (x : Nat)] w (HasIs p x w) := by
  subst hZ
  exact fits_any ⟨vk, vr, vn, vl, A1, c1, A2, c2⟩ p x w hv hm
theorem partSizeR : (Tryd.prog.info? tRPart).map (·.size) = some 5 := by kernel_rfl
set_option maxHeartbeats 8000000 in
set_option maxRecDepth 100000 in
theorem refMatch_any (A : Option Addr) (l cA m cN : Nat) (ps : List Pt) (N : Option Addr) (n : List Nat) (w : World) (hA : RPts w A l ps) (hN : Rd w w.heap.size N m (ir n)) (hl : l ≤ 1000) (hm : m ≤ 1000) :
    Calls Tryd.prog 13 #[.agg #[.slice A l cA, iv 0], .slice N m cN] w fun e w' => e = .returned (.bool (mt ps n)) ∧ Fresh w w' := by
  obtain ⟨i0, hi0, hz0, hz1, hz2⟩ := info_parts boolInfo
  have hps : ps.length = l := by obtain ⟨vs, h1, h2, h3, h4⟩ := hA; exact h2
  have hn : n.length = m := by have := hN.1; rwa [List.length_map] at this
  have hb0 := Bk.made w tRGlob #[.slice A l cA, iv 0]
  have hf0 := Fresh.alloc w (.cells #[.slice A l cA, iv 0] tRGlob)
  have hs0 : (w.alloc (.cells #[.slice A l cA, iv 0] tRGlob)).heap.size = w.heap.size + 1 := by simp
  have k00 := hb0.cell (i := 0) rfl
  have HA := Lib.hid hA
  have HN := Lib.hid hN
  have HL := Lib.hid hps
  have HNL := Lib.hid hn
  have HB0 := Lib.hid hb0
  have HF0 := Lib.hid hf0
  have em : IntKind.i64.wrap ((l : Int) + 1) = ((l + 1 : Nat) : Int) := by rw [IntWalk.i64_in _ (by omega)]; omega
  have HEM := Lib.hid em
  clear hA hN hps hn hb0 hf0
  obtain ⟨F0, hF0⟩ : ∃ F : Nat → Bool, F = fun j => mt (ps.drop j) [] := ⟨_, rfl⟩
  have hF0l : F0 l = true := by rw [hF0]; show mt (ps.drop l) [] = true; rw [List.drop_of_length_le (by rw [HL.out]; exact Nat.le_refl _)]; rfl
  have hF0s : ∀ k p, ps[k]? = some p → F0 k = (F0 (k + 1) && (decide (kd p = 2) || decide (kd p = 3))) := fun k p hp => by
    rw [hF0]
    show mt (ps.drop k) [] = (mt (ps.drop (k + 1)) [] && _)
    rw [drop_parts hp, ← kd_many]
    cases hmm : many p with
    | true => rw [mt_many_nil hmm]; simp
    | false => rw [mt_one_nil hmm]; simp
  have HF0L := Lib.hid hF0l
  have HF0S := Lib.hid hF0s
  have HF0E := Lib.hid hF0
  clear hF0l hF0s hF0
  go_enter Tryd.func13, Tryd.ntmps13
  go_wp2_with ((with_reducible (refine at_slot_ 15 ?_)); refine wpList_make_blk rfl 62 (.tmp 14) (.tmp 14) rfl tBool i0 (.bool false) Tryd.underlying62 hi0 hz0 hz1 rfl (l + 1) (by first | rfl | (simp; done) | simp [HEM.out]) (by first | rfl | (simp; done) | simp [HEM.out]) (by rw [hz2]; omega) (by unfold maxLen; omega) (w.heap.size + 1) hs0 ?_; intro w1 hb1 hf1; rw [rep_false] at hb1; have f1 := hb1.free l; have k1 := hb1.cell (rowB_get _ (show l < l + 1 by omega)); have kg := (HB0.out.fresh hf1).cell (i := 0) rfl; have HB1 := Lib.hid hb1; have HF1 := Lib.hid hf1; clear hb1 hf1)
  have hset : Bk (w1.setCell ⟨w.heap.size + 1, l, none⟩ (.bool true)) (w.heap.size + 1) tBool (rowB (l + 1) (from_ l F0)) := by
    have h := HB1.out.put l (.bool true)
    rw [from_top1 l F0, from_set _ _ _ _ HF0L.out.symm] at h
    exact h
  have HSET := Lib.hid hset
  have HF2 := Lib.hid (Fresh.but (HF0.out.trans HF1.out) (Nat.le_succ _) (But.put (g := w.heap.size + 1) (i := l) w1 (.bool true)))
  have HG2 := Lib.hid ((HB0.out.fresh HF1.out).apart (p := ⟨w.heap.size + 1, l, none⟩) (by simp) (.bool true))
  clear hset f1 k1 kg
  go_loopw [6] (fun v wr => ∃ k : Nat, k ≤ l ∧ v = .int .i64 ((k : Int) - 1) ∧ Bk wr (w.heap.size + 1) tBool (rowB (l + 1) (from_ k F0)) ∧ Bk wr w.heap.size tRGlob [.slice A l cA, iv 0] ∧ Fresh w wr) (fun v _ => ((intOf v) + 1).toNat)
  case atStart => exact ⟨l, Nat.le_refl _, rfl, HSET.out, HG2.out, HF2.out⟩
  case round =>
    obtain ⟨k, hk, rfl, hb, hg, hfr⟩ := hrel
    cases k with
    | succ k =>
      have hlt : k < l := by omega
      obtain ⟨p, hp⟩ : ∃ p, ps[k]? = some p := ⟨_, List.getElem?_eq_getElem (by rw [HL.out]; exact hlt)⟩
      obtain ⟨b, off, v, rfl, hrg, hpv⟩ := (HA.out.fresh hfr).at_ hp
      have hkd := hrg 0 _ rfl
      rw [hpv.1, Nat.add_zero] at hkd
      have ek : ((k + 1 : Nat) : Int) - 1 = (k : Int) := by omega
      rw [ek]
      have k0 := hb.cell (rowB_get _ (show k < l + 1 by omega))
      have k1 := hb.cell (rowB_get _ (show k + 1 < l + 1 by omega))
      have f0 := hb.free k
      have g0 := hg.cell (i := 0) rfl
      have hfk : from_ (k + 1) F0 (k + 1) = F0 (k + 1) := if_pos (Nat.le_refl _)
      rw [hfk] at k1
      have hst := HF0S.out k p hp
      obtain ⟨e1, he1⟩ : ∃ e1, F0 (k + 1) = e1 := ⟨_, rfl⟩
      rw [he1] at k1 hst
      have d2 : ((kd p : Int) == 2) = decide (kd p = 2) := by
        by_cases h : kd p = 2
        · rw [decide_eq_true h, h]; rfl
        · rw [decide_eq_false h, beq_eq_false_iff_ne]; omega
      have d3 : ((kd p : Int) == 3) = decide (kd p = 3) := by
        by_cases h : kd p = 3
        · rw [decide_eq_true h, h]; rfl
        · rw [decide_eq_false h, beq_eq_false_iff_ne]; omega
      obtain ⟨b2, hb2⟩ : ∃ b2, decide (kd p = 2) = b2 := ⟨_, rfl⟩
      obtain ⟨b3, hb3⟩ : ∃ b3, decide (kd p = 3) = b3 := ⟨_, rfl⟩
      rw [hb2] at d2 hst
      rw [hb3] at d3 hst
      obtain ⟨Z, hZ⟩ : ∃ Z : Int, (kd p : Int) = Z := ⟨_, rfl⟩
      rw [hZ] at hkd d2 d3
      have hput := fun (bb : Bool) (e : bb = F0 k) => show Bk (wr.setCell ⟨w.heap.size + 1, k, none⟩ (.bool bb)) (w.heap.size + 1) tBool (rowB (l + 1) (from_ k F0)) by
        have h := hb.put k (.bool bb)
        rwa [from_set _ _ _ _ e] at h
      have hg9 := fun bb : Value => hg.apart (p := ⟨w.heap.size + 1, k, none⟩) (by simp) bb
      have HST := Lib.hid hst
      have HP := Lib.hid hput
      have HG9 := Lib.hid hg9
      have HFR := Lib.hid hfr
      have x1 : (k : Int) + 1 < (l : Int) + 1 := by omega
      have x2 : (k : Int) < (l : Int) := by omega
      have x3 : (0 : Int) ≤ (k : Int) + 1 := by omega
      have x4 : (k : Int) < (l : Int) + 1 := by omega
      clear hp hrg hpv hfk hst he1 hb2 hb3 hZ hput hg9 hb hg hfr
      cases e1
      all_goals cases b2
      all_goals cases b3
      all_goals
        go_wp2
        go_roundw
        case rel => exact ⟨k, by omega, by go_num, HP.out _ (by rw [HST.out]; rfl), HG9.out _, Fresh.but HFR.out (Nat.le_succ _) (But.put _ _)⟩
        case measure => simp [intOf]
    | zero =>
      rw [show ((0 : Nat) : Int) - 1 = -1 from rfl]
      rw [from_zero] at hb
      have hb9 : Bk wr (w.heap.size + 1) tBool (rowB (l + 1) fun j => mt (ps.drop j) []) := by rw [← HF0E.out]; exact hb
      have g0 := hg.cell (i := 0) rfl
      have HB9 := Lib.hid hb9
      have HG := Lib.hid hg
      have HFR := Lib.hid hfr
      clear hb hg hfr hb9 HSET HG2 HF2 HF0L HF0S HF0E HB1 HF1
      clear HEM
      have em : IntKind.i64.wrap ((l : Int) + 1) = ((l + 1 : Nat) : Int) := by rw [IntWalk.i64_in _ (by omega)]; omega
      have HEM := Lib.hid em
      clear em
      go_wp2
      go_loopw [5, 7] (fun v5 v wx => ∃ k g : Nat, k ≤ m ∧ v5 = .slice (some ⟨g, 0, none⟩) (l + 1) (l + 1) ∧ v = .int .i64 ((k : Int) - 1) ∧ w.heap.size + 1 ≤ g ∧ Bk wx g tBool (rowB (l + 1) fun j => mt (ps.drop j) (n.drop k)) ∧ Bk wx w.heap.size tRGlob [.slice A l cA, iv 0] ∧ Fresh w wx) (fun _ v _ => ((intOf v) + 1).toNat)
      case atStart => exact ⟨m, w.heap.size + 1, Nat.le_refl _, rfl, rfl, Nat.le_refl _, by rw [List.drop_of_length_le (by rw [HNL.out]; exact Nat.le_refl _)]; exact HB9.out, HG.out, HFR.out⟩
      case round =>
        obtain ⟨k, g, hk, rfl, rfl, hgg, hb, hg, hfr⟩ := hrel
        clear HB9 HG HFR g0
        cases k with
        | succ k =>
          have hlt : k < m := by omega
          obtain ⟨x, hx⟩ : ∃ x, n[k]? = some x := ⟨_, List.getElem?_eq_getElem (by rw [HNL.out]; exact hlt)⟩
          have hnd := drop_head hx
          have ek : ((k + 1 : Nat) : Int) - 1 = (k : Int) := by omega
          rw [ek]
          obtain ⟨F, hF⟩ : ∃ F : Nat → Bool, F = fun j => mt (ps.drop j) (n.drop k) := ⟨_, rfl⟩
          obtain ⟨F1, hF1⟩ : ∃ F1 : Nat → Bool, F1 = fun j => mt (ps.drop j) (n.drop (k + 1)) := ⟨_, rfl⟩
          have hFl : F l = false := by rw [hF]; show mt (ps.drop l) _ = false; rw [List.drop_of_length_le (by rw [HL.out]; exact Nat.le_refl _), hnd]; rfl
          have hmany : ∀ i p, ps[i]? = some p → many p = true → F i = (F (i + 1) || (F1 i && (decide (kd p = 3) || decide (x ≠ 47)))) := fun i p hp h => by
            rw [hF, hF1]
            show mt (ps.drop i) (n.drop k) = (mt (ps.drop (i + 1)) (n.drop k) || (mt (ps.drop i) (n.drop (k + 1)) && _))
            rw [drop_parts hp, hnd, mt_many h, Bool.and_comm (has p x)]
            congr 2
            cases p with
            | star => rfl
            | all => rfl
            | _ => cases h
          have hone : ∀ i p, ps[i]? = some p → many p = false → F i = (F1 (i + 1) && has p x) := fun i p hp h => by
            rw [hF, hF1]
            show mt (ps.drop i) (n.drop k) = (mt (ps.drop (i + 1)) (n.drop (k + 1)) && has p x)
            rw [drop_parts hp, hnd, mt_one h, Bool.and_comm]
          rw [← hF1] at hb
          have HF := Lib.hid hF
          have HFL := Lib.hid hFl
          have HMANY := Lib.hid hmany
          have HONE := Lib.hid hone
          have HB := Lib.hid hb
          have HG := Lib.hid hg
          have HFR := Lib.hid hfr
          have HXX := Lib.hid hx
          have g0 := hg.cell (i := 0) rfl
          clear hnd hF hF1 hFl hmany hone hb hg hfr hx
          go_wp2_with ((with_reducible (refine at_slot_ 66 ?_)); refine wpList_make_blk rfl 62 (.tmp 65) (.tmp 65) rfl tBool i0 (.bool false) Tryd.underlying62 hi0 hz0 hz1 rfl (l + 1) (by first | rfl | (simp; done) | simp [HEM.out]) (by first | rfl | (simp; done) | simp [HEM.out]) (by rw [hz2]; omega) (by unfold maxLen; omega) wr.heap.size rfl ?_; intro w3 hb3 hf3; rw [rep_false] at hb3; have kg := (HG.out.fresh hf3).cell (i := 0) rfl; have HB3 := Lib.hid hb3; have HF3 := Lib.hid hf3; clear hb3 hf3)
          have hgl : g < wr.heap.size := HB.out.inside
          obtain ⟨V, hV⟩ : ∃ V : World, V = wr := ⟨wr, rfl⟩
          subst hV
          go_loopw [9] (fun v wr => ∃ i : Nat, i ≤ l ∧ v = .int .i64 ((i : Int) - 1) ∧ Bk wr V.heap.size tBool (rowB (l + 1) (from_ i F)) ∧ Bk wr g tBool (rowB (l + 1) F1) ∧ Bk wr w.heap.size tRGlob [.slice A l cA, iv 0] ∧ Fresh w wr) (fun v _ => ((intOf v) + 1).toNat)
          case atStart => exact ⟨l, Nat.le_refl _, rfl, by rw [← from_top l F HFL.out]; exact HB3.out, HB.out.fresh HF3.out, HG.out.fresh HF3.out, HFR.out.trans HF3.out⟩
          case round =>
            obtain ⟨i, hi, rfl, hnow, hbel, hg, hfr⟩ := hrel
            clear kg g0
            cases i with
            | succ i =>
              have hlt2 : i < l := by omega
              obtain ⟨p, hp⟩ : ∃ p, ps[i]? = some p := ⟨_, List.getElem?_eq_getElem (by rw [HL.out]; exact hlt2)⟩
              obtain ⟨b, off, v, rfl, hrg, hpv⟩ := (HA.out.fresh hfr).at_ hp
              obtain ⟨b', off', x', rfl, hb', hx', hcx⟩ := (HN.out.below hfr (Nat.le_refl _)).at_ hlt
              obtain rfl : x = x' := by have h := HXX.out; rw [hx'] at h; injection h with h; exact h.symm
              have ek : ((i + 1 : Nat) : Int) - 1 = (i : Int) := by omega
              rw [ek]
              obtain ⟨vk, vr, vn, vl, A1, c1, A2, c2⟩ := v
              have hvk : vk = kd p := hpv.1
              obtain ⟨Z, hZ⟩ : ∃ Z : Int, (vk : Int) = Z := ⟨_, rfl⟩
              have hrg2 : wr.rangeAt b (off + i * 5) [.int .i64 Z, iv (vr : Nat), .bool vn, .slice A1 vl c1, .slice A2 vl c2] := by rw [← hZ]; exact hrg
              obtain ⟨X, hX⟩ : ∃ X : Obj, .cells #[.int .i64 Z, iv (vr : Nat), .bool vn, .slice A1 vl c1, .slice A2 vl c2] tRPart = X := ⟨_, rfl⟩
              have n0 := (hnow.alloc X).cell (rowB_get _ (show i < l + 1 by omega))
              have n1 := (hnow.alloc X).cell (rowB_get _ (show i + 1 < l + 1 by omega))
              have nf := (hnow.alloc X).free i
              have b0 := (hbel.alloc X).cell (rowB_get _ (show i < l + 1 by omega))
              have b1 := (hbel.alloc X).cell (rowB_get _ (show i + 1 < l + 1 by omega))
              have g0 := hg.cell (i := 0) rfl
              have hbx : b' < wr.heap.size := by have := hfr.size; omega
              have hcx2 : (wr.alloc X).cell? ⟨b', off' + k, none⟩ = some (iv (x : Nat)) := (World.cell?_of_block (Below.heap_alloc wr X b' hbx)).trans hcx
              have hfk : from_ (i + 1) F (i + 1) = F (i + 1) := if_pos (Nat.le_refl _)
              rw [hfk] at n1
              have hput := fun (W : World) (bb : Bool) (hW : Fresh (wr.alloc X) W) (e : bb = F i) => show Bk (W.setCell ⟨V.heap.size, i, none⟩ (.bool bb)) V.heap.size tBool (rowB (l + 1) (from_ i F)) ∧ Bk (W.setCell ⟨V.heap.size, i, none⟩ (.bool bb)) g tBool (rowB (l + 1) F1) ∧ Bk (W.setCell ⟨V.heap.size, i, none⟩ (.bool bb)) w.heap.size tRGlob [.slice (some ⟨b, off, none⟩) l cA, iv 0] ∧ Fresh w (W.setCell ⟨V.heap.size, i, none⟩ (.bool bb)) by
                have h := ((hnow.alloc X).fresh hW).put i (.bool bb)
                rw [from_set _ _ _ _ e] at h
                refine ⟨h, ((hbel.alloc X).fresh hW).apart (p := ⟨V.heap.size, i, none⟩) (by simp; omega) _, ((hg.alloc X).fresh hW).apart (p := ⟨V.heap.size, i, none⟩) (by simp; omega) _, Fresh.but ((hfr.trans (Fresh.alloc wr X)).trans hW) (by omega) (But.put _ _)⟩
              have hpv4 : RPtV (wr.alloc X) ⟨vk, vr, vn, vl, A1, c1, A2, c2⟩ p := hpv.keep (KeepT.fresh (Fresh.alloc wr X))
              have hnf : ∀ W, Fresh (wr.alloc X) W → W.frozen? ⟨V.heap.size, i, none⟩ = false ∧ W.cell? ⟨V.heap.size, i, none⟩ = some (.bool (from_ (i + 1) F i)) := fun W hW => ⟨((hnow.alloc X).fresh hW).free i, ((hnow.alloc X).fresh hW).cell (rowB_get _ (show i < l + 1 by omega))⟩
              have HRG := Lib.hid hrg2
              have HPUT := Lib.hid hput
              have HPV := Lib.hid hpv4
              have HNF := Lib.hid hnf
              have x1 : (i : Int) + 1 < (l : Int) + 1 := by omega
              have x2 : (i : Int) < (l : Int) := by omega
              have x3 : (0 : Int) ≤ (i : Int) + 1 := by omega
              have x4 : (i : Int) < (l : Int) + 1 := by omega
              have x5 : (k : Int) < (m : Int) := by omega
              have hZk : (kd p : Int) = Z := by rw [← hvk]; exact hZ
              have HXE := Lib.hid hX
              clear hrg hrg2 hpv hput hpv4 hnf hcx hx' hfk hnow hbel hg hfr hb' hbx
              cases hmm : many p with
              | true =>
                have hst := HMANY.out i p hp hmm
                have q47 : ((x : Int) != 47) = decide (x ≠ 47) := ne47 x
                obtain ⟨X47, hX47⟩ : ∃ B, decide (x ≠ 47) = B := ⟨_, rfl⟩
                rw [hX47] at q47 hst
                obtain ⟨en, hen⟩ : ∃ e, F (i + 1) = e := ⟨_, rfl⟩
                obtain ⟨eb, heb⟩ : ∃ e, F1 i = e := ⟨_, rfl⟩
                rw [hen] at hst n1
                rw [heb] at hst b0
                have hk23 : Z = 2 ∨ Z = 3 := by
                  cases p with
                  | star => left; rw [← hZk]; rfl
                  | all => right; rw [← hZk]; rfl
                  | _ => cases hmm
                have hd3 : decide (kd p = 3) = (Z == 3) := by
                  rw [← hZk]
                  by_cases h : kd p = 3
                  · rw [decide_eq_true h, h]; rfl
                  · rw [decide_eq_false h]; symm; rw [beq_eq_false_iff_ne]; omega
                rw [hd3] at hst
                have HST := Lib.hid hst
                have HZ := Lib.hid hZ
                have HEX := HXE.out
                subst HEX
                clear hst hp hmm hX47 hen heb hZk hd3 hvk hZ HXE
                rcases hk23 with rfl | rfl
                all_goals cases en
                all_goals cases eb
                all_goals cases X47
                all_goals
                  go_wp2_with ((with_reducible (refine at_slot_ 79 ?_)); refine wpList_load_mid rfl tRPart (.tmp 78) rfl b (off + i * 5) rfl [.int .i64 _, iv (vr : Nat), .bool vn, .slice A1 vl c1, .slice A2 vl c2] _ HRG.out Tryd.underlying55 rfl partSizeR ?_)
                  go_roundw
                  case rel =>
                    obtain ⟨r1, r2, r3, r4⟩ := HPUT.out _ _ (Fresh.refl _) (show _ = F i by rw [HST.out])
                    exact ⟨i, by omega, by go_num, r1, r2, r3, r4⟩
                  case measure => simp [intOf]
              | false =>
                have hst := HONE.out i p hp hmm
                obtain ⟨eb, heb⟩ : ∃ e, F1 (i + 1) = e := ⟨_, rfl⟩
                rw [heb] at hst b1
                have t23 := kd_not p hmm
                rw [hZk] at t23
                obtain ⟨t2, t3⟩ := t23
                have hfit : ∀ W, Fresh (wr.alloc X) W → Calls Tryd.prog 23 #[.agg #[.int .i64 Z, iv (vr : Nat), .bool vn, .slice A1 vl c1, .slice A2 vl c2], iv (x : Nat)] W (HasIs p x W) := fun W hW => fits_at vk vr vn vl A1 c1 A2 c2 p x Z hZ hmm W (HPV.out.keep (KeepT.fresh hW))
                have HFIT := Lib.hid hfit
                have HST := Lib.hid hst
                have HZ := Lib.hid hZ
                have hbox := Bk.made wr tRPart #[.int .i64 Z, iv (vr : Nat), .bool vn, .slice A1 vl c1, .slice A2 vl c2]
                have HBOX := Lib.hid hbox
                have HEX := HXE.out
                subst HEX
                clear hst hp hmm heb hZk hvk hZ HXE hfit hbox
                cases eb with
                | false =>
                  go_wp2_with ((with_reducible (refine at_slot_ 79 ?_)); refine wpList_load_mid rfl tRPart (.tmp 78) rfl b (off + i * 5) rfl [.int .i64 Z, iv (vr : Nat), .bool vn, .slice A1 vl c1, .slice A2 vl c2] _ HRG.out Tryd.underlying55 rfl partSizeR ?_)
                  go_region
                  go_wp2
                  go_roundw
                  case rel =>
                    obtain ⟨r1, r2, r3, r4⟩ := HPUT.out _ false (Fresh.refl _) (show _ = F i by rw [HST.out]; rfl)
                    exact ⟨i, by omega, by go_num, r1.fresh (Fresh.drew _), r2.fresh (Fresh.drew _), r3.fresh (Fresh.drew _), r4.trans (Fresh.drew _)⟩
                  case measure => simp [intOf]
                | true =>
                  go_wp2_with ((with_reducible (refine at_slot_ 79 ?_)); refine wpList_load_mid rfl tRPart (.tmp 78) rfl b (off + i * 5) rfl [.int .i64 Z, iv (vr : Nat), .bool vn, .slice A1 vl c1, .slice A2 vl c2] _ HRG.out Tryd.underlying55 rfl partSizeR ?_)
                  have ewi : IntKind.i64.wrap ((i : Int) + 1) = ((i + 1 : Nat) : Int) := by rw [IntWalk.i64_in _ (by omega)]; omega
                  go_region_law ((with_reducible refine gst_slot_ 127 ?_); go_simp; (refine (HFIT.out _ (Fresh.drew _)).mono ?_); rintro e w7 ⟨rfl, hf7⟩; have hnn := HNF.out _ ((Fresh.drew _).trans hf7); have nf7 := hnn.1; have nc7 := hnn.2; have HF7 := Lib.hid ((Fresh.drew _).trans hf7); clear hf7 hnn)
                  all_goals go_wp2
                  all_goals
                    obtain ⟨r1, r2, r3, r4⟩ := HPUT.out _ (has p x) HF7.out (show _ = F i by rw [HST.out]; rfl)
                    exact ⟨⟨i, by omega, by go_num, r1, r2, r3, r4⟩, by simp [intOf]⟩
            | zero =>
              rw [from_zero] at hnow
              have hnow2 : Bk wr V.heap.size tBool (rowB (l + 1) fun j => mt (ps.drop j) (n.drop k)) := by rw [← HF.out]; exact hnow
              have HNW := Lib.hid hnow2
              have HGX := Lib.hid hg
              have HFX := Lib.hid hfr
              have hvg : w.heap.size + 1 ≤ V.heap.size := by omega
              clear hnow hnow2 hbel hg hfr
              go_wp2
              go_roundw
              case rel => exact ⟨k, V.heap.size, by omega, rfl, by first | rfl | go_num, hvg, HNW.out, HGX.out, HFX.out⟩
              case measure => simp [intOf]
        | zero =>
          have k0 := hb.cell (rowB_get _ (show 0 < l + 1 by omega))
          have hd0 : mt (ps.drop 0) (n.drop 0) = mt ps n := by rw [List.drop_zero, List.drop_zero]
          simp only [hd0] at k0
          obtain ⟨R, hR⟩ : ∃ R, mt ps n = R := ⟨_, rfl⟩
          rw [hR] at k0
          have HRR := Lib.hid hR
          have HFX := Lib.hid hfr
          clear hb hg hfr hd0 hR
          go_wp2
          go_ret
          exact ⟨by rw [HRR.out]; rfl, HFX.out⟩
end Go.Proofs.YtkkkjadfhimahaaDoor.glbp
