/-
  Layer 13's reference: parts as they lie; fits. My own text.
-/
import Derived.Test.YtkkkjadfhimahaaDoorGlbRcl
import Derived.Test.YtkkkjadfhimahaaDoorGlbGo
namespace Go.Proofs.YtkkkjadfhimahaaDoor.glbp
open Go.RowKit Go.Proofs.YtkkkjadfhimahaaDoor.base Go.Proofs.YtkkkjadfhimahaaDoor.nam Go.Proofs.YtkkkjadfhimahaaDoor.glb
set_option linter.unusedVariables false
def kd : Pt → Nat
  | .it _ => 0
  | .one => 1
  | .star => 2
  | .all => 3
  | .cls _ _ => 4
def rv1 : Pt → Nat
  | .it r => r
  | _ => 0
def ng : Pt → Bool
  | .cls n _ => n
  | _ => false
def spn : Pt → List (Nat × Nat)
  | .cls _ sp => sp
  | _ => []
/-- a part of the reference's -/
structure RPart where
  kd : Nat
  r : Nat
  ng : Bool
  len : Nat
  A1 : Option Addr
  c1 : Nat
  A2 : Option Addr
  c2 : Nat
def RPart.val (v : RPart) : List Value := [iv (v.kd : Nat), iv (v.r : Nat), .bool v.ng, .slice v.A1 v.len v.c1, .slice v.A2 v.len v.c2]
theorem rval_len (v : RPart) : v.val.length = 5 := rfl
/-- it tells this part -/
def RPtV (w : World) (v : RPart) (p : Pt) : Prop :=
  v.kd = kd p ∧ v.r = rv1 p ∧ v.ng = ng p ∧ v.len = (spn p).length ∧ v.len ≤ 1000 ∧ RdT w tInt v.A1 (ir ((spn p).map Prod.fst)) ∧ RdT w tInt v.A2 (ir ((spn p).map Prod.snd))
theorem RPtV.keep {w w' : World} {v : RPart} {p : Pt} (h : RPtV w v p) (k : KeepT tInt w w') : RPtV w' v p :=
  ⟨h.1, h.2.1, h.2.2.1, h.2.2.2.1, h.2.2.2.2.1, h.2.2.2.2.2.1.keep k, h.2.2.2.2.2.2.keep k⟩
/-- a row of them -/
def RPts (w : World) (A : Option Addr) (n : Nat) (ps : List Pt) : Prop :=
  ∃ vs : List RPart, vs.length = n ∧ ps.length = n ∧ RdT w tRPart A (vs.flatMap RPart.val) ∧ ∀ (j : Nat) (v : RPart) (p : Pt), vs[j]? = some v → ps[j]? = some p → RPtV w v p
theorem RPts.keep {w w' : World} {A : Option Addr} {n : Nat} {ps : List Pt} (h : RPts w A n ps) (k : KeepT tInt w w') (k2 : KeepT tRPart w w') : RPts w' A n ps := by
  obtain ⟨vs, h1, h2, h3, h4⟩ := h
  exact ⟨vs, h1, h2, h3.keep k2, fun j v p hv hp => (h4 j v p hv hp).keep k⟩
theorem RPts.fresh {w w' : World} {A : Option Addr} {n : Nat} {ps : List Pt} (h : RPts w A n ps) (k : Fresh w w') : RPts w' A n ps := h.keep (KeepT.fresh k) (KeepT.fresh k)
theorem RPts.at_ {w : World} {A : Option Addr} {n : Nat} {ps : List Pt} (h : RPts w A n ps) {j : Nat} {p : Pt} (hp : ps[j]? = some p) : ∃ b off v, A = some ⟨b, off, none⟩ ∧ w.rangeAt b (off + j * 5) (RPart.val v) ∧ RPtV w v p := by
  obtain ⟨vs, h1, h2, h3, h4⟩ := h
  have hj := (List.getElem?_eq_some_iff.1 hp).1
  obtain ⟨v, hv⟩ : ∃ v, vs[j]? = some v := ⟨_, List.getElem?_eq_getElem (by omega)⟩
  obtain ⟨b, off, hA, hr⟩ := h3.range (o := j * 5) (vs := v.val) (by simp [RPart.val]) (fun i u hu => flat_at rval_len vs j v hv i u hu)
  exact ⟨b, off, v, hA, hr, h4 j v p hv hp⟩
theorem inS_step (sp : List (Nat × Nat)) (r k : Nat) (s : Nat × Nat) (h : sp[k]? = some s) : inS (sp.take (k + 1)) r = (inS (sp.take k) r || (decide (s.1 ≤ r) && decide (r ≤ s.2))) := by
  unfold inS
  rw [List.take_add_one, h]
  show (sp.take k ++ [s]).any _ = _
  rw [List.any_append]
  simp
set_option maxRecDepth 100000 in
theorem fits_it (v : RPart) (q r : Nat) (w : World) (hv : RPtV w v (.it q)) :
    Calls Tryd.prog 23 #[.agg v.val.toArray, iv (r : Nat)] w (HasIs (.it q) r w) := by
  obtain ⟨vk, vr, vn, vl, A1, c1, A2, c2⟩ := v
  obtain ⟨h1, h2, h3, h4, _⟩ := hv
  simp only at h1 h2 h3 h4
  replace h2 : q = vr := h2.symm
  subst h1; subst h2; subst h3; subst h4
  have e1 : has (.it q) r = ((q : Int) == (r : Int)) := by
    rw [has]
    by_cases h : r = q
    · subst h; simp
    · rw [decide_eq_false h]; symm; rw [beq_eq_false_iff_ne]; omega
  have hb := Bk.made w tRPart #[iv 0, iv (q : Nat), .bool false, .slice A1 0 c1, .slice A2 0 c2]
  have k0 := hb.cell (i := 0) rfl
  have k1 := hb.cell (i := 1) rfl
  unfold HasIs
  show Calls Tryd.prog 23 #[.agg #[iv 0, iv (q : Nat), .bool false, .slice A1 0 c1, .slice A2 0 c2], iv (r : Nat)] w _
  rw [e1]
  clear e1 hb
  go_enter Tryd.func23, Tryd.ntmps23
  go_wp2
  go_ret
  exact ⟨by first | rfl | simp, Fresh.alloc _ _⟩
theorem fits_one (v : RPart) (r : Nat) (w : World) (hv : RPtV w v .one) :
    Calls Tryd.prog 23 #[.agg v.val.toArray, iv (r : Nat)] w (HasIs .one r w) := by
  obtain ⟨vk, vr, vn, vl, A1, c1, A2, c2⟩ := v
  obtain ⟨h1, h2, h3, h4, _⟩ := hv
  simp only at h1 h2 h3 h4
  subst h1; subst h2; subst h3; subst h4
  have hb := Bk.made w tRPart #[iv 1, iv 0, .bool false, .slice A1 0 c1, .slice A2 0 c2]
  have k0 := hb.cell (i := 0) rfl
  unfold HasIs
  show Calls Tryd.prog 23 #[.agg #[iv 1, iv 0, .bool false, .slice A1 0 c1, .slice A2 0 c2], iv (r : Nat)] w _
  clear hb
  by_cases h : r = 47
  · subst h
    have e1 : has .one 47 = false := rfl
    rw [e1]
    go_enter Tryd.func23, Tryd.ntmps23
    go_wp2
    go_ret
    exact ⟨rfl, Fresh.alloc _ _⟩
  · have e1 : has .one r = true := decide_eq_true h
    have t1 : ((r : Int) == 47) = false := by rw [beq_eq_false_iff_ne]; omega
    rw [e1]
    clear e1 h
    go_enter Tryd.func23, Tryd.ntmps23
    go_wp2
    go_ret
    exact ⟨rfl, Fresh.alloc _ _⟩
set_option maxRecDepth 100000 in
theorem fits_cls (v : RPart) (nt : Bool) (sp : List (Nat × Nat)) (r : Nat) (w : World) (hv : RPtV w v (.cls nt sp)) :
    Calls Tryd.prog 23 #[.agg v.val.toArray, iv (r : Nat)] w (HasIs (.cls nt sp) r w) := by
  obtain ⟨vk, vr, vn, vl, A1, c1, A2, c2⟩ := v
  obtain ⟨h1, h2, h3, h4, h5, h6, h7⟩ := hv
  simp only at h1 h2 h3 h4 h5 h6 h7
  replace h3 : nt = vn := h3.symm
  subst h1; subst h2; subst h3
  have h4' : sp.length = vl := h4.symm
  have hb := Bk.made w tRPart #[iv 4, iv 0, .bool nt, .slice A1 vl c1, .slice A2 vl c2]
  have k0 := hb.cell (i := 0) rfl
  have k2 := hb.cell (i := 2) rfl
  have k3 := hb.cell (i := 3) rfl
  have k4 := hb.cell (i := 4) rfl
  have hf := Fresh.alloc w (.cells #[iv 4, iv 0, .bool nt, .slice A1 vl c1, .slice A2 vl c2] tRPart)
  have h8 := h6.fresh hf
  have h9 := h7.fresh hf
  have HR1 := Lib.hid h8
  have HR2 := Lib.hid h9
  have HL := Lib.hid h4'
  have HF := Lib.hid hf
  unfold HasIs
  show Calls Tryd.prog 23 #[.agg #[iv 4, iv 0, .bool nt, .slice A1 vl c1, .slice A2 vl c2], iv (r : Nat)] w _
  clear hb h4 h6 h7 h8 h9 hf h4'
  by_cases h : r = 47
  · subst h
    have e1 : has (.cls nt sp) 47 = false := rfl
    rw [e1]
    clear e1
    go_enter Tryd.func23, Tryd.ntmps23
    go_wp2
    go_ret
    exact ⟨rfl, HF.out⟩
  · have e1 : has (.cls nt sp) r = (inS sp r != nt) := by rw [has, decide_eq_true h, Bool.true_and]
    have t1 : ((r : Int) == 47) = false := by rw [beq_eq_false_iff_ne]; omega
    rw [e1]
    clear e1 h
    go_enter Tryd.func23, Tryd.ntmps23
    go_wp2
    obtain ⟨w1, hw1⟩ : ∃ w1, w.alloc (.cells #[iv 4, iv 0, .bool nt, .slice A1 vl c1, .slice A2 vl c2] tRPart) = w1 := ⟨_, rfl⟩
    rw [hw1] at k0 k2 k3 k4 HR1 HR2 HF ⊢
    clear hw1
    go_loopw [5, 6] (fun v i wr => ∃ k : Nat, k ≤ vl ∧ v = .bool (inS (sp.take k) r) ∧ i = .int .i64 k ∧ w1 = wr) (fun _ i _ => vl - (intOf i).toNat)
    case atStart => exact ⟨0, Nat.zero_le _, rfl, rfl, rfl⟩
    case round =>
      obtain ⟨k, hk, rfl, rfl, rfl⟩ := hrel
      by_cases hlt : k < vl
      · obtain ⟨s, hs⟩ : ∃ s, sp[k]? = some s := ⟨_, List.getElem?_eq_getElem (by rw [HL.out]; exact hlt)⟩
        obtain ⟨b, off, rfl, hc1⟩ := HR1.out.cell (j := k) (u := iv (s.1 : Nat)) (by rw [List.getElem?_map, List.getElem?_map, show spn (Pt.cls nt sp) = sp from rfl, hs]; rfl)
        obtain ⟨b', off', rfl, hc2⟩ := HR2.out.cell (j := k) (u := iv (s.2 : Nat)) (by rw [List.getElem?_map, List.getElem?_map, show spn (Pt.cls nt sp) = sp from rfl, hs]; rfl)
        have hst := inS_step sp r k s hs
        obtain ⟨s1, s2⟩ := s
        simp only at hc1 hc2 hst
        obtain ⟨I, hI⟩ : ∃ I, inS (sp.take k) r = I := ⟨_, rfl⟩
        rw [hI] at hst ⊢
        have d1 : decide ((s1 : Int) ≤ (r : Int)) = decide (s1 ≤ r) := decide_eq_decide.2 (by omega)
        have d2 : decide ((r : Int) ≤ (s2 : Int)) = decide (r ≤ s2) := decide_eq_decide.2 (by omega)
        obtain ⟨B1, hB1⟩ : ∃ B, decide (s1 ≤ r) = B := ⟨_, rfl⟩
        obtain ⟨B2, hB2⟩ : ∃ B, decide (r ≤ s2) = B := ⟨_, rfl⟩
        rw [hB1] at d1 hst
        rw [hB2] at d2 hst
        have HST := Lib.hid hst
        clear hs hst hI
        have p1 : (k : Int) < (vl : Int) := by omega
        cases I
        all_goals cases B1
        all_goals cases B2
        all_goals
          go_wp2
          go_roundw
          case rel => exact ⟨k + 1, by omega, by rw [HST.out]; simp, by go_num, by first | trivial | rfl⟩
          case measure => simp [intOf]; omega
      · obtain rfl : k = vl := by omega
        rw [List.take_of_length_le (by rw [HL.out]; exact Nat.le_refl _)]
        obtain ⟨I, hI⟩ : ∃ I, inS sp r = I := ⟨_, rfl⟩
        rw [hI]
        have HI := Lib.hid hI
        clear hI
        go_wp2
        go_ret
        exact ⟨by rw [HI.out]; cases I <;> cases nt <;> rfl, HF.out⟩
theorem fits_any (v : RPart) (p : Pt) (r : Nat) (w : World) (hv : RPtV w v p) (hm : many p = false) :
    Calls Tryd.prog 23 #[.agg v.val.toArray, iv (r : Nat)] w (HasIs p r w) := by
  cases p with
  | it q => exact fits_it v q r w hv
  | one => exact fits_one v r w hv
  | star => cases hm
  | all => cases hm
  | cls nt sp => exact fits_cls v nt sp r w hv
end Go.Proofs.YtkkkjadfhimahaaDoor.glbp
