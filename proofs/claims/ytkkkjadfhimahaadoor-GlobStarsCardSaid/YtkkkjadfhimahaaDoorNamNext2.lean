/-
  Layer 9's reference: next, walked. My own text (by a generator of mine).
-/
import Derived.Test.YtkkkjadfhimahaaDoorNamNext
namespace Go.Proofs.YtkkkjadfhimahaaDoor.namp
open Go.RowKit Go.Proofs.YtkkkjadfhimahaaDoor.base Go.Proofs.YtkkkjadfhimahaaDoor.nam
set_option linter.unusedVariables false
theorem getD_of {t : List UInt8} {k : Nat} {x : UInt8} (h : t[k]? = some x) : t.getD k 0 = x := by rw [List.getD_eq_getElem?_getD, h]; rfl
theorem accs_succ (t : List UInt8) (a j : Nat) : accs t a (j + 1) = 64 * accs t a j + cv t (j + 1) := by rw [accs]
theorem cv_of {t : List UInt8} {q : Nat} {y : UInt8} (h : t.getD q 0 = y) : cv t q = y.toNat - 128 := by subst h; rfl
theorem ret_int {a b : Int} (h : a = b) : Ending.returned (Value.int .i64 a) = Ending.returned (Value.int .i64 b) := by rw [h]
theorem ct_step {t : List UInt8} {j : Nat} (h : ∀ q, q < j → ct t (q + 1)) (k : ct t (j + 1)) : ∀ q, q < j + 1 → ct t (q + 1) := by
  intro q hq
  by_cases e : q = j
  · subst e; exact k
  · exact h q (by omega)

theorem next_one (A : Option Addr) (n c : Nat) (t : List UInt8) (w : World) (B : Nat) (hr : Rd w B A n (t.map bv)) (hB : B ≤ w.heap.size) (hn : 1 ≤ n) (hh : (t.getD 0 0).toNat < 128) : Calls Tryd.prog 25 #[.slice A n c] w fun e w' => e = .returned (.int .i64 (nxI t)) ∧ Fresh w w' := by
  rw [nxI_one t hh]
  obtain ⟨b, off, x, rfl, hb, hx, hc0⟩ := hr.at_ (k := 0) (by omega)
  rw [Nat.add_zero] at hc0
  have hx0 := getD_of hx
  rw [hx0] at hh
  obtain ⟨z, hz⟩ : ∃ z : Int, (x.toNat : Int) = z := ⟨_, rfl⟩
  have hc1 : w.cell? ⟨b, off, none⟩ = some (.int .u8 z) := by rw [hc0, bv, hz]
  rw [hx0, hz]
  have t0 : decide (z < 128) = true := by rw [decide_eq_true_iff]; omega
  have zb : 0 ≤ z := by omega
  have zc : z ≤ 255 := by omega
  clear hr hx hc0 hx0 hz hh
  go_enter Tryd.func25, Tryd.ntmps25
  go_wp2
  go_ret
  exact ⟨rfl, Fresh.refl _⟩

set_option maxHeartbeats 1000000 in
theorem next_head_a (A : Option Addr) (n c : Nat) (t : List UInt8) (w : World) (B : Nat) (hr : Rd w B A n (t.map bv)) (hB : B ≤ w.heap.size) (hn : 1 ≤ n) (hh : 128 ≤ (t.getD 0 0).toNat ∧ (t.getD 0 0).toNat ≤ 193) : Calls Tryd.prog 25 #[.slice A n c] w fun e w' => e = .returned (.int .i64 (nxI t)) ∧ Fresh w w' := by
  rw [nxI_head t (by omega)]
  obtain ⟨b, off, x, rfl, hb, hx, hc0⟩ := hr.at_ (k := 0) (by omega)
  rw [Nat.add_zero] at hc0
  have hx0 := getD_of hx
  rw [hx0] at hh
  obtain ⟨z, hz⟩ : ∃ z : Int, (x.toNat : Int) = z := ⟨_, rfl⟩
  have hc1 : w.cell? ⟨b, off, none⟩ = some (.int .u8 z) := by rw [hc0, bv, hz]
  have t0 : decide (z < 128) = false := by rw [decide_eq_false_iff_not]; omega
  have g0 : decide (z ≥ 194) = false := by rw [decide_eq_false_iff_not]; omega
  have h0 : decide (194 ≤ z) = false := by rw [decide_eq_false_iff_not]; omega
  have g1 : decide (z ≤ 223) = true := by rw [decide_eq_true_iff]; omega
  have g2 : decide (z ≥ 224) = false := by rw [decide_eq_false_iff_not]; omega
  have h2 : decide (224 ≤ z) = false := by rw [decide_eq_false_iff_not]; omega
  have g3 : decide (z ≤ 239) = true := by rw [decide_eq_true_iff]; omega
  have g4 : decide (z ≥ 240) = false := by rw [decide_eq_false_iff_not]; omega
  have h4 : decide (240 ≤ z) = false := by rw [decide_eq_false_iff_not]; omega
  have g5 : decide (z ≤ 244) = true := by rw [decide_eq_true_iff]; omega
  have zb : 0 ≤ z := by omega
  have zc : z ≤ 255 := by omega
  clear hr hx hc0 hx0 hz hh
  go_enter Tryd.func25, Tryd.ntmps25
  go_wp2
  go_ret
  exact ⟨rfl, Fresh.refl _⟩

set_option maxHeartbeats 1000000 in
theorem next_head_b (A : Option Addr) (n c : Nat) (t : List UInt8) (w : World) (B : Nat) (hr : Rd w B A n (t.map bv)) (hB : B ≤ w.heap.size) (hn : 1 ≤ n) (hh : 245 ≤ (t.getD 0 0).toNat ∧ (t.getD 0 0).toNat ≤ 255) : Calls Tryd.prog 25 #[.slice A n c] w fun e w' => e = .returned (.int .i64 (nxI t)) ∧ Fresh w w' := by
  rw [nxI_head t (by omega)]
  obtain ⟨b, off, x, rfl, hb, hx, hc0⟩ := hr.at_ (k := 0) (by omega)
  rw [Nat.add_zero] at hc0
  have hx0 := getD_of hx
  rw [hx0] at hh
  obtain ⟨z, hz⟩ : ∃ z : Int, (x.toNat : Int) = z := ⟨_, rfl⟩
  have hc1 : w.cell? ⟨b, off, none⟩ = some (.int .u8 z) := by rw [hc0, bv, hz]
  have t0 : decide (z < 128) = false := by rw [decide_eq_false_iff_not]; omega
  have g0 : decide (z ≥ 194) = true := by rw [decide_eq_true_iff]; omega
  have h0 : decide (194 ≤ z) = true := by rw [decide_eq_true_iff]; omega
  have g1 : decide (z ≤ 223) = false := by rw [decide_eq_false_iff_not]; omega
  have g2 : decide (z ≥ 224) = true := by rw [decide_eq_true_iff]; omega
  have h2 : decide (224 ≤ z) = true := by rw [decide_eq_true_iff]; omega
  have g3 : decide (z ≤ 239) = false := by rw [decide_eq_false_iff_not]; omega
  have g4 : decide (z ≥ 240) = true := by rw [decide_eq_true_iff]; omega
  have h4 : decide (240 ≤ z) = true := by rw [decide_eq_true_iff]; omega
  have g5 : decide (z ≤ 244) = false := by rw [decide_eq_false_iff_not]; omega
  have zb : 0 ≤ z := by omega
  have zc : z ≤ 255 := by omega
  clear hr hx hc0 hx0 hz hh
  go_enter Tryd.func25, Tryd.ntmps25
  go_wp2
  go_ret
  exact ⟨rfl, Fresh.refl _⟩

set_option maxHeartbeats 4000000 in
theorem next_2 (A : Option Addr) (n c : Nat) (t : List UInt8) (w : World) (B : Nat) (hr : Rd w B A n (t.map bv)) (hB : B ≤ w.heap.size) (hn : 1 ≤ n) (hh : 194 ≤ (t.getD 0 0).toNat ∧ (t.getD 0 0).toNat ≤ 223) : Calls Tryd.prog 25 #[.slice A n c] w fun e w' => e = .returned (.int .i64 (nxI t)) ∧ Fresh w w' := by
  have hl : t.length = n := by have := hr.1; rwa [List.length_map] at this
  have HH := Lib.hid hh
  by_cases hsh : n < 2
  · rw [nx2_short t hh (by omega)]
    obtain ⟨b, off, x, rfl, hb, hx, hc0⟩ := hr.at_ (k := 0) (by omega)
    rw [Nat.add_zero] at hc0
    have hx0 := getD_of hx
    rw [hx0] at hh
    obtain ⟨z, hz⟩ : ∃ z : Int, (x.toNat : Int) = z := ⟨_, rfl⟩
    have hc1 : w.cell? ⟨b, off, none⟩ = some (.int .u8 z) := by rw [hc0, bv, hz]
    have t0 : decide (z < 128) = false := by rw [decide_eq_false_iff_not]; omega
    have g0 : decide (z ≥ 194) = true := by rw [decide_eq_true_iff]; omega
    have h0 : decide (194 ≤ z) = true := by rw [decide_eq_true_iff]; omega
    have g1 : decide (z ≤ 223) = true := by rw [decide_eq_true_iff]; omega
    have g2 : decide (z ≥ 224) = false := by rw [decide_eq_false_iff_not]; omega
    have h2 : decide (224 ≤ z) = false := by rw [decide_eq_false_iff_not]; omega
    have g3 : decide (z ≤ 239) = true := by rw [decide_eq_true_iff]; omega
    have g4 : decide (z ≥ 240) = false := by rw [decide_eq_false_iff_not]; omega
    have h4 : decide (240 ≤ z) = false := by rw [decide_eq_false_iff_not]; omega
    have g5 : decide (z ≤ 244) = true := by rw [decide_eq_true_iff]; omega
    have tn : decide ((n : Int) < 2) = true := by rw [decide_eq_true_iff]; omega
    have zb : 0 ≤ z := by omega
    have zc : z ≤ 255 := by have := x.toNat_lt; omega
    clear hr hx hc0 hx0 hz hh hl hsh
    go_enter Tryd.func25, Tryd.ntmps25
    go_wp2
    go_ret
    exact ⟨rfl, Fresh.refl _⟩
  have hwh := fun hc R hR => nx2_whole t hh (by omega) hc _ 1 R rfl rfl hR
  have hct := fun j h1 h2 => nx2_cont t hh j h1 h2
  obtain ⟨b, off, x, rfl, hb, hx, hc0⟩ := hr.at_ (k := 0) (by omega)
  rw [Nat.add_zero] at hc0
  have hx0 := getD_of hx
  rw [hx0] at hh
  obtain ⟨z, hz⟩ : ∃ z : Int, (x.toNat : Int) = z := ⟨_, rfl⟩
  have hc1 : w.cell? ⟨b, off, none⟩ = some (.int .u8 z) := by rw [hc0, bv, hz]
  rw [hx0] at hwh
  have t0 : decide (z < 128) = false := by rw [decide_eq_false_iff_not]; omega
  have g0 : decide (z ≥ 194) = true := by rw [decide_eq_true_iff]; omega
  have h0 : decide (194 ≤ z) = true := by rw [decide_eq_true_iff]; omega
  have g1 : decide (z ≤ 223) = true := by rw [decide_eq_true_iff]; omega
  have g2 : decide (z ≥ 224) = false := by rw [decide_eq_false_iff_not]; omega
  have h2 : decide (224 ≤ z) = false := by rw [decide_eq_false_iff_not]; omega
  have g3 : decide (z ≤ 239) = true := by rw [decide_eq_true_iff]; omega
  have g4 : decide (z ≥ 240) = false := by rw [decide_eq_false_iff_not]; omega
  have h4 : decide (240 ≤ z) = false := by rw [decide_eq_false_iff_not]; omega
  have g5 : decide (z ≤ 244) = true := by rw [decide_eq_true_iff]; omega
  have tn : decide ((n : Int) < 2) = false := by rw [decide_eq_false_iff_not]; omega
  have zb : 0 ≤ z := by omega
  have zc : z ≤ 255 := by have := x.toNat_lt; omega
  obtain ⟨a, ha⟩ : ∃ a, x.toNat - 192 = a := ⟨_, rfl⟩
  rw [ha] at hwh
  have haz : z - 192 = (a : Int) := by omega
  have haz2 : a ≤ 31 := by omega
  have HW := Lib.hid hwh
  have HCT := Lib.hid hct
  have HR := Lib.hid hr
  have hnk : 2 ≤ n := by omega
  have HNK := Lib.hid hnk
  clear hr hx hc0 hx0 hz hh hwh hct ha hsh hnk
  go_enter Tryd.func25, Tryd.ntmps25
  go_wp2
  go_loopw [5, 6] (fun r i wr => ∃ (j R : Nat), j ≤ 1 ∧ i = .int .i64 ((j + 1 : Nat) : Int) ∧ r = .int .i64 R ∧ Hid (R = accs t a j) ∧ Hid (∀ q, q < j → ct t (q + 1)) ∧ wr = w) (fun _ i _ => 2 - (intOf i).toNat)
  case atStart => exact ⟨0, a, by omega, rfl, rfl, rfl, fun q hq => by omega, rfl⟩
  case round =>
    obtain ⟨j, R, hj, rfl, rfl, hR, hcs, rfl⟩ := hrel
    have hRb : R ≤ 1310719 := by
      have h1 := accs_lt t a j hcs.out
      rw [← hR.out] at h1
      have h2 : (64 : Nat) ^ j ≤ 64 ^ 1 := Nat.pow_le_pow_right (by omega) hj
      have h3 := Nat.mul_le_mul_left (a + 1) h2
      have h4 : (a + 1) * 64 ^ 1 ≤ 1310720 := by omega
      omega
    obtain ⟨m, hm⟩ : ∃ m, j + 1 = m := ⟨_, rfl⟩
    rw [hm]
    by_cases hjk : j < 1
    · obtain ⟨b', off', y, e', hb', hy, hcy⟩ := HR.out.at_ (k := j + 1) (by have := HNK.out; omega)
      injection e' with e'
      injection e' with e1 e2 _
      subst e1
      subst e2
      have hyd := getD_of hy
      obtain ⟨v, hv⟩ : ∃ v : Int, (y.toNat : Int) = v := ⟨_, rfl⟩
      rw [bv, hv] at hcy
      have hmn : m < n := by have := HNK.out; omega
      have hmb : m ≤ 2 := by omega
      have tm : decide ((m : Int) < 2) = true := by rw [decide_eq_true_iff]; omega
      have vb : 0 ≤ v := by omega
      have vc : v ≤ 255 := by have := y.toNat_lt; omega
      rw [hm] at hcy
      by_cases c1 : v < 128
      · have s1 : decide (v < 128) = true := by rw [decide_eq_true_iff]; omega
        have hres := HCT.out m (by omega) (fun h => by unfold ct at h; rw [← hm, hyd] at h; omega)
        have HRES := Lib.hid hres
        clear hjk hj hy hyd hv hm c1 hres hRb
        go_wp2
        go_ret
        exact ⟨by rw [HRES.out]; rfl, Fresh.refl _⟩
      have s1 : decide (v < 128) = false := by rw [decide_eq_false_iff_not]; omega
      by_cases c2 : 191 < v
      · have s2 : decide (v > 191) = true := by rw [decide_eq_true_iff]; omega
        have s3 : decide (191 < v) = true := by rw [decide_eq_true_iff]; omega
        have hres := HCT.out m (by omega) (fun h => by unfold ct at h; rw [← hm, hyd] at h; omega)
        have HRES := Lib.hid hres
        clear hjk hj hy hyd hv hm c1 c2 hres hRb
        go_wp2
        go_ret
        exact ⟨by rw [HRES.out]; rfl, Fresh.refl _⟩
      have s2 : decide (v > 191) = false := by rw [decide_eq_false_iff_not]; omega
      have s3 : decide (191 < v) = false := by rw [decide_eq_false_iff_not]; omega
      have hcv := cv_of hyd
      have hst : Hid (64 * R + (y.toNat - 128) = accs t a (j + 1)) := (by rw [accs_succ, hcv, hR.out] : 64 * R + (y.toNat - 128) = accs t a (j + 1))
      have hval : 64 * (R : Int) + v - 128 = ((64 * R + (y.toNat - 128) : Nat) : Int) := by omega
      have hcc : Hid (∀ q, q < j + 1 → ct t (q + 1)) := ct_step hcs.out (by unfold ct; rw [hyd]; omega)
      have HV := Lib.hid hval
      have HM := Lib.hid hm
      have HJK := Lib.hid hjk
      clear hjk hy hyd hv hm c1 c2 hcv hval
      go_wp2
      have hm := HM.out
      have hjk := HJK.out
      go_roundw
      case rel => exact ⟨j + 1, 64 * R + (y.toNat - 128), by omega, by rw [hm]; go_num, by rw [HV.out], hst, hcc, trivial⟩
      case measure => simp [intOf] <;> omega
    · obtain rfl : j = 1 := by omega
      have hw2 := HW.out hcs.out R hR.out
      have tm : decide ((m : Int) < 2) = false := by rw [decide_eq_false_iff_not]; omega
      have hut := utf_any R (by omega) wr
      obtain ⟨W, hW⟩ : ∃ W, wid R = W := ⟨_, rfl⟩
      rw [hW] at hut
      have hW4 := wid_bd R
      rw [hW] at hW4
      obtain ⟨hWa, hWb⟩ := hW4
      unfold okN at hw2
      rw [hW] at hw2
      have HUT := Lib.hid hut
      obtain ⟨Z, hZ⟩ : ∃ Z : Int, (R : Int) = Z := ⟨_, rfl⟩
      rw [hZ] at HUT hw2 ⊢
      clear hut hW hjk hj hcs hR hm
      by_cases k1 : W = 2
      · have u1 : ((W : Int) != 2) = false := by rw [bne_eq_false_iff_eq]; omega
        by_cases k2 : 55296 ≤ R ∧ R ≤ 57343
        · have hres := hw2.2 (by omega)
          have p1 : decide (Z ≥ 55296) = true := by rw [decide_eq_true_iff]; omega
          have p2 : decide (55296 ≤ Z) = true := by rw [decide_eq_true_iff]; omega
          have p3 : decide (Z ≤ 57343) = true := by rw [decide_eq_true_iff]; omega
          have HRES := Lib.hid hres
          clear hw2 k1 k2 hRb hres hZ
          go_wp2_with (go_at_call 26; (refine HUT.out.mono ?_); rintro e w1 ⟨A1, c1, rfl, hf1, ho1⟩)
          go_ret
          exact ⟨by rw [HRES.out]; rfl, hf1⟩
        · have pp : (decide (55296 ≤ Z) = true ∧ decide (Z ≥ 55296) = true ∧ decide (Z ≤ 57343) = false) ∨ (decide (55296 ≤ Z) = false ∧ decide (Z ≥ 55296) = false) := by
            by_cases q : 55296 ≤ Z
            · exact Or.inl ⟨decide_eq_true q, decide_eq_true q, decide_eq_false (by omega)⟩
            · exact Or.inr ⟨decide_eq_false q, decide_eq_false q⟩
          by_cases k3 : 1114111 < R
          · have hres := hw2.2 (by omega)
            have p4 : decide (Z > 1114111) = true := by rw [decide_eq_true_iff]; omega
            have p5 : decide (1114111 < Z) = true := by rw [decide_eq_true_iff]; omega
            have HRES := Lib.hid hres
            clear hw2 k1 k2 k3 hRb hres hZ
            rcases pp with ⟨p1, p2, p3⟩ | ⟨p1, p2⟩
            all_goals
              go_wp2_with (go_at_call 26; (refine HUT.out.mono ?_); rintro e w1 ⟨A1, c1, rfl, hf1, ho1⟩)
              go_ret
              exact ⟨by rw [HRES.out]; rfl, hf1⟩
          · have hres := hw2.1 ⟨k1, by omega, by omega⟩
            have p4 : decide (Z > 1114111) = false := by rw [decide_eq_false_iff_not]; omega
            have p5 : decide (1114111 < Z) = false := by rw [decide_eq_false_iff_not]; omega
            have HRES := Lib.hid hres
            clear hw2 k1 k2 k3 hRb hres hZ
            rcases pp with ⟨p1, p2, p3⟩ | ⟨p1, p2⟩
            all_goals
              go_wp2_with (go_at_call 26; (refine HUT.out.mono ?_); rintro e w1 ⟨A1, c1, rfl, hf1, ho1⟩)
              go_ret
              exact ⟨by rw [HRES.out]; rfl, hf1⟩
      · have u1 : ((W : Int) != 2) = true := by rw [bne_iff_ne]; omega
        have hres := hw2.2 (fun h => k1 h.1)
        have HRES := Lib.hid hres
        clear hw2 k1 hRb hres hZ
        go_wp2_with (go_at_call 26; (refine HUT.out.mono ?_); rintro e w1 ⟨A1, c1, rfl, hf1, ho1⟩)
        go_ret
        exact ⟨by rw [HRES.out]; rfl, hf1⟩

set_option maxHeartbeats 4000000 in
theorem next_3 (A : Option Addr) (n c : Nat) (t : List UInt8) (w : World) (B : Nat) (hr : Rd w B A n (t.map bv)) (hB : B ≤ w.heap.size) (hn : 1 ≤ n) (hh : 224 ≤ (t.getD 0 0).toNat ∧ (t.getD 0 0).toNat ≤ 239) : Calls Tryd.prog 25 #[.slice A n c] w fun e w' => e = .returned (.int .i64 (nxI t)) ∧ Fresh w w' := by
  have hl : t.length = n := by have := hr.1; rwa [List.length_map] at this
  have HH := Lib.hid hh
  by_cases hsh : n < 3
  · rw [nx3_short t hh (by omega)]
    obtain ⟨b, off, x, rfl, hb, hx, hc0⟩ := hr.at_ (k := 0) (by omega)
    rw [Nat.add_zero] at hc0
    have hx0 := getD_of hx
    rw [hx0] at hh
    obtain ⟨z, hz⟩ : ∃ z : Int, (x.toNat : Int) = z := ⟨_, rfl⟩
    have hc1 : w.cell? ⟨b, off, none⟩ = some (.int .u8 z) := by rw [hc0, bv, hz]
    have t0 : decide (z < 128) = false := by rw [decide_eq_false_iff_not]; omega
    have g0 : decide (z ≥ 194) = true := by rw [decide_eq_true_iff]; omega
    have h0 : decide (194 ≤ z) = true := by rw [decide_eq_true_iff]; omega
    have g1 : decide (z ≤ 223) = false := by rw [decide_eq_false_iff_not]; omega
    have g2 : decide (z ≥ 224) = true := by rw [decide_eq_true_iff]; omega
    have h2 : decide (224 ≤ z) = true := by rw [decide_eq_true_iff]; omega
    have g3 : decide (z ≤ 239) = true := by rw [decide_eq_true_iff]; omega
    have g4 : decide (z ≥ 240) = false := by rw [decide_eq_false_iff_not]; omega
    have h4 : decide (240 ≤ z) = false := by rw [decide_eq_false_iff_not]; omega
    have g5 : decide (z ≤ 244) = true := by rw [decide_eq_true_iff]; omega
    have tn : decide ((n : Int) < 3) = true := by rw [decide_eq_true_iff]; omega
    have zb : 0 ≤ z := by omega
    have zc : z ≤ 255 := by have := x.toNat_lt; omega
    clear hr hx hc0 hx0 hz hh hl hsh
    go_enter Tryd.func25, Tryd.ntmps25
    go_wp2
    go_ret
    exact ⟨rfl, Fresh.refl _⟩
  have hwh := fun hc R hR => nx3_whole t hh (by omega) hc _ 2 R rfl rfl hR
  have hct := fun j h1 h2 => nx3_cont t hh j h1 h2
  obtain ⟨b, off, x, rfl, hb, hx, hc0⟩ := hr.at_ (k := 0) (by omega)
  rw [Nat.add_zero] at hc0
  have hx0 := getD_of hx
  rw [hx0] at hh
  obtain ⟨z, hz⟩ : ∃ z : Int, (x.toNat : Int) = z := ⟨_, rfl⟩
  have hc1 : w.cell? ⟨b, off, none⟩ = some (.int .u8 z) := by rw [hc0, bv, hz]
  rw [hx0] at hwh
  have t0 : decide (z < 128) = false := by rw [decide_eq_false_iff_not]; omega
  have g0 : decide (z ≥ 194) = true := by rw [decide_eq_true_iff]; omega
  have h0 : decide (194 ≤ z) = true := by rw [decide_eq_true_iff]; omega
  have g1 : decide (z ≤ 223) = false := by rw [decide_eq_false_iff_not]; omega
  have g2 : decide (z ≥ 224) = true := by rw [decide_eq_true_iff]; omega
  have h2 : decide (224 ≤ z) = true := by rw [decide_eq_true_iff]; omega
  have g3 : decide (z ≤ 239) = true := by rw [decide_eq_true_iff]; omega
  have g4 : decide (z ≥ 240) = false := by rw [decide_eq_false_iff_not]; omega
  have h4 : decide (240 ≤ z) = false := by rw [decide_eq_false_iff_not]; omega
  have g5 : decide (z ≤ 244) = true := by rw [decide_eq_true_iff]; omega
  have tn : decide ((n : Int) < 3) = false := by rw [decide_eq_false_iff_not]; omega
  have zb : 0 ≤ z := by omega
  have zc : z ≤ 255 := by have := x.toNat_lt; omega
  obtain ⟨a, ha⟩ : ∃ a, x.toNat - 224 = a := ⟨_, rfl⟩
  rw [ha] at hwh
  have haz : z - 224 = (a : Int) := by omega
  have haz2 : a ≤ 15 := by omega
  have HW := Lib.hid hwh
  have HCT := Lib.hid hct
  have HR := Lib.hid hr
  have hnk : 3 ≤ n := by omega
  have HNK := Lib.hid hnk
  clear hr hx hc0 hx0 hz hh hwh hct ha hsh hnk
  go_enter Tryd.func25, Tryd.ntmps25
  go_wp2
  go_loopw [5, 6] (fun r i wr => ∃ (j R : Nat), j ≤ 2 ∧ i = .int .i64 ((j + 1 : Nat) : Int) ∧ r = .int .i64 R ∧ Hid (R = accs t a j) ∧ Hid (∀ q, q < j → ct t (q + 1)) ∧ wr = w) (fun _ i _ => 3 - (intOf i).toNat)
  case atStart => exact ⟨0, a, by omega, rfl, rfl, rfl, fun q hq => by omega, rfl⟩
  case round =>
    obtain ⟨j, R, hj, rfl, rfl, hR, hcs, rfl⟩ := hrel
    have hRb : R ≤ 1310719 := by
      have h1 := accs_lt t a j hcs.out
      rw [← hR.out] at h1
      have h2 : (64 : Nat) ^ j ≤ 64 ^ 2 := Nat.pow_le_pow_right (by omega) hj
      have h3 := Nat.mul_le_mul_left (a + 1) h2
      have h4 : (a + 1) * 64 ^ 2 ≤ 1310720 := by omega
      omega
    obtain ⟨m, hm⟩ : ∃ m, j + 1 = m := ⟨_, rfl⟩
    rw [hm]
    by_cases hjk : j < 2
    · obtain ⟨b', off', y, e', hb', hy, hcy⟩ := HR.out.at_ (k := j + 1) (by have := HNK.out; omega)
      injection e' with e'
      injection e' with e1 e2 _
      subst e1
      subst e2
      have hyd := getD_of hy
      obtain ⟨v, hv⟩ : ∃ v : Int, (y.toNat : Int) = v := ⟨_, rfl⟩
      rw [bv, hv] at hcy
      have hmn : m < n := by have := HNK.out; omega
      have hmb : m ≤ 3 := by omega
      have tm : decide ((m : Int) < 3) = true := by rw [decide_eq_true_iff]; omega
      have vb : 0 ≤ v := by omega
      have vc : v ≤ 255 := by have := y.toNat_lt; omega
      rw [hm] at hcy
      by_cases c1 : v < 128
      · have s1 : decide (v < 128) = true := by rw [decide_eq_true_iff]; omega
        have hres := HCT.out m (by omega) (fun h => by unfold ct at h; rw [← hm, hyd] at h; omega)
        have HRES := Lib.hid hres
        clear hjk hj hy hyd hv hm c1 hres hRb
        go_wp2
        go_ret
        exact ⟨by rw [HRES.out]; rfl, Fresh.refl _⟩
      have s1 : decide (v < 128) = false := by rw [decide_eq_false_iff_not]; omega
      by_cases c2 : 191 < v
      · have s2 : decide (v > 191) = true := by rw [decide_eq_true_iff]; omega
        have s3 : decide (191 < v) = true := by rw [decide_eq_true_iff]; omega
        have hres := HCT.out m (by omega) (fun h => by unfold ct at h; rw [← hm, hyd] at h; omega)
        have HRES := Lib.hid hres
        clear hjk hj hy hyd hv hm c1 c2 hres hRb
        go_wp2
        go_ret
        exact ⟨by rw [HRES.out]; rfl, Fresh.refl _⟩
      have s2 : decide (v > 191) = false := by rw [decide_eq_false_iff_not]; omega
      have s3 : decide (191 < v) = false := by rw [decide_eq_false_iff_not]; omega
      have hcv := cv_of hyd
      have hst : Hid (64 * R + (y.toNat - 128) = accs t a (j + 1)) := (by rw [accs_succ, hcv, hR.out] : 64 * R + (y.toNat - 128) = accs t a (j + 1))
      have hval : 64 * (R : Int) + v - 128 = ((64 * R + (y.toNat - 128) : Nat) : Int) := by omega
      have hcc : Hid (∀ q, q < j + 1 → ct t (q + 1)) := ct_step hcs.out (by unfold ct; rw [hyd]; omega)
      have HV := Lib.hid hval
      have HM := Lib.hid hm
      have HJK := Lib.hid hjk
      clear hjk hy hyd hv hm c1 c2 hcv hval
      go_wp2
      have hm := HM.out
      have hjk := HJK.out
      go_roundw
      case rel => exact ⟨j + 1, 64 * R + (y.toNat - 128), by omega, by rw [hm]; go_num, by rw [HV.out], hst, hcc, trivial⟩
      case measure => simp [intOf] <;> omega
    · obtain rfl : j = 2 := by omega
      have hw2 := HW.out hcs.out R hR.out
      have tm : decide ((m : Int) < 3) = false := by rw [decide_eq_false_iff_not]; omega
      have hut := utf_any R (by omega) wr
      obtain ⟨W, hW⟩ : ∃ W, wid R = W := ⟨_, rfl⟩
      rw [hW] at hut
      have hW4 := wid_bd R
      rw [hW] at hW4
      obtain ⟨hWa, hWb⟩ := hW4
      unfold okN at hw2
      rw [hW] at hw2
      have HUT := Lib.hid hut
      obtain ⟨Z, hZ⟩ : ∃ Z : Int, (R : Int) = Z := ⟨_, rfl⟩
      rw [hZ] at HUT hw2 ⊢
      clear hut hW hjk hj hcs hR hm
      by_cases k1 : W = 3
      · have u1 : ((W : Int) != 3) = false := by rw [bne_eq_false_iff_eq]; omega
        by_cases k2 : 55296 ≤ R ∧ R ≤ 57343
        · have hres := hw2.2 (by omega)
          have p1 : decide (Z ≥ 55296) = true := by rw [decide_eq_true_iff]; omega
          have p2 : decide (55296 ≤ Z) = true := by rw [decide_eq_true_iff]; omega
          have p3 : decide (Z ≤ 57343) = true := by rw [decide_eq_true_iff]; omega
          have HRES := Lib.hid hres
          clear hw2 k1 k2 hRb hres hZ
          go_wp2_with (go_at_call 26; (refine HUT.out.mono ?_); rintro e w1 ⟨A1, c1, rfl, hf1, ho1⟩)
          go_ret
          exact ⟨by rw [HRES.out]; rfl, hf1⟩
        · have pp : (decide (55296 ≤ Z) = true ∧ decide (Z ≥ 55296) = true ∧ decide (Z ≤ 57343) = false) ∨ (decide (55296 ≤ Z) = false ∧ decide (Z ≥ 55296) = false) := by
            by_cases q : 55296 ≤ Z
            · exact Or.inl ⟨decide_eq_true q, decide_eq_true q, decide_eq_false (by omega)⟩
            · exact Or.inr ⟨decide_eq_false q, decide_eq_false q⟩
          by_cases k3 : 1114111 < R
          · have hres := hw2.2 (by omega)
            have p4 : decide (Z > 1114111) = true := by rw [decide_eq_true_iff]; omega
            have p5 : decide (1114111 < Z) = true := by rw [decide_eq_true_iff]; omega
            have HRES := Lib.hid hres
            clear hw2 k1 k2 k3 hRb hres hZ
            rcases pp with ⟨p1, p2, p3⟩ | ⟨p1, p2⟩
            all_goals
              go_wp2_with (go_at_call 26; (refine HUT.out.mono ?_); rintro e w1 ⟨A1, c1, rfl, hf1, ho1⟩)
              go_ret
              exact ⟨by rw [HRES.out]; rfl, hf1⟩
          · have hres := hw2.1 ⟨k1, by omega, by omega⟩
            have p4 : decide (Z > 1114111) = false := by rw [decide_eq_false_iff_not]; omega
            have p5 : decide (1114111 < Z) = false := by rw [decide_eq_false_iff_not]; omega
            have HRES := Lib.hid hres
            clear hw2 k1 k2 k3 hRb hres hZ
            rcases pp with ⟨p1, p2, p3⟩ | ⟨p1, p2⟩
            all_goals
              go_wp2_with (go_at_call 26; (refine HUT.out.mono ?_); rintro e w1 ⟨A1, c1, rfl, hf1, ho1⟩)
              go_ret
              exact ⟨by rw [HRES.out]; rfl, hf1⟩
      · have u1 : ((W : Int) != 3) = true := by rw [bne_iff_ne]; omega
        have hres := hw2.2 (fun h => k1 h.1)
        have HRES := Lib.hid hres
        clear hw2 k1 hRb hres hZ
        go_wp2_with (go_at_call 26; (refine HUT.out.mono ?_); rintro e w1 ⟨A1, c1, rfl, hf1, ho1⟩)
        go_ret
        exact ⟨by rw [HRES.out]; rfl, hf1⟩

set_option maxHeartbeats 4000000 in
theorem next_4 (A : Option Addr) (n c : Nat) (t : List UInt8) (w : World) (B : Nat) (hr : Rd w B A n (t.map bv)) (hB : B ≤ w.heap.size) (hn : 1 ≤ n) (hh : 240 ≤ (t.getD 0 0).toNat ∧ (t.getD 0 0).toNat ≤ 244) : Calls Tryd.prog 25 #[.slice A n c] w fun e w' => e = .returned (.int .i64 (nxI t)) ∧ Fresh w w' := by
  have hl : t.length = n := by have := hr.1; rwa [List.length_map] at this
  have HH := Lib.hid hh
  by_cases hsh : n < 4
  · rw [nx4_short t hh (by omega)]
    obtain ⟨b, off, x, rfl, hb, hx, hc0⟩ := hr.at_ (k := 0) (by omega)
    rw [Nat.add_zero] at hc0
    have hx0 := getD_of hx
    rw [hx0] at hh
    obtain ⟨z, hz⟩ : ∃ z : Int, (x.toNat : Int) = z := ⟨_, rfl⟩
    have hc1 : w.cell? ⟨b, off, none⟩ = some (.int .u8 z) := by rw [hc0, bv, hz]
    have t0 : decide (z < 128) = false := by rw [decide_eq_false_iff_not]; omega
    have g0 : decide (z ≥ 194) = true := by rw [decide_eq_true_iff]; omega
    have h0 : decide (194 ≤ z) = true := by rw [decide_eq_true_iff]; omega
    have g1 : decide (z ≤ 223) = false := by rw [decide_eq_false_iff_not]; omega
    have g2 : decide (z ≥ 224) = true := by rw [decide_eq_true_iff]; omega
    have h2 : decide (224 ≤ z) = true := by rw [decide_eq_true_iff]; omega
    have g3 : decide (z ≤ 239) = false := by rw [decide_eq_false_iff_not]; omega
    have g4 : decide (z ≥ 240) = true := by rw [decide_eq_true_iff]; omega
    have h4 : decide (240 ≤ z) = true := by rw [decide_eq_true_iff]; omega
    have g5 : decide (z ≤ 244) = true := by rw [decide_eq_true_iff]; omega
    have tn : decide ((n : Int) < 4) = true := by rw [decide_eq_true_iff]; omega
    have zb : 0 ≤ z := by omega
    have zc : z ≤ 255 := by have := x.toNat_lt; omega
    clear hr hx hc0 hx0 hz hh hl hsh
    go_enter Tryd.func25, Tryd.ntmps25
    go_wp2
    go_ret
    exact ⟨rfl, Fresh.refl _⟩
  have hwh := fun hc R hR => nx4_whole t hh (by omega) hc _ 3 R rfl rfl hR
  have hct := fun j h1 h2 => nx4_cont t hh j h1 h2
  obtain ⟨b, off, x, rfl, hb, hx, hc0⟩ := hr.at_ (k := 0) (by omega)
  rw [Nat.add_zero] at hc0
  have hx0 := getD_of hx
  rw [hx0] at hh
  obtain ⟨z, hz⟩ : ∃ z : Int, (x.toNat : Int) = z := ⟨_, rfl⟩
  have hc1 : w.cell? ⟨b, off, none⟩ = some (.int .u8 z) := by rw [hc0, bv, hz]
  rw [hx0] at hwh
  have t0 : decide (z < 128) = false := by rw [decide_eq_false_iff_not]; omega
  have g0 : decide (z ≥ 194) = true := by rw [decide_eq_true_iff]; omega
  have h0 : decide (194 ≤ z) = true := by rw [decide_eq_true_iff]; omega
  have g1 : decide (z ≤ 223) = false := by rw [decide_eq_false_iff_not]; omega
  have g2 : decide (z ≥ 224) = true := by rw [decide_eq_true_iff]; omega
  have h2 : decide (224 ≤ z) = true := by rw [decide_eq_true_iff]; omega
  have g3 : decide (z ≤ 239) = false := by rw [decide_eq_false_iff_not]; omega
  have g4 : decide (z ≥ 240) = true := by rw [decide_eq_true_iff]; omega
  have h4 : decide (240 ≤ z) = true := by rw [decide_eq_true_iff]; omega
  have g5 : decide (z ≤ 244) = true := by rw [decide_eq_true_iff]; omega
  have tn : decide ((n : Int) < 4) = false := by rw [decide_eq_false_iff_not]; omega
  have zb : 0 ≤ z := by omega
  have zc : z ≤ 255 := by have := x.toNat_lt; omega
  obtain ⟨a, ha⟩ : ∃ a, x.toNat - 240 = a := ⟨_, rfl⟩
  rw [ha] at hwh
  have haz : z - 240 = (a : Int) := by omega
  have haz2 : a ≤ 4 := by omega
  have HW := Lib.hid hwh
  have HCT := Lib.hid hct
  have HR := Lib.hid hr
  have hnk : 4 ≤ n := by omega
  have HNK := Lib.hid hnk
  clear hr hx hc0 hx0 hz hh hwh hct ha hsh hnk
  go_enter Tryd.func25, Tryd.ntmps25
  go_wp2
  go_loopw [5, 6] (fun r i wr => ∃ (j R : Nat), j ≤ 3 ∧ i = .int .i64 ((j + 1 : Nat) : Int) ∧ r = .int .i64 R ∧ Hid (R = accs t a j) ∧ Hid (∀ q, q < j → ct t (q + 1)) ∧ wr = w) (fun _ i _ => 4 - (intOf i).toNat)
  case atStart => exact ⟨0, a, by omega, rfl, rfl, rfl, fun q hq => by omega, rfl⟩
  case round =>
    obtain ⟨j, R, hj, rfl, rfl, hR, hcs, rfl⟩ := hrel
    have hRb : R ≤ 1310719 := by
      have h1 := accs_lt t a j hcs.out
      rw [← hR.out] at h1
      have h2 : (64 : Nat) ^ j ≤ 64 ^ 3 := Nat.pow_le_pow_right (by omega) hj
      have h3 := Nat.mul_le_mul_left (a + 1) h2
      have h4 : (a + 1) * 64 ^ 3 ≤ 1310720 := by omega
      omega
    obtain ⟨m, hm⟩ : ∃ m, j + 1 = m := ⟨_, rfl⟩
    rw [hm]
    by_cases hjk : j < 3
    · obtain ⟨b', off', y, e', hb', hy, hcy⟩ := HR.out.at_ (k := j + 1) (by have := HNK.out; omega)
      injection e' with e'
      injection e' with e1 e2 _
      subst e1
      subst e2
      have hyd := getD_of hy
      obtain ⟨v, hv⟩ : ∃ v : Int, (y.toNat : Int) = v := ⟨_, rfl⟩
      rw [bv, hv] at hcy
      have hmn : m < n := by have := HNK.out; omega
      have hmb : m ≤ 4 := by omega
      have tm : decide ((m : Int) < 4) = true := by rw [decide_eq_true_iff]; omega
      have vb : 0 ≤ v := by omega
      have vc : v ≤ 255 := by have := y.toNat_lt; omega
      rw [hm] at hcy
      by_cases c1 : v < 128
      · have s1 : decide (v < 128) = true := by rw [decide_eq_true_iff]; omega
        have hres := HCT.out m (by omega) (fun h => by unfold ct at h; rw [← hm, hyd] at h; omega)
        have HRES := Lib.hid hres
        clear hjk hj hy hyd hv hm c1 hres hRb
        go_wp2
        go_ret
        exact ⟨by rw [HRES.out]; rfl, Fresh.refl _⟩
      have s1 : decide (v < 128) = false := by rw [decide_eq_false_iff_not]; omega
      by_cases c2 : 191 < v
      · have s2 : decide (v > 191) = true := by rw [decide_eq_true_iff]; omega
        have s3 : decide (191 < v) = true := by rw [decide_eq_true_iff]; omega
        have hres := HCT.out m (by omega) (fun h => by unfold ct at h; rw [← hm, hyd] at h; omega)
        have HRES := Lib.hid hres
        clear hjk hj hy hyd hv hm c1 c2 hres hRb
        go_wp2
        go_ret
        exact ⟨by rw [HRES.out]; rfl, Fresh.refl _⟩
      have s2 : decide (v > 191) = false := by rw [decide_eq_false_iff_not]; omega
      have s3 : decide (191 < v) = false := by rw [decide_eq_false_iff_not]; omega
      have hcv := cv_of hyd
      have hst : Hid (64 * R + (y.toNat - 128) = accs t a (j + 1)) := (by rw [accs_succ, hcv, hR.out] : 64 * R + (y.toNat - 128) = accs t a (j + 1))
      have hval : 64 * (R : Int) + v - 128 = ((64 * R + (y.toNat - 128) : Nat) : Int) := by omega
      have hcc : Hid (∀ q, q < j + 1 → ct t (q + 1)) := ct_step hcs.out (by unfold ct; rw [hyd]; omega)
      have HV := Lib.hid hval
      have HM := Lib.hid hm
      have HJK := Lib.hid hjk
      clear hjk hy hyd hv hm c1 c2 hcv hval
      go_wp2
      have hm := HM.out
      have hjk := HJK.out
      go_roundw
      case rel => exact ⟨j + 1, 64 * R + (y.toNat - 128), by omega, by rw [hm]; go_num, by rw [HV.out], hst, hcc, trivial⟩
      case measure => simp [intOf] <;> omega
    · obtain rfl : j = 3 := by omega
      have hw2 := HW.out hcs.out R hR.out
      have tm : decide ((m : Int) < 4) = false := by rw [decide_eq_false_iff_not]; omega
      have hut := utf_any R (by omega) wr
      obtain ⟨W, hW⟩ : ∃ W, wid R = W := ⟨_, rfl⟩
      rw [hW] at hut
      have hW4 := wid_bd R
      rw [hW] at hW4
      obtain ⟨hWa, hWb⟩ := hW4
      unfold okN at hw2
      rw [hW] at hw2
      have HUT := Lib.hid hut
      obtain ⟨Z, hZ⟩ : ∃ Z : Int, (R : Int) = Z := ⟨_, rfl⟩
      rw [hZ] at HUT hw2 ⊢
      clear hut hW hjk hj hcs hR hm
      by_cases k1 : W = 4
      · have u1 : ((W : Int) != 4) = false := by rw [bne_eq_false_iff_eq]; omega
        by_cases k2 : 55296 ≤ R ∧ R ≤ 57343
        · have hres := hw2.2 (by omega)
          have p1 : decide (Z ≥ 55296) = true := by rw [decide_eq_true_iff]; omega
          have p2 : decide (55296 ≤ Z) = true := by rw [decide_eq_true_iff]; omega
          have p3 : decide (Z ≤ 57343) = true := by rw [decide_eq_true_iff]; omega
          have HRES := Lib.hid hres
          clear hw2 k1 k2 hRb hres hZ
          go_wp2_with (go_at_call 26; (refine HUT.out.mono ?_); rintro e w1 ⟨A1, c1, rfl, hf1, ho1⟩)
          go_ret
          exact ⟨by rw [HRES.out]; rfl, hf1⟩
        · have pp : (decide (55296 ≤ Z) = true ∧ decide (Z ≥ 55296) = true ∧ decide (Z ≤ 57343) = false) ∨ (decide (55296 ≤ Z) = false ∧ decide (Z ≥ 55296) = false) := by
            by_cases q : 55296 ≤ Z
            · exact Or.inl ⟨decide_eq_true q, decide_eq_true q, decide_eq_false (by omega)⟩
            · exact Or.inr ⟨decide_eq_false q, decide_eq_false q⟩
          by_cases k3 : 1114111 < R
          · have hres := hw2.2 (by omega)
            have p4 : decide (Z > 1114111) = true := by rw [decide_eq_true_iff]; omega
            have p5 : decide (1114111 < Z) = true := by rw [decide_eq_true_iff]; omega
            have HRES := Lib.hid hres
            clear hw2 k1 k2 k3 hRb hres hZ
            rcases pp with ⟨p1, p2, p3⟩ | ⟨p1, p2⟩
            all_goals
              go_wp2_with (go_at_call 26; (refine HUT.out.mono ?_); rintro e w1 ⟨A1, c1, rfl, hf1, ho1⟩)
              go_ret
              exact ⟨by rw [HRES.out]; rfl, hf1⟩
          · have hres := hw2.1 ⟨k1, by omega, by omega⟩
            have p4 : decide (Z > 1114111) = false := by rw [decide_eq_false_iff_not]; omega
            have p5 : decide (1114111 < Z) = false := by rw [decide_eq_false_iff_not]; omega
            have HRES := Lib.hid hres
            clear hw2 k1 k2 k3 hRb hres hZ
            rcases pp with ⟨p1, p2, p3⟩ | ⟨p1, p2⟩
            all_goals
              go_wp2_with (go_at_call 26; (refine HUT.out.mono ?_); rintro e w1 ⟨A1, c1, rfl, hf1, ho1⟩)
              go_ret
              exact ⟨by rw [HRES.out]; rfl, hf1⟩
      · have u1 : ((W : Int) != 4) = true := by rw [bne_iff_ne]; omega
        have hres := hw2.2 (fun h => k1 h.1)
        have HRES := Lib.hid hres
        clear hw2 k1 hRb hres hZ
        go_wp2_with (go_at_call 26; (refine HUT.out.mono ?_); rintro e w1 ⟨A1, c1, rfl, hf1, ho1⟩)
        go_ret
        exact ⟨by rw [HRES.out]; rfl, hf1⟩

theorem next_any (A : Option Addr) (n c : Nat) (t : List UInt8) (w : World) (B : Nat) (hr : Rd w B A n (t.map bv)) (hB : B ≤ w.heap.size) (hn : 1 ≤ n) : Calls Tryd.prog 25 #[.slice A n c] w fun e w' => e = .returned (.int .i64 (nxI t)) ∧ Fresh w w' := by
  have hb := (t.getD 0 0).toNat_lt
  by_cases h1 : (t.getD 0 0).toNat < 128
  · exact next_one A n c t w B hr hB hn h1
  by_cases h2 : (t.getD 0 0).toNat ≤ 193
  · exact next_head_a A n c t w B hr hB hn (by omega)
  by_cases h3 : (t.getD 0 0).toNat ≤ 223
  · exact next_2 A n c t w B hr hB hn (by omega)
  by_cases h4 : (t.getD 0 0).toNat ≤ 239
  · exact next_3 A n c t w B hr hB hn (by omega)
  by_cases h5 : (t.getD 0 0).toNat ≤ 244
  · exact next_4 A n c t w B hr hB hn (by omega)
  · exact next_head_b A n c t w B hr hB hn (by omega)
end Go.Proofs.YtkkkjadfhimahaaDoor.namp
