/-
  The walk of the law GlobMatches. My own text.
-/
import Derived.Test.YtkkkjadfhimahaaDoorGlbRnw
import Derived.Test.YtkkkjadfhimahaaDoorGlbRhe
import Derived.Test.YtkkkjadfhimahaaDoorGlbEq
import Derived.Test.YtkkkjadfhimahaaDoorOpenStrs
namespace Go.Proofs.YtkkkjadfhimahaaDoor.globMatches
open Go.RowKit Go.Proofs.YtkkkjadfhimahaaDoor.base Go.Proofs.YtkkkjadfhimahaaDoor.nam Go.Proofs.YtkkkjadfhimahaaDoor.namp Go.Proofs.YtkkkjadfhimahaaDoor.glb Go.Proofs.YtkkkjadfhimahaaDoor.glbp
set_option linter.unusedVariables false
theorem rd_up {W W' : World} {N : Option Addr} {m : Nat} {xs : List Value} (h : Rd W W.heap.size N m xs) (hf : Fresh W W') : Rd W' W'.heap.size N m xs := by
  obtain ⟨h1, h2⟩ := h.below hf (Nat.le_refl _)
  refine ⟨h1, fun h0 => ?_⟩
  obtain ⟨b, off, h3, h4, h5⟩ := h2 h0
  exact ⟨b, off, h3, Nat.lt_of_lt_of_le h4 hf.size, h5⟩
set_option maxHeartbeats 8000000 in
set_option maxRecDepth 100000 in
theorem globMatches_walk (a0 : ByteArray) (A1 : Option Addr) (n1 c1 : Nat) (l1 : List ByteArray) (w : World) (w0 : a0.size ≤ maxLen) (b1 : InStrs w A1 n1 c1 l1) (hT : Tabs w) :
    Calls Tryd.prog 3 #[.string a0, .slice A1 n1 c1] w fun e w' => e = .returned (.bool true) ∧ Below w.heap.size w w' := by
  have HW := Lib.hid (wakes_any w hT)
  have HT := Lib.hid hT
  obtain ⟨hr, hc, hcm, _⟩ := b1
  clear w0 hT
  by_cases h1 : 300 < a0.size
  · have t1 : decide ((a0.size : Int) > 300) = true := by rw [decide_eq_true_iff]; omega
    have t2 : decide (300 < (a0.size : Int)) = true := by rw [decide_eq_true_iff]; omega
    clear h1 hr hc hcm
    go_enter Tryd.func3, Tryd.ntmps3
    go_wp2_with (go_at_call 9; (refine HW.out.mono ?_); rintro e w1 ⟨rfl, hf1⟩)
    go_ret
    exact ⟨rfl, hf1⟩
  have t1 : decide ((a0.size : Int) > 300) = false := by rw [decide_eq_false_iff_not]; omega
  have t2 : decide (300 < (a0.size : Int)) = false := by rw [decide_eq_false_iff_not]; omega
  by_cases h2 : 20 < n1
  · have t3 : decide ((n1 : Int) > 20) = true := by rw [decide_eq_true_iff]; omega
    have t4 : decide (20 < (n1 : Int)) = true := by rw [decide_eq_true_iff]; omega
    clear h1 h2 hr hc hcm
    go_enter Tryd.func3, Tryd.ntmps3
    go_wp2_with (go_at_call 9; (refine HW.out.mono ?_); rintro e w1 ⟨rfl, hf1⟩)
    go_ret
    exact ⟨rfl, hf1⟩
  have t3 : decide ((n1 : Int) > 20) = false := by rw [decide_eq_false_iff_not]; omega
  have t4 : decide (20 < (n1 : Int)) = false := by rw [decide_eq_false_iff_not]; omega
  have HR := Lib.hid hr
  have hn1 : n1 ≤ 20 := by omega
  by_cases h3 : 100 < a0.size
  · have HN := Lib.hid (fun W => new_long a0 W h3)
    have HRN := Lib.hid (fun W => refNew_long a0 W h3)
    clear h1 h2 h3 hr hc hcm
    go_enter Tryd.func3, Tryd.ntmps3
    go_wp2_with (first
      | (go_at_call 9; (refine HW.out.mono ?_); rintro e w1 ⟨rfl, hf1⟩; have HF1 := Lib.hid hf1; clear hf1)
      | (go_at_call 10; (refine (HN.out w1).mono ?_); rintro e w2 ⟨rfl, hf2⟩; have HF2 := Lib.hid hf2; clear hf2)
      | (go_at_call 11; (refine (HRN.out w2).mono ?_); rintro e w3 ⟨rfl, hf3⟩; have HF3 := Lib.hid hf3; clear hf3))
    go_ret
    exact ⟨rfl, (HF1.out.trans (HF2.out.trans HF3.out)).trans (Fresh.alloc _ _)⟩
  obtain ⟨rs, u, hrs, hrn, hu⟩ := told a0
  have hnw := fun W h => new_any a0 rs u hrs hrn hu W (by omega) h
  have hrw := fun W => refNew_any a0 rs u hrs hrn hu W (by omega)
  cases hp : prsT rs u with
  | none =>
    rw [hp] at hnw hrw
    have HN := Lib.hid hnw
    have HRN := Lib.hid hrw
    clear h1 h2 h3 hr hc hcm hnw hrw hp hrs hrn hu
    go_enter Tryd.func3, Tryd.ntmps3
    go_wp2_with (first
      | (go_at_call 9; (refine HW.out.mono ?_); rintro e w1 ⟨rfl, hf1⟩; have HF1 := Lib.hid hf1; clear hf1)
      | (go_at_call 10; (refine (HN.out w1 (HT.out.fresh HF1.out)).mono ?_); rintro e w2 ⟨rfl, hf2⟩; have HF2 := Lib.hid hf2; clear hf2)
      | (go_at_call 11; (refine (HRN.out w2).mono ?_); rintro e w3 ⟨rfl, hf3⟩; have HF3 := Lib.hid hf3; clear hf3))
    go_ret
    exact ⟨rfl, (HF1.out.trans (HF2.out.trans HF3.out)).trans (Fresh.alloc _ _)⟩
  | some ps =>
    rw [hp] at hnw hrw
    have hu0 : u = [] := by
      by_cases h : u = []
      · exact h
      · rw [prsT, if_neg h] at hp; cases hp
    subst hu0
    rw [prsT, if_pos rfl] at hp
    rw [List.append_nil] at hrs
    have hrl : rs.length ≤ 100 := by
      have h5 := tx_le rs
      have h6 : a0.size = (tx rs).length := by rw [str_size, hrs]
      omega
    have hpl := prs_len hp
    have hok : ∀ p ∈ ps, okP Rn p := prs_ok hrn hp
    have hhr : ∀ r ∈ (hd ps).1, Rn r := hd_ok ps hok
    have hhl := hd_len ps
    have hhe := fun g W h => head2_any g ps W h (by omega) hok
    have hrh := fun A l cA W h => refHead_any A l cA ps W h
    obtain ⟨hr1, hh1⟩ : ∃ x, (hd ps).1 = x := ⟨_, rfl⟩
    obtain ⟨al, hal⟩ : ∃ x, (hd ps).2 = x := ⟨_, rfl⟩
    rw [hh1, hal] at hhe
    simp only [hh1, hal] at hrh
    rw [hh1] at hhr hhl
    obtain ⟨H, hH⟩ : ∃ S : ByteArray, (⟨(tx hr1).toArray⟩ : ByteArray) = S := ⟨_, rfl⟩
    have hHd : H.data.toList = tx hr1 := by rw [← hH]
    rw [hH] at hhe
    have hHz : H.size ≤ 400 := by
      have h4 : ∀ l : List Nat, (tx l).length ≤ 4 * l.length := fun l => by
        induction l with
        | nil => simp
        | cons r l ih => rw [tx_cons, List.length_append, List.length_cons, en_len]; have := wid_bd r; omega
      rw [str_size, hHd]
      have := h4 hr1
      omega
    obtain ⟨mh, hmh⟩ : ∃ m, hr1.length = m := ⟨_, rfl⟩
    have hmh2 : mh ≤ 1000 := by omega
    have hrun2 : ∀ V, Calls Tryd.prog 14 #[.string H] V fun e w' => ∃ N c, e = .returned (.slice N mh c) ∧ Fresh V w' ∧ Rd w' w'.heap.size N mh (ir hr1) := fun V => (runes_any H hr1 (by rw [hHd, rns_good _ hhr]) V (by omega)).mono (by
      rintro e w' ⟨N, n, c, rfl, rfl, _, hf, hr⟩
      exact ⟨N, c, by rw [hmh], hf, by rw [← hmh]; exact hr⟩)
    rw [hmh] at hrh
    have HN := Lib.hid hnw
    have HRN0 := Lib.hid hrw
    have HHE := Lib.hid hhe
    have HRH := Lib.hid hrh
    have HRU2 := Lib.hid hrun2
    have kal : (al != al) = false := by cases al <;> rfl
    have HPSL := Lib.hid (show ps.length ≤ 1000 by omega)
    clear h1 h2 h3 hr hc hcm hnw hrw hp hrs hrn hu hrl hpl hok hhr hhl hhe hh1 hal hH hHd hHz hrh hrun2
    go_enter Tryd.func3, Tryd.ntmps3
    go_upto_region 7 with (first
      | (go_at_call 9; (refine HW.out.mono ?_); rintro e w1 ⟨rfl, hf1⟩; have HF1 := Lib.hid hf1; clear hf1)
      | (go_at_call 10; (refine (HN.out w1 (HT.out.fresh HF1.out)).mono ?_); rintro e w2 ⟨g, rfl, hg, hf2⟩; have HG2 := Lib.hid hg; have HF2 := Lib.hid (Fresh.trans HF1.out hf2); clear hg hf2)
      | (go_at_call 11; (refine (HRN0.out w2).mono ?_); rintro e w3 ⟨A, l, cA, rfl, hl, hps, hf3⟩; have HF3 := Lib.hid (HF2.out.trans hf3); have HG3 := Lib.hid (HG2.out.fresh hf3); have HP3 := Lib.hid hps; have HL3 := Lib.hid hl; clear hf3 hps hl))
    have hb := Bk.made w3 tRGlob #[.slice A l cA, iv 0]
    have hfa := Fresh.alloc w3 (.cells #[.slice A l cA, iv 0] tRGlob)
    obtain ⟨W, hW⟩ : ∃ W, w3.alloc (.cells #[.slice A l cA, iv 0] tRGlob) = W := ⟨_, rfl⟩
    rw [hW] at hb hfa ⊢
    obtain ⟨gx, hgx⟩ : ∃ gx, w3.heap.size = gx := ⟨_, rfl⟩
    rw [hgx] at hb ⊢
    have kx1 := hb.cell (i := 1) rfl
    have HF4 := Lib.hid (HF3.out.trans hfa)
    have hG4 := HG3.out.fresh hfa
    have hP4 := HP3.out.fresh hfa
    have hld : ∀ V, Fresh W V → V.cell? ⟨gx, 0, none⟩ = some (.slice A l cA) ∧ V.cell? ⟨gx, 1, none⟩ = some (iv 0) := fun V hV => ⟨(hb.fresh hV).cell (i := 0) rfl, (hb.fresh hV).cell (i := 1) rfl⟩
    have HLD := Lib.hid hld
    have HBX := Lib.hid hb
    have HG4 := Lib.hid hG4
    have HP4 := Lib.hid hP4
    clear hb hfa hW hgx hG4 hP4 hld
    go_wp2
    go_loopw [48] (fun i wr => ∃ k : Nat, k ≤ n1 ∧ i = .int .i64 k ∧ Fresh W wr) (fun i _ => n1 - (intOf i).toNat)
    case atStart => exact ⟨0, Nat.zero_le _, rfl, Fresh.refl _⟩
    case round =>
      obtain ⟨k, hk, rfl, hfr⟩ := hrel
      have hfw := HF4.out.trans hfr
      by_cases hlt : k < n1
      · obtain ⟨b, off, s, rfl, hbb, hx, hcx⟩ := (HR.out.below hfw (Nat.le_refl _)).at_ hlt
        have HFc := Lib.hid hfr
        have HFW := Lib.hid hfw
        clear hfr hfw hx
        by_cases h3 : 300 < s.size
        · have t5 : decide ((s.size : Int) > 300) = true := by rw [decide_eq_true_iff]; omega
          have t6 : decide (300 < (s.size : Int)) = true := by rw [decide_eq_true_iff]; omega
          clear h3
          go_wp2
          go_ret
          exact ⟨rfl, HFW.out⟩
        have t5 : decide ((s.size : Int) > 300) = false := by rw [decide_eq_false_iff_not]; omega
        have t6 : decide (300 < (s.size : Int)) = false := by rw [decide_eq_false_iff_not]; omega
        obtain ⟨qs, hqs⟩ : ∃ qs, rns s.data.toList = qs := ⟨_, rfl⟩
        obtain ⟨M, hM⟩ : ∃ M, mt ps qs = M := ⟨_, rfl⟩
        obtain ⟨m, hm⟩ : ∃ m, qs.length = m := ⟨_, rfl⟩
        have hm9 : m ≤ 1000 := by
          have h5 := rns_len s.data.toList
          rw [hqs, hm, ← str_size] at h5
          omega
        have hmm : ∀ V, Fresh W V → Calls Tryd.prog 12 #[ptg g, .string s] V fun e w' => e = .returned (.bool M) ∧ Fresh V w' := fun V hV => match_is ps s qs M hqs hM (by omega) g V (HG4.out.fresh hV)
        have hru : ∀ V, Calls Tryd.prog 14 #[.string s] V fun e w' => ∃ N c, e = .returned (.slice N m c) ∧ Fresh V w' ∧ Rd w' w'.heap.size N m (ir qs) := fun V => (runes_any s qs hqs V (by omega)).mono (by
          rintro e w' ⟨N, n, c, rfl, rfl, _, hf, hr⟩
          exact ⟨N, c, by rw [hm], hf, by rw [← hm]; exact hr⟩)
        have hrm : ∀ V N c, Fresh W V → Rd V V.heap.size N m (ir qs) → Calls Tryd.prog 13 #[.agg #[.slice A l cA, iv 0], .slice N m c] V fun e w' => e = .returned (.bool M) ∧ Fresh V w' := fun V N c hV hN => by
          rw [← hM]
          exact refMatch_any A l cA m c ps N qs V (HP4.out.fresh hV) hN HL3.out hm9
        have HMM := Lib.hid hmm
        have HRU := Lib.hid hru
        have HRM := Lib.hid hrm
        have kM : (M != M) = false := by cases M <;> rfl
        have kM2 : (M == M) = true := by cases M <;> rfl
        clear hmm hru hrm hqs hM hm h3
        obtain ⟨l0a, m0a⟩ := HLD.out wr HFc.out
        obtain ⟨l0b, m0b⟩ := HLD.out wr.drew (HFc.out.trans (Fresh.drew _))
        obtain ⟨l0c, m0c⟩ := HLD.out wr.drew.drew ((HFc.out.trans (Fresh.drew _)).trans (Fresh.drew _))
        go_wp2
        go_region_law (first
          | ((with_reducible refine gst_slot_ 57 ?_); go_simp; (refine (HMM.out _ (by first | exact HFc.out | exact HFc.out.trans (Fresh.drew _) | exact (HFc.out.trans (Fresh.drew _)).trans (Fresh.drew _) | exact ((HFc.out.trans (Fresh.drew _)).trans (Fresh.drew _)).trans (Fresh.drew _))).mono ?_); rintro e w7 ⟨rfl, hf7⟩; have hx7 : Fresh W w7 := (by first | exact HFc.out.trans hf7 | exact (HFc.out.trans (Fresh.drew _)).trans hf7 | exact ((HFc.out.trans (Fresh.drew _)).trans (Fresh.drew _)).trans hf7 | exact (((HFc.out.trans (Fresh.drew _)).trans (Fresh.drew _)).trans (Fresh.drew _)).trans hf7); obtain ⟨l1a, m1a⟩ := HLD.out w7 hx7; obtain ⟨l1b, m1b⟩ := HLD.out w7.drew (hx7.trans (Fresh.drew _)); obtain ⟨l1c, m1c⟩ := HLD.out w7.drew.drew ((hx7.trans (Fresh.drew _)).trans (Fresh.drew _)); have HF7 := Lib.hid hx7; clear hf7 hx7)
          | ((with_reducible refine gst_slot_ 60 ?_); go_simp; (refine (HRU.out _).mono ?_); rintro e w8 ⟨N, cN, rfl, hf8, hr8⟩; have hx8 : Fresh W w8 := (by first | exact HF7.out.trans hf8 | exact (HF7.out.trans (Fresh.drew _)).trans hf8 | exact ((HF7.out.trans (Fresh.drew _)).trans (Fresh.drew _)).trans hf8 | exact (((HF7.out.trans (Fresh.drew _)).trans (Fresh.drew _)).trans (Fresh.drew _)).trans hf8); obtain ⟨l2a, m2a⟩ := HLD.out w8 hx8; obtain ⟨l2b, m2b⟩ := HLD.out w8.drew (hx8.trans (Fresh.drew _)); obtain ⟨l2c, m2c⟩ := HLD.out w8.drew.drew ((hx8.trans (Fresh.drew _)).trans (Fresh.drew _)); have HRN := Lib.hid hr8; have HF8 := Lib.hid hx8; clear hf8 hx8 hr8)
          | ((with_reducible refine gst_slot_ 61 ?_); go_simp; (refine (HRM.out _ N cN (by first | exact HF8.out | exact HF8.out.trans (Fresh.drew _) | exact (HF8.out.trans (Fresh.drew _)).trans (Fresh.drew _) | exact ((HF8.out.trans (Fresh.drew _)).trans (Fresh.drew _)).trans (Fresh.drew _)) (by first | exact HRN.out | exact rd_up HRN.out (Fresh.drew _) | exact rd_up HRN.out ((Fresh.drew _).trans (Fresh.drew _)))).mono ?_); rintro e w9 ⟨rfl, hf9⟩; have hx9 : Fresh W w9 := (by first | exact HF8.out.trans hf9 | exact (HF8.out.trans (Fresh.drew _)).trans hf9 | exact ((HF8.out.trans (Fresh.drew _)).trans (Fresh.drew _)).trans hf9 | exact (((HF8.out.trans (Fresh.drew _)).trans (Fresh.drew _)).trans (Fresh.drew _)).trans hf9); have HF9 := Lib.hid hx9; clear hf9 hx9))
        all_goals
          go_wp2
          go_roundw
          case rel => exact ⟨k + 1, by omega, by go_num, (by first | exact HF9.out | exact HF9.out.trans (Fresh.drew _) | exact (HF9.out.trans (Fresh.drew _)).trans (Fresh.drew _) | exact ((HF9.out.trans (Fresh.drew _)).trans (Fresh.drew _)).trans (Fresh.drew _))⟩
          case measure => simp [intOf]; omega
      · obtain rfl : k = n1 := by omega
        have HFc := Lib.hid hfr
        have HFW := Lib.hid hfw
        clear hfr hfw
        go_upto_region 21 with (first
          | (go_at_call 15; (refine (HHE.out g wr (HG4.out.fresh HFc.out)).mono ?_); rintro e w5 ⟨rfl, hf5⟩; have HF5 := Lib.hid (HFc.out.trans hf5); clear hf5)
          | ((with_reducible refine at_slot_ 69 ?_); refine wpList_load_blk rfl tRGlob (.tmp 7) rfl gx 0 2 tRGlob [.slice A l cA, iv 0] rfl (HBX.out.fresh HF5.out) (by simp) _ Tryd.underlying30 rfl (by kernel_rfl) ?_)
          | (go_at_call 16; (refine (HRH.out A l cA w5 (HP4.out.fresh HF5.out) HL3.out).mono ?_); rintro e w6 ⟨B, n6, c6, rfl, hn6, hf6, hr6⟩; replace hn6 := hn6.symm; subst hn6; have HF6 := Lib.hid (HF5.out.trans hf6); have HR6 := Lib.hid hr6; clear hf6 hr6))
        have hb6 := Bk.made w6 tRHead #[.slice B mh c6, .bool al]
        have hf6 := Fresh.alloc w6 (.cells #[.slice B mh c6, .bool al] tRHead)
        obtain ⟨W6, hW6⟩ : ∃ W6, w6.alloc (.cells #[.slice B mh c6, .bool al] tRHead) = W6 := ⟨_, rfl⟩
        rw [hW6] at hb6 hf6 ⊢
        obtain ⟨gh, hgh⟩ : ∃ gh, w6.heap.size = gh := ⟨_, rfl⟩
        rw [hgh] at hb6 ⊢
        have hcc : ∀ V, Fresh W6 V → V.cell? ⟨gh, 0, none⟩ = some (.slice B mh c6) ∧ V.cell? ⟨gh, 1, none⟩ = some (.bool al) := fun V hV => ⟨(hb6.fresh hV).cell (i := 0) rfl, (hb6.fresh hV).cell (i := 1) rfl⟩
        have HCC := Lib.hid hcc
        have HR7 := Lib.hid (rd_up HR6.out hf6)
        have HF7 := Lib.hid (HF4.out.trans (HF6.out.trans hf6))
        have HFc := Lib.hid (Fresh.refl W6)
        obtain ⟨q0, q1⟩ := hcc W6 (Fresh.refl W6)
        obtain ⟨q2, q3⟩ := hcc W6.drew (Fresh.drew _)
        obtain ⟨q4, q5⟩ := hcc W6.drew.drew ((Fresh.drew _).trans (Fresh.drew _))
        clear hb6 hf6 hW6 hgh hcc
        go_region_law ((with_reducible refine gst_slot_ 77 ?_); go_simp; (refine (HRU2.out _).mono ?_); rintro e w8 ⟨N, cN, rfl, hf8, hr8⟩; have hx8 : Fresh W6 w8 := (by first | exact HFc.out.trans hf8 | exact (HFc.out.trans (Fresh.drew _)).trans hf8 | exact ((HFc.out.trans (Fresh.drew _)).trans (Fresh.drew _)).trans hf8 | exact (((HFc.out.trans (Fresh.drew _)).trans (Fresh.drew _)).trans (Fresh.drew _)).trans hf8); obtain ⟨r0, r1⟩ := HCC.out w8 hx8; obtain ⟨r2, r3⟩ := HCC.out w8.drew (hx8.trans (Fresh.drew _)); have HF8 := Lib.hid hx8; clear hf8 hx8 hr8)
        all_goals
          go_wp2_with (go_at_call 14; (with_reducible refine (HRU2.out _).mono ?_); rintro e w9 ⟨N9, c9, rfl, hf9, hr9⟩; have hx9 : Fresh W6 w9 := (by first | exact HF8.out.trans hf9 | exact (HF8.out.trans (Fresh.drew _)).trans hf9 | exact ((HF8.out.trans (Fresh.drew _)).trans (Fresh.drew _)).trans hf9 | exact (((HF8.out.trans (Fresh.drew _)).trans (Fresh.drew _)).trans (Fresh.drew _)).trans hf9); have HR9 := Lib.hid hr9; have HR8 := Lib.hid (HR7.out.below hx9 (Nat.le_refl _)); obtain ⟨s0, s1⟩ := HCC.out w9 hx9; have HF9 := Lib.hid (HF7.out.trans hx9); clear hf9 hx9 hr9)
          go_loopw [87] (fun i wr => ∃ j : Nat, j ≤ mh ∧ i = .int .i64 j ∧ wr = w9) (fun i _ => mh - (intOf i).toNat)
          case atStart => exact ⟨0, Nat.zero_le _, rfl, rfl⟩
          case round =>
            obtain ⟨j, hj, rfl, hwr⟩ := hrel
            subst hwr
            by_cases hlt2 : j < mh
            · obtain ⟨b, off, x, rfl, hbb, hx, hcx⟩ := HR9.out.at_ hlt2
              obtain ⟨b', off', y, rfl, hbb', hy, hcy⟩ := HR8.out.at_ hlt2
              rw [hx] at hy
              injection hy with hy
              subst hy
              have p1 : (j : Int) < (mh : Int) := by omega
              go_wp2
              go_roundw
              case rel => exact ⟨j + 1, by omega, by go_num, by first | rfl | trivial⟩
              case measure => simp [intOf]; omega
            · obtain rfl : j = mh := by omega
              go_wp2
              go_ret
              exact ⟨rfl, HF9.out⟩
end Go.Proofs.YtkkkjadfhimahaaDoor.globMatches
