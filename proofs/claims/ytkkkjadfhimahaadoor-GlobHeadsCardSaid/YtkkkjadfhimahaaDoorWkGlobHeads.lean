/-
  The walk of the law GlobHeads. My own text.
-/
import Derived.Test.YtkkkjadfhimahaaDoorGlbEq
import Derived.Test.YtkkkjadfhimahaaDoorOpenStrs
namespace Go.Proofs.YtkkkjadfhimahaaDoor.globHeads
open Go.RowKit Go.Proofs.YtkkkjadfhimahaaDoor.base Go.Proofs.YtkkkjadfhimahaaDoor.nam Go.Proofs.YtkkkjadfhimahaaDoor.namp Go.Proofs.YtkkkjadfhimahaaDoor.glb Go.Proofs.YtkkkjadfhimahaaDoor.glbp
set_option linter.unusedVariables false
theorem tx_four (rs : List Nat) : (tx rs).length ≤ 4 * rs.length := by
  induction rs with
  | nil => simp
  | cons r rs ih => rw [tx_cons, List.length_append, List.length_cons, en_len]; have := wid_bd r; omega
theorem extract_is (s : ByteArray) (k : Nat) (l t : List UInt8) (h : s.data.toList = l ++ t) (hk : l.length = k) : s.extract 0 k = ⟨l.toArray⟩ := by
  apply str_ext
  have e : (s.extract 0 k).data.toList = (s.data.toList).take k := by
    rw [ByteArray.data_extract, Array.toList_extract]
    simp
  rw [e, h, ← hk, List.take_left]
set_option maxHeartbeats 4000000 in
set_option maxRecDepth 100000 in
theorem globHeads_walk (a0 : ByteArray) (A1 : Option Addr) (n1 c1 : Nat) (l1 : List ByteArray) (w : World) (w0 : a0.size ≤ maxLen) (b1 : InStrs w A1 n1 c1 l1) (hT : Tabs w) :
    Calls Tryd.prog 4 #[.string a0, .slice A1 n1 c1] w fun e w' => e = .returned (.bool true) ∧ Below w.heap.size w w' := by
  have HW := Lib.hid (wakes_any w hT)
  have HT := Lib.hid hT
  obtain ⟨hr, hc, hcm, _⟩ := b1
  clear w0 hT
  by_cases h1 : 300 < a0.size
  · have t1 : decide ((a0.size : Int) > 300) = true := by rw [decide_eq_true_iff]; omega
    have t2 : decide (300 < (a0.size : Int)) = true := by rw [decide_eq_true_iff]; omega
    clear h1 hr hc hcm
    go_enter Tryd.func4, Tryd.ntmps4
    go_wp2_with (go_at_call 9; (refine HW.out.mono ?_); rintro e w1 ⟨rfl, hf1⟩)
    go_ret
    exact ⟨rfl, hf1⟩
  have t1 : decide ((a0.size : Int) > 300) = false := by rw [decide_eq_false_iff_not]; omega
  have t2 : decide (300 < (a0.size : Int)) = false := by rw [decide_eq_false_iff_not]; omega
  by_cases h2 : 20 < n1
  · have t3 : decide ((n1 : Int) > 20) = true := by rw [decide_eq_true_iff]; omega
    have t4 : decide (20 < (n1 : Int)) = true := by rw [decide_eq_true_iff]; omega
    clear h1 h2 hr hc hcm
    go_enter Tryd.func4, Tryd.ntmps4
    go_wp2_with (go_at_call 9; (refine HW.out.mono ?_); rintro e w1 ⟨rfl, hf1⟩)
    go_ret
    exact ⟨rfl, hf1⟩
  have t3 : decide ((n1 : Int) > 20) = false := by rw [decide_eq_false_iff_not]; omega
  have t4 : decide (20 < (n1 : Int)) = false := by rw [decide_eq_false_iff_not]; omega
  have HR := Lib.hid hr
  have hn1 : n1 ≤ 20 := by omega
  by_cases h3 : 100 < a0.size
  · have HN := Lib.hid (fun W => new_long a0 W h3)
    clear h1 h2 h3 hr hc hcm
    go_enter Tryd.func4, Tryd.ntmps4
    go_wp2_with (first
      | (go_at_call 9; (refine HW.out.mono ?_); rintro e w1 ⟨rfl, hf1⟩; have HF1 := Lib.hid hf1; clear hf1)
      | (go_at_call 10; (refine (HN.out w1).mono ?_); rintro e w2 ⟨rfl, hf2⟩))
    go_ret
    exact ⟨rfl, HF1.out.trans hf2⟩
  obtain ⟨rs, u, hrs, hrn, hu⟩ := told a0
  have hnw := fun W h => new_any a0 rs u hrs hrn hu W (by omega) h
  cases hp : prsT rs u with
  | none =>
    rw [hp] at hnw
    have HN := Lib.hid hnw
    clear h1 h2 h3 hr hc hcm hnw hp hrs hrn hu
    go_enter Tryd.func4, Tryd.ntmps4
    go_wp2_with (first
      | (go_at_call 9; (refine HW.out.mono ?_); rintro e w1 ⟨rfl, hf1⟩; have HF1 := Lib.hid hf1; clear hf1)
      | (go_at_call 10; (refine (HN.out w1 (HT.out.fresh HF1.out)).mono ?_); rintro e w2 ⟨rfl, hf2⟩))
    go_ret
    exact ⟨rfl, HF1.out.trans hf2⟩
  | some ps =>
    rw [hp] at hnw
    have hu0 : u = [] := by
      by_cases h : u = []
      · exact h
      · rw [prsT, if_neg h] at hp; cases hp
    subst hu0
    rw [prsT, if_pos rfl] at hp
    rw [List.append_nil] at hrs
    have hrl : rs.length ≤ 100 := by
      have h5 := tx_le rs
      have h6 : a0.size = (tx rs).length := by rw [str_size, hrs]
      omega
    have hpl := prs_len hp
    have hok : ∀ p ∈ ps, okP Rn p := prs_ok hrn hp
    have hhr : ∀ r ∈ (hd ps).1, Rn r := hd_ok ps hok
    have hhl := hd_len ps
    have hhe := fun g W h => head2_any g ps W h (by omega) hok
    obtain ⟨hr1, hh1⟩ : ∃ x, (hd ps).1 = x := ⟨_, rfl⟩
    obtain ⟨al, hal⟩ : ∃ x, (hd ps).2 = x := ⟨_, rfl⟩
    have hfits := hd_fits ps
    have hall := hd_all ps
    rw [hh1, hal] at hhe
    rw [hh1] at hhr hhl
    simp only [hh1, hal] at hfits hall
    obtain ⟨H, hH⟩ : ∃ S : ByteArray, (⟨(tx hr1).toArray⟩ : ByteArray) = S := ⟨_, rfl⟩
    have hHd : H.data.toList = tx hr1 := by rw [← hH]
    rw [hH] at hhe
    have hHz : H.size ≤ 400 := by rw [str_size, hHd]; have := tx_four hr1; omega
    have hHz2 : (tx hr1).length = H.size := by rw [str_size, hHd]
    have hmh : al = true → ∀ g W, GlobAt W g ps → Calls Tryd.prog 12 #[ptg g, .string H] W fun e w' => e = .returned (.bool true) ∧ Fresh W w' := fun h => match_is ps H hr1 true (by rw [hHd, rns_good _ hhr]) (hall h) (by omega)
    have hname : ∀ (s : ByteArray) (qs : List Nat), s.data.toList = tx qs → (∀ r ∈ qs, Rn r) → mt ps qs = true → H.size ≤ s.size ∧ s.extract 0 H.size = H ∧ (al = true → s = H) := fun s qs hs hq hm => by
      obtain ⟨⟨t, ht⟩, h2⟩ := hfits qs hm
      have e1 : s.data.toList = tx hr1 ++ tx t := by rw [hs, ht, tx_append]
      refine ⟨by rw [str_size, str_size, e1, hHd, List.length_append]; omega, by rw [extract_is s H.size _ _ e1 hHz2, hH], fun h => ?_⟩
      rw [← hH]
      apply str_ext
      rw [hs, h2 h]
    have HN := Lib.hid hnw
    have HHE := Lib.hid hhe
    have HMH := Lib.hid hmh
    have HNM := Lib.hid hname
    have HHZ := Lib.hid hHz
    have HL1 : l1.length = n1 := by have := hr.1; rwa [List.length_map] at this
    have HL := Lib.hid HL1
    clear h1 h2 h3 hr hc hcm hnw hp hrs hrn hu hrl hpl hok hhr hhl hhe hh1 hal hfits hall hH hHd hHz hHz2 hmh hname HL1
    go_enter Tryd.func4, Tryd.ntmps4
    go_wp2_with (first
      | (go_at_call 9; (refine HW.out.mono ?_); rintro e w1 ⟨rfl, hf1⟩; have HF1 := Lib.hid hf1; clear hf1)
      | (go_at_call 10; (refine (HN.out w1 (HT.out.fresh HF1.out)).mono ?_); rintro e w2 ⟨g, rfl, hg, hf2⟩; have HG2 := Lib.hid hg; have HF2 := Lib.hid (Fresh.trans HF1.out hf2); clear hg hf2)
      | (go_at_call 15; (refine (HHE.out g w2 HG2.out).mono ?_); rintro e w3 ⟨rfl, hf3⟩; have HG3 := Lib.hid (HG2.out.fresh hf3); have HF3 := Lib.hid (Fresh.trans HF2.out hf3); clear hf3))
    go_loopw [35] (fun i wr => ∃ k : Nat, k ≤ n1 ∧ i = .int .i64 k ∧ Fresh w3 wr) (fun i _ => n1 - (intOf i).toNat)
    case atStart => exact ⟨0, Nat.zero_le _, rfl, Fresh.refl _⟩
    case round =>
      obtain ⟨k, hk, rfl, hfr⟩ := hrel
      have hfw := HF3.out.trans hfr
      by_cases hlt : k < n1
      · obtain ⟨b, off, s, rfl, hb, hx, hcx⟩ := (HR.out.below hfw (Nat.le_refl _)).at_ hlt
        have HX := Lib.hid hfr
        have HFW := Lib.hid hfw
        clear hfr hfw hx
        by_cases h3 : 300 < s.size
        · have t5 : decide ((s.size : Int) > 300) = true := by rw [decide_eq_true_iff]; omega
          have t6 : decide (300 < (s.size : Int)) = true := by rw [decide_eq_true_iff]; omega
          clear h3
          go_wp2
          go_ret
          exact ⟨rfl, HFW.out⟩
        have t5 : decide ((s.size : Int) > 300) = false := by rw [decide_eq_false_iff_not]; omega
        have t6 : decide (300 < (s.size : Int)) = false := by rw [decide_eq_false_iff_not]; omega
        obtain ⟨qs, v, hqs, hqn, hv⟩ := told s
        have hz0 : (tx qs ++ v).length = s.size := by rw [str_size, hqs]
        obtain ⟨bu, hbu⟩ : ∃ b, decide (v = []) = b := ⟨_, rfl⟩
        have hr0 := read_is qs v hqn hv bu hbu
        have hfd := is_field
        have HR0 := Lib.hid hr0
        have HS0 := Lib.hid hqs
        have HZ0 := Lib.hid hz0
        have hsz3 : s.size ≤ 300 := by omega
        have HSZ := Lib.hid hsz3
        clear hr0 hsz3
        cases bu with
        | false =>
          clear hqs hqn hv hbu hz0
          go_wp2_with (first
            | ((with_reducible refine at_slot_ 44 ?_); refine wpList_bytes_if (by rfl) 9 45 5 (.tmp 43) rfl Tryd.underlying9 Tryd.underlying45 Tryd.underlying5 s rfl _ HS0.out s.size HZ0.out (by have := HSZ.out; unfold maxLen; omega) ?_; intro A5 c5 w5 hf5 hr5 hc5 hc6; have HF5 := Lib.hid (Fresh.trans HFW.out hf5); have hrd5 := HR0.out A5 s.size c5 _ w5 hr5 (Nat.le_refl _) (by have := HSZ.out; omega) hc5 hc6; have HRD5 := Lib.hid hrd5; clear hf5 hr5 hc5 hc6 hrd5)
            | (go_at_call 17; (with_reducible refine HRD5.out.mono ?_); rintro e w6 ⟨A6, m6, c6, rfl, hf6⟩; have hfd6 := hfd A6 m6 c6 false w6; have HF6 := Lib.hid (Fresh.trans HF5.out hf6); clear hf6))
          go_ret
          exact ⟨rfl, HF6.out⟩
        | true =>
          have hv0 : v = [] := of_decide_eq_true hbu
          subst hv0
          rw [List.append_nil] at hqs
          obtain ⟨M, hM⟩ : ∃ M, mt ps qs = M := ⟨_, rfl⟩
          have hmm := match_is ps s qs M (by rw [hqs, rns_good _ hqn]) hM (by omega)
          have HMM := Lib.hid hmm
          have hnm := fun h => HNM.out s qs hqs hqn h
          rw [hM] at hnm
          clear hqs hqn hv hbu hz0 hmm hM
          cases M with
          | false =>
            clear hnm
            go_wp2_with (first
              | ((with_reducible refine at_slot_ 44 ?_); refine wpList_bytes_if (by rfl) 9 45 5 (.tmp 43) rfl Tryd.underlying9 Tryd.underlying45 Tryd.underlying5 s rfl _ HS0.out s.size HZ0.out (by have := HSZ.out; unfold maxLen; omega) ?_; intro A5 c5 w5 hf5 hr5 hc5 hc6; have HF5 := Lib.hid (Fresh.trans HX.out hf5); have hrd5 := HR0.out A5 s.size c5 _ w5 hr5 (Nat.le_refl _) (by have := HSZ.out; omega) hc5 hc6; have HRD5 := Lib.hid hrd5; clear hf5 hr5 hc5 hc6 hrd5)
              | (go_at_call 17; (with_reducible refine HRD5.out.mono ?_); rintro e w6 ⟨A6, m6, c6, rfl, hf6⟩; have hfd6 := hfd A6 m6 c6 true w6; have HF6 := Lib.hid (Fresh.trans HF5.out hf6); clear hf6)
              | (go_at_call 12; (with_reducible refine (HMM.out g w6 (HG3.out.fresh HF6.out)).mono ?_); rintro e w7 ⟨rfl, hf7⟩; have HF7 := Lib.hid (Fresh.trans HF6.out hf7); clear hf7))
            go_roundw
            case rel => exact ⟨k + 1, by omega, by go_num, HF7.out⟩
            case measure => simp [intOf]; omega
          | true =>
            obtain ⟨k1, k2, k3⟩ := hnm rfl
            have t7 : decide ((s.size : Int) < (H.size : Int)) = false := by rw [decide_eq_false_iff_not]; omega
            have t8 : decide (s.size < H.size) = false := by rw [decide_eq_false_iff_not]; omega
            have k4 : (H.toList != H.toList) = false := by simp
            have k5 : (H.toList == H.toList) = true := by simp
            have t9 : (H.size : Int) ≤ (s.size : Int) := by omega
            cases al with
            | true =>
              have k6 := k3 rfl
              subst k6
              clear k3 k1
              go_wp2_with (first
                | ((with_reducible refine at_slot_ 44 ?_); refine wpList_bytes_if (by rfl) 9 45 5 (.tmp 43) rfl Tryd.underlying9 Tryd.underlying45 Tryd.underlying5 s rfl _ HS0.out s.size HZ0.out (by have := HSZ.out; unfold maxLen; omega) ?_; intro A5 c5 w5 hf5 hr5 hc5 hc6; have HF5 := Lib.hid (Fresh.trans HX.out hf5); have hrd5 := HR0.out A5 s.size c5 _ w5 hr5 (Nat.le_refl _) (by have := HSZ.out; omega) hc5 hc6; have HRD5 := Lib.hid hrd5; clear hf5 hr5 hc5 hc6 hrd5)
                | (go_at_call 17; (with_reducible refine HRD5.out.mono ?_); rintro e w6 ⟨A6, m6, c6, rfl, hf6⟩; have hfd6 := hfd A6 m6 c6 true w6; have HF6 := Lib.hid (Fresh.trans HF5.out hf6); clear hf6)
                | (go_at_call 12; (with_reducible refine (HMM.out g w6 (HG3.out.fresh HF6.out)).mono ?_); rintro e w7 ⟨rfl, hf7⟩; have HF7 := Lib.hid (Fresh.trans HF6.out hf7); clear hf7))
              go_roundw
              case rel => exact ⟨k + 1, by omega, by go_num, HF7.out⟩
              case measure => simp [intOf]; omega
            | false =>
              clear k3 k1
              go_wp2_with (first
                | ((with_reducible refine at_slot_ 44 ?_); refine wpList_bytes_if (by rfl) 9 45 5 (.tmp 43) rfl Tryd.underlying9 Tryd.underlying45 Tryd.underlying5 s rfl _ HS0.out s.size HZ0.out (by have := HSZ.out; unfold maxLen; omega) ?_; intro A5 c5 w5 hf5 hr5 hc5 hc6; have HF5 := Lib.hid (Fresh.trans HX.out hf5); have hrd5 := HR0.out A5 s.size c5 _ w5 hr5 (Nat.le_refl _) (by have := HSZ.out; omega) hc5 hc6; have HRD5 := Lib.hid hrd5; clear hf5 hr5 hc5 hc6 hrd5)
                | (go_at_call 17; (with_reducible refine HRD5.out.mono ?_); rintro e w6 ⟨A6, m6, c6, rfl, hf6⟩; have hfd6 := hfd A6 m6 c6 true w6; have HF6 := Lib.hid (Fresh.trans HF5.out hf6); clear hf6)
                | (go_at_call 12; (with_reducible refine (HMM.out g w6 (HG3.out.fresh HF6.out)).mono ?_); rintro e w7 ⟨rfl, hf7⟩; have HF7 := Lib.hid (Fresh.trans HF6.out hf7); clear hf7))
              go_roundw
              case rel => exact ⟨k + 1, by omega, by go_num, HF7.out⟩
              case measure => simp [intOf]; omega
      · obtain rfl : k = n1 := by omega
        have HX := Lib.hid hfr
        have HFW := Lib.hid hfw
        clear hfr hfw
        cases al with
        | false =>
          go_wp2
          go_ret
          exact ⟨by first | rfl | simp, HFW.out⟩
        | true =>
          have HM9 := Lib.hid (HMH.out rfl)
          go_wp2_with (go_at_call 12; (with_reducible refine (HM9.out g wr (HG3.out.fresh HX.out)).mono ?_); rintro e w7 ⟨rfl, hf7⟩)
          go_ret
          exact ⟨by first | rfl | simp, HFW.out.trans hf7⟩
end Go.Proofs.YtkkkjadfhimahaaDoor.globHeads
