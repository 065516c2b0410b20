/-
  The walk of the law GlobQuotes. My own text.
-/
import Derived.Test.YtkkkjadfhimahaaDoorGlbEq
import Derived.Test.YtkkkjadfhimahaaDoorOpen
namespace Go.Proofs.YtkkkjadfhimahaaDoor.globQuotes
open Go.RowKit Go.Proofs.YtkkkjadfhimahaaDoor.base Go.Proofs.YtkkkjadfhimahaaDoor.nam Go.Proofs.YtkkkjadfhimahaaDoor.namp Go.Proofs.YtkkkjadfhimahaaDoor.glb Go.Proofs.YtkkkjadfhimahaaDoor.glbp
set_option linter.unusedVariables false
set_option maxHeartbeats 4000000 in
set_option maxRecDepth 100000 in
theorem globQuotes_walk (a0 : ByteArray) (a1 : ByteArray) (w : World) (w0 : a0.size ≤ maxLen) (w1 : a1.size ≤ maxLen) (hT : Tabs w) :
    Calls Tryd.prog 5 #[.string a0, .string a1] w fun e w' => e = .returned (.bool true) ∧ Below w.heap.size w w' := by
  have HW := Lib.hid (wakes_any w hT)
  have HT := Lib.hid hT
  clear w0 w1 hT
  by_cases h1 : 50 < a0.size
  · have t1 : decide ((a0.size : Int) > 50) = true := by rw [decide_eq_true_iff]; omega
    have t2 : decide (50 < (a0.size : Int)) = true := by rw [decide_eq_true_iff]; omega
    clear h1
    go_enter Tryd.func5, Tryd.ntmps5
    go_wp2_with (go_at_call 9; (refine HW.out.mono ?_); rintro e w1 ⟨rfl, hf1⟩)
    go_ret
    exact ⟨rfl, hf1⟩
  have t1 : decide ((a0.size : Int) > 50) = false := by rw [decide_eq_false_iff_not]; omega
  have t2 : decide (50 < (a0.size : Int)) = false := by rw [decide_eq_false_iff_not]; omega
  by_cases h2 : 300 < a1.size
  · have t3 : decide ((a1.size : Int) > 300) = true := by rw [decide_eq_true_iff]; omega
    have t4 : decide (300 < (a1.size : Int)) = true := by rw [decide_eq_true_iff]; omega
    clear h1 h2
    go_enter Tryd.func5, Tryd.ntmps5
    go_wp2_with (go_at_call 9; (refine HW.out.mono ?_); rintro e w1 ⟨rfl, hf1⟩)
    go_ret
    exact ⟨rfl, hf1⟩
  have t3 : decide ((a1.size : Int) > 300) = false := by rw [decide_eq_false_iff_not]; omega
  have t4 : decide (300 < (a1.size : Int)) = false := by rw [decide_eq_false_iff_not]; omega
  obtain ⟨rs, u, hrs, hrn, hu⟩ := told a0
  obtain ⟨qs, v, hqs, hqn, hv⟩ := told a1
  have hz0 : (tx rs ++ u).length = a0.size := by rw [str_size, hrs]
  have hz1 : (tx qs ++ v).length = a1.size := by rw [str_size, hqs]
  obtain ⟨bu, hbu⟩ : ∃ b, decide (u = []) = b := ⟨_, rfl⟩
  obtain ⟨bw, hbv⟩ : ∃ b, decide (v = []) = b := ⟨_, rfl⟩
  have hr0 := read_is rs u hrn hu bu hbu
  have hr1 := read_is qs v hqn hv bw hbv
  have hfd := is_field
  have HR0 := Lib.hid hr0
  have HR1 := Lib.hid hr1
  have HS0 := Lib.hid hrs
  have HS1 := Lib.hid hqs
  have HZ0 := Lib.hid hz0
  have HZ1 := Lib.hid hz1
  clear hr0 hr1
  cases bu with
  | false =>
    clear hrs hqs hrn hu hqn hv hbu hbv hz0 hz1
    go_enter Tryd.func5, Tryd.ntmps5
    go_wp2_with (first
      | (go_at_call 9; (refine HW.out.mono ?_); rintro e w1 ⟨rfl, hf1⟩; have HF1 := Lib.hid hf1; clear hf1)
      | ((with_reducible refine at_slot_ 21 ?_); refine wpList_bytes_if (by rfl) 9 45 5 (.tmp 20) rfl Tryd.underlying9 Tryd.underlying45 Tryd.underlying5 a0 rfl _ HS0.out a0.size HZ0.out (by unfold maxLen; omega) ?_; intro A5 c5 w5 hf5 hr5 hc5 hc6; have HF5 := Lib.hid (Fresh.trans HF1.out hf5); have hrd5 := HR0.out A5 a0.size c5 _ w5 hr5 (Nat.le_refl _) (by omega) hc5 hc6; have HRD5 := Lib.hid hrd5; clear hf5 hr5 hc5 hc6 hrd5)
      | (go_at_call 17; (with_reducible refine HRD5.out.mono ?_); rintro e w6 ⟨A6, m6, c6, rfl, hf6⟩; have hfd6 := hfd A6 m6 c6 false w6; have HF6 := Lib.hid (Fresh.trans HF5.out hf6); clear hf6))
    go_ret
    exact ⟨rfl, HF6.out⟩
  | true =>
    cases bw with
    | false =>
      clear hrs hqs hrn hu hqn hv hbu hbv hz0 hz1
      go_enter Tryd.func5, Tryd.ntmps5
      go_wp2_with (first
        | (go_at_call 9; (refine HW.out.mono ?_); rintro e w1 ⟨rfl, hf1⟩; have HF1 := Lib.hid hf1; clear hf1)
        | ((with_reducible refine at_slot_ 21 ?_); refine wpList_bytes_if (by rfl) 9 45 5 (.tmp 20) rfl Tryd.underlying9 Tryd.underlying45 Tryd.underlying5 a0 rfl _ HS0.out a0.size HZ0.out (by unfold maxLen; omega) ?_; intro A5 c5 w5 hf5 hr5 hc5 hc6; have HF5 := Lib.hid (Fresh.trans HF1.out hf5); have hrd5 := HR0.out A5 a0.size c5 _ w5 hr5 (Nat.le_refl _) (by omega) hc5 hc6; have HRD5 := Lib.hid hrd5; clear hf5 hr5 hc5 hc6 hrd5)
        | (go_at_call 17; (with_reducible refine HRD5.out.mono ?_); rintro e w6 ⟨A6, m6, c6, rfl, hf6⟩; have hfd6 := hfd A6 m6 c6 true w6; have HF6 := Lib.hid (Fresh.trans HF5.out hf6); clear hf6)
        | ((with_reducible refine at_slot_ 28 ?_); refine wpList_bytes_if (by rfl) 9 45 5 (.tmp 27) rfl Tryd.underlying9 Tryd.underlying45 Tryd.underlying5 a1 rfl _ HS1.out a1.size HZ1.out (by unfold maxLen; omega) ?_; intro A7 c7 w7 hf7 hr7 hc7 hc8; have HF7 := Lib.hid (Fresh.trans HF6.out hf7); have hrd7 := HR1.out A7 a1.size c7 _ w7 hr7 (Nat.le_refl _) (by omega) hc7 hc8; have HRD7 := Lib.hid hrd7; clear hf7 hr7 hc7 hc8 hrd7)
        | (go_at_call 17; (with_reducible refine HRD7.out.mono ?_); rintro e w8 ⟨A8, m8, c8, rfl, hf8⟩; have hfd8 := hfd A8 m8 c8 false w8; have HF8 := Lib.hid (Fresh.trans HF7.out hf8); clear hf8))
      go_ret
      exact ⟨rfl, HF8.out⟩
    | true =>
      have hu0 : u = [] := of_decide_eq_true hbu
      have hv0 : v = [] := of_decide_eq_true hbv
      subst hu0; subst hv0
      rw [List.append_nil] at hrs hqs hz0 hz1
      have hq := quote_any a0 _ hrs
      rw [qb_tx rs hrn] at hq
      obtain ⟨QS, hQS⟩ : ∃ S : ByteArray, (⟨(tx (qt rs)).toArray⟩ : ByteArray) = S := ⟨_, rfl⟩
      have hQd : QS.data.toList = tx (qt rs) := by rw [← hQS]
      rw [hQS] at hq
      have hQz : QS.size ≤ 100 := by
        rw [str_size, hQd, ← qb_tx rs hrn]
        have := qb_len (tx rs)
        omega
      have hps : prs (qt rs) = some (rs.map Pt.it) := by
        have h := prs_q rs []
        rw [List.append_nil, prs_nil] at h
        rw [h]
        simp
      have hnw := fun W h => new_ok QS (qt rs) _ hQd (qt_rn hrn) hps W hQz h
      have hhd : hd (rs.map Pt.it) = (rs, true) := by
        have h := hd_its rs []
        rw [List.append_nil] at h
        rw [h]
        simp [hd]
      have hrl : rs.length ≤ 50 := by have := tx_le rs; omega
      have hhe := fun g W h => head2_any g (rs.map Pt.it) W h (by rw [List.length_map]; omega) (by intro p hp; obtain ⟨r, hr, rfl⟩ := List.mem_map.1 hp; exact hrn r hr)
      rw [hhd] at hhe
      have ha0 : (⟨(tx rs).toArray⟩ : ByteArray) = a0 := str_ext (by rw [hrs])
      simp only at hhe
      rw [ha0] at hhe
      have hm0 := match_is (rs.map Pt.it) a0 rs true (by rw [hrs, rns_good rs hrn]) (by rw [mt_its]; simp) (by omega)
      obtain ⟨AB, hAB⟩ : ∃ b, decide (rs = qs) = b := ⟨_, rfl⟩
      have hm1 := match_is (rs.map Pt.it) a1 qs AB (by rw [hqs, rns_good qs hqn]) (by rw [mt_its, ← hAB]; exact decide_eq_decide.2 eq_comm) (by omega)
      have keq : (a0.toList == a1.toList) = AB := by
        rw [str_eq, hrs, hqs, ← hAB]
        exact decide_eq_decide.2 ⟨fun h => tx_inj hrn hqn h, fun h => by rw [h]⟩
      have HQ := Lib.hid hq
      have HNW := Lib.hid hnw
      have HHE := Lib.hid hhe
      have HM0 := Lib.hid hm0
      have HM1 := Lib.hid hm1
      clear hrs hqs hrn hu hqn hv hbu hbv hz0 hz1 hq hQS hQd hQz hps hnw hhd hrl hhe ha0 hm0 hm1 hAB
      cases AB
      all_goals
        go_enter Tryd.func5, Tryd.ntmps5
        go_wp2_with (first
          | (go_at_call 9; (refine HW.out.mono ?_); rintro e w1 ⟨rfl, hf1⟩; have HF1 := Lib.hid hf1; clear hf1)
          | ((with_reducible refine at_slot_ 21 ?_); refine wpList_bytes_if (by rfl) 9 45 5 (.tmp 20) rfl Tryd.underlying9 Tryd.underlying45 Tryd.underlying5 a0 rfl _ HS0.out a0.size HZ0.out (by unfold maxLen; omega) ?_; intro A5 c5 w5 hf5 hr5 hc5 hc6; have HF5 := Lib.hid (Fresh.trans HF1.out hf5); have hrd5 := HR0.out A5 a0.size c5 _ w5 hr5 (Nat.le_refl _) (by omega) hc5 hc6; have HRD5 := Lib.hid hrd5; clear hf5 hr5 hc5 hc6 hrd5)
          | (go_at_call 17; (with_reducible refine HRD5.out.mono ?_); rintro e w6 ⟨A6, m6, c6, rfl, hf6⟩; have hfd6 := hfd A6 m6 c6 true w6; have HF6 := Lib.hid (Fresh.trans HF5.out hf6); clear hf6)
          | ((with_reducible refine at_slot_ 28 ?_); refine wpList_bytes_if (by rfl) 9 45 5 (.tmp 27) rfl Tryd.underlying9 Tryd.underlying45 Tryd.underlying5 a1 rfl _ HS1.out a1.size HZ1.out (by unfold maxLen; omega) ?_; intro A7 c7 w7 hf7 hr7 hc7 hc8; have HF7 := Lib.hid (Fresh.trans HF6.out hf7); have hrd7 := HR1.out A7 a1.size c7 _ w7 hr7 (Nat.le_refl _) (by omega) hc7 hc8; have HRD7 := Lib.hid hrd7; clear hf7 hr7 hc7 hc8 hrd7)
          | (go_at_call 17; (with_reducible refine HRD7.out.mono ?_); rintro e w8 ⟨A8, m8, c8, rfl, hf8⟩; have hfd8 := hfd A8 m8 c8 true w8; have HF8 := Lib.hid (Fresh.trans HF7.out hf8); clear hf8)
          | (go_at_call 18; (with_reducible refine (HQ.out w8 (by omega)).mono ?_); rintro e w9 ⟨rfl, hf9⟩; have HF9 := Lib.hid (Fresh.trans HF8.out hf9); clear hf9)
          | (go_at_call 10; (with_reducible refine (HNW.out w9 (HT.out.fresh HF9.out)).mono ?_); rintro e w10 ⟨g, rfl, hg, hf10⟩; have HG := Lib.hid hg; have HF10 := Lib.hid (Fresh.trans HF9.out hf10); clear hg hf10)
          | (go_at_call 15; (with_reducible refine (HHE.out g w10 HG.out).mono ?_); rintro e w11 ⟨rfl, hf11⟩; have HG11 := Lib.hid (HG.out.fresh hf11); have HF11 := Lib.hid (Fresh.trans HF10.out hf11); clear hf11)
          | (go_at_call 12; (with_reducible refine (HM0.out g w11 HG11.out).mono ?_); rintro e w12 ⟨rfl, hf12⟩; have HG12 := Lib.hid (HG11.out.fresh hf12); have HF12 := Lib.hid (Fresh.trans HF11.out hf12); clear hf12)
          | (go_at_call 12; (with_reducible refine (HM1.out g w12 HG12.out).mono ?_); rintro e w13 ⟨rfl, hf13⟩; have HF13 := Lib.hid (Fresh.trans HF12.out hf13); clear hf13))
        go_ret
        exact ⟨by first | rfl | simp, HF13.out⟩
end Go.Proofs.YtkkkjadfhimahaaDoor.globQuotes
