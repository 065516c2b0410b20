/-
  The walk of the law GlobStars. My own text.
-/
import Derived.Test.YtkkkjadfhimahaaDoorGlbEq
import Derived.Test.YtkkkjadfhimahaaDoorOpen
namespace Go.Proofs.YtkkkjadfhimahaaDoor.globStars
open Go.RowKit Go.Proofs.YtkkkjadfhimahaaDoor.base Go.Proofs.YtkkkjadfhimahaaDoor.nam Go.Proofs.YtkkkjadfhimahaaDoor.namp Go.Proofs.YtkkkjadfhimahaaDoor.glb Go.Proofs.YtkkkjadfhimahaaDoor.glbp
set_option linter.unusedVariables false
/-- is there a slash in the first k bytes? -/
def sl (bs : List UInt8) (k : Nat) : Bool := !((bs.take k).all fun b => decide (b.toNat ≠ 47))
theorem sl_zero (bs : List UInt8) : sl bs 0 = false := rfl
theorem sl_step (bs : List UInt8) (k : Nat) (x : UInt8) (h : bs[k]? = some x) : sl bs (k + 1) = (sl bs k || decide (x.toNat = 47)) := by
  unfold sl
  rw [List.take_add_one, h]
  show (!((bs.take k ++ [x]).all _)) = _
  rw [List.all_append, Bool.not_and]
  congr 1
  simp
set_option maxHeartbeats 4000000 in
set_option maxRecDepth 100000 in
theorem globStars_walk (a0 : ByteArray) (a1 : ByteArray) (w : World) (w0 : a0.size ≤ maxLen) (w1 : a1.size ≤ maxLen) (hT : Tabs w) :
    Calls Tryd.prog 7 #[.string a0, .string a1] w fun e w' => e = .returned (.bool true) ∧ Below w.heap.size w w' := by
  have HW := Lib.hid (wakes_any w hT)
  have HT := Lib.hid hT
  clear w0 w1 hT
  by_cases h1 : 40 < a0.size
  · have t1 : decide ((a0.size : Int) > 40) = true := by rw [decide_eq_true_iff]; omega
    have t2 : decide (40 < (a0.size : Int)) = true := by rw [decide_eq_true_iff]; omega
    clear h1
    go_enter Tryd.func7, Tryd.ntmps7
    go_wp2_with (go_at_call 9; (refine HW.out.mono ?_); rintro e w1 ⟨rfl, hf1⟩)
    go_ret
    exact ⟨rfl, hf1⟩
  have t1 : decide ((a0.size : Int) > 40) = false := by rw [decide_eq_false_iff_not]; omega
  have t2 : decide (40 < (a0.size : Int)) = false := by rw [decide_eq_false_iff_not]; omega
  by_cases h2 : 300 < a1.size
  · have t3 : decide ((a1.size : Int) > 300) = true := by rw [decide_eq_true_iff]; omega
    have t4 : decide (300 < (a1.size : Int)) = true := by rw [decide_eq_true_iff]; omega
    clear h1 h2
    go_enter Tryd.func7, Tryd.ntmps7
    go_wp2_with (go_at_call 9; (refine HW.out.mono ?_); rintro e w1 ⟨rfl, hf1⟩)
    go_ret
    exact ⟨rfl, hf1⟩
  have t3 : decide ((a1.size : Int) > 300) = false := by rw [decide_eq_false_iff_not]; omega
  have t4 : decide (300 < (a1.size : Int)) = false := by rw [decide_eq_false_iff_not]; omega
  obtain ⟨rs, u, hrs, hrn, hu⟩ := told a0
  have hz0 : (tx rs ++ u).length = a0.size := by rw [str_size, hrs]
  obtain ⟨bu, hbu⟩ : ∃ b, decide (u = []) = b := ⟨_, rfl⟩
  have hr0 := read_is rs u hrn hu bu hbu
  have hfd := is_field
  have HR0 := Lib.hid hr0
  have HS0 := Lib.hid hrs
  have HZ0 := Lib.hid hz0
  clear hr0
  cases bu with
  | false =>
    clear hrs hrn hu hbu hz0
    go_enter Tryd.func7, Tryd.ntmps7
    go_wp2_with (first
      | (go_at_call 9; (refine HW.out.mono ?_); rintro e w1 ⟨rfl, hf1⟩; have HF1 := Lib.hid hf1; clear hf1)
      | ((with_reducible refine at_slot_ 27 ?_); refine wpList_bytes_if (by rfl) 9 45 5 (.tmp 26) rfl Tryd.underlying9 Tryd.underlying45 Tryd.underlying5 a0 rfl _ HS0.out a0.size HZ0.out (by unfold maxLen; omega) ?_; intro A5 c5 w5 hf5 hr5 hc5 hc6; have HF5 := Lib.hid (Fresh.trans HF1.out hf5); have hrd5 := HR0.out A5 a0.size c5 _ w5 hr5 (Nat.le_refl _) (by omega) hc5 hc6; have HRD5 := Lib.hid hrd5; clear hf5 hr5 hc5 hc6 hrd5)
      | (go_at_call 17; (with_reducible refine HRD5.out.mono ?_); rintro e w6 ⟨A6, m6, c6, rfl, hf6⟩; have hfd6 := hfd A6 m6 c6 false w6; have HF6 := Lib.hid (Fresh.trans HF5.out hf6); clear hf6))
    go_ret
    exact ⟨rfl, HF6.out⟩
  | true =>
    have hu0 : u = [] := of_decide_eq_true hbu
    subst hu0
    rw [List.append_nil] at hrs hz0
    have hq := quote_any a0 _ hrs
    rw [qb_tx rs hrn] at hq
    obtain ⟨QS, hQS⟩ : ∃ S : ByteArray, (⟨(tx (qt rs)).toArray⟩ : ByteArray) = S := ⟨_, rfl⟩
    have hQd : QS.data.toList = tx (qt rs) := by rw [← hQS]
    rw [hQS] at hq
    have hQz : QS.size ≤ 80 := by
      rw [str_size, hQd, ← qb_tx rs hrn]
      have := qb_len (tx rs)
      omega
    have hps : prs (qt rs ++ [42, 42]) = some (rs.map Pt.it ++ [.all]) := by rw [prs_q, prs_all]; rfl
    have hq2 : (QS ++ ⟨#[42, 42]⟩ : ByteArray).data.toList = tx (qt rs ++ [42, 42]) := by rw [str_app, hQd, tx_append]; rfl
    have hnw := fun W h => new_ok (QS ++ ⟨#[42, 42]⟩) (qt rs ++ [42, 42]) _ hq2 (by intro r hr; rcases List.mem_append.1 hr with hr | hr; exact qt_rn hrn r hr; simp at hr; subst hr; exact Or.inl (by omega)) hps W (by rw [str_size, str_app, List.length_append, ← str_size]; show QS.size + 2 ≤ 100; omega) h
    have hna := fun W h => new_ok ⟨#[42, 42]⟩ [42, 42] _ (by simp [tx, en]) (rn_low (by decide)) prs_all W (by show 2 ≤ 100; omega) h
    have hnb := fun W h => new_ok ⟨#[42]⟩ [42] _ (by simp [tx, en]) (rn_low (by decide)) prs_star W (by show 1 ≤ 100; omega) h
    have hhd : hd (rs.map Pt.it ++ [.all]) = (rs, false) := by rw [hd_its]; simp [hd]
    have hrl : rs.length ≤ 50 := by have := tx_le rs; omega
    have hhe := fun g W h => head2_any g (rs.map Pt.it ++ [.all]) W h (by rw [List.length_append, List.length_map]; show rs.length + 1 ≤ 1000; omega) (by intro p hp; rcases List.mem_append.1 hp with hp | hp; (obtain ⟨r, hr, rfl⟩ := List.mem_map.1 hp; exact hrn r hr); (rw [List.mem_singleton] at hp; subst hp; trivial))
    rw [hhd] at hhe
    have ha0 : (⟨(tx rs).toArray⟩ : ByteArray) = a0 := str_ext (by rw [hrs])
    simp only at hhe
    rw [ha0] at hhe
    have hma := match_is [.all] a1 _ true rfl (mt_all _) (by omega)
    have hmb := match_is [.star] a1 _ ((a1.data.toList).all fun b => decide (b.toNat ≠ 47)) rfl (by rw [mt_star, rns_slash]) (by omega)
    have hmc := match_is (rs.map Pt.it ++ [.all]) (a0 ++ a1) (rs ++ rns a1.data.toList) true (by rw [str_app, hrs, rns_tx rs _ hrn]) (mt_its_all _ _) (by rw [str_size, str_app, List.length_append, ← str_size, ← str_size]; omega)
    have z1 : ¬ 9223372036854775807 < QS.size + 2 := by omega
    have z2 : ¬ 9223372036854775807 < a0.size + a1.size := by omega
    obtain ⟨m, hm⟩ : ∃ m, a1.size = m := ⟨_, rfl⟩
    have hget : ∀ (k : Nat) (x : UInt8), a1.data.toList[k]? = some x → ∀ h : k < a1.size, ((a1[k]'h).toNat : Int) = (x.toNat : Int) := fun k x hx h => by
      rw [Array.getElem?_toList, Array.getElem?_eq_getElem h] at hx
      exact congrArg (fun b : UInt8 => (b.toNat : Int)) (Option.some.inj hx)
    have hlen : a1.data.toList.length = m := by rw [← hm, str_size]
    have hend : (a1.data.toList.all fun b => decide (b.toNat ≠ 47)) = !(sl a1.data.toList m) := by
      unfold sl
      rw [List.take_of_length_le (Nat.le_of_eq hlen)]
      simp
    rw [hend] at hmb
    have HQ := Lib.hid hq
    have HNW := Lib.hid hnw
    have HNA := Lib.hid hna
    have HNB := Lib.hid hnb
    have HHE := Lib.hid hhe
    have HMA := Lib.hid hma
    have HMB := Lib.hid hmb
    have HMC := Lib.hid hmc
    have HGET := Lib.hid hget
    have HLEN := Lib.hid hlen
    have HM := Lib.hid hm
    have hmm : m ≤ 300 := by omega
    clear hrs hrn hu hbu hz0 hq hQS hQd hQz hps hq2 hnw hna hnb hhd hrl hhe ha0 hma hmb hmc hget hlen hend hm
    go_enter Tryd.func7, Tryd.ntmps7
    go_wp2_with (first
      | (go_at_call 9; (refine HW.out.mono ?_); rintro e w1 ⟨rfl, hf1⟩; have HF1 := Lib.hid hf1; clear hf1)
      | ((with_reducible refine at_slot_ 27 ?_); refine wpList_bytes_if (by rfl) 9 45 5 (.tmp 26) rfl Tryd.underlying9 Tryd.underlying45 Tryd.underlying5 a0 rfl _ HS0.out a0.size HZ0.out (by unfold maxLen; omega) ?_; intro A5 c5 w5 hf5 hr5 hc5 hc6; have HF5 := Lib.hid (Fresh.trans HF1.out hf5); have hrd5 := HR0.out A5 a0.size c5 _ w5 hr5 (Nat.le_refl _) (by omega) hc5 hc6; have HRD5 := Lib.hid hrd5; clear hf5 hr5 hc5 hc6 hrd5)
      | (go_at_call 17; (with_reducible refine HRD5.out.mono ?_); rintro e w6 ⟨A6, m6, c6, rfl, hf6⟩; have hfd6 := hfd A6 m6 c6 true w6; have HF6 := Lib.hid (Fresh.trans HF5.out hf6); clear hf6)
      | (go_at_call 10; (with_reducible refine (HNA.out w6 (HT.out.fresh HF6.out)).mono ?_); rintro e w7 ⟨ga, rfl, hg, hf7⟩; have HGA := Lib.hid hg; have HF7 := Lib.hid (Fresh.trans HF6.out hf7); clear hg hf7)
      | (go_at_call 10; (with_reducible refine (HNB.out w7 (HT.out.fresh HF7.out)).mono ?_); rintro e w8 ⟨gb, rfl, hg, hf8⟩; have HGB := Lib.hid hg; have HGA8 := Lib.hid (HGA.out.fresh hf8); have HF8 := Lib.hid (Fresh.trans HF7.out hf8); clear hg hf8)
      | (go_at_call 18; (with_reducible refine (HQ.out w8 (by omega)).mono ?_); rintro e w9 ⟨rfl, hf9⟩; have HF9 := Lib.hid (Fresh.trans HF8.out hf9); have HX9 := Lib.hid hf9; clear hf9)
      | (go_at_call 10; (with_reducible refine (HNW.out w9 (HT.out.fresh HF9.out)).mono ?_); rintro e w10 ⟨gc, rfl, hg, hf10⟩; have HGC := Lib.hid hg; have HGA10 := Lib.hid (HGA8.out.fresh (Fresh.trans HX9.out hf10)); have HGB10 := Lib.hid (HGB.out.fresh (Fresh.trans HX9.out hf10)); have HF10 := Lib.hid (Fresh.trans HF9.out hf10); clear hg hf10))
    rw [HM.out]
    go_loopw [11, 59] (fun v i wr => ∃ k : Nat, k ≤ m ∧ v = .bool (sl a1.data.toList k) ∧ i = .int .i64 k ∧ wr = w10) (fun _ i _ => m - (intOf i).toNat)
    case atStart => exact ⟨0, Nat.zero_le _, rfl, rfl, rfl⟩
    case round =>
      obtain ⟨k, hk, rfl, rfl, rfl⟩ := hrel
      have hsn := HM.out
      by_cases hlt : k < m
      · obtain ⟨x, hx⟩ : ∃ x, a1.data.toList[k]? = some x := ⟨_, List.getElem?_eq_getElem (by rw [HLEN.out]; exact hlt)⟩
        have hg := HGET.out k x hx
        have hst := sl_step a1.data.toList k x hx
        obtain ⟨Z, hZ⟩ : ∃ Z : Int, (x.toNat : Int) = Z := ⟨_, rfl⟩
        rw [hZ] at hg
        have hb47 : decide (x.toNat = 47) = (Z == 47) := by
          rw [← hZ]
          by_cases h : x.toNat = 47
          · rw [decide_eq_true h, h]; rfl
          · rw [decide_eq_false h]; symm; rw [beq_eq_false_iff_ne]; omega
        rw [hb47] at hst
        obtain ⟨B, hB⟩ : ∃ B, (Z == 47) = B := ⟨_, rfl⟩
        rw [hB] at hst
        have HST := Lib.hid hst
        obtain ⟨s0, hs0⟩ : ∃ s0, sl a1.data.toList k = s0 := ⟨_, rfl⟩
        rw [hs0] at HST ⊢
        clear hst hx hb47 hZ hs0
        cases s0 with
        | true =>
          go_wp2
          go_roundw
          case rel => exact ⟨k + 1, by omega, by rw [HST.out]; simp, by go_num, by first | trivial | rfl⟩
          case measure => simp [intOf]; omega
        | false =>
          cases B
          all_goals
            go_wp2
            go_roundw
            case rel => exact ⟨k + 1, by omega, by rw [HST.out]; simp, by go_num, by first | trivial | rfl⟩
            case measure => simp [intOf]; omega
      · obtain rfl : k = m := by omega
        obtain ⟨s0, hs0⟩ : ∃ s0, sl a1.data.toList k = s0 := ⟨_, rfl⟩
        rw [hs0] at HMB ⊢
        clear hs0
        cases s0
        all_goals
          go_wp2_with (first
            | (go_at_call 15; (with_reducible refine (HHE.out gc wr HGC.out).mono ?_); rintro e w11 ⟨rfl, hf11⟩; have HX11 := Lib.hid hf11; have HF11 := Lib.hid (Fresh.trans HF10.out hf11); clear hf11)
            | (go_at_call 12; (with_reducible refine (HMA.out ga w11 (HGA10.out.fresh HX11.out)).mono ?_); rintro e w12 ⟨rfl, hf12⟩; have HX12 := Lib.hid (Fresh.trans HX11.out hf12); have HF12 := Lib.hid (Fresh.trans HF11.out hf12); clear hf12)
            | (go_at_call 12; (with_reducible refine (HMB.out gb w12 (HGB10.out.fresh HX12.out)).mono ?_); rintro e w13 ⟨rfl, hf13⟩; have HX13 := Lib.hid (Fresh.trans HX12.out hf13); have HF13 := Lib.hid (Fresh.trans HF12.out hf13); clear hf13)
            | (go_at_call 12; (with_reducible refine (HMC.out gc w13 (HGC.out.fresh HX13.out)).mono ?_); rintro e w14 ⟨rfl, hf14⟩; have HF14 := Lib.hid (Fresh.trans HF13.out hf14); clear hf14))
          go_ret
          exact ⟨by first | rfl | simp, HF14.out⟩
end Go.Proofs.YtkkkjadfhimahaaDoor.globStars
