/-
  The walk of the law WordPuts. My own text.
-/
import Derived.Test.YtnhcolfldkaonaaPuts
import Derived.Test.YtnhcolfldkaonaaOpen
namespace Go.Proofs.Ytnhcolfldkaonaa.wordPuts
open Go.RowKit Go.Proofs.Ytnhcolfldkaonaa.base Go.Proofs.Ytnhcolfldkaonaa.num Go.Proofs.Ytnhcolfldkaonaa.word
set_option linter.unusedVariables false

theorem fits_snoc (k j : Nat) (zs : List Int) (z : Int) (h : zs[j]? = some z) : fits k (zs.take (j + 1)) = (fits k (zs.take j) && fits k [z]) := by
  rw [take_snoc _ _ _ h, fits, fits, fits, List.all_append]

theorem puts_one (k : Nat) (z : Int) : puts k [z] = low k (u64 z) := by simp [puts]

theorem bytes_is (z x : Int) (W : Nat) (ys : List UInt8) (w : World) (hz : (Lit.int .i64 z).wf = true) (hW : wide x = W) (hy : low W (u64 z) = ys) :
    Calls Try.prog 11 #[.int .i64 z, .int .i64 x] w fun e w' => ∃ A c, e = .returned (.slice A W c) ∧ Fresh w w' ∧ Own w' w.heap.size 5 A W c (ys.map bv) := by
  subst hW
  subst hy
  exact bytes_any z x w hz

theorem step {w4 wr w6 w7 : World} {A A6 A7 : Option Addr} {N W c c6 c7 : Nat} {xs ys : List UInt8} (hfr : Fresh w4 wr) (hown : Own wr w4.heap.size 5 A N c (xs.map bv)) (hf6 : Fresh wr w6)
    (ho6 : Own w6 wr.heap.size 5 A6 W c6 (ys.map bv)) (ho7 : Own w7 w4.heap.size 5 A7 (N + W) c7 (xs.map bv ++ ys.map bv)) (hg7 : w6.grownBy w7 (Value.slice A N c).ownBlock) :
    Fresh w4 w7 ∧ Rd w7 w6.heap.size A6 W (ys.map bv) := by
  refine ⟨(hfr.trans hf6).append (Own.fresh hown hf6) (Nat.le_refl _) hg7, ?_⟩
  have h2 : Own w7 wr.heap.size 5 A6 W c6 (ys.map bv) := World.ownsRow.kept ho6 hg7 (by
    cases hb : (Value.slice A6 W c6).ownBlock with
    | none => exact .inl rfl
    | some g =>
      refine .inr fun e => ?_
      have h3 := (World.ownsRow.lt ho6 g hb).1
      have h4 := (World.ownsRow.lt hown g e.symm).2
      omega)
  refine ⟨h2.rd.1, fun hn => ?_⟩
  obtain ⟨b, off, e, hb, hc⟩ := h2.rd.2 hn
  obtain ⟨b', off', e', hb', _⟩ := ho6.rd.2 hn
  rw [e] at e'
  injection e' with e'
  injection e' with e1 _ _
  subst e1
  exact ⟨_, _, e, hb', hc⟩

set_option maxHeartbeats 4000000 in
theorem wordPuts_walk (A0 : Option Addr) (n0 c0 : Nat) (x0 : List UInt8) (a1 : Int) (A2 : Option Addr) (m c2 : Nat) (zs : List Int) (w : World) (b0 : InBytes w A0 n0 c0 x0) (w1 : (Lit.int .i64 a1).wf = true) (r2 : InRow .i64 w A2 m c2 zs) :
    Calls Try.prog 3 #[.slice A0 n0 c0, .int .i64 a1, .slice A2 m c2] w fun e w' => e = .returned (.bool true) ∧ Below w.heap.size w w' := by
  obtain ⟨hr, hc, hm⟩ := b0
  obtain ⟨hl, hlc, hlm, hz⟩ := r2
  have HM := Lib.hid hm
  have HLM := Lib.hid hlm
  have hm2 : c0 ≤ 9223372036854775807 := by unfold maxLen at hm; omega
  have hm3 : c2 ≤ 9223372036854775807 := by unfold maxLen at hlm; omega
  clear hm hlm w1
  obtain ⟨i0, hi0, hz0, hz1, hz2⟩ := info_parts byte_info
  by_cases hbig : 300 < n0
  · go_enter Try.func3, Try.ntmps3
    go_wp2_with (go_at_call 9; refine (wakes_any _).mono ?_; rintro e wA ⟨rfl, hfA⟩)
    go_ret
    exact ⟨rfl, hfA⟩
  · by_cases hbig2 : 100 < m
    · go_enter Try.func3, Try.ntmps3
      go_wp2_with (go_at_call 9; refine (wakes_any _).mono ?_; rintro e wA ⟨rfl, hfA⟩)
      go_ret
      exact ⟨rfl, hfA⟩
    · have hw := wide_bd a1
      obtain ⟨W, hW⟩ : ∃ W, wide a1 = W := ⟨_, rfl⟩
      have hw2 : 1 ≤ W ∧ W ≤ 7 := by omega
      have HW := Lib.hid hW
      have wide_ : ∀ w, Calls Try.prog 16 #[.int .i64 a1] w fun e w' => e = .returned (.int .i64 W) ∧ w = w' := fun w => by rw [← hW]; exact wide_any a1 w
      have HH := Lib.hid wide_
      obtain ⟨NP, hNP⟩ : ∃ NP, n0 + m * W = NP := ⟨_, rfl⟩
      have hmw : m * W ≤ 100 * 7 := Nat.mul_le_mul (by omega) (by omega)
      have hNPb : NP ≤ 1000 := by omega
      have HNP := Lib.hid hNP
      have HZ := Lib.hid hz
      have hlx : x0.length = n0 := by have := hr.1; rwa [List.length_map] at this
      have hlz : zs.length = m := by have := hl.1; rwa [List.length_map] at this
      have HLX := Lib.hid hlx
      have HLZ := Lib.hid hlz
      clear hW wide_ hNP hmw hz hlx hlz hw
      go_enter Try.func3, Try.ntmps3
      go_wp2_with (first
        | (go_at_call 9; refine (wakes_any _).mono ?_; rintro e wA ⟨rfl, hfA⟩)
        | (at_builtin; (with_reducible refine wpList_append_rd _ rfl (.tmp 28) (.tmp 29) 22 rfl wA.heap.size 5 i0 _ 1 Try.underlying22 hi0 hz0 hz1 hz2 rfl (some ⟨wA.heap.size, 0, none⟩) 0 0 [] rfl (Own.made wA 5 #[] 0 rfl (Nat.zero_le _)) w.heap.size A0 n0 c0 (x0.map bv) rfl (hr.below (hfA.trans (Fresh.alloc _ _)) (Nat.le_refl _)) (bv_one x0) (by unfold maxLen; omega) (by omega) (by simp) ?_); intro A3 c3 w3 ho3 hg3; rw [Nat.zero_add, List.nil_append] at ho3; have hf3 : Fresh w w3 := (hfA.trans (Fresh.alloc _ _)).append (Own.made wA 5 #[] 0 rfl (Nat.zero_le _)) hfA.size hg3)
        | (go_at_call 10; refine (put_is A3 n0 c3 x0 a1 A2 m c2 zs w3 w3.heap.size w.heap.size NP (x0 ++ puts W zs) ho3.rd (Nat.le_refl _) (hl.below hf3 (Nat.le_refl _)) hf3.size HZ.out (by omega) (by omega) (by rw [HW.out]; exact HNP.out) (by rw [HW.out])).mono ?_; rintro e w4 ⟨A4, c4, rfl, hf4, ho4⟩)
        | (at_builtin; (with_reducible refine wpList_append_rd _ rfl (.tmp 35) (.tmp 36) 22 rfl w4.heap.size 5 i0 _ 1 Try.underlying22 hi0 hz0 hz1 hz2 rfl (some ⟨w4.heap.size, 0, none⟩) 0 0 [] rfl (Own.made w4 5 #[] 0 rfl (Nat.zero_le _)) w.heap.size A0 n0 c0 (x0.map bv) rfl (hr.below ((hf3.trans hf4).trans (Fresh.alloc _ _)) (Nat.le_refl _)) (bv_one x0) (by unfold maxLen; omega) (by omega) (by simp) ?_); intro A5 c5 w5 ho5 hg5; rw [Nat.zero_add, List.nil_append] at ho5; have hf5 : Fresh w4 w5 := (Fresh.alloc _ _).append (Own.made w4 5 #[] 0 rfl (Nat.zero_le _)) (Nat.le_refl _) hg5))
      have hsz : w.heap.size ≤ w4.heap.size := (hf3.trans hf4).size
      have hf04 : Fresh w w4 := hf3.trans hf4
      have hr3 : Rd w4 w4.heap.size A3 n0 (x0.map bv) := ho3.rd.fresh hf4
      have hr4 : Rd w4 w4.heap.size A4 NP ((x0 ++ puts W zs).map bv) := ho4.rd
      have hc4 : NP ≤ c4 := ho4.cap.1
      have HC4 := Lib.hid ho4.cap.2
      clear hf3 hf4 hg3 hg5 ho3 ho4 hfA
      go_loopw [9, 10, 40] (fun v f i wr => ∃ (j N c : Nat) (A : Option Addr) (fb : Bool), j ≤ m ∧ i = .int .i64 j ∧ f = .bool fb ∧ v = .slice A N c ∧ Hid (n0 + j * W = N) ∧ Hid (fits W (zs.take j) = fb) ∧ Fresh w4 wr ∧ Own wr w4.heap.size 5 A N c ((x0 ++ puts W (zs.take j)).map bv)) (fun _ _ i _ => m - (intOf i).toNat)
      case atStart => exact ⟨0, n0, c5, A5, true, by omega, rfl, rfl, rfl, by simp [Hid], rfl, hf5, by simpa [puts] using ho5⟩
      case round =>
        obtain ⟨j, N, c, A, fb, hj, rfl, rfl, rfl, hN, hfb, hfr, hown⟩ := hrel
        have hjw : j * W ≤ 100 * 7 := Nat.mul_le_mul (by omega) (by omega)
        have hNb : N ≤ 1000 := by have := hN.out; omega
        by_cases hlt : j < m
        · obtain ⟨b, off, z, rfl, hb, hx, hcx⟩ := (hl.below (hf04.trans hfr) (Nat.le_refl _)).at_ hlt
          have HX := Lib.hid hx
          have hzw := HZ.out z (List.mem_of_getElem? hx)
          have HZW := Lib.hid hzw
          obtain ⟨R, hR⟩ : ∃ R : Int, (num (low W (u64 z)) : Int) = R := ⟨_, rfl⟩
          obtain ⟨fz, hfz⟩ : ∃ fz, fits W [z] = fz := ⟨_, rfl⟩
          have hbk : (R == z) = fz := by rw [← hR, ← hfz, num_low]; exact back z W (i64_bd hzw) (by omega)
          have HR := Lib.hid hR
          have HFZ := Lib.hid hfz
          have hnext : Hid (n0 + (j + 1) * W = N + W) := by show _ = _; rw [← hN.out, Nat.succ_mul, Nat.add_assoc]
          clear hx hzw hR hfz
          cases fb
          all_goals
            go_wp2_with (first
              | (go_at_call 11; refine (bytes_is z a1 W (low W (u64 z)) wr HZW.out HW.out rfl).mono ?_; rintro e w6 ⟨A6, c6, rfl, hf6, ho6⟩)
              | (at_builtin; refine wpList_append_rd _ rfl _ _ 22 rfl w4.heap.size 5 i0 _ 1 Try.underlying22 hi0 hz0 hz1 hz2 rfl A N c _ rfl (Own.fresh hown hf6) w6.heap.size A6 W c6 _ rfl ho6.rd (bv_one _) (by unfold maxLen; omega) (by omega) (hfr.trans hf6).size ?_; intro A7 c7 w7 ho7 hg7; have H7 := step hfr hown hf6 ho6 ho7 hg7)
              | (go_at_call 12; refine (number_is A6 W c6 _ _ w6.heap.size R H7.2 (by omega) HR.out).mono ?_; rintro e w8 ⟨rfl, rfl⟩))
            have ho8 : Own w7 w4.heap.size 5 A7 (N + W) c7 ((x0 ++ puts W (zs.take (j + 1))).map bv) := by
              have := ho7
              rw [← List.map_append, List.append_assoc] at this
              rw [← puts_snoc W zs j z HX.out, puts_one]
              exact this
            have hff := fits_snoc W j zs z HX.out
            rw [hfb.out, HFZ.out] at hff
            have HFF := Lib.hid hff
            clear hff ho7 hg7
            go_roundw
            case rel => exact ⟨j + 1, N + W, c7, A7, _, by omega, by go_num, rfl, rfl, hnext, HFF.out, H7.1, ho8⟩
            case measure => simp [intOf]; omega
        · have h0 : m = j := by omega
          subst h0
          have hNN : N = NP := by rw [← hN.out]; exact HNP.out
          rw [List.take_of_length_le (Nat.le_of_eq HLZ.out)] at hown
          have hfz : fits W zs = fb := by have := hfb.out; rwa [List.take_of_length_le (Nat.le_of_eq HLZ.out)] at this
          have HFZ := Lib.hid hfz
          have HNN := Lib.hid hNN
          clear hfz hNN
          go_wp2_with (first
            | (go_at_call 13; (with_reducible refine (same_is A4 A NP N c4 c (x0 ++ puts W zs) wr w4.heap.size wr.heap.size (hr4.below hfr (Nat.le_refl _)) hown.rd (by unfold maxLen; omega) HNN.out.symm).mono ?_); rintro e w6 ⟨rfl, hf6⟩)
            | (go_at_call 13; (with_reducible refine (same_is A3 A0 n0 n0 c3 c0 x0 w6 w4.heap.size w.heap.size (hr3.below (hfr.trans hf6) (Nat.le_refl _)) (hr.below ((hf04.trans hfr).trans hf6) (Nat.le_refl _)) (by unfold maxLen; omega) rfl).mono ?_); rintro e w7 ⟨rfl, hf7⟩)
            | (go_at_call 14; refine (fits_is A2 m c2 zs a1 _ w.heap.size fb (hl.below (((hf04.trans hfr).trans hf6).trans hf7) (Nat.le_refl _)) (by unfold maxLen; omega) HZ.out (by rw [HW.out]; exact HFZ.out)).mono ?_; rintro e w8 ⟨rfl, rfl⟩))
          have hf9 : Fresh w4 w7 := (hfr.trans hf6).trans hf7
          clear hfr hf6 hf7 hown
          go_loopw [77] (fun i wr => ∃ t : Nat, t ≤ m ∧ i = .int .i64 t ∧ Fresh w4 wr) (fun i _ => m - (intOf i).toNat)
          case atStart => exact ⟨0, by omega, rfl, hf9⟩
          case round =>
            obtain ⟨t, ht, rfl, hft⟩ := hrel
            by_cases hlt2 : t < m
            · obtain ⟨b, off, z, rfl, hb, hx, hcx⟩ := (hl.below (hf04.trans hft) (Nat.le_refl _)).at_ hlt2
              have hzw := HZ.out z (List.mem_of_getElem? hx)
              have HZW := Lib.hid hzw
              obtain ⟨R, hR⟩ : ∃ R : Int, (num (low W (u64 z)) : Int) = R := ⟨_, rfl⟩
              have htw : t * W + W ≤ m * W := by
                have := Nat.mul_le_mul_right W (show t + 1 ≤ m from hlt2)
                rwa [Nat.succ_mul] at this
              have hnp := HNP.out
              have htn : n0 + t * W + W ≤ NP := by omega
              have hb3 : 0 ≤ (t : Int) * (W : Int) := by omega
              have hb4 : (t : Int) * (W : Int) ≤ 1000 := by omega
              have htt : ((n0 : Int) + (t : Int) * (W : Int)).toNat = n0 + t * W := by omega
              have HTT := Lib.hid htt
              have hgot : (num (((x0 ++ puts W zs).drop ((n0 : Int) + (t : Int) * (W : Int)).toNat).take W) : Int) = R := by
                rw [htt, ← List.drop_drop, List.drop_left' HLX.out, puts_get _ _ _ _ hx, hR]
              have HGOT := Lib.hid hgot
              have HR := Lib.hid hR
              clear hx hzw hR hnp htt hgot htw
              go_wp2_with (first
                | (go_at_call 16; refine (HH.out _).mono ?_; rintro e w' ⟨rfl, rfl⟩)
                | (go_at_call 15; refine (get_is A4 NP c4 (x0 ++ puts W zs) _ a1 _ w4.heap.size R (hr4.below hft (Nat.le_refl _)) hc4 HC4.out (by omega) (by rw [HTT.out, HW.out]; exact htn) (by rw [HW.out]; exact HGOT.out)).mono ?_; rintro e w' ⟨rfl, rfl⟩)
                | (go_at_call 11; refine (bytes_is z a1 W (low W (u64 z)) _ HZW.out HW.out rfl).mono ?_; rintro e w9 ⟨A9, c9, rfl, hf9, ho9⟩)
                | (go_at_call 12; refine (number_is A9 W c9 _ _ _ R ho9.rd (by omega) HR.out).mono ?_; rintro e w' ⟨rfl, rfl⟩))
              go_roundw
              case rel => exact ⟨t + 1, by omega, by go_num, hft.trans hf9⟩
              case measure => simp [intOf]; omega
            · have h1 : m = t := by omega
              subst h1
              go_wp2
              go_ret
              exact ⟨rfl, hf04.trans hft⟩

end Go.Proofs.Ytnhcolfldkaonaa.wordPuts
