/-
  The walk of the law NamePage. My own text.
-/
import Derived.Test.YtaldbcfgfcdlhaaDoorNamLaw
import Derived.Test.YtaldbcfgfcdlhaaDoorOpen
namespace Go.Proofs.YtaldbcfgfcdlhaaDoor.namePage
open Go.RowKit Go.Proofs.YtaldbcfgfcdlhaaDoor.base Go.Proofs.YtaldbcfgfcdlhaaDoor.nam Go.Proofs.YtaldbcfgfcdlhaaDoor.namp
set_option linter.unusedVariables false
theorem pgs_back (l : List UInt8) : (pgs l).map bR9 = l ∧ (pgs l).all hasB = true := by
  induction l with
  | nil => exact ⟨rfl, rfl⟩
  | cons b l ih =>
    have h := pageB_R ⟨b.toNat, b.toNat_lt⟩
    simp only at h
    refine ⟨?_, ?_⟩
    · show bR9 (pageR b.toNat) :: (pgs l).map bR9 = b :: l
      rw [ih.1, bR9, h, Option.getD_some, UInt8.ofNat_toNat]
    · show (hasB (pageR b.toNat) && (pgs l).all hasB) = true
      rw [ih.2, hasB, h]
      rfl
set_option maxHeartbeats 4000000 in
set_option maxRecDepth 100000 in
theorem namePage_walk (A0 : Option Addr) (n0 c0 : Nat) (x0 : List UInt8) (w : World) (b0 : InBytes w A0 n0 c0 x0) (hU : Laid w) :
    Calls Tryd.prog 5 #[.slice A0 n0 c0] w fun e w' => e = .returned (.bool true) ∧ Below w.heap.size w w' := by
  obtain ⟨hr, hc, hcm⟩ := b0
  have hl : x0.length = n0 := by have := hr.1; rwa [List.length_map] at this
  have HW := Lib.hid (wakes_any w hU)
  have HU := Lib.hid hU
  have HR := Lib.hid hr
  have HL := Lib.hid hl
  by_cases hbig : 300 < n0
  · have t1 : decide ((n0 : Int) > 300) = true := by rw [decide_eq_true_iff]; omega
    have t2 : decide (300 < (n0 : Int)) = true := by rw [decide_eq_true_iff]; omega
    clear hr hl hc hcm hbig hU
    go_enter Tryd.func5, Tryd.ntmps5
    go_wp2_with (go_at_call 7; (refine HW.out.mono ?_); rintro e w1 ⟨rfl, hf1⟩)
    go_ret
    exact ⟨rfl, hf1⟩
  have t1 : decide ((n0 : Int) > 300) = false := by rw [decide_eq_false_iff_not]; omega
  have t2 : decide (300 < (n0 : Int)) = false := by rw [decide_eq_false_iff_not]; omega
  have hnb : n0 ≤ 300 := by omega
  obtain ⟨S, hS⟩ : ∃ S, (⟨(tx (pgs x0)).toArray⟩ : ByteArray) = S := ⟨_, rfl⟩
  have hSl : S.data.toList = tx (pgs x0) := by rw [← hS]
  have hpl : (pgs x0).length = n0 := by rw [List.length_map, hl]
  have hSs : S.size ≤ 1200 := by
    have h2 : S.size = S.data.toList.length := (Array.length_toList (xs := S.data)).symm
    rw [h2, hSl]
    have := tx_len (pgs x0)
    omega
  have hd : ∀ W B, Rd W B A0 n0 (x0.map bv) → B ≤ W.heap.size → Laid W → Calls Tryd.prog 8 #[.slice A0 n0 c0, .bool false] W fun e w' => e = .returned (.tuple #[.string S, .bool true]) ∧ Fresh W w' := by
    intro W B h1 h2 h3
    have := decode_any A0 n0 c0 x0 false W B h1 h2 (by omega) h3
    rw [← hS]
    exact this
  have hen : ∀ W, Laid W → Calls Tryd.prog 10 #[.string S] W fun e w' => ∃ A c, e = .returned (.tuple #[.slice A n0 c, .bool false]) ∧ Fresh W w' ∧ Rd w' w'.heap.size A n0 (x0.map bv) := by
    intro W hW
    refine (encode_any S (pgs x0) [] (by rw [hSl, List.append_nil]) (pgs_rn x0) (Or.inl rfl) W (by omega) hW).mono ?_
    have hb := pgs_back x0
    rintro e w' ⟨A, n, c, rfl, hn, hnc, hcm, hf, hr9⟩
    have e1 : encB (pgs x0) [] = x0 := by rw [encB, if_pos ⟨rfl, hb.2⟩, hb.1]
    have e2 : encT (pgs x0) [] = false := by rw [encT, hb.2]; rfl
    rw [e1] at hr9 hn
    rw [e2]
    rw [hl] at hn
    subst hn
    exact ⟨A, c, rfl, hf, hr9⟩
  have hrc := runes_count S (pgs x0) hSl (pgs_rn x0)
  rw [hpl] at hrc
  have HD := Lib.hid hd
  have HE := Lib.hid hen
  have HRC := Lib.hid hrc
  clear hr hl hcm hbig hU hS hSl hpl hSs hd hen hrc
  go_enter Tryd.func5, Tryd.ntmps5
  go_wp2_with (first
    | (go_at_call 7; (refine HW.out.mono ?_); rintro e w1 ⟨rfl, hf1⟩; have HF1 := Lib.hid hf1; clear hf1)
    | (go_at_call 8; (refine (HD.out w1 w.heap.size (HR.out.below HF1.out (Nat.le_refl _)) HF1.out.size (HU.out.fresh HF1.out)).mono ?_); rintro e w2 ⟨rfl, hf2⟩; have HF2 := Lib.hid (Fresh.trans HF1.out hf2); clear hf2)
    | (go_at_call 10; (refine (HE.out w2 (HU.out.fresh HF2.out)).mono ?_); rintro e w3 ⟨A3, c3, rfl, hf3, hr3⟩; have HF3 := Lib.hid (Fresh.trans HF2.out hf3); have HR3 := Lib.hid hr3; clear hf3 hr3)
    | (go_at_call 12; (refine (same_of A3 A0 n0 n0 c3 c0 x0 w3 _ _ HR3.out (HR.out.below HF3.out (Nat.le_refl _)) (by unfold maxLen; omega)).mono ?_); rintro e w4 ⟨rfl, hf4⟩; have HF4 := Lib.hid (Fresh.trans HF3.out hf4); clear hf4)
    | ((with_reducible refine at_slot_ 34 ?_); refine wpList_runes_if rfl 9 40 21 _ rfl Tryd.underlying9 Tryd.underlying40 Tryd.underlying21 S rfl n0 HRC.out (by omega) ?_; intro A5 c5 w5 hf5; have HF5 := Lib.hid (Fresh.trans HF4.out hf5); clear hf5))
  go_ret
  exact ⟨by simp, HF5.out⟩
end Go.Proofs.YtaldbcfgfcdlhaaDoor.namePage
