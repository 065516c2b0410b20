/-
  The walk of the law NameEncodes. My own text.
-/
import Derived.Test.YtaldbcfgfcdlhaaDoorNamLaw
import Derived.Test.YtaldbcfgfcdlhaaDoorOpen
namespace Go.Proofs.YtaldbcfgfcdlhaaDoor.nameEncodes
open Go.RowKit Go.Proofs.YtaldbcfgfcdlhaaDoor.base Go.Proofs.YtaldbcfgfcdlhaaDoor.nam Go.Proofs.YtaldbcfgfcdlhaaDoor.namp
set_option linter.unusedVariables false
theorem map_back : ∀ (rs : List Nat), rs.all hasB = true → pgs (rs.map bR9) = rs
  | [], _ => rfl
  | r :: rs, h => by
    simp only [List.all_cons, Bool.and_eq_true] at h
    show pageR (bR9 r).toNat :: pgs (rs.map bR9) = r :: rs
    rw [map_back rs h.2]
    have h1 := h.1
    rw [hasB, Option.isSome_iff_exists] at h1
    obtain ⟨b, hb⟩ := h1
    have h2 := pageB_some hb
    rw [bR9, hb, Option.getD_some, nat_u8 b h2.1, h2.2]
/-- a text that is right UTF-8 comes back -/
theorem back (rs : List Nat) (hrn : ∀ r ∈ rs, Rn r) : decP (encT rs []) (encB rs []) = .tuple #[.string ⟨(tx rs).toArray⟩, .bool true] := by
  by_cases h : rs.all hasB = true
  · have h1 : encT rs [] = false := by rw [encT, h]; rfl
    have h2 : encB rs [] = rs.map bR9 := by rw [encB, if_pos ⟨rfl, h⟩]
    rw [h1, h2]
    show Value.tuple #[.string ⟨(tx (pgs (rs.map bR9))).toArray⟩, .bool true] = _
    rw [map_back rs h]
  · have h1 : encT rs [] = true := by rw [Bool.not_eq_true] at h; rw [encT, h]; rfl
    have h2 : encB rs [] = tx rs := by rw [encB, if_neg (fun hh => h hh.2), List.append_nil]
    rw [h1, h2, decP, if_pos rfl, if_pos (valid_good rs hrn)]
set_option maxHeartbeats 8000000 in
set_option maxRecDepth 100000 in
theorem nameEncodes_walk (a0 : ByteArray) (w : World) (w0 : a0.size ≤ maxLen) (hU : Laid w) :
    Calls Tryd.prog 4 #[.string a0] w fun e w' => e = .returned (.bool true) ∧ Below w.heap.size w w' := by
  have HW := Lib.hid (wakes_any w hU)
  have HU := Lib.hid hU
  by_cases hbig : 300 < a0.size
  · have t1 : decide ((a0.size : Int) > 300) = true := by rw [decide_eq_true_iff]; omega
    have t2 : decide (300 < (a0.size : Int)) = true := by rw [decide_eq_true_iff]; omega
    clear hbig hU w0
    go_enter Tryd.func4, Tryd.ntmps4
    go_wp2_with (go_at_call 7; (refine HW.out.mono ?_); rintro e w1 ⟨rfl, hf1⟩)
    go_ret
    exact ⟨rfl, hf1⟩
  have t1 : decide ((a0.size : Int) > 300) = false := by rw [decide_eq_false_iff_not]; omega
  have t2 : decide (300 < (a0.size : Int)) = false := by rw [decide_eq_false_iff_not]; omega
  have hnb : a0.size ≤ 300 := by omega
  obtain ⟨rs, u, hrn, hs, hu⟩ := read_or a0.data.toList
  have hsz : (tx rs ++ u).length = a0.size := by rw [← hs]; exact Array.length_toList (xs := a0.data)
  obtain ⟨n, hn⟩ : ∃ n, a0.size = n := ⟨_, rfl⟩
  rw [hn] at hsz hnb
  have hlen : (encB rs u).length ≤ 300 := by
    unfold encB
    split
    · rename_i h
      have h1 := tx_le rs
      rw [List.length_append] at hsz
      rw [List.length_map]
      omega
    · omega
  have hen : ∀ W, Laid W → Calls Tryd.prog 10 #[.string a0] W (EncIs rs u W) := fun W hW => encode_any a0 rs u hs hrn hu W (by omega) hW
  have hre : ∀ W B A c, Rd W B A n ((tx rs ++ u).map bv) → B ≤ W.heap.size → n ≤ c → c ≤ maxLen → Calls Tryd.prog 11 #[.slice A n c] W (NameIs (encB rs u) (encT rs u) W) := fun W B A c h1 h2 h3 h4 => refEncode_any A n c (tx rs ++ u) rs u rfl hrn hu W B h1 h2 (by omega) h3 h4
  have hma : ∀ W, Laid W → Calls Tryd.prog 13 #[.string a0] W fun e w' => e = .returned (.bool (mayP rs u)) ∧ Fresh W w' := fun W hW => may_any a0 rs u hs hrn hu W (by omega) hW
  have hrm : ∀ W B A c, Rd W B A n ((tx rs ++ u).map bv) → B ≤ W.heap.size → n ≤ c → c ≤ maxLen → Calls Tryd.prog 14 #[.slice A n c] W fun e w' => e = .returned (.bool (mayP rs u)) ∧ Fresh W w' := fun W B A c h1 h2 h3 h4 => refMay_any A n c (tx rs ++ u) rs u rfl hrn hu W B h1 h2 (by omega) h3 h4
  have hrd : ∀ W B A c, Rd W B A n ((tx rs ++ u).map bv) → B ≤ W.heap.size → n ≤ c → c ≤ maxLen → Calls Tryd.prog 15 #[.slice A n c] W (ReadIs rs u W) := fun W B A c h1 h2 h3 h4 => read_any A n c (tx rs ++ u) rs u rfl hrn hu W B h1 h2 (by omega) h3 h4
  have hde : ∀ W B A m c, u = [] → Rd W B A m ((encB rs u).map bv) → B ≤ W.heap.size → Laid W → Calls Tryd.prog 8 #[.slice A m c, .bool (encT rs u)] W fun e w' => e = .returned (.tuple #[.string a0, .bool true]) ∧ Fresh W w' := by
    intro W B A m c hu0 h1 h2 h3
    have hm : m ≤ 4294967296 := by have := h1.1; rw [List.length_map] at this; omega
    have := decode_any A m c (encB rs u) (encT rs u) W B h1 h2 hm h3
    rw [hu0] at this hs
    rw [back rs hrn] at this
    rw [List.append_nil] at hs
    have e1 : (⟨(tx rs).toArray⟩ : ByteArray) = a0 := by rw [← hs]
    rw [e1] at this
    rw [hu0]
    exact this
  obtain ⟨Eb, hEb⟩ : ∃ Eb, encB rs u = Eb := ⟨_, rfl⟩
  obtain ⟨Et, hEt⟩ : ∃ Et, encT rs u = Et := ⟨_, rfl⟩
  obtain ⟨Mp, hMp⟩ : ∃ Mp, mayP rs u = Mp := ⟨_, rfl⟩
  obtain ⟨T, hT⟩ : ∃ T, tx rs ++ u = T := ⟨_, rfl⟩
  unfold EncIs at hen
  unfold NameIs at hre
  unfold ReadIs at hrd
  rw [hEb] at hen hre hde hlen
  rw [hEt] at hen hre hde
  rw [hMp] at hma hrm
  rw [hT] at hs hre hrm hrd hsz
  have HEN := Lib.hid hen
  have HRE := Lib.hid hre
  have HMA := Lib.hid hma
  have HRM := Lib.hid hrm
  have HRD := Lib.hid hrd
  have HDE := Lib.hid hde
  have HS := Lib.hid hs
  have HSZ := Lib.hid hsz
  have HLEN := Lib.hid hlen
  have HN := Lib.hid hn
  have hnm : n ≤ maxLen := by unfold maxLen; omega
  have HNM := Lib.hid hnm
  clear hen hre hma hrm hrd hde hs hsz hlen hn hEb hEt hMp hT hU hbig w0 hrn hnb hnm
  cases hud : decide (u = []) with
  | true =>
    have hu0 : u = [] := by simpa using hud
    rw [hud] at HRD
    have HU0 := Lib.hid hu0
    clear hud hu0 hu
    go_enter Tryd.func4, Tryd.ntmps4
    go_wp2_with (first
      | (go_at_call 7; (refine HW.out.mono ?_); rintro e w1 ⟨rfl, hf1⟩; have HF1 := Lib.hid hf1; clear hf1)
      | (go_at_call 10; (refine (HEN.out w1 (HU.out.fresh HF1.out)).mono ?_); rintro e w2 ⟨A2, n2, c2, rfl, hn2, hnc2, hcm2, hf2, hr2⟩; have HF2 := Lib.hid (Fresh.trans HF1.out hf2); have HR2 := Lib.hid hr2; have HN2 := Lib.hid hn2; clear hf2 hr2 hn2 hnc2 hcm2)
      | ((with_reducible refine at_slot_ 19 ?_); refine wpList_bytes_of rfl 9 22 5 _ rfl Tryd.underlying9 Tryd.underlying22 Tryd.underlying5 a0 rfl _ HS.out n HSZ.out HNM.out ?_; intro A3 c3 w3 hf3 hr3 hc3 hm3; have HF3 := Lib.hid (Fresh.trans HF2.out hf3); have HR3 := Lib.hid hr3; have HX3 := Lib.hid hf3; have HC3 := Lib.hid hc3; have HM3 := Lib.hid hm3; clear hf3 hr3 hc3 hm3)
      | (go_at_call 11; (refine (HRE.out w3 _ A3 c3 HR3.out (Nat.le_refl _) HC3.out HM3.out).mono ?_); rintro e w4 ⟨A4, n4, c4, rfl, hn4, hf4, hr4⟩; have HF4 := Lib.hid (Fresh.trans HF3.out hf4); have HX4 := Lib.hid (Fresh.trans HX3.out hf4); have hbx := Bk.made w4 tName #[.slice A4 n4 c4, .bool Et]; have k0 := hbx.cell (i := 0) rfl; have k1 := hbx.cell (i := 1) rfl; have HBX := Lib.hid hbx; have HR4 := Lib.hid hr4; have HN4 := Lib.hid hn4; clear hf4 hr4 hn4 hbx)
      | (go_at_call 12; (refine (same_of A2 A4 n2 n4 c2 c4 Eb _ _ _ ((HR2.out.fresh HX4.out).fresh (Fresh.alloc w4 (.cells #[.slice A4 n4 c4, .bool Et] tName))) (HR4.out.fresh (Fresh.alloc w4 (.cells #[.slice A4 n4 c4, .bool Et] tName))) (by rw [HN2.out]; have := HLEN.out; unfold maxLen; omega)).mono ?_); rintro e w5 ⟨rfl, hf5⟩; have k5 := (HBX.out.fresh hf5).cell (i := 1) rfl; have HF5 := Lib.hid ((Fresh.trans HF4.out (Fresh.alloc w4 (.cells #[.slice A4 n4 c4, .bool Et] tName))).trans hf5); have HX5 := Lib.hid ((Fresh.trans HX4.out (Fresh.alloc w4 (.cells #[.slice A4 n4 c4, .bool Et] tName))).trans hf5); clear hf5)
      | (go_at_call 13; (refine (HMA.out w5 (HU.out.fresh HF5.out)).mono ?_); rintro e w6 ⟨rfl, hf6⟩; have HF6 := Lib.hid (Fresh.trans HF5.out hf6); have HX6 := Lib.hid (Fresh.trans HX5.out hf6); clear hf6)
      | ((with_reducible refine at_slot_ 36 ?_); refine wpList_bytes_of_if rfl 9 22 5 _ rfl Tryd.underlying9 Tryd.underlying22 Tryd.underlying5 a0 rfl _ HS.out n HSZ.out HNM.out ?_; intro A7 c7 w7 hf7 hr7 hc7 hm7; have HF7 := Lib.hid (Fresh.trans HF6.out hf7); have HR7 := Lib.hid hr7; have HX7 := Lib.hid (Fresh.trans HX6.out hf7); have HC7 := Lib.hid hc7; have HM7 := Lib.hid hm7; clear hf7 hr7 hc7 hm7)
      | (go_at_call 14; (refine (HRM.out w7 _ A7 c7 HR7.out (Nat.le_refl _) HC7.out HM7.out).mono ?_); rintro e w8 ⟨rfl, hf8⟩; have HF8 := Lib.hid (Fresh.trans HF7.out hf8); have HX8 := Lib.hid (Fresh.trans HX7.out hf8); clear hf8)
      | ((with_reducible refine at_slot_ 41 ?_); refine wpList_bytes_of rfl 9 22 5 _ rfl Tryd.underlying9 Tryd.underlying22 Tryd.underlying5 a0 rfl _ HS.out n HSZ.out HNM.out ?_; intro A9 c9 w9 hf9 hr9 hc9 hm9; have HF9 := Lib.hid (Fresh.trans HF8.out hf9); have HR9 := Lib.hid hr9; have HX9 := Lib.hid (Fresh.trans HX8.out hf9); have HC9 := Lib.hid hc9; have HM9 := Lib.hid hm9; clear hf9 hr9 hc9 hm9)
      | (go_at_call 15; (refine (HRD.out w9 _ A9 c9 HR9.out (Nat.le_refl _) HC9.out HM9.out).mono ?_); rintro e wa ⟨Aa, na, ca, rfl, hfa, hmc, hra⟩; have hfld := field_is Aa na ca true wa; have HFa := Lib.hid (Fresh.trans HF9.out hfa); have HXa := Lib.hid (Fresh.trans HX9.out hfa); clear hfa hra)
      | (go_at_call 8; (refine (HDE.out wa _ A2 n2 c2 HU0.out (HR2.out.fresh HXa.out) (Nat.le_refl _) (HU.out.fresh HFa.out)).mono ?_); rintro e wb ⟨rfl, hfb⟩; have HFb := Lib.hid (Fresh.trans HFa.out hfb); clear hfb))
    go_ret
    exact ⟨rfl, HFb.out⟩
  | false =>
    rw [hud] at HRD
    clear hud hu
    go_enter Tryd.func4, Tryd.ntmps4
    go_wp2_with (first
      | (go_at_call 7; (refine HW.out.mono ?_); rintro e w1 ⟨rfl, hf1⟩; have HF1 := Lib.hid hf1; clear hf1)
      | (go_at_call 10; (refine (HEN.out w1 (HU.out.fresh HF1.out)).mono ?_); rintro e w2 ⟨A2, n2, c2, rfl, hn2, hnc2, hcm2, hf2, hr2⟩; have HF2 := Lib.hid (Fresh.trans HF1.out hf2); have HR2 := Lib.hid hr2; have HN2 := Lib.hid hn2; clear hf2 hr2 hn2 hnc2 hcm2)
      | ((with_reducible refine at_slot_ 19 ?_); refine wpList_bytes_of rfl 9 22 5 _ rfl Tryd.underlying9 Tryd.underlying22 Tryd.underlying5 a0 rfl _ HS.out n HSZ.out HNM.out ?_; intro A3 c3 w3 hf3 hr3 hc3 hm3; have HF3 := Lib.hid (Fresh.trans HF2.out hf3); have HR3 := Lib.hid hr3; have HX3 := Lib.hid hf3; have HC3 := Lib.hid hc3; have HM3 := Lib.hid hm3; clear hf3 hr3 hc3 hm3)
      | (go_at_call 11; (refine (HRE.out w3 _ A3 c3 HR3.out (Nat.le_refl _) HC3.out HM3.out).mono ?_); rintro e w4 ⟨A4, n4, c4, rfl, hn4, hf4, hr4⟩; have HF4 := Lib.hid (Fresh.trans HF3.out hf4); have HX4 := Lib.hid (Fresh.trans HX3.out hf4); have hbx := Bk.made w4 tName #[.slice A4 n4 c4, .bool Et]; have k0 := hbx.cell (i := 0) rfl; have k1 := hbx.cell (i := 1) rfl; have HBX := Lib.hid hbx; have HR4 := Lib.hid hr4; have HN4 := Lib.hid hn4; clear hf4 hr4 hn4 hbx)
      | (go_at_call 12; (refine (same_of A2 A4 n2 n4 c2 c4 Eb _ _ _ ((HR2.out.fresh HX4.out).fresh (Fresh.alloc w4 (.cells #[.slice A4 n4 c4, .bool Et] tName))) (HR4.out.fresh (Fresh.alloc w4 (.cells #[.slice A4 n4 c4, .bool Et] tName))) (by rw [HN2.out]; have := HLEN.out; unfold maxLen; omega)).mono ?_); rintro e w5 ⟨rfl, hf5⟩; have k5 := (HBX.out.fresh hf5).cell (i := 1) rfl; have HF5 := Lib.hid ((Fresh.trans HF4.out (Fresh.alloc w4 (.cells #[.slice A4 n4 c4, .bool Et] tName))).trans hf5); have HX5 := Lib.hid ((Fresh.trans HX4.out (Fresh.alloc w4 (.cells #[.slice A4 n4 c4, .bool Et] tName))).trans hf5); clear hf5)
      | (go_at_call 13; (refine (HMA.out w5 (HU.out.fresh HF5.out)).mono ?_); rintro e w6 ⟨rfl, hf6⟩; have HF6 := Lib.hid (Fresh.trans HF5.out hf6); have HX6 := Lib.hid (Fresh.trans HX5.out hf6); clear hf6)
      | ((with_reducible refine at_slot_ 36 ?_); refine wpList_bytes_of_if rfl 9 22 5 _ rfl Tryd.underlying9 Tryd.underlying22 Tryd.underlying5 a0 rfl _ HS.out n HSZ.out HNM.out ?_; intro A7 c7 w7 hf7 hr7 hc7 hm7; have HF7 := Lib.hid (Fresh.trans HF6.out hf7); have HR7 := Lib.hid hr7; have HX7 := Lib.hid (Fresh.trans HX6.out hf7); have HC7 := Lib.hid hc7; have HM7 := Lib.hid hm7; clear hf7 hr7 hc7 hm7)
      | (go_at_call 14; (refine (HRM.out w7 _ A7 c7 HR7.out (Nat.le_refl _) HC7.out HM7.out).mono ?_); rintro e w8 ⟨rfl, hf8⟩; have HF8 := Lib.hid (Fresh.trans HF7.out hf8); have HX8 := Lib.hid (Fresh.trans HX7.out hf8); clear hf8)
      | ((with_reducible refine at_slot_ 41 ?_); refine wpList_bytes_of rfl 9 22 5 _ rfl Tryd.underlying9 Tryd.underlying22 Tryd.underlying5 a0 rfl _ HS.out n HSZ.out HNM.out ?_; intro A9 c9 w9 hf9 hr9 hc9 hm9; have HF9 := Lib.hid (Fresh.trans HF8.out hf9); have HR9 := Lib.hid hr9; have HX9 := Lib.hid (Fresh.trans HX8.out hf9); have HC9 := Lib.hid hc9; have HM9 := Lib.hid hm9; clear hf9 hr9 hc9 hm9)
      | (go_at_call 15; (refine (HRD.out w9 _ A9 c9 HR9.out (Nat.le_refl _) HC9.out HM9.out).mono ?_); rintro e wa ⟨Aa, na, ca, rfl, hfa, hmc, hra⟩; have hfld := field_is Aa na ca false wa; have HFa := Lib.hid (Fresh.trans HF9.out hfa); have HXa := Lib.hid (Fresh.trans HX9.out hfa); clear hfa hra))
    go_ret
    exact ⟨rfl, HFa.out⟩
end Go.Proofs.YtaldbcfgfcdlhaaDoor.nameEncodes
