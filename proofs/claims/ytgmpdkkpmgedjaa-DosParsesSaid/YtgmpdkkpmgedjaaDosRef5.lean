/-
  The reference of layer 8: Parse. My own text.
-/
import Derived.Test.YtgmpdkkpmgedjaaDosRef4
import Derived.Test.YtgmpdkkpmgedjaaDosText
namespace Go.Proofs.Ytgmpdkkpmgedjaa.dosp
open Go.RowKit Go.Proofs.Ytgmpdkkpmgedjaa.base Go.Proofs.Ytgmpdkkpmgedjaa.num Go.Proofs.Ytgmpdkkpmgedjaa.bitnum Go.Proofs.Ytgmpdkkpmgedjaa.dosnum
set_option linter.unusedVariables false

theorem rd_mom {w : World} {g : Nat} {m : Mo} (h : MomI w g m) : Rd w (g + 1) (some ⟨g, 0, none⟩) 6 (momL m) := ⟨rfl, fun _ => ⟨g, 0, rfl, by omega, fun j u hu => by rw [Nat.zero_add]; exact h.cell hu⟩⟩
set_option maxHeartbeats 16000000 in
theorem parse_long (t : ByteArray) (l : List UInt8) (hl : l = t.data.toList) (hn : l.length = 19) (w : World) : Calls Try.prog 18 #[.string t] w fun e w' => e = .returned (.int .i64 (parseR l)) ∧ Fresh w w' := by
  have hsz : t.size = 19 := by rw [← hn, hl]; exact (Array.length_toList (xs := t.data)).symm
  have hpr : parseR l = (if l.getD 4 0 = 45 ∧ l.getD 7 0 = 45 ∧ l.getD 10 0 = 32 ∧ l.getD 13 0 = 58 ∧ l.getD 16 0 = 58 then numI ⟨valS (grp l 0 4), valS (grp l 5 2), valS (grp l 8 2), valS (grp l 11 2), valS (grp l 14 2), valS (grp l 17 2)⟩ else -1) := by rw [parseR, if_neg (by omega), if_pos hn]
  have get : ∀ k (hk : k < 19) (h : k < t.size), t[k]'h = l.getD k 0 := by
    intro k hk h
    have h1 : t.data.toList[k]? = some (l.getD k 0) := by rw [← hl, List.getD_eq_getElem?_getD, List.getElem?_eq_getElem (by omega)]; rfl
    have h2 : t.data[k]? = some (l.getD k 0) := by simpa using h1
    obtain ⟨_, h3⟩ := Array.getElem?_eq_some_iff.1 h2
    exact h3
  have hnum := fun a n hh h4 W => number_is t l hl a n hh h4 (by omega) W
  have NUM := Lib.hid hnum
  have HN := Lib.hid hn
  have g4 := get 4 (by omega)
  obtain ⟨x4, hx4⟩ : ∃ x, l.getD 4 0 = x := ⟨_, rfl⟩
  rw [hx4] at g4 hpr
  have g7 := get 7 (by omega)
  obtain ⟨x7, hx7⟩ : ∃ x, l.getD 7 0 = x := ⟨_, rfl⟩
  rw [hx7] at g7 hpr
  have g10 := get 10 (by omega)
  obtain ⟨x10, hx10⟩ : ∃ x, l.getD 10 0 = x := ⟨_, rfl⟩
  rw [hx10] at g10 hpr
  have g13 := get 13 (by omega)
  obtain ⟨x13, hx13⟩ : ∃ x, l.getD 13 0 = x := ⟨_, rfl⟩
  rw [hx13] at g13 hpr
  have g16 := get 16 (by omega)
  obtain ⟨x16, hx16⟩ : ∃ x, l.getD 16 0 = x := ⟨_, rfl⟩
  rw [hx16] at g16 hpr
  clear get hnum hn hl hx4 hx7 hx10 hx13 hx16
  by_cases h4 : x4 = 45
  case neg =>
    rw [if_neg (fun h => h4 h.1)] at hpr
    have t4 := byte_ne 45 rfl h4
    have HPR := Lib.hid hpr
    clear hpr h4
    go_enter Try.func18, Try.ntmps18
    go_wp2
    all_goals go_ret
    all_goals exact ⟨by rw [HPR.out]; rfl, Fresh.refl _⟩
  subst h4
  by_cases h7 : x7 = 45
  case neg =>
    rw [if_neg (fun h => h7 h.2.1)] at hpr
    have t7 := byte_ne 45 rfl h7
    have HPR := Lib.hid hpr
    clear hpr h7
    go_enter Try.func18, Try.ntmps18
    go_wp2
    all_goals go_ret
    all_goals exact ⟨by rw [HPR.out]; rfl, Fresh.refl _⟩
  subst h7
  by_cases h10 : x10 = 32
  case neg =>
    rw [if_neg (fun h => h10 h.2.2.1)] at hpr
    have t10 := byte_ne 32 rfl h10
    have HPR := Lib.hid hpr
    clear hpr h10
    have N0 : RowKit.Hid (∀ W, Calls Try.prog 25 #[.string t, .int .i64 0, .int .i64 4] W fun e w' => e = .returned (.int .i64 (valS (grp l 0 4))) ∧ W = w') := NUM.out 0 4 (by have := HN.out; omega) (by omega)
    have N1 : RowKit.Hid (∀ W, Calls Try.prog 25 #[.string t, .int .i64 5, .int .i64 2] W fun e w' => e = .returned (.int .i64 (valS (grp l 5 2))) ∧ W = w') := NUM.out 5 2 (by have := HN.out; omega) (by omega)
    have N2 : RowKit.Hid (∀ W, Calls Try.prog 25 #[.string t, .int .i64 8, .int .i64 2] W fun e w' => e = .returned (.int .i64 (valS (grp l 8 2))) ∧ W = w') := NUM.out 8 2 (by have := HN.out; omega) (by omega)
    go_enter Try.func18, Try.ntmps18
    go_wp2_with (first
      | (go_at_call 25; (with_reducible refine (N0.out _).mono ?_); rintro e w1 ⟨rfl, rfl⟩)
      | (go_at_call 25; (with_reducible refine (N1.out _).mono ?_); rintro e w1 ⟨rfl, rfl⟩)
      | (go_at_call 25; (with_reducible refine (N2.out _).mono ?_); rintro e w1 ⟨rfl, rfl⟩))
    all_goals go_ret
    all_goals exact ⟨by rw [HPR.out]; rfl, Fresh.alloc _ _⟩
  subst h10
  by_cases h13 : x13 = 58
  case neg =>
    rw [if_neg (fun h => h13 h.2.2.2.1)] at hpr
    have t13 := byte_ne 58 rfl h13
    have HPR := Lib.hid hpr
    clear hpr h13
    have N0 : RowKit.Hid (∀ W, Calls Try.prog 25 #[.string t, .int .i64 0, .int .i64 4] W fun e w' => e = .returned (.int .i64 (valS (grp l 0 4))) ∧ W = w') := NUM.out 0 4 (by have := HN.out; omega) (by omega)
    have N1 : RowKit.Hid (∀ W, Calls Try.prog 25 #[.string t, .int .i64 5, .int .i64 2] W fun e w' => e = .returned (.int .i64 (valS (grp l 5 2))) ∧ W = w') := NUM.out 5 2 (by have := HN.out; omega) (by omega)
    have N2 : RowKit.Hid (∀ W, Calls Try.prog 25 #[.string t, .int .i64 8, .int .i64 2] W fun e w' => e = .returned (.int .i64 (valS (grp l 8 2))) ∧ W = w') := NUM.out 8 2 (by have := HN.out; omega) (by omega)
    go_enter Try.func18, Try.ntmps18
    go_wp2_with (first
      | (go_at_call 25; (with_reducible refine (N0.out _).mono ?_); rintro e w1 ⟨rfl, rfl⟩)
      | (go_at_call 25; (with_reducible refine (N1.out _).mono ?_); rintro e w1 ⟨rfl, rfl⟩)
      | (go_at_call 25; (with_reducible refine (N2.out _).mono ?_); rintro e w1 ⟨rfl, rfl⟩))
    all_goals go_ret
    all_goals exact ⟨by rw [HPR.out]; rfl, Fresh.alloc _ _⟩
  subst h13
  by_cases h16 : x16 = 58
  case neg =>
    rw [if_neg (fun h => h16 h.2.2.2.2)] at hpr
    have t16 := byte_ne 58 rfl h16
    have HPR := Lib.hid hpr
    clear hpr h16
    have N0 : RowKit.Hid (∀ W, Calls Try.prog 25 #[.string t, .int .i64 0, .int .i64 4] W fun e w' => e = .returned (.int .i64 (valS (grp l 0 4))) ∧ W = w') := NUM.out 0 4 (by have := HN.out; omega) (by omega)
    have N1 : RowKit.Hid (∀ W, Calls Try.prog 25 #[.string t, .int .i64 5, .int .i64 2] W fun e w' => e = .returned (.int .i64 (valS (grp l 5 2))) ∧ W = w') := NUM.out 5 2 (by have := HN.out; omega) (by omega)
    have N2 : RowKit.Hid (∀ W, Calls Try.prog 25 #[.string t, .int .i64 8, .int .i64 2] W fun e w' => e = .returned (.int .i64 (valS (grp l 8 2))) ∧ W = w') := NUM.out 8 2 (by have := HN.out; omega) (by omega)
    go_enter Try.func18, Try.ntmps18
    go_wp2_with (first
      | (go_at_call 25; (with_reducible refine (N0.out _).mono ?_); rintro e w1 ⟨rfl, rfl⟩)
      | (go_at_call 25; (with_reducible refine (N1.out _).mono ?_); rintro e w1 ⟨rfl, rfl⟩)
      | (go_at_call 25; (with_reducible refine (N2.out _).mono ?_); rintro e w1 ⟨rfl, rfl⟩))
    all_goals go_ret
    all_goals exact ⟨by rw [HPR.out]; rfl, Fresh.alloc _ _⟩
  subst h16
  rw [if_pos ⟨rfl, rfl, rfl, rfl, rfl⟩] at hpr
  obtain ⟨v0, e0⟩ : ∃ v, valS (grp l 0 4) = v := ⟨_, rfl⟩
  have n0 : ∀ W, Calls Try.prog 25 #[.string t, .int .i64 0, .int .i64 4] W fun e w' => e = .returned (.int .i64 (valS (grp l 0 4))) ∧ W = w' := NUM.out 0 4 (by have := HN.out; omega) (by omega)
  rw [e0] at n0 hpr
  have N0 := Lib.hid n0
  obtain ⟨v1, e1⟩ : ∃ v, valS (grp l 5 2) = v := ⟨_, rfl⟩
  have n1 : ∀ W, Calls Try.prog 25 #[.string t, .int .i64 5, .int .i64 2] W fun e w' => e = .returned (.int .i64 (valS (grp l 5 2))) ∧ W = w' := NUM.out 5 2 (by have := HN.out; omega) (by omega)
  rw [e1] at n1 hpr
  have N1 := Lib.hid n1
  obtain ⟨v2, e2⟩ : ∃ v, valS (grp l 8 2) = v := ⟨_, rfl⟩
  have n2 : ∀ W, Calls Try.prog 25 #[.string t, .int .i64 8, .int .i64 2] W fun e w' => e = .returned (.int .i64 (valS (grp l 8 2))) ∧ W = w' := NUM.out 8 2 (by have := HN.out; omega) (by omega)
  rw [e2] at n2 hpr
  have N2 := Lib.hid n2
  obtain ⟨v3, e3⟩ : ∃ v, valS (grp l 11 2) = v := ⟨_, rfl⟩
  have n3 : ∀ W, Calls Try.prog 25 #[.string t, .int .i64 11, .int .i64 2] W fun e w' => e = .returned (.int .i64 (valS (grp l 11 2))) ∧ W = w' := NUM.out 11 2 (by have := HN.out; omega) (by omega)
  rw [e3] at n3 hpr
  have N3 := Lib.hid n3
  obtain ⟨v4, e4⟩ : ∃ v, valS (grp l 14 2) = v := ⟨_, rfl⟩
  have n4 : ∀ W, Calls Try.prog 25 #[.string t, .int .i64 14, .int .i64 2] W fun e w' => e = .returned (.int .i64 (valS (grp l 14 2))) ∧ W = w' := NUM.out 14 2 (by have := HN.out; omega) (by omega)
  rw [e4] at n4 hpr
  have N4 := Lib.hid n4
  obtain ⟨v5, e5⟩ : ∃ v, valS (grp l 17 2) = v := ⟨_, rfl⟩
  have n5 : ∀ W, Calls Try.prog 25 #[.string t, .int .i64 17, .int .i64 2] W fun e w' => e = .returned (.int .i64 (valS (grp l 17 2))) ∧ W = w' := NUM.out 17 2 (by have := HN.out; omega) (by omega)
  rw [e5] at n5 hpr
  have N5 := Lib.hid n5
  have HPR := Lib.hid hpr
  clear hpr n0 e0 n1 e1 n2 e2 n3 e3 n4 e4 n5 e5
  go_enter Try.func18, Try.ntmps18
  go_wp2_with (first
    | (go_at_call 25; (with_reducible refine (N0.out _).mono ?_); rintro e w1 ⟨rfl, rfl⟩)
    | (go_at_call 25; (with_reducible refine (N1.out _).mono ?_); rintro e w1 ⟨rfl, rfl⟩)
    | (go_at_call 25; (with_reducible refine (N2.out _).mono ?_); rintro e w1 ⟨rfl, rfl⟩)
    | (go_at_call 25; (with_reducible refine (N3.out _).mono ?_); rintro e w1 ⟨rfl, rfl⟩)
    | (go_at_call 25; (with_reducible refine (N4.out _).mono ?_); rintro e w1 ⟨rfl, rfl⟩)
    | (go_at_call 25; (with_reducible refine (N5.out _).mono ?_); rintro e w1 ⟨rfl, rfl⟩)
    | (go_at_call 10; (refine (number_any _ 6 ⟨v0, v1, v2, v3, v4, v5⟩ _ _ (Rd.lit _ #[.int .i64 v0, .int .i64 v1, .int .i64 v2, .int .i64 v3, .int .i64 v4, .int .i64 v5] 3) (by simp)).mono ?_); rintro e w5 ⟨rfl, hf5⟩))
  go_ret
  exact ⟨by rw [HPR.out]; rfl, (Fresh.alloc _ _).trans hf5⟩
/-! the reference and the program read the same -/
theorem list10 {α : Type} {l : List α} (h : l.length = 10) : ∃ c0 c1 c2 c3 c4 c5 c6 c7 c8 c9, l = [c0, c1, c2, c3, c4, c5, c6, c7, c8, c9] := by
  match l, h with
  | [c0, c1, c2, c3, c4, c5, c6, c7, c8, c9], _ => exact ⟨_, _, _, _, _, _, _, _, _, _, rfl⟩
theorem list19 {α : Type} {l : List α} (h : l.length = 19) : ∃ c0 c1 c2 c3 c4 c5 c6 c7 c8 c9 d0 d1 d2 d3 d4 d5 d6 d7 d8, l = [c0, c1, c2, c3, c4, c5, c6, c7, c8, c9, d0, d1, d2, d3, d4, d5, d6, d7, d8] := by
  match l, h with
  | [c0, c1, c2, c3, c4, c5, c6, c7, c8, c9, d0, d1, d2, d3, d4, d5, d6, d7, d8], _ => exact ⟨_, _, _, _, _, _, _, _, _, _, _, _, _, _, _, _, _, _, _, rfl⟩
theorem numI_bad {m : Mo} (h : m.y = -1 ∨ m.mo = -1 ∨ m.d = -1 ∨ m.h = -1 ∨ m.mi = -1 ∨ m.s = -1) : numI m = -1 := by
  rw [numI, if_neg]
  intro r
  have a := r.y1
  have b := r.mo1
  have c := r.d1
  have d := r.h1
  have e := r.mi1
  have f := r.s1
  omega
theorem fits_digit (c : UInt8) : fits 48 c = digit c := by simp [fits, digit]
theorem fits_45 (c : UInt8) : fits 45 c = decide (c = 45) := by simp [fits]
theorem fits_32 (c : UInt8) : fits 32 c = decide (c = 32) := by simp [fits]
theorem fits_58 (c : UInt8) : fits 58 c = decide (c = 58) := by simp [fits]
theorem readM_bad {l : List UInt8} (h : fitsB shp l = false) : ¬ Right (readM l) := by
  rw [readM, if_neg (by rw [h]; simp)]
  exact zero_not
theorem parseP_if (l : List UInt8) (h : l.length = 10 ∨ l.length = 19) : (parseP l).getD (-1) = numI (readM l) := by
  unfold parseP numI
  by_cases r : Right (readM l)
  · rw [if_pos ⟨h, r⟩, if_pos r]; rfl
  · rw [if_neg (fun h => r h.2), if_neg r]; rfl
theorem parse_eq10 (l : List UInt8) (h : l.length = 10) : (parseP l).getD (-1) = parseR l := by
  rw [parseP_if l (Or.inl h)]
  have hR : parseR l = (if l.getD 4 0 = 45 ∧ l.getD 7 0 = 45 then numI ⟨valS (grp l 0 4), valS (grp l 5 2), valS (grp l 8 2), 0, 0, 0⟩ else -1) := by rw [parseR, if_pos h]
  rw [hR]
  obtain ⟨c0, c1, c2, c3, c4, c5, c6, c7, c8, c9, rfl⟩ := list10 h
  have hf : fitsB shp [c0, c1, c2, c3, c4, c5, c6, c7, c8, c9] = (digit c0 && (digit c1 && (digit c2 && (digit c3 && (decide (c4 = 45) && (digit c5 && (digit c6 && (decide (c7 = 45) && (digit c8 && digit c9))))))))) := by
    simp only [fitsB, shp, fits_digit, fits_45, Bool.and_true]
  have g0 : grp [c0, c1, c2, c3, c4, c5, c6, c7, c8, c9] 0 4 = [c0, c1, c2, c3] := rfl
  have g1 : grp [c0, c1, c2, c3, c4, c5, c6, c7, c8, c9] 5 2 = [c5, c6] := rfl
  have g2 : grp [c0, c1, c2, c3, c4, c5, c6, c7, c8, c9] 8 2 = [c8, c9] := rfl
  have s4 : [c0, c1, c2, c3, c4, c5, c6, c7, c8, c9].getD 4 0 = c4 := rfl
  have s7 : [c0, c1, c2, c3, c4, c5, c6, c7, c8, c9].getD 7 0 = c7 := rfl
  rw [g0, g1, g2, s4, s7]
  have v0 : valS [c0, c1, c2, c3] = if (digit c0 && (digit c1 && (digit c2 && digit c3))) = true then acc [c0, c1, c2, c3] else -1 := by simp only [valS, List.all_cons, List.all_nil, Bool.and_true]
  have v1 : valS [c5, c6] = if (digit c5 && digit c6) = true then acc [c5, c6] else -1 := by simp only [valS, List.all_cons, List.all_nil, Bool.and_true]
  have v2 : valS [c8, c9] = if (digit c8 && digit c9) = true then acc [c8, c9] else -1 := by simp only [valS, List.all_cons, List.all_nil, Bool.and_true]
  have bad : fitsB shp [c0, c1, c2, c3, c4, c5, c6, c7, c8, c9] = false → numI (readM [c0, c1, c2, c3, c4, c5, c6, c7, c8, c9]) = -1 := fun hb => by rw [numI, if_neg (readM_bad hb)]
  by_cases h4 : c4 = 45
  · by_cases h7 : c7 = 45
    · rw [if_pos ⟨h4, h7⟩]
      cases b0 : (digit c0 && (digit c1 && (digit c2 && digit c3)))
      · rw [bad (by rw [hf]; revert b0; cases digit c0 <;> cases digit c1 <;> cases digit c2 <;> cases digit c3 <;> simp), numI_bad (Or.inl (by show valS _ = -1; rw [v0, b0]; rfl))]
      cases b1 : (digit c5 && digit c6)
      · rw [bad (by rw [hf]; revert b1; cases digit c5 <;> cases digit c6 <;> simp), numI_bad (Or.inr (Or.inl (by show valS _ = -1; rw [v1, b1]; rfl)))]
      cases b2 : (digit c8 && digit c9)
      · rw [bad (by rw [hf]; revert b2; cases digit c8 <;> cases digit c9 <;> simp), numI_bad (Or.inr (Or.inr (Or.inl (by show valS _ = -1; rw [v2, b2]; rfl))))]
      rw [v0, v1, v2, b0, b1, b2]
      simp only [Bool.and_eq_true] at b0 b1 b2
      rw [readM, if_pos (by rw [hf]; simp [b0, b1, b2, h4, h7])]
      rfl
    · rw [if_neg (fun h => h7 h.2), bad (by rw [hf]; simp [h7])]
  · rw [if_neg (fun h => h4 h.1), bad (by rw [hf]; simp [h4])]
theorem parse_eq19 (l : List UInt8) (h : l.length = 19) : (parseP l).getD (-1) = parseR l := by
  rw [parseP_if l (Or.inr h)]
  have hR : parseR l = (if l.getD 4 0 = 45 ∧ l.getD 7 0 = 45 ∧ l.getD 10 0 = 32 ∧ l.getD 13 0 = 58 ∧ l.getD 16 0 = 58 then numI ⟨valS (grp l 0 4), valS (grp l 5 2), valS (grp l 8 2), valS (grp l 11 2), valS (grp l 14 2), valS (grp l 17 2)⟩ else -1) := by rw [parseR, if_neg (by omega), if_pos h]
  rw [hR]
  obtain ⟨c0, c1, c2, c3, c4, c5, c6, c7, c8, c9, d0, d1, d2, d3, d4, d5, d6, d7, d8, rfl⟩ := list19 h
  have hf : fitsB shp [c0, c1, c2, c3, c4, c5, c6, c7, c8, c9, d0, d1, d2, d3, d4, d5, d6, d7, d8] = (digit c0 && (digit c1 && (digit c2 && (digit c3 && (decide (c4 = 45) && (digit c5 && (digit c6 && (decide (c7 = 45) && (digit c8 && (digit c9 && (decide (d0 = 32) && (digit d1 && (digit d2 && (decide (d3 = 58) && (digit d4 && (digit d5 && (decide (d6 = 58) && (digit d7 && digit d8)))))))))))))))))) := by
    simp only [fitsB, shp, fits_digit, fits_45, fits_32, fits_58, Bool.and_true]
  have g0 : grp [c0, c1, c2, c3, c4, c5, c6, c7, c8, c9, d0, d1, d2, d3, d4, d5, d6, d7, d8] 0 4 = [c0, c1, c2, c3] := rfl
  have g1 : grp [c0, c1, c2, c3, c4, c5, c6, c7, c8, c9, d0, d1, d2, d3, d4, d5, d6, d7, d8] 5 2 = [c5, c6] := rfl
  have g2 : grp [c0, c1, c2, c3, c4, c5, c6, c7, c8, c9, d0, d1, d2, d3, d4, d5, d6, d7, d8] 8 2 = [c8, c9] := rfl
  have g3 : grp [c0, c1, c2, c3, c4, c5, c6, c7, c8, c9, d0, d1, d2, d3, d4, d5, d6, d7, d8] 11 2 = [d1, d2] := rfl
  have g4 : grp [c0, c1, c2, c3, c4, c5, c6, c7, c8, c9, d0, d1, d2, d3, d4, d5, d6, d7, d8] 14 2 = [d4, d5] := rfl
  have g5 : grp [c0, c1, c2, c3, c4, c5, c6, c7, c8, c9, d0, d1, d2, d3, d4, d5, d6, d7, d8] 17 2 = [d7, d8] := rfl
  have s4 : [c0, c1, c2, c3, c4, c5, c6, c7, c8, c9, d0, d1, d2, d3, d4, d5, d6, d7, d8].getD 4 0 = c4 := rfl
  have s7 : [c0, c1, c2, c3, c4, c5, c6, c7, c8, c9, d0, d1, d2, d3, d4, d5, d6, d7, d8].getD 7 0 = c7 := rfl
  have s10 : [c0, c1, c2, c3, c4, c5, c6, c7, c8, c9, d0, d1, d2, d3, d4, d5, d6, d7, d8].getD 10 0 = d0 := rfl
  have s13 : [c0, c1, c2, c3, c4, c5, c6, c7, c8, c9, d0, d1, d2, d3, d4, d5, d6, d7, d8].getD 13 0 = d3 := rfl
  have s16 : [c0, c1, c2, c3, c4, c5, c6, c7, c8, c9, d0, d1, d2, d3, d4, d5, d6, d7, d8].getD 16 0 = d6 := rfl
  rw [g0, g1, g2, g3, g4, g5, s4, s7, s10, s13, s16]
  have v0 : valS [c0, c1, c2, c3] = if (digit c0 && (digit c1 && (digit c2 && digit c3))) = true then acc [c0, c1, c2, c3] else -1 := by simp only [valS, List.all_cons, List.all_nil, Bool.and_true]
  have vt : ∀ x y, valS [x, y] = if (digit x && digit y) = true then acc [x, y] else -1 := fun x y => by simp only [valS, List.all_cons, List.all_nil, Bool.and_true]
  have bad : fitsB shp [c0, c1, c2, c3, c4, c5, c6, c7, c8, c9, d0, d1, d2, d3, d4, d5, d6, d7, d8] = false → numI (readM [c0, c1, c2, c3, c4, c5, c6, c7, c8, c9, d0, d1, d2, d3, d4, d5, d6, d7, d8]) = -1 := fun hb => by rw [numI, if_neg (readM_bad hb)]
  by_cases hs : c4 = 45 ∧ c7 = 45 ∧ d0 = 32 ∧ d3 = 58 ∧ d6 = 58
  · rw [if_pos hs]
    obtain ⟨h4, h7, h10, h13, h16⟩ := hs
    cases b0 : (digit c0 && (digit c1 && (digit c2 && digit c3)))
    · rw [bad (by rw [hf]; revert b0; cases digit c0 <;> cases digit c1 <;> cases digit c2 <;> cases digit c3 <;> simp), numI_bad (Or.inl (by show valS _ = -1; rw [v0, b0]; rfl))]
    cases b1 : (digit c5 && digit c6)
    · rw [bad (by rw [hf]; revert b1; cases digit c5 <;> cases digit c6 <;> simp), numI_bad (Or.inr (Or.inl (by show valS _ = -1; rw [vt, b1]; rfl)))]
    cases b2 : (digit c8 && digit c9)
    · rw [bad (by rw [hf]; revert b2; cases digit c8 <;> cases digit c9 <;> simp), numI_bad (Or.inr (Or.inr (Or.inl (by show valS _ = -1; rw [vt, b2]; rfl))))]
    cases b3 : (digit d1 && digit d2)
    · rw [bad (by rw [hf]; revert b3; cases digit d1 <;> cases digit d2 <;> simp), numI_bad (Or.inr (Or.inr (Or.inr (Or.inl (by show valS _ = -1; rw [vt, b3]; rfl)))))]
    cases b4 : (digit d4 && digit d5)
    · rw [bad (by rw [hf]; revert b4; cases digit d4 <;> cases digit d5 <;> simp), numI_bad (Or.inr (Or.inr (Or.inr (Or.inr (Or.inl (by show valS _ = -1; rw [vt, b4]; rfl))))))]
    cases b5 : (digit d7 && digit d8)
    · rw [bad (by rw [hf]; revert b5; cases digit d7 <;> cases digit d8 <;> simp), numI_bad (Or.inr (Or.inr (Or.inr (Or.inr (Or.inr (by show valS _ = -1; rw [vt, b5]; rfl))))))]
    rw [v0, vt, vt, vt, vt, vt, b0, b1, b2, b3, b4, b5]
    simp only [Bool.and_eq_true] at b0 b1 b2 b3 b4 b5
    rw [readM, if_pos (by rw [hf]; simp [b0, b1, b2, b3, b4, b5, h4, h7, h10, h13, h16])]
    rfl
  · rw [if_neg hs, bad]
    rw [hf]
    by_cases h4 : c4 = 45
    · by_cases h7 : c7 = 45
      · by_cases h10 : d0 = 32
        · by_cases h13 : d3 = 58
          · have h16 : ¬ d6 = 58 := fun h => hs ⟨h4, h7, h10, h13, h⟩
            simp [h16]
          · simp [h13]
        · simp [h10]
      · simp [h7]
    · simp [h4]
theorem parse_eq (l : List UInt8) : (parseP l).getD (-1) = parseR l := by
  by_cases h : l.length = 10
  · exact parse_eq10 l h
  by_cases h2 : l.length = 19
  · exact parse_eq19 l h2
  rw [parseP, if_neg (fun hh => by omega), parseR, if_neg h, if_neg h2]
  rfl
theorem refParse_any (t : ByteArray) (l : List UInt8) (hl : l = t.data.toList) (hm : l.length ≤ 100) (w : World) : Calls Try.prog 18 #[.string t] w fun e w' => e = .returned (.int .i64 ((parseP l).getD (-1))) ∧ Fresh w w' := by
  rw [parse_eq]
  by_cases h : l.length = 10
  · exact parse_short t l hl h w
  by_cases h2 : l.length = 19
  · exact parse_long t l hl h2 w
  have hsz : t.size = l.length := by rw [hl]; exact (Array.length_toList (xs := t.data)).symm
  have hp : parseR l = -1 := by rw [parseR, if_neg h, if_neg h2]
  rw [hp]
  exact parse_other t l.length hsz hm h h2 w
end Go.Proofs.Ytgmpdkkpmgedjaa.dosp
