/-
  The reference of layer 8: number. My own text.
-/
import Derived.Test.YtgmpdkkpmgedjaaDosRef3
namespace Go.Proofs.Ytgmpdkkpmgedjaa.dosp
open Go.RowKit Go.Proofs.Ytgmpdkkpmgedjaa.base Go.Proofs.Ytgmpdkkpmgedjaa.num Go.Proofs.Ytgmpdkkpmgedjaa.bitnum Go.Proofs.Ytgmpdkkpmgedjaa.dosnum
set_option linter.unusedVariables false

/-- digits as a number, or -1 -/
def valS (l : List UInt8) : Int := if l.all digit = true then acc l else -1
def grp (l : List UInt8) (s n : Nat) : List UInt8 := (l.drop s).take n
set_option maxHeartbeats 4000000 in
theorem number_is (t : ByteArray) (l : List UInt8) (hl : l = t.data.toList) (a n : Nat) (h : a + n ≤ l.length) (h4 : n ≤ 4) (hm : l.length ≤ 100) (w : World) :
    Calls Try.prog 25 #[.string t, .int .i64 a, .int .i64 n] w fun e w' => e = .returned (.int .i64 (valS (grp l a n))) ∧ w = w' := by
  have hsz : t.size = l.length := by rw [hl]; exact (Array.length_toList (xs := t.data)).symm
  obtain ⟨N, hN⟩ : ∃ N, l.length = N := ⟨_, rfl⟩
  rw [hN] at hsz
  have HL := Lib.hid hl
  have HN := Lib.hid hN
  rw [hN] at h hm
  clear hl hN
  go_enter Try.func25, Try.ntmps25
  go_wp2
  go_loopw [7, 8] (fun v i wr => ∃ (k : Nat) (V : Int), k ≤ n ∧ i = .int .i64 ((a : Int) + (k : Int)) ∧ v = .int .i64 V ∧ 0 ≤ V ∧ V ≤ 9999 ∧ Hid (V = acc (grp l a k) ∧ ∀ c ∈ grp l a k, digit c = true) ∧ w = wr) (fun _ i _ => ((a : Int) + n - intOf i).toNat)
  case atStart => exact ⟨0, 0, by omega, by simp, rfl, by omega, by omega, ⟨by simp [grp, acc], by simp [grp]⟩, rfl⟩
  case round =>
    obtain ⟨k, V, hk, rfl, rfl, hV0, hV1, hfit, rfl⟩ := hrel
    by_cases hlt : k < n
    · obtain ⟨p, hp⟩ : ∃ p, a + k = p := ⟨_, rfl⟩
      have ep : (a : Int) + (k : Int) = (p : Int) := by omega
      rw [ep]
      obtain ⟨x, hx⟩ : ∃ x, l[p]? = some x := ⟨l[p]'(by have := HN.out; omega), List.getElem?_eq_getElem (by have := HN.out; omega)⟩
      have ht : ∀ h, t[p]'h = x := by
        intro h
        have h1 : t.data.toList[p]? = some x := by rw [← HL.out]; exact hx
        have h2 : t.data[p]? = some x := by simpa using h1
        obtain ⟨_, h3⟩ := Array.getElem?_eq_some_iff.1 h2
        exact h3
      have hgk : (grp l a n)[k]? = some x := by
        unfold grp
        rw [List.getElem?_take, if_pos hlt, List.getElem?_drop, hp]
        exact hx
      have hsn : grp l a (k + 1) = grp l a k ++ [x] := by
        unfold grp
        exact take_snoc _ k x (by rw [List.getElem?_drop, hp]; exact hx)
      have p0 : (0 : Int) ≤ (p : Int) := by omega
      have p1 : (p : Int) < (N : Int) := by omega
      have p2 : (p : Int) < (a : Int) + (n : Int) := by omega
      by_cases hd : 48 ≤ x.toNat ∧ x.toNat ≤ 57
      · obtain ⟨d1, d2⟩ := hd
        obtain ⟨X, hX⟩ : ∃ X, x.toNat = X := ⟨_, rfl⟩
        have hx1 : (48 : Int) ≤ X := by omega
        have hx2 : (X : Int) ≤ 57 := by omega
        have t3 : decide ((X : Int) < 48) = false := by rw [decide_eq_false_iff_not]; omega
        have t4 : decide (57 < (X : Int)) = false := by rw [decide_eq_false_iff_not]; omega
        have hdg : digit x = true := by
          simp only [digit, UInt8.le_iff_toNat_le, Bool.and_eq_true, decide_eq_true_eq]
          have : (48 : UInt8).toNat = 48 := rfl
          have : (57 : UInt8).toNat = 57 := rfl
          omega
        have hall : ∀ c ∈ grp l a (k + 1), digit c = true := by
          intro c hc
          rw [hsn, List.mem_append, List.mem_singleton] at hc
          rcases hc with hc | rfl
          · exact hfit.out.2 c hc
          · exact hdg
        have hb := acc_bd _ hall
        have hacc : acc (grp l a (k + 1)) = V * 10 + ((X : Int) - 48) := by rw [hsn, acc_snoc, ← hfit.out.1, hX]
        have hpw : (10 : Int) ^ (grp l a (k + 1)).length ≤ 10 ^ 4 := by
          have hle : (grp l a (k + 1)).length ≤ 4 := by unfold grp; rw [List.length_take]; omega
          have := Nat.pow_le_pow_right (n := 10) (by omega) hle
          exact_mod_cast this
        have h10 : (10 : Int) ^ 4 = 10000 := by decide
        have hb1 : V * 10 + ((X : Int) - 48) ≤ 9999 := by omega
        have HALL := Lib.hid hall
        have HACC := Lib.hid hacc
        have HB1 := Lib.hid hb1
        clear hgk hsn d1 d2 hdg hall hb hacc hpw h10 hb1 hx
        go_wp2
        refine ⟨⟨k + 1, V * 10 + ((X : Int) - 48), by omega, by go_num, by go_num, by omega, HB1.out, ⟨HACC.out.symm, HALL.out⟩, trivial⟩, by simp [intOf]; omega⟩
      · have t3 : x.toNat < 48 ∨ 57 < x.toNat := by omega
        have hdg : digit x = false := by
          simp only [digit, UInt8.le_iff_toNat_le]
          have : (48 : UInt8).toNat = 48 := rfl
          have : (57 : UInt8).toNat = 57 := rfl
          simp
          omega
        have hval : valS (grp l a n) = -1 := by
          unfold valS
          rw [if_neg]
          intro hh
          have := List.all_eq_true.1 hh x (List.mem_of_getElem? hgk)
          rw [hdg] at this
          cases this
        have HVAL := Lib.hid hval
        clear hgk hsn hd hdg hval hx
        by_cases t5 : x.toNat < 48
        · have t6 : decide ((x.toNat : Int) < 48) = true := by rw [decide_eq_true_iff]; omega
          clear t3 t5
          go_wp2
          go_ret
          exact ⟨by rw [HVAL.out]; rfl, rfl⟩
        · have t6 : decide ((x.toNat : Int) < 48) = false := by rw [decide_eq_false_iff_not]; omega
          have t7 : decide (57 < (x.toNat : Int)) = true := by rw [decide_eq_true_iff]; omega
          clear t3 t5
          go_wp2
          go_ret
          exact ⟨by rw [HVAL.out]; rfl, rfl⟩
    · obtain rfl : k = n := by omega
      have hval : valS (grp l a k) = V := by
        unfold valS
        rw [if_pos (List.all_eq_true.2 hfit.out.2)]
        exact hfit.out.1.symm
      have HVAL := Lib.hid hval
      clear hval
      go_wp2
      go_ret
      exact ⟨by rw [HVAL.out]; rfl, rfl⟩
/-- the number that a text is by the reference, or -1 -/
def parseR (l : List UInt8) : Int :=
  if l.length = 10 then (if l.getD 4 0 = 45 ∧ l.getD 7 0 = 45 then numI ⟨valS (grp l 0 4), valS (grp l 5 2), valS (grp l 8 2), 0, 0, 0⟩ else -1)
  else if l.length = 19 then (if l.getD 4 0 = 45 ∧ l.getD 7 0 = 45 ∧ l.getD 10 0 = 32 ∧ l.getD 13 0 = 58 ∧ l.getD 16 0 = 58 then numI ⟨valS (grp l 0 4), valS (grp l 5 2), valS (grp l 8 2), valS (grp l 11 2), valS (grp l 14 2), valS (grp l 17 2)⟩ else -1)
  else -1
theorem byte_ne {x c : UInt8} (n : Nat) (hn : c.toNat = n) (h : x ≠ c) : ((x.toNat : Int) != (n : Int)) = true := by
  rw [bne_iff_ne]
  intro e
  exact h (UInt8.toNat_inj.1 (by omega))
set_option maxHeartbeats 8000000 in
theorem parse_other (t : ByteArray) (n : Nat) (hn : t.size = n) (hm : n ≤ 100) (h1 : n ≠ 10) (h2 : n ≠ 19) (w : World) : Calls Try.prog 18 #[.string t] w fun e w' => e = .returned (.int .i64 (-1)) ∧ Fresh w w' := by
  have n10 : ((n : Int) != 10) = true := by rw [bne_iff_ne]; omega
  have n19 : ((n : Int) != 19) = true := by rw [bne_iff_ne]; omega
  clear h1 h2
  go_enter Try.func18, Try.ntmps18
  go_wp2
  all_goals go_ret
  all_goals exact ⟨rfl, Fresh.refl _⟩
set_option maxHeartbeats 8000000 in
theorem parse_short (t : ByteArray) (l : List UInt8) (hl : l = t.data.toList) (hn : l.length = 10) (w : World) : Calls Try.prog 18 #[.string t] w fun e w' => e = .returned (.int .i64 (parseR l)) ∧ Fresh w w' := by
  have hsz : t.size = 10 := by rw [← hn, hl]; exact (Array.length_toList (xs := t.data)).symm
  have hpr : parseR l = (if l.getD 4 0 = 45 ∧ l.getD 7 0 = 45 then numI ⟨valS (grp l 0 4), valS (grp l 5 2), valS (grp l 8 2), 0, 0, 0⟩ else -1) := by rw [parseR, if_pos hn]
  have get : ∀ k (hk : k < 10) (h : k < t.size), t[k]'h = l.getD k 0 := by
    intro k hk h
    have h1 : t.data.toList[k]? = some (l.getD k 0) := by rw [← hl, List.getD_eq_getElem?_getD, List.getElem?_eq_getElem (by omega)]; rfl
    have h2 : t.data[k]? = some (l.getD k 0) := by simpa using h1
    obtain ⟨_, h3⟩ := Array.getElem?_eq_some_iff.1 h2
    exact h3
  have g4 := get 4 (by omega)
  have g7 := get 7 (by omega)
  have hnum := fun a n hh h4 W => number_is t l hl a n hh h4 (by omega) W
  have NUM := Lib.hid hnum
  have HN := Lib.hid hn
  obtain ⟨x4, hx4⟩ : ∃ x, l.getD 4 0 = x := ⟨_, rfl⟩
  obtain ⟨x7, hx7⟩ : ∃ x, l.getD 7 0 = x := ⟨_, rfl⟩
  rw [hx4] at g4 hpr
  rw [hx7] at g7 hpr
  clear get hnum hn hl hx4 hx7
  by_cases h4 : x4 = 45
  · by_cases h7 : x7 = 45
    · subst h4; subst h7
      rw [if_pos ⟨rfl, rfl⟩] at hpr
      obtain ⟨v0, e0⟩ : ∃ v, valS (grp l 0 4) = v := ⟨_, rfl⟩
      obtain ⟨v1, e1⟩ : ∃ v, valS (grp l 5 2) = v := ⟨_, rfl⟩
      obtain ⟨v2, e2⟩ : ∃ v, valS (grp l 8 2) = v := ⟨_, rfl⟩
      have n0 : ∀ W, Calls Try.prog 25 #[.string t, .int .i64 0, .int .i64 4] W fun e w' => e = .returned (.int .i64 (valS (grp l 0 4))) ∧ W = w' := NUM.out 0 4 (by have := HN.out; omega) (by omega)
      have n1 : ∀ W, Calls Try.prog 25 #[.string t, .int .i64 5, .int .i64 2] W fun e w' => e = .returned (.int .i64 (valS (grp l 5 2))) ∧ W = w' := NUM.out 5 2 (by have := HN.out; omega) (by omega)
      have n2 : ∀ W, Calls Try.prog 25 #[.string t, .int .i64 8, .int .i64 2] W fun e w' => e = .returned (.int .i64 (valS (grp l 8 2))) ∧ W = w' := NUM.out 8 2 (by have := HN.out; omega) (by omega)
      rw [e0] at n0 hpr
      rw [e1] at n1 hpr
      rw [e2] at n2 hpr
      have N0 := Lib.hid n0
      have N1 := Lib.hid n1
      have N2 := Lib.hid n2
      have HPR := Lib.hid hpr
      clear n0 n1 n2 hpr e0 e1 e2
      go_enter Try.func18, Try.ntmps18
      go_wp2_with (first
        | (go_at_call 25; (with_reducible refine (N0.out _).mono ?_); rintro e w1 ⟨rfl, rfl⟩)
        | (go_at_call 25; (with_reducible refine (N1.out _).mono ?_); rintro e w1 ⟨rfl, rfl⟩)
        | (go_at_call 25; (with_reducible refine (N2.out _).mono ?_); rintro e w1 ⟨rfl, rfl⟩)
        | (go_at_call 10; (refine (number_any _ 6 ⟨v0, v1, v2, 0, 0, 0⟩ _ _ (Rd.lit _ #[.int .i64 v0, .int .i64 v1, .int .i64 v2, .int .i64 0, .int .i64 0, .int .i64 0] 3) (by simp)).mono ?_); rintro e w5 ⟨rfl, hf5⟩))
      go_ret
      exact ⟨by rw [HPR.out]; rfl, (Fresh.alloc _ _).trans hf5⟩
    · subst h4
      rw [if_neg (fun h => h7 h.2)] at hpr
      have t7 := byte_ne 45 rfl h7
      have HPR := Lib.hid hpr
      clear hpr h7
      go_enter Try.func18, Try.ntmps18
      go_wp2
      all_goals go_ret
      all_goals exact ⟨by rw [HPR.out]; rfl, Fresh.refl _⟩
  · rw [if_neg (fun h => h4 h.1)] at hpr
    have t4 := byte_ne 45 rfl h4
    have HPR := Lib.hid hpr
    clear hpr h4
    go_enter Try.func18, Try.ntmps18
    go_wp2
    all_goals go_ret
    all_goals exact ⟨by rw [HPR.out]; rfl, Fresh.refl _⟩
end Go.Proofs.Ytgmpdkkpmgedjaa.dosp
