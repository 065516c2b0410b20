/-
  Layer 14's reference: First, Error; Ints, long. My own text.
-/
import Derived.Test.YtgbffkneidnmfaaAhoPut
namespace Go.Proofs.Ytgbffkneidnmfaa.ahop
open Go.RowKit Go.Maps Go.Proofs.Ytgbffkneidnmfaa.base Go.Proofs.Ytgbffkneidnmfaa.aho
set_option linter.unusedVariables false
/-! mathematics: the first end, by places -/
theorem suf_pre {x b : Bs} {m : Nat} (hm : m ≤ b.length) : x <:+ b.take m ↔ x.length ≤ m ∧ x <+: b.drop (m - x.length) := by
  constructor
  · rintro ⟨s, hs⟩
    have hl := congrArg List.length hs
    rw [List.length_append, List.length_take] at hl
    have hsl : s.length = m - x.length := by omega
    refine ⟨by omega, b.drop m, ?_⟩
    have h1 : b = s ++ (x ++ b.drop m) := by rw [← List.append_assoc, hs, List.take_append_drop]
    rw [← hsl]
    conv => rhs; rw [h1]
    rw [List.drop_left']
    rfl
  · rintro ⟨hl, r, hr⟩
    refine ⟨b.take (m - x.length), ?_⟩
    have e : b.take m = b.take (m - x.length) ++ (b.drop (m - x.length)).take x.length := by
      rw [← List.take_add]
      congr 1
      omega
    rw [e, ← hr, List.take_left' rfl]
theorem fe_found {x b : Bs} {p : Nat} (hp : x <+: b.drop p) (hl : p + x.length ≤ b.length) (hno : ∀ q, q < p → ¬ x <+: b.drop q) : fe x b = some (p + x.length) := by
  unfold fe
  rw [List.find?_range_eq_some]
  refine ⟨?_, by rw [List.mem_range]; omega, fun j hj => ?_⟩
  · rw [List.isSuffixOf_iff_suffix, suf_pre hl]
    refine ⟨by omega, ?_⟩
    rwa [Nat.add_sub_cancel]
  · rw [Bool.not_eq_true', Bool.eq_false_iff]
    intro h
    rw [List.isSuffixOf_iff_suffix, suf_pre (by omega)] at h
    exact hno (j - x.length) (by omega) h.2
theorem fe_none {x b : Bs} {p : Nat} (hl : b.length < p + x.length) (hno : ∀ q, q < p → ¬ x <+: b.drop q) : fe x b = none := by
  unfold fe
  rw [List.find?_eq_none]
  intro j hj h
  rw [List.mem_range] at hj
  rw [List.isSuffixOf_iff_suffix, suf_pre (by omega)] at h
  exact hno (j - x.length) (by omega) h.2
theorem pre_step {x b : Bs} {p j : Nat} (hj : j < x.length) (hp : p + x.length ≤ b.length) : (x.take (j + 1) <+: b.drop p) ↔ (x.take j <+: b.drop p) ∧ x[j]? = b[p + j]? := by
  have hx : x[j]? = some x[j] := List.getElem?_eq_getElem hj
  have h1 : x.take (j + 1) = x.take j ++ [x[j]] := by rw [List.take_add_one, hx]; rfl
  have hlen : (x.take j).length = j := by rw [List.length_take]; omega
  rw [h1, hx]
  constructor
  · rintro ⟨r, hr⟩
    refine ⟨⟨[x[j]] ++ r, by rw [← List.append_assoc]; exact hr⟩, ?_⟩
    rw [← List.getElem?_drop, ← hr, List.append_assoc, List.getElem?_append_right (by omega), hlen, Nat.sub_self]
    rfl
  · rintro ⟨⟨r, hr⟩, h2⟩
    rw [← List.getElem?_drop, ← hr, List.getElem?_append_right (by omega), hlen, Nat.sub_self] at h2
    cases r with
    | nil => simp at h2
    | cons y r =>
      simp only [List.getElem?_cons_zero, Option.some.injEq] at h2
      subst h2
      exact ⟨r, by rw [← hr, List.append_assoc]; rfl⟩
/-! the code -/
theorem at_any (bA xA : Option Addr) (m k bc xc B p : Nat) (b x : Bs) (w : World) (hb : Rd w B bA m (b.map bv)) (hx : Rd w B xA k (x.map bv)) (hp : p + k ≤ m) (hm : m ≤ 1099511627776) :
    Calls Try.prog 26 #[.slice bA m bc, .slice xA k xc, iv (p : Nat)] w fun e w' => (∃ r : Bool, e = .returned (.bool r) ∧ (r = true ↔ x <+: b.drop p)) ∧ ∃ q, w' = w.drewN q := by
  have hbm : b.length = m := by have := hb.1; rwa [List.length_map] at this
  have hxk : x.length = k := by have := hx.1; rwa [List.length_map] at this
  have hw1 : IntKind.i64.wrap ((p : Int) + (k : Int)) = (p : Int) + (k : Int) := IntWalk.i64_in _ (by omega)
  have hw2 : decide ((p : Int) + (k : Int) > (m : Int)) = false := by rw [decide_eq_false_iff_not]; omega
  have hw3 : ¬ ((m : Int) < (p : Int) + (k : Int)) := by omega
  have HB := Lib.hid hb
  have HX := Lib.hid hx
  have HBM := Lib.hid hbm
  have HXK := Lib.hid hxk
  clear hb hx hbm hxk
  go_enter Try.func26, Try.ntmps26
  go_wp2
  go_loopw [7] (fun v wr => ∃ j : Nat, j ≤ k ∧ v = .int .i64 j ∧ Hid (x.take j <+: b.drop p) ∧ Hid (∃ q, wr = w.drewN q)) (fun v _ => k - (intOf v).toNat)
  case atStart => exact ⟨0, Nat.zero_le _, rfl, Lib.hid (by rw [List.take_zero]; exact List.nil_prefix), Lib.hid ⟨0, rfl⟩⟩
  case round =>
    obtain ⟨j, hj, rfl, hpre, hw⟩ := hrel
    obtain ⟨q, rfl⟩ := hw.out
    by_cases hlt : j < k
    · obtain ⟨y, hy⟩ : ∃ y, x[j]? = some y := ⟨_, List.getElem?_eq_getElem (by rw [HXK.out]; exact hlt)⟩
      obtain ⟨z, hz⟩ : ∃ z, b[p + j]? = some z := ⟨_, List.getElem?_eq_getElem (by rw [HBM.out]; omega)⟩
      obtain ⟨wb, wo, hbA, hwb, hwc⟩ := HB.out.2 (by omega)
      obtain ⟨vb, vo, hxA, hvb, hvc⟩ := HX.out.2 (by omega)
      subst hbA
      subst hxA
      have hcz : w.cell? ⟨wb, wo + (p + j), none⟩ = some (bv z) := hwc (p + j) (bv z) (by rw [List.getElem?_map, hz]; rfl)
      have hcy : w.cell? ⟨vb, vo + j, none⟩ = some (bv y) := hvc j (bv y) (by rw [List.getElem?_map, hy]; rfl)
      have hst := pre_step (b := b) (p := p) (by rw [HXK.out]; exact hlt : j < x.length) (by rw [HXK.out, HBM.out]; exact hp)
      rw [hy, hz] at hst
      have hpj : p + j < m := by omega
      obtain ⟨ix, hix⟩ : ∃ ix, p + j = ix := ⟨_, rfl⟩
      have hix2 : (p : Int) + (j : Int) = (ix : Int) := by omega
      have hw4 : IntKind.i64.wrap (ix : Int) = (ix : Int) := IntWalk.i64_in _ (by omega)
      rw [hix] at hcz hpj
      have hyz := y.toNat_lt
      have hzz := z.toNat_lt
      have HST := Lib.hid hst
      have HIX := Lib.hid hix
      clear hwc hvc hy hz hst hix
      by_cases hne : y = z
      · have t1 : ((z.toNat : Int) != (y.toNat : Int)) = false := by rw [hne]; simp
        have HPRE2 := Lib.hid (HST.out.2 ⟨hpre.out, by rw [hne]⟩)
        clear hne hpre
        go_wp2
        go_region
        go_wp2
        go_roundw
        case rel => exact ⟨j + 1, by omega, by go_num, HPRE2, Lib.hid ⟨q + 1, rfl⟩⟩
        case measure => simp [intOf]; omega
      · have t1 : ((z.toNat : Int) != (y.toNat : Int)) = true := by
          rw [bne_iff_ne]
          intro e
          exact hne (UInt8.toNat_inj.1 (by omega))
        have HNO : Hid (¬ x <+: b.drop p) := Lib.hid fun h => by
          have h2 : x.take (j + 1) <+: b.drop p := (List.take_prefix _ _).trans h
          have h3 := (HST.out.1 h2).2
          injection h3 with h3
          exact hne h3
        clear hne hpre
        go_wp2
        go_region
        go_wp2
        go_ret
        exact ⟨⟨false, rfl, by simp only [Bool.false_eq_true, false_iff]; exact HNO.out⟩, q + 1, rfl⟩
    · have hjk : j = k := by omega
      subst hjk
      have hpre2 := hpre.out
      rw [List.take_of_length_le (by rw [HXK.out]; exact Nat.le_refl _)] at hpre2
      have HPRE2 := Lib.hid hpre2
      clear hpre hpre2
      go_wp2
      go_ret
      exact ⟨⟨true, rfl, by simp only [true_iff]; exact HPRE2.out⟩, q, rfl⟩
theorem refFirst_any (bA xA : Option Addr) (m k bc xc B : Nat) (b x : Bs) (w : World) (hb : Rd w B bA m (b.map bv)) (hx : Rd w B xA k (x.map bv)) (hm : m ≤ 1099511627776) (hk : k ≤ 1099511627776) :
    Calls Try.prog 14 #[.slice bA m bc, .slice xA k xc] w fun e w' => e = .returned (iv (fv x b)) ∧ ∃ q, w' = w.drewN q := by
  have hbm : b.length = m := by have := hb.1; rwa [List.length_map] at this
  have hxk : x.length = k := by have := hx.1; rwa [List.length_map] at this
  have HB := Lib.hid hb
  have HX := Lib.hid hx
  have HBM := Lib.hid hbm
  have HXK := Lib.hid hxk
  clear hb hx hbm hxk
  go_enter Try.func14, Try.ntmps14
  go_wp2
  go_loopw [5] (fun v wr => ∃ p : Nat, p ≤ m + 1 ∧ v = .int .i64 p ∧ Hid (∀ q, q < p → ¬ x <+: b.drop q) ∧ Hid (∃ q, wr = w.drewN q)) (fun v _ => m + 1 - (intOf v).toNat)
  case atStart => exact ⟨0, by omega, rfl, Lib.hid (fun q hq => by omega), Lib.hid ⟨0, rfl⟩⟩
  case round =>
    obtain ⟨p, hp, rfl, hno, hw⟩ := hrel
    obtain ⟨q, rfl⟩ := hw.out
    have hw1 : IntKind.i64.wrap ((p : Int) + (k : Int)) = (p : Int) + (k : Int) := IntWalk.i64_in _ (by omega)
    by_cases hlt : p + k ≤ m
    · have hat := at_any bA xA m k bc xc B p b x (w.drewN q) HB.out HX.out hlt hm
      have hi1 : (p : Int) + (k : Int) ≤ (m : Int) := by omega
      have HAT := Lib.hid hat
      clear hat
      by_cases hpre : x <+: b.drop p
      · have hfe : fv x b = ((p + k : Nat) : Int) := by
          unfold fv
          rw [fe_found hpre (by rw [HXK.out, HBM.out]; exact hlt) hno.out, HXK.out]
        have HFE := Lib.hid hfe
        have HPRE := Lib.hid hpre
        clear hfe hpre hno
        go_wp2_with (go_at_call 26; (refine HAT.out.mono ?_); rintro e w1 ⟨⟨r, rfl, hr⟩, q2, rfl⟩; obtain rfl : r = true := hr.2 HPRE.out; clear hr)
        go_ret
        exact ⟨by rw [HFE.out]; rfl, q + q2, rfl⟩
      · have HPRE := Lib.hid hpre
        clear hpre
        go_wp2_with (go_at_call 26; (refine HAT.out.mono ?_); rintro e w1 ⟨⟨r, rfl, hr⟩, q2, rfl⟩; obtain rfl : r = false := (by cases r with | false => rfl | true => exact absurd (hr.1 rfl) HPRE.out); clear hr)
        go_roundw
        case rel =>
          refine ⟨p + 1, by omega, by go_num, Lib.hid fun q3 hq3 => ?_, Lib.hid ⟨q + q2, rfl⟩⟩
          by_cases e : q3 = p
          · subst e; exact HPRE.out
          · exact hno.out q3 (by omega)
        case measure => simp [intOf]; omega
    · have hfe : fv x b = -1 := by
        unfold fv
        rw [fe_none (p := p) (by rw [HXK.out, HBM.out]; omega) hno.out]
      have hi1 : ¬ ((p : Int) + (k : Int) ≤ (m : Int)) := by omega
      have HFE := Lib.hid hfe
      clear hfe hno
      go_wp2
      go_ret
      exact ⟨by rw [HFE.out]; rfl, q, rfl⟩
/-- the reference's error -/
theorem refError_any (rows : List Row) (WA : Option Addr) (nw wc B : Nat) (w : World) (hr : RdRows w B WA nw rows) (hn : nw ≤ 100000) :
    Calls Try.prog 11 #[.slice WA nw wc] w fun e w' => e = .returned (iv (errA (lens rows) : Nat)) ∧ w' = w := by
  have hrn : rows.length = nw := by have := hr.1.1; rwa [List.length_map] at this
  have hll : (lens rows).length = nw := by unfold lens; rw [List.length_map]; exact hrn
  have HR := Lib.hid hr
  have HLL := Lib.hid hll
  have HRN := Lib.hid hrn
  clear hr hll hrn
  by_cases h0 : nw = 0
  · have he : errA (lens rows) = 17 := by unfold errA; rw [if_pos (.inl (by rw [HLL.out]; exact h0))]
    subst h0
    rw [he]
    clear he HR HLL HRN
    go_enter Try.func11, Try.ntmps11
    go_wp2
    go_ret
    exact ⟨rfl, rfl⟩
  have z0 : ((nw : Int) == 0) = false := by rw [beq_eq_false_iff_ne]; omega
  by_cases h8 : 8 < nw
  · have he : errA (lens rows) = 17 := by unfold errA; rw [if_pos (.inr (by rw [HLL.out]; exact h8))]
    have z8 : decide ((nw : Int) > 8) = true := by rw [decide_eq_true_iff]; omega
    rw [he]
    clear he HR HLL HRN
    go_enter Try.func11, Try.ntmps11
    go_wp2
    go_ret
    exact ⟨rfl, rfl⟩
  have z8 : decide ((nw : Int) > 8) = false := by rw [decide_eq_false_iff_not]; omega
  have hcase : errA (lens rows) = if (lens rows).any (fun n => decide (64 < n)) then 10 else if (lens rows).any (fun n => n == 0) then 1 else 0 := by unfold errA; rw [if_neg (by rw [HLL.out]; omega)]
  obtain ⟨R, hR⟩ : ∃ R, errA (lens rows) = R := ⟨_, rfl⟩
  rw [hR] at hcase ⊢
  have HC := Lib.hid hcase
  clear hcase hR h0 h8
  go_enter Try.func11, Try.ntmps11
  go_wp2
  go_loopw [3, 4] (fun v u wr => ∃ (k e : Nat), v = .int .i64 (e : Nat) ∧ u = .int .i64 (k : Nat) ∧ k ≤ nw ∧ Hid (((lens rows).take k).any (fun n => decide (64 < n)) = false) ∧ Hid (e = if ((lens rows).take k).any (fun n => n == 0) then 1 else 0) ∧ wr = w) (fun _ u _ => nw - (intOf u).toNat)
  case atStart => exact ⟨0, 0, rfl, rfl, Nat.zero_le _, rfl, rfl, rfl⟩
  case round =>
    obtain ⟨k, e, rfl, rfl, hk, hno, he, rfl⟩ := hrel
    by_cases hlt : k < nw
    · obtain ⟨x, hx⟩ : ∃ x, rows[k]? = some x := ⟨_, List.getElem?_eq_getElem (by rw [HRN.out]; exact hlt)⟩
      obtain ⟨wb, wo, hWA, hwb, hwc⟩ := HR.out.1.2 (by omega)
      subst hWA
      have hcx := hwc k x.val (by rw [List.getElem?_map, hx]; rfl)
      rw [Row.val] at hcx
      obtain ⟨L, hL⟩ : ∃ L, x.len = L := ⟨_, rfl⟩
      have hlx : (lens rows)[k]? = some L := by unfold lens; rw [List.getElem?_map, hx, ← hL]; rfl
      have htk : (lens rows).take (k + 1) = (lens rows).take k ++ [L] := by rw [List.take_add_one, hlx]; rfl
      rw [hL] at hcx
      have h10 : ((lens rows).take (k + 1)).any (fun n => decide (64 < n)) = decide (64 < L) := by rw [htk, List.any_append, hno.out]; simp
      have h11 : ((lens rows).take (k + 1)).any (fun n => n == 0) = (((lens rows).take k).any (fun n => n == 0) || L == 0) := by rw [htk, List.any_append]; simp
      have hm : ((lens rows).take (k + 1)).any (fun n => decide (64 < n)) = true → (lens rows).any (fun n => decide (64 < n)) = true := fun h => by
        rw [List.any_eq_true] at h ⊢
        obtain ⟨y, hy, hy2⟩ := h
        exact ⟨y, List.mem_of_mem_take hy, hy2⟩
      have H10 := Lib.hid h10
      have H11 := Lib.hid h11
      have HM := Lib.hid hm
      clear hwc hx hlx htk h10 h11 hm hL
      by_cases h64 : 64 < L
      · have t1 : decide ((L : Int) > 64) = true := by rw [decide_eq_true_iff]; omega
        have hR : R = 10 := by rw [HC.out, if_pos (HM.out (by rw [H10.out, decide_eq_true_iff]; exact h64))]
        subst hR
        clear h64
        go_wp2
        go_ret
        exact ⟨rfl, rfl⟩
      · have t1 : decide ((L : Int) > 64) = false := by rw [decide_eq_false_iff_not]; omega
        have hno2 : ((lens rows).take (k + 1)).any (fun n => decide (64 < n)) = false := by rw [H10.out, decide_eq_false_iff_not]; exact h64
        have HNO2 := Lib.hid hno2
        clear hno2 h64 hno
        by_cases hl0 : L = 0
        · have t2 : ((L : Int) == 0) = true := by rw [hl0]; rfl
          have HE2 : Hid (1 = if ((lens rows).take (k + 1)).any (fun n => n == 0) then 1 else 0) := Lib.hid (by rw [H11.out, hl0]; simp)
          clear hl0 he
          go_wp2
          go_roundw
          case rel => exact ⟨k + 1, 1, rfl, by go_num, by omega, HNO2, HE2, trivial⟩
          case measure => simp [intOf]; omega
        · have t2 : ((L : Int) == 0) = false := by rw [beq_eq_false_iff_ne]; omega
          have HE2 : Hid (e = if ((lens rows).take (k + 1)).any (fun n => n == 0) then 1 else 0) := Lib.hid (by
            rw [H11.out, he.out]
            have : (L == 0) = false := by rw [beq_eq_false_iff_ne]; exact hl0
            rw [this, Bool.or_false])
          clear hl0 he
          go_wp2
          go_roundw
          case rel => exact ⟨k + 1, e, rfl, by go_num, by omega, HNO2, HE2, trivial⟩
          case measure => simp [intOf]; omega
    · have hkn : k = nw := by omega
      subst hkn
      have htk : (lens rows).take k = lens rows := List.take_of_length_le (by rw [HLL.out]; exact Nat.le_refl _)
      have hR : R = e := by
        have h1 := hno.out
        have h2 := he.out
        rw [htk] at h1 h2
        rw [HC.out, h1, h2]
        rfl
      subst hR
      clear hno he htk
      go_wp2
      go_ret
      exact ⟨rfl, rfl⟩
theorem ints_any (aA bA : Option Addr) (n m ac bc B C : Nat) (xs ys : List Int) (w : World) (ha : Rd w B aA n (xs.map iv)) (hb : Rd w C bA m (ys.map iv)) (hn : n ≤ 100000) (hm : m ≤ 100000) :
    Calls Try.prog 15 #[.slice aA n ac, .slice bA m bc] w fun e w' => (∃ r : Bool, e = .returned (.bool r) ∧ (r = true ↔ xs = ys)) ∧ ∃ q, w' = w.drewN q := by
  have hxl : xs.length = n := by have := ha.1; rwa [List.length_map] at this
  have hyl : ys.length = m := by have := hb.1; rwa [List.length_map] at this
  have HA := Lib.hid ha
  have HB := Lib.hid hb
  have HXL := Lib.hid hxl
  have HYL := Lib.hid hyl
  clear ha hb hxl hyl
  by_cases hnm : n = m
  · subst hnm
    go_enter Try.func15, Try.ntmps15
    go_wp2
    go_loopw [5] (fun v wr => ∃ j : Nat, j ≤ n ∧ v = .int .i64 j ∧ Hid (xs.take j = ys.take j) ∧ Hid (∃ q, wr = w.drewN q)) (fun v _ => n - (intOf v).toNat)
    case atStart => exact ⟨0, Nat.zero_le _, rfl, Lib.hid (by rw [List.take_zero, List.take_zero]), Lib.hid ⟨0, rfl⟩⟩
    case round =>
      obtain ⟨j, hj, rfl, hpre, hw⟩ := hrel
      obtain ⟨q, rfl⟩ := hw.out
      by_cases hlt : j < n
      · obtain ⟨x, hx⟩ : ∃ x, xs[j]? = some x := ⟨_, List.getElem?_eq_getElem (by rw [HXL.out]; exact hlt)⟩
        obtain ⟨y, hy⟩ : ∃ y, ys[j]? = some y := ⟨_, List.getElem?_eq_getElem (by rw [HYL.out]; exact hlt)⟩
        obtain ⟨wb, wo, haA, hwb, hwc⟩ := HA.out.2 (by omega)
        obtain ⟨vb, vo, hbA, hvb, hvc⟩ := HB.out.2 (by omega)
        subst haA
        subst hbA
        have hcx : w.cell? ⟨wb, wo + j, none⟩ = some (iv x) := hwc j (iv x) (by rw [List.getElem?_map, hx]; rfl)
        have hcy : w.cell? ⟨vb, vo + j, none⟩ = some (iv y) := hvc j (iv y) (by rw [List.getElem?_map, hy]; rfl)
        have HX := Lib.hid hx
        have HY := Lib.hid hy
        clear hwc hvc hx hy
        by_cases hne : x = y
        · have t1 : (x != y) = false := by rw [hne]; simp
          have HPRE2 : Hid (xs.take (j + 1) = ys.take (j + 1)) := Lib.hid (by rw [List.take_add_one, List.take_add_one, HX.out, HY.out, hpre.out, hne])
          clear hne hpre
          go_wp2
          go_region
          go_wp2
          go_roundw
          case rel => exact ⟨j + 1, by omega, by go_num, HPRE2, Lib.hid ⟨q + 1, rfl⟩⟩
          case measure => simp [intOf]; omega
        · have t1 : (x != y) = true := by rw [bne_iff_ne]; exact hne
          have HNO : Hid (¬ xs = ys) := Lib.hid fun h => by
            have h1 := HX.out
            rw [h, HY.out] at h1
            injection h1 with h1
            exact hne h1.symm
          clear hne hpre
          go_wp2
          go_region
          go_wp2
          go_ret
          exact ⟨⟨false, rfl, by simp only [Bool.false_eq_true, false_iff]; exact HNO.out⟩, q + 1, rfl⟩
      · have hjn : j = n := by omega
        subst hjn
        have hpre2 := hpre.out
        rw [List.take_of_length_le (by rw [HXL.out]; exact Nat.le_refl _), List.take_of_length_le (by rw [HYL.out]; exact Nat.le_refl _)] at hpre2
        have HPRE2 := Lib.hid hpre2
        clear hpre hpre2
        go_wp2
        go_ret
        exact ⟨⟨true, rfl, by simp only [true_iff]; exact HPRE2.out⟩, q, rfl⟩
  · have HNO : Hid (¬ xs = ys) := Lib.hid fun h => hnm (by rw [← HXL.out, ← HYL.out, h])
    have t1 : ((n : Int) != (m : Int)) = true := by rw [bne_iff_ne]; omega
    go_enter Try.func15, Try.ntmps15
    go_wp2
    go_ret
    exact ⟨⟨false, rfl, by simp only [Bool.false_eq_true, false_iff]; exact HNO.out⟩, 0, rfl⟩
/-- too much for a statement -/
def longB (rows : List Row) (most : Nat) : Bool := rows.any (fun r => decide (most < r.len)) || decide (40 < rows.length)
theorem long_any (rows : List Row) (WA : Option Addr) (nw wc B most : Nat) (w : World) (hr : RdRows w B WA nw rows) (hn : nw ≤ maxLen) (hmost : most ≤ 100000) :
    Calls Try.prog 9 #[.slice WA nw wc, iv (most : Nat)] w fun e w' => e = .returned (.bool (longB rows most)) ∧ w' = w := by
  have hrn : rows.length = nw := by have := hr.1.1; rwa [List.length_map] at this
  unfold maxLen at hn
  obtain ⟨R, hR⟩ : ∃ R, longB rows most = R := ⟨_, rfl⟩
  have hc : R = (rows.any (fun r => decide (most < r.len)) || decide (40 < nw)) := by rw [← hR]; unfold longB; rw [hrn]
  rw [hR]
  have HR := Lib.hid hr
  have HRN := Lib.hid hrn
  have HC := Lib.hid hc
  clear hr hrn hR hc
  go_enter Try.func9, Try.ntmps9
  go_wp2
  go_loopw [8] (fun v wr => ∃ k : Nat, k ≤ nw ∧ v = .int .i64 k ∧ Hid ((rows.take k).any (fun r => decide (most < r.len)) = false) ∧ wr = w) (fun v _ => nw - (intOf v).toNat)
  case atStart => exact ⟨0, Nat.zero_le _, rfl, rfl, rfl⟩
  case round =>
    obtain ⟨k, hk, rfl, hno, rfl⟩ := hrel
    by_cases hlt : k < nw
    · obtain ⟨x, hx⟩ : ∃ x, rows[k]? = some x := ⟨_, List.getElem?_eq_getElem (by rw [HRN.out]; exact hlt)⟩
      obtain ⟨wb, wo, hWA, hwb, hwc⟩ := HR.out.1.2 (by omega)
      subst hWA
      have hcx := hwc k x.val (by rw [List.getElem?_map, hx]; rfl)
      rw [Row.val] at hcx
      obtain ⟨L, hL⟩ : ∃ L, x.len = L := ⟨_, rfl⟩
      have htk : rows.take (k + 1) = rows.take k ++ [x] := by rw [List.take_add_one, hx]; rfl
      have hin : (rows.take (k + 1)).any (fun r => decide (most < r.len)) = decide (most < L) := by rw [htk, List.any_append, hno.out, ← hL]; simp
      have hm : (rows.take (k + 1)).any (fun r => decide (most < r.len)) = true → rows.any (fun r => decide (most < r.len)) = true := fun h => by
        rw [List.any_eq_true] at h ⊢
        obtain ⟨y, hy, hy2⟩ := h
        exact ⟨y, List.mem_of_mem_take hy, hy2⟩
      rw [hL] at hcx
      have HIN := Lib.hid hin
      have HM := Lib.hid hm
      clear hwc hx htk hin hm hL hno
      by_cases hgt : most < L
      · have t1 : decide ((L : Int) > (most : Int)) = true := by rw [decide_eq_true_iff]; omega
        have hR : R = true := by rw [HC.out, HM.out (by rw [HIN.out, decide_eq_true_iff]; exact hgt), Bool.true_or]
        subst hR
        go_wp2
        go_ret
        exact ⟨rfl, rfl⟩
      · have t1 : decide ((L : Int) > (most : Int)) = false := by rw [decide_eq_false_iff_not]; omega
        have HNO2 : Hid ((rows.take (k + 1)).any (fun r => decide (most < r.len)) = false) := Lib.hid (by rw [HIN.out, decide_eq_false_iff_not]; exact hgt)
        go_wp2
        go_roundw
        case rel => exact ⟨k + 1, by omega, by go_num, HNO2, trivial⟩
        case measure => simp [intOf]; omega
    · have hkn : k = nw := by omega
      subst hkn
      have h1 := hno.out
      rw [List.take_of_length_le (by rw [HRN.out]; exact Nat.le_refl _)] at h1
      have hR : R = decide ((k : Int) > 40) := by
        rw [HC.out, h1, Bool.false_or]
        by_cases h : 40 < k
        · rw [decide_eq_true h, decide_eq_true (by omega)]
        · rw [decide_eq_false h, decide_eq_false (by omega)]
      subst hR
      clear h1 hno
      go_wp2
      go_ret
      exact ⟨rfl, rfl⟩
end Go.Proofs.Ytgbffkneidnmfaa.ahop
