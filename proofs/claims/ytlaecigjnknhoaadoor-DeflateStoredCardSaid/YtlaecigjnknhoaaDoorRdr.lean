/-
  The contracts of bits.Reader: Read, Add, Has, Bits, Peek, Align, Left, Mark, Back. My own text.
-/
import Derived.Test.YtlaecigjnknhoaaDoorBuf
import Derived.Great.BuildSlice
import Derived.BigRegion
import Derived.Deep.RegionWith
namespace Go.Proofs.YtlaecigjnknhoaaDoor.bitp
open Go.RowKit Go.Proofs.YtlaecigjnknhoaaDoor.base Go.Proofs.YtlaecigjnknhoaaDoor.num Go.Proofs.YtlaecigjnknhoaaDoor.bitnum
set_option linter.unusedVariables false

theorem ret_bool {a b : Bool} (h : a = b) : Ending.returned (.bool a) = .returned (.bool b) := by rw [h]

theorem left_any (g : Nat) (bs : List UInt8) (p : Nat) (bl : List Nat) (w : World) (h : RdrAt w g bs p bl) (hp : p ≤ 8 * bs.length) (hn : bs.length ≤ 1099511627776) :
    Calls Tryd.prog 86 #[ptr g] w fun e w' => e = .returned (.int .i64 (8 * bs.length - p : Nat)) ∧ Fresh w w' := by
  obtain ⟨A, c, rfl, hne, hb, ho⟩ := h
  have h0 : w.cell? ⟨g, 0, none⟩ = some (.slice A bs.length c) := hb.cell rfl
  have h1 : w.cell? ⟨g, 1, none⟩ = some (.int .i64 p) := hb.cell rfl
  go_enter Tryd.func86, Tryd.ntmps86
  go_wp2
  go_quiet (fail)
  go_wp2
  go_ret
  exact ⟨ret_i64 (by omega), Fresh.drewN _ _⟩

theorem mark_any (g : Nat) (bs : List UInt8) (p : Nat) (bl : List Nat) (w : World) (h : RdrAt w g bs p bl) :
    Calls Tryd.prog 50 #[ptr g] w fun e w' => e = .returned (.int .i64 p) ∧ w = w' := by
  obtain ⟨A, c, rfl, hne, hb, ho⟩ := h
  have h1 : w.cell? ⟨g, 1, none⟩ = some (.int .i64 p) := hb.cell rfl
  go_enter Tryd.func50, Tryd.ntmps50
  go_wp2
  go_ret
  exact ⟨rfl, rfl⟩

theorem has_any (g : Nat) (bs : List UInt8) (p : Nat) (bl : List Nat) (n : Int) (w : World) (h : RdrAt w g bs p bl) (hp : p ≤ 8 * bs.length) (hn : bs.length ≤ 1099511627776) :
    Calls Tryd.prog 102 #[ptr g, .int .i64 n] w fun e w' => e = .returned (.bool (decide (n ≤ (8 * bs.length - p : Nat)))) ∧ Fresh w w' := by
  go_enter Tryd.func102, Tryd.ntmps102
  go_wp2_with (go_at_call 86; refine (left_any g bs p bl w h hp hn).mono ?_; rintro e w1 ⟨rfl, hf1⟩)
  go_ret
  exact ⟨rfl, hf1⟩

theorem has_is (g : Nat) (bs : List UInt8) (p : Nat) (bl : List Nat) (n : Int) (b : Bool) (w : World) (h : RdrAt w g bs p bl) (hp : p ≤ 8 * bs.length) (hn : bs.length ≤ 1099511627776) (hb : decide (n ≤ (8 * bs.length - p : Nat)) = b) :
    Calls Tryd.prog 102 #[ptr g, .int .i64 n] w fun e w' => e = .returned (.bool b) ∧ Fresh w w' := by
  subst hb
  exact has_any g bs p bl n w h hp hn

theorem peek_no (g : Nat) (bs : List UInt8) (p : Nat) (bl : List Nat) (n : Int) (w : World) (h : RdrAt w g bs p bl) (hp : p ≤ 8 * bs.length) (hn : bs.length ≤ 1099511627776) (hno : 8 * bs.length < p + held n) :
    Calls Tryd.prog 80 #[ptr g, .int .i64 n] w fun e w' => e = .returned (.tuple #[.int .i64 0, .bool false]) ∧ Fresh w w' := by
  have hh : ∀ w, Calls Tryd.prog 74 #[.int .i64 n] w fun e w' => e = .returned (.int .i64 (held n)) ∧ w = w' := fun w => held_any n w
  have hle := held_le n
  generalize held n = k at *
  have HH := Lib.hid hh
  clear hh
  go_enter Tryd.func80, Tryd.ntmps80
  go_wp2_with (first
    | (go_at_call 74; refine (HH.out w).mono ?_; rintro e w1 ⟨rfl, rfl⟩)
    | (go_at_call 102; refine (has_is g bs p bl (k : Int) false w h hp hn (decide_eq_false (by omega))).mono ?_; rintro e w1 ⟨rfl, hf1⟩))
  go_ret2
  exact ⟨rfl, hf1⟩

theorem lowest_is (n : Nat) (v : Int) (R : Nat) (w : World) (hn : n ≤ 24) (h : u64 v % 2 ^ n = R) : Calls Tryd.prog 76 #[.int .i64 n, .int .i64 v] w fun e w' => e = .returned (.int .i64 R) ∧ w = w' := by
  subst h
  exact lowest_any n v w hn
theorem u64_nat (a : Nat) (h : a < 9223372036854775808) : u64 (a : Int) = a := by unfold u64; omega

set_option maxRecDepth 100000 in
theorem peek_ok (g : Nat) (bs : List UInt8) (p : Nat) (bl : List Nat) (n : Int) (w : World) (h : RdrAt w g bs p bl) (hn : bs.length ≤ 1099511627776) (hfit : p + held n ≤ 8 * bs.length) :
    Calls Tryd.prog 80 #[ptr g, .int .i64 n] w fun e w' => e = .returned (.tuple #[.int .i64 (num bs / 2 ^ p % 2 ^ held n : Nat), .bool true]) ∧ Fresh w w' := by
  have hh : ∀ w, Calls Tryd.prog 74 #[.int .i64 n] w fun e w' => e = .returned (.int .i64 (held n)) ∧ w = w' := fun w => held_any n w
  have hle := held_le n
  generalize held n = k at *
  have HH := Lib.hid hh
  clear hh
  have hp : p ≤ 8 * bs.length := by omega
  have H := Lib.hid h
  obtain ⟨A, c, rfl, hne, hb, ho⟩ := h
  obtain ⟨m, hm⟩ : ∃ m, (p % 8 + k + 7) / 8 = m := ⟨_, rfl⟩
  have hm4 : m ≤ 4 := by omega
  have hmf : p / 8 + m ≤ bs.length := by omega
  have hmk : p % 8 + k ≤ 8 * m := by omega
  have hmi : ((p : Int) % 8 + (k : Int) + 7) / 8 = (m : Int) := by omega
  obtain ⟨R, hR⟩ : ∃ R, num bs / 2 ^ p % 2 ^ k = R := ⟨_, rfl⟩
  obtain ⟨V, hV⟩ : ∃ V, num ((bs.drop (p / 8)).take m) = V := ⟨_, rfl⟩
  have hVR : V / 2 ^ (p % 8) % 2 ^ k = R := by rw [← hV, ← hR]; exact bits_of_bytes bs p k m hmk hmf
  have hVl : V < 4294967296 := by
    have h1 := num_lt ((bs.drop (p / 8)).take m)
    rw [List.length_take, List.length_drop, Nat.min_eq_left (by omega)] at h1
    have h2 : 256 ^ m ≤ 4294967296 := by have := Nat.pow_le_pow_right (n := 256) (by omega) hm4; simpa using this
    omega
  have HM := Lib.hid hm
  have HV := Lib.hid hV
  have HVR := Lib.hid hVR
  have HMI := Lib.hid hmi
  rw [hR]
  clear hm hR hV hVR hmi
  have h0 : w.cell? ⟨g, 0, none⟩ = some (.slice A bs.length c) := hb.cell rfl
  have h1 : w.cell? ⟨g, 1, none⟩ = some (.int .i64 p) := hb.cell rfl
  go_enter Tryd.func80, Tryd.ntmps80
  go_wp2_with (first
    | (go_at_call 74; refine (HH.out w).mono ?_; rintro e w1 ⟨rfl, rfl⟩)
    | (go_at_call 102; refine (has_is g bs p _ (k : Int) true w H.out hp hn (decide_eq_true (by omega))).mono ?_; rintro e w1 ⟨rfl, hf1⟩; have h1' : w1.cell? ⟨g, 1, none⟩ = some (.int .i64 p) := (hb.fresh hf1).cell rfl))
  have hbk := hb.fresh hf1
  have hok := ho.fresh hf1
  clear h0 h1 h1' hb ho
  go_loopw [7, 25] (fun v i wr => ∃ (j q : Nat), j ≤ m ∧ i = .int .i64 j ∧ v = .int .i64 q ∧ Hid (q = num (((bs.drop (p / 8)).take m).take j)) ∧ q < 256 ^ j ∧ Fresh w1 wr) (fun _ i _ => m - (intOf i).toNat)
  case atStart => exact ⟨0, 0, by omega, rfl, rfl, by simp [Hid, num], by simp, Fresh.refl _⟩
  case round =>
    obtain ⟨j, q, hj, rfl, rfl, hq, hql, hfr⟩ := hrel
    have h0 : wr.cell? ⟨g, 0, none⟩ = some (.slice A bs.length c) := (hbk.fresh hfr).cell rfl
    have h1 : wr.cell? ⟨g, 1, none⟩ = some (.int .i64 p) := (hbk.fresh hfr).cell rfl
    have hmi := HMI.out
    by_cases hlt : j < m
    · obtain ⟨ix, hix⟩ : ∃ ix, p / 8 + j = ix := ⟨_, rfl⟩
      obtain ⟨b, off, x, rfl, hb, hx, hcx⟩ := (hok.rd.fresh hfr).at_ (enc := bv) (k := ix) (by omega)
      have HX := Lib.hid hx
      have hxb := x.toNat_lt
      have hor := or_high q j x.toNat hql (by omega) (by omega)
      have e1 : (p : Int) / 8 + (j : Int) = (ix : Int) := by omega
      have e2 : ix < bs.length := by omega
      have hstep : Hid (q + 256 ^ j * x.toNat = num (((bs.drop (p / 8)).take m).take (j + 1))) := by
        show _ = _
        rw [hq.out, num_take _ j x]
        rw [List.getElem?_take, if_pos hlt, List.getElem?_drop, hix]
        exact hx
      have hnx : q + 256 ^ j * x.toNat < 256 ^ (j + 1) := by
        have h1 : 256 ^ j * (x.toNat + 1) ≤ 256 ^ j * 256 := Nat.mul_le_mul_left _ (by omega)
        rw [Nat.pow_succ]
        rw [Nat.mul_succ] at h1
        omega
      clear hx
      go_wp2
      go_quiet (fail)
      go_wp2
      go_roundw
      case rel => exact ⟨j + 1, q + 256 ^ j * x.toNat, by omega, by go_num, by go_num, hstep, hnx, hfr.trans (Fresh.drewN _ _)⟩
      case measure => simp [intOf]; omega
    · have h2 : j = m := by omega
      subst h2
      have hqv : q = V := by rw [hq.out, List.take_take, Nat.min_self, HV.out]
      subst hqv
      have hz : u64 ((q : Int) / 2 ^ (p % 8)) % 2 ^ k = R := by
        have e : (q : Int) / 2 ^ (p % 8) = ((q / 2 ^ (p % 8) : Nat) : Int) := by simp
        have := Nat.div_le_self q (2 ^ (p % 8))
        rw [e, u64_nat _ (by omega), HVR.out]
      have HZ := Lib.hid hz
      clear hz
      go_wp2_with (go_at_call 76; refine (lowest_is k _ R wr hle HZ.out).mono ?_; rintro e w2 ⟨rfl, rfl⟩)
      go_ret2
      exact ⟨rfl, hf1.trans hfr⟩

/-- the reader's state behind a call -/
def RdrIs (w : World) (g : Nat) (bs : List UInt8) (q : Nat) (bl : List Nat) (w' : World) : Prop := ∃ bl', RdrAt w' g bs q bl' ∧ Turn bl bl' w w'

theorem align_any (g : Nat) (bs : List UInt8) (p : Nat) (bl : List Nat) (w : World) (h : RdrAt w g bs p bl) (hp : p ≤ 8 * bs.length) (hn : bs.length ≤ 1099511627776) :
    Calls Tryd.prog 81 #[ptr g] w fun e w' => e = .returned (.int .i64 ((8 - p % 8) % 8 : Nat)) ∧ RdrIs w g bs (p + (8 - p % 8) % 8) bl w' := by
  obtain ⟨K, hK⟩ : ∃ K, (8 - p % 8) % 8 = K := ⟨_, rfl⟩
  have e1 : bits .and .i64 (-(p : Int)) 7 = (K : Int) := by
    have h1 := and_mask (-(p : Int)) 3 (by omega)
    have h2 : u64 (-(p : Int)) % 2 ^ 3 = K := by unfold u64; omega
    rw [h2] at h1
    exact h1
  have hs := h.set (p + K)
  have hk7 : K < 8 := by omega
  rw [hK]
  have HS := Lib.hid hs
  obtain ⟨A, c, rfl, hne, hb, ho⟩ := h
  have h1 : w.cell? ⟨g, 1, none⟩ = some (.int .i64 p) := hb.cell rfl
  have hf := hb.free 1
  clear hs hK
  go_enter Tryd.func81, Tryd.ntmps81
  go_wp2
  go_ret
  exact ⟨rfl, _, HS.out.1, HS.out.2⟩

theorem back_ok (g : Nat) (bs : List UInt8) (p q : Nat) (bl : List Nat) (w : World) (h : RdrAt w g bs p bl) (hp : p ≤ 8 * bs.length) (hn : bs.length ≤ 1099511627776) (hq : q ≤ p) :
    Calls Tryd.prog 51 #[ptr g, .int .i64 q] w fun e w' => e = .returned (.tuple #[]) ∧ RdrIs w g bs q bl w' := by
  have hs := h.set q
  have HS := Lib.hid hs
  obtain ⟨A, c, rfl, hne, hb, ho⟩ := h
  have h1 : w.cell? ⟨g, 1, none⟩ = some (.int .i64 p) := hb.cell rfl
  have hf := hb.free 1
  clear hs
  go_enter Tryd.func51, Tryd.ntmps51
  go_wp2
  go_end0
  exact ⟨rfl, _, HS.out.1, HS.out.2⟩
theorem back_no (g : Nat) (bs : List UInt8) (p : Nat) (z : Int) (bl : List Nat) (w : World) (h : RdrAt w g bs p bl) (hq : z < 0 ∨ (p : Int) < z) :
    Calls Tryd.prog 51 #[ptr g, .int .i64 z] w fun e w' => e = .returned (.tuple #[]) ∧ RdrIs w g bs p bl w' := by
  have H := Lib.hid h
  obtain ⟨A, c, rfl, hne, hb, ho⟩ := h
  have h1 : w.cell? ⟨g, 1, none⟩ = some (.int .i64 p) := hb.cell rfl
  rcases hq with hq | hq
  all_goals
    go_enter Tryd.func51, Tryd.ntmps51
    go_wp2
    exact bodyPost_ret (results_none rfl _ _ _) rfl ⟨rfl, _, H.out, Turn.refl _ _⟩

theorem bits_no (g : Nat) (bs : List UInt8) (p : Nat) (bl : List Nat) (n : Int) (w : World) (h : RdrAt w g bs p bl) (hp : p ≤ 8 * bs.length) (hn : bs.length ≤ 1099511627776) (hno : 8 * bs.length < p + held n) :
    Calls Tryd.prog 52 #[ptr g, .int .i64 n] w fun e w' => e = .returned (.tuple #[.int .i64 0, .bool false]) ∧ RdrIs w g bs p bl w' := by
  go_enter Tryd.func52, Tryd.ntmps52
  go_wp2_with (go_at_call 80; refine (peek_no g bs p bl n w h hp hn hno).mono ?_; rintro e w1 ⟨rfl, hf1⟩)
  go_ret2
  exact ⟨rfl, _, h.fresh hf1, Turn.fresh hf1⟩

theorem bits_ok (g : Nat) (bs : List UInt8) (p : Nat) (bl : List Nat) (n : Int) (k R : Nat) (w : World) (h : RdrAt w g bs p bl) (hn : bs.length ≤ 1099511627776) (hk : held n = k) (hfit : p + k ≤ 8 * bs.length) (hR : num bs / 2 ^ p % 2 ^ k = R) :
    Calls Tryd.prog 52 #[ptr g, .int .i64 n] w fun e w' => e = .returned (.tuple #[.int .i64 R, .bool true]) ∧ RdrIs w g bs (p + k) bl w' := by
  subst hk
  have hle := held_le n
  have hpk : ∀ w, RdrAt w g bs p bl → Calls Tryd.prog 80 #[ptr g, .int .i64 n] w fun e w' => e = .returned (.tuple #[.int .i64 R, .bool true]) ∧ Fresh w w' := fun w h => by
    have := peek_ok g bs p bl n w h hn hfit
    rwa [hR] at this
  have hh : ∀ w, Calls Tryd.prog 74 #[.int .i64 n] w fun e w' => e = .returned (.int .i64 (held n)) ∧ w = w' := fun w => held_any n w
  generalize held n = k at *
  have HH := Lib.hid hh
  have HP := Lib.hid hpk
  clear hh hpk hR
  go_enter Tryd.func52, Tryd.ntmps52
  go_wp2_with (go_at_call 80; refine (HP.out w h).mono ?_; rintro e w1 ⟨rfl, hf1⟩)
  have hs := (h.fresh hf1).set (p + k)
  rw [Int.natCast_add] at hs
  have HS := Lib.hid hs
  have H1 := Lib.hid (h.fresh hf1)
  have h2 := h.fresh hf1
  obtain ⟨A, c, rfl, hne, hb, ho⟩ := h2
  have h1 : w1.cell? ⟨g, 1, none⟩ = some (.int .i64 p) := hb.cell rfl
  have hf := hb.free 1
  have e1 : IntKind.i64.wrap ((p : Int) + (k : Int)) = (p : Int) + (k : Int) := IntWalk.i64_in _ (by omega)
  clear hs
  have hh := HH.out w1.drew
  go_region_with (go_at_call 74; refine hh.mono ?_; rintro e w2 ⟨rfl, rfl⟩)
  all_goals
    go_wp2
    go_ret2
    exact ⟨rfl, _, HS.out.1.fresh (Fresh.drew _), ((Turn.fresh hf1).trans HS.out.2).trans (Turn.fresh (Fresh.drew _))⟩

end Go.Proofs.YtlaecigjnknhoaaDoor.bitp
