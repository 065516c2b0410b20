/-
  The reference of layer 8: Number of what is no moment. My own text.
-/
import Derived.Test.YtgmpdkkpmgedjaaDosRef2
namespace Go.Proofs.Ytgmpdkkpmgedjaa.dosp
open Go.RowKit Go.Proofs.Ytgmpdkkpmgedjaa.base Go.Proofs.Ytgmpdkkpmgedjaa.num Go.Proofs.Ytgmpdkkpmgedjaa.bitnum Go.Proofs.Ytgmpdkkpmgedjaa.dosnum
set_option linter.unusedVariables false

set_option maxHeartbeats 40000000 in
theorem number_bad (A : Option Addr) (c : Nat) (m : Mo) (B : Nat) (w : World) (h : Rd w B A 6 (momL m)) (hB : B ≤ w.heap.size) (r : ¬ Right m) :
    Calls Try.prog 10 #[.slice A 6 c] w fun e w' => e = .returned (.int .i64 (numI m)) ∧ Fresh w w' := by
  obtain ⟨b, off, rfl, hb, hc⟩ := h.2 (by omega)
  have c0 := hc 0 _ rfl
  have c1 := hc 1 _ rfl
  have c2 := hc 2 _ rfl
  have c3 := hc 3 _ rfl
  have c4 := hc 4 _ rfl
  have c5 := hc 5 _ rfl
  have hnum : numI m = -1 := by rw [numI, if_neg r]
  rw [hnum]
  obtain ⟨D, hD⟩ : ∃ D, days m.y m.mo = D := ⟨_, rfl⟩
  have hk1 : w.drew.cell? ⟨b, off + 0, none⟩ = some (.int .i64 m.y) ∧ w.drew.cell? ⟨b, off + 1, none⟩ = some (.int .i64 m.mo) ∧ w.drew.cell? ⟨b, off + 2, none⟩ = some (.int .i64 m.d) := ⟨c0, c1, c2⟩
  rw [Nat.add_zero] at c0 hk1
  have HR := Lib.hid r
  have HD := Lib.hid hD
  clear hc h r hnum hD
  cases t1 : decide (m.y < 1980)
  case true =>
    go_enter Try.func10, Try.ntmps10
    go_wp2
    go_quiet (fail)
    go_wp2
    go_ret
    exact ⟨rfl, Fresh.drewN _ _⟩
  have y1 := Lib.hid (show 1980 ≤ m.y by have := of_decide_eq_false t1; omega)
  cases t2 : decide (2107 < m.y)
  case true =>
    go_enter Try.func10, Try.ntmps10
    go_wp2
    go_quiet (fail)
    go_wp2
    go_ret
    exact ⟨rfl, Fresh.drewN _ _⟩
  have y2 := Lib.hid (show m.y ≤ 2107 by have := of_decide_eq_false t2; omega)
  cases t3 : decide (m.mo < 1)
  case true =>
    go_enter Try.func10, Try.ntmps10
    go_wp2
    go_quiet (fail)
    go_wp2
    go_ret
    exact ⟨rfl, Fresh.drewN _ _⟩
  have mo1 := Lib.hid (show 1 ≤ m.mo by have := of_decide_eq_false t3; omega)
  cases t4 : decide (12 < m.mo)
  case true =>
    go_enter Try.func10, Try.ntmps10
    go_wp2
    go_quiet (fail)
    go_wp2
    go_ret
    exact ⟨rfl, Fresh.drewN _ _⟩
  have mo2 := Lib.hid (show m.mo ≤ 12 by have := of_decide_eq_false t4; omega)
  cases t5 : decide (m.d < 1)
  case true =>
    go_enter Try.func10, Try.ntmps10
    go_wp2
    go_quiet (fail)
    go_wp2
    go_ret
    exact ⟨rfl, Fresh.drewN _ _⟩
  cases t6 : decide (D < m.d)
  case true =>
    have HF1 := Lib.hid (Fresh.drew w)
    have HK2 := Lib.hid hk1
    go_enter Try.func10, Try.ntmps10
    go_wp2
    go_region_held3 (fun w' => w'.cell? ⟨b, off, none⟩ = some (.int .i64 m.y) ∧ w'.cell? ⟨b, off + 1, none⟩ = some (.int .i64 m.mo) ∧ w'.cell? ⟨b, off + 2, none⟩ = some (.int .i64 m.d))
      (first | exact hk1 | exact HK2.out)
      (first | (go_at_call 19; (refine (days_ref _ _ y1.out y2.out mo1.out mo2.out _).mono ?_); rintro e w1 ⟨rfl, hf1⟩; rw [HD.out]; have HK2 := Lib.hid (show w1.cell? ⟨b, off, none⟩ = some (.int .i64 m.y) ∧ w1.cell? ⟨b, off + 1, none⟩ = some (.int .i64 m.mo) ∧ w1.cell? ⟨b, off + 2, none⟩ = some (.int .i64 m.d) from ⟨(World.cell?_of_block (hf1.block b (by show b < w.heap.size; omega))).trans c0, (World.cell?_of_block (hf1.block b (by show b < w.heap.size; omega))).trans c1, (World.cell?_of_block (hf1.block b (by show b < w.heap.size; omega))).trans c2⟩); have HF1 := Lib.hid ((Fresh.drew w).trans hf1); clear hf1))
    go_wp2
    go_ret
    exact ⟨rfl, HF1.out⟩
  cases t7 : decide (m.h < 0)
  case true =>
    have HF1 := Lib.hid (Fresh.drew w)
    have HK2 := Lib.hid hk1
    go_enter Try.func10, Try.ntmps10
    go_wp2
    go_region_held3 (fun w' => w'.cell? ⟨b, off, none⟩ = some (.int .i64 m.y) ∧ w'.cell? ⟨b, off + 1, none⟩ = some (.int .i64 m.mo) ∧ w'.cell? ⟨b, off + 2, none⟩ = some (.int .i64 m.d))
      (first | exact hk1 | exact HK2.out)
      (first | (go_at_call 19; (refine (days_ref _ _ y1.out y2.out mo1.out mo2.out _).mono ?_); rintro e w1 ⟨rfl, hf1⟩; rw [HD.out]; have HK2 := Lib.hid (show w1.cell? ⟨b, off, none⟩ = some (.int .i64 m.y) ∧ w1.cell? ⟨b, off + 1, none⟩ = some (.int .i64 m.mo) ∧ w1.cell? ⟨b, off + 2, none⟩ = some (.int .i64 m.d) from ⟨(World.cell?_of_block (hf1.block b (by show b < w.heap.size; omega))).trans c0, (World.cell?_of_block (hf1.block b (by show b < w.heap.size; omega))).trans c1, (World.cell?_of_block (hf1.block b (by show b < w.heap.size; omega))).trans c2⟩); have HF1 := Lib.hid ((Fresh.drew w).trans hf1); clear hf1))
    have k3 := (World.cell?_of_block (a := ⟨b, off + 3, none⟩) (HF1.out.block b (by omega))).trans c3
    have k4 := (World.cell?_of_block (a := ⟨b, off + 4, none⟩) (HF1.out.block b (by omega))).trans c4
    have k5 := (World.cell?_of_block (a := ⟨b, off + 5, none⟩) (HF1.out.block b (by omega))).trans c5
    go_wp2
    go_ret
    exact ⟨rfl, HF1.out⟩
  cases t8 : decide (23 < m.h)
  case true =>
    have HF1 := Lib.hid (Fresh.drew w)
    have HK2 := Lib.hid hk1
    go_enter Try.func10, Try.ntmps10
    go_wp2
    go_region_held3 (fun w' => w'.cell? ⟨b, off, none⟩ = some (.int .i64 m.y) ∧ w'.cell? ⟨b, off + 1, none⟩ = some (.int .i64 m.mo) ∧ w'.cell? ⟨b, off + 2, none⟩ = some (.int .i64 m.d))
      (first | exact hk1 | exact HK2.out)
      (first | (go_at_call 19; (refine (days_ref _ _ y1.out y2.out mo1.out mo2.out _).mono ?_); rintro e w1 ⟨rfl, hf1⟩; rw [HD.out]; have HK2 := Lib.hid (show w1.cell? ⟨b, off, none⟩ = some (.int .i64 m.y) ∧ w1.cell? ⟨b, off + 1, none⟩ = some (.int .i64 m.mo) ∧ w1.cell? ⟨b, off + 2, none⟩ = some (.int .i64 m.d) from ⟨(World.cell?_of_block (hf1.block b (by show b < w.heap.size; omega))).trans c0, (World.cell?_of_block (hf1.block b (by show b < w.heap.size; omega))).trans c1, (World.cell?_of_block (hf1.block b (by show b < w.heap.size; omega))).trans c2⟩); have HF1 := Lib.hid ((Fresh.drew w).trans hf1); clear hf1))
    have k3 := (World.cell?_of_block (a := ⟨b, off + 3, none⟩) (HF1.out.block b (by omega))).trans c3
    have k4 := (World.cell?_of_block (a := ⟨b, off + 4, none⟩) (HF1.out.block b (by omega))).trans c4
    have k5 := (World.cell?_of_block (a := ⟨b, off + 5, none⟩) (HF1.out.block b (by omega))).trans c5
    go_wp2
    go_ret
    exact ⟨rfl, HF1.out⟩
  cases t9 : decide (m.mi < 0)
  case true =>
    have HF1 := Lib.hid (Fresh.drew w)
    have HK2 := Lib.hid hk1
    go_enter Try.func10, Try.ntmps10
    go_wp2
    go_region_held3 (fun w' => w'.cell? ⟨b, off, none⟩ = some (.int .i64 m.y) ∧ w'.cell? ⟨b, off + 1, none⟩ = some (.int .i64 m.mo) ∧ w'.cell? ⟨b, off + 2, none⟩ = some (.int .i64 m.d))
      (first | exact hk1 | exact HK2.out)
      (first | (go_at_call 19; (refine (days_ref _ _ y1.out y2.out mo1.out mo2.out _).mono ?_); rintro e w1 ⟨rfl, hf1⟩; rw [HD.out]; have HK2 := Lib.hid (show w1.cell? ⟨b, off, none⟩ = some (.int .i64 m.y) ∧ w1.cell? ⟨b, off + 1, none⟩ = some (.int .i64 m.mo) ∧ w1.cell? ⟨b, off + 2, none⟩ = some (.int .i64 m.d) from ⟨(World.cell?_of_block (hf1.block b (by show b < w.heap.size; omega))).trans c0, (World.cell?_of_block (hf1.block b (by show b < w.heap.size; omega))).trans c1, (World.cell?_of_block (hf1.block b (by show b < w.heap.size; omega))).trans c2⟩); have HF1 := Lib.hid ((Fresh.drew w).trans hf1); clear hf1))
    have k3 := (World.cell?_of_block (a := ⟨b, off + 3, none⟩) (HF1.out.block b (by omega))).trans c3
    have k4 := (World.cell?_of_block (a := ⟨b, off + 4, none⟩) (HF1.out.block b (by omega))).trans c4
    have k5 := (World.cell?_of_block (a := ⟨b, off + 5, none⟩) (HF1.out.block b (by omega))).trans c5
    go_wp2
    go_ret
    exact ⟨rfl, HF1.out⟩
  cases t10 : decide (59 < m.mi)
  case true =>
    have HF1 := Lib.hid (Fresh.drew w)
    have HK2 := Lib.hid hk1
    go_enter Try.func10, Try.ntmps10
    go_wp2
    go_region_held3 (fun w' => w'.cell? ⟨b, off, none⟩ = some (.int .i64 m.y) ∧ w'.cell? ⟨b, off + 1, none⟩ = some (.int .i64 m.mo) ∧ w'.cell? ⟨b, off + 2, none⟩ = some (.int .i64 m.d))
      (first | exact hk1 | exact HK2.out)
      (first | (go_at_call 19; (refine (days_ref _ _ y1.out y2.out mo1.out mo2.out _).mono ?_); rintro e w1 ⟨rfl, hf1⟩; rw [HD.out]; have HK2 := Lib.hid (show w1.cell? ⟨b, off, none⟩ = some (.int .i64 m.y) ∧ w1.cell? ⟨b, off + 1, none⟩ = some (.int .i64 m.mo) ∧ w1.cell? ⟨b, off + 2, none⟩ = some (.int .i64 m.d) from ⟨(World.cell?_of_block (hf1.block b (by show b < w.heap.size; omega))).trans c0, (World.cell?_of_block (hf1.block b (by show b < w.heap.size; omega))).trans c1, (World.cell?_of_block (hf1.block b (by show b < w.heap.size; omega))).trans c2⟩); have HF1 := Lib.hid ((Fresh.drew w).trans hf1); clear hf1))
    have k3 := (World.cell?_of_block (a := ⟨b, off + 3, none⟩) (HF1.out.block b (by omega))).trans c3
    have k4 := (World.cell?_of_block (a := ⟨b, off + 4, none⟩) (HF1.out.block b (by omega))).trans c4
    have k5 := (World.cell?_of_block (a := ⟨b, off + 5, none⟩) (HF1.out.block b (by omega))).trans c5
    go_wp2
    go_ret
    exact ⟨rfl, HF1.out⟩
  cases t11 : decide (m.s < 0)
  case true =>
    have HF1 := Lib.hid (Fresh.drew w)
    have HK2 := Lib.hid hk1
    go_enter Try.func10, Try.ntmps10
    go_wp2
    go_region_held3 (fun w' => w'.cell? ⟨b, off, none⟩ = some (.int .i64 m.y) ∧ w'.cell? ⟨b, off + 1, none⟩ = some (.int .i64 m.mo) ∧ w'.cell? ⟨b, off + 2, none⟩ = some (.int .i64 m.d))
      (first | exact hk1 | exact HK2.out)
      (first | (go_at_call 19; (refine (days_ref _ _ y1.out y2.out mo1.out mo2.out _).mono ?_); rintro e w1 ⟨rfl, hf1⟩; rw [HD.out]; have HK2 := Lib.hid (show w1.cell? ⟨b, off, none⟩ = some (.int .i64 m.y) ∧ w1.cell? ⟨b, off + 1, none⟩ = some (.int .i64 m.mo) ∧ w1.cell? ⟨b, off + 2, none⟩ = some (.int .i64 m.d) from ⟨(World.cell?_of_block (hf1.block b (by show b < w.heap.size; omega))).trans c0, (World.cell?_of_block (hf1.block b (by show b < w.heap.size; omega))).trans c1, (World.cell?_of_block (hf1.block b (by show b < w.heap.size; omega))).trans c2⟩); have HF1 := Lib.hid ((Fresh.drew w).trans hf1); clear hf1))
    have k3 := (World.cell?_of_block (a := ⟨b, off + 3, none⟩) (HF1.out.block b (by omega))).trans c3
    have k4 := (World.cell?_of_block (a := ⟨b, off + 4, none⟩) (HF1.out.block b (by omega))).trans c4
    have k5 := (World.cell?_of_block (a := ⟨b, off + 5, none⟩) (HF1.out.block b (by omega))).trans c5
    go_wp2
    go_ret
    exact ⟨rfl, HF1.out⟩
  cases t12 : decide (59 < m.s)
  case true =>
    have HF1 := Lib.hid (Fresh.drew w)
    have HK2 := Lib.hid hk1
    go_enter Try.func10, Try.ntmps10
    go_wp2
    go_region_held3 (fun w' => w'.cell? ⟨b, off, none⟩ = some (.int .i64 m.y) ∧ w'.cell? ⟨b, off + 1, none⟩ = some (.int .i64 m.mo) ∧ w'.cell? ⟨b, off + 2, none⟩ = some (.int .i64 m.d))
      (first | exact hk1 | exact HK2.out)
      (first | (go_at_call 19; (refine (days_ref _ _ y1.out y2.out mo1.out mo2.out _).mono ?_); rintro e w1 ⟨rfl, hf1⟩; rw [HD.out]; have HK2 := Lib.hid (show w1.cell? ⟨b, off, none⟩ = some (.int .i64 m.y) ∧ w1.cell? ⟨b, off + 1, none⟩ = some (.int .i64 m.mo) ∧ w1.cell? ⟨b, off + 2, none⟩ = some (.int .i64 m.d) from ⟨(World.cell?_of_block (hf1.block b (by show b < w.heap.size; omega))).trans c0, (World.cell?_of_block (hf1.block b (by show b < w.heap.size; omega))).trans c1, (World.cell?_of_block (hf1.block b (by show b < w.heap.size; omega))).trans c2⟩); have HF1 := Lib.hid ((Fresh.drew w).trans hf1); clear hf1))
    have k3 := (World.cell?_of_block (a := ⟨b, off + 3, none⟩) (HF1.out.block b (by omega))).trans c3
    have k4 := (World.cell?_of_block (a := ⟨b, off + 4, none⟩) (HF1.out.block b (by omega))).trans c4
    have k5 := (World.cell?_of_block (a := ⟨b, off + 5, none⟩) (HF1.out.block b (by omega))).trans c5
    go_wp2
    go_ret
    exact ⟨rfl, HF1.out⟩
  exact absurd ⟨y1.out, y2.out, mo1.out, mo2.out, by have := of_decide_eq_false t5; omega, by have := of_decide_eq_false t6; have := HD.out; omega, by have := of_decide_eq_false t7; omega, by have := of_decide_eq_false t8; omega, by have := of_decide_eq_false t9; omega, by have := of_decide_eq_false t10; omega, by have := of_decide_eq_false t11; omega, by have := of_decide_eq_false t12; omega⟩ HR.out
theorem number_any (A : Option Addr) (c : Nat) (m : Mo) (B : Nat) (w : World) (h : Rd w B A 6 (momL m)) (hB : B ≤ w.heap.size) :
    Calls Try.prog 10 #[.slice A 6 c] w fun e w' => e = .returned (.int .i64 (numI m)) ∧ Fresh w w' := by
  by_cases r : Right m
  · exact number_ok A c m B w h hB r
  · exact number_bad A c m B w h hB r
end Go.Proofs.Ytgmpdkkpmgedjaa.dosp
