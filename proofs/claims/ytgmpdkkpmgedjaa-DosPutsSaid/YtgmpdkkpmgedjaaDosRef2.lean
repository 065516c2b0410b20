/-
  The reference of layer 8: Number, number. My own text.
-/
import Derived.Test.YtgmpdkkpmgedjaaDosRef
namespace Go.Proofs.Ytgmpdkkpmgedjaa.dosp
open Go.RowKit Go.Proofs.Ytgmpdkkpmgedjaa.base Go.Proofs.Ytgmpdkkpmgedjaa.num Go.Proofs.Ytgmpdkkpmgedjaa.bitnum Go.Proofs.Ytgmpdkkpmgedjaa.dosnum
set_option linter.unusedVariables false

/-- a moment's number, or -1 -/
def numI (m : Mo) : Int := if Right m then no m else -1
set_option maxHeartbeats 8000000 in
theorem number_ok (A : Option Addr) (c : Nat) (m : Mo) (B : Nat) (w : World) (h : Rd w B A 6 (momL m)) (hB : B ≤ w.heap.size) (r : Right m) :
    Calls Try.prog 10 #[.slice A 6 c] w fun e w' => e = .returned (.int .i64 (numI m)) ∧ Fresh w w' := by
  obtain ⟨b, off, rfl, hb, hc⟩ := h.2 (by omega)
  have c0 := hc 0 _ rfl
  have c1 := hc 1 _ rfl
  have c2 := hc 2 _ rfl
  have c3 := hc 3 _ rfl
  have c4 := hc 4 _ rfl
  have c5 := hc 5 _ rfl
  have HC := Lib.hid hc
  have HR := Lib.hid r
  have hbd := no_bd r
  have hdd := days_bd m.y m.mo
  obtain ⟨y1, y2, mo1, mo2, d1, d2, h1, h2, mi1, mi2, s1, s2⟩ := r
  have d3 : m.d ≤ 31 := by omega
  obtain ⟨D, hD⟩ : ∃ D, days m.y m.mo = D := ⟨_, rfl⟩
  rw [hD] at d2
  have HD := Lib.hid hD
  have HBD := Lib.hid hbd
  have HH := Lib.hid h
  clear hc h hdd hD hbd
  go_enter Try.func10, Try.ntmps10
  have hk1 : w.drew.cell? ⟨b, off + 0, none⟩ = some (.int .i64 m.y) ∧ w.drew.cell? ⟨b, off + 1, none⟩ = some (.int .i64 m.mo) ∧ w.drew.cell? ⟨b, off + 2, none⟩ = some (.int .i64 m.d) := ⟨c0, c1, c2⟩
  rw [Nat.add_zero] at c0 hk1
  have t1 : decide (m.y < 1980) = false := by rw [decide_eq_false_iff_not]; omega
  have t2 : decide (2107 < m.y) = false := by rw [decide_eq_false_iff_not]; omega
  have t3 : decide (m.mo < 1) = false := by rw [decide_eq_false_iff_not]; omega
  have t4 : decide (12 < m.mo) = false := by rw [decide_eq_false_iff_not]; omega
  have t5 : decide (m.d < 1) = false := by rw [decide_eq_false_iff_not]; omega
  have t6 : decide (D < m.d) = false := by rw [decide_eq_false_iff_not]; omega
  go_wp2
  go_region_held3 (fun w' => w'.cell? ⟨b, off, none⟩ = some (.int .i64 m.y) ∧ w'.cell? ⟨b, off + 1, none⟩ = some (.int .i64 m.mo) ∧ w'.cell? ⟨b, off + 2, none⟩ = some (.int .i64 m.d))
    (first | exact hk1 | exact HK2.out)
    (first | (go_at_call 19; (refine (days_ref _ _ y1 y2 mo1 mo2 _).mono ?_); rintro e w1 ⟨rfl, hf1⟩; rw [HD.out]; have HK2 := Lib.hid (show w1.cell? ⟨b, off, none⟩ = some (.int .i64 m.y) ∧ w1.cell? ⟨b, off + 1, none⟩ = some (.int .i64 m.mo) ∧ w1.cell? ⟨b, off + 2, none⟩ = some (.int .i64 m.d) from ⟨(World.cell?_of_block (hf1.block b (by show b < w.heap.size; omega))).trans c0, (World.cell?_of_block (hf1.block b (by show b < w.heap.size; omega))).trans c1, (World.cell?_of_block (hf1.block b (by show b < w.heap.size; omega))).trans c2⟩); have HF1 := Lib.hid ((Fresh.drew w).trans hf1); clear hf1))
  obtain ⟨k0, k1, k2⟩ := HK2.out
  have k3 := (World.cell?_of_block (a := ⟨b, off + 3, none⟩) (HF1.out.block b (by omega))).trans c3
  have k4 := (World.cell?_of_block (a := ⟨b, off + 4, none⟩) (HF1.out.block b (by omega))).trans c4
  have k5 := (World.cell?_of_block (a := ⟨b, off + 5, none⟩) (HF1.out.block b (by omega))).trans c5
  rename_i hj
  clear hj hk1 c0 c1 c2 c3 c4 c5 t1 t2 t3 t4 t5 t6
  have u1 : decide (m.h < 0) = false := by rw [decide_eq_false_iff_not]; omega
  have u2 : decide (23 < m.h) = false := by rw [decide_eq_false_iff_not]; omega
  have u3 : decide (m.mi < 0) = false := by rw [decide_eq_false_iff_not]; omega
  have u4 : decide (59 < m.mi) = false := by rw [decide_eq_false_iff_not]; omega
  have u5 : decide (m.s < 0) = false := by rw [decide_eq_false_iff_not]; omega
  have u6 : decide (59 < m.s) = false := by rw [decide_eq_false_iff_not]; omega
  go_wp2
  go_quiet (fail)
  go_wp2
  go_quiet (fail)
  go_wp2
  go_ret
  refine ⟨ret_i64 ?_, (HF1.out.trans (Fresh.drewN _ _)).trans (Fresh.drewN _ _)⟩
  rw [numI, if_pos HR.out, no]
end Go.Proofs.Ytgmpdkkpmgedjaa.dosp
