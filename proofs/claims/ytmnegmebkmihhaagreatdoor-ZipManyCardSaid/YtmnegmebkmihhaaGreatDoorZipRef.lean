import Derived.Test.YtmnegmebkmihhaaGreatDoorZipLaw
import Derived.Test.YtmnegmebkmihhaaGreatDoorMgUzb
import Derived.Test.YtmnegmebkmihhaaGreatDoorMgDos
/-
  The reference's May of items; the law's twice. My own text.
-/
namespace Go.Proofs.YtmnegmebkmihhaaGreatDoor.zipp
open Go.RowKit Go.Maps Go.Proofs.YtmnegmebkmihhaaGreatDoor.base Go.Proofs.YtmnegmebkmihhaaGreatDoor.num Go.Proofs.YtmnegmebkmihhaaGreatDoor.recn Go.Proofs.YtmnegmebkmihhaaGreatDoor.recp Go.Proofs.YtmnegmebkmihhaaGreatDoor.nam Go.Proofs.YtmnegmebkmihhaaGreatDoor.namp Go.Proofs.YtmnegmebkmihhaaGreatDoor.zipn
set_option linter.unusedVariables false
/-- may an item be? -/
def mayR (i : Itm) : Bool := decide (0 ≤ i.dt) && (decide (i.dt ≤ 4294967295) && (decide (dosnum.Right (dosnum.parts i.dt)) && (unz.mayL i.s.data.toList && (decide (0 ≤ i.how) && decide (i.how ≤ 3)))))
set_option maxRecDepth 100000 in
set_option maxHeartbeats 8000000 in
theorem refMay12 (i : Itm) (w : World) (hU : Laid w) (hdt : -9223372036854775808 ≤ i.dt ∧ i.dt ≤ 9223372036854775807) (hn : i.n ≤ 2000) (hs : i.s.size ≤ 100) :
    Calls Tryz.prog 12 #[.agg (itmV i).toArray] w fun e w' => e = .returned (.bool (mayR i)) ∧ Fresh w w' := by
  obtain ⟨nm, dt, sA, sn, sc, sbs, how, wd, ds⟩ := i
  simp only [itmV] at hdt hn hs ⊢
  have hbi := Bk.made w tItem #[.string nm, .int .i64 dt, .slice sA sn sc, .int .i64 how, .bool wd, .bool ds]
  have hal := Fresh.alloc w (.cells #[.string nm, .int .i64 dt, .slice sA sn sc, .int .i64 how, .bool wd, .bool ds] tItem)
  have HB := Lib.hid hbi
  have HF := Lib.hid hal
  have hd1 := hdt.1
  have hd2 := hdt.2
  clear hbi hal hdt
  by_cases h0 : dt < 0
  · have t1 : decide (dt < 0) = true := decide_eq_true h0
    have hres : mayR ⟨nm, dt, sA, sn, sc, sbs, how, wd, ds⟩ = false := by unfold mayR; simp only; rw [decide_eq_false (by omega)]; rfl
    have HR := Lib.hid hres
    have k1 := (HB.out.fresh (Fresh.drew _)).cell (i := 1) rfl
    clear hres h0
    go_enter Tryz.func12, Tryz.ntmps12
    go_upto_region 1 with (fail)
    go_quiet (fail)
    go_wp2
    go_ret
    exact ⟨by rw [HR.out]; rfl, HF.out.trans (Fresh.drewN _ _)⟩
  · by_cases h1 : 4294967295 < dt
    · have t1 : decide (dt < 0) = false := decide_eq_false h0
      have t2 : decide (dt > 4294967295) = true := decide_eq_true h1
      have t3 : decide (4294967295 < dt) = true := decide_eq_true h1
      have hres : mayR ⟨nm, dt, sA, sn, sc, sbs, how, wd, ds⟩ = false := by unfold mayR; simp only; rw [decide_eq_false (show ¬ dt ≤ 4294967295 by omega)]; simp
      have HR := Lib.hid hres
      have k1 := (HB.out.fresh (Fresh.drew _)).cell (i := 1) rfl
      clear hres h0 h1
      go_enter Tryz.func12, Tryz.ntmps12
      go_upto_region 1 with (fail)
      go_quiet (fail)
      go_wp2
      go_ret
      exact ⟨by rw [HR.out]; rfl, HF.out.trans (Fresh.drewN _ _)⟩
    · have t1 : decide (dt < 0) = false := decide_eq_false h0
      have t2 : decide (dt > 4294967295) = false := decide_eq_false h1
      have t3 : decide (4294967295 < dt) = false := decide_eq_false h1
      have hparts := fun W => dosp.parts_any dt (by omega) (by omega) W
      have hnum := fun W g (hm : Bk W g 3 (dosp.momL (dosnum.parts dt))) => dosp.number_any (some ⟨g, 0, none⟩) 6 (dosnum.parts dt) (g + 1) W ⟨rfl, fun _ => ⟨g, 0, rfl, by omega, fun j u hu => by rw [Nat.zero_add]; exact hm.cell hu⟩⟩ hm.inside
      have HPA := Lib.hid hparts
      have HNU := Lib.hid hnum
      have hk1 := (HB.out.fresh (Fresh.drew _)).cell (i := 1) rfl
      have hb0 := Lib.hid (show 0 ≤ dt ∧ dt ≤ 4294967295 by omega)
      obtain ⟨V, hV⟩ : ∃ V, w.alloc (.cells #[.string nm, .int .i64 dt, .slice sA sn sc, .int .i64 how, .bool wd, .bool ds] tItem) = V := ⟨_, rfl⟩
      by_cases hr : dosnum.Right (dosnum.parts dt)
      · have hq : dosp.numI (dosnum.parts dt) = dt := by unfold dosp.numI; rw [if_pos hr, dosnum.no_parts]
        have HRR := Lib.hid hr
        have t4 : (dt != dt) = false := by simp
        have HN2 : Hid (∀ W g, Bk W g 3 (dosp.momL (dosnum.parts dt)) → Calls Tryz.prog 27 #[.slice (some ⟨g, 0, none⟩) 6 6] W fun e w' => e = .returned (.int .i64 dt) ∧ Fresh W w') := Lib.hid (fun W g hm => by have := HNU.out W g hm; rw [hq] at this; exact this)
        have hmayn : ∀ W A c, Fresh w W → Rd W W.heap.size A nm.size (nm.data.toList.map bv) → nm.size ≤ c → c ≤ maxLen → Calls Tryz.prog 29 #[.slice A nm.size c] W fun e w' => e = .returned (.bool (unz.mayL nm.data.toList)) ∧ Fresh W w' := fun W A c hW hr hc hcm => unzp.refMay_of A nm.size c nm.data.toList W _ hr (Nat.le_refl _) (by omega) hc hcm _ rfl
        have HMAY := Lib.hid hmayn
        have hsl : nm.data.toList.length = nm.size := Array.length_toList (xs := nm.data)
        have HSL := Lib.hid hsl
        have HSZ := Lib.hid hs
        have hmr : mayR ⟨nm, dt, sA, sn, sc, sbs, how, wd, ds⟩ = (unz.mayL nm.data.toList && (decide (0 ≤ how) && decide (how ≤ 3))) := by
          unfold mayR
          simp only
          rw [decide_eq_true hb0.out.1, decide_eq_true hb0.out.2, decide_eq_true hr]
          rfl
        have HMR := Lib.hid hmr
        generalize unz.mayL nm.data.toList = nb at *
        have t5 : decide ((sn : Int) ≤ 16777216) = true := by rw [decide_eq_true_eq]; omega
        have hw : nb = false ∨ (nb = true ∧ ¬ 0 ≤ how) ∨ (nb = true ∧ 0 ≤ how ∧ ¬ how ≤ 3) ∨ (nb = true ∧ 0 ≤ how ∧ how ≤ 3) := by
          cases nb with
          | false => exact .inl rfl
          | true => by_cases x1 : 0 ≤ how <;> by_cases x2 : how ≤ 3 <;> simp [x1, x2]
        clear hr hq hparts hnum h0 h1 hmayn hsl hmr HNU hV hn hs
        go_enter Tryz.func12, Tryz.ntmps12
        go_upto_region 1 with (fail)
        go_cut [19] (fun v wx => v = .bool false ∧ Hid (Fresh w wx) ∧ Hid (Bk wx w.heap.size tItem [.string nm, .int .i64 dt, .slice sA sn sc, .int .i64 how, .bool wd, .bool ds]))
        case first =>
          go_region_held3 (fun w' => w'.cell? ⟨w.heap.size, 1, none⟩ = some (.int .i64 dt)) (first | with_reducible exact hk1 | with_reducible exact HK2.out | with_reducible exact HK3.out)
            (first
            | (go_at_call 28; ((refine (HPA.out _).mono ?_); rintro e w2 ⟨g2, rfl, hm2, hf2, _⟩; have HM2 := Lib.hid hm2; have HB2 := Lib.hid ((HB.out.fresh (Fresh.drew _)).fresh hf2); have HF2 := Lib.hid ((HF.out.trans (Fresh.drew _)).trans hf2); have HK2 := Lib.hid (HB2.out.cell (i := 1) rfl); clear hf2 hm2))
            | (go_at_call 27; ((refine (HN2.out _ _ HM2.out).mono ?_); rintro e w3 ⟨rfl, hf3⟩; have HB3 := Lib.hid (HB2.out.fresh hf3); have HF3 := Lib.hid (HF2.out.trans hf3); have HK3 := Lib.hid (HB3.out.cell (i := 1) rfl); clear hf3)))
          all_goals go_wp2
          all_goals go_meet
          all_goals exact ⟨rfl, HF3, HB3⟩
        case rest =>
          obtain ⟨rfl, HFx, HBx⟩ := hcut
          have k0 := HBx.out.cell (i := 0) rfl
          clear hk1 HPA HN2 HB HF
          rcases hw with rfl | ⟨rfl, hh⟩ | ⟨rfl, hh, hh2⟩ | ⟨rfl, hh, hh2⟩
          · have HRES : Hid (mayR ⟨nm, dt, sA, sn, sc, sbs, how, wd, ds⟩ = false) := Lib.hid (by rw [HMR.out]; rfl)
            go_wp2_with (first
              | ((with_reducible (refine at_slot_ 22 ?_)); refine wpList_bytes_of rfl 9 25 5 _ rfl Tryz.underlying9 Tryz.underlying25 Tryz.underlying5 nm rfl _ rfl nm.size HSL.out (by have := HSZ.out; unfold maxLen; omega) ?_; intro A4 c4 w4 hf4 hr4 hc4 hm4; have HF4 := Lib.hid (HFx.out.trans hf4); have HB4 := Lib.hid (HBx.out.fresh hf4); have HR4 := Lib.hid hr4; have HC4 := Lib.hid hc4; have HM4 := Lib.hid hm4; clear hf4 hr4 hc4 hm4)
              | (go_at_call 29; ((with_reducible refine (HMAY.out _ _ _ HF4.out HR4.out HC4.out HM4.out).mono ?_); rintro e w5 ⟨rfl, hf5⟩; have HF5 := Lib.hid (HF4.out.trans hf5); have hb5 := HB4.out.fresh hf5; have k3 := hb5.cell (i := 3) rfl; have k2 := hb5.cell (i := 2) rfl; clear hf5 hb5)))
            go_ret
            exact ⟨by rw [HRES.out]; rfl, HF5.out⟩
          · have x1 : decide (how ≥ 0) = false := decide_eq_false hh
            have x2 : decide (0 ≤ how) = false := decide_eq_false hh
            have HRES : Hid (mayR ⟨nm, dt, sA, sn, sc, sbs, how, wd, ds⟩ = false) := Lib.hid (by rw [HMR.out, x2]; rfl)
            clear hh
            go_wp2_with (first
              | ((with_reducible (refine at_slot_ 22 ?_)); refine wpList_bytes_of rfl 9 25 5 _ rfl Tryz.underlying9 Tryz.underlying25 Tryz.underlying5 nm rfl _ rfl nm.size HSL.out (by have := HSZ.out; unfold maxLen; omega) ?_; intro A4 c4 w4 hf4 hr4 hc4 hm4; have HF4 := Lib.hid (HFx.out.trans hf4); have HB4 := Lib.hid (HBx.out.fresh hf4); have HR4 := Lib.hid hr4; have HC4 := Lib.hid hc4; have HM4 := Lib.hid hm4; clear hf4 hr4 hc4 hm4)
              | (go_at_call 29; ((with_reducible refine (HMAY.out _ _ _ HF4.out HR4.out HC4.out HM4.out).mono ?_); rintro e w5 ⟨rfl, hf5⟩; have HF5 := Lib.hid (HF4.out.trans hf5); have hb5 := HB4.out.fresh hf5; have k3 := hb5.cell (i := 3) rfl; have k2 := hb5.cell (i := 2) rfl; clear hf5 hb5)))
            go_ret
            exact ⟨by rw [HRES.out]; rfl, HF5.out⟩
          · have x1 : decide (how ≥ 0) = true := decide_eq_true hh
            have x2 : decide (0 ≤ how) = true := decide_eq_true hh
            have x3 : decide (how ≤ 3) = false := decide_eq_false hh2
            have HRES : Hid (mayR ⟨nm, dt, sA, sn, sc, sbs, how, wd, ds⟩ = false) := Lib.hid (by rw [HMR.out, x2, x3]; rfl)
            clear hh hh2
            go_wp2_with (first
              | ((with_reducible (refine at_slot_ 22 ?_)); refine wpList_bytes_of rfl 9 25 5 _ rfl Tryz.underlying9 Tryz.underlying25 Tryz.underlying5 nm rfl _ rfl nm.size HSL.out (by have := HSZ.out; unfold maxLen; omega) ?_; intro A4 c4 w4 hf4 hr4 hc4 hm4; have HF4 := Lib.hid (HFx.out.trans hf4); have HB4 := Lib.hid (HBx.out.fresh hf4); have HR4 := Lib.hid hr4; have HC4 := Lib.hid hc4; have HM4 := Lib.hid hm4; clear hf4 hr4 hc4 hm4)
              | (go_at_call 29; ((with_reducible refine (HMAY.out _ _ _ HF4.out HR4.out HC4.out HM4.out).mono ?_); rintro e w5 ⟨rfl, hf5⟩; have HF5 := Lib.hid (HF4.out.trans hf5); have hb5 := HB4.out.fresh hf5; have k3 := hb5.cell (i := 3) rfl; have k2 := hb5.cell (i := 2) rfl; clear hf5 hb5)))
            go_ret
            exact ⟨by rw [HRES.out]; rfl, HF5.out⟩
          · have x1 : decide (how ≥ 0) = true := decide_eq_true hh
            have x2 : decide (0 ≤ how) = true := decide_eq_true hh
            have x3 : decide (how ≤ 3) = true := decide_eq_true hh2
            have HRES : Hid (mayR ⟨nm, dt, sA, sn, sc, sbs, how, wd, ds⟩ = true) := Lib.hid (by rw [HMR.out, x2, x3]; rfl)
            clear hh hh2
            go_wp2_with (first
              | ((with_reducible (refine at_slot_ 22 ?_)); refine wpList_bytes_of rfl 9 25 5 _ rfl Tryz.underlying9 Tryz.underlying25 Tryz.underlying5 nm rfl _ rfl nm.size HSL.out (by have := HSZ.out; unfold maxLen; omega) ?_; intro A4 c4 w4 hf4 hr4 hc4 hm4; have HF4 := Lib.hid (HFx.out.trans hf4); have HB4 := Lib.hid (HBx.out.fresh hf4); have HR4 := Lib.hid hr4; have HC4 := Lib.hid hc4; have HM4 := Lib.hid hm4; clear hf4 hr4 hc4 hm4)
              | (go_at_call 29; ((with_reducible refine (HMAY.out _ _ _ HF4.out HR4.out HC4.out HM4.out).mono ?_); rintro e w5 ⟨rfl, hf5⟩; have HF5 := Lib.hid (HF4.out.trans hf5); have hb5 := HB4.out.fresh hf5; have k3 := hb5.cell (i := 3) rfl; have k2 := hb5.cell (i := 2) rfl; clear hf5 hb5)))
            go_ret
            exact ⟨by rw [HRES.out]; rfl, HF5.out⟩
      · have hq : dosp.numI (dosnum.parts dt) = -1 := by unfold dosp.numI; rw [if_neg hr]
        have t4 : ((-1 : Int) != dt) = true := by rw [bne_iff_ne]; omega
        have HN2 : Hid (∀ W g, Bk W g 3 (dosp.momL (dosnum.parts dt)) → Calls Tryz.prog 27 #[.slice (some ⟨g, 0, none⟩) 6 6] W fun e w' => e = .returned (.int .i64 (-1)) ∧ Fresh W w') := Lib.hid (fun W g hm => by have := HNU.out W g hm; rw [hq] at this; exact this)
        have hres : mayR ⟨nm, dt, sA, sn, sc, sbs, how, wd, ds⟩ = false := by unfold mayR; simp only; rw [decide_eq_false hr]; simp
        have HR := Lib.hid hres
        clear hres hr hq hparts hnum h0 h1 HNU hV
        go_enter Tryz.func12, Tryz.ntmps12
        go_upto_region 1 with (fail)
        go_region_held3 (fun w' => w'.cell? ⟨w.heap.size, 1, none⟩ = some (.int .i64 dt)) (first | with_reducible exact hk1 | with_reducible exact HK2.out | with_reducible exact HK3.out)
            (first
            | (go_at_call 28; ((refine (HPA.out _).mono ?_); rintro e w2 ⟨g2, rfl, hm2, hf2, _⟩; have HM2 := Lib.hid hm2; have HB2 := Lib.hid ((HB.out.fresh (Fresh.drew _)).fresh hf2); have HF2 := Lib.hid ((HF.out.trans (Fresh.drew _)).trans hf2); have HK2 := Lib.hid (HB2.out.cell (i := 1) rfl); clear hf2 hm2))
            | (go_at_call 27; ((refine (HN2.out _ _ HM2.out).mono ?_); rintro e w3 ⟨rfl, hf3⟩; have HB3 := Lib.hid (HB2.out.fresh hf3); have HF3 := Lib.hid (HF2.out.trans hf3); have HK3 := Lib.hid (HB3.out.cell (i := 1) rfl); clear hf3)))
        all_goals go_wp2
        all_goals go_ret
        all_goals exact ⟨by rw [HR.out]; rfl, HF3.out⟩
end Go.Proofs.YtmnegmebkmihhaaGreatDoor.zipp
