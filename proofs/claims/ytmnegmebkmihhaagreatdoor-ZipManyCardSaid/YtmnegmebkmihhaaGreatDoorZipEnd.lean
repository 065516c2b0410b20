/-
  zip's archive whole: ended. My own text.
-/
import Derived.Test.YtmnegmebkmihhaaGreatDoorZipAdd
import Derived.Test.YtmnegmebkmihhaaGreatDoorRecPut5
namespace Go.Proofs.YtmnegmebkmihhaaGreatDoor.zipp
open Go.RowKit Go.Proofs.YtmnegmebkmihhaaGreatDoor.base Go.Proofs.YtmnegmebkmihhaaGreatDoor.num Go.Proofs.YtmnegmebkmihhaaGreatDoor.recn Go.Proofs.YtmnegmebkmihhaaGreatDoor.recp Go.Proofs.YtmnegmebkmihhaaGreatDoor.nam Go.Proofs.YtmnegmebkmihhaaGreatDoor.namp Go.Proofs.YtmnegmebkmihhaaGreatDoor.zipn
set_option linter.unusedVariables false
set_option maxRecDepth 100000 in
set_option maxHeartbeats 8000000 in
theorem ended_plain (w : World) (base g k : Nat) (bs hs : List UInt8) (ha : ArcAt w base g bs hs k) (hbase : base ≤ w.heap.size) (hl : bs.length ≤ 4000000000) (hl2 : hs.length ≤ 4000000000) (hk : k < 65535) :
    Calls Tryz.prog 24 #[.pointer (some ⟨g, 0, none⟩)] w fun e w' => ∃ A n c, e = .returned (.tuple #[.slice A n c, .int .i64 0]) ∧ n = (bs ++ hs ++ endP ⟨k, hs.length, bs.length, false⟩).length ∧ n ≤ c ∧ c ≤ maxLen ∧ Rd w' w'.heap.size A n ((bs ++ hs ++ endP ⟨k, hs.length, bs.length, false⟩).map bv) ∧ Below base w w' := by
  obtain ⟨Aa, b, ca, D, m, d, harc⟩ := ha
  obtain ⟨i0, hi0, hz0, hz1, hz2⟩ := info_parts byteInfo
  have hbl := own_len harc.rowA
  have hml := own_len harc.rowD
  have hgl := harc.bk.inside
  have hen : ∀ W, Calls Tryz.prog 55 #[.agg #[.int .i64 (k : Nat), .int .i64 (hs.length : Nat), .int .i64 (bs.length : Nat), .bool false], .int .i64 ((bs.length + hs.length : Nat) : Int)] W fun e w' => ∃ A c, e = .returned (.tuple #[.slice A 22 c, .int .i64 0]) ∧ Fresh W w' ∧ Own w' W.heap.size 5 A 22 c ((endP ⟨k, hs.length, bs.length, false⟩).map bv) := fun W =>
    end_plain ⟨k, hs.length, bs.length, false⟩ (bs.length + hs.length) rfl hk (by simp only; omega) (by simp only; omega) (by omega) W
  have hel : (endP ⟨k, hs.length, bs.length, false⟩).length = 22 := endP_len _
  generalize endP ⟨k, hs.length, bs.length, false⟩ = EB at *
  have htot : (bs ++ hs ++ EB).length = b + m + 22 := by rw [List.length_append, List.length_append]; omega
  rw [hbl, hml] at hen
  rw [hbl] at hl
  rw [hml] at hl2
  rw [htot]
  have hw1 : IntKind.i64.wrap ((b : Int) + (m : Int)) = ((b + m : Nat) : Int) := by rw [IntWalk.i64_in _ (by omega)]; omega
  have hw2 : wrap64 ((b : Int) + (m : Int)) = ((b + m : Nat) : Int) := by rw [IntWalk.wrap64_in _ ⟨by omega, by omega⟩]; omega
  have HEN := Lib.hid hen
  have HA := Lib.hid harc
  have HW1 := Lib.hid hw1
  have HN := Lib.hid (show b ≤ 4000000000 ∧ m ≤ 4000000000 ∧ base ≤ w.heap.size ∧ g < w.heap.size from ⟨hl, hl2, hbase, hgl⟩)
  clear hen harc hl hl2 hbase hbl hml htot hk hel
  go_enter Tryz.func24, Tryz.ntmps24
  go_upto_region 1 with (fail)
  go_cut [4] (fun v wx => ∃ q, v = .pointer (some ⟨q, 0, none⟩) ∧ Hid (Bk wx q 76 [iv (k : Nat), iv (m : Nat), iv (b : Nat), .bool false]) ∧ Hid (Fresh w wx) ∧ Hid (w.heap.size ≤ q))
  case first =>
    have g0 := (HA.out.bk.fresh (Fresh.drew w)).cell (i := 0) rfl
    have g1 := (HA.out.bk.fresh (Fresh.drew w)).cell (i := 1) rfl
    have g2 := (HA.out.bk.fresh (Fresh.drew w)).cell (i := 2) rfl
    have g3 := (HA.out.bk.fresh (Fresh.drew w)).cell (i := 3) rfl
    have z0 : (w.alloc (.cells #[.int .i64 0, .int .i64 0, .int .i64 0, .bool false] 76)).drew.cell? ⟨g, 0, none⟩ = _ := ((HA.out.bk.alloc _).fresh (Fresh.drew _)).cell (i := 0) rfl
    have z1 : (w.alloc (.cells #[.int .i64 0, .int .i64 0, .int .i64 0, .bool false] 76)).drew.cell? ⟨g, 1, none⟩ = _ := ((HA.out.bk.alloc _).fresh (Fresh.drew _)).cell (i := 1) rfl
    have z2 : (w.alloc (.cells #[.int .i64 0, .int .i64 0, .int .i64 0, .bool false] 76)).drew.cell? ⟨g, 2, none⟩ = _ := ((HA.out.bk.alloc _).fresh (Fresh.drew _)).cell (i := 2) rfl
    have z3 : (w.alloc (.cells #[.int .i64 0, .int .i64 0, .int .i64 0, .bool false] 76)).drew.cell? ⟨g, 3, none⟩ = _ := ((HA.out.bk.alloc _).fresh (Fresh.drew _)).cell (i := 3) rfl
    go_region
    all_goals go_wp2
    all_goals go_meet
    all_goals exact ⟨w.heap.size, rfl, Lib.hid ((Bk.made w 76 #[iv (k : Nat), iv (m : Nat), iv (b : Nat), .bool false]).fresh (Fresh.drew _)), Lib.hid ((Fresh.alloc w (.cells #[iv (k : Nat), iv (m : Nat), iv (b : Nat), .bool false] 76)).trans (Fresh.drew _)), Lib.hid (Nat.le_refl _)⟩
  case rest =>
    obtain ⟨q, rfl, HQ, HF, HLQ⟩ := hcut
    have HA2 := Lib.hid (HA.out.fresh HF.out)
    have hqd := HQ.out.fresh (Fresh.drew wc)
    have q0 := hqd.cell (i := 0) rfl
    have q1 := hqd.cell (i := 1) rfl
    have q2 := hqd.cell (i := 2) rfl
    have q3 := hqd.cell (i := 3) rfl
    have gd := HA2.out.bk.fresh (Fresh.drew wc)
    have g0 := gd.cell (i := 0) rfl
    have g1 := gd.cell (i := 1) rfl
    clear hqd gd
    go_upto_region 2 with (fail)
    go_region_law ((with_reducible refine zst_slot_ 39 ?_); go_simp; (refine (HEN.out _).mono ?_); rintro e w3 ⟨AE, cE, rfl, hf3, hoe⟩; have HF3 := Lib.hid (HF.out.trans ((Fresh.drew wc).trans hf3)); have hsE := ((Fresh.drew wc).trans hf3).size; have HOE := Lib.hid hoe; clear hf3 hoe)
    all_goals
      obtain ⟨N1, N2, N3, N4⟩ := HN.out
      have hHA3 := HA.out.fresh HF3.out
      have HA3 := Lib.hid hHA3
      have HA3d := Lib.hid (hHA3.fresh (Fresh.drew w3))
      have g0 := (HA3d.out.bk).cell (i := 0) rfl
      have g1 := (HA3d.out.bk).cell (i := 1) rfl
      have hbw3 : base ≤ w3.drew.heap.size := Nat.le_trans N3 HF3.out.size
      have HOE2 := Lib.hid (HOE.out.fresh (Fresh.drew w3))
      have hap : ∀ r, (Value.slice Aa b ca).ownBlock = some r → (Value.slice AE 22 cE).ownBlock ≠ some r := fun r hr hr' => by
        have h1 := (World.ownsRow.lt HA.out.rowA r hr).2
        have h2 := (World.ownsRow.lt HOE.out r hr').1
        have h3 := HF.out.size
        have h4 : wc.drew.heap.size = wc.heap.size := rfl
        omega
      have HAP := Lib.hid hap
      clear q0 q1 q2 q3 hap hHA3 HQ HA2
      go_upto_region 5 with (fail)
      go_region_law (first
        | ((with_reducible refine zst_slot_ 53 ?_); refine step_append_rdx (by rfl) (.tmp 48) (.tmp 52) 25 (by rfl) base 5 i0 _ 1 Tryz.underlying25 hi0 hz0 hz1 hz2 rfl Aa b ca _ (by rfl) HA3d.out.rowA w3.drew.heap.size D m d (hs.map bv) (by rfl) HA3d.out.rowD.rd (bv_one _) (by unfold maxLen; omega) (by omega) hbw3 ?_; intro A4 c4 w4 hown4 hg4 hw4; have HO4 := Lib.hid hown4; have HE4 := Lib.hid (HOE2.out.beside hg4 HAP.out); have HB4 := Lib.hid (Below.own ((HF3.out.trans (Fresh.drew w3)).mono N3) hbw3 HA3d.out.rowA (Nat.le_refl _) hg4); have hbw4 := Nat.le_trans hbw3 hg4.size; clear hown4 hg4 hw4)
        | ((with_reducible refine zst_slot_ 55 ?_); refine step_append_rdx (by rfl) (.tmp 53) (.tmp 54) 25 (by rfl) base 5 i0 _ 1 Tryz.underlying25 hi0 hz0 hz1 hz2 rfl A4 (b + m) c4 _ (by rfl) HO4.out w4.heap.size AE 22 cE (EB.map bv) (by rfl) HE4.out.rd (bv_one _) (by unfold maxLen; omega) (by omega) hbw4 ?_; intro A5 c5 w5 hown5 hg5 hw5; have HO5 := Lib.hid hown5; have HB5 := Lib.hid (Below.own HB4.out hbw4 HO4.out (Nat.le_refl _) hg5); clear hown5 hg5 hw5))
      all_goals
        go_wp2
        go_ret2
        refine ⟨A5, b + m + 22, c5, rfl, rfl, HO5.out.cap.1, HO5.out.cap.2, ?_, HB5.out⟩
        have h := HO5.out.rd
        rw [← List.map_append, ← List.map_append] at h
        exact h
end Go.Proofs.YtmnegmebkmihhaaGreatDoor.zipp
