/-
  The walk of the law GlobNil. My own text.
-/
import Derived.Test.YtkkkjadfhimahaaDoorGlbUse
import Derived.Test.YtkkkjadfhimahaaDoorOpen
namespace Go.Proofs.YtkkkjadfhimahaaDoor.globNil
open Go.RowKit Go.Proofs.YtkkkjadfhimahaaDoor.base Go.Proofs.YtkkkjadfhimahaaDoor.nam Go.Proofs.YtkkkjadfhimahaaDoor.namp Go.Proofs.YtkkkjadfhimahaaDoor.glb Go.Proofs.YtkkkjadfhimahaaDoor.glbp
set_option linter.unusedVariables false
theorem info_byteL : (Tryd.prog.info? 5).map (fun i => (i.zero, i.size, i.bytes)) = some (some (.int .u8 0), 1, 1) := by kernel_rfl
set_option maxHeartbeats 4000000 in
set_option maxRecDepth 100000 in
theorem globNil_walk (s : ByteArray) (w : World) (ws : s.size ≤ maxLen) (hT : Tabs w) :
    Calls Tryd.prog 6 #[.string s] w fun e w' => e = .returned (.bool true) ∧ Below w.heap.size w w' := by
  have HW := Lib.hid (wakes_any w hT)
  have hn := fun W h => new_ok ⟨#[42, 42]⟩ [42, 42] _ (by simp [tx, en]) (rn_low (by decide)) prs_all W (by show 2 ≤ 100; omega) h
  have HN := Lib.hid hn
  have hmn := fun W => match3_any (.pointer none) (Or.inl rfl) s W (Or.inl rfl)
  have HMN := Lib.hid hmn
  have hlong := fun g (S : ByteArray) W (h : 1000 < S.size) => match3_any (ptg g) (Or.inr ⟨g, rfl⟩) S W (Or.inr h)
  have HT := Lib.hid hT
  have hst : ∀ W A c, Rd W W.heap.size A 1001 ((List.replicate 1001 (0 : UInt8)).map bv) → (convert 45 9 (.slice A 1001 c)).run Tryd.prog W = .ok (.string ⟨(List.replicate 1001 (0 : UInt8)).toArray⟩) W := fun W A c h =>
    run_str_rd W _ _ 5 Tryd.underlying45 Tryd.underlying5 Tryd.underlying9 A c 1001 _ _ h
  obtain ⟨Z, hZ⟩ : ∃ Z, (⟨(List.replicate 1001 (0 : UInt8)).toArray⟩ : ByteArray) = Z := ⟨_, rfl⟩
  have hZs : 1000 < Z.size := by rw [← hZ]; show 1000 < (List.replicate 1001 (0 : UInt8)).toArray.size; simp
  rw [hZ] at hst
  have HLZ := Lib.hid (fun g W => hlong g Z W hZs)
  have hrep : (List.replicate 1001 (Value.int .u8 0)) = (List.replicate 1001 (0 : UInt8)).map bv := by rw [List.map_replicate]; rfl
  have HST := Lib.hid hst
  have HRP := Lib.hid hrep
  obtain ⟨i0, hi0, hz0, hz1, hz2⟩ := info_parts info_byteL
  have hS : ∃ R : Bool, R = decide ((s.size : Int) ≤ 1000) ∧ ∀ g W, GlobAt W g [.all] → Calls Tryd.prog 12 #[ptg g, .string s] W fun e w' => e = .returned (.bool R) ∧ Fresh W w' := by
    by_cases h : s.size ≤ 1000
    · refine ⟨true, by rw [decide_eq_true]; omega, fun g W hg => ?_⟩
      have := match2_any g [.all] s _ rfl W hg h
      rw [mt_all] at this
      exact this
    · refine ⟨false, by rw [decide_eq_false]; omega, fun g W hg => hlong g s W (by omega)⟩
  obtain ⟨R, hR, hM⟩ := hS
  have HM := Lib.hid hM
  have t1 := hR.symm
  clear hn hmn hlong hT hst hZ hZs hrep hR ws
  clear hM
  cases R
  all_goals
    go_enter Tryd.func6, Tryd.ntmps6
    go_wp2_with (first
      | (go_at_call 9; (refine HW.out.mono ?_); rintro e w1 ⟨rfl, hf1⟩; have HF1 := Lib.hid hf1; clear hf1)
      | (go_at_call 15; (refine (head3_any _).mono ?_); rintro e w2 ⟨rfl, hf2⟩; have HF2 := Lib.hid (Fresh.trans HF1.out hf2); clear hf2)
      | (go_at_call 10; (with_reducible refine (HN.out _ (HT.out.fresh HF2.out)).mono ?_); rintro e w3 ⟨g3, rfl, hg3, hf3⟩; have HG3 := Lib.hid hg3; have HF3 := Lib.hid (Fresh.trans HF2.out hf3); clear hg3 hf3)
      | (go_at_call 12; (with_reducible refine (HMN.out w3).mono ?_); rintro e w4 ⟨rfl, hf4⟩; have HG4 := Lib.hid (HG3.out.fresh hf4); have HF4 := Lib.hid (Fresh.trans HF3.out hf4); clear hf4)
      | (go_at_call 12; (with_reducible refine (HM.out g3 w4 HG4.out).mono ?_); rintro e w5 ⟨rfl, hf5⟩; have HF5 := Lib.hid (Fresh.trans HF4.out hf5); clear hf5)
      | ((with_reducible (refine at_slot_ 46 ?_)); refine wpList_make_if (by rfl) 45 (.const (.int .i64 1001)) (.const (.int .i64 1001)) rfl 5 i0 (.int .u8 0) Tryd.underlying45 hi0 hz0 hz1 rfl 1001 rfl rfl (by rw [hz2]; omega) (by unfold maxLen; omega) w5.heap.size rfl ?_; intro w6 hb6 hf6; have hrd := Bk.rd hb6; rw [HRP.out, List.length_map, List.length_replicate] at hrd; have hcv := HST.out w6 (some ⟨w5.heap.size, 0, none⟩) 1001 hrd; have HF6 := Lib.hid (Fresh.trans HF5.out hf6); clear hb6 hf6 hrd)
      | (go_at_call 12; (with_reducible refine (HLZ.out g3 _).mono ?_); rintro e w7 ⟨rfl, hf7⟩))
    go_ret
    exact ⟨by first | rfl | simp, HF6.out.trans hf7⟩
end Go.Proofs.YtkkkjadfhimahaaDoor.globNil
