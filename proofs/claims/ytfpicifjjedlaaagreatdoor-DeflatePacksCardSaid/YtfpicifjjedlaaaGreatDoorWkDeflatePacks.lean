import Derived.Test.YtfpicifjjedlaaaGreatDoorDefAny
import Derived.Test.YtfpicifjjedlaaaGreatDoorMgBk2
import Derived.Test.YtfpicifjjedlaaaGreatDoorInfLaw
import Derived.Test.YtfpicifjjedlaaaGreatDoorMgRfC
import Derived.Test.YtfpicifjjedlaaaGreatDoorOpen
import Derived.Lib.SmallJoins
/-
  The walk of the law DeflatePacks. My own text.
-/
namespace Go.Proofs.YtfpicifjjedlaaaGreatDoor.deflatePacks
open Go.RowKit Go.Proofs.YtfpicifjjedlaaaGreatDoor.base Go.Proofs.YtfpicifjjedlaaaGreatDoor.num Go.Proofs.YtfpicifjjedlaaaGreatDoor.bitp Go.Proofs.YtfpicifjjedlaaaGreatDoor.infnum Go.Proofs.YtfpicifjjedlaaaGreatDoor.infp Go.Proofs.YtfpicifjjedlaaaGreatDoor.defp
set_option linter.unusedVariables false
abbrev tGot6 : TypeId := 30
theorem chop_one : chop 1 [97] = [1, 1, 0, 254, 255, 97] := by
  rw [chop_small 1 (by decide)]
  decide
theorem char_rd (w : World) : Rd ((w.alloc (.cells #[.int .u8 97] 5 (1, 2)))) (w.heap.size + 1) (some ⟨w.heap.size, 0, none⟩) 1 (([97] : List UInt8).map bv) := Rd.mark w #[.int .u8 97] 5 (1, 2)
set_option maxRecDepth 100000 in
set_option maxHeartbeats 4000000 in
theorem wakes_any (w : World) : Calls Tryz.prog 4 #[] w fun e w' => e = .returned (.bool true) ∧ Fresh w w' := by
  have hcv := Joins.run_convert_bytes_const_at (P := Tryz.prog) w 22 5 #[.int .u8 97] 1 1 w.heap.size rfl Tryz.underlying22 Tryz.underlying5
  go_enter Tryz.func4, Tryz.ntmps4
  go_wp2_with (first
    | (go_at_call 5; clear hcv; (with_reducible refine (pack_stored _ 1 1 [97] _ (w.heap.size + 1) (char_rd w) (by simp) (by omega) (Nat.le_refl _) (by unfold maxLen; omega)).mono ?_); rintro e w2 ⟨A1, m1, c1, rfl, hl1, ho1, hf1⟩; rw [chop_one] at hl1 ho1; subst hl1)
    | (go_at_call 8; refine (same_yes A1 _ 6 _ _ [1, 1, 0, 254, 255, 97] _ _ (w2.heap.size + 1) (Own.fresh ho1 (Fresh.alloc _ _)).rd (Rd.lit w2 #[.int .u8 1, .int .u8 1, .int .u8 0, .int .u8 254, .int .u8 255, .int .u8 97] 5) (by unfold maxLen; omega)).mono ?_; rintro e w5 ⟨rfl, hf5⟩))
  go_ret
  exact ⟨rfl, (((Fresh.alloc _ _).trans hf1).trans (Fresh.alloc _ _)).trans hf5⟩
set_option maxRecDepth 100000 in
set_option maxHeartbeats 8000000 in
theorem deflatePacks_walk (A0 : Option Addr) (n0 c0 : Nat) (x0 : List UInt8) (a1 : Int) (w : World) (b0 : InBytes w A0 n0 c0 x0) (w1 : (Lit.int .i64 a1).wf = true) (hO : OrdD w) (hI : Ord w) :
    Calls Tryz.prog 3 #[.slice A0 n0 c0, .int .i64 a1] w fun e w' => e = .returned (.bool true) ∧ Below w.heap.size w w' := by
  obtain ⟨i0, hi0, hz0, hz1, hz2⟩ := info_parts info_byte
  obtain ⟨hr0, hn0, hm0⟩ := b0
  have hg : 0 < w.heap.size := World.block_lt_of_cell? w _ (hO 0 16 rfl)
  have hgi : 1 < w.heap.size := Ord.in hI
  have hl0 : x0.length = n0 := by have := hr0.1; rwa [List.length_map] at this
  have HR0 := Lib.hid hr0
  have HO := Lib.hid hO
  have HI := Lib.hid hI
  have HL0 := Lib.hid hl0
  clear hr0 w1 hO hI hm0 hl0
  by_cases hbig : 5000 < n0
  · go_enter Tryz.func3, Tryz.ntmps3
    go_wp2_with (go_at_call 4; refine (wakes_any _).mono ?_; rintro e wA ⟨rfl, hfA⟩)
    go_ret
    exact ⟨rfl, hfA⟩
  go_enter Tryz.func3, Tryz.ntmps3
  go_upto_region 6 with (first
    | (go_at_call 4; refine (wakes_any _).mono ?_; rintro e wA ⟨rfl, hfA⟩; have HFA := Lib.hid hfA; clear hfA)
    | ((with_reducible (refine at_slot_ 22 ?_)); refine wpList_append_rd _ rfl (.tmp 20) (.tmp 21) 22 rfl wA.heap.size 5 i0 _ 1 Tryz.underlying22 hi0 hz0 hz1 hz2 rfl _ 0 0 [] rfl (Own.made wA 5 #[] 0 rfl (by unfold maxLen; omega)) w.heap.size A0 n0 c0 (x0.map bv) rfl (HR0.out.below (HFA.out.trans (Fresh.alloc _ _)) (Nat.le_refl _)) (bv_one x0) (by unfold maxLen; omega) (by omega) (by simp) ?_; intro A5 c5 w5 ho5 hg5; rw [List.nil_append, Nat.zero_add] at ho5; have hf5 := (HFA.out.trans (Fresh.alloc _ _)).append (Own.made wA 5 #[] 0 rfl (by unfold maxLen; omega)) HFA.out.size hg5; have HO5 := Lib.hid ho5; have HF5 := Lib.hid hf5; clear ho5 hf5 hg5))
  by_cases hh : a1 < 0 ∨ 2 < a1
  · have hpk := pack_bad A5 n0 c5 a1 w5 hh
    have HPK := Lib.hid hpk
    clear hpk
    rcases hh with hh | hh
    · go_wp2_with (go_at_call 5; (with_reducible refine HPK.out.mono ?_); rintro e w6 ⟨rfl, rfl⟩)
      go_ret
      exact ⟨rfl, HF5.out⟩
    · have h0 : decide (a1 < 0) = false := by rw [decide_eq_false_iff_not]; omega
      go_wp2_with (go_at_call 5; (with_reducible refine HPK.out.mono ?_); rintro e w6 ⟨rfl, rfl⟩)
      go_ret
      exact ⟨rfl, HF5.out⟩
  · have h0 : decide (a1 < 0) = false := by rw [decide_eq_false_iff_not]; omega
    have h2 : decide (2 < a1) = false := by rw [decide_eq_false_iff_not]; omega
    have hcap5 := HO5.out.cap
    have hpk := pack_any A5 n0 c5 x0 a1 w5 w5.heap.size HO5.out.rd (Nat.le_refl _) (by omega) hcap5.1 hcap5.2 (HO.out.keep (HF5.out.block _ hg)) (by omega) (by omega)
    have HPK := Lib.hid hpk
    clear hpk hh hcap5
    go_upto_region 9 with (go_at_call 5; (with_reducible refine HPK.out.mono ?_); rintro e w6 ⟨A1, m, c1, p, rfl, hpd, ho6, hf6⟩; have HPD := Lib.hid hpd; have HO6 := Lib.hid ho6; have HF6 := Lib.hid (HF5.out.trans hf6); have HG6 := Lib.hid hf6; clear hpd ho6 hf6)
    obtain ⟨hpl, hun, hm1, hm2⟩ := HPD.out
    obtain ⟨k, hk⟩ : ∃ k, m = k + 1 := ⟨m - 1, by omega⟩
    have e1 : IntKind.i64.wrap ((m : Int) - 1) = (k : Int) := by rw [IntWalk.i64_in _ (by omega)]; omega
    have e1b : (m : Int) - 1 = (k : Int) := by omega
    have hal := all_ok A1 m c1 p w6 w6.heap.size HO6.out.rd (Nat.le_refl _) hm2 (HI.out.keep (HF6.out.block _ hgi)) (n0 : Int) n0 rfl (by omega) x0 n0 m ⟨hun, by rw [HL0.out]; exact Nat.le_refl _⟩ HL0.out
    have hrf := fun V (hV : Fresh w6 V) => refp.all_any A1 m c1 V.heap.size p x0 m n0 V (HO6.out.fresh hV).rd (Nat.le_refl _) hm2 hun (by rw [HL0.out]; exact Nat.le_refl _) (by omega)
    rw [HL0.out] at hrf
    have hbd := fun V c (hV : Fresh w6 V) (hr : Rd V V.heap.size A1 k ((p.take k).map bv)) => all_bad A1 k c (p.take k) V V.heap.size hr (Nat.le_refl _) (by omega) (HI.out.keep ((HF6.out.trans hV).block _ hgi)) (n0 : Int) n0 rfl (by omega) 3 (Unp.short hun (k := k) (by omega) (by rw [HL0.out]; exact Nat.le_refl _))
    have hcap6 := HO6.out.cap
    have pk1 : (k : Int) ≤ (m : Int) := by omega
    have pk2 : (k : Int) ≤ (c1 : Int) := by omega
    have pk0 : (0 : Int) ≤ (k : Int) := by omega
    have pc1 : ¬ c1 = 0 := by omega
    have pm0 : ((m : Int) == 0) = false := by rw [beq_eq_false_iff_ne]; omega
    have HAL := Lib.hid hal
    have HRF := Lib.hid hrf
    have HBD := Lib.hid hbd
    have HK := Lib.hid hk
    have HUN := Lib.hid hun
    have HPL := Lib.hid hpl
    clear hal hrf hbd hk hun hpl
    go_upto_region 11 with (first
      | (go_at_call 6; (with_reducible refine HAL.out.mono ?_); rintro e w7 ⟨A3, c3, rfl, ho7, hf7⟩; have HO7 := Lib.hid ho7; have HF7 := Lib.hid hf7; clear ho7 hf7)
      | (go_at_call 7; (with_reducible refine (HRF.out w7 HF7.out).mono ?_); rintro e w8 ⟨A4, c4, rfl, hr8, hf8⟩; have hb8 := Bk.made w8 tGot6 #[.slice none 0 0, .int .i64 0, .int .i64 0]; have HB8 := Lib.hid hb8; have HR8 := Lib.hid hr8; have HF8 := Lib.hid (HF7.out.trans hf8); have HG8 := Lib.hid hf8; clear hr8 hf8 hb8)
      | ((with_reducible (refine at_store_ 11 53 ?_)); refine wpList_store_blk rfl tGot6 (.tmp 11) (.tmp 53) rfl w8.heap.size 0 tGot6 [.slice none 0 0, .int .i64 0, .int .i64 0] [.slice A4 n0 c4, .int .i64 (m : Nat), .int .i64 0] rfl rfl HB8.out (by simp) (by simp; exact ⟨rfl, rfl, rfl⟩) (by kernel_rfl) ?_; intro w9 hb9 hbut9; have hf9 : Fresh w8 w9 := (Fresh.alloc _ _).but (Nat.le_refl _) hbut9; have hb9' : Bk w9 w8.heap.size tGot6 [.slice A4 n0 c4, .int .i64 (m : Nat), .int .i64 0] := hb9; have HB9 := Lib.hid hb9'; have HF9 := Lib.hid hf9; clear hb9 hb9' hbut9 hf9))
    have hsA := same_yes A3 A0 n0 c3 c0 x0 w9 _ _ ((HO7.out.fresh (HG8.out.trans HF9.out)).rd) (HR0.out.below (HF6.out.trans (HF8.out.trans HF9.out)) (Nat.le_refl _)) (by unfold maxLen; omega)
    have hsB := fun V (hV : Fresh w9 V) => same_yes A4 A0 n0 c4 c0 x0 V _ _ (HR8.out.below (HF9.out.trans hV) (Nat.le_refl _)) (HR0.out.below ((HF6.out.trans (HF8.out.trans HF9.out)).trans hV) (Nat.le_refl _)) (by unfold maxLen; omega)
    have hsC := fun V (hV : Fresh w9 V) => same_yes A5 A0 n0 c5 c0 x0 V _ _ ((HO5.out.fresh ((HG6.out.trans (HF8.out.trans HF9.out)).trans hV)).rd) (HR0.out.below ((HF6.out.trans (HF8.out.trans HF9.out)).trans hV) (Nat.le_refl _)) (by unfold maxLen; omega)
    have HSA := Lib.hid hsA
    have HSB := Lib.hid hsB
    have HSC := Lib.hid hsC
    clear hsA hsB hsC
    go_upto_region 13 with (first
      | (go_at_call 8; (with_reducible refine HSA.out.mono ?_); rintro e wA1 ⟨rfl, hfa1⟩; have hb10 := HB9.out.fresh hfa1; have k2 := hb10.cell (i := 2) rfl; have k1 := hb10.cell (i := 1) rfl; have k0 := hb10.cell (i := 0) rfl; have HFA1 := Lib.hid hfa1; clear hfa1 hb10)
      | (go_at_call 8; (with_reducible refine (HSB.out wA1 HFA1.out).mono ?_); rintro e wA2 ⟨rfl, hfa2⟩; have HFA2 := Lib.hid (HFA1.out.trans hfa2); clear hfa2)
      | (go_at_call 8; (with_reducible refine (HSC.out wA2 HFA2.out).mono ?_); rintro e wA3 ⟨rfl, hfa3⟩; have HFA3 := Lib.hid (HFA2.out.trans hfa3); clear hfa3))
    have hwx : Fresh w6 wA3 := HF8.out.trans (HF9.out.trans HFA3.out)
    have hrk : Rd wA3 wA3.heap.size A1 k ((p.take k).map bv) := by
      have h1 := (HO6.out.fresh hwx).rd
      have h2 := h1.cut (lo := 0) (hi := k) (cap := c1) (Nat.zero_le _) (by have := HK.out; omega) hcap6.1
      rw [if_neg pc1] at h2
      have e2 : A1.map (fun a => a.add 0) = A1 := by
        cases A1 with
        | none => rfl
        | some a => obtain ⟨b, o, f⟩ := a; cases f <;> rfl
      rw [List.drop_zero, ← List.map_take] at h2
      rwa [show A1.map (·.add 0) = A1 from e2] at h2
    have hbad := fun c => HBD.out wA3 c hwx hrk
    have HBAD := Lib.hid hbad
    have HWX := Lib.hid hwx
    clear hrk hbad hwx
    go_wp2_with (go_at_call 6; (with_reducible refine (HBAD.out _).mono ?_); rintro e wE ⟨rfl, _, hfE⟩; have HFE := Lib.hid hfE; clear hfE)
    go_ret
    exact ⟨rfl, (HF6.out.trans HWX.out).trans HFE.out⟩
end Go.Proofs.YtfpicifjjedlaaaGreatDoor.deflatePacks
