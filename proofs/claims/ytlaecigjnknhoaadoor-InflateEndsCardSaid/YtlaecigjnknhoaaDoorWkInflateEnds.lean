/-
  The walk of the law InflateEnds. My own text.
-/
import Derived.Test.YtlaecigjnknhoaaDoorInfLaw
import Derived.Test.YtlaecigjnknhoaaDoorOpen
namespace Go.Proofs.YtlaecigjnknhoaaDoor.inflateEnds
open Go.RowKit Go.Proofs.YtlaecigjnknhoaaDoor.base Go.Proofs.YtlaecigjnknhoaaDoor.num Go.Proofs.YtlaecigjnknhoaaDoor.bitp Go.Proofs.YtlaecigjnknhoaaDoor.infnum Go.Proofs.YtlaecigjnknhoaaDoor.infp
set_option linter.unusedVariables false
theorem unp_some {b x : List UInt8} {n : Nat} (h : Unp b x n) : 0 < b.length ∧ n ≤ b.length := by
  obtain ⟨s, P, hs, hf, _, hn, hle⟩ := h
  refine ⟨?_, by omega⟩
  rcases Nat.eq_zero_or_pos b.length with h0 | h0
  · exfalso
    have hb : b = [] := List.eq_nil_of_length_eq_zero h0
    subst hb
    have he : infnum.one infnum.start (num []) (8 * ([] : List UInt8).length) 0 = .error 3 := rfl
    have := stuck_of he hs
    injection this with h1 _
    subst h1
    exact fin_no he (by decide) hf
  · exact h0
theorem rd_first {w : World} {B n m : Nat} {A : Option Addr} {xs : List Value} (h : Rd w B A n xs) (hm : m ≤ n) : Rd w B A m (xs.take m) := by
  refine ⟨by rw [List.length_take, h.1]; omega, fun h0 => ?_⟩
  obtain ⟨b, off, e, hb, hc⟩ := h.2 (by omega)
  refine ⟨b, off, e, hb, fun j u hu => hc j u ?_⟩
  rw [List.getElem?_take] at hu
  split at hu
  · exact hu
  · cases hu
set_option maxRecDepth 100000 in
set_option maxHeartbeats 8000000 in
theorem inflateEnds_walk (A0 : Option Addr) (n0 c0 : Nat) (x0 : List UInt8) (A1 : Option Addr) (n1 c1 : Nat) (x1 : List UInt8) (w : World) (b0 : InBytes w A0 n0 c0 x0) (b1 : InBytes w A1 n1 c1 x1) (hO : Ord w) :
    Calls Tryd.prog 3 #[.slice A0 n0 c0, .slice A1 n1 c1] w fun e w' => e = .returned (.bool true) ∧ Below w.heap.size w w' := by
  obtain ⟨i0, hi0, hz0, hz1, hz2⟩ := info_parts info_byte
  obtain ⟨hr0, hn0, hm0⟩ := b0
  obtain ⟨hr1, hn1, hm1⟩ := b1
  have hl0 : x0.length = n0 := by have := hr0.1; rwa [List.length_map] at this
  unfold maxLen at hm0 hm1
  have HO := Lib.hid hO
  have HL0 := Lib.hid hl0
  have HR0 := Lib.hid hr0
  have HR1 := Lib.hid hr1
  clear hO hl0 hr0 hr1
  by_cases hbig : 2000 < n0
  · go_enter Tryd.func3, Tryd.ntmps3
    go_wp2_with (go_at_call 9; refine (wakes_any _ HO.out).mono ?_; rintro e wA ⟨rfl, hfA⟩)
    go_ret
    exact ⟨rfl, hfA⟩
  by_cases hbig1 : 200 < n1
  · go_enter Tryd.func3, Tryd.ntmps3
    go_wp2_with (go_at_call 9; refine (wakes_any _ HO.out).mono ?_; rintro e wA ⟨rfl, hfA⟩)
    go_ret
    exact ⟨rfl, hfA⟩
  have hkeep : ∀ W, Fresh w W → Ord W := fun W h => HO.out.keep (h.block _ (Ord.in HO.out))
  have HK := Lib.hid hkeep
  clear hkeep
  go_enter Tryd.func3, Tryd.ntmps3
  go_upto_region 6 with (first
    | (go_at_call 9; refine (wakes_any _ HO.out).mono ?_; rintro e wA ⟨rfl, hfA⟩)
    | (go_at_call 10; refine (all_either A0 n0 c0 x0 wA w.heap.size (HR0.out.below hfA (Nat.le_refl _)) hfA.size (by omega) (HK.out _ hfA) 20000 20000 rfl (by omega)).mono ?_; rintro e wB ⟨hfB, hres⟩; have HF := Lib.hid (hfA.trans hfB); (rcases hres with ⟨x, m, k, Ax, cx, hT, hx, rfl, ho⟩ | ⟨er, ht, hne, rfl⟩)))
  rotate_left
  · have hne2 : ¬ (er : Int) = 0 := by omega
    go_wp2
    go_ret
    exact ⟨rfl, HF.out⟩
  obtain ⟨hpos, hkn⟩ := unp_some hT.1
  rw [HL0.out] at hpos hkn
  have hc0 : ¬ c0 = 0 := by omega
  have hT2 : Tells (x0 ++ x1) 20000 (.ok x k) := hT.ends (b' := x0 ++ x1) (by rw [List.length_append, HL0.out]; omega) (by rw [List.take_append_of_le_length (by rw [HL0.out]; exact hkn)]) hT.2
  have hT3 : Tells (x0.take k) m (.ok x k) := hT.ends (b' := x0.take k) (by rw [List.length_take, HL0.out]; omega) (by rw [List.take_take, Nat.min_self]) (by omega)
  have hm20 : m ≤ 20000 := by rw [← hx]; exact hT.2
  have hl1 : (x0 ++ x1).length = n0 + n1 := by rw [List.length_append, HL0.out]; have := HR1.out.1; rw [List.length_map] at this; omega
  have hkk : (k : Int) ≤ (n0 : Int) := by omega
  have hkc : (k : Int) ≤ (c0 : Int) := by omega
  have HT2 := Lib.hid hT2
  have HT3 := Lib.hid hT3
  have HX := Lib.hid hx
  have HOX := Lib.hid ho
  have HFB := Lib.hid hfB
  have hz0' : (0 : Nat) + n0 = n0 := by omega
  have HA := Lib.hid hfA
  clear hT hT2 hT3 hx ho hl1 hfB hfA
  go_wp2_with (first
    | (at_builtin; refine wpList_append_rdx _ rfl _ _ 22 rfl wB.heap.size 5 i0 _ 1 Tryd.underlying22 hi0 hz0 hz1 hz2 rfl (some ⟨wB.heap.size, 0, none⟩) 0 0 [] rfl (Own.made wB 5 #[] 0 rfl (by unfold maxLen; omega)) w.heap.size A0 n0 c0 (x0.map bv) rfl (HR0.out.below (HF.out.trans (Fresh.alloc _ _)) (Nat.le_refl _)) (bv_one x0) (by unfold maxLen; omega) (by omega) (by simp) ?_; intro Ab cb wC hoC hgC hwC; rw [hz0', List.nil_append] at hoC; rw [hz0'] at hwC; rw [hz0']; have hfC : Fresh wB wC := (Fresh.alloc _ _).append (Own.made wB 5 #[] 0 rfl (by unfold maxLen; omega)) (Nat.le_refl _) hgC)
    | (at_builtin; refine wpList_append_rdx _ rfl _ _ 22 rfl wB.heap.size 5 i0 _ 1 Tryd.underlying22 hi0 hz0 hz1 hz2 rfl Ab n0 cb (x0.map bv) rfl hoC w.heap.size A1 n1 c1 (x1.map bv) rfl (HR1.out.below (HF.out.trans hfC) (Nat.le_refl _)) (bv_one x1) (by unfold maxLen; omega) (by omega) hfC.size ?_; intro Ad cd wD hoD hgD hwD; rw [← List.map_append] at hoD; have hfD : Fresh wB wD := hfC.append hoC (Nat.le_refl _) hgD; have hcY := all_ok Ad (n0 + n1) cd (x0 ++ x1) wD wD.heap.size hoD.rd (Nat.le_refl _) (by omega) (HK.out _ (HF.out.trans hfD)) 20000 20000 rfl (by omega) x m k HT2.out HX.out; clear hoC hgC hwC hoD hgD hwD)
    | (go_at_call 10; (with_reducible refine hcY.mono ?_); rintro e wE ⟨Ay, cy, rfl, hoY, hfE⟩; clear hcY; have hfE2 := hfD.trans hfE; have hcZ := all_ok A0 k c0 (x0.take k) wE w.heap.size (by have := rd_first (HR0.out.below (HF.out.trans hfE2) (Nat.le_refl _)) hkn; rwa [← List.map_take] at this) (HF.out.trans hfE2).size (by omega) (HK.out _ (HF.out.trans hfE2)) (m : Nat) m rfl (by omega) x m k HT3.out HX.out)
    | (go_at_call 10; (with_reducible refine hcZ.mono ?_); rintro e wG ⟨Az, cz, rfl, hoZ, hfG⟩; clear hcZ; have hcS := same_yes Ax Ay m cx cy x wG _ _ ((HOX.out.fresh hfE2).fresh hfG).rd (hoY.fresh hfG).rd (by unfold maxLen; omega))
    | (go_at_call 11; (with_reducible refine hcS.mono ?_); rintro e wH ⟨rfl, hfH⟩; clear hcS; have hcQ := same_yes Ax Az m cx cz x wH _ _ (((HOX.out.fresh hfE2).fresh hfG).fresh hfH).rd (hoZ.fresh hfH).rd (by unfold maxLen; omega))
    | (go_at_call 11; (with_reducible refine hcQ.mono ?_); rintro e wI ⟨rfl, hfI⟩; clear hcQ))
  go_ret
  exact ⟨rfl, (((HF.out.trans hfE2).trans hfG).trans hfH).trans hfI⟩
end Go.Proofs.YtlaecigjnknhoaaDoor.inflateEnds
