/-
  The walk of the law InflateLong. My own text.
-/
import Derived.Test.YtlaecigjnknhoaaDoorInfLaw
import Derived.Test.YtlaecigjnknhoaaDoorOpen
namespace Go.Proofs.YtlaecigjnknhoaaDoor.inflateLong
open Go.RowKit Go.Proofs.YtlaecigjnknhoaaDoor.base Go.Proofs.YtlaecigjnknhoaaDoor.num Go.Proofs.YtlaecigjnknhoaaDoor.bitp Go.Proofs.YtlaecigjnknhoaaDoor.infnum Go.Proofs.YtlaecigjnknhoaaDoor.infp
set_option linter.unusedVariables false
set_option maxRecDepth 100000 in
set_option maxHeartbeats 8000000 in
theorem inflateLong_walk (A0 : Option Addr) (n0 c0 : Nat) (x0 : List UInt8) (a1 : Int) (w : World) (b0 : InBytes w A0 n0 c0 x0) (w1 : (Lit.int .u16 a1).wf = true) (hO : Ord w) :
    Calls Tryd.prog 6 #[.slice A0 n0 c0, .int .u16 a1] w fun e w' => e = .returned (.bool true) ∧ Below w.heap.size w w' := by
  obtain ⟨hr0, hn0, hm0⟩ := b0
  have h1 : 0 ≤ a1 ∧ a1 ≤ 65535 := by simpa [Lit.wf, IntKind.min, IntKind.max, IntKind.signed, IntKind.bits] using w1
  obtain ⟨N, rfl⟩ := Int.eq_ofNat_of_zero_le h1.1
  have hN : N ≤ 65535 := by omega
  obtain ⟨M, hM⟩ : ∃ M, N % 20000 = M := ⟨_, rfl⟩
  have hM1 : (N : Int) % 20000 = (M : Int) := by omega
  have hM2 : Int.tmod (N : Int) 20000 = (M : Int) := by rw [Int.tmod_eq_emod_of_nonneg (by omega)]; exact hM1
  have hM3 : M < 20000 := by omega
  unfold maxLen at hm0
  have HO := Lib.hid hO
  have HR0 := Lib.hid hr0
  clear hO hr0 w1 h1 hM
  by_cases hbig : 2000 < n0
  · go_enter Tryd.func6, Tryd.ntmps6
    go_wp2_with (go_at_call 9; refine (wakes_any _ HO.out).mono ?_; rintro e wA ⟨rfl, hfA⟩)
    go_ret
    exact ⟨rfl, hfA⟩
  have hkeep : ∀ W, Fresh w W → Ord W := fun W h => HO.out.keep (h.block _ (Ord.in HO.out))
  have HK := Lib.hid hkeep
  clear hkeep
  go_enter Tryd.func6, Tryd.ntmps6
  go_upto_region 6 with (first
    | (go_at_call 9; refine (wakes_any _ HO.out).mono ?_; rintro e wA ⟨rfl, hfA⟩)
    | (go_at_call 10; refine (all_either A0 n0 c0 x0 wA w.heap.size (HR0.out.below hfA (Nat.le_refl _)) hfA.size (by omega) (HK.out _ hfA) 20000 20000 rfl (by omega)).mono ?_; rintro e wB ⟨hfB, hres⟩; have HF := Lib.hid (hfA.trans hfB); (rcases hres with ⟨x, m, k, Ax, cx, hT, hx, rfl, ho⟩ | ⟨er, ht, hne, rfl⟩)))
  rotate_left
  · -- an error, in either
    have hne2 : ¬ (er : Int) = 0 := by omega
    have hno : ∀ (e : Ending) (w' : World), (Fresh wB w' ∧ ((∃ x m k A1 c1, Tells x0 M (.ok x k) ∧ x.length = m ∧ e = .returned (.tuple #[.slice A1 m c1, .int .i64 (k : Nat), .int .i64 0]) ∧ Own w' wB.heap.size 5 A1 m c1 (x.map bv)) ∨
       (∃ er, (er = 10 ∧ Tells x0 M .long ∨ Tells x0 M (.bad er)) ∧ er ≠ 0 ∧ e = .returned (.tuple #[.slice none 0 0, .int .i64 0, .int .i64 (er : Nat)])))) → Fresh wB w' ∧ ∃ er : Nat, er ≠ 0 ∧ e = .returned (.tuple #[.slice none 0 0, .int .i64 0, .int .i64 (er : Nat)]) := by
      rintro e w' ⟨hf, ⟨x, m, k, A1, c1, hT, _⟩ | ⟨er2, _, h2, h3⟩⟩
      · exfalso
        have hT2 := hT.more (most := 20000) (by omega)
        rcases ht with ⟨_, ht⟩ | ht
        · cases ht.uniq hT2
        · cases ht.uniq hT2
      · exact ⟨hf, er2, h2, h3⟩
    have hcall : Calls Tryd.prog 10 #[.slice A0 n0 c0, .int .i64 M] wB fun e w' => Fresh wB w' ∧ ∃ er : Nat, er ≠ 0 ∧ e = .returned (.tuple #[.slice none 0 0, .int .i64 0, .int .i64 (er : Nat)]) := (all_either A0 n0 c0 x0 wB w.heap.size (HR0.out.below HF.out (Nat.le_refl _)) HF.out.size (by omega) (HK.out _ HF.out) M M rfl (by omega)).mono hno
    have HC := Lib.hid hcall
    clear hno hcall ht
    go_wp2_with (go_at_call 10; refine HC.out.mono ?_; rintro e wC ⟨hfC, er2, hne2, rfl⟩)
    go_ret
    exact ⟨by simp; omega, HF.out.trans hfC⟩
  have HX := Lib.hid hx
  have HOX := Lib.hid ho
  have hm20 : m ≤ 20000 := by rw [← hx]; exact hT.2
  by_cases hlong : M < m
  · have hT2 : Tells x0 M .long := hT.fewer (by omega)
    have HT2 := Lib.hid hT2
    clear hT hT2 hx ho
    go_wp2_with (go_at_call 10; refine (all_long A0 n0 c0 x0 wB w.heap.size (HR0.out.below HF.out (Nat.le_refl _)) HF.out.size (by omega) (HK.out _ HF.out) M M rfl (by omega) HT2.out).mono ?_; rintro e wC ⟨rfl, hfC⟩)
    go_ret
    exact ⟨rfl, HF.out.trans hfC⟩
  · have hT2 : Tells x0 M (.ok x k) := ⟨hT.1, by omega⟩
    have HT2 := Lib.hid hT2
    clear hT hT2 hx ho
    go_wp2_with (first
      | (go_at_call 10; refine (all_ok A0 n0 c0 x0 wB w.heap.size (HR0.out.below HF.out (Nat.le_refl _)) HF.out.size (by omega) (HK.out _ HF.out) M M rfl (by omega) x m k HT2.out HX.out).mono ?_; rintro e wC ⟨Ay, cy, rfl, hoY, hfC⟩)
      | (go_at_call 11; refine (same_yes Ax Ay m cx cy x wC _ _ (HOX.out.fresh hfC).rd hoY.rd (by unfold maxLen; omega)).mono ?_; rintro e wH ⟨rfl, hfH⟩))
    go_ret
    exact ⟨rfl, (HF.out.trans hfC).trans hfH⟩
end Go.Proofs.YtlaecigjnknhoaaDoor.inflateLong
