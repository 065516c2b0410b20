/-
  The walk of the law WordRows. My own text.
-/
import Derived.Test.YtnhcolfldkaonaaPuts
import Derived.Test.YtnhcolfldkaonaaOpen
import Derived.Deep.DeepCutAuto
namespace Go.Proofs.Ytnhcolfldkaonaa.wordRows
open Go.RowKit Go.Proofs.Ytnhcolfldkaonaa.base Go.Proofs.Ytnhcolfldkaonaa.num Go.Proofs.Ytnhcolfldkaonaa.word
set_option linter.unusedVariables false

theorem u16_bd {z : Int} (h : (Lit.int .u16 z).wf = true) : 0 ≤ z ∧ z ≤ 65535 := by
  simpa [Lit.wf, IntKind.min, IntKind.max, IntKind.signed, IntKind.bits] using h
theorem i64_of_u16 {z : Int} (h : (Lit.int .u16 z).wf = true) : ∀ y ∈ [z], (Lit.int .i64 y).wf = true := by
  have := u16_bd h
  intro y hy; rw [List.mem_singleton] at hy; subst hy; exact WalkArith.wf_i64 (by omega)

theorem back2 (z : Int) (k : Nat) (hz : 0 ≤ z ∧ z ≤ 65535) (hk : 2 ≤ k) : (num (low k (u64 z)) : Int) = z := by
  have h1 : u64 z = z.toNat := by unfold u64; omega
  have h2 : 65536 ≤ 256 ^ k := by
    have := Nat.pow_le_pow_right (n := 256) (by omega) hk
    simpa using this
  rw [num_low, h1, Nat.mod_eq_of_lt (by omega)]
  omega

theorem wordRows_walk (A0 : Option Addr) (n0 c0 : Nat) (z0 : List Int) (a1 : Int) (w : World) (r0 : InRow .u16 w A0 n0 c0 z0) (w1 : (Lit.int .i64 a1).wf = true) :
    Calls Try.prog 5 #[.slice A0 n0 c0, .int .i64 a1] w fun e w' => e = .returned (.bool true) ∧ Below w.heap.size w w' := by
  obtain ⟨hr, hc, hm, hz⟩ := r0
  have hw := wide_bd a1
  have HM := Lib.hid hm
  have hm2 : n0 ≤ 9223372036854775807 := by unfold maxLen at hm; omega
  clear hm
  by_cases hbig : 100 < n0
  · go_enter Try.func5, Try.ntmps5
    go_wp2_with (go_at_call 9; refine (wakes_any _).mono ?_; rintro e wA ⟨rfl, hfA⟩)
    go_ret
    exact ⟨rfl, hfA⟩
  · have hlz : z0.length = n0 := by have := hr.1; rwa [List.length_map] at this
    have HLZ := Lib.hid hlz
    have HZ := Lib.hid hz
    clear hlz hz
    go_enter Try.func5, Try.ntmps5
    go_upto_region 5 with (first
      | (go_at_call 9; refine (wakes_any _).mono ?_; rintro e wA ⟨rfl, hfA⟩))
    go_cut [5] (fun s wx => ∃ k : Nat, 2 ≤ k ∧ k ≤ 7 ∧ s = .int .i64 k ∧ Fresh w wx)
    case first =>
      go_wp2_with (go_at_call 16; refine (wide_any _ _).mono ?_; rintro e w' ⟨rfl, rfl⟩)
      all_goals go_meet
      · exact ⟨2, by omega, by omega, rfl, hfA⟩
      · exact ⟨wide a1, by omega, by omega, rfl, hfA⟩
    case rest =>
      obtain ⟨k, hk2, hk7, rfl, hfB⟩ := hcut
      have hwk : wide (k : Int) = k := by unfold wide; split <;> (try split) <;> omega
      have HK := Lib.hid hwk
      clear hwk
      go_wp2
      go_loopw [6, 25] (fun v i wr => ∃ (j N c : Nat) (A : Option Addr), j ≤ n0 ∧ i = .int .i64 j ∧ v = .slice A N c ∧ Hid (N = j * k) ∧ Fresh w wr ∧ Rd wr wr.heap.size A N ((puts k (z0.take j)).map bv) ∧ N ≤ c ∧ Hid (c ≤ maxLen)) (fun _ i _ => n0 - (intOf i).toNat)
      case atStart => exact ⟨0, 0, 0, none, by omega, rfl, rfl, by simp [Hid], hfB, Rd.nil _ _ _, by omega, by simp [Hid]⟩
      case round =>
        obtain ⟨j, N, c, A, hj, rfl, rfl, hN, hfC, hrd, hNc, hcm⟩ := hrel
        have hjk : j * k ≤ 100 * 7 := Nat.mul_le_mul (by omega) hk7
        have hNb : N ≤ 700 := by have := hN.out; omega
        by_cases hlt : j < n0
        · obtain ⟨b, off, z, rfl, hb, hx, hcx⟩ := (hr.below hfC (Nat.le_refl _)).at_ hlt
          have HX := Lib.hid hx
          have hzb := u16_bd (HZ.out z (List.mem_of_getElem? hx))
          have HV := Lib.hid (i64_of_u16 (HZ.out z (List.mem_of_getElem? hx)))
          clear hx
          go_wp2_with (go_at_call 10; refine (put_is A N c (puts k (z0.take j)) k (some ⟨wr.heap.size, 0, none⟩) 1 1 [z] _ wr.heap.size (wr.heap.size + 1) (N + k) (puts k (z0.take (j + 1))) (hrd.alloc (Nat.le_refl _) _) (by simp) (Rd.lit wr #[.int .i64 z] 3) (by simp) HV.out (by omega) (by omega) (by rw [HK.out]; omega) (by rw [HK.out]; exact puts_snoc _ _ _ _ HX.out)).mono ?_; rintro e w2 ⟨A1, c1, rfl, hf1, ho1⟩)
          have hN2 : N + k = (j + 1) * k := by rw [hN.out, Nat.succ_mul]
          have HN2 := Lib.hid hN2
          clear hN2
          go_roundw
          case rel => exact ⟨j + 1, N + k, c1, A1, by omega, by go_num, rfl, HN2, (hfC.trans (Fresh.alloc _ _)).trans hf1, ho1.rd, ho1.cap.1, ho1.cap.2⟩
          case measure => simp [intOf]; omega
        · have h0 : n0 = j := by omega
          subst h0
          have he : ((N : Int) == (k : Int) * (n0 : Int)) = true := by rw [beq_iff_eq, hN.out, Int.natCast_mul, Int.mul_comm]
          have hb1 : 0 ≤ (k : Int) * (n0 : Int) := by rw [Int.mul_comm]; omega
          have hb2 : (k : Int) * (n0 : Int) ≤ 700 := by rw [Int.mul_comm]; omega
          rw [List.take_of_length_le (Nat.le_of_eq HLZ.out)] at hrd
          go_wp2
          go_loop [38] (fun i => ∃ t : Nat, t ≤ n0 ∧ i = .int .i64 t) (fun i => n0 - (intOf i).toNat)
          case atStart => exact ⟨0, by omega, rfl⟩
          case round =>
            obtain ⟨t, ht, rfl⟩ := hrel
            by_cases hlt2 : t < n0
            · obtain ⟨b, off, z, rfl, hb, hx, hcx⟩ := (hr.below hfC (Nat.le_refl _)).at_ hlt2
              have hzb := u16_bd (HZ.out z (List.mem_of_getElem? hx))
              have htk : t * k + k ≤ N := by
                have := Nat.mul_le_mul_right k (show t + 1 ≤ n0 from hlt2)
                rw [hN.out]; rw [Nat.succ_mul] at this; exact this
              have hb3 : 0 ≤ (t : Int) * (k : Int) := by omega
              have hb4 : (t : Int) * (k : Int) ≤ 700 := by omega
              have htn : ((t : Int) * (k : Int)).toNat = t * k := by omega
              have HTN := Lib.hid htn
              have hv : (num (((puts k z0).drop ((t : Int) * (k : Int)).toNat).take (wide k)) : Int) = z := by
                rw [htn, HK.out, puts_get _ _ _ _ hx, back2 _ _ hzb hk2]
              have HV := Lib.hid hv
              clear htn hv hx
              go_wp2_with (go_at_call 15; refine (get_is A N c (puts k z0) _ k _ wr.heap.size z hrd hNc hcm.out hb3 (by rw [HTN.out, HK.out]; exact htk) HV.out).mono ?_; rintro e w' ⟨rfl, rfl⟩)
              go_round
              case rel => exact ⟨t + 1, by omega, by go_num⟩
              case measure => simp [intOf]; omega
            · have h0 : t = n0 := by omega
              subst h0
              go_wp2_with (go_at_call 15; refine (get_end A N c N 1 _ (by unfold maxLen; omega) (by omega) (by omega) (by rw [show wide 1 = 1 from by decide]; omega)).mono ?_; rintro e w' ⟨rfl, rfl⟩)
              go_ret
              exact ⟨rfl, hfC⟩

end Go.Proofs.Ytnhcolfldkaonaa.wordRows
