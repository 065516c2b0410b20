/-
  The contract of vfs's file.crash. My own text.
-/
import Derived.Test.YtelghdfikcodmaaVfsCut
import Derived.Laws.BitsAllLaws
namespace Go.Proofs.Ytelghdfikcodmaa.vfs
open Go.RowKit Go.Maps Go.Proofs.Ytelghdfikcodmaa.base Go.Proofs.Ytelghdfikcodmaa.vfsnum
set_option linter.unusedVariables false

theorem keep_bit (keep i : Nat) (h : keep < 18446744073709551616) : bits .and .u64 ((keep : Int) / 2 ^ (i % 64)) 1 = if keeps keep i = true then 1 else 0 := by
  have h1 : (keep : Int) / 2 ^ (i % 64) = ((keep / 2 ^ (i % 64) : Nat) : Int) := by simp
  have h2 : keep / 2 ^ (i % 64) ≤ keep := Nat.div_le_self _ _
  have h3 := u64_and_nat (keep / 2 ^ (i % 64)) 1 (by omega) (by decide)
  rw [Nat.and_one_is_mod] at h3
  rw [h1]
  refine h3.trans ?_
  unfold keeps
  rcases Nat.mod_two_eq_zero_or_one (keep / 2 ^ (i % 64)) with h | h <;> simp [h]

set_option maxRecDepth 100000 in
set_option maxHeartbeats 1000000 in
theorem crash_any (g : Nat) (f : Fl) (bl : List Nat) (keep i : Nat) (w : World) (h : FileRaw w g (rawOf f) bl) (hok : FlOk f) (hkeep : keep < 18446744073709551616) (hi : i ≤ 4294967296) :
    Calls Try.prog 78 #[.pointer (some ⟨g, 0, none⟩), .int .u64 keep, .int .i64 i] w fun e w' => e = .returned (.int .i64 (i + cnt f.old (takes f.bs.length) : Nat)) ∧ ∃ bl', FileRaw w' g (rawOf (cr f keep i)) bl' ∧ Turn bl bl' w w' := by
  have hfl := hok.1
  have h2 : ∃ A c, w.cell? ⟨g, 2, none⟩ = some (.slice A (takes f.bs.length) c) := by
    obtain ⟨wb, A, c, kv, sb, rfl, hnd, hb, hs, hm, hk⟩ := h
    exact ⟨A, c, hb.cell rfl⟩
  obtain ⟨A, c, h2⟩ := h2
  obtain ⟨N, hN⟩ : ∃ N, takes f.bs.length = N := ⟨_, rfl⟩
  have hN3 : N ≤ 65536 := by rw [← hN]; unfold takes; omega
  rw [hN] at h2 ⊢
  have HN := Lib.hid hN
  have HOK := Lib.hid hok
  clear hN hok
  go_enter Try.func78, Try.ntmps78
  go_wp2
  clear h2
  go_loopw [2, 15] (fun ti t wr => ∃ (k : Nat), t = .int .i64 k ∧ ti = .int .i64 (i + cnt f.old k : Nat) ∧ k ≤ N ∧ FileRaw wr g ⟨f.bs.length, f.stamp, N, gone f keep i k, f.old⟩ bl ∧ Turn bl bl w wr) (fun _ t _ => N - (intOf t).toNat)
  case atStart => exact ⟨0, rfl, rfl, Nat.zero_le _, by rw [gone_zero, ← HN.out]; exact h, Turn.refl _ _⟩
  case round =>
    obtain ⟨k, rfl, rfl, hk2, hfr, hT⟩ := hrel
    by_cases hlt : k < N
    · obtain ⟨wb, A, c, kv, sb, rfl, hnd, hb, hs, hm, hk⟩ := hfr
      have h2 := hb.cell (i := 2) rfl
      have h3 := hb.cell (i := 3) rfl
      have hlti : (k : Int) < (N : Int) := by omega
      have HT := Lib.hid hT
      have HH := Lib.hid h
      have hcn := cnt_succ f.old k
      have hcl := cnt_le f.old k
      obtain ⟨j, hj⟩ : ∃ j, i + cnt f.old k = j := ⟨_, rfl⟩
      have hj3 : j ≤ 4294967296 + 65536 := by omega
      rw [hj]
      cases ho : f.old k with
      | none =>
        have hmiss := hk.miss ho
        rw [ho] at hcn
        have HG := Lib.hid (gone_keep f keep i k (.inl ho))
        have HJ := Lib.hid (show i + cnt f.old (k + 1) = j by rw [hcn]; simpa using hj)
        clear ho hcn hcl hj hT h
        go_wp2_with (first
          | (at_lookup; refine wpList_look_miss_ok _ rfl _ _ 105 rfl 3 116 intKey Try.underlying105 _ (secZero _) wb kv rfl hm _ _ rfl (key_int k (by omega)) hmiss ?_)
          | ((with_reducible (refine at_store_ 8 25 ?_)); refine wpList_store_new rfl 116 (.tmp 8) (.tmp 25) rfl wr.heap.size (zs.map bv) rfl rfl wr _ _ rfl rfl (by kernel_rfl) (bv_all _) (secInfoOf _ rfl) ?_; intro w1 hb1 hf1 hg1))
        go_roundw
        case rel =>
          refine ⟨k + 1, by go_num, by rw [HJ.out], by omega, ?_, HT.out.trans (Turn.fresh hf1)⟩
          rw [HG.out]
          exact (show FileRaw wr g _ _ from ⟨wb, A, c, kv, sb, rfl, hnd, hb, hs, hm, hk⟩).keep fun b hbm => hf1.block b ((show FileRaw wr g ⟨f.bs.length, f.stamp, N, gone f keep i k, f.old⟩ (g :: wb :: sb) from ⟨wb, A, c, kv, sb, rfl, hnd, hb, hs, hm, hk⟩).inside b hbm)
        case measure => simp [intOf]; omega
      | some o =>
        have hin := hk.hit ho
        have hol := (HOK.out.2 k o ho).2
        rw [ho] at hcn
        have HJ := Lib.hid (show i + cnt f.old (k + 1) = j + 1 by rw [hcn]; simp; omega)
        have HO := Lib.hid ho
        have HJ0 := Lib.hid hj
        have ebit := keep_bit keep j hkeep
        clear ho hcn hcl hj hT h
        cases hkp : keeps keep j with
        | true =>
          have HG := Lib.hid (gone_keep f keep i k (.inr (by rw [HJ0.out]; exact hkp)))
          rw [hkp, if_pos rfl] at ebit
          clear hkp
          go_wp2_with (first
            | (at_lookup; refine wpList_look_hit_ok _ rfl _ _ 105 rfl 3 116 intKey Try.underlying105 wb kv rfl hm _ _ _ rfl (key_int k (by omega)) hin ?_)
            | ((with_reducible (refine at_store_ 8 25 ?_)); refine wpList_store_new rfl 116 (.tmp 8) (.tmp 25) rfl wr.heap.size (o.map bv) rfl rfl wr _ _ rfl rfl (by rw [List.length_map, hol]; kernel_rfl) (bv_all _) (secInfoOf _ hol) ?_; intro w1 hb1 hf1 hg1))
          go_roundw
          case rel =>
            refine ⟨k + 1, by go_num, by rw [HJ.out]; go_num, by omega, ?_, HT.out.trans (Turn.fresh hf1)⟩
            rw [HG.out]
            exact (show FileRaw wr g _ _ from ⟨wb, A, c, kv, sb, rfl, hnd, hb, hs, hm, hk⟩).keep fun b hbm => hf1.block b ((show FileRaw wr g ⟨f.bs.length, f.stamp, N, gone f keep i k, f.old⟩ (g :: wb :: sb) from ⟨wb, A, c, kv, sb, rfl, hnd, hb, hs, hm, hk⟩).inside b hbm)
          case measure => simp [intOf]; omega
        | false =>
          have HG := Lib.hid (gone_lose f keep i k o (by rw [HN.out]; omega) HO.out hol (by rw [HJ0.out]; exact hkp))
          rw [hkp, if_neg (by simp)] at ebit
          clear hkp
          obtain ⟨q, rest, rfl, rfl, hq, hrest⟩ := hs.row (by show 0 < N; omega)
          go_wp2_with (first
            | (at_lookup; refine wpList_look_hit_ok _ rfl _ _ 105 rfl 3 116 intKey Try.underlying105 wb kv rfl hm _ _ _ rfl (key_int k (by omega)) hin ?_)
            | ((with_reducible (refine at_store_ 8 25 ?_)); refine wpList_store_new rfl 116 (.tmp 8) (.tmp 25) rfl wr.heap.size (o.map bv) rfl rfl wr _ _ rfl rfl (by rw [List.length_map, hol]; kernel_rfl) (bv_all _) (secInfoOf _ hol) ?_; intro w1 hb1 hf1 hg1))
          have hf1' := hf1.trans (Fresh.drew w1)
          have hbW := hb.fresh hf1
          have h2' := hbW.cell (i := 2) rfl
          have hfl2 := hs.1
          clear h2 h3
          refine wp_region_still_tail 7 (by kernel_rfl) (by kernel_rfl) ?_
          simp only [List.take_succ_cons, List.take_zero, List.drop_succ_cons, List.drop_zero]
          iterate 5 still_step
          refine wpStill_load_blk rfl 116 (.tmp 8) rfl wr.heap.size 0 64 116 _ rfl (hb1.fresh (Fresh.drew w1)) (by rw [List.length_map, hol]; decide) _ Try.underlying116 rfl secInfo (o.map bv) (by rw [List.drop_zero, List.take_of_length_le (by rw [List.length_map, hol]; decide)]) ?_
          still_step
          refine wpStill_nil ?_
          go_wp2_with ((with_reducible (refine at_store_ 41 40 ?_)); refine wpList_store_blk rfl 116 (.tmp 41) (.tmp 40) rfl q (k * 64) tSec _ (o.map bv) rfl rfl (hq.fresh hf1') (by rw [List.length_append, List.length_map, List.length_map, hol, hfl2]; show _ ≤ 64 * N + _; omega) (bv_all _) (secInfoOf _ hol) ?_; intro w2 hb2 hbut2)
          go_roundw
          case rel =>
            have hne : g ≠ q ∧ wb ≠ q := by simp at hnd; exact ⟨hnd.1.2, hnd.2⟩
            have keepb : ∀ b, b < wr.heap.size → b ≠ q → w2.heap[b]? = wr.heap[b]? := fun b hb hn => (hbut2.block b (Nat.lt_of_lt_of_le hb hf1'.size) (fun e => hn (by injection e))).trans (hf1'.block b hb)
            refine ⟨k + 1, by go_num, by rw [HJ.out]; go_num, by omega, ⟨wb, some ⟨q, 0, none⟩, c, kv, [q], rfl, hnd, hb.old (keepb g hb.inside hne.1), ?_, hm.old (keepb wb hm.inside hne.2), hk⟩, (HT.out.trans (Turn.fresh hf1')).trans (Turn.but hbut2 (by simp))⟩
            rw [← HG.out]
            exact hs.put hrest _ _ (by rw [hol]; show _ ≤ 64 * N; omega) (by rw [Nat.mul_comm 64 k]; exact hb2)
          case measure => simp [intOf]; omega
    · have hkN : k = N := by omega
      subst hkN
      have hcr := cr_raw f keep i ⟨f.bs.length, f.stamp, k, gone f keep i k, fun _ => none⟩ (by rw [HN.out])
      have HC := Lib.hid hcr
      have hle : f.bs.length ≤ 64 * k := by rw [← HN.out]; exact le_takes _
      have HT := Lib.hid hT
      clear hcr hT h
      go_wp2_with (first
        | (go_at_call 82; (refine (sync_any g _ _ _ hfr).mono ?_); rintro e w1 ⟨rfl, bl1, hr1, hT1⟩)
        | (go_at_call 95; (refine (blank_any g _ _ _ hr1 hle hN3).mono ?_); rintro e w2 ⟨rfl, hr2, hT2⟩))
      rw [HC.out] at hr2
      go_ret
      exact ⟨rfl, _, hr2, (HT.out.trans hT1).trans hT2⟩
end Go.Proofs.Ytelghdfikcodmaa.vfs
