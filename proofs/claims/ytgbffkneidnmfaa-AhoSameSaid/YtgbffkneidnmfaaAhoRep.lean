/-
  Layer 14: slices.Repeat of one int (as in XDefRep). My own text.
-/
import Derived.Test.YtgbffkneidnmfaaAhoAdd
import Derived.Test.YtgbffkneidnmfaaShelf
import Derived.Laws.CopyOwn
import Derived.Deep.RegionWith
namespace Go.Proofs.Ytgbffkneidnmfaa.ahop
open Go.RowKit Go.Maps Go.Proofs.Ytgbffkneidnmfaa.base Go.Proofs.Ytgbffkneidnmfaa.aho
set_option linter.unusedVariables false
theorem intSize : (Try.prog.info? 3).map (·.size) = some 1 := by kernel_rfl
set_option maxRecDepth 100000 in
set_option maxHeartbeats 8000000 in
theorem repeat_any (q k : Nat) (x : Int) (w : World) (hq : Bk w q 3 [iv x]) (hk : 1 ≤ k ∧ k ≤ 400) :
    Calls Try.prog 23 #[.slice (some ⟨q, 0, none⟩) 1 1, .int .i64 k] w fun e w' => ∃ g, e = .returned (.slice (some ⟨g, 0, none⟩) k k) ∧ Bk w' g 3 (List.replicate k (iv x)) ∧ w.heap.size ≤ g ∧ Fresh w w' := by
  obtain ⟨i0, hi0, hz0, hz1, hz2⟩ := info_parts intInfo
  have hmul : ∀ W, Calls Try.prog 33 #[.int .u64 1, .int .u64 k] W fun e w' => e = .returned (.tuple #[.int .u64 0, .int .u64 k]) ∧ w' = W := fun W => by
    have := Try.bits_Mul 1 k (by omega) (by omega) W
    rw [Nat.one_mul, Nat.div_eq_of_lt (by omega), Nat.mod_eq_of_lt (by omega)] at this
    exact this
  have HMUL := Lib.hid hmul
  have hk0 : ¬ (k : Int) < 0 := by omega
  have hk1 : wrap64 (k : Int) = k := IntWalk.wrap64_in _ ⟨by omega, by omega⟩
  have hk2 : ¬ (9223372036854775807 : Int) < (k : Int) := by omega
  have hk3 : IntKind.u64.wrap (k : Int) = (k : Int) := by
    rw [IntWalk.u64_in _ (by omega)]
  have HMB : Hid (i0.bytes * k ≤ 281474976710656 ∧ k ≤ maxLen) := ⟨by rw [hz2]; omega, by unfold maxLen; omega⟩
  have HQ := Lib.hid hq
  have HK := Lib.hid hk
  clear hmul hq hk
  go_enter Try.func23, Try.ntmps23
  go_wp2_with (first
    | (go_at_call 33; (with_reducible refine (HMUL.out _).mono ?_); rintro e w1 ⟨rfl, rfl⟩)
    | ((with_reducible (refine at_slot_ 30 ?_)); refine wpList_make_blk rfl 34 (.tmp 29) (.tmp 29) rfl 3 i0 _ Try.underlying34 hi0 hz0 hz1 rfl k rfl rfl HMB.out.1 HMB.out.2 _ rfl ?_; intro w2 hb2 hf2; have HB2 := Lib.hid hb2; have HF2 := Lib.hid hf2; clear hb2 hf2)
    | ((with_reducible (refine at_slot_ 33 ?_)); refine wpList_copy_blk rfl (.tmp 31) (.tmp 32) 34 34 rfl 3 Try.underlying34 intSize _ 0 k k (some ⟨q, 0, none⟩) 1 1 rfl rfl _ 3 HB2.out [iv x] 1 rfl (by have := HK.out; simp; omega) (by simp) ⟨q, 0, rfl, fun j v hj => by rw [Nat.zero_add]; exact (HQ.out.fresh HF2.out).cell hj⟩ (by have := HK.out; simp; omega) (by simp [iv]; rfl) ?_; intro w3 hb3 hbut3; have HB3 := Lib.hid hb3; have HBUT3 := Lib.hid hbut3; clear hb3 hbut3))
  go_loopw [8] (fun t wr => ∃ n : Nat, t = .int .i64 n ∧ 1 ≤ n ∧ n ≤ k ∧ Hid (Bk wr w1.heap.size 3 (List.replicate n (iv x) ++ List.replicate (k - n) (iv 0))) ∧ Hid (Fresh w1 wr)) (fun t _ => k - (intOf t).toNat)
  case atStart =>
    refine ⟨1, rfl, Nat.le_refl _, HK.out.1, ?_, Lib.hid (HF2.out.but (Nat.le_refl _) HBUT3.out)⟩
    have h3 := HB3.out
    obtain ⟨j, rfl⟩ : ∃ j, k = j + 1 := ⟨k - 1, by have := HK.out; omega⟩
    have e : splice (List.replicate (j + 1) (Value.int .i64 0)) 0 [iv x] = List.replicate 1 (iv x) ++ List.replicate (j + 1 - 1) (iv 0) := by
      simp [splice, List.replicate_succ, iv]
    rw [e] at h3
    exact Lib.hid h3
  case round =>
    obtain ⟨n, rfl, hn1, hnk, HB, HF⟩ := hrel
    by_cases hlt : n < k
    · have hk400 := HK.out.2
      obtain ⟨z, hz⟩ : ∃ z, min n (k - n) = z := ⟨_, rfl⟩
      have hz1 : 1 ≤ z ∧ n + z ≤ k := by omega
      have hzz : (List.replicate z (iv x)).length = Nat.min n (k - n) := by rw [List.length_replicate]; exact hz.symm
      have hcell : ∀ (W : World), Bk W w1.heap.size 3 (List.replicate n (iv x) ++ List.replicate (k - n) (iv 0)) → ∀ j v, (List.replicate z (iv x))[j]? = some v → W.cell? (Addr.add ⟨w1.heap.size, 0, none⟩ j) = some v := fun W hb j v hj => by
        have hjz : j < z := by have := (List.getElem?_eq_some_iff.1 hj).1; rwa [List.length_replicate] at this
        have hadd : Addr.add ⟨w1.heap.size, 0, none⟩ j = ⟨w1.heap.size, 0 + j, none⟩ := by unfold Addr.add; split <;> simp_all
        rw [hadd, Nat.zero_add]
        refine hb.cell ?_
        rw [List.getElem?_append_left (by rw [List.length_replicate]; omega)]
        rw [List.getElem?_replicate] at hj ⊢
        rw [if_pos (by omega)]
        rw [if_pos hjz] at hj
        exact hj
      have HCELL := Lib.hid hcell
      have HZZ := Lib.hid hzz
      have HZ1 := Lib.hid hz1
      clear hcell hzz
      have hnk1 : (n : Int) ≤ (k : Int) := by omega
      have hn0 : (0 : Int) ≤ (n : Int) := by omega
      go_wp2
      obtain ⟨G, hG⟩ : ∃ G, w1.heap.size = G := ⟨_, rfl⟩
      have hrun : ∃ wX, (Builtin.copy_ #[34, 34] 3 #[.slice (if k = n then some (⟨G, 0, none⟩ : Addr) else some ⟨G, n, none⟩) (k - n) (k - n), .slice (some ⟨G, 0, none⟩) n k]).run Try.prog wr.drew = .ok (.int .i64 (z : Nat)) wX ∧ Bk wX G 3 (List.replicate (n + z) (iv x) ++ List.replicate (k - (n + z)) (iv 0)) ∧ But G wr wX := by
        rw [if_neg (show ¬ k = n by omega)]
        rw [hG] at HB HCELL
        have hb := HB.out.fresh (Fresh.drew wr)
        have h := run_copy_row (P := Try.prog) wr.drew 34 34 3 3 G n (k - n) (k - n) ⟨G, 0, none⟩ n k _ 3 (List.replicate z (iv x)) Try.underlying34 intSize hb HZZ.out (HCELL.out _ hb) (by have := HZ1.out; simp; omega) (fun v hv => by rw [List.eq_of_mem_replicate hv]; rfl)
        have e : ((List.replicate n (iv x) ++ List.replicate (k - n) (iv 0)).toArray.toList.take n ++ List.replicate z (iv x) ++ (List.replicate n (iv x) ++ List.replicate (k - n) (iv 0)).toArray.toList.drop (n + (List.replicate z (iv x)).length)) = List.replicate (n + z) (iv x) ++ List.replicate (k - (n + z)) (iv 0) := by
          rw [List.toList_toArray, List.length_replicate, List.take_left' (by rw [List.length_replicate]), List.drop_append, List.drop_of_length_le (by rw [List.length_replicate]; omega), List.nil_append, List.length_replicate, List.drop_replicate, List.replicate_append_replicate]
          congr 2
          omega
        rw [e, List.length_replicate] at h
        exact ⟨wr.drew.setRow G (List.replicate (n + z) (iv x) ++ List.replicate (k - (n + z)) (iv 0)).toArray, h, hb.row _, (But.of_fresh (Fresh.drew wr)).trans (But.row G wr.drew _)⟩
      obtain ⟨wX, hrun, hbX, hbut⟩ := hrun
      have HBX := Lib.hid hbX
      have HBUT := Lib.hid hbut
      have HG := Lib.hid hG
      clear hbX hbut
      rw [hG]
      clear hG
      have znk : (n : Int) + (z : Int) ≤ (k : Int) := by have := HZ1.out; omega
      go_region_with (fail)
      all_goals go_wp2
      all_goals
        have ew : IntKind.i64.wrap ((n : Int) + (z : Int)) = ((n + z : Nat) : Int) := by rw [IntWalk.i64_in _ (by have := HK.out.2; omega)]; omega
        rw [ew]
        go_roundw
        case rel => exact ⟨_, ⟨n + z, rfl, by omega, HZ1.out.2, by rw [HG.out]; exact HBX, Lib.hid (HF.out.but (by rw [HG.out]; exact Nat.le_refl _) HBUT.out)⟩, HG.out.symm, rfl, HG.out.symm⟩
        case measure =>
          show k - ((n + z : Nat) : Int).toNat < k - ((n : Int)).toNat
          have := HZ1.out
          omega
    · have hin : n = k := by omega
      subst hin
      go_wp2
      go_ret
      refine ⟨w1.heap.size, rfl, ?_, Nat.le_refl _, HF.out⟩
      have := HB.out
      rw [Nat.sub_self, List.replicate_zero, List.append_nil] at this
      exact this
end Go.Proofs.Ytgbffkneidnmfaa.ahop
