import Derived.Test.YtcdehklcdipcfaaGreatMgPk
import Derived.Test.YtcdehklcdipcfaaGreatMgVc
import Derived.Sort.OwnSortedInts
/-
  pager's numbers. My own text.
-/
namespace Go.Proofs.YtcdehklcdipcfaaGreat.pgrp
open Go.RowKit Go.Maps Go.Sort Go.Proofs.YtcdehklcdipcfaaGreat.base Go.Proofs.YtcdehklcdipcfaaGreat.num Go.Proofs.YtcdehklcdipcfaaGreat.word Go.Proofs.YtcdehklcdipcfaaGreat.pagn Go.Proofs.YtcdehklcdipcfaaGreat.pgr Go.Proofs.YtcdehklcdipcfaaGreat.waln Go.Proofs.YtcdehklcdipcfaaGreat.walp Go.Proofs.YtcdehklcdipcfaaGreat.pagp
open Go.Proofs.YtcdehklcdipcfaaGreat.vfsnum hiding Bs
open Go.Proofs.YtcdehklcdipcfaaGreat.vfs (FsAt fsPtr Did tFS intKey key_int RangeOf.grown Own.ne_iter RangeOf.left_eq perm_step)
set_option linter.unusedVariables false
set_option linter.unusedSimpArgs false

/-- the numbers of the changed pages, rising -/
def sortN (l : List Ent) : List Int := (noS l).mergeSort fun x y => decide (x ≤ y)
def numOf : Value → Int
  | .int _ z => z
  | _ => 0
theorem sortN_perm (l : List Ent) : (sortN l).Perm (noS l) := List.mergeSort_perm _ _
theorem sortN_len (l : List Ent) : (sortN l).length = l.length := by rw [(sortN_perm l).length_eq, noS_len]
theorem sortN_sorted (l : List Ent) : (sortN l).Pairwise fun x y => x ≤ y := by
  have := List.pairwise_mergeSort (le := fun (x y : Int) => decide (x ≤ y)) (fun a b c h1 h2 => by simp only [decide_eq_true_eq] at *; omega) (fun a b => by simp only [Bool.or_eq_true, decide_eq_true_eq]; omega) (noS l)
  exact this.imp fun h => by simpa using h
theorem sort_perm {xs ys : List Int} (h : xs.Perm ys) : xs.mergeSort (fun x y => decide (x ≤ y)) = ys.mergeSort fun x y => decide (x ≤ y) := by
  have tr : ∀ a b c : Int, decide (a ≤ b) = true → decide (b ≤ c) = true → decide (a ≤ c) = true := fun a b c h1 h2 => by simp only [decide_eq_true_eq] at *; omega
  have tt : ∀ a b : Int, (decide (a ≤ b) || decide (b ≤ a)) = true := fun a b => by simp only [Bool.or_eq_true, decide_eq_true_eq]; omega
  refine List.Perm.eq_of_pairwise (le := fun a b => decide (a ≤ b) = true) (fun a b _ _ h1 h2 => ?_) (List.pairwise_mergeSort tr tt xs) (List.pairwise_mergeSort tr tt ys) (((List.mergeSort_perm xs _).trans h).trans (List.mergeSort_perm ys _).symm)
  simp only [decide_eq_true_eq] at h1 h2
  omega
theorem sort_ints (w0 w : World) (A : Option Addr) (n c : Nat) (ss : List Int) (hown : Own w w0.heap.size tI A n c (ss.map iv)) (hf : Fresh w0 w) (hn : ss.length = n) (hnb : n ≤ 1048576) :
    Calls Tryz.prog 106 #[.slice A n c] w fun e w' => e = .returned (.tuple #[]) ∧ Own w' w0.heap.size tI A n c ((ss.mergeSort fun x y => decide (x ≤ y)).map iv) ∧ Fresh w0 w' := by
  subst hn
  rcases hown.2 with ⟨hv, h0⟩ | ⟨g, cap, cur, hv, hb, hg, h1, h2, h3, h4⟩
  · have hss : ss = [] := List.eq_nil_of_length_eq_zero h0
    subst hss
    exact (Tryz.slices_Sort_int_none A c w).mono fun e w' ⟨he, hw⟩ => by subst hw; exact ⟨he, by simpa using hown, hf⟩
  · injection hv with hA hn hc
    subst hA; subst hc
    have hH : Holds (Value.int .i64) w g 0 ss.toArray := holds_of_blockI hg (by rw [Nat.mul_one] at h4; exact h4)
    refine (Tryz.slices_Sort_int g 0 c ss w hH (Array.getElem?_eq_some_iff.1 hg).1 (by omega)).mono fun e w' ⟨he, nn, os, hw⟩ => ?_
    subst hw
    have hl : (ss.mergeSort fun x y => decide (x ≤ y)).length = ss.length := List.length_mergeSort _
    exact ⟨he, ownsRow_sortedI hl hb hg h1 h2 h3, hf.append hown (Nat.le_refl _) (by have := grownBy_sortedI (w := w) (g := g) (n := nn) (os := os) (ss.mergeSort fun x y => decide (x ≤ y)).toArray; simpa [Value.ownBlock] using this)⟩
set_option maxRecDepth 100000 in
set_option maxHeartbeats 1000000 in
theorem numbers_any (w : World) (mb : Nat) (ch : List Ent) (hm : MapOf Tryz.prog tI w mb (kvB ch)) (hlen : ch.length ≤ 65537) :
    Calls Tryz.prog 75 #[.map (some mb)] w fun e w' => ∃ A c, e = .returned (.slice A ch.length c) ∧ Own w' w.heap.size tI A ch.length c ((sortN ch).map iv) ∧ Fresh w w' := by
  obtain ⟨i0, hi0, hz0, hz1, hz2⟩ := info_parts ints_info
  have hmb := hm.inside
  have hnl : noS ch = (kvB ch).map fun p => numOf p.1 := by unfold noS kvB; rw [List.map_map]; rfl
  have hkvl : (kvB ch).length ≤ 65537 := by unfold kvB; rwa [List.length_map]
  have hall : ∀ p ∈ kvB ch, ∃ z v, p = (Value.int .i64 z, v) := by
    intro p hp
    obtain ⟨x, _, rfl⟩ := List.mem_map.1 hp
    exact ⟨_, _, rfl⟩
  have hkl : (kvB ch).length = ch.length := by unfold kvB; rw [List.length_map]
  generalize kvB ch = kv at *
  have HNL := Lib.hid hnl
  have HALL := Lib.hid hall
  have HKL := Lib.hid hkl
  clear hnl hall hlen hkl
  go_enter Tryz.func75, Tryz.ntmps75
  go_wp2_with (at_range; refine wpList_map_range _ rfl _ tMapB rfl tI tBlk Tryz.underlying65 mb kv rfl hm w.heap.size rfl ?_; intro w0 hrg0 hf0 hs0)
  go_frame
  clear hs0
  go_loopw [3] (fun t wr => ∃ (ss : List Int) (A : Option Addr) (n c : Nat) (left : List (Value × Value)), t = .slice A n c ∧ Hid (ss.length = n) ∧ n + left.length ≤ 65537 ∧ RangeOf Tryz.prog tI wr mb w.heap.size kv left ∧ Own wr w.heap.size tI A n c (ss.map iv) ∧ Fresh w wr ∧
      Hid ((ss ++ (left.map fun p => numOf p.1)).Perm (noS ch))) (fun _ wr => wr.rangeLeft mb w.heap.size)
  case atStart => exact ⟨[], none, 0, 0, kv, rfl, rfl, by omega, hrg0, Own.nil _ _ _, hf0, by show List.Perm _ _; rw [HNL.out]; exact List.Perm.refl _⟩
  case round =>
    obtain ⟨ss, A, n, c, left, rfl, hss, hnl, hrg, hown, hfr, hperm⟩ := hrel
    go_wp2_with (at_next; refine wpList_map_next _ rfl _ rfl tI mb w.heap.size kv left rfl hrg ?_ ?_)
    · intro h0
      subst h0
      have hp2 : ss.Perm (noS ch) := by have := hperm.out; simpa using this
      have hso := sort_ints w wr A n c ss hown hfr hss.out (by simp at hnl; omega)
      rw [sort_perm hp2] at hso
      have hlen2 : n = ch.length := by have := hp2.length_eq; rw [noS_len] at this; have := hss.out; omega
      have HE := Lib.hid hlen2
      clear hp2 hss hperm hown hlen2
      go_wp2_with (go_at_call 106; refine hso.mono ?_; rintro e w' ⟨rfl, hown2, hfr2⟩)
      go_ret
      rw [← HE.out]
      exact ⟨A, c, rfl, hown2, hfr2⟩
    · intro key v left' w1 hp hrg1 hb1 hs1 hen
      obtain ⟨s, v', hkv⟩ := HALL.out (key, v) (hrg.sub _ (hp.mem_iff.2 (List.mem_cons_self ..)))
      obtain ⟨rfl, rfl⟩ : key = .int .i64 s ∧ v = v' := by injection hkv with h1 h2; exact ⟨h1, h2⟩
      have hps : ((ss ++ [s]) ++ left'.map fun p => numOf p.1).Perm (noS ch) := by
        have h1 := hp.map fun p => numOf p.1
        rw [List.append_assoc]
        exact (List.Perm.append_left ss h1.symm).trans hperm.out
      have hl2 := hp.length_eq
      rw [List.length_cons] at hl2
      have hfr1 := hfr.but (Nat.le_refl _) hb1
      have hne := Own.ne_iter hown hrg
      have hown1 := hown.but hb1 hne.1
      have hlen3 : left'.length < left.length := by omega
      have hll : wr.rangeLeft mb w.heap.size = left.length := RangeOf.left_eq hrg
      have HLL := Lib.hid hll
      have HL2 := Lib.hid hl2
      have HPS := Lib.hid hps
      clear hs1 hkv hl2 hll hps
      go_wp2_with (at_builtin; (refine wpList_append_rd _ rfl _ _ tInts rfl w.heap.size tI i0 _ 8 Tryz.underlying53 hi0 hz0 hz1 hz2 rfl A n c _ rfl (hown1.fresh (Fresh.alloc w1 _)) (w1.heap.size + 1) (some ⟨w1.heap.size, 0, none⟩) 1 1 [iv s] rfl (Rd.lit w1 #[iv s] tI) (iv_one [s]) (by unfold maxLen; omega) (by omega) (by have := hfr1.size; simp; omega) ?_); intro A2 c2 w2 hown2 hg2)
      have hrgN := RangeOf.grown (hrg1.fresh (Fresh.alloc w1 _)) hg2 hne.2 hne.1
      go_roundw
      case rel =>
        exact ⟨ss ++ [s], A2, n + 1, c2, left', rfl, by have := hss.out; show _ = _; rw [List.length_append, this]; rfl, by have := HL2.out; omega, hrgN, by simpa using hown2, (hfr1.trans (Fresh.alloc w1 _)).append (hown1.fresh (Fresh.alloc w1 _)) (Nat.le_refl _) hg2, HPS.out⟩
      case measure =>
        rw [RangeOf.left_eq hrgN, HLL.out]; exact hlen3
end Go.Proofs.YtcdehklcdipcfaaGreat.pgrp
