import Derived.Test.YtcmeoappddpmcaaDoorDefSizes
/-
  The reference's Times, of one byte so many times. My own text.
-/
namespace Go.Proofs.YtcmeoappddpmcaaDoor.defp
open Go.RowKit Go.Maps Go.Proofs.YtcmeoappddpmcaaDoor.base Go.Proofs.YtcmeoappddpmcaaDoor.num Go.Proofs.YtcmeoappddpmcaaDoor.bitnum Go.Proofs.YtcmeoappddpmcaaDoor.bitp Go.Proofs.YtcmeoappddpmcaaDoor.huffnum Go.Proofs.YtcmeoappddpmcaaDoor.huffp Go.Proofs.YtcmeoappddpmcaaDoor.infnum Go.Proofs.YtcmeoappddpmcaaDoor.infp
set_option linter.unusedVariables false
theorem rep_get (n : Nat) (c : UInt8) (j : Nat) (x : UInt8) (h : (List.replicate n c)[j]? = some x) : x = c := by
  rw [List.getElem?_replicate] at h
  split at h
  · injection h with h; exact h.symm
  · cases h
set_option maxRecDepth 100000 in
set_option maxHeartbeats 4000000 in
theorem refTimes_any (A : Option Addr) (n cc : Nat) (c : UInt8) (w : World) (B : Nat) (hr : Rd w B A n ((List.replicate n c).map bv)) (hB : B ≤ w.heap.size) (hn : n ≤ 100000) :
    Calls Tryd.prog 9 #[.slice A n cc] w fun e w' => e = .returned (.int .i64 (n : Nat)) ∧ Fresh w w' := by
  obtain ⟨i0, hi0, hz0, hz1, hz2⟩ := info_parts info_int
  have HR := Lib.hid hr
  have hc : c.toNat < 256 := c.toNat_lt
  clear hr
  go_enter Tryd.func9, Tryd.ntmps9
  go_wp2_with (with_reducible (refine at_slot_ 6 ?_); refine wpList_make_blk rfl 31 (.const (.int .i64 256)) (.const (.int .i64 256)) rfl 3 i0 _ Tryd.underlying31 hi0 hz0 hz1 rfl 256 rfl rfl (by rw [hz2]; omega) (by unfold maxLen; omega) w.heap.size rfl ?_; intro w1 hb1 hf1; have HB1 := Lib.hid hb1; have HF1 := Lib.hid hf1; clear hb1 hf1)
  go_loopw [4, 5] (fun vb vi wr => ∃ j : Nat, j ≤ n ∧ vi = .int .i64 j ∧ vb = .int .i64 j ∧ Hid (Bk wr w.heap.size 3 ((List.replicate 256 (iv 0)).set c.toNat (iv (j : Nat)))) ∧ Hid (Fresh w wr)) (fun _ vi _ => n - (intOf vi).toNat)
  case atStart =>
    refine ⟨0, by omega, rfl, rfl, ?_, HF1⟩
    refine Lib.hid ?_
    show Bk w1 w.heap.size 3 ((List.replicate 256 (iv 0)).set c.toNat (iv 0))
    rw [List.set_replicate_self]
    exact HB1.out
  case round =>
    obtain ⟨j, hj, rfl, rfl, hb, hf⟩ := hrel
    have hLs : w.heap.size < wr.heap.size := hb.out.inside
    by_cases hlt : j < n
    · obtain ⟨b, off, x, rfl, hb5, hx, hcx⟩ := (HR.out.keep (w' := wr) fun i hi => hf.out.block i (by omega)).at_ hlt
      have hx2 := rep_get n c j x hx
      subst hx2
      have hne : b ≠ w.heap.size := by omega
      have hcl : wr.cell? ⟨w.heap.size, x.toNat, none⟩ = some (iv (j : Nat)) := hb.out.cell (by rw [List.getElem?_set_self (by simp; omega)])
      have hfr := hb.out.free x.toNat
      have hc0 : (0 : Int) ≤ (x.toNat : Int) := by omega
      have hc1 : (x.toNat : Int) < 256 := by omega
      have hnew : Bk (wr.setCell ⟨w.heap.size, x.toNat, none⟩ (iv ((j : Int) + 1))) w.heap.size 3 ((List.replicate 256 (iv 0)).set x.toNat (iv ((j + 1 : Nat) : Int))) := by
        have h := hb.out.put x.toNat (iv ((j : Int) + 1))
        rw [List.set_set] at h
        rw [show ((j + 1 : Nat) : Int) = (j : Int) + 1 from by omega]
        exact h
      have hfn := hf.out.but (Nat.le_refl _) (But.put (g := w.heap.size) (i := x.toNat) wr (iv ((j : Int) + 1)))
      have HN := Lib.hid hnew
      have HFN := Lib.hid hfn
      clear hnew hfn hx hb hf
      go_wp2
      go_roundw
      case rel => exact ⟨j + 1, by omega, by go_num, by go_num, HN, HFN⟩
      case measure => simp [intOf]; omega
    · have h0 : j = n := by omega
      subst h0
      go_wp2
      go_ret
      exact ⟨rfl, hf.out⟩
end Go.Proofs.YtcmeoappddpmcaaDoor.defp
