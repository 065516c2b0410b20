/-
  The contract of read: a text as six numbers. My own text.
-/
import Derived.Test.YtgmpdkkpmgedjaaDosRight
import Derived.Test.YtgmpdkkpmgedjaaDosTxt
import Derived.Test.YtgmpdkkpmgedjaaStore
namespace Go.Proofs.Ytgmpdkkpmgedjaa.dosp
open Go.RowKit Go.Proofs.Ytgmpdkkpmgedjaa.base Go.Proofs.Ytgmpdkkpmgedjaa.num Go.Proofs.Ytgmpdkkpmgedjaa.bitnum Go.Proofs.Ytgmpdkkpmgedjaa.dosnum
set_option linter.unusedVariables false

def cellsN (t : List UInt8) (k : Nat) : List Value := (List.range 6).map fun j => .int .i64 (nums t k j)

theorem cellsN_len (t : List UInt8) (k : Nat) : (cellsN t k).length = 6 := by simp [cellsN]
theorem cellsN_get (t : List UInt8) (k : Nat) {j : Nat} (h : j < 6) : (cellsN t k)[j]? = some (.int .i64 (nums t k j)) := by simp [cellsN, h]
theorem cellsN_zero (t : List UInt8) : cellsN t 0 = momL zero := by
  simp only [cellsN, nums_zero]
  rfl
theorem cellsN_sign {t : List UInt8} {k : Nat} (hk : k < 19) (hs : shp[k]? ≠ some 48) : cellsN t (k + 1) = cellsN t k := by
  simp only [cellsN]
  refine List.map_congr_left fun j hj => ?_
  rw [nums_sign hk hs j (List.mem_range.1 hj)]
theorem cellsN_digit {t : List UInt8} {k : Nat} (hk : k < 19) {c : UInt8} (hc : t[k]? = some c) (hs : shp[k]? = some 48) :
    (cellsN t k).set (wh k) (.int .i64 (nums t k (wh k) * 10 + ((c.toNat : Int) - 48))) = cellsN t (k + 1) := by
  refine List.ext_getElem? fun j => ?_
  by_cases hj : j < 6
  · rw [List.getElem?_set, cellsN_len, cellsN_get t k hj, cellsN_get t (k + 1) hj, nums_digit hk hc hs j hj]
    have := wh_le k
    by_cases e : wh k = j
    · rw [if_pos e, if_pos (by omega), if_pos e.symm, e]
    · rw [if_neg e, if_neg (fun h => e h.symm)]
  · rw [List.getElem?_eq_none (by rw [List.length_set, cellsN_len]; omega), List.getElem?_eq_none (by rw [cellsN_len]; omega)]

set_option maxHeartbeats 4000000 in
theorem read_any (t : ByteArray) (l : List UInt8) (n : Nat) (hl : l = t.data.toList) (hn : l.length = n) (h19 : n ≤ 19) (w : World) :
    Calls Try.prog 23 #[.string t] w fun e w' => e = .returned (momV (readM l)) ∧ Fresh w w' := by
  have hsz : t.size = n := by rw [← hn, hl]; exact (Array.length_toList (xs := t.data)).symm
  have hb := (Bk.made w 25 #[.int .i64 0, .int .i64 0, .int .i64 0, .int .i64 0, .int .i64 0, .int .i64 0]).alloc (.cells #[.int .i64 0, .int .i64 0, .int .i64 0, .int .i64 0, .int .i64 0, .int .i64 0] 22)
  have hm := Bk.made (w.alloc (.cells #[.int .i64 0, .int .i64 0, .int .i64 0, .int .i64 0, .int .i64 0, .int .i64 0] 25)) 22 #[.int .i64 0, .int .i64 0, .int .i64 0, .int .i64 0, .int .i64 0, .int .i64 0]
  have hf := (Fresh.alloc w (.cells #[.int .i64 0, .int .i64 0, .int .i64 0, .int .i64 0, .int .i64 0, .int .i64 0] 25)).trans (Fresh.alloc _ (.cells #[.int .i64 0, .int .i64 0, .int .i64 0, .int .i64 0, .int .i64 0, .int .i64 0] 22))
  have hsz1 : (w.alloc (.cells #[.int .i64 0, .int .i64 0, .int .i64 0, .int .i64 0, .int .i64 0, .int .i64 0] 25)).heap.size = w.heap.size + 1 := by simp
  rw [hsz1] at hm
  have HB := Lib.hid hb
  have HM := Lib.hid hm
  have HF := Lib.hid hf
  clear hb hm hf hsz1
  go_enter Try.func23, Try.ntmps23
  go_wp2
  go_loopw [4, 9] (fun v i wr => ∃ (k q : Nat), k ≤ n ∧ i = .int .i64 k ∧ v = .int .i64 q ∧ q ≤ 5 ∧ Hid (q = wh k) ∧ Hid (fitsTo shp l k) ∧ Bk wr (w.heap.size + 1) 22 (cellsN l k) ∧ Bk wr w.heap.size 25 (momL zero) ∧ Fresh w wr) (fun _ i _ => n - (intOf i).toNat)
  case atStart => exact ⟨0, 0, by omega, rfl, rfl, by omega, rfl, fun i c s hi => absurd hi (by omega), by rw [cellsN_zero]; exact HM.out, HB.out, HF.out⟩
  case round =>
    obtain ⟨k, q, hk, rfl, rfl, hq5, hq, hfit, hM, hZ, hfr⟩ := hrel
    have HL := Lib.hid hl
    have HFR := Lib.hid hfr
    have HZ := Lib.hid hZ
    have HM := Lib.hid hM
    clear hl hfr hZ hM
    by_cases hlt : k < n
    · obtain ⟨x, hx⟩ : ∃ x, l[k]? = some x := ⟨l[k]'(by omega), List.getElem?_eq_getElem (by omega)⟩
      obtain ⟨s, hs⟩ : ∃ s, shp[k]? = some s := ⟨shp[k]'(by show k < 19; omega), List.getElem?_eq_getElem (by show k < 19; omega)⟩
      have ht : ∀ h, t[k]'h = x := by
        intro h
        have h1 : t.data.toList[k]? = some x := by rw [← HL.out]; exact hx
        have h2 : t.data[k]? = some x := by simpa using h1
        obtain ⟨_, h3⟩ := Array.getElem?_eq_some_iff.1 h2
        exact h3
      have hsh : ∀ h, (⟨#[48, 48, 48, 48, 45, 48, 48, 45, 48, 48, 32, 48, 48, 58, 48, 48, 58, 48, 48]⟩ : ByteArray)[k]'h = s := by
        intro h
        have h2 : (#[48, 48, 48, 48, 45, 48, 48, 45, 48, 48, 32, 48, 48, 58, 48, 48, 58, 48, 48] : Array UInt8)[k]? = some s := by rw [← Array.getElem?_toList]; exact hs
        obtain ⟨_, h3⟩ := Array.getElem?_eq_some_iff.1 h2
        exact h3
      have HX := Lib.hid hx
      have HS := Lib.hid hs
      clear hx hs
      by_cases h48 : s = 48
      · subst h48
        by_cases hd : 48 ≤ x.toNat ∧ x.toNat ≤ 57
        · obtain ⟨d1, d2⟩ := hd
          have hn0 := nums_bd hfit.out (by omega) q (by omega)
          have hc1 := HM.out.cell (cellsN_get l k (j := q) (by omega))
          have hf1 := HM.out.free q
          have hset := cellsN_digit (t := l) (k := k) (by omega) HX.out HS.out
          rw [← hq.out] at hset
          obtain ⟨N, hN⟩ : ∃ N, nums l k q = N := ⟨_, rfl⟩
          rw [hN] at hc1 hn0 hset
          obtain ⟨X, hX⟩ : ∃ X, x.toNat = X := ⟨_, rfl⟩
          have hx1 : (48 : Int) ≤ X := by omega
          have hx2 : (X : Int) ≤ 57 := by omega
          have hn1 := hn0.1
          have hn2 : N ≤ 9999 := by omega
          have hp := HM.out.put q (.int .i64 (N * 10 + ((X : Int) - 48)))
          rw [hX] at hset
          rw [hset] at hp
          have hf2 := HFR.out.but (g := w.heap.size + 1) (by omega) (But.put (g := w.heap.size + 1) (i := q) wr (.int .i64 (N * 10 + ((X : Int) - 48))))
          have hz2 := HZ.out.apart (p := ⟨w.heap.size + 1, q, none⟩) (by simp) (.int .i64 (N * 10 + ((X : Int) - 48)))
          have HP := Lib.hid hp
          have HF2 := Lib.hid hf2
          have HZ2 := Lib.hid hz2
          have q0 : (0 : Int) ≤ (q : Int) := by omega
          have q6 : (q : Int) ≤ 5 := by omega
          have t3 : decide ((X : Int) < 48) = false := by rw [decide_eq_false_iff_not]; omega
          have t4 : decide (57 < (X : Int)) = false := by rw [decide_eq_false_iff_not]; omega
          clear hn0 hset hN hp hf2 hz2 d1 d2
          go_wp2
          have hfx : fits 48 x = true := by
            simp only [fits, if_pos, UInt8.le_iff_toNat_le]
            have : (48 : UInt8).toNat = 48 := rfl
            have : (57 : UInt8).toNat = 57 := rfl
            simp
            omega
          have hq2 := (wh_digit ⟨k, by omega⟩ HS.out).1
          exact ⟨⟨k + 1, q, by omega, by go_num, rfl, by omega, hq.out.trans hq2.symm, fitsTo_step hfit.out HX.out HS.out hfx, HP.out, HZ2.out, HF2.out⟩, by simp [intOf]; omega⟩
        · have t3 : x.toNat < 48 ∨ 57 < x.toNat := by omega
          have hbad : fits 48 x = false := by
            simp only [fits, if_pos, UInt8.le_iff_toNat_le]
            have : (48 : UInt8).toNat = 48 := rfl
            have : (57 : UInt8).toNat = 57 := rfl
            simp
            omega
          have HBAD := Lib.hid hbad
          clear hbad hd
          rcases t3 with t3 | t3
          all_goals
            go_wp2_with (refine wpList_store_row (o := ⟨none, _, _, _, _, _⟩) rfl 25 (.tmp 2) (.tmp 43) rfl w.heap.size (momL zero).toArray rfl rfl 25 _ HZ.out (by kernel_rfl) (by simp) (by kernel_rfl) ?_)
            exact bodyPost_ret (results_cell_row (p := 2) (by kernel_rfl) _ _ w.heap.size 25 (momL zero).toArray (0, 0) _ rfl (HZ.out.row _) Try.underlying25 rfl (by kernel_rfl)) rfl ⟨by rw [show readM l = zero by unfold readM; rw [if_neg (by rw [fitsB_bad HX.out HS.out HBAD.out]; simp)]], HFR.out.but (Nat.le_refl _) (But.row _ _ _)⟩
      · have t1 : ((s.toNat : Int) != 48) = true := by
          rw [bne_iff_ne]
          intro h
          exact h48 (UInt8.toNat_inj.1 (by have : (48 : UInt8).toNat = 48 := rfl; omega))
        have H48 := Lib.hid h48
        clear h48
        by_cases hxs : x = s
        · subst hxs
          have t2 : ((x.toNat : Int) != x.toNat) = false := by simp
          go_wp2
          go_roundw
          case rel =>
            have hsg : shp[k]? ≠ some 48 := by rw [HS.out]; intro h; injection h with h; exact H48.out h
            have hw := wh_sign ⟨k, by omega⟩ x HS.out H48.out
            have hq' := hq.out
            simp only at hw
            refine ⟨k + 1, q + 1, by omega, by go_num, by go_num, by omega, ?_, ?_, ?_, HZ.out, HFR.out⟩
            · show _ = _
              omega
            · exact fitsTo_step hfit.out HX.out HS.out (by rw [fits, if_neg H48.out]; simp)
            · rw [cellsN_sign (by omega) hsg]
              exact HM.out
          case measure => simp [intOf]; omega
        · have t2 : ((x.toNat : Int) != s.toNat) = true := by
            rw [bne_iff_ne]
            intro h
            exact hxs (UInt8.toNat_inj.1 (by omega))
          go_wp2_with (refine wpList_store_row (o := ⟨none, _, _, _, _, _⟩) rfl 25 (.tmp 2) (.tmp 33) rfl w.heap.size (momL zero).toArray rfl rfl 25 _ HZ.out (by kernel_rfl) (by simp) (by kernel_rfl) ?_)
          exact bodyPost_ret (results_cell_row (p := 2) (by kernel_rfl) _ _ w.heap.size 25 (momL zero).toArray (0, 0) _ rfl (HZ.out.row _) Try.underlying25 rfl (by kernel_rfl)) rfl ⟨by rw [show readM l = zero by unfold readM; rw [if_neg (by rw [fitsB_bad HX.out HS.out (by rw [fits, if_neg H48.out]; simpa using hxs)]; simp)]], HFR.out.but (Nat.le_refl _) (But.row _ _ _)⟩
    · obtain rfl : k = n := by omega
      have c0 := HM.out.cell (cellsN_get l k (j := 0) (by omega))
      have c1 := HM.out.cell (cellsN_get l k (j := 1) (by omega))
      have c2 := HM.out.cell (cellsN_get l k (j := 2) (by omega))
      have c3 := HM.out.cell (cellsN_get l k (j := 3) (by omega))
      have c4 := HM.out.cell (cellsN_get l k (j := 4) (by omega))
      have c5 := HM.out.cell (cellsN_get l k (j := 5) (by omega))
      have hM : readM l = ⟨nums l k 0, nums l k 1, nums l k 2, nums l k 3, nums l k 4, nums l k 5⟩ := by
        unfold readM
        rw [hn, if_pos ((fitsB_iff _ _).2 (by rw [hn]; exact hfit.out))]
      have HR := Lib.hid hM
      clear hM
      go_wp2_with (refine wpList_store_row (o := ⟨none, _, _, _, _, _⟩) rfl 25 (.tmp 2) (.tmp 57) rfl w.heap.size (momL ⟨nums l k 0, nums l k 1, nums l k 2, nums l k 3, nums l k 4, nums l k 5⟩).toArray rfl rfl 25 _ HZ.out (by kernel_rfl) (by simp) (by kernel_rfl) ?_)
      exact bodyPost_ret (results_cell_row (p := 2) (by kernel_rfl) _ _ w.heap.size 25 (momL ⟨nums l k 0, nums l k 1, nums l k 2, nums l k 3, nums l k 4, nums l k 5⟩).toArray (0, 0) _ rfl (HZ.out.row _) Try.underlying25 rfl (by kernel_rfl)) rfl ⟨by rw [HR.out], HFR.out.but (Nat.le_refl _) (But.row _ _ _)⟩
end Go.Proofs.Ytgmpdkkpmgedjaa.dosp
