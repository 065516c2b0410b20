/-
  record's fits, narrow; the reference's Same: my own text.
-/
import Derived.Test.YtmnejphdjnlbjaaGreatDoorRecWiden
import Derived.Test.YtmnejphdjnlbjaaGreatDoorPuts
namespace Go.Proofs.YtmnejphdjnlbjaaGreatDoor.recp
open Go.RowKit Go.Proofs.YtmnejphdjnlbjaaGreatDoor.base Go.Proofs.YtmnejphdjnlbjaaGreatDoor.num Go.Proofs.YtmnejphdjnlbjaaGreatDoor.word Go.Proofs.YtmnejphdjnlbjaaGreatDoor.recn
set_option linter.unusedVariables false
/-- a number may be, within k bytes -/
def may (k : Nat) (z : Int) : Bool := decide (0 ≤ z ∧ z < 256 ^ k) && !(z == 256 ^ k - 1)
theorem fits_one (k : Nat) (hk : k = 2 ∨ k = 4) (z : Int) (hz : -9223372036854775808 ≤ z ∧ z ≤ 9223372036854775807) (w : World) (g : Nat) (hg : g = w.heap.size) :
    Calls Tryz.prog 39 #[.int .i64 k, .slice (some ⟨g, 0, none⟩) 1 1] (w.alloc (.cells #[.int .i64 z] tInt)) fun e w' => e = .returned (.bool (decide (0 ≤ z ∧ z < 256 ^ k))) ∧ (w.alloc (.cells #[.int .i64 z] tInt)) = w' := by
  subst hg
  refine fits_is _ 1 1 [z] k _ _ _ (Rd.lit w #[.int .i64 z] tInt) (by unfold maxLen; omega) ?_ ?_
  · intro y hy
    rw [List.mem_singleton] at hy
    subst hy
    exact WalkArith.wf_i64 hz
  · have hw : wide (k : Int) = k := by rcases hk with rfl | rfl <;> rfl
    rw [hw, fits, List.all_cons, List.all_nil, Bool.and_true]
theorem all_take_succ {α : Type} (f : α → Bool) (l : List α) (j : Nat) (z : α) (h : l[j]? = some z) (ha : (l.take j).all f = true) (hz : f z = true) : (l.take (j + 1)).all f = true := by
  rw [take_snoc _ _ _ h, List.all_append, ha]; simp [hz]
theorem all_no {α : Type} (f : α → Bool) (l : List α) (j : Nat) (z : α) (h : l[j]? = some z) (hz : f z = false) : l.all f = false := by
  rw [Bool.eq_false_iff]
  intro ha
  have := List.all_eq_true.1 ha z (List.mem_of_getElem? h)
  rw [hz] at this
  cases this
set_option maxHeartbeats 1000000 in
theorem fitsN_any (k : Nat) (hk : k = 2 ∨ k = 4) (D : Option Addr) (m d : Nat) (zs : List Int) (w : World) (B : Nat) (hd : Rd w B D m (zs.map iv)) (hB : B ≤ w.heap.size) (hm : m ≤ 1099511627776) (hz : ∀ z ∈ zs, -9223372036854775808 ≤ z ∧ z ≤ 9223372036854775807) :
    Calls Tryz.prog 24 #[.bool false, .int .i64 k, .slice D m d] w fun e w' => e = .returned (.bool (zs.all (may k))) ∧ Fresh w w' := by
  have hlz : zs.length = m := by have := hd.1; rwa [List.length_map] at this
  have HLZ := Lib.hid hlz
  have HZ := Lib.hid hz
  clear hlz hz
  obtain ⟨O, hO⟩ : ∃ O : Int, O = 256 ^ k - 1 := ⟨_, rfl⟩
  have hones : ∀ W, Calls Tryz.prog 40 #[.int .i64 k] W fun e w' => e = .returned (.int .i64 O) ∧ W = w' := by
    intro W
    subst hO
    rcases hk with rfl | rfl
    · exact ones2 W
    · exact ones4 W
  have HO := Lib.hid hones
  have HOE := Lib.hid hO
  clear hones hO
  go_enter Tryz.func24, Tryz.ntmps24
  go_wp2
  go_loopw [14] (fun i wr => ∃ j : Nat, j ≤ m ∧ i = .int .i64 j ∧ Hid ((zs.take j).all (may k) = true) ∧ Fresh w wr) (fun i _ => m - (intOf i).toNat)
  case atStart => exact ⟨0, by omega, rfl, rfl, Fresh.refl _⟩
  case round =>
    obtain ⟨j, hj, rfl, hall, hfr⟩ := hrel
    by_cases hlt : j < m
    · obtain ⟨b, off, z, rfl, hb, hx, hcx⟩ := (hd.below hfr hB).at_ hlt
      have hzb := HZ.out z (List.mem_of_getElem? hx)
      have hfit := fits_one k hk z hzb wr _ rfl
      have hst := fun h => all_take_succ (may k) zs j z hx hall.out h
      have hno := fun h => all_no (may k) zs j z hx h
      have hmz : may k z = (decide (0 ≤ z ∧ z < 256 ^ k) && !(z == O)) := by unfold may; rw [HOE.out]
      have HMZ := Lib.hid hmz
      clear hmz
      have HST := Lib.hid hst
      have HNO := Lib.hid hno
      clear hst hno hx hzb
      by_cases hq : decide (0 ≤ z ∧ z < 256 ^ k) = true
      · rw [hq] at hfit HMZ
        have HFIT := Lib.hid hfit
        clear hfit hq
        by_cases he : z = O
        · have hbo : (z == O) = true := by rw [beq_iff_eq]; exact he
          rw [hbo] at HMZ
          have hbo2 : ((z : Int) == O) = true := hbo
          clear he
          go_wp2_with (first
            | (go_at_call 39; ((with_reducible refine HFIT.out.mono ?_); rintro e w1 ⟨rfl, rfl⟩))
            | (go_at_call 40; ((with_reducible refine (HO.out _).mono ?_); rintro e w1 ⟨rfl, rfl⟩)))
          go_ret
          exact ⟨by rw [show zs.all (may k) = false from HNO.out HMZ.out]; rfl, hfr.trans (Fresh.alloc _ _)⟩
        · have hbo : (z == O) = false := by rw [beq_eq_false_iff_ne]; exact he
          rw [hbo] at HMZ
          clear he
          go_wp2_with (first
            | (go_at_call 39; ((with_reducible refine HFIT.out.mono ?_); rintro e w1 ⟨rfl, rfl⟩))
            | (go_at_call 40; ((with_reducible refine (HO.out _).mono ?_); rintro e w1 ⟨rfl, rfl⟩)))
          go_roundw
          case rel => exact ⟨j + 1, by omega, by go_num, Lib.hid (HST.out HMZ.out), hfr.trans (Fresh.alloc _ _)⟩
          case measure => simp [intOf]; omega
      · have hq' : decide (0 ≤ z ∧ z < 256 ^ k) = false := by simpa using hq
        rw [hq'] at hfit HMZ
        have HFIT := Lib.hid hfit
        clear hfit hq hq'
        go_wp2_with (go_at_call 39; ((with_reducible refine HFIT.out.mono ?_); rintro e w1 ⟨rfl, rfl⟩))
        go_ret
        exact ⟨by rw [show zs.all (may k) = false from HNO.out HMZ.out]; rfl, hfr.trans (Fresh.alloc _ _)⟩
    · have h0 : j = m := by omega
      subst h0
      have hz2 := hall.out
      rw [List.take_of_length_le (Nat.le_of_eq HLZ.out)] at hz2
      have HZ2 := Lib.hid hz2
      clear hz2
      go_wp2
      go_ret
      exact ⟨by rw [HZ2.out]; rfl, hfr⟩
end Go.Proofs.YtmnejphdjnlbjaaGreatDoor.recp
