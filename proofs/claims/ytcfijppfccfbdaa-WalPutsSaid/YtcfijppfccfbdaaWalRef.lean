/-
  The reference's Rising, Right, Bytes, Same of batches. My own text.
-/
import Derived.Test.YtcfijppfccfbdaaWalPut
import Derived.Test.YtcfijppfccfbdaaSamG
import Derived.Deep.RegionHeld3
namespace Go.Proofs.Ytcfijppfccfbdaa.walp
open Go.RowKit Go.Proofs.Ytcfijppfccfbdaa.base Go.Proofs.Ytcfijppfccfbdaa.num Go.Proofs.Ytcfijppfccfbdaa.word Go.Proofs.Ytcfijppfccfbdaa.waln
set_option linter.unusedVariables false

/-- the number ahead of the k-th -/
def prev (l : List Int) (k : Nat) : Int := if k = 0 then -1 else l.getD (k - 1) 0
theorem rise_at {l : List Int} {k : Nat} {z q : Int} (h : l[k]? = some z) : rise q (l.drop k) = (decide (q < z) && (fitN z && rise z (l.drop (k + 1)))) := by rw [drop_at h]; rfl
theorem prev_succ {l : List Int} {k : Nat} {z : Int} (h : l[k]? = some z) : prev l (k + 1) = z := by
  unfold prev
  rw [if_neg (by omega), Nat.add_sub_cancel, List.getD_eq_getElem?_getD, h]
  rfl
def nos (l : List Wp) : List Int := l.map fun p => p.no
theorem nos_pg (l : List Wp) : (l.map Wp.pg).map Prod.fst = nos l := by rw [List.map_map]; rfl
theorem nos_at {l : List Wp} {k : Nat} {s : Wp} (h : l[k]? = some s) : (nos l)[k]? = some s.no := by rw [nos, List.getElem?_map, h]; rfl

set_option maxRecDepth 100000 in
set_option maxHeartbeats 1000000 in
theorem rising_any (A : Option Addr) (n c : Nat) (l : List Wp) (w : World) (B : Nat) (h : WsAt w B A n l) (hB : B ≤ w.heap.size) (hn : n ≤ 9223372036854775807) (b : Bool) (hb : rise (-1) (nos l) = b) :
    Calls Try.prog 19 #[.slice A n c] w fun e w' => e = .returned (.bool b) ∧ Fresh w w' := by
  have HL := Lib.hid h.1
  have HB := Lib.hid hb
  clear hb
  go_enter Try.func19, Try.ntmps19
  go_wp2
  go_loopw [3] (fun i wr => ∃ (k : Nat), k ≤ n ∧ i = .int .i64 k ∧ Hid (rise (prev (nos l) k) ((nos l).drop k) = b) ∧ Fresh w wr) (fun i _ => n - (intOf i).toNat)
  case atStart => exact ⟨0, by omega, rfl, HB, Fresh.refl _⟩
  case round =>
    obtain ⟨k, hk, rfl, hR, hfr⟩ := hrel
    by_cases hlt : k < n
    · obtain ⟨bb, off, s, rfl, hbb, hs, hrow, hrd, hok⟩ := (h.below hfr hB).at_ hlt
      have hR2 := hR.out
      rw [rise_at (nos_at hs)] at hR2
      have HP := Lib.hid (prev_succ (nos_at hs))
      obtain ⟨hc0, hc1⟩ := range_two hrow
      have hno := hok.no
      by_cases hf : fitN s.no = true
      · have hf2 : 0 ≤ s.no ∧ s.no < 16777216 := by simpa [fitN] using hf
        have d1 : decide (s.no < 0) = false := decide_eq_false (by omega)
        have d2 : decide (16777216 ≤ s.no) = false := decide_eq_false (by omega)
        rw [hf, Bool.true_and] at hR2
        cases k with
        | zero =>
          have hq : decide (prev (nos l) 0 < s.no) = true := decide_eq_true (by show (-1 : Int) < s.no; omega)
          rw [hq, Bool.true_and] at hR2
          have HR2 := Lib.hid hR2
          generalize s.no = no at *
          clear hR2 hq hs hrow hrd hok hf hf2 hno hR hc1
          rw [Nat.zero_mul, Nat.add_zero] at hc0
          have d3 : decide ((0 : Int) < ((0 : Nat) : Int)) = false := by decide
          go_wp2
          go_quiet (fail)
          go_wp2
          go_roundw
          case rel => exact ⟨1, by omega, by go_num, by show _ = _; rw [HP.out]; exact HR2.out, hfr.trans (Fresh.drewN _ _)⟩
          case measure => simp [intOf]; omega
        | succ j =>
          obtain ⟨bb', off', s', e1, hbb', hs', hrow', hrd', hok'⟩ := (h.below hfr hB).at_ (i := j) (by omega)
          cases e1
          obtain ⟨hp0, hp1⟩ := range_two hrow'
          have hpv : prev (nos l) (j + 1) = s'.no := prev_succ (nos_at hs')
          rw [hpv] at hR2
          have hno' := hok'.no
          generalize s'.no = no' at *
          generalize s.no = no at *
          by_cases hq : no' < no
          · have d4 : decide (no ≤ no') = false := decide_eq_false (by omega)
            rw [decide_eq_true hq, Bool.true_and] at hR2
            have HR2 := Lib.hid hR2
            clear hR2 hs hrow hrd hok hf hf2 hno hR hc1 hq hp1 hrow' hrd' hok' hs' hpv hno'
            have d3 : decide ((0 : Int) < (j : Int) + 1) = true := decide_eq_true (by omega)
            go_wp2
            go_quiet (fail)
            go_wp2
            go_roundw
            case rel => exact ⟨j + 2, by omega, by go_num, by show _ = _; rw [HP.out]; exact HR2.out, hfr.trans (Fresh.drewN _ _)⟩
            case measure => simp [intOf]; omega
          · have d4 : decide (no ≤ no') = true := decide_eq_true (by omega)
            rw [decide_eq_false hq, Bool.false_and] at hR2
            subst hR2
            clear hs hrow hrd hok hf hf2 hno hR hc1 hq hp1 hrow' hrd' hok' hs' hpv hno' HB HP
            have d3 : decide ((0 : Int) < (j : Int) + 1) = true := decide_eq_true (by omega)
            go_wp2
            go_quiet (fail)
            go_wp2
            go_ret
            exact ⟨rfl, hfr.trans (Fresh.drewN _ _)⟩
      · have hf' : fitN s.no = false := by simpa using hf
        rw [hf', Bool.false_and, Bool.and_false] at hR2
        subst hR2
        have hf2 : ¬ (0 ≤ s.no ∧ s.no < 16777216) := by simpa [fitN] using hf
        generalize s.no = no at *
        clear hs hrow hrd hok hf hf' hR hc1 HB HP
        by_cases hz : no < 0
        · have d1 : decide (no < 0) = true := decide_eq_true hz
          clear hz hf2 hno
          go_wp2
          go_quiet (fail)
          go_wp2
          go_ret
          exact ⟨rfl, hfr.trans (Fresh.drewN _ _)⟩
        · have d1 : decide (no < 0) = false := decide_eq_false hz
          have d2 : decide (16777216 ≤ no) = true := decide_eq_true (by omega)
          clear hz hf2 hno
          go_wp2
          go_quiet (fail)
          go_wp2
          go_ret
          exact ⟨rfl, hfr.trans (Fresh.drewN _ _)⟩
    · have h0 : k = n := by omega
      subst h0
      have hR2 := hR.out
      rw [List.drop_of_length_le (by rw [nos, List.length_map]; have := HL.out; omega)] at hR2
      simp only [rise] at hR2
      subst hR2
      clear hR HB
      go_wp2
      go_ret
      exact ⟨rfl, hfr⟩
end Go.Proofs.Ytcfijppfccfbdaa.walp
