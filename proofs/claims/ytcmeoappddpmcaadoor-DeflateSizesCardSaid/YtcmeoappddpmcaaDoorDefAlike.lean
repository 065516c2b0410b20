import Derived.Test.YtcmeoappddpmcaaDoorDefPut
/-
  alike, trimmed, again. My own text.
-/
namespace Go.Proofs.YtcmeoappddpmcaaDoor.defp
open Go.RowKit Go.Maps Go.Proofs.YtcmeoappddpmcaaDoor.base Go.Proofs.YtcmeoappddpmcaaDoor.num Go.Proofs.YtcmeoappddpmcaaDoor.bitnum Go.Proofs.YtcmeoappddpmcaaDoor.bitp Go.Proofs.YtcmeoappddpmcaaDoor.huffnum Go.Proofs.YtcmeoappddpmcaaDoor.huffp
set_option linter.unusedVariables false
theorem nat_at {ls : List Nat} {w : World} {B n : Nat} {A : Option Addr} (h : Rd w B A n (nv ls)) {j : Nat} (hj : j < n) : ∃ b off, A = some ⟨b, off, none⟩ ∧ b < B ∧ w.cell? ⟨b, off + j, none⟩ = some (.int .i64 (ls.getD j 0 : Nat)) := by
  obtain ⟨b, off, x, hA, hb, hx, hc⟩ := h.at_ hj
  refine ⟨b, off, hA, hb, ?_⟩
  rw [hc, List.getD_eq_getElem?_getD, hx]
  rfl
set_option maxRecDepth 100000 in
set_option maxHeartbeats 8000000 in
theorem alike_any (A : Option Addr) (n c B : Nat) (ls : List Nat) (w : World) (hr : Rd w B A n (nv ls)) (hB : B ≤ w.heap.size) (hn : 1 ≤ n) (hn2 : n ≤ 1000) :
    Calls Tryd.prog 55 #[.slice A n c] w fun e w' => ∃ k : Nat, e = .returned (.int .i64 k) ∧ 1 ≤ k ∧ k ≤ n ∧ (∀ i, i < k → ls.getD i 0 = ls.getD 0 0) ∧ (k < n → ls.getD k 0 ≠ ls.getD 0 0) ∧ Fresh w w' := by
  have HR := Lib.hid hr
  clear hr
  go_enter Tryd.func55, Tryd.ntmps55
  go_wp2
  go_loopw [3] (fun t wr => ∃ j : Nat, t = .int .i64 j ∧ 1 ≤ j ∧ j ≤ n ∧ Hid (∀ i, i < j → ls.getD i 0 = ls.getD 0 0) ∧ Hid (Fresh w wr)) (fun t _ => n - (intOf t).toNat)
  case atStart => exact ⟨1, rfl, Nat.le_refl _, hn, Lib.hid (fun i hi => by rw [show i = 0 by omega]), Lib.hid (Fresh.refl _)⟩
  case round =>
    obtain ⟨j, rfl, hj1, hjn, HS, HF⟩ := hrel
    by_cases hlt : j < n
    · have hjl : (j : Int) < (n : Int) := by omega
      obtain ⟨b, off, rfl, hb, ka⟩ := nat_at (HR.out.keep fun k hk => HF.out.block k (by omega)) hlt
      obtain ⟨b', off', e', hb', kb⟩ := nat_at (HR.out.keep (w' := wr) fun k hk => HF.out.block k (by omega)) (j := 0) (by omega)
      injection e' with e'
      injection e' with e1 e2 _
      subst e1; subst e2
      rw [Nat.add_zero] at kb
      have HD : Hid (ls.getD j 0 = ls.getD j 0) := rfl
      by_cases huv : ls.getD j 0 = ls.getD 0 0
      · rw [huv] at ka
        have hs1 : ∀ i, i < j + 1 → ls.getD i 0 = ls.getD 0 0 := fun i hi => by
          rcases Nat.lt_or_ge i j with h | h
          · exact HS.out i h
          · obtain rfl : i = j := by omega
            exact huv
        have HS1 := Lib.hid hs1
        clear hs1 huv HD
        obtain ⟨u, hu⟩ : ∃ u, ls.getD 0 0 = u := ⟨_, rfl⟩
        rw [hu] at ka kb
        clear hu
        go_wp2
        go_quiet (fail)
        go_wp2
        go_roundw
        case rel => exact ⟨j + 1, by go_num, by omega, hlt, HS1.out, HF.out.trans (Fresh.drewN _ _)⟩
        case measure => simp [intOf]; omega
      · have HUV := Lib.hid huv
        have huv' : ¬ ((ls.getD j 0 : Nat) : Int) = ((ls.getD 0 0 : Nat) : Int) := fun h => huv (by omega)
        clear huv HD
        generalize ls.getD j 0 = v at ka huv'
        generalize ls.getD 0 0 = u at kb huv'
        go_wp2
        go_quiet (fail)
        go_wp2
        go_ret
        exact ⟨j, rfl, hj1, hjn, HS.out, fun _ => HUV.out, HF.out.trans (Fresh.drewN _ _)⟩
    · have hin : j = n := by omega
      subst hin
      go_wp2
      go_quiet (fail)
      go_wp2
      go_ret
      exact ⟨j, rfl, hj1, hjn, HS.out, fun h => absurd h (by omega), HF.out.trans (Fresh.drewN _ _)⟩
set_option maxRecDepth 100000 in
set_option maxHeartbeats 8000000 in
theorem trimmed_any (A : Option Addr) (n c B least : Nat) (ls : List Nat) (w : World) (hr : Rd w B A n (nv ls)) (hB : B ≤ w.heap.size) (hl : 1 ≤ least) (hn : least ≤ n) (hn2 : n ≤ 1000) (hc : n ≤ c) :
    Calls Tryd.prog 22 #[.slice A n c, .int .i64 least] w fun e w' => ∃ k : Nat, e = .returned (.slice A k c) ∧ least ≤ k ∧ k ≤ n ∧ (∀ i, k ≤ i → i < n → ls.getD i 0 = 0) ∧ Fresh w w' := by
  have HR := Lib.hid hr
  clear hr
  go_enter Tryd.func22, Tryd.ntmps22
  go_wp2
  go_loopw [5] (fun t wr => ∃ j : Nat, t = .int .i64 j ∧ least ≤ j ∧ j ≤ n ∧ Hid (∀ i, j ≤ i → i < n → ls.getD i 0 = 0) ∧ Hid (Fresh w wr)) (fun t _ => (intOf t).toNat)
  case atStart => exact ⟨n, rfl, hn, Nat.le_refl _, Lib.hid (fun i h1 h2 => by omega), Lib.hid (Fresh.refl _)⟩
  case round =>
    obtain ⟨j, rfl, hj1, hjn, HS, HF⟩ := hrel
    have hjc : (j : Int) ≤ (c : Int) := by omega
    by_cases hlt : least < j
    · obtain ⟨q, rfl⟩ : ∃ q, j = q + 1 := ⟨j - 1, by omega⟩
      have hjl : (least : Int) < ((q + 1 : Nat) : Int) := by omega
      have eq1 : ((q + 1 : Nat) : Int) - 1 = (q : Int) := by omega
      have eq2 : ((q : Int) + 1) - 1 = (q : Int) := by omega
      have qn : (q : Int) < (n : Int) := by omega
      obtain ⟨b, off, rfl, hb, ka⟩ := nat_at (HR.out.keep fun k hk => HF.out.block k (by omega)) (j := q) (by omega)
      by_cases hz : ls.getD q 0 = 0
      · rw [hz] at ka
        have hs1 : ∀ i, q ≤ i → i < n → ls.getD i 0 = 0 := fun i h1 h2 => by
          rcases Nat.lt_or_ge q i with h | h
          · exact HS.out i h h2
          · obtain rfl : i = q := by omega
            exact hz
        have HS1 := Lib.hid hs1
        clear hs1 hz
        go_wp2
        refine ⟨⟨q, rfl, by omega, by omega, HS1, HF⟩, ?_⟩
        show ((q : Int)).toNat < (((q + 1 : Nat) : Int)).toNat
        omega
      · have HZ := Lib.hid hz
        have huv' : ¬ ((ls.getD q 0 : Nat) : Int) = 0 := fun h => hz (by omega)
        clear hz
        generalize ls.getD q 0 = v at ka huv'
        go_wp2
        go_ret
        exact ⟨q + 1, rfl, hj1, hjn, HS.out, HF.out⟩
    · have hin : j = least := by omega
      subst hin
      go_wp2
      go_ret
      exact ⟨j, rfl, Nat.le_refl _, hjn, HS.out, HF.out⟩
end Go.Proofs.YtcmeoappddpmcaaDoor.defp
