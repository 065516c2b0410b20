import Derived.Test.YtcmeoappddpmcaaDoorDefRun
import Derived.Test.YtcmeoappddpmcaaDoorMgLenB
/-
  How many bytes a run of one byte has by codes of its own: plain mathematics. My own text.
-/
namespace Go.Proofs.YtcmeoappddpmcaaDoor.defp
open Go.RowKit Go.Maps Go.Proofs.YtcmeoappddpmcaaDoor.base Go.Proofs.YtcmeoappddpmcaaDoor.num Go.Proofs.YtcmeoappddpmcaaDoor.bitnum Go.Proofs.YtcmeoappddpmcaaDoor.bitp Go.Proofs.YtcmeoappddpmcaaDoor.huffnum Go.Proofs.YtcmeoappddpmcaaDoor.huffp Go.Proofs.YtcmeoappddpmcaaDoor.infnum Go.Proofs.YtcmeoappddpmcaaDoor.infp
set_option linter.unusedVariables false
/-- if the places that aren't 0 lie in K, there are at most so many -/
theorem few_places : ∀ (ls K : List Nat), (∀ y, ls.getD y 0 ≠ 0 → y ∈ K) → ls.countP (fun x => decide (0 < x)) ≤ K.length
  | [], K, _ => Nat.zero_le _
  | x :: r, K, h => by
    have hr := few_places r ((K.filter fun y => decide (y ≠ 0)).map (· - 1)) (fun y hy => by
      have := h (y + 1) (by simpa using hy)
      exact List.mem_map.2 ⟨y + 1, List.mem_filter.2 ⟨this, by simp⟩, by simp⟩)
    rw [List.length_map] at hr
    rw [List.countP_cons]
    by_cases hx : 0 < x
    · have h0 : 0 ∈ K := h 0 (by simp; omega)
      have hlt : (K.filter fun y => decide (y ≠ 0)).length < K.length := List.length_filter_lt_length_iff_exists.2 ⟨0, h0, by simp⟩
      rw [if_pos (by simpa using hx)]
      omega
    · have hle := List.length_filter_le (fun y => decide (y ≠ 0)) K
      rw [if_neg (by simpa using hx)]
      omega
theorem cat_cons (x : Nat × Nat) (r : List (Nat × Nat)) : (cat (x :: r)).1 = x.1 + (cat r).1 := by
  have h := cat_append [x] r
  show (cat ([x] ++ r)).1 = _
  rw [h]
  simp [cat]
theorem le_getD {T : List Nat} {B : Nat} (h : ∀ x ∈ T, x ≤ B) (k : Nat) : T.getD k 0 ≤ B := by
  rw [List.getD_eq_getElem?_getD]
  cases hk : T[k]? with
  | none => exact Nat.zero_le _
  | some v => exact h v (List.mem_of_getElem? hk)
theorem parts_few (T : List Nat) (h7 : ∀ x ∈ T, x ≤ 7) : ∀ ps : List Pt, (cat (ps.flatMap (partI T))).1 ≤ cost ps
  | [] => Nat.le_refl _
  | p :: r => by
    have ih := parts_few T h7 r
    have hF := Nat.le_trans (Fs_getD T p.1) (le_getD h7 p.1)
    have e : cost (p :: r) = 7 + p.2.1 + cost r := by simp [cost]
    rw [e, List.flatMap_cons, show partI T p = [((Fs T 16 0 p.1).1, rev (Fs T 16 0 p.1).1 (u64 ((Fs T 16 0 p.1).2 : Int))), (p.2.1, p.2.2)] from rfl, List.cons_append, List.cons_append, List.nil_append, cat_cons, cat_cons]
    simp only
    omega
theorem tell_bits (T : List Nat) (j : Nat) (ps : List Pt) (h7 : ∀ x ∈ T, x ≤ 7) : (cat (tellI T j ps)).1 ≤ 4 + 3 * j + cost ps := by
  have hp := parts_few T h7 ps
  have hl := cat_len 3 ((infnum.order.take j).map fun s => (3, T.getD s 0)) (by
    intro x hx
    obtain ⟨s, _, rfl⟩ := List.mem_map.1 hx
    exact Nat.le_refl _)
  rw [List.length_map, List.length_take] at hl
  have e : (cat (tellI T j ps)).1 = 4 + (cat ((infnum.order.take j).map fun s => (3, T.getD s 0))).1 + (cat (ps.flatMap (partI T))).1 := by
    unfold tellI headI
    rw [cat_append]
    show (cat ((4, j - 4) :: _)).1 + _ = _
    rw [cat_cons]
  rw [e]
  omega
theorem out_copy (ls ld : List Nat) (r A D : Nat) (h1 : 3 ≤ r) (h2 : r ≤ 258) (hA : ∀ k, ls.getD k 0 ≤ A) (hD : ∀ k, ld.getD k 0 ≤ D) : (out ls ld (r, 1)).1 ≤ A + 13 + D := by
  have q1 := Fs_getD ls (sy (r, 1))
  have q2 := hA (sy (r, 1))
  have q3 := Fs_getD ld (di (r, 1))
  have q4 := hD (di (r, 1))
  have q5 := syN_le (r, 1) (.inr ⟨h1, by omega, by omega, by omega⟩)
  have q6 : diN (r, 1) = 0 := show own_ 0 2 = 0 by decide
  unfold out out1
  simp only [q6]
  rw [if_neg (by omega)]
  simp only
  omega
/-- the symbols that come in a run -/
theorem run_symbols {n : Nat} {c : UInt8} {l : List (Nat × Nat)} (h : St (List.replicate n c) n l) (h1 : 100 ≤ n) :
    (c.toNat, 0) ∈ l ∧ 1 ≤ l.length ∧ (∀ s ∈ l, s.2 ≠ 0 → s.2 = 1) ∧ ∃ K : List Nat, (∀ s ∈ l ++ [(256, 0)], sy s ∈ K) ∧ K.length ≤ 4 ∧ (n < 258 → K.length ≤ 3) := by
  rcases h.run with ⟨h0, _⟩ | ⟨k, r, t, rfl, hi, hr, ht, ht2, _⟩
  · omega
  refine ⟨List.mem_cons_self, by simp, ?_, ?_⟩
  · intro s hs h0
    rcases List.mem_cons.1 hs with rfl | hs
    · exact absurd rfl h0
    rcases List.mem_append.1 hs with hs | hs
    · rw [(List.mem_replicate.1 hs).2]
    rcases List.mem_append.1 hs with hs | hs
    · split at hs
      · cases hs
      · rw [List.mem_singleton.1 hs]
    · rw [(List.mem_replicate.1 hs).2] at h0
      exact absurd rfl h0
  · by_cases hk : k = 0
    · subst hk
      refine ⟨[c.toNat, sy (r, 1), 256], ?_, by simp, fun _ => by simp⟩
      intro s hs
      rcases List.mem_append.1 hs with hs | hs
      · rcases List.mem_cons.1 hs with rfl | hs
        · exact List.mem_cons.2 (.inl rfl)
        rw [List.replicate_zero, List.nil_append] at hs
        rcases List.mem_append.1 hs with hs | hs
        · split at hs
          · cases hs
          · rw [List.mem_singleton.1 hs]; simp
        · rw [(List.mem_replicate.1 hs).2]
          exact List.mem_cons.2 (.inl rfl)
      · rw [List.mem_singleton.1 hs]
        exact List.mem_cons_of_mem _ (List.mem_cons_of_mem _ (List.mem_cons.2 (.inl rfl)))
    · refine ⟨[c.toNat, sy (r, 1), 256, sy (258, 1)], ?_, by simp, fun hn => by omega⟩
      intro s hs
      rcases List.mem_append.1 hs with hs | hs
      · rcases List.mem_cons.1 hs with rfl | hs
        · exact List.mem_cons.2 (.inl rfl)
        rcases List.mem_append.1 hs with hs | hs
        · rw [(List.mem_replicate.1 hs).2]; simp
        rcases List.mem_append.1 hs with hs | hs
        · split at hs
          · cases hs
          · rw [List.mem_singleton.1 hs]; simp
        · rw [(List.mem_replicate.1 hs).2]
          exact List.mem_cons.2 (.inl rfl)
      · rw [List.mem_singleton.1 hs]
        exact List.mem_cons_of_mem _ (List.mem_cons_of_mem _ (List.mem_cons.2 (.inl rfl)))
theorem nzc_all (a b : List Nat) {m n : Nat} (ha : a.length = m) (hb : b.length = n) : nzc (a ++ b) (m + n) = a.countP (fun x => decide (0 < x)) + b.countP (fun x => decide (0 < x)) := by
  unfold nzc
  rw [List.take_of_length_le (by rw [List.length_append]; omega), List.countP_append]
theorem getD_out {T : List Nat} {n y : Nat} (h : T.length = n) (hy : n ≤ y) : T.getD y 0 = 0 := by
  rw [List.getD_eq_getElem?_getD, List.getElem?_eq_none (by omega)]
  rfl
/-- a run by codes of its own -/
theorem run_dynamic {n : Nat} {c : UInt8} {l : List (Nat × Nat)} (h : St (List.replicate n c) n l) (h1 : 100 ≤ n) (h2 : n ≤ 6000) {TS TD : List Nat} {nS nD : Nat} {T : List Nat} {j : Nat} {ps : List Pt} (ht : Told (l ++ [(256, 0)]) TS TD nS nD T j ps) :
    bytesD (l ++ [(256, 0)]) TS TD nS nD T j ps ≤ n / 10 + 20 := by
  obtain ⟨hc, hl, hone, K, hK, hK4, hK3⟩ := run_symbols h h1
  have hlc : lc (l ++ [(256, 0)]) = l ++ [(256, 0)] := by
    unfold lc
    rw [if_neg (by rw [List.length_append, List.length_singleton]; omega)]
  have hfS := ht.fullS
  have hfD := ht.fullD
  rw [hlc] at hfS hfD
  have zS := few_places TS K fun y hy => by
    refine Decidable.byContradiction fun hn => hy ?_
    by_cases hy6 : y < 286
    · exact hfS.1 y hy6 fun s hs he => hn (by unfold fS at he; injection he with he; rw [← he]; exact hK s hs)
    · exact getD_out ht.ls (by have := ht.s2; omega)
  have zD := few_places TD [0] fun y hy => by
    refine Decidable.byContradiction fun hn => hy ?_
    by_cases hy6 : y < 30
    · refine hfD.1 y hy6 fun s hs he => hn ?_
      unfold fD at he
      split at he
      · cases he
      · rename_i h0
        injection he with he
        have hs1 : s.2 = 1 := by
          rcases List.mem_append.1 hs with hs | hs
          · exact hone s hs h0
          · rw [List.mem_singleton.1 hs] at h0
            exact absurd rfl h0
        rw [← he]
        unfold di
        rw [hs1]
        decide
    · exact getD_out ht.ld (by have := ht.d2; omega)
  have hc256 : c.toNat < 256 := c.toNat_lt
  have htx := hfS.2 (c.toNat, 0) (List.mem_append_left _ hc) (256, 0) (List.mem_append_right _ (List.mem_singleton.2 rfl)) c.toNat 256 rfl rfl (by omega) (by omega) (by omega)
  have hdeep := lenp.deep htx ht.fs.2
  rw [show ([0] : List Nat).length = 1 from rfl] at zD
  obtain ⟨R, hR1, hR2, _, hR4⟩ := ht.cst
  rw [nzc_all TS TD ht.ls ht.ld] at hR1 hR2 hR4
  have htell := tell_bits T j ps ht.t7
  have hdyn := dyn_1 nS nD T j ps
  have hs2 := ht.s2
  have hd2 := ht.d2
  have hj := ht.j19
  have hD : ∀ k, TD.getD k 0 ≤ 15 := le_getD ht.fd.2
  generalize TS.countP (fun x => decide (0 < x)) = cS at *
  generalize TD.countP (fun x => decide (0 < x)) = cD at *
  unfold bytesD
  rcases Nat.lt_or_ge n 258 with hn | hn
  · have hK3' := hK3 hn
    have hA : ∀ k, TS.getD k 0 ≤ 2 := le_getD fun x hx => by have := hdeep x hx; omega
    have hb := run_bits TS TD h (by omega) 2 2 30 30 (out_lit _ _ _ 2 (hA _)) (out_lit _ _ _ 2 (hA _)) (by have := out_copy TS TD 258 2 15 (by omega) (by omega) hA hD; omega) (fun r h3 h4 => by have := out_copy TS TD r 2 15 h3 (by omega) hA hD; omega) (by omega)
    have hcost : cost ps ≤ 129 := by omega
    have hq : n / 258 = 0 := by omega
    rw [hq] at hb
    omega
  · have hA : ∀ k, TS.getD k 0 ≤ 3 := le_getD fun x hx => by have := hdeep x hx; omega
    have hb := run_bits TS TD h (by omega) 3 3 31 31 (out_lit _ _ _ 3 (hA _)) (out_lit _ _ _ 3 (hA _)) (by have := out_copy TS TD 258 3 15 (by omega) (by omega) hA hD; omega) (fun r h3 h4 => by have := out_copy TS TD r 3 15 h3 (by omega) hA hD; omega) (by omega)
    have hcost : cost ps ≤ 150 := by omega
    omega
end Go.Proofs.YtcmeoappddpmcaaDoor.defp
