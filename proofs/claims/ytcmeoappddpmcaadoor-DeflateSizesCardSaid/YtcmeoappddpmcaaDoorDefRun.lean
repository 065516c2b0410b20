import Derived.Test.YtcmeoappddpmcaaDoorDefPack
/-
  The steps of a run of one byte: plain mathematics. My own text.
-/
namespace Go.Proofs.YtcmeoappddpmcaaDoor.defp
open Go.RowKit Go.Maps Go.Proofs.YtcmeoappddpmcaaDoor.base Go.Proofs.YtcmeoappddpmcaaDoor.num Go.Proofs.YtcmeoappddpmcaaDoor.huffnum Go.Proofs.YtcmeoappddpmcaaDoor.huffp Go.Proofs.YtcmeoappddpmcaaDoor.infnum
set_option linter.unusedVariables false
theorem rep_getD (n : Nat) (c : UInt8) (j : Nat) (h : j < n) : (List.replicate n c).getD j 0 = c := by
  rw [List.getD_eq_getElem?_getD, List.getElem?_replicate, if_pos h]
  rfl
theorem rep_at3 (n : Nat) (c : UInt8) (p : Nat) (h : p + 3 ≤ n) : at3 (List.replicate n c) p = ⟨c, c, c⟩ := by
  unfold at3
  rw [rep_getD _ _ _ (by omega), rep_getD _ _ _ (by omega), rep_getD _ _ _ (by omega)]
theorem run_found (n : Nat) (c : UInt8) (i : Nat) (h1 : 1 ≤ i) (h2 : i + 3 ≤ n) : Found (List.replicate n c) i (min 258 (n - i)) 1 := by
  have hl : (List.replicate n c).length = n := List.length_replicate ..
  refine .inr ⟨by rw [hl]; exact h2, i - 1, ⟨by omega, by rw [hl]; omega, ?_, by omega, fun q h3 h4 _ => by omega⟩, by omega, ?_⟩
  · rw [rep_at3 n c i h2, rep_at3 n c (i - 1) (by omega)]
  · rw [hl]
    exact ⟨by omega, Nat.le_refl _, fun j h3 h4 => by rw [rep_getD _ _ _ (by omega), rep_getD _ _ _ (by omega)], fun h => absurd h (Nat.lt_irrefl _)⟩
theorem run_first (n : Nat) (c : UInt8) (L K : Nat) (h : Found (List.replicate n c) 0 L K) : L = 0 := by
  rcases h with ⟨h, _⟩ | ⟨_, p, hp, _⟩
  · exact h
  · exact absurd hp.1 (Nat.not_lt_zero p)
theorem run_last (n : Nat) (c : UInt8) (i L K : Nat) (hi : n < i + 3) (h : Found (List.replicate n c) i L K) : L = 0 := by
  rcases h with ⟨h, _⟩ | ⟨h, _⟩
  · exact h
  · rw [List.length_replicate] at h; omega
/-- the steps of a run: one byte, copies of 258 from 1 back, what is left -/
theorem St.run {n : Nat} {c : UInt8} {i : Nat} {l : List (Nat × Nat)} (h : St (List.replicate n c) i l) :
    (i = 0 ∧ l = []) ∨ ∃ k r t, l = (c.toNat, 0) :: (List.replicate k (258, 1) ++ ((if r = 0 then [] else [(r, 1)]) ++ List.replicate t (c.toNat, 0))) ∧ i = 1 + 258 * k + r + t ∧ (r = 0 ∨ (3 ≤ r ∧ r < 258 ∧ i = n)) ∧ t ≤ 2 ∧ (t = 0 ∨ (r = 0 ∧ n ≤ 1 + 258 * k + 2)) ∧ i ≤ n := by
  induction h with
  | nil => exact .inl ⟨rfl, rfl⟩
  | @lit i l h hi hf ih =>
    rw [List.length_replicate] at hi
    rw [rep_getD n c i hi]
    right
    rcases ih with ⟨rfl, rfl⟩ | ⟨k, r, t, rfl, he, hr, ht, ht2, hin⟩
    · exact ⟨0, 0, 0, rfl, rfl, .inl rfl, by omega, .inl rfl, hi⟩
    · have hend : n < i + 3 := by
        rcases Nat.lt_or_ge n (i + 3) with h1 | h1
        · exact h1
        · have := (hf.uniq (run_found n c i (by omega) h1)).1
          omega
      have hr0 : r = 0 := by rcases hr with h | h <;> omega
      subst hr0
      refine ⟨k, 0, t + 1, ?_, by omega, .inl rfl, by omega, .inr ⟨rfl, by omega⟩, hi⟩
      simp only [if_true, List.nil_append, List.cons_append, List.append_assoc]
      rw [List.replicate_succ']
  | @copy i L K l h hi hf hL ih =>
    rw [List.length_replicate] at hi
    right
    rcases ih with ⟨rfl, rfl⟩ | ⟨k, r, t, rfl, he, hr, ht, ht2, hin⟩
    · exact absurd (run_first n c L K hf) hL
    · have h3 : i + 3 ≤ n := by
        rcases Nat.lt_or_ge n (i + 3) with h1 | h1
        · exact absurd (run_last n c i L K h1 hf) hL
        · exact h1
      obtain ⟨e1, e2⟩ := hf.uniq (run_found n c i (by omega) h3)
      subst e1
      subst e2
      have hr0 : r = 0 := by rcases hr with h | h <;> omega
      have ht0 : t = 0 := by rcases ht2 with h | h <;> omega
      subst hr0
      subst ht0
      rcases Nat.lt_or_ge (n - i) 258 with h4 | h4
      · have e3 : min 258 (n - i) = n - i := by omega
        rw [e3]
        refine ⟨k, n - i, 0, ?_, by omega, .inr ⟨by omega, h4, by omega⟩, by omega, .inl rfl, by omega⟩
        rw [if_pos rfl, if_neg (show ¬ n - i = 0 by omega)]
        simp
      · have e3 : min 258 (n - i) = 258 := by omega
        rw [e3]
        refine ⟨k + 1, 0, 0, ?_, by omega, .inl rfl, by omega, .inl rfl, by omega⟩
        simp only [if_true, List.cons_append, List.append_nil, List.replicate_zero]
        rw [List.replicate_succ']
theorem outs_app (ls ld : List Nat) (b : List (Nat × Nat)) : ∀ a, (outs ls ld (a ++ b)).1 = (outs ls ld a).1 + (outs ls ld b).1
  | [] => (Nat.zero_add _).symm
  | x :: r => by
    show (out ls ld x).1 + (outs ls ld (r ++ b)).1 = (out ls ld x).1 + (outs ls ld r).1 + _
    rw [outs_app ls ld b r]
    omega
theorem outs_rep (ls ld : List Nat) (s : Nat × Nat) : ∀ k, (outs ls ld (List.replicate k s)).1 = k * (out ls ld s).1
  | 0 => by rw [Nat.zero_mul]; rfl
  | k + 1 => by
    rw [List.replicate_succ]
    show (out ls ld s).1 + (outs ls ld (List.replicate k s)).1 = _
    rw [outs_rep ls ld s k, Nat.succ_mul]
    omega
theorem out_lit (ls ld : List Nat) (x B : Nat) (h : ls.getD x 0 ≤ B) : (out ls ld (x, 0)).1 ≤ B := by
  unfold out out1 syN
  simp only [if_true, Nat.add_zero]
  exact Nat.le_trans (Fs_getD ls _) h
/-- how many bits a run has, by the lengths of its few steps' codes -/
theorem run_bits (ls ld : List Nat) {n : Nat} {c : UInt8} {l : List (Nat × Nat)} (h : St (List.replicate n c) n l) (hn : 1 ≤ n) (a e m r9 : Nat) (ha : (out ls ld (c.toNat, 0)).1 ≤ a) (he : (out ls ld (256, 0)).1 ≤ e) (hm : (out ls ld (258, 1)).1 ≤ m) (hr : ∀ r, 3 ≤ r → r < 258 → (out ls ld (r, 1)).1 ≤ r9) (h2 : 2 * a ≤ r9) :
    (outs ls ld (l ++ [(256, 0)])).1 ≤ a + (n / 258) * m + r9 + e := by
  rw [outs_snoc]
  rcases h.run with ⟨h0, _⟩ | ⟨k, r, t, rfl, hi, hr1, ht, ht2, _⟩
  · omega
  have e1 : (outs ls ld ((c.toNat, 0) :: (List.replicate k (258, 1) ++ ((if r = 0 then [] else [(r, 1)]) ++ List.replicate t (c.toNat, 0))))).1 = (out ls ld (c.toNat, 0)).1 + (k * (out ls ld (258, 1)).1 + ((if r = 0 then 0 else (out ls ld (r, 1)).1) + t * (out ls ld (c.toNat, 0)).1)) := by
    show (out ls ld (c.toNat, 0)).1 + (outs ls ld _).1 = _
    rw [outs_app, outs_app, outs_rep, outs_rep]
    split
    · rfl
    · show _ + (_ + ((out ls ld (r, 1)).1 + 0 + _)) = _
      omega
  simp only
  rw [e1]
  have hk : k ≤ n / 258 := by omega
  have hkm : k * (out ls ld (258, 1)).1 ≤ (n / 258) * m := Nat.mul_le_mul hk hm
  rcases ht2 with rfl | ⟨rfl, _⟩
  · rw [Nat.zero_mul]
    split
    · omega
    · rename_i h0
      rcases hr1 with h1 | ⟨h3, h4, _⟩
      · omega
      · have := hr r h3 h4
        omega
  · rw [if_pos rfl]
    have : t * (out ls ld (c.toNat, 0)).1 ≤ 2 * a := Nat.mul_le_mul ht ha
    omega
/-- a run by the fixed codes -/
theorem run_fixed {n : Nat} {c : UInt8} {l : List (Nat × Nat)} (h : St (List.replicate n c) n l) (h1 : 100 ≤ n) (h2 : n ≤ 6000) : bytesF l ≤ n / 10 + 20 := by
  have hb := run_bits fixedLits fixD h (by omega) 9 7 13 40 (out_lit _ _ _ 9 (lits_nine _)) (by decide +kernel) (by decide +kernel) (fun r h3 h4 => by
    have q1 := Fs_getD fixedLits (sy (r, 1))
    have q2 := lits_nine (sy (r, 1))
    have q3 := Fs_getD fixD (di (r, 1))
    have q4 := fixD_five (di (r, 1))
    have q5 := syN_le (r, 1) (.inr ⟨h3, by omega, by omega, by omega⟩)
    have q6 : diN (r, 1) = 0 := show own_ 0 2 = 0 by decide
    unfold out out1
    simp only [q6]
    rw [if_neg (by omega)]
    simp only
    omega) (by omega)
  unfold bytesF
  omega
end Go.Proofs.YtcmeoappddpmcaaDoor.defp
