import Derived.Test.YtcmeoappddpmcaaDoorDefEnd
/-
  Towards fixed: the steps of b are steps that may be; Repeat. My own text.
-/
namespace Go.Proofs.YtcmeoappddpmcaaDoor.defp
open Go.RowKit Go.Maps Go.Proofs.YtcmeoappddpmcaaDoor.base Go.Proofs.YtcmeoappddpmcaaDoor.num Go.Proofs.YtcmeoappddpmcaaDoor.bitnum Go.Proofs.YtcmeoappddpmcaaDoor.bitp Go.Proofs.YtcmeoappddpmcaaDoor.huffnum Go.Proofs.YtcmeoappddpmcaaDoor.huffp
set_option linter.unusedVariables false
theorem sy_lt (s : Nat × Nat) (h : Ok s) : sy s ≤ 285 := by
  unfold sy
  split
  · rcases h with h | h <;> omega
  split
  · omega
  · have := code4_lt (s.1 - 3) (by rcases h with h | h <;> omega)
    omega
theorem di_lt (s : Nat × Nat) (h : Ok s) (h0 : s.2 ≠ 0) : di s < 30 := (far_all (s.2 - 1) (by rcases h with h | h <;> omega)).1
/-- the steps of b, and the end, are steps that may be -/
theorem St.ok {b : List UInt8} {i : Nat} {l : List (Nat × Nat)} (h : St b i l) : ∀ s ∈ l ++ [(256, 0)], Ok s ∧ sy s ≤ 285 ∧ (s.2 ≠ 0 → di s < 30) := fun s hs => by
  have hok : Ok s := by
    rcases List.mem_append.1 hs with hs | hs
    · rcases h.each s hs with ⟨h1, h2⟩ | h1
      · exact .inl ⟨h1, by omega⟩
      · exact .inr h1
    · rw [List.mem_singleton] at hs
      subst hs
      exact .inl ⟨rfl, Nat.le_refl _⟩
  exact ⟨hok, sy_lt s hok, di_lt s hok⟩
/-! how many bits: never more than nine for a byte -/
theorem Fs_getD (ls : List Nat) (s : Nat) : (Fs ls 16 0 s).1 ≤ ls.getD s 0 := by
  unfold Fs
  rw [List.getD_eq_getElem?_getD]
  split
  case h_1 m hm =>
    rw [hm]
    split
    · exact Nat.le_refl _
    · exact Nat.zero_le _
  case h_2 => exact Nat.zero_le _
theorem own4_le : ∀ v : Fin 255, own_ v.1 4 ≤ 5 := by decide +kernel
theorem out_few (ls ld : List Nat) (H1 : ∀ k, ls.getD k 0 ≤ 9) (H2 : ls.getD 257 0 ≤ 7) (H3 : ∀ k, ld.getD k 0 ≤ 5) (L K : Nat) (h : 3 ≤ L ∧ L ≤ 258 ∧ 1 ≤ K ∧ K ≤ 32768) : (out ls ld (L, K)).1 ≤ 9 * L := by
  have h0 : K ≠ 0 := by omega
  have hd := Fs_getD ld (di (L, K))
  have hd2 := H3 (di (L, K))
  have hdn := diN_le (L, K) h.2.2.2
  have hs := Fs_getD ls (sy (L, K))
  have hs2 := H1 (sy (L, K))
  unfold out out1
  simp only
  rw [if_neg h0]
  simp only
  by_cases e : L = 3
  · subst e
    have e1 : sy (3, K) = 257 := by unfold sy; simp [h0]; decide
    have e2 : syN (3, K) = 0 := by unfold syN; simp [h0]; decide
    rw [e1] at hs hs2 ⊢
    rw [e2]
    omega
  · have e3 : syN (L, K) ≤ 5 := by
      unfold syN
      simp only [h0, if_false]
      split
      · omega
      · exact own4_le ⟨L - 3, by omega⟩
    omega
theorem outs_few (ls ld : List Nat) (H1 : ∀ k, ls.getD k 0 ≤ 9) (H2 : ls.getD 257 0 ≤ 7) (H3 : ∀ k, ld.getD k 0 ≤ 5) {b : List UInt8} {i : Nat} {l : List (Nat × Nat)} (h : St b i l) : (outs ls ld l).1 ≤ 9 * i := by
  induction h with
  | nil => simp [outs]
  | @lit i l h hi hf ih =>
    rw [outs_snoc]
    have h1 : (out ls ld ((b.getD i 0).toNat, 0)).1 ≤ 9 := by
      unfold out out1 syN
      simp only [if_true, Nat.add_zero]
      exact Nat.le_trans (Fs_getD ls _) (H1 _)
    simp only
    omega
  | @copy i L K l h hi hf hL ih =>
    rw [outs_snoc]
    have hb := hf.bound hL
    have h1 := out_few ls ld H1 H2 H3 L K ⟨hb.1, hb.2.1, hb.2.2.2.1, hb.2.2.2.2.1⟩
    simp only
    omega
end Go.Proofs.YtcmeoappddpmcaaDoor.defp
