import Derived.Test.YtppgceighgpgoaaGreatDoorMgDfA
import Derived.Test.YtppgceighgpgoaaGreatDoorMgBk1
/-
  What steps stand for; a step's symbol, its distance: plain mathematics, over no program. My own text.
-/
namespace Go.Proofs.YtppgceighgpgoaaGreatDoor.defp
open Go.RowKit Go.Maps Go.Proofs.YtppgceighgpgoaaGreatDoor.base Go.Proofs.YtppgceighgpgoaaGreatDoor.num Go.Proofs.YtppgceighgpgoaaGreatDoor.bitnum Go.Proofs.YtppgceighgpgoaaGreatDoor.bitp Go.Proofs.YtppgceighgpgoaaGreatDoor.infp
set_option linter.unusedVariables false

theorem play_snoc (l : List (Nat × Nat)) (s : Nat × Nat) : play (l ++ [s]) = played (play l) s := by simp [play]
theorem take_next (b : List UInt8) (i : Nat) (h : i < b.length) : b.take (i + 1) = b.take i ++ [b.getD i 0] := by
  rw [List.take_succ_eq_append_getElem h]
  congr 2
  simp [List.getD, List.getElem?_eq_getElem h]
theorem getD_take (b : List UInt8) (i j : Nat) (h : j < i) : (b.take i).getD j 0 = b.getD j 0 := by
  simp only [List.getD, List.getElem?_take, if_pos h]
theorem copied_is (b : List UInt8) (p : Nat) : ∀ n i, p < i → i + n ≤ b.length → (∀ j, j < n → b.getD (p + j) 0 = b.getD (i + j) 0) → infnum.copied (i - p) n (b.take i) = b.take (i + n) := by
  intro n
  induction n generalizing p with
  | zero => intro i _ _ _; rfl
  | succ n ih =>
    intro i hp hn h
    have hl : (b.take i).length = i := by rw [List.length_take]; omega
    rw [infnum.copied, hl, show i - (i - p) = p by omega, getD_take b i p hp]
    have h0 := h 0 (by omega)
    rw [Nat.add_zero, Nat.add_zero] at h0
    rw [h0, ← take_next b i (by omega)]
    have := ih (p + 1) (i + 1) (by omega) (by omega) (fun j hj => by
      have := h (j + 1) (by omega)
      rw [show p + (j + 1) = p + 1 + j by omega, show i + (j + 1) = i + 1 + j by omega] at this
      exact this)
    rw [show i + 1 - (p + 1) = i - p by omega, show i + 1 + n = i + (n + 1) by omega] at this
    exact this
/-- the steps up to the byte i bring just the bytes up to it -/
theorem St.play {b : List UInt8} {i : Nat} {l : List (Nat × Nat)} (h : St b i l) : play l = b.take i ∧ i ≤ b.length := by
  induction h with
  | nil => exact ⟨rfl, Nat.zero_le _⟩
  | lit h hi hf ih =>
    refine ⟨?_, hi⟩
    rw [play_snoc, ih.1]
    unfold played
    rw [if_pos rfl, take_next b _ hi, UInt8.ofNat_toNat]
  | @copy i L K l h hi hf hL ih =>
    have hb := hf.bound hL
    refine ⟨?_, by omega⟩
    rw [play_snoc, ih.1]
    unfold played
    rw [if_neg (by simp only; omega)]
    rcases hf with ⟨h0, _⟩ | ⟨h1, p, hp, rfl, hl⟩
    · exact absurd h0 hL
    · refine copied_is b p L i hp.1 (by omega) fun j hj => ?_
      have h3 := hp.2.2.1
      unfold at3 at h3
      injection h3 with e1 e2 e3
      rcases Nat.lt_or_ge j 3 with hj3 | hj3
      · rcases (show j = 0 ∨ j = 1 ∨ j = 2 by omega) with rfl | rfl | rfl
        · exact e1
        · exact e2
        · exact e3
      · exact hl.2.2.1 j hj3 hj
/-- each step: a byte, or a copy that may be -/
theorem St.each {b : List UInt8} {i : Nat} {l : List (Nat × Nat)} (h : St b i l) : ∀ s ∈ l, (s.2 = 0 ∧ s.1 < 256) ∨ (3 ≤ s.1 ∧ s.1 ≤ 258 ∧ 1 ≤ s.2 ∧ s.2 ≤ 32768) := by
  induction h with
  | nil => intro s hs; cases hs
  | lit h hi hf ih =>
    intro s hs
    rcases List.mem_append.1 hs with hs | hs
    · exact ih s hs
    · rw [List.mem_singleton] at hs
      subst hs
      exact .inl ⟨rfl, UInt8.toNat_lt _⟩
  | copy h hi hf hL ih =>
    intro s hs
    rcases List.mem_append.1 hs with hs | hs
    · exact ih s hs
    · rw [List.mem_singleton] at hs
      subst hs
      have := hf.bound hL
      exact .inr ⟨this.1, this.2.1, this.2.2.2.1, this.2.2.2.2.1⟩
theorem St.last {b : List UInt8} {i : Nat} {l : List (Nat × Nat)} (h : St b i l) : l = [] ∧ i = 0 ∨ ∃ i0 l0 s, St b i0 l0 ∧ l = l0 ++ [s] ∧ i0 < i ∧ i0 < b.length ∧ ((Found b i0 0 0 ∧ s = ((b.getD i0 0).toNat, 0) ∧ i = i0 + 1) ∨ (∃ L K, Found b i0 L K ∧ L ≠ 0 ∧ s = (L, K) ∧ i = i0 + L)) := by
  cases h with
  | nil => exact .inl ⟨rfl, rfl⟩
  | lit h hi hf => exact .inr ⟨_, _, _, h, rfl, by omega, hi, .inl ⟨hf, rfl, rfl⟩⟩
  | copy h hi hf hL => exact .inr ⟨_, _, _, h, rfl, by omega, hi, .inr ⟨_, _, hf, hL, rfl, rfl⟩⟩
theorem St.same {b : List UInt8} : ∀ (n : Nat) {i i' : Nat} {l l' : List (Nat × Nat)}, St b i l → St b i' l' → l.length = n → l'.length = n → l = l' ∧ i = i'
  | 0, i, i', l, l', h, h', hl, hl' => by
    have e := List.eq_nil_of_length_eq_zero hl
    have e' := List.eq_nil_of_length_eq_zero hl'
    subst e; subst e'
    rcases h.last with ⟨_, rfl⟩ | ⟨_, _, _, _, e, _⟩
    · rcases h'.last with ⟨_, rfl⟩ | ⟨_, _, _, _, e, _⟩
      · exact ⟨rfl, rfl⟩
      · simp at e
    · simp at e
  | n + 1, i, i', l, l', h, h', hl, hl' => by
    rcases h.last with ⟨rfl, _⟩ | ⟨i0, l0, s, h0, rfl, _, _, hs⟩
    · simp at hl
    · rcases h'.last with ⟨rfl, _⟩ | ⟨i1, l1, s', h1, rfl, _, _, hs'⟩
      · simp at hl'
      · rw [List.length_append, List.length_singleton] at hl hl'
        obtain ⟨rfl, rfl⟩ := St.same n h0 h1 (by omega) (by omega)
        rcases hs with ⟨f, rfl, rfl⟩ | ⟨L, K, f, hL, rfl, rfl⟩
        · rcases hs' with ⟨f', rfl, rfl⟩ | ⟨L', K', f', hL', rfl, rfl⟩
          · exact ⟨rfl, rfl⟩
          · exact absurd (f.uniq f').1.symm hL'
        · rcases hs' with ⟨f', rfl, rfl⟩ | ⟨L', K', f', hL', rfl, rfl⟩
          · exact absurd (f.uniq f').1 hL
          · obtain ⟨rfl, rfl⟩ := f.uniq f'
            exact ⟨rfl, rfl⟩
theorem St.part {b : List UInt8} {i : Nat} {l : List (Nat × Nat)} (h : St b i l) : ∀ m, m ≤ l.length → ∃ i0 l0, St b i0 l0 ∧ l0.length = m ∧ (m < l.length → i0 < i) := by
  induction h with
  | nil => intro m hm; exact ⟨0, [], .nil, by simp at hm; simp [hm], fun h => absurd h (Nat.not_lt_zero _)⟩
  | @lit i l h hi hf ih =>
    intro m hm
    rw [List.length_append, List.length_singleton] at hm
    by_cases e : m = l.length + 1
    · exact ⟨_, _, .lit h hi hf, by simp [e], fun hlt => by simp at hlt; omega⟩
    · obtain ⟨i0, l0, h0, hl0, hlt⟩ := ih m (by omega)
      refine ⟨i0, l0, h0, hl0, fun _ => ?_⟩
      by_cases e2 : m < l.length
      · have := hlt e2; omega
      · have := (St.same m h0 h hl0 (by omega)).2; omega
  | @copy i L K l h hi hf hL ih =>
    intro m hm
    rw [List.length_append, List.length_singleton] at hm
    by_cases e : m = l.length + 1
    · exact ⟨_, _, .copy h hi hf hL, by simp [e], fun hlt => by simp at hlt; omega⟩
    · obtain ⟨i0, l0, h0, hl0, hlt⟩ := ih m (by omega)
      refine ⟨i0, l0, h0, hl0, fun _ => ?_⟩
      by_cases e2 : m < l.length
      · have := hlt e2; omega
      · have := (St.same m h0 h hl0 (by omega)).2; omega
/-- there is one such list -/
theorem St.uniq {b : List UInt8} {i : Nat} {l l' : List (Nat × Nat)} (h : St b i l) (h' : St b i l') : l = l' := by
  rcases Nat.lt_trichotomy l.length l'.length with e | e | e
  · obtain ⟨i0, l0, h0, hl0, hlt⟩ := h'.part l.length (by omega)
    have := (St.same _ h0 h hl0 rfl).2
    have := hlt e
    omega
  · exact (St.same _ h h' rfl e.symm).1
  · obtain ⟨i0, l0, h0, hl0, hlt⟩ := h.part l'.length (by omega)
    have := (St.same _ h0 h' hl0 rfl).2
    have := hlt e
    omega
theorem St.few {b : List UInt8} {i : Nat} {l : List (Nat × Nat)} (h : St b i l) : l.length ≤ i := by
  induction h with
  | nil => exact Nat.le_refl _
  | lit h hi hf ih => simp; omega
  | copy h hi hf hL ih => simp; omega

end Go.Proofs.YtppgceighgpgoaaGreatDoor.defp
