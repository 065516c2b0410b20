/-
  Layer 14's mathematics: beginnings of words, where a word ends first, what a step of the scan keeps. My own text.
-/
import Derived.WalkKit
namespace Go.Proofs.Ytgbffkneidnmfaa.aho
set_option linter.unusedVariables false
abbrev Bs := List UInt8

/-! where a word ends first -/
/-- where w ends first in t -/
def fe (w t : Bs) : Option Nat := (List.range (t.length + 1)).find? fun m => w.isSuffixOf (t.take m)
/-- the same as a number; -1: nowhere -/
def fv (w t : Bs) : Int := match fe w t with
  | some m => (m : Int)
  | none => -1
theorem find_congr {α : Type} {p q : α → Bool} : ∀ {l : List α}, (∀ x ∈ l, p x = q x) → l.find? p = l.find? q
  | [], _ => rfl
  | a :: l, h => by
    rw [List.find?_cons, List.find?_cons, h a (by simp), find_congr fun x hx => h x (by simp [hx])]
theorem fe_snoc (w t : Bs) (c : UInt8) : fe w (t ++ [c]) = match fe w t with
    | some m => some m
    | none => if w.isSuffixOf (t ++ [c]) then some (t.length + 1) else none := by
  unfold fe
  rw [List.length_append, List.length_singleton, List.range_succ, List.find?_append]
  have h1 : (List.range (t.length + 1)).find? (fun m => w.isSuffixOf ((t ++ [c]).take m)) = (List.range (t.length + 1)).find? (fun m => w.isSuffixOf (t.take m)) := by
    refine find_congr fun m hm => ?_
    rw [List.mem_range] at hm
    rw [List.take_append_of_le_length (by omega)]
  rw [h1]
  cases (List.range (t.length + 1)).find? (fun m => w.isSuffixOf (t.take m)) with
  | some m => rfl
  | none =>
    have h2 : (t ++ [c]).take (t.length + 1) = t ++ [c] := List.take_of_length_le (by simp)
    rw [Option.none_or, List.find?_cons, h2]
    cases h3 : w.isSuffixOf (t ++ [c]) <;> simp
theorem fe_nil (w : Bs) : fe w [] = if w = [] then some 0 else none := by
  unfold fe
  cases w with
  | nil => rfl
  | cons a r =>
    rw [if_neg (by simp)]
    simp [List.range_succ, List.find?]
theorem fv_nil {w : Bs} (h : w ≠ []) : fv w [] = -1 := by
  unfold fv
  rw [fe_nil, if_neg h]
theorem fv_snoc (w t : Bs) (c : UInt8) : fv w (t ++ [c]) = if fv w t = -1 then (if w <:+ t ++ [c] then ((t.length + 1 : Nat) : Int) else -1) else fv w t := by
  unfold fv
  rw [fe_snoc]
  cases h : fe w t with
  | some m => simp only; rw [if_neg (by omega)]
  | none =>
    simp only
    rw [if_pos trivial]
    by_cases h2 : w <:+ t ++ [c]
    · rw [if_pos h2, if_pos (List.isSuffixOf_iff_suffix.2 h2)]
    · rw [if_neg h2, if_neg (fun h3 => h2 (List.isSuffixOf_iff_suffix.1 h3))]
theorem fv_ge (w t : Bs) : -1 ≤ fv w t := by
  unfold fv
  cases fe w t <;> simp only <;> omega
theorem fe_le {w t : Bs} {m : Nat} (h : fe w t = some m) : m ≤ t.length ∧ w <:+ t.take m := by
  unfold fe at h
  have h2 : w.isSuffixOf (t.take m) = true := List.find?_some (p := fun m => w.isSuffixOf (t.take m)) h
  refine ⟨?_, List.isSuffixOf_iff_suffix.1 h2⟩
  have := List.mem_of_find?_eq_some h
  rw [List.mem_range] at this
  omega
theorem fv_le (w t : Bs) : fv w t ≤ t.length := by
  unfold fv
  cases h : fe w t with
  | none => simp only; omega
  | some m => simp only; have := (fe_le h).1; omega

/-! suffixes -/
theorem suf_total {a b t : Bs} (ha : a <:+ t) (hb : b <:+ t) (h : a.length ≤ b.length) : a <:+ b := List.suffix_of_suffix_length_le ha hb h
theorem suf_snoc {a t : Bs} {c : UInt8} (h : a <:+ t ++ [c]) (hne : a ≠ []) : ∃ u, a = u ++ [c] ∧ u <:+ t := by
  obtain ⟨s, hs⟩ := h
  have ha : a = a.dropLast ++ [a.getLast hne] := (List.dropLast_concat_getLast hne).symm
  rw [ha, ← List.append_assoc] at hs
  have h2 := List.append_inj_left' hs rfl
  have h3 := List.append_inj_right' hs rfl
  refine ⟨a.dropLast, ?_, s, h2⟩
  rw [← h3]
  exact ha
theorem suf_snoc2 {a t : Bs} (c : UInt8) (h : a <:+ t) : a ++ [c] <:+ t ++ [c] := by
  obtain ⟨s, hs⟩ := h
  exact ⟨s, by rw [← List.append_assoc, hs]⟩
theorem suf_tail {a p : Bs} (h : a <:+ p) (hne : a ≠ p) : a <:+ p.tail := by
  obtain ⟨s, rfl⟩ := h
  cases s with
  | nil => exact absurd rfl hne
  | cons x s => exact ⟨s, rfl⟩
theorem tail_suf (p : Bs) : p.tail <:+ p := List.tail_suffix p
theorem tail_snoc {p : Bs} (h : p ≠ []) (c : UInt8) : (p ++ [c]).tail = p.tail ++ [c] := by
  cases p with
  | nil => exact absurd rfl h
  | cons a r => rfl

/-! the states: what is in each (its ways, its back, its ends) and which beginning it is -/
structure Sv where
  /-- the map's block -/
  mb : Nat
  ways : List (UInt8 × Nat)
  back : Nat
  /-- where the ends lie, and how many there is room for -/
  ea : Option Addr
  ec : Nat
  ends : List Nat
def wlk (l : List (UInt8 × Nat)) (c : UInt8) : Nat := match l.find? (fun p => p.1 == c) with
  | some p => p.2
  | none => 0
theorem look_cases (l : List (UInt8 × Nat)) (c : UInt8) : (∃ j, (c, j) ∈ l ∧ wlk l c = j) ∨ ((∀ p ∈ l, p.1 ≠ c) ∧ wlk l c = 0) := by
  unfold wlk
  cases h : l.find? (fun p => p.1 == c) with
  | some p =>
    have h1 := List.find?_some h
    have h2 := List.mem_of_find?_eq_some h
    simp only [beq_iff_eq] at h1
    subst h1
    exact .inl ⟨p.2, h2, rfl⟩
  | none =>
    refine .inr ⟨fun p hp hc => ?_, rfl⟩
    have := List.find?_eq_none.1 h p hp
    simp [hc] at this

/-- the trie: P are the states' beginnings -/
structure Trie (P : List Bs) (T : List Sv) : Prop where
  len : P.length = T.length
  zero : P[0]? = some []
  nodup : P.Nodup
  way : ∀ (i : Nat) (s : Sv) (p : Bs), T[i]? = some s → P[i]? = some p → ∀ (c : UInt8) (j : Nat), (c, j) ∈ s.ways ↔ P[j]? = some (p ++ [c])
  closed : ∀ (p : Bs) (c : UInt8), p ++ [c] ∈ P → p ∈ P
theorem at_of_mem {P : List Bs} {p : Bs} (h : p ∈ P) : ∃ i : Nat, P[i]? = some p := by
  obtain ⟨i, hi, he⟩ := List.getElem_of_mem h
  exact ⟨i, by rw [List.getElem?_eq_getElem hi, he]⟩
theorem nodup_at {P : List Bs} (h : P.Nodup) {i j : Nat} {p : Bs} (hi : P[i]? = some p) (hj : P[j]? = some p) : i = j := by
  obtain ⟨hi1, hi2⟩ := List.getElem?_eq_some_iff.1 hi
  obtain ⟨hj1, hj2⟩ := List.getElem?_eq_some_iff.1 hj
  exact (List.getElem_inj h).1 (hi2.trans hj2.symm)
section
variable {P : List Bs} {T : List Sv}
theorem Trie.sv (h : Trie P T) {i : Nat} {p : Bs} (hp : P[i]? = some p) : ∃ s, T[i]? = some s :=
  ⟨_, List.getElem?_eq_getElem (by rw [← h.len]; exact (List.getElem?_eq_some_iff.1 hp).1)⟩
theorem Trie.txt (h : Trie P T) {i : Nat} {s : Sv} (hs : T[i]? = some s) : ∃ p, P[i]? = some p :=
  ⟨_, List.getElem?_eq_getElem (by rw [h.len]; exact (List.getElem?_eq_some_iff.1 hs).1)⟩
theorem Trie.look_some (h : Trie P T) {i j : Nat} {s : Sv} {p : Bs} {c : UInt8} (hs : T[i]? = some s) (hp : P[i]? = some p) (hj : P[j]? = some (p ++ [c])) : wlk s.ways c = j ∧ j ≠ 0 := by
  refine ⟨?_, ?_⟩
  · rcases look_cases s.ways c with ⟨j', h1, h2⟩ | ⟨h1, _⟩
    · rw [h2]
      exact nodup_at h.nodup ((h.way i s p hs hp c j').1 h1) hj
    · exact absurd rfl (h1 (c, j) ((h.way i s p hs hp c j).2 hj))
  · rintro rfl
    rw [h.zero] at hj
    injection hj with hj
    exact absurd hj.symm (by simp)
theorem Trie.look_none (h : Trie P T) {i : Nat} {s : Sv} {p : Bs} {c : UInt8} (hs : T[i]? = some s) (hp : P[i]? = some p) (hn : p ++ [c] ∉ P) : wlk s.ways c = 0 := by
  rcases look_cases s.ways c with ⟨j', h1, h2⟩ | ⟨_, h2⟩
  · exact absurd (List.mem_of_getElem? ((h.way i s p hs hp c j').1 h1)) hn
  · exact h2
theorem Trie.look_iff (h : Trie P T) {i : Nat} {s : Sv} {p : Bs} {c : UInt8} (hs : T[i]? = some s) (hp : P[i]? = some p) :
    (wlk s.ways c ≠ 0 ∧ P[wlk s.ways c]? = some (p ++ [c])) ∨ (wlk s.ways c = 0 ∧ p ++ [c] ∉ P) := by
  by_cases hm : p ++ [c] ∈ P
  · obtain ⟨j, hj⟩ := at_of_mem hm
    obtain ⟨h1, h2⟩ := h.look_some hs hp hj
    rw [h1]
    exact .inl ⟨h2, hj⟩
  · exact .inr ⟨h.look_none hs hp hm, hm⟩
theorem Trie.zero_iff (h : Trie P T) {i : Nat} {p : Bs} (hp : P[i]? = some p) : i = 0 ↔ p = [] := by
  constructor
  · rintro rfl
    rw [h.zero] at hp
    exact (Option.some.inj hp).symm
  · rintro rfl
    exact nodup_at h.nodup hp h.zero

/-- state i is the longest beginning that t ends with -/
def Rt (P : List Bs) (i : Nat) (t : Bs) : Prop := ∃ p, P[i]? = some p ∧ p <:+ t ∧ ∀ q ∈ P, q <:+ t → q <:+ p
theorem Rt.nil (h : Trie P T) : Rt P 0 [] := ⟨[], h.zero, List.suffix_refl _, fun q _ hq => hq⟩
theorem Rt.self {i : Nat} {p : Bs} (hp : P[i]? = some p) : Rt P i p := ⟨p, hp, List.suffix_refl _, fun q _ hq => hq⟩
/-- the way of 'next': from at by c to r; the beginnings on it get shorter -/
inductive Ch (P : List Bs) (T : List Sv) (c : UInt8) : Nat → Nat → Prop
  | hit {at_ r : Nat} {s : Sv} : T[at_]? = some s → wlk s.ways c = r → (at_ = 0 ∨ r ≠ 0) → Ch P T c at_ r
  | step {at_ r : Nat} {s : Sv} {p q : Bs} : T[at_]? = some s → at_ ≠ 0 → wlk s.ways c = 0 → P[at_]? = some p → P[s.back]? = some q → q.length < p.length → Ch P T c s.back r → Ch P T c at_ r
/-- the states no longer than d have their backs -/
def Backs (P : List Bs) (T : List Sv) (d : Nat) : Prop := ∀ (i : Nat) (s : Sv) (p : Bs), T[i]? = some s → P[i]? = some p → p ≠ [] → p.length ≤ d → Rt P s.back p.tail
theorem next_step (h : Trie P T) {d : Nat} (hb : Backs P T d) (c : UInt8) (t : Bs) : ∀ (k : Nat) (at_ : Nat) (p : Bs), P[at_]? = some p → p.length ≤ k → p.length ≤ d → p <:+ t →
    (∀ u, u ++ [c] ∈ P → u <:+ t → u <:+ p) → ∃ r, Ch P T c at_ r ∧ Rt P r (t ++ [c]) := by
  intro k
  induction k with
  | zero =>
    intro at_ p hp hk hd hsuf hall
    have hp0 : p = [] := List.eq_nil_of_length_eq_zero (by omega)
    have h0 := (h.zero_iff hp).2 hp0
    obtain ⟨s, hs⟩ := h.sv hp
    refine ⟨wlk s.ways c, .hit hs rfl (.inl h0), ?_⟩
    rcases h.look_iff (c := c) hs hp with ⟨h1, h2⟩ | ⟨h1, h2⟩
    · refine ⟨p ++ [c], h2, suf_snoc2 c hsuf, fun q hq hqt => ?_⟩
      by_cases hq0 : q = []
      · rw [hq0]; exact List.nil_suffix
      obtain ⟨u, rfl, hu⟩ := suf_snoc hqt hq0
      exact suf_snoc2 c (hall u hq hu)
    · rw [h1]
      refine ⟨[], h.zero, List.nil_suffix, fun q hq hqt => ?_⟩
      by_cases hq0 : q = []
      · rw [hq0]; exact List.nil_suffix
      obtain ⟨u, rfl, hu⟩ := suf_snoc hqt hq0
      have := hall u hq hu
      rw [hp0] at this h2
      rw [List.suffix_nil.1 this] at hq
      exact absurd hq h2
  | succ k ih =>
    intro at_ p hp hk hd hsuf hall
    obtain ⟨s, hs⟩ := h.sv hp
    rcases h.look_iff (c := c) hs hp with ⟨h1, h2⟩ | ⟨h1, h2⟩
    · refine ⟨wlk s.ways c, .hit hs rfl (.inr h1), p ++ [c], h2, suf_snoc2 c hsuf, fun q hq hqt => ?_⟩
      by_cases hq0 : q = []
      · rw [hq0]; exact List.nil_suffix
      obtain ⟨u, rfl, hu⟩ := suf_snoc hqt hq0
      exact suf_snoc2 c (hall u hq hu)
    · by_cases hp0 : p = []
      · have h0 := (h.zero_iff hp).2 hp0
        refine ⟨wlk s.ways c, .hit hs rfl (.inl h0), ?_⟩
        rw [h1]
        refine ⟨[], h.zero, List.nil_suffix, fun q hq hqt => ?_⟩
        by_cases hq0 : q = []
        · rw [hq0]; exact List.nil_suffix
        obtain ⟨u, rfl, hu⟩ := suf_snoc hqt hq0
        have := hall u hq hu
        rw [hp0] at this h2
        rw [List.suffix_nil.1 this] at hq
        exact absurd hq h2
      · have hn0 : at_ ≠ 0 := fun e => hp0 ((h.zero_iff hp).1 e)
        obtain ⟨q, hq, hqs, hqa⟩ := hb at_ s p hs hp hp0 hd
        have hlen : q.length < p.length := by
          have h3 := hqs.length_le
          rw [List.length_tail] at h3
          have : 0 < p.length := List.length_pos_iff.2 hp0
          omega
        have hqp : q <:+ p := hqs.trans (tail_suf p)
        obtain ⟨r, hr1, hr2⟩ := ih s.back q hq (by omega) (by omega) (hqp.trans hsuf) (fun u hu hut => by
          have h3 := hall u hu hut
          have h4 : u ≠ p := fun e => h2 (e ▸ hu)
          exact hqa u (h.closed u c hu) (suf_tail h3 h4))
        exact ⟨r, .step hs hn0 h1 hp hq hlen hr1, hr2⟩
theorem next_right (h : Trie P T) {d : Nat} (hb : Backs P T d) (c : UInt8) (t : Bs) {at_ : Nat} (ht : Rt P at_ t) (hd : ∀ p, P[at_]? = some p → p.length ≤ d) : ∃ r, Ch P T c at_ r ∧ Rt P r (t ++ [c]) := by
  obtain ⟨p, hp, h1, h2⟩ := ht
  exact next_step h hb c t p.length at_ p hp (Nat.le_refl _) (hd p hp) h1 (fun u hu hut => h2 u (h.closed u c hu) hut)

/-- the ends of a state: just the words that its beginning ends with -/
def EndsOk (W : List Bs) (ends : List Nat) (p : Bs) : Prop := ∀ k, k ∈ ends ↔ ∃ w, W[k]? = some w ∧ w <:+ p
theorem EndsOk.text {W : List Bs} (hW : ∀ w ∈ W, w ∈ P) {ends : List Nat} {p t : Bs} (h : EndsOk W ends p) (hp : p <:+ t) (ha : ∀ q ∈ P, q <:+ t → q <:+ p) : EndsOk W ends t := fun k => by
  rw [h k]
  constructor
  · rintro ⟨w, h1, h2⟩
    exact ⟨w, h1, h2.trans hp⟩
  · rintro ⟨w, h1, h2⟩
    exact ⟨w, h1, ha w (hW w (List.mem_of_getElem? h1)) h2⟩
/-- its own ends and those of its back are all -/
theorem EndsOk.join {W : List Bs} (hW : ∀ w ∈ W, w ∈ P) {own ends : List Nat} {p q : Bs} (h1 : ∀ k, k ∈ own ↔ W[k]? = some p) (h2 : EndsOk W ends q) (hp : p ≠ []) (hq : q <:+ p.tail) (ha : ∀ x ∈ P, x <:+ p.tail → x <:+ q) : EndsOk W (own ++ ends) p := fun k => by
  have h3 := h2.text hW hq ha
  rw [List.mem_append, h1 k, h3 k]
  constructor
  · rintro (h | ⟨w, h4, h5⟩)
    · exact ⟨p, h, List.suffix_refl _⟩
    · exact ⟨w, h4, h5.trans (tail_suf p)⟩
  · rintro ⟨w, h4, h5⟩
    by_cases e : w = p
    · subst e; exact .inl h4
    · exact .inr ⟨w, h4, suf_tail h5 e⟩

/-- the states are ready to be scanned by -/
structure Ready (W : List Bs) (P : List Bs) (T : List Sv) : Prop where
  trie : Trie P T
  words : ∀ w ∈ W, w ∈ P
  backs : ∀ d, Backs P T d
  ends : ∀ (i : Nat) (s : Sv) (p : Bs), T[i]? = some s → P[i]? = some p → EndsOk W s.ends p
  few : ∀ s ∈ T, s.ends.length ≤ W.length
end

/-! what 'note' does -/
/-- the first places and how many are new, behind these ends -/
def note (z : Int) : List Nat → List Int → List Int
  | [], F => F
  | k :: r, F => note z r (if F[k]? = some (-1) then F.set k z else F)
def cnt (F : List Int) : Nat := F.count (-1)
theorem note_len (z : Int) : ∀ (e : List Nat) (F : List Int), (note z e F).length = F.length
  | [], F => rfl
  | k :: r, F => by
    rw [note, note_len z r]
    split <;> simp
theorem note_snoc (z : Int) : ∀ (e : List Nat) (k : Nat) (F : List Int), note z (e ++ [k]) F = if (note z e F)[k]? = some (-1) then (note z e F).set k z else note z e F
  | [], k, F => rfl
  | a :: r, k, F => by
    rw [List.cons_append, note, note, note_snoc z r]
theorem note_at {z : Int} (hz : z ≠ -1) : ∀ (e : List Nat) (F : List Int) (i : Nat) (x : Int), F[i]? = some x → (note z e F)[i]? = some (if x = -1 ∧ i ∈ e then z else x)
  | [], F, i, x, h => by simpa [note] using h
  | k :: r, F, i, x, h => by
    rw [note]
    by_cases hk : F[k]? = some (-1)
    · rw [if_pos hk]
      by_cases hik : k = i
      · subst hik
        rw [hk] at h
        injection h with h
        subst h
        rw [note_at hz r (F.set k z) k z (List.getElem?_set_self (List.getElem?_eq_some_iff.1 hk).1)]
        simp [hz]
      · rw [note_at hz r (F.set k z) i x (by rw [List.getElem?_set_ne hik]; exact h)]
        have : (i ∈ k :: r) ↔ i ∈ r := by simp [Ne.symm hik]
        simp only [this]
    · rw [if_neg hk, note_at hz r F i x h]
      by_cases hik : k = i
      · subst hik
        have : x ≠ -1 := fun e => hk (by rw [h, e])
        simp [this]
      · have : (i ∈ k :: r) ↔ i ∈ r := by simp [Ne.symm hik]
        simp only [this]
theorem cnt_set {F : List Int} {k : Nat} {z : Int} (hz : z ≠ -1) (h : F[k]? = some (-1)) : cnt (F.set k z) + 1 = cnt F := by
  induction F generalizing k with
  | nil => simp at h
  | cons a r ih =>
    cases k with
    | zero =>
      simp only [List.getElem?_cons_zero, Option.some.injEq] at h
      subst h
      unfold cnt
      rw [List.set_cons_zero, List.count_cons, List.count_cons]
      simp [hz]
    | succ k =>
      rw [List.getElem?_cons_succ] at h
      have := ih h
      unfold cnt at this ⊢
      rw [List.set_cons_succ, List.count_cons, List.count_cons]
      omega
theorem note_cnt (z : Int) : ∀ (e : List Nat) (F : List Int), cnt (note z e F) ≤ cnt F ∨ z = -1
  | [], F => .inl (Nat.le_refl _)
  | k :: r, F => by
    by_cases hz : z = -1
    · exact .inr hz
    · left
      rw [note]
      rcases note_cnt z r (if F[k]? = some (-1) then F.set k z else F) with h | h
      · by_cases hk : F[k]? = some (-1)
        · rw [if_pos hk] at h ⊢
          have := cnt_set hz hk
          omega
        · rw [if_neg hk] at h ⊢
          exact h
      · exact absurd h hz
/-- a byte more: the first places -/
theorem note_step {W : List Bs} {t : Bs} {c : UInt8} {ends : List Nat} (h : EndsOk W ends (t ++ [c])) : note ((t.length + 1 : Nat) : Int) ends (W.map (fun w => fv w t)) = W.map (fun w => fv w (t ++ [c])) := by
  refine List.ext_getElem? fun i => ?_
  by_cases hi : i < W.length
  · have hw : W[i]? = some W[i] := List.getElem?_eq_getElem hi
    have h1 : (W.map (fun w => fv w t))[i]? = some (fv W[i] t) := by rw [List.getElem?_map, hw]; rfl
    rw [note_at (by omega) ends _ i _ h1, List.getElem?_map, hw, Option.map_some, fv_snoc]
    congr 1
    have h2 : i ∈ ends ↔ W[i] <:+ t ++ [c] := by
      rw [h i]
      constructor
      · rintro ⟨w, h3, h4⟩
        rw [hw] at h3
        injection h3 with h3
        rw [h3]; exact h4
      · exact fun h3 => ⟨_, hw, h3⟩
    by_cases h3 : fv W[i] t = -1
    · rw [if_pos h3]
      by_cases h4 : W[i] <:+ t ++ [c]
      · rw [if_pos h4, if_pos ⟨h3, h2.2 h4⟩]
      · rw [if_neg h4, if_neg (fun h5 => h4 (h2.1 h5.2)), h3]
    · rw [if_neg h3, if_neg (fun h5 => h3 h5.1)]
  · rw [List.getElem?_eq_none (by rw [note_len, List.length_map]; omega), List.getElem?_eq_none (by rw [List.length_map]; omega)]
end Go.Proofs.Ytgbffkneidnmfaa.aho
