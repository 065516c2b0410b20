/-
  Layer 14's mathematics: how the states are made, word by word, and how they get their backs, the shorter ones first. My own text.
-/
import Derived.Test.YtgbffkneidnmfaaAhoNum
namespace Go.Proofs.Ytgbffkneidnmfaa.aho
set_option linter.unusedVariables false

/-- only what isn't a way has changed -/
theorem Trie.same {P : List Bs} {T T' : List Sv} (h : Trie P T) (hl : T'.length = T.length) (hw : ∀ (i : Nat) (s' : Sv), T'[i]? = some s' → ∃ s, T[i]? = some s ∧ s.ways = s'.ways) : Trie P T' where
  len := h.len.trans hl.symm
  zero := h.zero
  nodup := h.nodup
  way i s' p hs hp c j := by
    obtain ⟨s, h1, h2⟩ := hw i s' hs
    rw [← h2]
    exact h.way i s p h1 hp c j
  closed := h.closed
theorem set_at {α : Type} {T : List α} {i j : Nat} {s t x : α} (hs : T[i]? = some s) (h : (T.set i t)[j]? = some x) : (j = i ∧ x = t) ∨ (j ≠ i ∧ T[j]? = some x) := by
  by_cases e : i = j
  · subst e
    rw [List.getElem?_set_self (List.getElem?_eq_some_iff.1 hs).1] at h
    exact .inl ⟨rfl, (Option.some.inj h).symm⟩
  · rw [List.getElem?_set_ne e] at h
    exact .inr ⟨fun e2 => e e2.symm, h⟩
theorem Trie.set {P : List Bs} {T : List Sv} (h : Trie P T) {i : Nat} {s t : Sv} (hs : T[i]? = some s) (hw : t.ways = s.ways) : Trie P (T.set i t) :=
  h.same (by simp) fun j x hx => by
    rcases set_at hs hx with ⟨rfl, rfl⟩ | ⟨_, h1⟩
    · exact ⟨s, hs, hw.symm⟩
    · exact ⟨x, h1, rfl⟩
theorem app_at {α : Type} {T : List α} {n j : Nat} {s x : α} (hn : T.length = n) (h : (T ++ [s])[j]? = some x) : (j < n ∧ T[j]? = some x) ∨ (j = n ∧ x = s) := by
  by_cases hj : j < T.length
  · rw [List.getElem?_append_left hj] at h
    exact .inl ⟨by omega, h⟩
  · rw [List.getElem?_append_right (by omega)] at h
    have h2 := (List.getElem?_eq_some_iff.1 h).1
    simp at h2
    have : j - T.length = 0 := by omega
    rw [this] at h
    exact .inr ⟨by omega, (Option.some.inj h).symm⟩
theorem app_old {α : Type} {T : List α} {j : Nat} {s x : α} (h : T[j]? = some x) : (T ++ [s])[j]? = some x := by
  rw [List.getElem?_append_left (List.getElem?_eq_some_iff.1 h).1]
  exact h
/-- a state more -/
theorem Trie.more {P : List Bs} {T : List Sv} (h : Trie P T) {at_ n : Nat} {s : Sv} {p : Bs} {c : UInt8} (hs : T[at_]? = some s) (hp : P[at_]? = some p) (hn : T.length = n) (hno : p ++ [c] ∉ P) (s' new : Sv) (h1 : s'.ways = (c, n) :: s.ways) (h2 : new.ways = []) :
    Trie (P ++ [p ++ [c]]) (T.set at_ s' ++ [new]) where
  len := by simp [h.len]
  zero := app_old h.zero
  nodup := by
    rw [List.nodup_append]
    refine ⟨h.nodup, by simp, fun a ha b hb => ?_⟩
    rw [List.mem_singleton] at hb
    subst hb
    exact fun e => hno (e ▸ ha)
  way i t q ht hq c' j := by
    have hPn : P.length = n := h.len.trans hn
    rcases app_at (n := n) (by simp [hn]) ht with ⟨hi, ht⟩ | ⟨rfl, rfl⟩
    · rcases app_at hPn hq with ⟨_, hq2⟩ | ⟨e, _⟩
      · clear hq
        have hq := hq2
        clear hq2
        rcases set_at hs ht with ⟨rfl, rfl⟩ | ⟨hne, ht⟩
        · rw [hp] at hq
          injection hq with hq
          subst hq
          rw [h1, List.mem_cons, Prod.mk.injEq, h.way i s p hs hp c' j]
          constructor
          · rintro (⟨rfl, rfl⟩ | h3)
            · rw [List.getElem?_append_right (by omega), hPn, Nat.sub_self]; rfl
            · exact app_old h3
          · intro h3
            rcases app_at hPn h3 with ⟨_, h4⟩ | ⟨rfl, h4⟩
            · exact .inr h4
            · have := List.append_inj_right' h4 rfl
              simp at this
              exact .inl ⟨this, rfl⟩
        · rw [h.way i t q ht hq c' j]
          constructor
          · exact fun h3 => app_old h3
          · intro h3
            rcases app_at hPn h3 with ⟨_, h4⟩ | ⟨rfl, h4⟩
            · exact h4
            · have := List.append_inj_left' h4 rfl
              subst this
              exact absurd (nodup_at h.nodup hq hp) hne
      · omega
    · rcases app_at hPn hq with ⟨hi, _⟩ | ⟨_, rfl⟩
      · omega
      · rw [h2]
        constructor
        · intro h3; cases h3
        · intro h3
          rcases app_at hPn h3 with ⟨_, h4⟩ | ⟨_, h4⟩
          · exact absurd (h.closed _ _ (List.mem_of_getElem? h4)) hno
          · have := congrArg List.length h4
            simp at this
  closed q d hq := by
    rw [List.mem_append, List.mem_singleton] at hq ⊢
    rcases hq with hq | hq
    · exact .inl (h.closed q d hq)
    · have := List.append_inj_left' hq rfl
      subst this
      exact .inl (List.mem_of_getElem? hp)

/-- m words are in -/
structure Bld (W : List Bs) (m : Nat) (P : List Bs) (T : List Sv) : Prop where
  trie : Trie P T
  words : ∀ (k : Nat) (w : Bs), k < m → W[k]? = some w → w ∈ P
  own : ∀ (j : Nat) (s : Sv) (p : Bs), T[j]? = some s → P[j]? = some p → s.back = 0 ∧ ∀ k, k ∈ s.ends ↔ k < m ∧ W[k]? = some p
  nd : ∀ s ∈ T, s.ends.Nodup
section
variable {W : List Bs} {m : Nat} {P : List Bs} {T : List Sv}
theorem Bld.more (h : Bld W m P T) {at_ n : Nat} {s : Sv} {p : Bs} {c : UInt8} (hs : T[at_]? = some s) (hp : P[at_]? = some p) (hn : T.length = n) (hno : p ++ [c] ∉ P) (s' new : Sv) (h1 : s'.ways = (c, n) :: s.ways) (hb : s'.back = s.back) (he : s'.ends = s.ends)
    (h2 : new.ways = []) (h3 : new.back = 0) (h4 : new.ends = []) : Bld W m (P ++ [p ++ [c]]) (T.set at_ s' ++ [new]) where
  trie := h.trie.more hs hp hn hno s' new h1 h2
  words k w hk hw := List.mem_append_left _ (h.words k w hk hw)
  own j t q ht hq := by
    have hPn : P.length = n := h.trie.len.trans hn
    rcases app_at (n := n) (by simp [hn]) ht with ⟨hi, ht⟩ | ⟨rfl, rfl⟩
    · rcases app_at hPn hq with ⟨_, hq⟩ | ⟨e, _⟩
      · rcases set_at hs ht with ⟨rfl, rfl⟩ | ⟨hne, ht⟩
        · rw [hb, he]
          exact h.own j s q hs hq
        · exact h.own j t q ht hq
      · omega
    · rcases app_at hPn hq with ⟨hi, _⟩ | ⟨_, rfl⟩
      · omega
      · rw [h3, h4]
        refine ⟨rfl, fun k => ⟨fun h5 => absurd h5 (by simp), fun h5 => ?_⟩⟩
        exact absurd (h.words k _ h5.1 h5.2) hno
  nd t ht := by
    rw [List.mem_append, List.mem_singleton] at ht
    rcases ht with ht | rfl
    · rcases List.mem_or_eq_of_mem_set ht with ht | rfl
      · exact h.nd t ht
      · rw [he]; exact h.nd s (List.mem_of_getElem? hs)
    · rw [h4]; exact List.nodup_nil
theorem Bld.end_ (h : Bld W m P T) {j : Nat} {s s' : Sv} {w : Bs} (hs : T[j]? = some s) (hp : P[j]? = some w) (hw : W[m]? = some w) (h1 : s'.ways = s.ways) (h2 : s'.back = s.back) (h3 : s'.ends = s.ends ++ [m]) : Bld W (m + 1) P (T.set j s') where
  trie := h.trie.set hs h1
  words k x hk hx := by
    by_cases e : k = m
    · subst e
      rw [hw] at hx
      injection hx with hx
      subst hx
      exact List.mem_of_getElem? hp
    · exact h.words k x (by omega) hx
  own i t q ht hq := by
    rcases set_at hs ht with ⟨rfl, rfl⟩ | ⟨hne, ht⟩
    · rw [hp] at hq
      injection hq with hq
      subst hq
      obtain ⟨h4, h5⟩ := h.own i s w hs hp
      refine ⟨h2.trans h4, fun k => ?_⟩
      rw [h3, List.mem_append, h5 k, List.mem_singleton]
      constructor
      · rintro (⟨h6, h7⟩ | rfl)
        · exact ⟨by omega, h7⟩
        · exact ⟨by omega, hw⟩
      · rintro ⟨h6, h7⟩
        by_cases e : k = m
        · exact .inr e
        · exact .inl ⟨by omega, h7⟩
    · obtain ⟨h4, h5⟩ := h.own i t q ht hq
      refine ⟨h4, fun k => ?_⟩
      rw [h5 k]
      constructor
      · exact fun h6 => ⟨by omega, h6.2⟩
      · rintro ⟨h6, h7⟩
        refine ⟨?_, h7⟩
        by_cases e : k = m
        · subst e
          rw [hw] at h7
          injection h7 with h7
          subst h7
          exact absurd (nodup_at h.trie.nodup hq hp) hne
        · omega
  nd t ht := by
    rcases List.mem_or_eq_of_mem_set ht with ht | rfl
    · exact h.nd t ht
    · rw [h3, List.nodup_append]
      refine ⟨h.nd s (List.mem_of_getElem? hs), by simp, fun a ha b hb => ?_⟩
      rw [List.mem_singleton] at hb
      subst hb
      have := ((h.own j s w hs hp).2 a).1 ha
      omega
end
theorem Bld.start (W : List Bs) (s : Sv) (h1 : s.ways = []) (h2 : s.back = 0) (h3 : s.ends = []) : Bld W 0 [[]] [s] where
  trie := {
    len := rfl
    zero := rfl
    nodup := by simp
    way := fun i t p ht hp c j => by
      cases i with
      | zero =>
        simp only [List.getElem?_cons_zero, Option.some.injEq] at ht hp
        subst ht; subst hp
        rw [h1]
        constructor
        · intro h; cases h
        · intro h
          cases j with
          | zero => simp at h
          | succ j => simp at h
      | succ i => simp at ht
    closed := fun p c h => by simp at h }
  words k w hk _ := by omega
  own j t p ht hp := by
    cases j with
    | zero =>
      simp only [List.getElem?_cons_zero, Option.some.injEq] at ht
      subst ht
      rw [h2, h3]
      exact ⟨rfl, fun k => ⟨fun h => absurd h (by simp), fun h => by omega⟩⟩
    | succ j => simp at ht
  nd t ht := by
    rw [List.mem_singleton] at ht
    subst ht
    rw [h3]; exact List.nodup_nil

theorem at_of_mem' {l : List Nat} {x : Nat} (h : x ∈ l) : ∃ a : Nat, l[a]? = some x := by
  obtain ⟨a, ha, he⟩ := List.getElem_of_mem h
  exact ⟨a, by rw [List.getElem?_eq_getElem ha, he]⟩
theorem nodup_few : ∀ (n : Nat) (l : List Nat), l.Nodup → (∀ x ∈ l, x < n) → l.length ≤ n
  | 0, [], _, _ => Nat.le_refl _
  | 0, a :: l, _, h => absurd (h a (by simp)) (by omega)
  | n + 1, l, hd, h => by
    have h1 := nodup_few n (l.erase n) (hd.erase n) (fun x hx => by
      have h2 := h x (List.mem_of_mem_erase hx)
      have h3 : x ≠ n := fun e => by rw [e] at hx; exact (List.Nodup.not_mem_erase hd) hx
      omega)
    by_cases hn : n ∈ l
    · rw [List.length_erase_of_mem hn] at h1
      omega
    · rw [List.erase_of_not_mem hn] at h1
      omega
/-- the states get their backs: row are those that have theirs, i of them have been gone through, and of the next one the ways H -/
structure Lk (W P : List Bs) (T : List Sv) (row : List Nat) (i : Nat) (H : List (UInt8 × Nat)) : Prop where
  trie : Trie P T
  words : ∀ w ∈ W, w ∈ P
  zero : row[0]? = some 0
  nodup : row.Nodup
  inT : ∀ j ∈ row, j < P.length
  sorted : ∀ (a b ja jb : Nat) (pa pb : Bs), a ≤ b → row[a]? = some ja → row[b]? = some jb → P[ja]? = some pa → P[jb]? = some pb → pa.length ≤ pb.length
  near : ∀ (from_ j : Nat) (p q : Bs), row[i]? = some from_ → P[from_]? = some p → j ∈ row → P[j]? = some q → q.length ≤ p.length + 1
  kids : ∀ (a par j : Nat) (p : Bs) (c : UInt8), a < i → row[a]? = some par → P[par]? = some p → P[j]? = some (p ++ [c]) → j ∈ row
  handled : ∀ (c : UInt8) (j : Nat), (c, j) ∈ H → j ∈ row
  members : ∀ j ∈ row, j = 0 ∨ (∃ (a par : Nat) (p : Bs) (c : UInt8), a < i ∧ row[a]? = some par ∧ P[par]? = some p ∧ P[j]? = some (p ++ [c])) ∨ ∃ c, (c, j) ∈ H
  hway : ∀ (c : UInt8) (j from_ : Nat) (p : Bs), (c, j) ∈ H → row[i]? = some from_ → P[from_]? = some p → P[j]? = some (p ++ [c])
  rest : ∀ (j : Nat) (s : Sv) (p : Bs), j ∉ row → T[j]? = some s → P[j]? = some p → s.back = 0 ∧ ∀ k, k ∈ s.ends ↔ W[k]? = some p
  done : ∀ (j : Nat) (s : Sv) (p : Bs), j ∈ row → T[j]? = some s → P[j]? = some p → EndsOk W s.ends p ∧ (p ≠ [] → Rt P s.back p.tail)
  nd : ∀ s ∈ T, s.ends.Nodup
theorem Bld.link {W P : List Bs} {T : List Sv} (h : Bld W W.length P T) (hne : ∀ w ∈ W, w ≠ []) : Lk W P T [0] 0 [] where
  trie := h.trie
  words w hw := by
    obtain ⟨k, hk⟩ := at_of_mem hw
    exact h.words k w (List.getElem?_eq_some_iff.1 hk).1 hk
  zero := rfl
  nodup := by simp
  inT j hj := by
    rw [List.mem_singleton] at hj
    subst hj
    exact (List.getElem?_eq_some_iff.1 h.trie.zero).1
  sorted a b ja jb pa pb _ ha hb hpa hpb := by
    have ea : ja = 0 := List.mem_singleton.1 (List.mem_of_getElem? ha)
    have eb : jb = 0 := List.mem_singleton.1 (List.mem_of_getElem? hb)
    subst ea; subst eb
    rw [hpa] at hpb
    injection hpb with hpb
    rw [hpb]; exact Nat.le_refl _
  near from_ j p q hf hp hj hq := by
    rw [List.mem_singleton] at hj
    subst hj
    rw [h.trie.zero] at hq
    injection hq with hq
    subst hq
    simp
  kids a par j p c ha := by omega
  handled c j hj := by cases hj
  members j hj := .inl (List.mem_singleton.1 hj)
  hway c j f p hj := by cases hj
  rest j s p _ hs hp := by
    obtain ⟨h1, h2⟩ := h.own j s p hs hp
    refine ⟨h1, fun k => ?_⟩
    rw [h2 k]
    exact ⟨fun h3 => h3.2, fun h3 => ⟨(List.getElem?_eq_some_iff.1 h3).1, h3⟩⟩
  done j s p hj hs hp := by
    rw [List.mem_singleton] at hj
    subst hj
    rw [h.trie.zero] at hp
    injection hp with hp
    subst hp
    refine ⟨fun k => ?_, fun h => absurd rfl h⟩
    obtain ⟨_, h2⟩ := h.own 0 s [] hs h.trie.zero
    rw [h2 k]
    constructor
    · exact fun h3 => absurd rfl (hne _ (List.mem_of_getElem? h3.2))
    · rintro ⟨w, h3, h4⟩
      exact absurd (List.suffix_nil.1 h4) (hne _ (List.mem_of_getElem? h3))
  nd := h.nd
section
variable {W P : List Bs} {T : List Sv} {row : List Nat} {i : Nat} {H : List (UInt8 × Nat)}
theorem Lk.small (h : Lk W P T row i H) {from_ : Nat} {p : Bs} (hf : row[i]? = some from_) (hp : P[from_]? = some p) : ∀ (n j : Nat) (q : Bs), P[j]? = some q → q.length = n → n ≤ p.length → j ∈ row := by
  intro n
  induction n with
  | zero =>
    intro j q hq hn _
    have : q = [] := List.eq_nil_of_length_eq_zero hn
    subst this
    rw [(h.trie.zero_iff hq).2 rfl]
    exact List.mem_of_getElem? h.zero
  | succ n ih =>
    intro j q hq hn hle
    have hne : q ≠ [] := by rintro rfl; simp at hn
    have he : q = q.dropLast ++ [q.getLast hne] := (List.dropLast_concat_getLast hne).symm
    have hm := List.mem_of_getElem? hq
    rw [he] at hm hq
    obtain ⟨jp, hjp⟩ := at_of_mem (h.trie.closed _ _ hm)
    have hlen : q.dropLast.length = n := by rw [List.length_dropLast]; omega
    obtain ⟨a, ha⟩ := at_of_mem' (ih jp _ hjp hlen (by omega))
    by_cases hai : a < i
    · exact h.kids a jp j _ _ hai ha hjp hq
    · have := h.sorted i a from_ jp p _ (by omega) hf ha hp hjp
      omega
theorem Lk.backs (h : Lk W P T row i H) {from_ : Nat} {p : Bs} (hf : row[i]? = some from_) (hp : P[from_]? = some p) : Backs P T p.length := fun j s q hs hq hne hle =>
  (h.done j s q (h.small hf hp _ j q hq rfl hle) hs hq).2 hne
/-- what a way's end is, and where its back is looked for -/
theorem Lk.way (h : Lk W P T row i H) {from_ to : Nat} {c : UInt8} {sf : Sv} (hf : row[i]? = some from_) (hs : T[from_]? = some sf) (hw : (c, to) ∈ sf.ways) (hH : (c, to) ∉ H) :
    to ∉ row ∧ to ≠ from_ ∧ ∃ (p : Bs) (st : Sv) (r : Nat) (sr : Sv) (pr : Bs), P[from_]? = some p ∧ P[to]? = some (p ++ [c]) ∧ T[to]? = some st ∧ st.back = 0 ∧ (from_ ≠ 0 → Ch P T c sf.back r) ∧ (from_ = 0 → r = 0) ∧ P[r]? = some pr ∧ T[r]? = some sr ∧ r ∈ row ∧ r ≠ to ∧ Rt P r (p ++ [c]).tail := by
  obtain ⟨p, hp⟩ := h.trie.txt hs
  have hto := (h.trie.way from_ sf p hs hp c to).1 hw
  have hnot : to ∉ row := fun hm => by
    rcases h.members to hm with rfl | ⟨a, par, q, d, ha, hpar, hq, hto2⟩ | ⟨d, hd⟩
    · rw [h.trie.zero] at hto
      injection hto with hto
      exact absurd hto.symm (by simp)
    · rw [hto] at hto2
      injection hto2 with hto2
      have := List.append_inj_left' hto2 rfl
      subst this
      have h1 := nodup_at h.trie.nodup hp hq
      subst h1
      have h2 : i = a := by
        obtain ⟨hi1, hi2⟩ := List.getElem?_eq_some_iff.1 hf
        obtain ⟨ha1, ha2⟩ := List.getElem?_eq_some_iff.1 hpar
        exact (List.getElem_inj h.nodup).1 (hi2.trans ha2.symm)
      omega
    · have h1 := h.hway d to from_ p hd hf hp
      rw [hto] at h1
      injection h1 with h1
      have := List.append_inj_right' h1 rfl
      simp at this
      subst this
      exact hH hd
  have hfr : from_ ∈ row := List.mem_of_getElem? hf
  obtain ⟨st, hst⟩ := h.trie.sv hto
  have hb0 := (h.rest to st _ hnot hst hto).1
  have hr : ∃ r, (from_ ≠ 0 → Ch P T c sf.back r) ∧ (from_ = 0 → r = 0) ∧ Rt P r (p ++ [c]).tail := by
    by_cases h0 : from_ = 0
    · refine ⟨0, fun h1 => absurd h0 h1, fun _ => rfl, ?_⟩
      have := (h.trie.zero_iff hp).1 h0
      subst this
      exact Rt.nil h.trie
    · have hpn : p ≠ [] := fun e => h0 ((h.trie.zero_iff hp).2 e)
      have hback := (h.done from_ sf p hfr hs hp).2 hpn
      obtain ⟨r, h1, h2⟩ := next_right h.trie (h.backs hf hp) c p.tail hback (fun q hq => by
        obtain ⟨q', hq', hs', _⟩ := hback
        rw [hq] at hq'
        injection hq' with hq'
        subst hq'
        have := hs'.length_le
        rw [List.length_tail] at this
        omega)
      rw [tail_snoc hpn]
      exact ⟨r, fun _ => h1, fun h3 => absurd h3 h0, h2⟩
  obtain ⟨r, h1, h2, h3⟩ := hr
  obtain ⟨pr, hpr, hsuf, hall⟩ := h3
  obtain ⟨sr, hsr⟩ := h.trie.sv hpr
  have hlen : pr.length ≤ p.length := by
    have := hsuf.length_le
    rw [List.length_tail, List.length_append, List.length_singleton] at this
    omega
  have hrr : r ∈ row := h.small hf hp _ r pr hpr rfl hlen
  exact ⟨hnot, fun e => hnot (e ▸ hfr), p, st, r, sr, pr, hp, hto, hst, hb0, h1, h2, hpr, hsr, hrr, fun e => hnot (e ▸ hrr), pr, hpr, hsuf, hall⟩
/-- one way more -/
theorem Lk.step (h : Lk W P T row i H) {from_ to r : Nat} {c : UInt8} {st sr st' : Sv} {p : Bs} (hf : row[i]? = some from_) (hp : P[from_]? = some p) (hto : P[to]? = some (p ++ [c])) (hnot : to ∉ row) (hst : T[to]? = some st) (hsr : T[r]? = some sr) (hrr : r ∈ row)
    (hrt : Rt P r (p ++ [c]).tail) (h1 : st'.ways = st.ways) (h2 : st'.back = r) (h3 : st'.ends = st.ends ++ sr.ends) : Lk W P (T.set to st') (row ++ [to]) i (H ++ [(c, to)]) where
  trie := h.trie.set hst h1
  words := h.words
  zero := app_old h.zero
  nodup := by
    rw [List.nodup_append]
    refine ⟨h.nodup, by simp, fun a ha b hb => ?_⟩
    rw [List.mem_singleton] at hb
    subst hb
    exact fun e => hnot (e ▸ ha)
  inT j hj := by
    rw [List.mem_append, List.mem_singleton] at hj
    rcases hj with hj | rfl
    · exact h.inT j hj
    · exact (List.getElem?_eq_some_iff.1 hto).1
  sorted a b ja jb pa pb hab ha hb hpa hpb := by
    rcases app_at rfl hb with ⟨hb1, hb⟩ | ⟨rfl, rfl⟩
    · rcases app_at rfl ha with ⟨_, ha⟩ | ⟨e, _⟩
      · exact h.sorted a b ja jb pa pb hab ha hb hpa hpb
      · omega
    · rw [hto] at hpb
      injection hpb with hpb
      subst hpb
      rcases app_at rfl ha with ⟨_, ha⟩ | ⟨_, rfl⟩
      · have := h.near from_ ja p pa hf hp (List.mem_of_getElem? ha) hpa
        simpa using this
      · rw [hto] at hpa
        injection hpa with hpa
        rw [hpa]; exact Nat.le_refl _
  near f j q x hf' hq hj hx := by
    have hfi : f = from_ := by
      rw [app_old hf] at hf'
      exact (Option.some.inj hf').symm
    subst hfi
    rw [List.mem_append, List.mem_singleton] at hj
    rcases hj with hj | rfl
    · exact h.near f j q x hf hq hj hx
    · rw [hp] at hq
      injection hq with hq
      rw [hto] at hx
      injection hx with hx
      subst hq; subst hx
      simp
  kids a par j q d ha hpar hq hj := by
    have hil := (List.getElem?_eq_some_iff.1 hf).1
    rcases app_at rfl hpar with ⟨_, hpar⟩ | ⟨e, _⟩
    · exact List.mem_append_left _ (h.kids a par j q d ha hpar hq hj)
    · omega
  handled d j hj := by
    rw [List.mem_append, List.mem_singleton] at hj
    rcases hj with hj | hj
    · exact List.mem_append_left _ (h.handled d j hj)
    · simp at hj
      rw [hj.2]; simp
  members j hj := by
    rw [List.mem_append, List.mem_singleton] at hj
    rcases hj with hj | rfl
    · rcases h.members j hj with h4 | ⟨a, par, q, d, h4, h5, h6⟩ | ⟨d, h4⟩
      · exact .inl h4
      · exact .inr (.inl ⟨a, par, q, d, h4, app_old h5, h6⟩)
      · exact .inr (.inr ⟨d, List.mem_append_left _ h4⟩)
    · exact .inr (.inr ⟨c, by simp⟩)
  hway d j f q hj hf' hq := by
    have hfi : f = from_ := by
      rw [app_old hf] at hf'
      exact (Option.some.inj hf').symm
    subst hfi
    rw [List.mem_append, List.mem_singleton] at hj
    rcases hj with hj | hj
    · exact h.hway d j f q hj hf hq
    · simp at hj
      obtain ⟨rfl, rfl⟩ := hj
      rw [hp] at hq
      injection hq with hq
      rw [← hq]; exact hto
  rest j s q hj hs hq := by
    rw [List.mem_append, List.mem_singleton, not_or] at hj
    rcases set_at hst hs with ⟨e, _⟩ | ⟨_, hs⟩
    · exact absurd e hj.2
    · exact h.rest j s q hj.1 hs hq
  done j s q hj hs hq := by
    rcases set_at hst hs with ⟨rfl, rfl⟩ | ⟨hne, hs⟩
    · rw [hto] at hq
      injection hq with hq
      subst hq
      rw [h2, h3]
      refine ⟨?_, fun _ => hrt⟩
      obtain ⟨pr, hpr, hsuf, hall⟩ := hrt
      exact EndsOk.join h.words (fun k => (h.rest j st _ hnot hst hto).2 k) (h.done r sr pr hrr hsr hpr).1 (by simp) hsuf hall
    · rw [List.mem_append, List.mem_singleton] at hj
      rcases hj with hj | hj
      · exact h.done j s q hj hs hq
      · exact absurd hj hne
  nd t ht := by
    rcases List.mem_or_eq_of_mem_set ht with ht | rfl
    · exact h.nd t ht
    · rw [h3, List.nodup_append]
      refine ⟨h.nd st (List.mem_of_getElem? hst), h.nd sr (List.mem_of_getElem? hsr), fun a ha b hb => ?_⟩
      rintro rfl
      obtain ⟨pr, hpr, hsuf, hall⟩ := hrt
      have h4 := ((h.rest to st _ hnot hst hto).2 a).1 ha
      obtain ⟨w, h5, h6⟩ := ((h.done r sr pr hrr hsr hpr).1 a).1 hb
      rw [h4] at h5
      injection h5 with h5
      subst h5
      have h7 := (h6.trans hsuf).length_le
      rw [List.length_tail] at h7
      simp at h7
      omega
/-- all ways of one are done -/
theorem Lk.past (h : Lk W P T row i H) {from_ : Nat} {sf : Sv} (hf : row[i]? = some from_) (hs : T[from_]? = some sf) (hall : ∀ x ∈ sf.ways, x ∈ H) : Lk W P T row (i + 1) [] where
  trie := h.trie
  words := h.words
  zero := h.zero
  nodup := h.nodup
  inT := h.inT
  sorted := h.sorted
  near f j p q hf' hp hj hq := by
    obtain ⟨p0, hp0⟩ := h.trie.txt hs
    have h1 := h.near from_ j p0 q hf hp0 hj hq
    have h2 := h.sorted i (i + 1) from_ f p0 p (by omega) hf hf' hp0 hp
    omega
  kids a par j p c ha hpar hp hj := by
    by_cases e : a = i
    · subst e
      rw [hf] at hpar
      injection hpar with hpar
      subst hpar
      exact h.handled c j (hall _ ((h.trie.way from_ sf p hs hp c j).2 hj))
    · exact h.kids a par j p c (by omega) hpar hp hj
  handled c j hj := by cases hj
  members j hj := by
    rcases h.members j hj with h1 | ⟨a, par, p, c, h1, h2⟩ | ⟨c, h1⟩
    · exact .inl h1
    · exact .inr (.inl ⟨a, par, p, c, by omega, h2⟩)
    · obtain ⟨p0, hp0⟩ := h.trie.txt hs
      exact .inr (.inl ⟨i, from_, p0, c, by omega, hf, hp0, h.hway c j from_ p0 h1 hf hp0⟩)
  hway c j f p hj := by cases hj
  rest := h.rest
  done := h.done
  nd := h.nd
theorem Lk.fewE (h : Lk W P T row i H) {s : Sv} (hs : s ∈ T) : s.ends.length ≤ W.length := by
  obtain ⟨j, hj1, hj2⟩ := List.getElem_of_mem hs
  have hj : T[j]? = some s := by rw [List.getElem?_eq_getElem hj1, hj2]
  obtain ⟨p, hp⟩ := h.trie.txt hj
  refine nodup_few W.length s.ends (h.nd s hs) fun k hk => ?_
  by_cases hm : j ∈ row
  · obtain ⟨w, h1, _⟩ := ((h.done j s p hm hj hp).1 k).1 hk
    exact (List.getElem?_eq_some_iff.1 h1).1
  · exact (List.getElem?_eq_some_iff.1 (((h.rest j s p hm hj hp).2 k).1 hk)).1
theorem Lk.all (h : Lk W P T row row.length H) : ∀ (n j : Nat) (q : Bs), P[j]? = some q → q.length = n → j ∈ row := by
  intro n
  induction n with
  | zero =>
    intro j q hq hn
    have : q = [] := List.eq_nil_of_length_eq_zero hn
    subst this
    rw [(h.trie.zero_iff hq).2 rfl]
    exact List.mem_of_getElem? h.zero
  | succ n ih =>
    intro j q hq hn
    have hne : q ≠ [] := by rintro rfl; simp at hn
    have he : q = q.dropLast ++ [q.getLast hne] := (List.dropLast_concat_getLast hne).symm
    have hm := List.mem_of_getElem? hq
    rw [he] at hm hq
    obtain ⟨jp, hjp⟩ := at_of_mem (h.trie.closed _ _ hm)
    have hlen : q.dropLast.length = n := by rw [List.length_dropLast]; omega
    obtain ⟨a, ha, hae⟩ := List.getElem_of_mem (ih jp _ hjp hlen)
    exact h.kids a jp j _ _ ha (by rw [List.getElem?_eq_getElem ha, hae]) hjp hq
theorem Lk.ready (h : Lk W P T row row.length H) : Ready W P T where
  trie := h.trie
  words := h.words
  backs d j s p hs hp hne _ := (h.done j s p (h.all _ j p hp rfl) hs hp).2 hne
  ends j s p hs hp := (h.done j s p (h.all _ j p hp rfl) hs hp).1
  few s hs := h.fewE hs
/-- no more than there are states -/
theorem Lk.few (h : Lk W P T row i H) : row.length ≤ T.length := by
  have h1 := nodup_few P.length row h.nodup h.inT
  rwa [h.trie.len] at h1
end

/-- a byte more: the scan's state, and what ends there -/
theorem Ready.next {W P : List Bs} {T : List Sv} (h : Ready W P T) {at_ : Nat} {t : Bs} (ht : Rt P at_ t) (c : UInt8) : ∃ (r : Nat) (s : Sv), Ch P T c at_ r ∧ Rt P r (t ++ [c]) ∧ T[r]? = some s ∧ EndsOk W s.ends (t ++ [c]) := by
  obtain ⟨p, hp, _⟩ := id ht
  obtain ⟨r, h1, h2⟩ := next_right h.trie (h.backs p.length) c t ht (fun q hq => by rw [hp] at hq; injection hq with hq; rw [hq]; exact Nat.le_refl _)
  obtain ⟨q, hq, hs, ha⟩ := h2
  obtain ⟨s, hs2⟩ := h.trie.sv hq
  exact ⟨r, s, h1, ⟨q, hq, hs, ha⟩, hs2, (h.ends r s q hs2 hq).text h.words hs ha⟩
end Go.Proofs.Ytgbffkneidnmfaa.aho
