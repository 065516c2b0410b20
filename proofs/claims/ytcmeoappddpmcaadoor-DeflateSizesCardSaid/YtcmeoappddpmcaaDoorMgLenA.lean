import Derived.Test.YtcmeoappddpmcaaDoorStore
import Derived.Test.YtcmeoappddpmcaaDoorChecked
import Derived.BigQuiet
import Derived.Deep.QuietTactic
import Derived.Deep.RegionHeld3
import Derived.Maps.AppendAt
import Derived.Deep.AppendLies
/- Several of my own texts, one behind the other. -/
/-
  slices.SortStableFunc of symbols by their counts: what is compared. My own text.
-/
namespace Go.Proofs.YtcmeoappddpmcaaDoor.sortp
open Go.RowKit Go.Proofs.YtcmeoappddpmcaaDoor.base
set_option linter.unusedVariables false

/-- how often each symbol comes, as the closure finds it -/
structure Cnt (W : World) (q B : Nat) (cs : List Int) : Prop where
  box : ∃ A n c, W.cell? ⟨q, 0, none⟩ = some (.slice A n c) ∧ Rd W B A n (cs.map iv) ∧ n ≤ c ∧ c ≤ maxLen
  qB : q < B
theorem Cnt.keep {W W' : World} {q B : Nat} {cs : List Int} (h : Cnt W q B cs) (hk : ∀ k, k < B → W'.heap[k]? = W.heap[k]?) : Cnt W' q B cs := by
  obtain ⟨A, n, c, h1, h2, h3, h4⟩ := h.box
  exact ⟨⟨A, n, c, (World.cell?_of_block (hk q h.qB)).trans h1, h2.keep hk, h3, h4⟩, h.qB⟩
def cmp3 (x y : Int) : Int := if x < y then -1 else if y < x then 1 else 0
theorem cmp3_lt (x y : Int) : decide (cmp3 x y < 0) = decide (x < y) := by
  unfold cmp3
  rw [decide_eq_decide]
  split
  · omega
  · split <;> omega
theorem compare_any (x y : Int) (w : World) : Calls Tryd.prog 52 #[.int .i64 x, .int .i64 y] w fun e w' => e = .returned (.int .i64 (cmp3 x y)) ∧ w = w' := by
  by_cases h1 : x < y
  · have hc : cmp3 x y = -1 := by unfold cmp3; rw [if_pos h1]
    rw [hc]
    go_enter Tryd.func52, Tryd.ntmps52
    go_wp2
    all_goals go_ret
    all_goals exact ⟨rfl, rfl⟩
  · by_cases h2 : y < x
    · have hc : cmp3 x y = 1 := by unfold cmp3; rw [if_neg h1, if_pos h2]
      rw [hc]
      go_enter Tryd.func52, Tryd.ntmps52
      go_wp2
      all_goals go_ret
      all_goals exact ⟨rfl, rfl⟩
    · have hc : cmp3 x y = 0 := by unfold cmp3; rw [if_neg h1, if_neg h2]
      rw [hc]
      go_enter Tryd.func52, Tryd.ntmps52
      go_wp2
      all_goals go_ret
      all_goals exact ⟨rfl, rfl⟩
abbrev kv (q : Nat) : Value := .func (.func 51) #[] #[.pointer (some ⟨q, 0, none⟩)]
/-- the closure: how often one comes, against how often the other -/
def key (cs : List Int) (x : Int) : Int := cs.getD x.toNat 0
def ok (cs : List Int) (x : Int) : Prop := 0 ≤ x ∧ x < cs.length
theorem cmp_any (q B : Nat) (cs : List Int) (x y : Int) (w : World) (h : Cnt w q B cs) (hx : ok cs x) (hy : ok cs y) :
    Calls Tryd.prog 51 #[.int .i64 x, .int .i64 y, .pointer (some ⟨q, 0, none⟩)] w fun e w' => e = .returned (.int .i64 (cmp3 (key cs x) (key cs y))) ∧ ∃ m, w' = w.drewN m := by
  obtain ⟨A, n, c, h1, h2, h3, h4⟩ := h.box
  obtain ⟨x, rfl⟩ := Int.eq_ofNat_of_zero_le hx.1
  obtain ⟨y, rfl⟩ := Int.eq_ofNat_of_zero_le hy.1
  have hl : cs.length = n := by have := h2.1; rwa [List.length_map] at this
  have hx2 : x < n := by have := hx.2; omega
  have hy2 : y < n := by have := hy.2; omega
  obtain ⟨b, off, u, rfl, hb, hu, hcu⟩ := h2.at_ hx2
  obtain ⟨b', off', v, e', hb', hv, hcv⟩ := h2.at_ hy2
  injection e' with e'
  injection e' with e1 e2 _
  subst e1; subst e2
  have ku : key cs (x : Int) = u := by unfold key; rw [Int.toNat_natCast, List.getD_eq_getElem?_getD, hu]; rfl
  have kw : key cs (y : Int) = v := by unfold key; rw [Int.toNat_natCast, List.getD_eq_getElem?_getD, hv]; rfl
  rw [ku, kw]
  have x0 : (0 : Int) ≤ (x : Int) := by omega
  have y0 : (0 : Int) ≤ (y : Int) := by omega
  have x1 : (x : Int) < (n : Int) := by omega
  have y1 : (y : Int) < (n : Int) := by omega
  have hcmp : ∀ W, Calls Tryd.prog 52 #[.int .i64 u, .int .i64 v] W fun e w' => e = .returned (.int .i64 (cmp3 u v)) ∧ w' = W := fun W => (compare_any u v W).mono fun _ _ ⟨h1, h2⟩ => ⟨h1, h2.symm⟩
  have HCMP := Lib.hid hcmp
  clear hu hv ku kw h2 h hx hy hcmp
  go_enter Tryd.func51, Tryd.ntmps51
  go_wp2
  go_quiet (with_reducible exact Calls.quiet_of_same (HCMP.out _))
  go_wp2
  go_ret
  exact ⟨rfl, _, rfl⟩
end Go.Proofs.YtcmeoappddpmcaaDoor.sortp
/-
  Lengths of codes by how often symbols come (package-merge): plain mathematics, over no program. My own text.
-/
namespace Go.Proofs.YtcmeoappddpmcaaDoor.lennum
set_option linter.unusedVariables false
/-- a symbol, or a pair, and how often it comes -/
abbrev Itm := Int × Bool
def mostInt : Int := 9223372036854775807
def together (a b : Int) : Int := a + min b (mostInt - a)
theorem together_ge {a b : Int} (ha : 0 ≤ a) (hb : 0 ≤ b) (hb2 : b ≤ mostInt) (ha2 : a ≤ mostInt) : a ≤ together a b ∧ b ≤ together a b ∧ together a b ≤ mostInt := by
  unfold together
  omega
def paired : List Itm → List Itm
  | x :: y :: r => (together x.1 y.1, true) :: paired r
  | _ => []
/-- the symbols and the pairs -/
def merged : List Int → List Itm → List Itm
  | [], ps => ps
  | w :: ws, [] => (w, false) :: merged ws []
  | w :: ws, q :: ps => if q.1 < w then q :: merged (w :: ws) ps else (w, false) :: merged ws (q :: ps)
  termination_by ws ps => ws.length + ps.length
def singles (l : List Itm) : Nat := l.countP fun x => !x.2
def pairs (l : List Itm) : Nat := l.countP fun x => x.2
theorem both (l : List Itm) : singles l + pairs l = l.length := by
  unfold singles pairs
  induction l with
  | nil => rfl
  | cons x r ih =>
    rw [List.countP_cons, List.countP_cons, List.length_cons]
    cases x.2 <;> simp <;> omega
theorem singles_cons (x : Itm) (l : List Itm) : singles (x :: l) = singles l + if x.2 = true then 0 else 1 := by
  unfold singles; rw [List.countP_cons]; cases x.2 <;> simp
theorem pairs_cons (x : Itm) (l : List Itm) : pairs (x :: l) = pairs l + if x.2 = true then 1 else 0 := by
  unfold pairs; rw [List.countP_cons]
theorem merged_len (ws : List Int) (ps : List Itm) : (merged ws ps).length = ws.length + ps.length := by
  induction ws, ps using merged.induct with
  | case1 ps => simp [merged]
  | case2 w ws ih => rw [merged, List.length_cons, ih]; first | rfl | (simp <;> omega)
  | case3 w ws q ps h ih => rw [merged, if_pos h, List.length_cons, ih]; simp <;> omega
  | case4 w ws q ps h ih => rw [merged, if_neg h, List.length_cons, ih]; simp <;> omega
/-- how many symbols, how many pairs -/
theorem merged_pairs (ws : List Int) (ps : List Itm) (hp : ∀ x ∈ ps, x.2 = true) : pairs (merged ws ps) = ps.length := by
  induction ws, ps using merged.induct with
  | case1 ps =>
    rw [merged]
    unfold pairs
    rw [List.countP_eq_length]
    exact hp
  | case2 w ws ih => rw [merged, pairs_cons, ih (fun x hx => by cases hx)]; rfl
  | case3 w ws q ps h ih =>
    rw [merged, if_pos h, pairs_cons, ih (fun x hx => hp x (List.mem_cons_of_mem _ hx)), hp q (List.mem_cons_self ..)]
    simp
  | case4 w ws q ps h ih => rw [merged, if_neg h, pairs_cons, ih hp]; first | rfl | simp
theorem pairs_take (l : List Itm) (t : Nat) : pairs (l.take t) ≤ pairs l := by
  unfold pairs
  exact List.Sublist.countP_le (List.take_sublist t l)
theorem singles_take (l : List Itm) (t : Nat) : singles (l.take t) ≤ singles l := by
  unfold singles
  exact List.Sublist.countP_le (List.take_sublist t l)
/-- a symbol that comes no more often than a pair stands ahead of it -/
theorem merged_ahead (ws : List Int) (ps : List Itm) (hs : ws.Pairwise (· ≤ ·)) (hp : ∀ x ∈ ps, x.2 = true) :
    ∀ (t i j : Nat) (a : Int) (b : Itm), ws[i]? = some a → ps[j]? = some b → a ≤ b.1 → j < pairs ((merged ws ps).take t) → i < singles ((merged ws ps).take t) := by
  induction ws, ps using merged.induct with
  | case1 ps => intro t i j a b h1; simp at h1
  | case2 w ws ih => intro t i j a b _ h2; simp at h2
  | case3 w ws q ps h ih =>
    intro t i j a b h1 h2 hab hj
    rw [merged, if_pos h] at hj ⊢
    cases t with
    | zero => simp [pairs] at hj
    | succ t =>
      rw [List.take_succ_cons, pairs_cons, hp q (List.mem_cons_self ..)] at hj
      rw [List.take_succ_cons, singles_cons, hp q (List.mem_cons_self ..)]
      cases j with
      | zero =>
        simp at h2
        subst h2
        have hw : w ≤ a := by
          cases i with
          | zero => simp at h1; omega
          | succ i =>
            rw [List.getElem?_cons_succ] at h1
            exact (List.pairwise_cons.1 hs).1 a (List.mem_of_getElem? h1)
        omega
      | succ j =>
        rw [List.getElem?_cons_succ] at h2
        have := ih hs (fun x hx => hp x (List.mem_cons_of_mem _ hx)) t i j a b h1 h2 hab (by simp at hj; omega)
        simpa using this
  | case4 w ws q ps h ih =>
    intro t i j a b h1 h2 hab hj
    rw [merged, if_neg h] at hj ⊢
    cases t with
    | zero => simp [pairs] at hj
    | succ t =>
      rw [List.take_succ_cons, pairs_cons] at hj
      rw [List.take_succ_cons, singles_cons]
      cases i with
      | zero => simp
      | succ i =>
        rw [List.getElem?_cons_succ] at h1
        have := ih (List.pairwise_cons.1 hs).2 hp t i j a b h1 h2 hab (by simpa using hj)
        simp
        omega
/-- the symbols stand in their order: the i-th one that is taken comes so often -/
theorem merged_nth (ws : List Int) (ps : List Itm) (hp : ∀ x ∈ ps, x.2 = true) : ∀ (t : Nat) (a : Int), (merged ws ps)[t]? = some (a, false) → ws[singles ((merged ws ps).take t)]? = some a := by
  induction ws, ps using merged.induct with
  | case1 ps =>
    intro t a h
    rw [merged] at h
    have := hp _ (List.mem_of_getElem? h)
    cases this
  | case2 w ws ih =>
    intro t a h
    rw [merged] at h ⊢
    cases t with
    | zero => simp at h; subst h; simp [singles]
    | succ t =>
      rw [List.getElem?_cons_succ] at h
      rw [List.take_succ_cons, singles_cons]
      simpa using ih (fun x hx => by cases hx) t a h
  | case3 w ws q ps hlt ih =>
    intro t a h
    rw [merged, if_pos hlt] at h ⊢
    have hq := hp q (List.mem_cons_self ..)
    cases t with
    | zero =>
      simp at h
      rw [h] at hq
      cases hq
    | succ t =>
      rw [List.getElem?_cons_succ] at h
      rw [List.take_succ_cons, singles_cons, hq]
      simpa using ih (fun x hx => hp x (List.mem_cons_of_mem _ hx)) t a h
  | case4 w ws q ps hlt ih =>
    intro t a h
    rw [merged, if_neg hlt] at h ⊢
    cases t with
    | zero => simp at h; subst h; simp [singles]
    | succ t =>
      rw [List.getElem?_cons_succ] at h
      rw [List.take_succ_cons, singles_cons]
      simpa using ih hp t a h
theorem paired_len : ∀ l : List Itm, (paired l).length = l.length / 2
  | [] => rfl
  | [x] => by simp [paired]
  | x :: y :: r => by
    rw [paired, List.length_cons, paired_len r, List.length_cons, List.length_cons]
    omega
theorem paired_true : ∀ l : List Itm, ∀ x ∈ paired l, x.2 = true
  | [], x, h => by cases h
  | [y], x, h => by cases h
  | y :: z :: r, x, h => by
    rw [paired] at h
    rcases List.mem_cons.1 h with rfl | h
    · rfl
    · exact paired_true r x h
/-- how often things come: not below 0, no more than an int holds -/
def Fine (l : List Itm) : Prop := ∀ x ∈ l, 0 ≤ x.1 ∧ x.1 ≤ mostInt
theorem Fine.paired : ∀ {l : List Itm}, Fine l → Fine (paired l)
  | [], _, x, h => by cases h
  | [y], _, x, h => by cases h
  | y :: z :: r, hl, x, h => by
    have hy := hl y (List.mem_cons_self ..)
    have hz := hl z (List.mem_cons_of_mem _ (List.mem_cons_self ..))
    rw [lennum.paired] at h
    rcases List.mem_cons.1 h with rfl | h
    · have := together_ge hy.1 hz.1 hz.2 hy.2
      exact ⟨by show 0 ≤ together y.1 z.1; omega, this.2.2⟩
    · exact Fine.paired (fun x hx => hl x (List.mem_cons_of_mem _ (List.mem_cons_of_mem _ hx))) x h
/-- an item stands in the pair of its place, which comes no less often -/
theorem paired_at : ∀ (l : List Itm), Fine l → ∀ (t : Nat) (x : Itm), l[t]? = some x → t / 2 < l.length / 2 → ∃ q, (paired l)[t / 2]? = some q ∧ x.1 ≤ q.1
  | [], _, t, x, h, _ => by simp at h
  | [y], _, t, x, h, h2 => by simp at h2
  | y :: z :: r, hl, t, x, h, h2 => by
    have hy := hl y (List.mem_cons_self ..)
    have hz := hl z (List.mem_cons_of_mem _ (List.mem_cons_self ..))
    have ht := together_ge hy.1 hz.1 hz.2 hy.2
    rw [paired]
    by_cases t0 : t = 0
    · subst t0
      simp at h
      exact ⟨_, rfl, by rw [← h]; exact ht.1⟩
    · by_cases t1 : t = 1
      · subst t1
        simp at h
        exact ⟨_, rfl, by rw [← h]; exact ht.2.1⟩
      · obtain ⟨s, rfl⟩ : ∃ s, t = s + 2 := ⟨t - 2, by omega⟩
        rw [List.getElem?_cons_succ, List.getElem?_cons_succ] at h
        rw [List.length_cons, List.length_cons] at h2
        obtain ⟨q, hq, hle⟩ := paired_at r (fun x hx => hl x (List.mem_cons_of_mem _ (List.mem_cons_of_mem _ hx))) s x h (by omega)
        refine ⟨q, ?_, hle⟩
        rw [show (s + 2) / 2 = s / 2 + 1 by omega, List.getElem?_cons_succ]
        exact hq
theorem merged_mem (ws : List Int) (ps : List Itm) : ∀ x, x ∈ merged ws ps → (∃ a ∈ ws, x = (a, false)) ∨ x ∈ ps := by
  induction ws, ps using merged.induct with
  | case1 ps => intro x h; rw [merged] at h; exact Or.inr h
  | case2 w ws ih =>
    intro x h
    rw [merged] at h
    rcases List.mem_cons.1 h with rfl | h
    · exact Or.inl ⟨w, List.mem_cons_self .., rfl⟩
    · rcases ih x h with ⟨a, ha, e⟩ | h
      · exact Or.inl ⟨a, List.mem_cons_of_mem _ ha, e⟩
      · exact Or.inr h
  | case3 w ws q ps hlt ih =>
    intro x h
    rw [merged, if_pos hlt] at h
    rcases List.mem_cons.1 h with rfl | h
    · exact Or.inr (List.mem_cons_self ..)
    · rcases ih x h with h | h
      · exact Or.inl h
      · exact Or.inr (List.mem_cons_of_mem _ h)
  | case4 w ws q ps hlt ih =>
    intro x h
    rw [merged, if_neg hlt] at h
    rcases List.mem_cons.1 h with rfl | h
    · exact Or.inl ⟨w, List.mem_cons_self .., rfl⟩
    · rcases ih x h with ⟨a, ha, e⟩ | h
      · exact Or.inl ⟨a, List.mem_cons_of_mem _ ha, e⟩
      · exact Or.inr h
/-- the levels, from the deepest one on -/
def lev (ws : List Int) : Nat → List Itm
  | 0 => merged ws []
  | k + 1 => merged ws (paired (lev ws k))
/-- what comes -/
structure Ws (ws : List Int) : Prop where
  srt : ws.Pairwise (· ≤ ·)
  fine : ∀ a ∈ ws, 0 ≤ a ∧ a ≤ mostInt
theorem lev_fine {ws : List Int} (h : Ws ws) : ∀ k, Fine (lev ws k)
  | 0 => fun x hx => by
    rcases merged_mem ws [] x hx with ⟨a, ha, rfl⟩ | hx
    · exact h.fine a ha
    · cases hx
  | k + 1 => fun x hx => by
    rcases merged_mem ws _ x hx with ⟨a, ha, rfl⟩ | hx
    · exact h.fine a ha
    · exact (lev_fine h k).paired x hx
theorem lev_len_zero (ws : List Int) : (lev ws 0).length = ws.length := by rw [lev, merged_len]; rfl
theorem lev_len_succ (ws : List Int) (k : Nat) : (lev ws (k + 1)).length = ws.length + (lev ws k).length / 2 := by rw [lev, merged_len, paired_len]
/-- a level has enough -/
theorem lev_enough (ws : List Int) : ∀ k, ∃ d, (lev ws k).length + d = 2 * ws.length ∧ d * 2 ^ k ≤ ws.length + (2 ^ k - 1) ∧ (0 < ws.length → 1 ≤ d)
  | 0 => ⟨ws.length, by rw [lev_len_zero]; omega, by simp, fun h => h⟩
  | k + 1 => by
    obtain ⟨d, h1, h2, h3⟩ := lev_enough ws k
    refine ⟨(d + 1) / 2, by rw [lev_len_succ]; omega, ?_, fun h => by have := h3 h; omega⟩
    have hp : 1 ≤ 2 ^ k := Nat.pow_pos (by omega)
    have e : (d + 1) / 2 * 2 ^ (k + 1) = ((d + 1) / 2 * 2) * 2 ^ k := by rw [Nat.pow_succ]; rw [Nat.mul_comm (2 ^ k) 2, Nat.mul_assoc]
    have h4 : ((d + 1) / 2 * 2) * 2 ^ k ≤ (d + 1) * 2 ^ k := Nat.mul_le_mul_right _ (by omega)
    rw [Nat.add_mul] at h4
    rw [e]
    have h5 : 2 ^ (k + 1) = 2 * 2 ^ k := by rw [Nat.pow_succ, Nat.mul_comm]
    omega
/-- what is taken on the top level is there -/
theorem lev_top (ws : List Int) (most : Nat) (hm : 1 ≤ most) (h : ws.length ≤ 2 ^ most) (h2 : 2 ≤ ws.length) : 2 * ws.length - 2 ≤ (lev ws (most - 1)).length := by
  obtain ⟨d, h1, h3, _⟩ := lev_enough ws (most - 1)
  have hp : 1 ≤ 2 ^ (most - 1) := Nat.pow_pos (by omega)
  have e : 2 ^ most = 2 * 2 ^ (most - 1) := by rw [show most = (most - 1) + 1 by omega, Nat.pow_succ, Nat.mul_comm, Nat.add_sub_cancel]
  have : d < 3 := by
    apply Nat.lt_of_mul_lt_mul_right (a := 2 ^ (most - 1))
    omega
  omega
theorem lev_pairs_zero (ws : List Int) : pairs (lev ws 0) = 0 := by rw [lev, merged_pairs ws [] (fun x h => by cases h)]; rfl
/-- what is left to be taken on the level behind is there -/
theorem lev_next (ws : List Int) (k t : Nat) : 2 * pairs ((lev ws (k + 1)).take t) ≤ (lev ws k).length := by
  have h1 := pairs_take (lev ws (k + 1)) t
  rw [lev, merged_pairs ws _ (paired_true _), paired_len] at h1
  rw [lev]
  omega
/-- no more symbols are taken on the level behind -/
theorem lev_fewer {ws : List Int} (h : Ws ws) (k t : Nat) (ht : t ≤ (lev ws (k + 1)).length) : singles ((lev ws k).take (2 * pairs ((lev ws (k + 1)).take t))) ≤ singles ((lev ws (k + 1)).take t) := by
  obtain ⟨p, hp⟩ : ∃ p, pairs ((lev ws (k + 1)).take t) = p := ⟨_, rfl⟩
  rw [hp]
  obtain ⟨s, hs⟩ : ∃ s, singles ((lev ws k).take (2 * p)) = s := ⟨_, rfl⟩
  rw [hs]
  rcases Nat.eq_zero_or_pos s with h0 | h0
  · omega
  -- the last symbol that is taken there
  have hlen := lev_next ws k t
  rw [hp] at hlen
  have hfind : ∀ (l : List Itm) (n : Nat), singles (l.take n) = s → ∃ u a, u < n ∧ l[u]? = some (a, false) ∧ singles (l.take u) = s - 1 := by
    intro l n
    induction n with
    | zero => intro h; simp [singles] at h; omega
    | succ n ih =>
      intro h
      by_cases hn : n < l.length
      · rw [List.take_succ_eq_append_getElem hn] at h
        unfold singles at h
        rw [List.countP_append] at h
        by_cases hx : l[n].2 = true
        · have h2 : singles (l.take n) = s := by unfold singles; simpa [hx] using h
          obtain ⟨u, a, hu, h3⟩ := ih h2
          exact ⟨u, a, by omega, h3⟩
        · refine ⟨n, l[n].1, by omega, ?_, ?_⟩
          · rw [List.getElem?_eq_getElem hn]
            have : l[n].2 = false := by simpa using hx
            rw [← this]
          · unfold singles
            simp [hx] at h
            omega
      · rw [List.take_of_length_le (by omega)] at h
        obtain ⟨u, a, hu, h3⟩ := ih (by rw [List.take_of_length_le (by omega)]; exact h)
        exact ⟨u, a, by omega, h3⟩
  obtain ⟨u, a, hu, hget, hcount⟩ := hfind _ _ hs
  obtain ⟨q, hq, hle⟩ := paired_at (lev ws k) (lev_fine h k) u (a, false) hget (by omega)
  have hnth : ws[s - 1]? = some a := by
    rw [← hcount]
    cases k with
    | zero => exact merged_nth ws [] (fun x h => by cases h) u a hget
    | succ k => exact merged_nth ws _ (paired_true _) u a hget
  have := merged_ahead ws (paired (lev ws k)) h.srt (paired_true _) t (s - 1) (u / 2) a q hnth hq hle (by show u / 2 < pairs ((lev ws (k + 1)).take t); rw [hp]; omega)
  have h3 : s - 1 < singles ((lev ws (k + 1)).take t) := this
  omega
/-- how many symbols are taken on each level, from the k-th one from below on -/
def run (ws : List Int) : Nat → Nat → List Nat
  | 0, _ => []
  | k + 1, t => singles ((lev ws k).take t) :: run ws k (2 * (t - singles ((lev ws k).take t)))
theorem run_len (ws : List Int) : ∀ k t, (run ws k t).length = k
  | 0, _ => rfl
  | k + 1, t => by rw [run, List.length_cons, run_len]
theorem left_is (ws : List Int) (k t : Nat) (ht : t ≤ (lev ws k).length) : t - singles ((lev ws k).take t) = pairs ((lev ws k).take t) := by
  have := both ((lev ws k).take t)
  rw [List.length_take] at this
  omega
/-- what is worth how much -/
def worth : List Nat → Nat
  | [] => 0
  | s :: r => s * 2 ^ r.length + worth r
theorem run_worth (ws : List Int) : ∀ k t, t ≤ (lev ws k).length → worth (run ws (k + 1) t) = t * 2 ^ k
  | 0, t, ht => by
    have h1 := left_is ws 0 t ht
    have h2 := pairs_take (lev ws 0) t
    rw [lev_pairs_zero] at h2
    rw [run, run, worth, worth]
    have h3 : singles ((lev ws 0).take t) ≤ t := by
      have := both ((lev ws 0).take t)
      rw [List.length_take] at this
      omega
    simp
    omega
  | k + 1, t, ht => by
    have h1 := left_is ws (k + 1) t ht
    have h2 := lev_next ws k t
    have h3 : singles ((lev ws (k + 1)).take t) ≤ t := by
      have := both ((lev ws (k + 1)).take t)
      rw [List.length_take] at this
      omega
    have ih := run_worth ws k (2 * (t - singles ((lev ws (k + 1)).take t))) (by rw [h1]; exact h2)
    rw [run, worth, ih, run_len]
    have e : 2 * (t - singles ((lev ws (k + 1)).take t)) * 2 ^ k = (t - singles ((lev ws (k + 1)).take t)) * 2 ^ (k + 1) := by
      rw [Nat.pow_succ, Nat.mul_comm 2, Nat.mul_assoc, Nat.mul_comm 2]
    rw [e, ← Nat.add_mul, Nat.add_sub_cancel' h3]
theorem run_falls {ws : List Int} (h : Ws ws) : ∀ k t, t ≤ (lev ws k).length → (run ws (k + 1) t).Pairwise (· ≥ ·)
  | 0, t, ht => by rw [run, run]; simp
  | k + 1, t, ht => by
    have h1 := left_is ws (k + 1) t ht
    have h2 := lev_next ws k t
    have ih := run_falls h k (2 * (t - singles ((lev ws (k + 1)).take t))) (by rw [h1]; exact h2)
    have h3 := lev_fewer h k t ht
    rw [run]
    rw [run] at ih
    refine List.pairwise_cons.2 ⟨fun x hx => ?_, by rw [run]; exact ih⟩
    rw [run] at hx
    rw [h1] at hx ih
    rcases List.mem_cons.1 hx with rfl | hx
    · exact h3
    · exact Nat.le_trans ((List.pairwise_cons.1 ih).1 x hx) h3
/-! the shares are 1 in all -/
def sumTo (f : Nat → Nat) : Nat → Nat
  | 0 => 0
  | m + 1 => sumTo f m + f m
theorem sumTo_same {f g : Nat → Nat} : ∀ m, (∀ j, j < m → f j = g j) → sumTo f m = sumTo g m
  | 0, _ => rfl
  | m + 1, h => by rw [sumTo, sumTo, sumTo_same m fun j hj => h j (by omega), h m (by omega)]
theorem sumTo_const (f : Nat → Nat) (c s : Nat) : ∀ d, (∀ j, s ≤ j → j < s + d → f j = c) → sumTo f (s + d) = sumTo f s + d * c
  | 0, _ => by simp
  | d + 1, h => by
    rw [← Nat.add_assoc, sumTo, sumTo_const f c s d fun j h1 h2 => h j h1 (by omega), h (s + d) (by omega) (by omega), Nat.succ_mul, Nat.add_assoc]
theorem sumTo_ge (f : Nat → Nat) : ∀ m j, j < m → f j ≤ sumTo f m
  | 0, j, h => absurd h (by omega)
  | m + 1, j, h => by
    rw [sumTo]
    by_cases e : j = m
    · subst e; omega
    · have := sumTo_ge f m j (by omega); omega
theorem sumTo_two (f : Nat → Nat) : ∀ m i j, i < m → j < m → i ≠ j → f i + f j ≤ sumTo f m
  | 0, i, j, h, _, _ => absurd h (by omega)
  | m + 1, i, j, h, h2, h3 => by
    rw [sumTo]
    by_cases e : i = m
    · subst e
      have := sumTo_ge f i j (by omega); omega
    · by_cases e2 : j = m
      · subst e2
        have := sumTo_ge f j i (by omega); omega
      · have := sumTo_two f m i j (by omega) (by omega) h3; omega
/-- how many bits the code has of the j-th symbol -/
def bitsOf (l : List Nat) (j : Nat) : Nat := l.countP fun s => decide (j < s)
theorem bitsOf_le (l : List Nat) (j : Nat) : bitsOf l j ≤ l.length := List.countP_le_length
theorem kraft : ∀ (l : List Nat) (m : Nat), l.Pairwise (· ≥ ·) → (∀ x ∈ l, x ≤ m) → sumTo (fun j => 2 ^ (l.length - bitsOf l j)) m + worth l = m * 2 ^ l.length
  | [], m, _, _ => by
    have : sumTo (fun j => 2 ^ (([] : List Nat).length - bitsOf [] j)) (0 + m) = _ := sumTo_const _ 1 0 m fun j _ _ => by simp [bitsOf]
    rw [Nat.zero_add] at this
    rw [this]
    simp [sumTo, worth]
  | s :: r, m, hp, hm => by
    obtain ⟨h1, h2⟩ := List.pairwise_cons.1 hp
    have hs := hm s (List.mem_cons_self ..)
    have ih := kraft r s h2 h1
    obtain ⟨d, rfl⟩ : ∃ d, m = s + d := ⟨m - s, by omega⟩
    have hhi : ∀ j, s ≤ j → j < s + d → 2 ^ ((s :: r).length - bitsOf (s :: r) j) = 2 ^ (r.length + 1) := by
      intro j hj _
      have : bitsOf (s :: r) j = 0 := by
        unfold bitsOf
        rw [List.countP_eq_zero]
        intro x hx
        rcases List.mem_cons.1 hx with rfl | hx
        · simp; omega
        · have := h1 x hx; simp; omega
      rw [this]; rfl
    have hlo : ∀ j, j < s → 2 ^ ((s :: r).length - bitsOf (s :: r) j) = 2 ^ (r.length - bitsOf r j) := by
      intro j hj
      have : bitsOf (s :: r) j = bitsOf r j + 1 := by
        unfold bitsOf
        rw [List.countP_cons]
        simp [hj]
      rw [this, List.length_cons, Nat.add_sub_add_right]
    rw [sumTo_const _ (2 ^ (r.length + 1)) s d hhi, sumTo_same s hlo, worth, List.length_cons]
    have e1 : 2 ^ (r.length + 1) = 2 ^ r.length + 2 ^ r.length := by rw [Nat.pow_succ, Nat.mul_two]
    have e2 : (s + d) * 2 ^ (r.length + 1) = s * 2 ^ r.length + s * 2 ^ r.length + d * 2 ^ (r.length + 1) := by rw [Nat.add_mul, e1, Nat.mul_add]
    rw [e2]
    omega
/-- the lengths that are made: their shares are 1, none is 0, none longer than may be -/
theorem made {ws : List Int} (h : Ws ws) (most : Nat) (hm : 1 ≤ most) (hl : ws.length ≤ 2 ^ most) (h2 : 2 ≤ ws.length) :
    sumTo (fun j => 2 ^ (most - bitsOf (run ws most (2 * ws.length - 2)) j)) ws.length = 2 ^ most ∧ ∀ j, j < ws.length → 1 ≤ bitsOf (run ws most (2 * ws.length - 2)) j ∧ bitsOf (run ws most (2 * ws.length - 2)) j ≤ most := by
  obtain ⟨k, rfl⟩ : ∃ k, most = k + 1 := ⟨most - 1, by omega⟩
  have htop := lev_top ws (k + 1) hm hl h2
  rw [Nat.add_sub_cancel] at htop
  have hw := run_worth ws k (2 * ws.length - 2) htop
  have hf := run_falls h k (2 * ws.length - 2) htop
  have hlen := run_len ws (k + 1) (2 * ws.length - 2)
  have hle : ∀ x ∈ run ws (k + 1) (2 * ws.length - 2), x ≤ ws.length := by
    have hgen : ∀ k t, ∀ x ∈ run ws k t, x ≤ ws.length := by
      intro k
      induction k with
      | zero => intro t x hx; cases hx
      | succ k ih =>
        intro t x hx
        rw [run] at hx
        rcases List.mem_cons.1 hx with rfl | hx
        · have h1 := singles_take (lev ws k) t
          have h2 := both (lev ws k)
          have h3 : pairs (lev ws k) + ws.length = (lev ws k).length := by
            cases k with
            | zero => rw [lev_pairs_zero, lev_len_zero]; omega
            | succ k => rw [lev_len_succ, lev, merged_pairs ws _ (paired_true _), paired_len]; omega
          omega
        · exact ih _ x hx
    exact hgen _ _
  have hk := kraft _ ws.length hf hle
  rw [hlen, hw] at hk
  have e : (2 * ws.length - 2) * 2 ^ k = (ws.length - 1) * 2 ^ (k + 1) := by
    rw [Nat.pow_succ, Nat.mul_comm (2 ^ k) 2, ← Nat.mul_assoc]
    congr 1
    omega
  have e2 : ws.length * 2 ^ (k + 1) = (ws.length - 1) * 2 ^ (k + 1) + 2 ^ (k + 1) := by
    obtain ⟨m, hm⟩ : ∃ m, ws.length = m + 1 := ⟨ws.length - 1, by omega⟩
    rw [hm, Nat.add_sub_cancel, Nat.succ_mul]
  rw [e, e2] at hk
  have hsum : sumTo (fun j => 2 ^ (k + 1 - bitsOf (run ws (k + 1) (2 * ws.length - 2)) j)) ws.length = 2 ^ (k + 1) := by omega
  refine ⟨hsum, fun j hj => ⟨?_, ?_⟩⟩
  · rcases Nat.eq_zero_or_pos (bitsOf (run ws (k + 1) (2 * ws.length - 2)) j) with h0 | h0
    · obtain ⟨i, hi, hne⟩ : ∃ i, i < ws.length ∧ i ≠ j := by
        by_cases e0 : j = 0
        · exact ⟨1, by omega, by omega⟩
        · exact ⟨0, by omega, by omega⟩
      have h3 := sumTo_two (fun j => 2 ^ (k + 1 - bitsOf (run ws (k + 1) (2 * ws.length - 2)) j)) ws.length i j hi hj hne
      rw [hsum] at h3
      simp only [h0] at h3
      have h4 : 1 ≤ 2 ^ (k + 1 - bitsOf (run ws (k + 1) (2 * ws.length - 2)) i) := Nat.pow_pos (by omega)
      rw [Nat.sub_zero] at h3
      omega
    · exact h0
  · have := bitsOf_le (run ws (k + 1) (2 * ws.length - 2)) j
    rwa [hlen] at this
end Go.Proofs.YtcmeoappddpmcaaDoor.lennum
/-
  huff.Lengths: together, rows of items. My own text.
-/
namespace Go.Proofs.YtcmeoappddpmcaaDoor.lenp
open Go.RowKit Go.Proofs.YtcmeoappddpmcaaDoor.base Go.Proofs.YtcmeoappddpmcaaDoor.lennum
set_option linter.unusedVariables false

theorem ret_int {a b : Int} (h : a = b) : Ending.returned (.int .i64 a) = .returned (.int .i64 b) := by rw [h]
theorem together_any (a b : Int) (ha : 0 ≤ a ∧ a ≤ mostInt) (hb : 0 ≤ b ∧ b ≤ mostInt) (w : World) : Calls Tryd.prog 63 #[.int .i64 a, .int .i64 b] w fun e w' => e = .returned (.int .i64 (together a b)) ∧ w = w' := by
  have h1 := ha.1
  have h2 : a ≤ 9223372036854775807 := ha.2
  have h3 := hb.1
  have h4 : b ≤ 9223372036854775807 := hb.2
  have hT : together a b = if 9223372036854775807 - a < b then 9223372036854775807 else a + b := by
    unfold together mostInt
    split <;> omega
  rw [hT]
  clear hT ha hb
  by_cases h : 9223372036854775807 - a < b
  · rw [if_pos h]
    have e1 : wrap64 (a + (9223372036854775807 - a)) = 9223372036854775807 := by rw [IntWalk.wrap64_in _ ⟨by omega, by omega⟩]; omega
    go_enter Tryd.func63, Tryd.ntmps63
    go_wp2
    all_goals go_ret
    all_goals exact ⟨ret_int (by first | exact e1 | omega), rfl⟩
  · rw [if_neg h]
    have e1 : wrap64 (a + b) = a + b := IntWalk.wrap64_in _ ⟨by omega, by omega⟩
    go_enter Tryd.func63, Tryd.ntmps63
    go_wp2
    all_goals go_ret
    all_goals exact ⟨ret_int (by first | exact e1 | omega), rfl⟩

abbrev tItem : TypeId := 102
abbrev tItems : TypeId := 79
/-- an item's two cells -/
def icell (x : Itm) : List Value := [.int .i64 x.1, .bool x.2]
def icells (l : List Itm) : List Value := l.flatMap icell
theorem icells_cons (x : Itm) (l : List Itm) : icells (x :: l) = icell x ++ icells l := rfl
theorem icells_snoc (l : List Itm) (s : Itm) : icells (l ++ [s]) = icells l ++ icell s := by simp [icells]
theorem icells_append (l r : List Itm) : icells (l ++ r) = icells l ++ icells r := by simp [icells]
theorem icells_len (l : List Itm) : (icells l).length = l.length * 2 := by
  induction l with
  | nil => rfl
  | cons a r ih =>
    rw [icells_cons, List.length_append, ih, List.length_cons]
    show 2 + _ = _
    omega
theorem icells_get : ∀ (l : List Itm) (j : Nat) (x : Itm), l[j]? = some x → (icells l)[2 * j]? = some (.int .i64 x.1) ∧ (icells l)[2 * j + 1]? = some (.bool x.2)
  | [], j, x, h => by simp at h
  | a :: r, j, x, h => by
    rw [icells_cons]
    cases j with
    | zero => simp at h; subst h; exact ⟨rfl, rfl⟩
    | succ j =>
      rw [List.getElem?_cons_succ] at h
      have := icells_get r j x h
      have e1 : 2 * (j + 1) = 2 * j + 1 + 1 := by omega
      rw [e1]
      exact this
theorem itemInfo : (Tryd.prog.info? tItem).map (fun i => (i.zero, i.size, i.bytes)) = some (some (.agg #[.int .i64 0, .bool false]), 2, 16) := by kernel_rfl
/-- a row of items that is read -/
def RdI (w : World) (B : Nat) (A : Option Addr) (n : Nat) (l : List Itm) : Prop :=
  l.length = n ∧ (0 < n → ∃ b off, A = some ⟨b, off, none⟩ ∧ b < B ∧ ∀ j u, (icells l)[j]? = some u → w.cell? ⟨b, off + j, none⟩ = some u)
theorem RdI.keep {w w' : World} {B n : Nat} {A : Option Addr} {l : List Itm} (h : RdI w B A n l) (hk : ∀ k, k < B → w'.heap[k]? = w.heap[k]?) : RdI w' B A n l :=
  ⟨h.1, fun hn => by
    obtain ⟨b, off, e, hb, hc⟩ := h.2 hn
    exact ⟨b, off, e, hb, fun j u hu => (World.cell?_of_block (hk b hb)).trans (hc j u hu)⟩⟩
theorem RdI.below {w w' : World} {B n : Nat} {A : Option Addr} {l : List Itm} (h : RdI w B A n l) (hb : Below B w w') : RdI w' B A n l := h.keep fun k hk => hb.block k hk
theorem RdI.fresh {w w' : World} {B n : Nat} {A : Option Addr} {l : List Itm} (h : RdI w B A n l) (hb : Fresh w w') (hB : B ≤ w.heap.size) : RdI w' B A n l := h.keep fun k hk => hb.block k (by omega)
/-- a cut 's[lo:hi]' -/
theorem RdI.cut {w : World} {B n : Nat} {A : Option Addr} {l : List Itm} (h : RdI w B A n l) {lo hi cap : Nat} (h1 : lo ≤ hi) (h2 : hi ≤ n) (hc : n ≤ cap) :
    RdI w B (if cap = lo then A else A.map (·.add (lo * 2))) (hi - lo) ((l.drop lo).take (hi - lo)) := by
  refine ⟨by rw [List.length_take, List.length_drop, h.1]; omega, fun hn => ?_⟩
  obtain ⟨b, off, rfl, hb, hcell⟩ := h.2 (by omega)
  rw [if_neg (by omega)]
  refine ⟨b, off + lo * 2, ?_, hb, fun j u hu => ?_⟩
  · simp only [Option.map_some, Option.some.injEq]
    unfold Addr.add
    split
    · rename_i h0; rw [h0]; rfl
    · rfl
  · have e : l = l.take lo ++ ((l.drop lo).take (hi - lo) ++ (l.drop lo).drop (hi - lo)) := by rw [List.take_append_drop, List.take_append_drop]
    have h3 : (icells l)[lo * 2 + j]? = some u := by
      rw [e, icells_append, icells_append]
      have hlen : (icells (l.take lo)).length = lo * 2 := by rw [icells_len, List.length_take, h.1]; omega
      rw [List.getElem?_append_right (by omega), hlen, Nat.add_sub_cancel_left, List.getElem?_append_left (List.getElem?_eq_some_iff.1 hu).1]
      exact hu
    have := hcell _ u h3
    rwa [← Nat.add_assoc] at this
/-- a row of items that is the call's own -/
abbrev OwnI (w : World) (base : Nat) (A : Option Addr) (n c : Nat) (l : List Itm) : Prop := w.ownsRow base tItem 2 (.slice A n c) n (icells l)
theorem OwnI.nil (w : World) (base : Nat) : OwnI w base none 0 0 [] := World.ownsRow_nil _ _ _ _
theorem OwnI.len {w : World} {base n c : Nat} {A : Option Addr} {l : List Itm} (h : OwnI w base A n c l) : l.length = n := by
  have h1 := h.1
  rw [icells_len] at h1
  omega
theorem OwnI.rd {w : World} {base n c : Nat} {A : Option Addr} {l : List Itm} (h : OwnI w base A n c l) : RdI w w.heap.size A n l := by
  refine ⟨h.len, fun hn => ?_⟩
  obtain ⟨g, cap, hv, hb, hlt⟩ := World.ownsRow.form h hn
  injection hv with hA _ _
  subst hA
  refine ⟨g, 0, rfl, hlt, fun j u hu => ?_⟩
  have := World.ownsRow.cells h (g := g) rfl j u hu
  have hadd : (⟨g, 0, none⟩ : Addr).add j = ⟨g, 0 + j, none⟩ := by unfold Addr.add; split <;> simp_all
  rwa [hadd] at this
theorem OwnI.cap {w : World} {base n c : Nat} {A : Option Addr} {l : List Itm} (h : OwnI w base A n c l) : n ≤ c ∧ c ≤ maxLen := by
  rcases h.2 with ⟨hv, hn⟩ | ⟨g, cap, cur, hv, _, _, h1, h2, _⟩
  · injection hv with _ h3 h4
    subst h4; subst h3; unfold maxLen; omega
  · injection hv with _ _ h4
    subst h4
    exact ⟨h1, h2⟩
theorem OwnI.fresh {w w' : World} {base n c : Nat} {A : Option Addr} {l : List Itm} (h : OwnI w base A n c l) (k : Fresh w w') : OwnI w' base A n c l :=
  World.ownsRow.kept h (k.grown none) (by cases (Value.slice A n c).ownBlock <;> simp)
end Go.Proofs.YtcmeoappddpmcaaDoor.lenp
/-
  huff.Lengths: paired. My own text.
-/
namespace Go.Proofs.YtcmeoappddpmcaaDoor.lenp
open Go.RowKit Go.Proofs.YtcmeoappddpmcaaDoor.base Go.Proofs.YtcmeoappddpmcaaDoor.lennum
set_option linter.unusedVariables false

theorem st_slot_ {P : Program} {w : World} {ops : Array Oper} {a : Act} {K : Act → World → Prop} {Q : Exit → Act → World → Prop} {E : Prop} (d : Nat) {op : Op} {t : TypeId} {ps : String} {af gd} (h : if Region.wanted ⟨some d, op, t, ps, af, gd⟩ (yielded ops a.tmps) = true then Oper.wp P ⟨some d, op, t, ps, af, gd⟩ a w K Q else E) : if Region.wanted ⟨some d, op, t, ps, af, gd⟩ (yielded ops a.tmps) = true then Oper.wp P ⟨some d, op, t, ps, af, gd⟩ a w K Q else E := h
theorem icell_one (x : Itm) : ∀ u ∈ icell x, u.oneCell' = true := fun u hu => by
  rcases List.mem_cons.1 hu with rfl | hu
  · rfl
  · rw [List.mem_singleton] at hu; subst hu; rfl
/-- a row that has grown since -/
theorem grown_fresh {w w1 w2 : World} {n c : Nat} {A : Option Addr} {l : List Itm} (h : Fresh w w1) (ho : OwnI w1 w.heap.size A n c l) (hg : w1.grownBy w2 (Value.slice A n c).ownBlock) : Fresh w w2 :=
  Below.grown h hg h.size fun k hk => (World.ownsRow.lt ho k hk).1
set_option maxRecDepth 100000 in
set_option maxHeartbeats 16000000 in
theorem paired_any (A : Option Addr) (n c B : Nat) (l : List Itm) (w : World) (h : RdI w B A n l) (hc : n ≤ c) (hm : c ≤ maxLen) (hn : n ≤ 1000) (hB : B ≤ w.heap.size) (hf : Fine l) :
    Calls Tryd.prog 54 #[.slice A n c] w fun e w' => ∃ A' m c', e = .returned (.slice A' m c') ∧ OwnI w' w.heap.size A' m c' (paired l) ∧ Fresh w w' := by
  obtain ⟨i0, hi0, hz0, hz1, hz2⟩ := info_parts itemInfo
  go_enter Tryd.func54, Tryd.ntmps54
  go_wp2
  go_loopw [0, 3] (fun vl vp wr => ∃ (A1 : Option Addr) (n1 c1 : Nat) (l1 : List Itm) (A2 : Option Addr) (m2 c2 : Nat) (p2 : List Itm), vl = .slice A1 n1 c1 ∧ vp = .slice A2 m2 c2 ∧ RdI wr B A1 n1 l1 ∧ n1 ≤ c1 ∧ Hid (c1 ≤ maxLen) ∧ n1 + 2 * m2 ≤ n ∧ OwnI wr w.heap.size A2 m2 c2 p2 ∧ Hid (p2 ++ paired l1 = paired l) ∧ Hid (Fine l1) ∧ Fresh w wr) (fun vl _ _ => match vl with | .slice _ n _ => n | _ => 0)
  case atStart => exact ⟨A, n, c, l, none, 0, 0, [], rfl, rfl, h, hc, hm, by omega, OwnI.nil _ _, rfl, hf, Fresh.refl _⟩
  case round =>
    obtain ⟨A1, n1, c1, l1, A2, m2, c2, p2, rfl, rfl, hR, hc1, hm1, hnm, hO, hP, hF, hfr⟩ := hrel
    by_cases hlt : 1 < n1
    · obtain ⟨x, y, r, rfl⟩ : ∃ x y r, l1 = x :: y :: r := by
        have := hR.1
        match l1, this with
        | x :: y :: r, _ => exact ⟨x, y, r, rfl⟩
        | [x], h => simp at h; omega
        | [], h => simp at h; omega
      have hcut := hR.cut (lo := 2) (hi := n1) (cap := c1) (by omega) (Nat.le_refl _) hc1
      obtain ⟨b, off, rfl, hb, hcell⟩ := hR.2 (by omega)
      have cx : wr.cell? ⟨b, off, none⟩ = some (.int .i64 x.1) := by have := hcell 0 _ rfl; rwa [Nat.add_zero] at this
      have cy : wr.cell? ⟨b, off + 2, none⟩ = some (.int .i64 y.1) := hcell 2 _ rfl
      have hx := hF.out x (List.mem_cons_self ..)
      have hy := hF.out y (List.mem_cons_of_mem _ (List.mem_cons_self ..))
      have hF2 : Fine r := fun z hz => hF.out z (List.mem_cons_of_mem _ (List.mem_cons_of_mem _ hz))
      have htg := fun W => together_any x.1 y.1 hx hy W
      have HTG := Lib.hid htg
      obtain ⟨t, ht⟩ : ∃ t, together x.1 y.1 = t := ⟨_, rfl⟩
      rw [ht] at htg
      have HTG := Lib.hid htg
      have hpr : paired (x :: y :: r) = (t, true) :: paired r := by rw [paired, ht]
      have HPR := Lib.hid hpr
      have HLEN := Lib.hid (show (x :: y :: r).length = n1 from hR.1)
      have HO := Lib.hid hO
      have HFR := Lib.hid hfr
      have HCUT := Lib.hid hcut
      have HF2 := Lib.hid hF2
      have HB := Lib.hid (show b < wr.heap.size by have := hfr.size; omega)
      have hk1 : wr.drew.cell? ⟨b, off, none⟩ = some (.int .i64 x.1) ∧ wr.drew.cell? ⟨b, off + 2, none⟩ = some (.int .i64 y.1) := ⟨cx, cy⟩
      have hk2 : ∀ cs ty, (wr.alloc (.cells cs ty)).drew.cell? ⟨b, off, none⟩ = some (.int .i64 x.1) ∧ (wr.alloc (.cells cs ty)).drew.cell? ⟨b, off + 2, none⟩ = some (.int .i64 y.1) := fun cs ty => ⟨(World.cell?_of_block ((Fresh.alloc wr _).block b HB.out)).trans cx, (World.cell?_of_block ((Fresh.alloc wr _).block b HB.out)).trans cy⟩
      have n0i : (0 : Int) < (n1 : Int) := by omega
      have n0n : 0 < n1 := by omega
      have n1n : 1 < n1 := hlt
      have n1i : (1 : Int) < (n1 : Int) := by omega
      have hbB : b < w.heap.size := by omega
      have n2i : (2 : Int) ≤ (n1 : Int) := by omega
      have c2i : (n1 : Int) ≤ (c1 : Int) := by omega
      clear hO hfr hcut hF2 hpr ht htg hx hy hcell hR cx cy
      go_wp2
      go_region_held3 (fun w' => w'.cell? ⟨b, off, none⟩ = some (.int .i64 x.1) ∧ w'.cell? ⟨b, off + 2, none⟩ = some (.int .i64 y.1)) (first | exact hk1 | exact hk2 _ _ | exact HK3.out)
        (first
        | (go_at_call 63; (with_reducible refine (HTG.out _).mono ?_); rintro e w1 ⟨rfl, rfl⟩)
        | ((with_reducible (refine st_slot_ 21 ?_)); go_loud (refine step_append_lies _ (by rfl) (.tmp 9) (.tmp 20) tItems (by rfl) w.heap.size tItem i0 _ 2 16 Tryd.underlying79 hi0 hz0 hz1 hz2 rfl (by omega) (.slice A2 m2 c2) m2 (icells p2) (by rfl) ((HO.out.fresh (Fresh.alloc _ _)).fresh (Fresh.drew _)) ⟨wr.heap.size, 0, none⟩ 1 1 (icell (t, true)) (by rfl) (by rfl) (World.news_of_block (cs := #[.int .i64 t, .bool true]) (t := tItem) (fr := (0, 0)) (heap_alloc_new wr _)) (icell_one _) (by omega) (by unfold maxLen; omega) (by omega) (by have := HFR.out.size; simp; omega) (wr.heap.size + 1) (by simp) ?_; (intro gg cap w4 hown hgrow hat hlt4; rw [← icells_snoc] at hown; have HOWN := Lib.hid hown; have hfr4 := grown_fresh ((HFR.out.trans (Fresh.alloc wr (.cells #[.int .i64 t, .bool true] tItem))).trans (Fresh.drew _)) ((HO.out.fresh (Fresh.alloc _ _)).fresh (Fresh.drew _)) hgrow; have HFR4 := Lib.hid hfr4; have hrow : ∀ k, k < w.heap.size → w4.heap[k]? = wr.heap[k]? := (fun k hk => (hgrow.block k (by have := HFR.out.size; simp; omega) (fun e => by have := (World.ownsRow.lt ((HO.out.fresh (Fresh.alloc wr (.cells #[.int .i64 t, .bool true] tItem))).fresh (Fresh.drew _)) k e.symm).1; omega)).trans ((Fresh.alloc wr (.cells #[.int .i64 t, .bool true] tItem)).block k (by have := HFR.out.size; omega))); have HROW := Lib.hid hrow; have HK3 := Lib.hid (show w4.cell? ⟨b, off, none⟩ = some (.int .i64 x.1) ∧ w4.cell? ⟨b, off + 2, none⟩ = some (.int .i64 y.1) from ⟨(World.cell?_of_block (hrow b hbB)).trans hk1.1, (World.cell?_of_block (hrow b hbB)).trans hk1.2⟩); clear hown hgrow hat hfr4 hrow))))
      have hR4 : RdI w4 B (if c1 = 2 then some (⟨b, off, none⟩ : Addr) else Option.map (fun x : Addr => x.add (2 * 2)) (some (⟨b, off, none⟩ : Addr))) (n1 - 2) r := by
        have h1 := HCUT.out
        have h2 := HCUT.out.1
        rw [show List.drop 2 (x :: y :: r) = r from rfl] at h1 h2
        rw [List.length_take] at h2
        have h3 : (List.take (n1 - 2) r).length = n1 - 2 := h1.1
        have h4 : List.take (n1 - 2) r = r := by
          have hl := HLEN.out
          simp only [List.length_cons] at hl
          exact List.take_of_length_le (by omega)
        rw [h4] at h1
        exact h1.keep fun k hk => HROW.out k (by omega)
      have HR4 := Lib.hid hR4
      have hpp : (p2 ++ [(t, true)]) ++ paired r = paired l := by
        have h1 := hP.out
        rw [HPR.out] at h1
        rw [List.append_assoc]
        exact h1
      have HPP := Lib.hid hpp
      have nn : (n1 : Int) - 2 = ((n1 - 2 : Nat) : Int) := by omega
      have nc : (c1 : Int) - 2 = ((c1 - 2 : Nat) : Int) := by omega
      rename_i hj
      clear hj hR4 hpp hk1 hk2
      go_wp2
      have hx4 : (if c1 = 2 then some (⟨b, off, none⟩ : Addr) else some (⟨b, off + 4, none⟩ : Addr)) = (if c1 = 2 then some (⟨b, off, none⟩ : Addr) else Option.map (fun x : Addr => x.add (2 * 2)) (some (⟨b, off, none⟩ : Addr))) := rfl
      refine ⟨⟨_, n1 - 2, c1 - 2, r, _, m2 + 1, cap, p2 ++ [(t, true)], rfl, rfl, by rw [hx4]; exact HR4.out, by omega, Lib.hid (by have := hm1.out; omega), by omega, HOWN.out, HPP, HF2, HFR4.out⟩, ?_⟩
      show n1 - 2 < n1
      omega
    · have hln := hR.1
      have hpe : paired l1 = [] := by
        match l1, hln with
        | [], _ => rfl
        | [x], _ => rw [paired]; intro a b c h; cases h
        | x :: y :: r, h => simp at h; omega
      have hP2 := hP.out
      rw [hpe, List.append_nil] at hP2
      have HP2 := Lib.hid hP2
      clear hpe hP2 hln
      go_wp2
      go_ret
      exact ⟨A2, m2, c2, rfl, by rw [← HP2.out]; exact hO, hfr⟩
end Go.Proofs.YtcmeoappddpmcaaDoor.lenp
/-
  huff.Lengths: merged. My own text.
-/
namespace Go.Proofs.YtcmeoappddpmcaaDoor.lenp
open Go.RowKit Go.Proofs.YtcmeoappddpmcaaDoor.base Go.Proofs.YtcmeoappddpmcaaDoor.lennum Go.Proofs.YtcmeoappddpmcaaDoor.sortp
set_option linter.unusedVariables false

section
variable {P : Program}
theorem run_append_it_nothing (w : World) (base : Nat) (t ty : TypeId) (i : TypeInfo) (ht : P.underlying t = some (.slice tItem)) (hi : P.info? tItem = some i)
    (A : Option Addr) (n c : Nat) (xs : List Itm) (hown : OwnI w base A n c xs) (c' : Nat) : (Builtin.append_ #[t, t] ty #[.slice A n c, .slice none 0 c']).run P w = .ok (.slice A n c) w := by
  rcases hown.2 with ⟨hv, hn⟩ | ⟨g, cap, cur, hv, _, _, hnc, _⟩
  · rw [hv]
    simp [Builtin.append_, run_underlying ht, sizeOf, typeInfo, hi, Builtin.lenOf, Builtin.firstCells]
  · rw [hv]
    simp [Builtin.append_, run_underlying ht, sizeOf, typeInfo, hi, Builtin.lenOf, Builtin.firstCells, hnc, storeCells]
theorem icells_one (l : List Itm) : ∀ u ∈ icells l, u.oneCell' = true := by
  intro u hu
  obtain ⟨x, _, hx⟩ := List.mem_flatMap.1 hu
  exact icell_one x u hx
/-- append(own, src...): src nil, empty or not -/
theorem run_append_it (w : World) (base : Nat) (t ty : TypeId) (i : TypeInfo) (z : Value) (bytes : Nat) (ht : P.underlying t = some (.slice tItem)) (hi : P.info? tItem = some i) (hz : i.zero = some z)
    (hsize : i.size = 2) (hby : i.bytes = bytes) (hzs : z.cells.size = 2)
    (A : Option Addr) (n c : Nat) (xs : List Itm) (hown : OwnI w base A n c xs)
    (B : Nat) (D : Option Addr) (m d : Nat) (news : List Itm) (hr : RdI w B D m news)
    (h63 : n + m ≤ maxLen) (hbytes : (n + m) * bytes ≤ 140737488355328) (hbase : base ≤ w.heap.size) :
    ∃ A' c' w', (Builtin.append_ #[t, t] ty #[.slice A n c, .slice D m d]).run P w = .ok (.slice A' (n + m) c') w' ∧ OwnI w' base A' (n + m) c' (xs ++ news) ∧ w.grownBy w' (Value.slice A n c).ownBlock := by
  rcases D with _ | ad
  · have hm : m = 0 := by
      rcases Nat.eq_zero_or_pos m with h0 | h0
      · exact h0
      · obtain ⟨b, off, h, _⟩ := hr.2 h0
        cases h
    subst hm
    have hn : news = [] := List.eq_nil_of_length_eq_zero hr.1
    subst hn
    exact ⟨A, c, w, run_append_it_nothing w base t ty i ht hi A n c xs hown d, by simpa using hown, World.grownBy.refl w _⟩
  · have hcells : ∀ j u, (icells news)[j]? = some u → w.cell? (ad.add j) = some u := by
      intro j u hu
      rcases Nat.eq_zero_or_pos m with h0 | h0
      · subst h0
        have hn : news = [] := List.eq_nil_of_length_eq_zero hr.1
        subst hn
        simp [icells] at hu
      · obtain ⟨b, off, h, _, hc⟩ := hr.2 h0
        injection h with h
        subst h
        have hadd : (⟨b, off, none⟩ : Addr).add j = ⟨b, off + j, none⟩ := by unfold Addr.add; split <;> simp_all
        rw [hadd]
        exact hc j u hu
    obtain ⟨v', w', hrun, h2, h3, _, h5⟩ := run_append_own_at (P := P) w base t ty tItem i z 2 bytes ht hi hz hsize hby hzs (by omega) (.slice A n c) n (icells xs) hown ad m d (icells news) (by rw [icells_len, hr.1]) hcells (icells_one _) h63 hbytes hbase
    rw [← icells_append] at h2
    have hform : ∃ A' c', v' = .slice A' (n + m) c' := by
      rcases h2.2 with ⟨hv, hn⟩ | ⟨g, cap, cur, hv, _⟩
      · exact ⟨none, 0, by rw [hv, hn]⟩
      · exact ⟨_, cap, hv⟩
    obtain ⟨A', c', rfl⟩ := hform
    exact ⟨A', c', w', hrun, h2, h3⟩
theorem wpList_append_it (w : World) {ops : Array Oper} {rest : List Oper} {o : Oper} {a : Act} {Q : Exit → Act → World → Prop} (hgd : o.guard = none) (s x : Operand) (t : TypeId)
    (ho : o.op = .call { callee := .builtin .append, args := #[s, x], argTypes := #[t, t] })
    (base : Nat) (i : TypeInfo) (z : Value) (bytes : Nat) (ht : P.underlying t = some (.slice tItem)) (hi : P.info? tItem = some i) (hz : i.zero = some z)
    (hsize : i.size = 2) (hby : i.bytes = bytes) (hzs : z.cells.size = 2)
    (A : Option Addr) (n c : Nat) (xs : List Itm) (hs : a.eval s = .slice A n c) (hown : OwnI w base A n c xs)
    (B : Nat) (D : Option Addr) (m d : Nat) (news : List Itm) (hx : a.eval x = .slice D m d) (hr : RdI w B D m news)
    (h63 : n + m ≤ maxLen) (hbytes : (n + m) * bytes ≤ 140737488355328) (hbase : base ≤ w.heap.size)
    (h : ∀ A' c' w', OwnI w' base A' (n + m) c' (xs ++ news) → w.grownBy w' (Value.slice A n c).ownBlock → wpList P ops Q rest (a.put o.dst (.slice A' (n + m) c')) w') : wpList P ops Q (o :: rest) a w :=
  wpList_plain hgd fun _ hK => by
    obtain ⟨A', c', w', hrun, h2, h3⟩ := run_append_it (P := P) w base t o.type i z bytes ht hi hz hsize hby hzs A n c xs hown B D m d news hr h63 hbytes hbase
    unfold Oper.wp execOp
    simp only [ho, resolve, invoke, builtin, Sem.run_bind, Sem.run_pure, Result.andThen_ok, List.map_toArray, List.map_cons, List.map_nil, hs, hx, hrun]
    exact hK _ _ (h A' c' w' h2 h3)
end
theorem rd_lit_it (W : World) (x : Itm) : RdI (W.alloc (.cells #[.int .i64 x.1, .bool x.2] tItem)) (W.heap.size + 1) (some ⟨W.heap.size, 0, none⟩) 1 [x] := by
  refine ⟨rfl, fun _ => ⟨W.heap.size, 0, rfl, by omega, fun j u hu => ?_⟩⟩
  have h := World.news_of_block (cs := #[.int .i64 x.1, .bool x.2]) (t := tItem) (fr := (0, 0)) (heap_alloc_new W _) j u hu
  have hadd : (⟨W.heap.size, 0, none⟩ : Addr).add j = ⟨W.heap.size, 0 + j, none⟩ := by unfold Addr.add; split <;> simp_all
  rwa [hadd] at h
theorem merged_lt {u : Int} {W : List Int} {q : Itm} {r : List Itm} (h : q.1 < u) : merged (u :: W) (q :: r) = q :: merged (u :: W) r := by rw [merged, if_pos h]
theorem merged_ge {u : Int} {W : List Int} {q : Itm} {r : List Itm} (h : ¬ q.1 < u) : merged (u :: W) (q :: r) = (u, false) :: merged W (q :: r) := by rw [merged, if_neg h]
theorem merged_out {u : Int} {W : List Int} : merged (u :: W) [] = (u, false) :: merged W [] := by rw [merged]
set_option maxRecDepth 100000 in
set_option maxHeartbeats 16000000 in
theorem merged_any (S : Option Addr) (ns sc : Nat) (ss : List Int) (C : Option Addr) (nc cc : Nat) (cs : List Int) (P : Option Addr) (np cp B : Nat) (ps : List Itm) (w : World)
    (hS : Rd w B S ns (ss.map iv)) (hC : Rd w B C nc (cs.map iv)) (hP : RdI w B P np ps) (hcp : np ≤ cp) (hmp : cp ≤ maxLen) (hns : ns ≤ 1000) (hnp : np ≤ 1000) (hB : B ≤ w.heap.size) (hok : ∀ s ∈ ss, ok cs s) :
    Calls Tryd.prog 53 #[.slice S ns sc, .slice C nc cc, .slice P np cp] w fun e w' => ∃ A' m c', e = .returned (.slice A' m c') ∧ OwnI w' w.heap.size A' m c' (merged (ss.map (key cs)) ps) ∧ Fresh w w' := by
  obtain ⟨i0, hi0, hz0, hz1, hz2⟩ := info_parts itemInfo
  go_enter Tryd.func53, Tryd.ntmps53
  have HM := Lib.hid (show (ns : Int) + (np : Int) = ((ns + np : Nat) : Int) by omega)
  go_wp2_with (at_make; refine wpList_make_own _ rfl _ _ tItems rfl w.heap.size tItem i0 _ 2 Tryd.underlying79 hi0 hz0 hz1 _ _ _ (ns + np) rfl rfl HM.out (by rw [hz2]; omega) (by unfold maxLen; omega) (Nat.le_refl _) ?_; intro w1 hown1 hg1)
  have hf1 : Fresh w w1 := Below.grown (Fresh.refl w) hg1 (Nat.le_refl _) (fun k hk => by cases hk)
  have HS := Lib.hid hS
  have HC := Lib.hid hC
  have HOK := Lib.hid hok
  have hls : ss.length = ns := by have := hS.1; rwa [List.length_map] at this
  have hlc : cs.length = nc := by have := hC.1; rwa [List.length_map] at this
  clear hg1 hS hC hok
  go_loopw [2, 7, 18] (fun vp vo vi wr => ∃ (i : Nat) (A1 : Option Addr) (m1 c1 : Nat) (o : List Itm) (A2 : Option Addr) (n2 c2 : Nat) (p2 : List Itm), vi = .int .i64 i ∧ vo = .slice A1 m1 c1 ∧ vp = .slice A2 n2 c2 ∧ i ≤ ns ∧ m1 + n2 = i + np ∧ OwnI wr w.heap.size A1 m1 c1 o ∧ RdI wr B A2 n2 p2 ∧ n2 ≤ c2 ∧ Hid (c2 ≤ maxLen) ∧ Hid (o ++ merged ((ss.drop i).map (key cs)) p2 = merged (ss.map (key cs)) ps) ∧ Fresh w wr) (fun _ _ vi _ => ns - (intOf vi).toNat)
  case atStart => exact ⟨0, _, 0, _, [], P, np, cp, ps, rfl, rfl, rfl, Nat.zero_le _, by omega, hown1, hP.keep fun k hk => hf1.block k (by omega), hcp, hmp, rfl, hf1⟩
  case round =>
    obtain ⟨i, A1, m1, c1, o, A2, n2, c2, p2, rfl, rfl, rfl, hi, hmn, hO, hR, hc2, hm2, hG, hfr⟩ := hrel
    clear hown1 hf1
    by_cases hlt : i < ns
    · obtain ⟨b, off, s, hSe, hb, hs, hcs⟩ := HS.out.at_ hlt
      subst hSe
      have hsok := HOK.out s (List.mem_of_getElem? hs)
      obtain ⟨x, rfl⟩ := Int.eq_ofNat_of_zero_le hsok.1
      have hx2 : x < nc := by have := hsok.2; omega
      obtain ⟨cb, coff, u, hCe, hcb, hu, hcc⟩ := HC.out.at_ hx2
      subst hCe
      have hku : key cs (x : Int) = u := by unfold key; rw [Int.toNat_natCast, List.getD_eq_getElem?_getD, hu]; rfl
      have hdr : (ss.drop i).map (key cs) = u :: (ss.drop (i + 1)).map (key cs) := by
        obtain ⟨hl, e⟩ := List.getElem?_eq_some_iff.1 hs
        rw [List.drop_eq_getElem_cons hl, List.map_cons, e, hku]
      have HCS := Lib.hid (show ∀ W, Fresh w W → W.cell? ⟨b, off + i, none⟩ = some (.int .i64 (x : Int)) from fun W hW => (World.cell?_of_block (hW.block b (by omega))).trans hcs)
      have HCC := Lib.hid (show ∀ W, Fresh w W → W.cell? ⟨cb, coff + x, none⟩ = some (.int .i64 u) from fun W hW => (World.cell?_of_block (hW.block cb (by omega))).trans hcc)
      rw [hdr] at hG
      have hcell := HCS.out wr hfr
      have xi : (x : Int) < (nc : Int) := by omega
      have ii : (i : Int) < (ns : Int) := by omega
      clear hdr hcs hcc hu hs hsok hku
      go_wp2
      go_loopw [2, 7] (fun vp vo wr => ∃ (A1 : Option Addr) (m1 c1 : Nat) (o : List Itm) (A2 : Option Addr) (n2 c2 : Nat) (p2 : List Itm), vo = .slice A1 m1 c1 ∧ vp = .slice A2 n2 c2 ∧ m1 + n2 = i + np ∧ OwnI wr w.heap.size A1 m1 c1 o ∧ RdI wr B A2 n2 p2 ∧ n2 ≤ c2 ∧ Hid (c2 ≤ maxLen) ∧ Hid (o ++ merged (u :: (ss.drop (i + 1)).map (key cs)) p2 = merged (ss.map (key cs)) ps) ∧ Fresh w wr) (fun vp _ _ => match vp with | .slice _ n _ => n | _ => 0)
      case atStart => exact ⟨A1, m1, c1, o, A2, n2, c2, p2, rfl, rfl, hmn, hO, hR, hc2, hm2, hG, hfr⟩
      case round =>
        clear hO hR hc2 hm2 hG hfr hcell hmn
        obtain ⟨A3, m3, c3, o3, A4, n4, c4, p4, rfl, rfl, hmn, hO, hR, hc2, hm2, hG, hfr⟩ := hrel
        rename_i wq _ _ _
        have hcc := HCC.out _ hfr
        by_cases hn0 : 0 < n4
        · obtain ⟨q, r, rfl⟩ : ∃ q r, p4 = q :: r := by
            have := hR.1
            match p4, this with
            | q :: r, _ => exact ⟨q, r, rfl⟩
            | [], h => simp at h; omega
          have hcut := hR.cut (lo := 1) (hi := n4) (cap := c4) (by omega) (Nat.le_refl _) hc2
          obtain ⟨pb, poff, rfl, hpb, hpc⟩ := hR.2 hn0
          have cq := hpc 0 _ rfl
          have cq2 := hpc 1 _ rfl
          rw [Nat.add_zero] at cq
          have hqr : (List.drop 1 (q :: r)).take (n4 - 1) = r := by
            have hl := hR.1
            simp only [List.length_cons] at hl
            exact List.take_of_length_le (by simp; omega)
          rw [hqr] at hcut
          have n0i : (0 : Int) < (n4 : Int) := by omega
          have n1i : (1 : Int) ≤ (n4 : Int) := by omega
          have c4i : (n4 : Int) ≤ (c4 : Int) := by omega
          clear hpc hqr
          by_cases hqu : q.1 < u
          · go_wp2
            go_quiet (fail)
            have nn : (n4 : Int) - 1 = ((n4 - 1 : Nat) : Int) := by omega
            have nc4 : (c4 : Int) - 1 = ((c4 - 1 : Nat) : Int) := by omega
            go_wp2_with (at_builtin; go_loud (refine wpList_append_it _ rfl _ _ tItems rfl w.heap.size i0 _ 16 Tryd.underlying79 hi0 hz0 hz1 hz2 rfl A3 m3 c3 o3 rfl ((hO.fresh (Fresh.drewN _ _)).fresh (Fresh.alloc _ _)) _ _ 1 1 [q] rfl (rd_lit_it (wr.drewN nq) q) (by unfold maxLen; omega) (by omega) (by have := hfr.size; simp; omega) ?_); intro A5 c5 w5 hown5 hg5; have hf5 : Fresh w w5 := grown_fresh ((hfr.trans (Fresh.drewN _ _)).trans (Fresh.alloc _ _)) ((hO.fresh (Fresh.drewN _ nq)).fresh (Fresh.alloc _ _)) hg5; clear hg5)
            have hx4 : (if c4 = 1 then some (⟨pb, poff, none⟩ : Addr) else some (⟨pb, poff + 2, none⟩ : Addr)) = (if c4 = 1 then some (⟨pb, poff, none⟩ : Addr) else Option.map (fun x : Addr => x.add (1 * 2)) (some (⟨pb, poff, none⟩ : Addr))) := rfl
            refine ⟨⟨A5, m3 + 1, c5, o3 ++ [q], _, n4 - 1, c4 - 1, r, rfl, rfl, by omega, hown5, by rw [hx4]; exact hcut.keep fun k hk => (hf5.block k (by omega)).trans (hfr.block k (by omega)).symm, by omega, Lib.hid (by have := hm2.out; omega), Lib.hid (by have := hG.out; rw [merged_lt hqu] at this; rw [List.append_assoc]; exact this), hf5⟩, ?_⟩
            show n4 - 1 < n4
            omega
          · go_wp2
            go_quiet (fail)
            have hcc5 := hcc
            go_wp2_with (at_builtin; go_loud (refine wpList_append_it _ rfl _ _ tItems rfl w.heap.size i0 _ 16 Tryd.underlying79 hi0 hz0 hz1 hz2 rfl A3 m3 c3 o3 rfl ((hO.fresh (Fresh.drewN _ _)).fresh (Fresh.alloc _ _)) _ _ 1 1 [(u, false)] rfl (rd_lit_it (wr.drewN nq) (u, false)) (by unfold maxLen; omega) (by omega) (by have := hfr.size; simp; omega) ?_); intro A5 c5 w5 hown5 hg5; have hf5 : Fresh w w5 := grown_fresh ((hfr.trans (Fresh.drewN _ _)).trans (Fresh.alloc _ _)) ((hO.fresh (Fresh.drewN _ nq)).fresh (Fresh.alloc _ _)) hg5; clear hg5)
            refine ⟨⟨i + 1, A5, m3 + 1, c5, o3 ++ [(u, false)], _, n4, c4, q :: r, rfl, rfl, rfl, by omega, by omega, hown5, hR.keep fun k hk => (hf5.block k (by omega)).trans (hfr.block k (by omega)).symm, hc2, hm2, Lib.hid (by have := hG.out; rw [merged_ge (Int.not_lt.2 hqu)] at this; rw [List.append_assoc]; exact this), hf5⟩, ?_⟩
            show ns - ((i : Int) + 1).toNat < ns - ((i : Int)).toNat
            omega

        · have hp4 : p4 = [] := List.eq_nil_of_length_eq_zero (by have := hR.1; omega)
          subst hp4
          have hn4 : n4 = 0 := by omega
          subst hn4
          go_wp2
          go_quiet (fail)
          have hcc5 := hcc
          go_wp2_with (at_builtin; go_loud (refine wpList_append_it _ rfl _ _ tItems rfl w.heap.size i0 _ 16 Tryd.underlying79 hi0 hz0 hz1 hz2 rfl A3 m3 c3 o3 rfl ((hO.fresh (Fresh.drewN _ _)).fresh (Fresh.alloc _ _)) _ _ 1 1 [(u, false)] rfl (rd_lit_it (wr.drewN nq) (u, false)) (by unfold maxLen; omega) (by omega) (by have := hfr.size; simp; omega) ?_); intro A5 c5 w5 hown5 hg5; have hf5 : Fresh w w5 := grown_fresh ((hfr.trans (Fresh.drewN _ _)).trans (Fresh.alloc _ _)) ((hO.fresh (Fresh.drewN _ nq)).fresh (Fresh.alloc _ _)) hg5; clear hg5)
          refine ⟨⟨i + 1, A5, m3 + 1, c5, o3 ++ [(u, false)], A4, 0, c4, [], rfl, rfl, rfl, by omega, by omega, hown5, hR.keep fun k hk => (hf5.block k (by omega)).trans (hfr.block k (by omega)).symm, hc2, hm2, Lib.hid (by have := hG.out; rw [merged_out] at this; rw [List.append_assoc]; exact this), hf5⟩, ?_⟩
          show ns - ((i : Int) + 1).toNat < ns - ((i : Int)).toNat
          omega

    · have hin : i = ns := by omega
      subst hin
      have hG2 := hG.out
      rw [List.drop_eq_nil_of_le (by omega)] at hG2
      rw [show merged (List.map (key cs) []) p2 = p2 from by rw [List.map_nil, merged]] at hG2
      go_wp2_with (at_builtin; go_loud (refine wpList_append_it _ rfl _ _ tItems rfl w.heap.size i0 _ 16 Tryd.underlying79 hi0 hz0 hz1 hz2 rfl A1 m1 c1 o rfl hO B A2 n2 c2 p2 rfl hR (by unfold maxLen; omega) (by omega) (by have := hfr.size; omega) ?_); intro A5 c5 w5 hown5 hg5; have hf5 : Fresh w w5 := grown_fresh hfr hO hg5; clear hg5)
      go_ret
      exact ⟨A5, _, c5, rfl, by rw [show merged (List.map (key cs) ss) ps = o ++ p2 from hG2.symm]; rw [hmn] at hown5; exact hown5, hf5⟩
end Go.Proofs.YtcmeoappddpmcaaDoor.lenp
/-
  huff.Lengths: levelsOf. My own text.
-/
namespace Go.Proofs.YtcmeoappddpmcaaDoor.lenp
open Go.RowKit Go.Proofs.YtcmeoappddpmcaaDoor.base Go.Proofs.YtcmeoappddpmcaaDoor.lennum Go.Proofs.YtcmeoappddpmcaaDoor.sortp
set_option linter.unusedVariables false

abbrev tLevels : TypeId := 80
theorem OwnI.low {w : World} {base base' : Nat} {A : Option Addr} {n c : Nat} {l : List Itm} (h : OwnI w base A n c l) (hb : base' ≤ base) : OwnI w base' A n c l :=
  ⟨h.1, h.2.imp id fun ⟨g, cap, cur, h1, h2, h3⟩ => ⟨g, cap, cur, h1, Nat.le_trans hb h2, h3⟩⟩
theorem OwnI.but {w w' : World} {base g n c : Nat} {A : Option Addr} {l : List Itm} (h : OwnI w base A n c l) (k : But g w w') (hg : g < base) : OwnI w' base A n c l :=
  World.ownsRow.kept h k (.inr fun e => by have := (World.ownsRow.lt h g e).1; omega)
theorem levelsInfo : (Tryd.prog.info? tLevels).map (·.size) = some 15 := by kernel_rfl
/-- what lies behind a level -/
def behind (ws : List Int) : Nat → List Itm
  | 0 => []
  | k + 1 => paired (lev ws k)
theorem lev_is (ws : List Int) (k : Nat) : merged ws (behind ws k) = lev ws k := by cases k <;> rfl
theorem lev_short (ws : List Int) (k : Nat) : (lev ws k).length ≤ 2 * ws.length := by obtain ⟨d, h, _⟩ := lev_enough ws k; omega
theorem behind_short (ws : List Int) : ∀ k, (behind ws k).length ≤ ws.length
  | 0 => Nat.zero_le _
  | k + 1 => by show (paired (lev ws k)).length ≤ _; rw [paired_len]; have := lev_short ws k; omega
set_option maxRecDepth 100000 in
set_option maxHeartbeats 16000000 in
theorem levels_any (S : Option Addr) (ns sc : Nat) (ss : List Int) (C : Option Addr) (nc cc : Nat) (cs : List Int) (B most : Nat) (w : World)
    (hS : Rd w B S ns (ss.map iv)) (hC : Rd w B C nc (cs.map iv)) (hns : ns ≤ 500) (hm1 : 1 ≤ most) (hm2 : most ≤ 15) (hB : B ≤ w.heap.size) (hok : ∀ s ∈ ss, ok cs s) (hws : Ws (ss.map (key cs))) :
    Calls Tryd.prog 38 #[.slice S ns sc, .slice C nc cc, .int .i64 most] w fun e w' => ∃ vs : List Value, e = .returned (.agg vs.toArray) ∧ vs.length = 15 ∧ (∀ v ∈ vs, v.oneCell' = true) ∧ Fresh w w' ∧ ∀ k, k < most → ∃ A m c, vs[most - 1 - k]? = some (.slice A m c) ∧ OwnI w' w.heap.size A m c (lev (ss.map (key cs)) k) := by
  have hls : (ss.map (key cs)).length = ns := by have := hS.1; rw [List.length_map] at this ⊢; exact this
  obtain ⟨ws, hwd⟩ : ∃ ws, ss.map (key cs) = ws := ⟨_, rfl⟩
  have HMG := Lib.hid (fun (A2 : Option Addr) (n2 c2 : Nat) (l2 : List Itm) (wr : World) (hf : Fresh w wr) (hR : RdI wr wr.heap.size A2 n2 l2) (h1 : n2 ≤ c2) (h2 : c2 ≤ maxLen) (h3 : n2 ≤ 1000) => merged_any S ns sc ss C nc cc cs A2 n2 c2 wr.heap.size l2 wr ((hS.keep fun k hk => hf.block k (by omega)).up (by have := hf.size; omega)) ((hC.keep fun k hk => hf.block k (by omega)).up (by have := hf.size; omega)) hR h1 h2 (by omega) h3 (Nat.le_refl _) hok)
  rw [hwd] at hls hws HMG ⊢
  have HWS := Lib.hid hws
  clear hS hC hok hwd hws
  obtain ⟨G, hGd⟩ : ∃ G, w.heap.size + 1 = G := ⟨_, rfl⟩
  go_enter Tryd.func38, Tryd.ntmps38
  go_wp2
  have hmk : ∀ (o : Obj) (t : TypeId) (cs : Array Value), Bk ((w.alloc o).alloc (.cells cs t)) G t cs.toList := fun o t cs => by
    have h := Bk.made (w.alloc o) t cs
    rwa [show (w.alloc o).heap.size = G from by rw [← hGd]; simp] at h
  go_loopw [8, 9] (fun vp vi wr => ∃ (p j : Nat) (vs : List Value) (A2 : Option Addr) (n2 c2 : Nat), vi = .int .i64 ((p : Int) - 1) ∧ vp = .slice A2 n2 c2 ∧ Hid (p + j = most) ∧ p ≤ 15 ∧ Hid (vs.length = 15) ∧ Bk wr G tLevels vs ∧ OwnI wr (G + 1) A2 n2 c2 (behind ws j) ∧ Hid (∀ k, k < j → ∃ A m c, vs[most - 1 - k]? = some (.slice A m c) ∧ OwnI wr (G + 1) A m c (lev ws k)) ∧ Hid (Bk wr w.heap.size tLevels (List.replicate 15 (.slice none 0 0))) ∧ Hid (∀ v ∈ vs, v.oneCell' = true) ∧ Fresh w wr) (fun _ vi _ => (intOf vi + 1).toNat)
  case atStart => exact ⟨most, 0, List.replicate 15 (.slice none 0 0), none, 0, 0, rfl, rfl, rfl, hm2, rfl, hmk _ _ _, OwnI.nil _ _, Lib.hid (fun k hk => absurd hk (by omega)), Lib.hid (by exact (Bk.made w _ _).alloc _), Lib.hid (fun v hv => by rw [(List.mem_replicate.1 hv).2]; rfl), (Fresh.alloc _ _).trans (Fresh.alloc _ _)⟩
  case round =>
    obtain ⟨p, j, vs, A2, n2, c2, rfl, rfl, hpj, hp, hvl, hBk, hO, hL, hRes, hOne, hfr⟩ := hrel
    have hGw : G < wr.heap.size := hBk.inside
    by_cases hp0 : 0 < p
    · obtain ⟨q, rfl⟩ : ∃ q, p = q + 1 := ⟨p - 1, by omega⟩
      have eq1 : ((q + 1 : Nat) : Int) - 1 = (q : Int) := by omega
      rw [eq1]
      have hn2 : n2 ≤ ns := by have := behind_short ws j; have := hO.len; omega
      have hmg := HMG.out A2 n2 c2 (behind ws j) wr hfr hO.rd hO.cap.1 hO.cap.2 (by omega)
      rw [lev_is] at hmg
      have HMR := Lib.hid hmg
      have HBK := Lib.hid hBk
      have HO := Lib.hid hO
      have HFR := Lib.hid hfr
      have qi : (0 : Int) ≤ (q : Int) := by omega
      have q15 : (q : Int) < 15 := by omega
      clear hmg hBk hO hfr
      go_wp2_with (first
        | (go_at_call 53; (with_reducible refine HMR.out.mono ?_); rintro e w2 ⟨A3, m3, c3, rfl, hO3, hf3⟩; have hB3 := HBK.out.fresh hf3; have hfz := hB3.free q; have hcw : w2.cell? ⟨G, q, none⟩ = some _ := hB3.cell (List.getElem?_eq_getElem (by have := hvl.out; omega)); have hP3 := hB3.put q (.slice A3 m3 c3); have hc3 : (w2.setCell ⟨G, q, none⟩ (.slice A3 m3 c3)).cell? ⟨G, q, none⟩ = some (.slice A3 m3 c3) := hP3.cell (by rw [List.getElem?_set_self (by have := hvl.out; omega)]); have hO4 : OwnI (w2.setCell ⟨G, q, none⟩ (.slice A3 m3 c3)) (G + 1) A3 m3 c3 (lev ws j) := (hO3.low (by omega)).but (But.put _ _) (by omega); have HO4 := Lib.hid hO4; have HP3 := Lib.hid hP3; have HF3 := Lib.hid hf3; clear hB3 hO4 hP3 hO3 hf3)
        | (go_at_call 54; (refine (paired_any A3 m3 c3 _ (lev ws j) _ HO4.out.rd HO4.out.cap.1 HO4.out.cap.2 (by have := HO4.out.len; have := lev_short ws j; omega) (Nat.le_refl _) (lev_fine HWS.out j)).mono ?_); rintro e w5 ⟨A5, m5, c5, rfl, hO5, hf5⟩))
      refine ⟨⟨q, j + 1, vs.set q (.slice A3 m3 c3), A5, m5, c5, rfl, rfl, Lib.hid (by have := hpj.out; omega), by omega, Lib.hid (by rw [List.length_set]; exact hvl.out), HP3.out.fresh hf5, hO5.low (by have := HP3.out.inside; omega), Lib.hid fun k hk => ?_, Lib.hid ((((hRes.out.fresh HF3.out).old ((But.put (g := G) (i := q) w2 _).block _ (by have := HF3.out.size; have := hRes.out.inside; omega) (by simp; omega))).fresh hf5)), Lib.hid (fun v hv => by rcases List.mem_or_eq_of_mem_set hv with h | rfl; exact hOne.out v h; rfl), ((HFR.out.trans HF3.out).but (by omega) (But.put _ _)).trans hf5⟩, ?_⟩
      · by_cases hkj : k = j
        · subst hkj
          refine ⟨A3, m3, c3, ?_, HO4.out.fresh hf5⟩
          rw [show most - 1 - k = q from by have := hpj.out; omega]
          exact List.getElem?_set_self (by have := hvl.out; omega)
        · obtain ⟨A, m, c, h1, h2⟩ := hL.out k (by omega)
          refine ⟨A, m, c, ?_, ((h2.fresh HF3.out).but (But.put _ _) (by omega)).fresh hf5⟩
          rw [List.getElem?_set_ne (by have := hpj.out; omega)]
          exact h1
      · show ((q : Int) - 1 + 1).toNat < ((q : Int) + 1).toNat
        omega
    · have hp1 : p = 0 := by omega
      subst hp1
      have e0 : ((0 : Nat) : Int) - 1 = -1 := by omega
      rw [e0]
      have hjm : j = most := by have := hpj.out; omega
      subst hjm
      go_wp2_with (first
        | (with_reducible (refine at_slot_ 26 ?_); refine wpList_load_blk rfl _ _ rfl G 0 15 tLevels vs rfl hBk (by have := hvl.out; omega) _ Tryd.underlying80 rfl levelsInfo ?_; rw [show (vs.drop 0).take 15 = vs from List.take_of_length_le (by have := hvl.out; simp; omega)])
        | ((with_reducible (refine at_store_ 6 26 ?_)); refine wpList_store_blk rfl tLevels (.tmp 6) (.tmp 26) rfl w.heap.size 0 tLevels _ vs rfl rfl hRes.out (by have := hvl.out; simp; omega) hOne.out (by rw [levelsInfo, hvl.out]) ?_; intro w6 hb6 hbut6))
      have hsp : splice (List.replicate 15 (Value.slice none 0 0)) 0 vs = vs := by
        unfold splice
        rw [List.take_zero, List.nil_append, List.drop_of_length_le (by have := hvl.out; simp; omega), List.append_nil]
      rw [hsp] at hb6
      have hf6 : Fresh w w6 := hfr.but (Nat.le_refl _) hbut6
      exact bodyPost_ret (results_cell_row (p := 6) (by kernel_rfl) _ _ w.heap.size tLevels vs.toArray (0, 0) _ rfl hb6 Tryd.underlying80 rfl (by rw [levelsInfo, List.size_toArray, hvl.out])) rfl ⟨vs, rfl, hvl.out, hOne.out, hf6, fun k hk => by
        obtain ⟨A, m, c, h1, h2⟩ := hL.out k hk
        exact ⟨A, m, c, h1, (h2.but hbut6 (by omega)).low (by omega)⟩⟩
end Go.Proofs.YtcmeoappddpmcaaDoor.lenp
/-
  Sorting by swaps: plain mathematics, over no program. My own text.
-/
namespace Go.Proofs.YtcmeoappddpmcaaDoor.sortnum
set_option linter.unusedVariables false

def lst (f : Nat → Int) (n : Nat) : List Int := (List.range n).map f
theorem lst_len (f : Nat → Int) (n : Nat) : (lst f n).length = n := by simp [lst]
theorem lst_get (f : Nat → Int) {n i : Nat} (h : i < n) : (lst f n)[i]? = some (f i) := by simp [lst, h]
/-- two are swapped -/
def sw (f : Nat → Int) (i j : Nat) : Nat → Int := fun x => if x = i then f j else if x = j then f i else f x
theorem lst_sw (f : Nat → Int) {n i j : Nat} (hi : i < n) (hj : j < n) : ((lst f n).set i (f j)).set j (f i) = lst (sw f i j) n := by
  refine List.ext_getElem? fun x => ?_
  by_cases hx : x < n
  · rw [List.getElem?_set, List.length_set, lst_len, List.getElem?_set, lst_len, lst_get f hx, lst_get _ hx]
    simp only [sw]
    (repeat' split) <;> first | rfl | omega | (subst_vars; first | rfl | omega)
  · rw [List.getElem?_eq_none (by simp [lst_len]; omega), List.getElem?_eq_none (by simp [lst_len]; omega)]
theorem perm_sw (f : Nat → Int) {n i j : Nat} (hi : i < n) (hj : j < n) : (lst (sw f i j) n).Perm (lst f n) := by
  have h1 : i < (lst f n).length := by rw [lst_len]; exact hi
  have h2 : j < (lst f n).length := by rw [lst_len]; exact hj
  have e1 : (lst f n)[i] = f i := by simp [lst]
  have e2 : (lst f n)[j] = f j := by simp [lst]
  have := List.set_set_perm h1 h2
  rw [e1, e2, lst_sw f hi hj] at this
  exact this

/-- in order from a to b -/
def Srt (k : Nat → Int) (a b : Nat) : Prop := ∀ i j, a ≤ i → i ≤ j → j < b → k i ≤ k j
/-- only what is from a to b has changed places -/
structure Wn (a b n : Nat) (f f' : Nat → Int) : Prop where
  out : ∀ i, i < a ∨ b ≤ i → f' i = f i
  ins : ∀ i, a ≤ i → i < b → ∃ j, a ≤ j ∧ j < b ∧ f' i = f j
  perm : (lst f' n).Perm (lst f n)
theorem Wn.refl (a b n : Nat) (f : Nat → Int) : Wn a b n f f := ⟨fun _ _ => rfl, fun i h1 h2 => ⟨i, h1, h2, rfl⟩, List.Perm.refl _⟩
theorem Wn.trans {a b n : Nat} {f g h : Nat → Int} (h1 : Wn a b n f g) (h2 : Wn a b n g h) : Wn a b n f h :=
  ⟨fun i hi => (h2.out i hi).trans (h1.out i hi), fun i ha hb => by
    obtain ⟨j, ja, jb, e⟩ := h2.ins i ha hb
    obtain ⟨l, la, lb, e2⟩ := h1.ins j ja jb
    exact ⟨l, la, lb, e.trans e2⟩, h2.perm.trans h1.perm⟩
theorem Wn.mono {a b a' b' n : Nat} {f g : Nat → Int} (h : Wn a b n f g) (ha : a' ≤ a) (hb : b ≤ b') : Wn a' b' n f g :=
  ⟨fun i hi => h.out i (by omega), fun i h1 h2 => by
    by_cases hc : i < a ∨ b ≤ i
    · exact ⟨i, h1, h2, h.out i hc⟩
    · obtain ⟨j, ja, jb, e⟩ := h.ins i (by omega) (by omega)
      exact ⟨j, by omega, by omega, e⟩, h.perm⟩
theorem Wn.sw {a b n : Nat} (f : Nat → Int) {i j : Nat} (hi : a ≤ i ∧ i < b) (hj : a ≤ j ∧ j < b) (hb : b ≤ n) : Wn a b n f (sw f i j) :=
  ⟨fun x hx => by unfold sortnum.sw; rw [if_neg (by omega), if_neg (by omega)], fun x h1 h2 => by
    unfold sortnum.sw
    split
    · exact ⟨j, hj.1, hj.2, rfl⟩
    · split
      · exact ⟨i, hi.1, hi.2, rfl⟩
      · exact ⟨x, h1, h2, rfl⟩, perm_sw f (by omega) (by omega)⟩
/-- what holds of all holds of all still -/
theorem Wn.all {a b n : Nat} {f g : Nat → Int} (h : Wn a b n f g) {P : Int → Prop} (hp : ∀ i, i < n → P (f i)) (hb : b ≤ n) : ∀ i, i < n → P (g i) := fun i hi => by
  by_cases hc : i < a ∨ b ≤ i
  · rw [h.out i hc]; exact hp i hi
  · obtain ⟨j, ja, jb, e⟩ := h.ins i (by omega) (by omega)
    rw [e]; exact hp j (by omega)

/-- two rows of k change places -/
def swr (f : Nat → Int) (a b k : Nat) : Nat → Int := fun x => if a ≤ x ∧ x < a + k then f (b + (x - a)) else if b ≤ x ∧ x < b + k then f (a + (x - b)) else f x
theorem swr_zero (f : Nat → Int) (a b : Nat) : swr f a b 0 = f := by
  funext x; unfold swr; rw [if_neg (by omega), if_neg (by omega)]
theorem swr_step (f : Nat → Int) {a b k : Nat} (h : a + k < b) : sw (swr f a b k) (a + k) (b + k) = swr f a b (k + 1) := by
  funext x
  simp only [sw, swr]
  (repeat' split) <;> first | rfl | (congr 1; omega) | omega
/-- the i from s on, and the j behind them, change places -/
def exch (f : Nat → Int) (s i j : Nat) : Nat → Int := fun x => if s ≤ x ∧ x < s + j then f (x + i) else if s + j ≤ x ∧ x < s + j + i then f (x - j) else f x
theorem exch_same (f : Nat → Int) (s i : Nat) : swr f s (s + i) i = exch f s i i := by
  funext x
  simp only [swr, exch]
  (repeat' split) <;> first | rfl | (congr 1; omega) | omega
theorem exch_left (f : Nat → Int) {s i j : Nat} (h : j < i) : exch (swr f s (s + i) j) (s + j) (i - j) j = exch f s i j := by
  funext x
  simp only [swr, exch]
  (repeat' split) <;> first | (congr 1; omega) | omega
theorem exch_right (f : Nat → Int) {s i j : Nat} (h : i < j) : exch (swr f s (s + j) i) s i (j - i) = exch f s i j := by
  funext x
  simp only [swr, exch]
  (repeat' split) <;> first | (congr 1; omega) | omega
/-! one comes into its place -/
/-- in order but for what stands at j -/
def Sx (k : Nat → Int) (a i j : Nat) : Prop := ∀ p r, a ≤ p → p < r → r ≤ i → r ≠ j → k p ≤ k r
theorem Sx.start {k : Nat → Int} {a i : Nat} (h : Srt k a i) : Sx k a i i := fun p r hp hpr hr hne => h p r hp (by omega) (by omega)
theorem Sx.step {key : Int → Int} {f : Nat → Int} {a i j : Nat} (h : Sx (fun x => key (f x)) a i j) (haj : a < j) (hji : j ≤ i) (hlt : key (f j) < key (f (j - 1))) : Sx (fun x => key (sw f j (j - 1) x)) a i (j - 1) := by
  intro p r hp hpr hr hne
  have hs : ∀ x, sw f j (j - 1) x = if x = j then f (j - 1) else if x = j - 1 then f j else f x := fun x => rfl
  simp only [hs]
  by_cases e1 : r = j
  · subst e1
    rw [if_neg (by omega), if_pos rfl]
    by_cases e2 : p = r - 1
    · rw [if_pos e2]; omega
    · rw [if_neg e2]
      exact h p (r - 1) hp (by omega) (by omega) (by omega)
  · rw [if_neg e1, if_neg hne]
    by_cases e2 : p = j
    · rw [if_pos e2]
      exact h (j - 1) r (by omega) (by omega) hr e1
    · rw [if_neg e2]
      by_cases e3 : p = j - 1
      · rw [if_pos e3]
        exact h j r (by omega) (by omega) hr e1
      · rw [if_neg e3]
        exact h p r hp hpr hr e1
theorem Sx.done {k : Nat → Int} {a i j : Nat} (h : Sx k a i j) (hj : j = a ∨ (a < j ∧ k (j - 1) ≤ k j)) : Srt k a (i + 1) := by
  intro p r hp hpr hr
  by_cases e : p = r
  · subst e; exact Int.le_refl _
  · by_cases e2 : r = j
    · subst e2
      rcases hj with hj | hj
      · omega
      · by_cases e3 : p = r - 1
        · subst e3; exact hj.2
        · exact Int.le_trans (h p (r - 1) hp (by omega) (by omega) (by omega)) hj.2
    · exact h p r hp (by omega) (by omega) e2
end Go.Proofs.YtcmeoappddpmcaaDoor.sortnum
/-
  slices.SortStableFunc of symbols: swapRange, rotate. My own text.
-/
namespace Go.Proofs.YtcmeoappddpmcaaDoor.sortp
open Go.RowKit Go.Proofs.YtcmeoappddpmcaaDoor.base Go.Proofs.YtcmeoappddpmcaaDoor.sortnum
set_option linter.unusedVariables false

/-- a block whose first n cells are f -/
abbrev DAt (W : World) (g n : Nat) (R : List Value) (f : Nat → Int) : Prop := Bk W g 3 ((lst f n).map iv ++ R)
theorem DAt.at_ {W : World} {g n : Nat} {R : List Value} {f : Nat → Int} (h : DAt W g n R f) {i : Nat} (hi : i < n) : W.cell? ⟨g, i, none⟩ = some (.int .i64 (f i)) := by
  refine h.cell ?_
  rw [List.getElem?_append_left (by rw [List.length_map, lst_len]; exact hi), List.getElem?_map, lst_get f hi]
  rfl
theorem DAt.swap {W : World} {g n : Nat} {R : List Value} {f : Nat → Int} (h : DAt W g n R f) {i j : Nat} (hi : i < n) (hj : j < n) : DAt ((W.setCell ⟨g, i, none⟩ (.int .i64 (f j))).setCell ⟨g, j, none⟩ (.int .i64 (f i))) g n R (sw f i j) := by
  have h2 := (h.put i (.int .i64 (f j))).put j (.int .i64 (f i))
  have e : (((lst f n).map iv ++ R).set i (.int .i64 (f j))).set j (.int .i64 (f i)) = (lst (sw f i j) n).map iv ++ R := by
    rw [List.set_append_left _ _ (by rw [List.length_map, lst_len]; exact hi), List.set_append_left _ _ (by rw [List.length_set, List.length_map, lst_len]; exact hj), ← lst_sw f hi hj, List.map_set, List.map_set]
  rw [e] at h2
  exact h2
theorem But.two {g i j : Nat} (w : World) (u v : Value) : But g w ((w.setCell ⟨g, i, none⟩ u).setCell ⟨g, j, none⟩ v) := (But.put w u).trans (But.put _ v)

set_option maxHeartbeats 4000000 in
theorem swap_any (g n c a b k q : Nat) (R : List Value) (f : Nat → Int) (w : World) (h : DAt w g n R f) (hab : a + k ≤ b) (hb : b + k ≤ n) (hn : n ≤ 1000) :
    Calls Tryd.prog 69 #[.slice (some ⟨g, 0, none⟩) n c, .int .i64 a, .int .i64 b, .int .i64 k, kv q] w fun e w' => e = .returned (.tuple #[]) ∧ DAt w' g n R (swr f a b k) ∧ But g w w' := by
  go_enter Tryd.func69, Tryd.ntmps69
  go_wp2
  go_loopw [10] (fun t wr => ∃ j : Nat, t = .int .i64 j ∧ j ≤ k ∧ DAt wr g n R (swr f a b j) ∧ But g w wr) (fun t _ => k - (intOf t).toNat)
  case atStart => exact ⟨0, rfl, by omega, by rw [swr_zero]; exact h, But.refl _ _⟩
  case round =>
    obtain ⟨j, rfl, hj, hD, hB⟩ := hrel
    by_cases hlt : j < k
    · obtain ⟨x, hx⟩ : ∃ x, a + j = x := ⟨_, rfl⟩
      obtain ⟨y, hy⟩ : ∃ y, b + j = y := ⟨_, rfl⟩
      have hD2 := hD.fresh (Fresh.drew wr)
      have cx := hD.at_ (i := x) (by omega)
      have cy := hD.at_ (i := y) (by omega)
      have fx := hD.free x
      have fy := hD.free y
      have hs := (hD.swap (i := x) (j := y) (by omega) (by omega))
      have hst := swr_step f (a := a) (b := b) (k := j) (by omega)
      rw [hx, hy] at hst
      rw [hst] at hs
      obtain ⟨u, hu⟩ : ∃ u, swr f a b j x = u := ⟨_, rfl⟩
      obtain ⟨v, hv⟩ : ∃ v, swr f a b j y = v := ⟨_, rfl⟩
      rw [hu] at cx hs
      rw [hv] at cy hs
      have ex : IntKind.i64.wrap ((a : Int) + (j : Int)) = (x : Int) := by rw [IntWalk.i64_in _ (by omega)]; omega
      have ey : IntKind.i64.wrap ((b : Int) + (j : Int)) = (y : Int) := by rw [IntWalk.i64_in _ (by omega)]; omega
      have x0 : (0 : Int) ≤ (x : Int) := by omega
      have y0 : (0 : Int) ≤ (y : Int) := by omega
      have x1 : (x : Int) < (n : Int) := by omega
      have y1 : (y : Int) < (n : Int) := by omega
      have hne : (x = y) = False := by simp; omega
      have hne2 : (y = x) = False := by simp; omega
      have HS := Lib.hid hs
      have HB := Lib.hid hB
      have HXY := Lib.hid (And.intro hx hy)
      clear hD hD2 hst hs hu hv hB hx hy h
      go_wp2
      go_region
      have hD3 := HS.out.fresh (Fresh.drew _)
      have hB3 := (HB.out.trans (But.two (g := g) (i := x) (j := y) wr (.int .i64 v) (.int .i64 u))).trans (But.of_fresh (Fresh.drew _))
      have HD3 := Lib.hid hD3
      have HB3 := Lib.hid hB3
      clear hD3 hB3 cx cy fx fy
      generalize ((wr.setCell ⟨g, x, none⟩ (.int .i64 v)).setCell ⟨g, y, none⟩ (.int .i64 u)).drew = V at *
      go_wp2
      go_roundw
      case rel => exact ⟨j + 1, by go_num, by omega, HD3.out, HB3.out⟩
      case measure => simp [intOf]; omega
    · go_wp2
      go_end0
      obtain rfl : j = k := by omega
      exact ⟨rfl, hD, hB⟩
set_option maxHeartbeats 8000000 in
theorem rotate_any (g n c a m b q : Nat) (R : List Value) (f : Nat → Int) (w : World) (h : DAt w g n R f) (ham : a < m) (hmb : m < b) (hb : b ≤ n) (hn : n ≤ 1000) :
    Calls Tryd.prog 68 #[.slice (some ⟨g, 0, none⟩) n c, .int .i64 a, .int .i64 m, .int .i64 b, kv q] w fun e w' => e = .returned (.tuple #[]) ∧ DAt w' g n R (exch f a (m - a) (b - m)) ∧ But g w w' := by
  obtain ⟨T, hT⟩ : ∃ T, exch f a (m - a) (b - m) = T := ⟨_, rfl⟩
  rw [hT]
  obtain ⟨i0, hi0⟩ : ∃ i0, m - a = i0 := ⟨_, rfl⟩
  obtain ⟨j0, hj0⟩ : ∃ j0, b - m = j0 := ⟨_, rfl⟩
  rw [hi0, hj0] at hT
  have ei : (m : Int) - (a : Int) = (i0 : Int) := by omega
  have ej : (b : Int) - (m : Int) = (j0 : Int) := by omega
  have ei' : IntKind.i64.wrap ((m : Int) - (a : Int)) = (i0 : Int) := by rw [IntWalk.i64_in _ (by omega)]; omega
  have ej' : IntKind.i64.wrap ((b : Int) - (m : Int)) = (j0 : Int) := by rw [IntWalk.i64_in _ (by omega)]; omega
  go_enter Tryd.func68, Tryd.ntmps68
  go_wp2
  go_loopw [10, 11] (fun vi vj wr => ∃ (i j : Nat) (F : Nat → Int), vi = .int .i64 i ∧ vj = .int .i64 j ∧ 1 ≤ i ∧ 1 ≤ j ∧ i ≤ m ∧ m + j ≤ n ∧ DAt wr g n R F ∧ Hid (exch F (m - i) i j = T) ∧ But g w wr) (fun vi vj _ => (intOf vi + intOf vj).toNat)
  case atStart => exact ⟨i0, j0, f, rfl, rfl, by omega, by omega, by omega, by omega, h, by show _ = _; rw [← hT]; congr 1; omega, But.refl _ _⟩
  case round =>
    obtain ⟨i, j, F, rfl, rfl, hi1, hj1, him, hjn, hD, hE, hB⟩ := hrel
    clear ei ej ei' ej' hT hi0 hj0 h
    obtain ⟨x, hx⟩ : ∃ x, m - i = x := ⟨_, rfl⟩
    have ex : (m : Int) - (i : Int) = (x : Int) := by omega
    rw [hx] at hE
    by_cases hij : i = j
    · subst hij
      have hsw := swap_any g n c x m i q R F wr hD (by omega) (by omega) hn
      have es : swr F x m i = T := by
        have := exch_same F x i
        rw [show x + i = m by omega] at this
        rw [this]
        exact hE.out
      rw [es] at hsw
      have HSW := Lib.hid hsw
      have HB := Lib.hid hB
      clear hsw es hD hB hx
      go_wp2_with (go_at_call 69; (refine HSW.out.mono ?_); rintro e w1 ⟨rfl, hD1, hB1⟩)
      go_end0
      exact ⟨rfl, hD1, HB.out.trans hB1⟩
    · by_cases hlt : j < i
      · obtain ⟨z, hz⟩ : ∃ z, i - j = z := ⟨_, rfl⟩
        have ez : (i : Int) - (j : Int) = (z : Int) := by omega
        have hsw := swap_any g n c x m j q R F wr hD (by omega) (by omega) hn
        have es : exch (swr F x m j) (m - z) z j = T := by
          have := exch_left F (s := x) (i := i) (j := j) hlt
          rw [show x + i = m by omega, hz, show x + j = m - z by omega] at this
          rw [this]
          exact hE.out
        have HES := Lib.hid es
        have HSW := Lib.hid hsw
        have HB := Lib.hid hB
        have tn : ((i : Int) != (j : Int)) = true := by rw [bne_iff_ne]; omega
        clear hsw es hD hB
        go_wp2_with (go_at_call 69; (refine HSW.out.mono ?_); rintro e w1 ⟨rfl, hD1, hB1⟩)
        go_roundw
        case rel => exact ⟨z, j, _, by go_num, rfl, by omega, hj1, by omega, hjn, hD1, HES.out, HB.out.trans hB1⟩
        case measure => simp [intOf]; omega
      · obtain ⟨z, hz⟩ : ∃ z, j - i = z := ⟨_, rfl⟩
        obtain ⟨y, hy⟩ : ∃ y, m + j - i = y := ⟨_, rfl⟩
        have ez : (j : Int) - (i : Int) = (z : Int) := by omega
        have ey : (m : Int) + (j : Int) - (i : Int) = (y : Int) := by omega
        have hsw := swap_any g n c x y i q R F wr hD (by omega) (by omega) hn
        have es : exch (swr F x y i) (m - i) i z = T := by
          have := exch_right F (s := x) (i := i) (j := j) (by omega)
          rw [show x + j = y by omega, hz] at this
          rw [hx, this]
          exact hE.out
        have HES := Lib.hid es
        have HSW := Lib.hid hsw
        have HB := Lib.hid hB
        have tn : ((i : Int) != (j : Int)) = true := by rw [bne_iff_ne]; omega
        clear hsw es hD hB
        go_wp2_with (go_at_call 69; (refine HSW.out.mono ?_); rintro e w1 ⟨rfl, hD1, hB1⟩)
        go_roundw
        case rel => exact ⟨i, z, _, rfl, by go_num, hi1, by omega, him, by omega, hD1, HES.out, HB.out.trans hB1⟩
        case measure => simp [intOf]; omega
end Go.Proofs.YtcmeoappddpmcaaDoor.sortp
/-
  slices.SortStableFunc of symbols: insertionSort. My own text.
-/
namespace Go.Proofs.YtcmeoappddpmcaaDoor.sortp
open Go.RowKit Go.Proofs.YtcmeoappddpmcaaDoor.base Go.Proofs.YtcmeoappddpmcaaDoor.sortnum
set_option linter.unusedVariables false

/-- by how often they come -/
abbrev kf (cs : List Int) (f : Nat → Int) : Nat → Int := fun x => key cs (f x)
theorem Cnt.but {W W' : World} {q B g : Nat} {cs : List Int} (h : Cnt W q B cs) (hB : B ≤ g) (hg : g < W.heap.size) (hb : But g W W') : Cnt W' q B cs :=
  h.keep fun k hk => hb.block k (by omega) (by simp; omega)
theorem Cnt.drewN {W : World} {q B : Nat} {cs : List Int} (h : Cnt W q B cs) (m : Nat) : Cnt (W.drewN m) q B cs := h.keep fun k hk => rfl
/-- what the closure answers in a region that only reads -/
theorem cmp_quiet {W : World} {q B m : Nat} {cs : List Int} {x y : Int} (h : Cnt W q B cs) (hx : ok cs x) (hy : ok cs y) :
    Calls Tryd.prog 51 #[.int .i64 x, .int .i64 y, .pointer (some ⟨q, 0, none⟩)] (W.drewN m) fun e w' => e = .returned (.int .i64 (cmp3 (key cs x) (key cs y))) ∧ ∃ m', w' = W.drewN m' :=
  Calls.quiet_of (cmp_any q B cs x y _ (h.drewN m) hx hy)

set_option maxHeartbeats 8000000 in
theorem insertion_any (g n c a b q B : Nat) (R : List Value) (cs : List Int) (f : Nat → Int) (w : World) (h : DAt w g n R f) (hab : a ≤ b) (hb : b ≤ n) (hn : n ≤ 1000) (hC : Cnt w q B cs) (hBg : B ≤ g) (hok : ∀ i, i < n → ok cs (f i)) :
    Calls Tryd.prog 66 #[.slice (some ⟨g, 0, none⟩) n c, .int .i64 a, .int .i64 b, kv q] w fun e w' => e = .returned (.tuple #[]) ∧ ∃ f', DAt w' g n R f' ∧ Wn a b n f f' ∧ Srt (kf cs f') a b ∧ But g w w' := by
  have hgw := h.inside
  have HC := Lib.hid hC
  have HOK := Lib.hid hok
  clear hC hok
  go_enter Tryd.func66, Tryd.ntmps66
  go_wp2
  go_loopw [8] (fun t wr => ∃ (i : Nat) (F : Nat → Int), t = .int .i64 i ∧ a + 1 ≤ i ∧ (i ≤ b ∨ i = a + 1) ∧ DAt wr g n R F ∧ Hid (Wn a b n f F) ∧ Hid (Srt (kf cs F) a i) ∧ But g w wr) (fun t _ => b - (intOf t).toNat)
  case atStart => exact ⟨a + 1, f, by go_num, by omega, by omega, h, Wn.refl _ _ _ _, fun p r hp hpr hr => by rw [show p = r by omega]; exact Int.le_refl _, But.refl _ _⟩
  case round =>
    obtain ⟨i, F, rfl, hi1, hi2, hD, hW, hS, hB⟩ := hrel
    by_cases hlt : i < b
    · clear h hi2
      go_wp2
      go_loopw [9] (fun t wx => ∃ (j : Nat) (G : Nat → Int), t = .int .i64 j ∧ a ≤ j ∧ j ≤ i ∧ DAt wx g n R G ∧ Hid (Wn a b n f G) ∧ Hid (Sx (kf cs G) a i j) ∧ But g w wx) (fun t _ => (intOf t).toNat)
      case atStart => exact ⟨i, F, rfl, by omega, by omega, hD, hW, Sx.start hS.out, hB⟩
      case round =>
        obtain ⟨j, G, rfl, hj1, hj2, hD2, hW2, hX2, hB2⟩ := hrel
        clear hD hW hS hB
        by_cases haj : a < j
        · obtain ⟨p, hp⟩ : ∃ p, j - 1 = p := ⟨_, rfl⟩
          have ep : IntKind.i64.wrap ((j : Int) - 1) = (p : Int) := by rw [IntWalk.i64_in _ (by omega)]; omega
          have cx := hD2.at_ (i := j) (by omega)
          have cy := hD2.at_ (i := p) (by omega)
          have fx := hD2.free j
          have fy := hD2.free p
          have hs := (hD2.swap (i := j) (j := p) (by omega) (by omega))
          have hallok := hW2.out.all (P := ok cs) HOK.out hb
          have hCx := HC.out.but hBg hgw hB2
          have hx := hallok j (by omega)
          have hy := hallok p (by omega)
          obtain ⟨u, hu⟩ : ∃ u, G j = u := ⟨_, rfl⟩
          obtain ⟨v, hv⟩ : ∃ v, G p = v := ⟨_, rfl⟩
          rw [hu] at cx hs hx
          rw [hv] at cy hs hy
          have hcmp := fun m => cmp_quiet (m := m) hCx hx hy
          have x0 : (0 : Int) ≤ (j : Int) := by omega
          have y0 : (0 : Int) ≤ (p : Int) := by omega
          have x1 : (j : Int) < (n : Int) := by omega
          have y1 : (p : Int) < (n : Int) := by omega
          have ta : decide ((a : Int) < (j : Int)) = true := by rw [decide_eq_true_iff]; omega
          have hne : (j = p) = False := by simp; omega
          have hne2 : (p = j) = False := by simp; omega
          have HS := Lib.hid hs
          have HB2 := Lib.hid hB2
          have HU := Lib.hid (And.intro hu hv)
          have HP := Lib.hid hp
          have HCMP := Lib.hid hcmp
          obtain ⟨r, hr⟩ : ∃ r, cmp3 (key cs u) (key cs v) = r := ⟨_, rfl⟩
          have hlt3 := cmp3_lt (key cs u) (key cs v)
          rw [hr] at hlt3 hcmp
          have HCMP2 := Lib.hid hcmp
          by_cases hk : key cs u < key cs v
          · have tr : decide (r < 0) = true := by rw [hlt3]; exact decide_eq_true hk
            have hX3 := Sx.step (key := key cs) (f := G) hX2.out haj hj2 (by rw [hp, hu, hv]; exact hk)
            rw [hp] at hX3
            have hW3 := hW2.out.trans (Wn.sw G (i := j) (j := p) (a := a) (b := b) ⟨by omega, by omega⟩ ⟨by omega, by omega⟩ hb)
            have HX3 := Lib.hid hX3
            have HW3 := Lib.hid hW3
            have HD2 := Lib.hid hD2
            clear hD2 hs hallok hCx hx hy hu hv hcmp hB2 hp hr hlt3 hk hX3 hW3 HCMP hX2 hW2 HS
            go_wp2
            go_quiet (with_reducible exact HCMP2.out _)
            have hs := DAt.swap (HD2.out.fresh (Fresh.drewN wr nq)) (i := j) (j := p) (by omega) (by have := HP.out; omega)
            have cx' : (wr.drewN nq).cell? ⟨g, j, none⟩ = some (.int .i64 u) := cx
            have cy' : (wr.drewN nq).cell? ⟨g, p, none⟩ = some (.int .i64 v) := cy
            have fx' : (wr.drewN nq).frozen? ⟨g, j, none⟩ = false := fx
            have fy' : (wr.drewN nq).frozen? ⟨g, p, none⟩ = false := fy
            rw [HU.out.1, HU.out.2] at hs
            have hb3 := HB2.out.trans (But.drewN wr nq)
            have HS := Lib.hid hs
            have HB3 := Lib.hid hb3
            clear hs hb3 cx cy fx fy HD2
            generalize wr.drewN nq = W2 at *
            go_wp2
            go_region
            have hD3 := HS.out.fresh (Fresh.drew _)
            have hB4 := (HB3.out.trans (But.two (g := g) (i := j) (j := p) W2 (.int .i64 v) (.int .i64 u))).trans (But.of_fresh (Fresh.drew _))
            have HD3 := Lib.hid hD3
            have HB4 := Lib.hid hB4
            clear hD3 hB4 cx' cy' fx' fy' HS HB3
            generalize ((W2.setCell ⟨g, j, none⟩ (.int .i64 v)).setCell ⟨g, p, none⟩ (.int .i64 u)).drew = V at *
            go_wp2
            go_roundw
            case rel => exact ⟨p, _, by first | rfl | go_num, by have := HP.out; omega, by have := HP.out; omega, HD3.out, HW3.out, HX3.out, HB4.out⟩
            case measure => simp [intOf]; have := HP.out; omega
          · have tr : decide (r < 0) = false := by rw [hlt3]; exact decide_eq_false hk
            have hS3 := Sx.done hX2.out (Or.inr ⟨haj, by rw [hp]; show key cs (G p) ≤ key cs (G j); rw [hu, hv]; omega⟩)
            have HD2 := Lib.hid hD2
            have HS3 := Lib.hid hS3
            clear hD2 hs hallok hCx hx hy hu hv hcmp hB2 hp hr hlt3 hk HCMP hX2 HS hS3
            go_wp2
            go_quiet (with_reducible exact HCMP2.out _)
            have hd3 := HD2.out.fresh (Fresh.drewN wr nq)
            have hb3 := HB2.out.trans (But.drewN wr nq)
            clear cx cy fx fy HD2
            generalize wr.drewN nq = W2 at *
            go_wp2
            go_roundw
            case rel => exact ⟨i + 1, G, by go_num, by omega, by omega, hd3, hW2, HS3.out, hb3⟩
            case measure => simp [intOf]; omega
        · obtain rfl : j = a := by omega
          have ta : decide ((j : Int) < (j : Int)) = false := by simp
          have hS3 := Sx.done hX2.out (Or.inl rfl)
          have HS3 := Lib.hid hS3
          clear hX2 hS3
          go_wp2
          go_quiet (fail)
          have hd3 := hD2.fresh (Fresh.drewN wr nq)
          have hb3 := hB2.trans (But.drewN wr nq)
          clear hD2 hB2
          generalize wr.drewN nq = W2 at *
          go_wp2
          go_roundw
          case rel => exact ⟨i + 1, G, by go_num, by omega, by omega, hd3, hW2, HS3.out, hb3⟩
          case measure => simp [intOf]; omega
    · go_wp2
      go_end0
      refine ⟨rfl, F, hD, hW.out, ?_, hB⟩
      intro p r hp hpr hr
      exact hS.out p r hp hpr (by omega)
end Go.Proofs.YtcmeoappddpmcaaDoor.sortp
/-
  SymMerge: plain mathematics, over no program. My own text.
-/
namespace Go.Proofs.YtcmeoappddpmcaaDoor.sortnum
set_option linter.unusedVariables false

theorem Wn.swr {a b k lo hi n : Nat} (f : Nat → Int) (h0 : lo ≤ a) (h1 : a + k ≤ b) (h2 : b + k ≤ hi) (h3 : hi ≤ n) : Wn lo hi n f (swr f a b k) := by
  induction k with
  | zero => rw [swr_zero]; exact Wn.refl _ _ _ _
  | succ k ih =>
    rw [← swr_step f (by omega)]
    exact (ih (by omega) (by omega)).trans (Wn.sw _ ⟨by omega, by omega⟩ ⟨by omega, by omega⟩ h3)
theorem exch_none (f : Nat → Int) (s i j : Nat) (h : i = 0 ∨ j = 0) : exch f s i j = f := by
  funext x
  simp only [exch]
  (repeat' split) <;> first | rfl | (congr 1; omega) | omega
theorem Wn.exch {lo hi n : Nat} (h3 : hi ≤ n) : ∀ (N : Nat) (f : Nat → Int) (s i j : Nat), i + j ≤ N → lo ≤ s → s + i + j ≤ hi → Wn lo hi n f (exch f s i j)
  | 0, f, s, i, j, h, _, _ => by rw [exch_none f s i j (by omega)]; exact Wn.refl _ _ _ _
  | N + 1, f, s, i, j, h, h0, h1 => by
    by_cases hz : i = 0 ∨ j = 0
    · rw [exch_none f s i j hz]; exact Wn.refl _ _ _ _
    · by_cases he : i = j
      · subst he
        rw [← exch_same]
        exact Wn.swr f h0 (Nat.le_refl _) (by omega) h3
      · by_cases hl : j < i
        · rw [← exch_left f hl]
          exact (Wn.swr f h0 (by omega) (by omega) h3).trans (Wn.exch h3 N _ _ _ _ (by omega) (by omega) (by omega))
        · rw [← exch_right f (by omega)]
          exact (Wn.swr f h0 (by omega) (by omega) h3).trans (Wn.exch h3 N _ _ _ _ (by omega) (by omega) (by omega))

/-- what stood at a now stands at k, those between one place ahead -/
def mvr (f : Nat → Int) (a k : Nat) : Nat → Int := fun x => if a ≤ x ∧ x < k then f (x + 1) else if x = k then f a else f x
theorem mvr_start (f : Nat → Int) (a : Nat) : mvr f a a = f := by
  funext x; simp only [mvr]; (repeat' split) <;> first | rfl | (subst_vars; rfl) | omega
theorem mvr_step (f : Nat → Int) {a k : Nat} (h : a ≤ k) : sw (mvr f a k) k (k + 1) = mvr f a (k + 1) := by
  funext x
  have hm : ∀ k x, mvr f a k x = if a ≤ x ∧ x < k then f (x + 1) else if x = k then f a else f x := fun k x => rfl
  have hs : sw (mvr f a k) k (k + 1) x = if x = k then mvr f a k (k + 1) else if x = k + 1 then mvr f a k k else mvr f a k x := rfl
  rw [hs]
  by_cases e1 : x = k
  · rw [if_pos e1, hm, if_neg (by omega), if_neg (by omega), hm, if_pos (by omega), e1]
  · rw [if_neg e1]
    by_cases e2 : x = k + 1
    · rw [if_pos e2, hm, if_neg (by omega), if_pos rfl, hm, if_neg (by omega), if_pos e2]
    · rw [if_neg e2, hm, hm]
      by_cases e3 : a ≤ x ∧ x < k
      · rw [if_pos e3, if_pos (by omega)]
      · rw [if_neg e3, if_neg e1, if_neg (by omega), if_neg e2]
/-- what stood at m now stands at k, those between one place behind -/
def mvl (f : Nat → Int) (m k : Nat) : Nat → Int := fun x => if k < x ∧ x ≤ m then f (x - 1) else if x = k then f m else f x
theorem mvl_start (f : Nat → Int) (m : Nat) : mvl f m m = f := by
  funext x; simp only [mvl]; (repeat' split) <;> first | rfl | (subst_vars; rfl) | omega
theorem mvl_step (f : Nat → Int) {m k : Nat} (h : k < m) : sw (mvl f m (k + 1)) (k + 1) k = mvl f m k := by
  funext x
  have hm : ∀ k x, mvl f m k x = if k < x ∧ x ≤ m then f (x - 1) else if x = k then f m else f x := fun k x => rfl
  have hs : sw (mvl f m (k + 1)) (k + 1) k x = if x = k + 1 then mvl f m (k + 1) k else if x = k then mvl f m (k + 1) (k + 1) else mvl f m (k + 1) x := rfl
  rw [hs]
  by_cases e1 : x = k + 1
  · rw [if_pos e1, hm, if_neg (by omega), if_neg (by omega), hm, if_pos (by omega), e1]
    rfl
  · rw [if_neg e1]
    by_cases e2 : x = k
    · rw [if_pos e2, hm, if_neg (by omega), if_pos rfl, hm, if_neg (by omega), if_pos e2]
    · rw [if_neg e2, hm, hm]
      by_cases e3 : k + 1 < x ∧ x ≤ m
      · rw [if_pos e3, if_pos (by omega)]
      · rw [if_neg e3, if_neg e1, if_neg (by omega), if_neg e2]
theorem mvr_srt {key : Int → Int} {f : Nat → Int} {a b i : Nat} (hs : Srt (fun x => key (f x)) (a + 1) b) (h1 : a + 1 ≤ i) (h2 : i ≤ b) (hlo : ∀ x, a + 1 ≤ x → x < i → key (f x) < key (f a)) (hhi : ∀ x, i ≤ x → x < b → key (f a) ≤ key (f x)) :
    Srt (fun x => key (mvr f a (i - 1) x)) a b := by
  intro p r hp hpr hr
  have hm : ∀ x, mvr f a (i - 1) x = if a ≤ x ∧ x < i - 1 then f (x + 1) else if x = i - 1 then f a else f x := fun x => rfl
  simp only [hm]
  by_cases p1 : p < i - 1
  · rw [if_pos ⟨hp, p1⟩]
    by_cases r1 : r < i - 1
    · rw [if_pos ⟨by omega, r1⟩]
      exact hs (p + 1) (r + 1) (by omega) (by omega) (by omega)
    · rw [if_neg (by omega)]
      by_cases r2 : r = i - 1
      · rw [if_pos r2]
        have := hlo (p + 1) (by omega) (by omega)
        omega
      · rw [if_neg r2]
        exact hs (p + 1) r (by omega) (by omega) hr
  · rw [if_neg (by omega)]
    by_cases p2 : p = i - 1
    · rw [if_pos p2, if_neg (by omega)]
      by_cases r2 : r = i - 1
      · rw [if_pos r2]; exact Int.le_refl _
      · rw [if_neg r2]
        exact hhi r (by omega) hr
    · rw [if_neg p2, if_neg (by omega), if_neg (by omega)]
      exact hs p r (by omega) hpr hr
theorem mvl_srt {key : Int → Int} {f : Nat → Int} {a m i : Nat} (hs : Srt (fun x => key (f x)) a m) (h1 : a ≤ i) (h2 : i ≤ m) (hlo : ∀ x, a ≤ x → x < i → key (f x) ≤ key (f m)) (hhi : ∀ x, i ≤ x → x < m → key (f m) < key (f x)) :
    Srt (fun x => key (mvl f m i x)) a (m + 1) := by
  intro p r hp hpr hr
  have hm : ∀ x, mvl f m i x = if i < x ∧ x ≤ m then f (x - 1) else if x = i then f m else f x := fun x => rfl
  simp only [hm]
  by_cases p1 : i < p
  · rw [if_pos ⟨p1, by omega⟩, if_pos ⟨by omega, by omega⟩]
    exact hs (p - 1) (r - 1) (by omega) (by omega) (by omega)
  · rw [if_neg (by omega)]
    by_cases p2 : p = i
    · rw [if_pos p2]
      by_cases r1 : i < r
      · rw [if_pos ⟨r1, by omega⟩]
        have := hhi (r - 1) (by omega) (by omega)
        omega
      · rw [if_neg (by omega), if_pos (by omega)]; exact Int.le_refl _
    · rw [if_neg p2]
      by_cases r1 : i < r
      · rw [if_pos ⟨r1, by omega⟩]
        exact hs p (r - 1) hp (by omega) (by omega)
      · rw [if_neg (by omega)]
        by_cases r2 : r = i
        · rw [if_pos r2]; exact hlo p hp (by omega)
        · rw [if_neg r2]; exact hs p r hp hpr (by omega)

/-- a split of two rows in order: where the first one is cut, and the second one -/
structure Cut (k : Nat → Int) (a m b mid s e : Nat) : Prop where
  as_ : a ≤ s
  sm : s ≤ m
  me : m ≤ e
  eb : e ≤ b
  sum : s + e = mid + m
  smid : s ≤ mid
  mide : mid ≤ e
  low : ∀ x y, a ≤ x → x < s → e ≤ y → y < b → k x ≤ k y
  high : ∀ x y, m ≤ x → x < e → s ≤ y → y < m → k x ≤ k y
/-- what a search by halves has found -/
theorem Cut.found {k : Nat → Int} {a m b mid s s0 r0 : Nat} (ha : a < m) (hb : m < b) (hmid : mid = (a + b) / 2) (h1 : Srt k a m) (h2 : Srt k m b)
    (hs0 : s0 = if mid < m then mid + m - b else a) (hr0 : r0 = if mid < m then mid else m) (hs : s0 ≤ s ∧ s ≤ r0)
    (hlo : ∀ x, s0 ≤ x → x < s → k x ≤ k (mid + m - 1 - x)) (hhi : ∀ x, s ≤ x → x < r0 → k (mid + m - 1 - x) < k x) : Cut k a m b mid s (mid + m - s) := by
  have hss : a ≤ s ∧ s ≤ m ∧ s ≤ mid ∧ m ≤ mid + m - s ∧ mid + m - s ≤ b ∧ mid ≤ mid + m - s := by
    split at hs0 <;> rename_i hc
    · rw [if_pos hc] at hr0; omega
    · rw [if_neg hc] at hr0; omega
  refine ⟨hss.1, hss.2.1, hss.2.2.2.1, hss.2.2.2.2.1, by omega, hss.2.2.1, hss.2.2.2.2.2, ?_, ?_⟩
  · intro x y hx1 hx2 hy1 hy2
    by_cases he : s = s0
    · split at hs0 <;> rename_i hc <;> omega
    · have h3 := hlo (s - 1) (by omega) (by omega)
      have e1 : mid + m - 1 - (s - 1) = mid + m - s := by omega
      rw [e1] at h3
      exact Int.le_trans (h1 x (s - 1) hx1 (by omega) (by omega)) (Int.le_trans h3 (h2 (mid + m - s) y (by omega) hy1 hy2))
  · intro x y hx1 hx2 hy1 hy2
    by_cases he : s = r0
    · split at hr0 <;> rename_i hc <;> omega
    · have h3 := hhi s (Nat.le_refl _) (by omega)
      have e1 : mid + m - 1 - s = mid + m - s - 1 := by omega
      rw [e1] at h3
      exact Int.le_trans (h2 x (mid + m - s - 1) hx1 (by omega) (by omega)) (Int.le_trans (Int.le_of_lt h3) (h1 s y (by omega) hy1 hy2))
theorem bds {a m b mid s0 r0 : Nat} (ha : a < m) (hb : m < b) (hmid : mid = (a + b) / 2) (hs0 : s0 = if mid < m then mid + m - b else a) (hr0 : r0 = if mid < m then mid else m) : a ≤ s0 ∧ s0 ≤ r0 ∧ r0 ≤ m ∧ r0 ≤ mid ∧ mid + m - 1 - s0 < b := by
  by_cases hcc : mid < m
  · rw [if_pos hcc] at hs0 hr0; omega
  · rw [if_neg hcc] at hs0 hr0; omega
/-- the search goes on to the right, to the left -/
theorem found_right {k : Nat → Int} {a m b mid s0 r0 c : Nat} (ha : a < m) (hb : m < b) (hmid : mid = (a + b) / 2) (h1 : Srt k a m) (h2 : Srt k m b) (hs0 : s0 = if mid < m then mid + m - b else a) (hr0 : r0 = if mid < m then mid else m)
    (hc : s0 ≤ c ∧ c < r0) (h : k c ≤ k (mid + m - 1 - c)) : ∀ x, s0 ≤ x → x < c + 1 → k x ≤ k (mid + m - 1 - x) := by
  intro x hx1 hx2
  have hb2 := bds ha hb hmid hs0 hr0
  exact Int.le_trans (h1 x c (by omega) (by omega) (by omega)) (Int.le_trans h (h2 _ _ (by omega) (by omega) (by omega)))
theorem found_left {k : Nat → Int} {a m b mid s0 r0 c : Nat} (ha : a < m) (hb : m < b) (hmid : mid = (a + b) / 2) (h1 : Srt k a m) (h2 : Srt k m b) (hs0 : s0 = if mid < m then mid + m - b else a) (hr0 : r0 = if mid < m then mid else m)
    (hc : s0 ≤ c ∧ c < r0) (h : k (mid + m - 1 - c) < k c) : ∀ x, c ≤ x → x < r0 → k (mid + m - 1 - x) < k x := by
  intro x hx1 hx2
  have hb2 := bds ha hb hmid hs0 hr0
  exact Int.lt_of_le_of_lt (h2 _ _ (by omega) (by omega) (by omega)) (Int.lt_of_lt_of_le h (h1 c x (by omega) hx1 (by omega)))
section
variable {key : Int → Int} {f : Nat → Int} {a m b mid s e : Nat}
/-- behind the exchange: each half is two rows in order, and all of the first half is ahead of all of the second -/
theorem Cut.parts (h : Cut (fun x => key (f x)) a m b mid s e) (h1 : Srt (fun x => key (f x)) a m) (h2 : Srt (fun x => key (f x)) m b) :
    Srt (fun x => key (exch f s (m - s) (e - m) x)) a s ∧ Srt (fun x => key (exch f s (m - s) (e - m) x)) s mid ∧ Srt (fun x => key (exch f s (m - s) (e - m) x)) mid e ∧ Srt (fun x => key (exch f s (m - s) (e - m) x)) e b ∧
    ∀ p r, a ≤ p → p < mid → mid ≤ r → r < b → key (exch f s (m - s) (e - m) p) ≤ key (exch f s (m - s) (e - m) r) := by
  obtain ⟨as_, sm, me, eb, sum, smid, mide, low, high⟩ := h
  have g1 : ∀ x, x < s → exch f s (m - s) (e - m) x = f x := fun x hx => by simp only [exch]; rw [if_neg (by omega), if_neg (by omega)]
  have g2 : ∀ x, s ≤ x → x < mid → exch f s (m - s) (e - m) x = f (x + (m - s)) := fun x h1 h2 => by simp only [exch]; rw [if_pos (by omega)]
  have g3 : ∀ x, mid ≤ x → x < e → exch f s (m - s) (e - m) x = f (x - (e - m)) := fun x h1 h2 => by simp only [exch]; rw [if_neg (by omega), if_pos (by omega)]
  have g4 : ∀ x, e ≤ x → exch f s (m - s) (e - m) x = f x := fun x hx => by simp only [exch]; rw [if_neg (by omega), if_neg (by omega)]
  refine ⟨?_, ?_, ?_, ?_, ?_⟩
  · intro p r hp hpr hr
    simp only [g1 p (by omega), g1 r hr]
    exact h1 p r hp hpr (by omega)
  · intro p r hp hpr hr
    simp only [g2 p hp (by omega), g2 r (by omega) hr]
    exact h2 _ _ (by omega) (by omega) (by omega)
  · intro p r hp hpr hr
    simp only [g3 p hp (by omega), g3 r (by omega) hr]
    exact h1 _ _ (by omega) (by omega) (by omega)
  · intro p r hp hpr hr
    simp only [g4 p hp, g4 r (by omega)]
    exact h2 p r (by omega) hpr hr
  · intro p r hp hpm hr hrb
    by_cases p1 : p < s
    · rw [g1 p p1]
      by_cases r1 : r < e
      · rw [g3 r hr r1]; exact h1 _ _ hp (by omega) (by omega)
      · rw [g4 r (by omega)]; exact low p r hp p1 (by omega) hrb
    · rw [g2 p (by omega) hpm]
      by_cases r1 : r < e
      · rw [g3 r hr r1]; exact high _ _ (by omega) (by omega) (by omega) (by omega)
      · rw [g4 r (by omega)]; exact h2 _ _ (by omega) (by omega) hrb
end
/-- two halves in order, the first one ahead of the second -/
theorem srt_join {key : Int → Int} {G F : Nat → Int} {a mid b n : Nat} (ha : a ≤ mid) (hb : mid ≤ b) (hL : ∃ F1, Wn a mid n G F1 ∧ Wn mid b n F1 F) (h1 : Srt (fun x => key (F x)) a mid) (h2 : Srt (fun x => key (F x)) mid b)
    (hc : ∀ p r, a ≤ p → p < mid → mid ≤ r → r < b → key (G p) ≤ key (G r)) : Srt (fun x => key (F x)) a b := by
  obtain ⟨F1, w1, w2⟩ := hL
  intro p r hp hpr hr
  by_cases e1 : r < mid
  · exact h1 p r hp hpr e1
  · by_cases e2 : mid ≤ p
    · exact h2 p r e2 hpr hr
    · obtain ⟨x, x1, x2, ex⟩ := w1.ins p hp (by omega)
      obtain ⟨y, y1, y2, ey⟩ := w2.ins r (by omega) hr
      have e3 : F p = G x := (w2.out p (Or.inl (by omega))).trans ex
      have e4 : F r = G y := ey.trans (w1.out y (Or.inr (by omega)))
      show key (F p) ≤ key (F r)
      rw [e3, e4]
      exact hc x y x1 x2 y1 y2
theorem Srt.same {key : Int → Int} {f g : Nat → Int} {a b : Nat} (h : Srt (fun x => key (f x)) a b) (he : ∀ x, a ≤ x → x < b → g x = f x) : Srt (fun x => key (g x)) a b := fun p r hp hpr hr => by
  show key (g p) ≤ key (g r)
  rw [he p hp (by omega), he r (by omega) hr]
  exact h p r hp hpr hr
end Go.Proofs.YtcmeoappddpmcaaDoor.sortnum
/-
  Blocks in order, merged two and two: plain mathematics, over no program. My own text.
-/
namespace Go.Proofs.YtcmeoappddpmcaaDoor.sortnum
set_option linter.unusedVariables false
theorem Srt.keep {key : Int → Int} {f g : Nat → Int} {a b lo hi n : Nat} (h : Srt (fun x => key (f x)) a b) (w : Wn lo hi n f g) (hd : b ≤ lo ∨ hi ≤ a) : Srt (fun x => key (g x)) a b :=
  Srt.same h fun x h1 h2 => w.out x (by omega)
theorem Srt.cut {k : Nat → Int} {a b a' b' : Nat} (h : Srt k a b) (ha : a ≤ a') (hb : b' ≤ b) : Srt k a' b' := fun i j h1 h2 h3 => h i j (by omega) h2 (by omega)
theorem dvd_gap {x s a : Nat} (hs : x ∣ s) (ha : x ∣ a) (h : s < a) : s + x ≤ a := by
  obtain ⟨u, rfl⟩ := hs
  obtain ⟨v, rfl⟩ := ha
  have hx : 0 < x := by
    rcases Nat.eq_zero_or_pos x with h0 | h0
    · subst h0; simp at h
    · exact h0
  have huv : u < v := Nat.lt_of_mul_lt_mul_left h
  have := Nat.mul_le_mul_left x (show u + 1 ≤ v from huv)
  rw [Nat.mul_add, Nat.mul_one] at this
  exact this
/-- blocks of so many, each in order -/
def Bs (k : Nat → Int) (x n : Nat) : Prop := ∀ a, x ∣ a → Srt k a (min (a + x) n)
/-- the blocks ahead of a are full, each in order -/
def Ahead (k : Nat → Int) (x a : Nat) : Prop := ∀ s, x ∣ s → s < a → Srt k s (s + x)
/-- the blocks from a on are in order -/
def Behind (k : Nat → Int) (x a n : Nat) : Prop := ∀ s, x ∣ s → a ≤ s → Srt k s (min (s + x) n)
theorem Ahead.zero (k : Nat → Int) (x : Nat) : Ahead k x 0 := fun s _ h => absurd h (by omega)
theorem Ahead.step {key : Int → Int} {f g : Nat → Int} {x a n : Nat} (h : Ahead (fun z => key (f z)) x a) (w : Wn a (a + x) n f g) (hs : Srt (fun z => key (g z)) a (a + x)) (ha : x ∣ a) : Ahead (fun z => key (g z)) x (a + x) := by
  intro s hd hlt
  by_cases e : s < a
  · exact (h s hd e).keep w (Or.inl (dvd_gap hd ha e))
  · by_cases e2 : s = a
    · subst e2; exact hs
    · have := dvd_gap ha hd (by omega)
      omega
/-- the last block, which may be short -/
theorem Ahead.last {key : Int → Int} {f g : Nat → Int} {x a n : Nat} (h : Ahead (fun z => key (f z)) x a) (w : Wn a n n f g) (hs : Srt (fun z => key (g z)) a n) (ha : x ∣ a) (hn : n < a + x) (han : a ≤ n) : Bs (fun z => key (g z)) x n := by
  intro s hd
  by_cases e : s < a
  · have h1 := dvd_gap hd ha e
    exact ((h s hd e).keep w (Or.inl h1)).cut (Nat.le_refl _) (Nat.min_le_left _ _)
  · by_cases e2 : s = a
    · subst e2; exact hs.cut (Nat.le_refl _) (Nat.min_le_right _ _)
    · have := dvd_gap ha hd (by omega)
      intro i j h1 h2 h3
      omega
theorem Bs.behind {k : Nat → Int} {x n : Nat} (h : Bs k x n) : Behind k x 0 n := fun s hd _ => h s hd
theorem Behind.keep {key : Int → Int} {f g : Nat → Int} {x a b n : Nat} (h : Behind (fun z => key (f z)) x a n) (w : Wn a b n f g) (hab : a ≤ b) : Behind (fun z => key (g z)) x b n := fun s hd hs => (h s hd (by omega)).keep w (Or.inr hs)
/-- all in one block -/
theorem Bs.whole {k : Nat → Int} {x n : Nat} (h : Bs k x n) (hn : n ≤ x) : Srt k 0 n := (h 0 (Nat.dvd_zero x)).cut (Nat.le_refl _) (by omega)
end Go.Proofs.YtcmeoappddpmcaaDoor.sortnum
/-
  slices.SortStableFunc of symbols: stable, over symMerge's contract. My own text.
-/
namespace Go.Proofs.YtcmeoappddpmcaaDoor.sortp
open Go.RowKit Go.Proofs.YtcmeoappddpmcaaDoor.base Go.Proofs.YtcmeoappddpmcaaDoor.sortnum
set_option linter.unusedVariables false

/-- symMerge's contract -/
def Merges (g n c q B : Nat) (R : List Value) (cs : List Int) : Prop := ∀ (a m b : Nat) (f : Nat → Int) (w : World), DAt w g n R f → a < m → m < b → b ≤ n → n ≤ 1000 → Cnt w q B cs → B ≤ g → (∀ i, i < n → ok cs (f i)) → Srt (kf cs f) a m → Srt (kf cs f) m b →
    Calls Tryd.prog 67 #[.slice (some ⟨g, 0, none⟩) n c, .int .i64 a, .int .i64 m, .int .i64 b, kv q] w fun e w' => e = .returned (.tuple #[]) ∧ ∃ f', DAt w' g n R f' ∧ Wn a b n f f' ∧ Srt (kf cs f') a b ∧ But g w w'

section
variable {g n c q B : Nat} {R : List Value} {cs : List Int}
set_option maxRecDepth 100000 in
set_option maxHeartbeats 16000000 in
theorem stable_any (hM : Merges g n c q B R cs) (f : Nat → Int) (w : World) (h : DAt w g n R f) (hn : n ≤ 1000) (hC : Cnt w q B cs) (hBg : B ≤ g) (hok : ∀ i, i < n → ok cs (f i)) :
    Calls Tryd.prog 61 #[.slice (some ⟨g, 0, none⟩) n c, .int .i64 n, kv q] w fun e w' => e = .returned (.tuple #[]) ∧ ∃ f', DAt w' g n R f' ∧ Wn 0 n n f f' ∧ Srt (kf cs f') 0 n ∧ But g w w' := by
  have hgw := h.inside
  have HC := Lib.hid hC
  have HOK := Lib.hid hok
  have HM := Lib.hid hM
  clear hC hok hM
  go_enter Tryd.func61, Tryd.ntmps61
  go_wp2
  go_loopw [7, 8] (fun va vb wr => ∃ (a b : Nat) (F : Nat → Int), va = .int .i64 a ∧ vb = .int .i64 b ∧ a + 20 ≤ b ∧ b ≤ a + 20 ∧ a ≤ n ∧ Hid (20 ∣ a) ∧ DAt wr g n R F ∧ Hid (Wn 0 n n f F) ∧ Hid (Ahead (kf cs F) 20 a) ∧ But g w wr) (fun _ vb _ => ((n : Int) + 20 - intOf vb).toNat)
  case atStart => exact ⟨0, 20, f, rfl, rfl, by omega, by omega, by omega, ⟨0, rfl⟩, h, Wn.refl _ _ _ _, Ahead.zero _ _, But.refl _ _⟩
  case round =>
    obtain ⟨a, b, F, rfl, rfl, hab1, hab2, han, hdv, hD, hW, hA, hB⟩ := hrel
    clear h
    by_cases hbn : b ≤ n
    · have hins := insertion_any g n c a b q B R cs F wr hD (by omega) hbn hn (HC.out.but hBg hgw hB) hBg (hW.out.all (P := ok cs) HOK.out (Nat.le_refl _))
      have HI := Lib.hid hins
      have HB := Lib.hid hB
      clear hins hD hB
      go_wp2_with (go_at_call 66; (refine HI.out.mono ?_); rintro e w1 ⟨rfl, F1, hD1, hW1, hS1, hB1⟩)
      have hA1 := Ahead.step (x := 20) hA.out (by rw [show a + 20 = b by omega]; exact hW1) (by rw [show a + 20 = b by omega]; exact hS1) hdv.out
      rw [show a + 20 = b by omega] at hA1
      have hW2 := hW.out.trans (hW1.mono (Nat.zero_le _) hbn)
      have hd2 : 20 ∣ b := by have := hdv.out; rw [show b = a + 20 by omega]; exact Nat.dvd_add this ⟨1, rfl⟩
      go_roundw
      case rel => exact ⟨b, b + 20, F1, rfl, by go_num, by omega, by omega, hbn, hd2, hD1, hW2, hA1, HB.out.trans hB1⟩
      case measure => simp [intOf]; omega
    · have hins := insertion_any g n c a n q B R cs F wr hD han (Nat.le_refl _) hn (HC.out.but hBg hgw hB) hBg (hW.out.all (P := ok cs) HOK.out (Nat.le_refl _))
      have HI := Lib.hid hins
      have HB := Lib.hid hB
      clear hins hD hB
      go_wp2_with (go_at_call 66; (refine HI.out.mono ?_); rintro e w1 ⟨rfl, F1, hD1, hW1, hS1, hB1⟩)
      have hbs := Ahead.last (x := 20) hA.out hW1 hS1 hdv.out (by omega) han
      have hW2 := hW.out.trans (hW1.mono (Nat.zero_le _) (Nat.le_refl _))
      have hB2 := HB.out.trans hB1
      clear hW1 hS1 hB1 HB HI hW hA hdv
      go_loopw [6] (fun vx wr => ∃ (x : Nat) (G : Nat → Int), vx = .int .i64 x ∧ 20 ≤ x ∧ x ≤ 4000 ∧ DAt wr g n R G ∧ Hid (Wn 0 n n f G) ∧ Hid (Bs (kf cs G) x n) ∧ But g w wr) (fun vx _ => ((n : Int) - intOf vx).toNat)
      case atStart => exact ⟨20, F1, rfl, by omega, by omega, hD1, hW2, hbs, hB2⟩
      case round =>
        obtain ⟨x, G, rfl, hx1, hx2, hD3, hW3, hS3, hB3⟩ := hrel
        clear hD1 hW2 hbs hB2
        by_cases hxn : x < n
        · obtain ⟨y, hy⟩ : ∃ y, 2 * x = y := ⟨_, rfl⟩
          have ey : (2 : Int) * (x : Int) = (y : Int) := by omega
          have ey2 : (x : Int) * 2 = (y : Int) := by omega
          have HY := Lib.hid hy
          clear hy
          go_wp2
          go_loopw [7, 8] (fun va vb wr => ∃ (a b : Nat) (K : Nat → Int), va = .int .i64 a ∧ vb = .int .i64 b ∧ a + y ≤ b ∧ b ≤ a + y ∧ a ≤ n ∧ Hid (y ∣ a) ∧ DAt wr g n R K ∧ Hid (Wn 0 n n f K) ∧ Hid (Ahead (kf cs K) y a) ∧ Hid (Behind (kf cs K) x a n) ∧ But g w wr) (fun _ vb _ => ((n : Int) + y - intOf vb).toNat)
          case atStart => exact ⟨0, y, G, rfl, rfl, by omega, by omega, by omega, ⟨0, rfl⟩, hD3, hW3, Ahead.zero _ _, Bs.behind hS3.out, hB3⟩
          case round =>
            obtain ⟨a, b, K, rfl, rfl, hab1, hab2, han, hdv, hD, hW, hA, hL, hB⟩ := hrel
            clear hD3 hB3
            have hyx := HY.out
            have hdx : x ∣ a := Nat.dvd_trans ⟨2, by omega⟩ hdv.out
            have hdx2 : x ∣ a + x := Nat.dvd_add hdx ⟨1, by omega⟩
            obtain ⟨m, hm⟩ : ∃ m, a + x = m := ⟨_, rfl⟩
            have em : (a : Int) + (x : Int) = (m : Int) := by omega
            rw [hm] at hdx2
            have hok2 := hW.out.all (P := ok cs) HOK.out (Nat.le_refl _)
            have hCx := HC.out.but hBg hgw hB
            by_cases hbn : b ≤ n
            · have s1 : Srt (kf cs K) a m := (hL.out a hdx (Nat.le_refl _)).cut (Nat.le_refl _) (by omega)
              have s2 : Srt (kf cs K) m b := (hL.out m hdx2 (by omega)).cut (Nat.le_refl _) (by omega)
              have hmg := HM.out a m b K wr hD (by omega) (by omega) hbn hn hCx hBg hok2 s1 s2
              have HI := Lib.hid hmg
              have HB := Lib.hid hB
              have HMM := Lib.hid hm
              have HDX := Lib.hid (And.intro hdx hdx2)
              clear hmg hD hB s1 s2 hok2 hCx hm hdx hdx2 hyx
              go_wp2_with (go_at_call 67; (refine HI.out.mono ?_); rintro e w1 ⟨rfl, K1, hD1, hW1, hS1, hB1⟩)
              have hA1 := Ahead.step (x := y) hA.out (by rw [show a + y = b by omega]; exact hW1) (by rw [show a + y = b by omega]; exact hS1) hdv.out
              rw [show a + y = b by omega] at hA1
              have hL1 := hL.out.keep hW1 (by omega)
              have hW2 := hW.out.trans (hW1.mono (Nat.zero_le _) hbn)
              have hd2 : y ∣ b := by have := hdv.out; rw [show b = a + y by omega]; exact Nat.dvd_add this ⟨1, by omega⟩
              go_roundw
              case rel => exact ⟨b, b + y, K1, rfl, by go_num, by omega, by omega, hbn, hd2, hD1, hW2, hA1, hL1, HB.out.trans hB1⟩
              case measure => simp [intOf]; omega
            · by_cases hmn : m < n
              · have s1 : Srt (kf cs K) a m := (hL.out a hdx (Nat.le_refl _)).cut (Nat.le_refl _) (by omega)
                have s2 : Srt (kf cs K) m n := (hL.out m hdx2 (by omega)).cut (Nat.le_refl _) (by omega)
                have hmg := HM.out a m n K wr hD (by omega) hmn (Nat.le_refl _) hn hCx hBg hok2 s1 s2
                have HI := Lib.hid hmg
                have HB := Lib.hid hB
                have HMM := Lib.hid hm
                clear hmg hD hB s1 s2 hok2 hCx hm hdx hdx2
                go_wp2_with (go_at_call 67; (refine HI.out.mono ?_); rintro e w1 ⟨rfl, K1, hD1, hW1, hS1, hB1⟩)
                have hbs := Ahead.last (x := y) hA.out hW1 hS1 hdv.out (by omega) han
                have hW2 := hW.out.trans (hW1.mono (Nat.zero_le _) (Nat.le_refl _))
                go_roundw
                case rel => exact ⟨y, K1, by first | rfl | go_num, by omega, by omega, hD1, hW2, hbs, HB.out.trans hB1⟩
                case measure => simp [intOf]; omega
              · have s1 : Srt (kf cs K) a n := (hL.out a hdx (Nat.le_refl _)).cut (Nat.le_refl _) (by omega)
                have hbs := Ahead.last (x := y) hA.out (Wn.refl a n n K) s1 hdv.out (by omega) han
                have HBS := Lib.hid hbs
                have HDD := Lib.hid hD
                have HB := Lib.hid hB
                have HMM := Lib.hid hm
                clear s1 hbs hok2 hCx hD hB hdx hdx2 hm
                go_wp2
                go_roundw
                case rel => exact ⟨y, K, by first | rfl | go_num, by omega, by omega, HDD.out, hW, HBS.out, HB.out⟩
                case measure => simp [intOf]; omega
        · go_wp2
          go_end0
          exact ⟨rfl, G, hD3, hW3.out, Bs.whole hS3.out (by omega), hB3⟩
set_option maxHeartbeats 4000000 in
theorem sort_any (hM : Merges g n c q B R cs) (f : Nat → Int) (w : World) (h : DAt w g n R f) (hn : n ≤ 1000) (hC : Cnt w q B cs) (hBg : B ≤ g) (hok : ∀ i, i < n → ok cs (f i)) :
    Calls Tryd.prog 50 #[.slice (some ⟨g, 0, none⟩) n c, kv q] w fun e w' => e = .returned (.tuple #[]) ∧ ∃ f', DAt w' g n R f' ∧ Wn 0 n n f f' ∧ Srt (kf cs f') 0 n ∧ But g w w' := by
  have hs := stable_any hM f w h hn hC hBg hok
  have HS := Lib.hid hs
  clear hs hC h hok hM
  go_enter Tryd.func50, Tryd.ntmps50
  go_wp2_with (go_at_call 61; (refine HS.out.mono ?_); rintro e w1 ⟨rfl, hx⟩)
  go_end0
  exact ⟨rfl, hx⟩
end
end Go.Proofs.YtcmeoappddpmcaaDoor.sortp
