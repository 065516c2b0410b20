import Derived.Test.YtppgceighgpgoaaGreatDoorStore
import Derived.Test.YtppgceighgpgoaaGreatDoorChecked
import Derived.BigQuiet
import Derived.Deep.QuietTactic
import Derived.Deep.RegionHeld3
import Derived.Maps.AppendAt
import Derived.Deep.AppendLies
/- Several of my own texts, one behind the other. -/
/-
  slices.SortStableFunc of symbols by their counts: what is compared. My own text.
-/
namespace Go.Proofs.YtppgceighgpgoaaGreatDoor.sortp
open Go.RowKit Go.Proofs.YtppgceighgpgoaaGreatDoor.base
set_option linter.unusedVariables false

/-- how often each symbol comes, as the closure finds it -/
structure Cnt (W : World) (q B : Nat) (cs : List Int) : Prop where
  box : ∃ A n c, W.cell? ⟨q, 0, none⟩ = some (.slice A n c) ∧ Rd W B A n (cs.map iv) ∧ n ≤ c ∧ c ≤ maxLen
  qB : q < B
theorem Cnt.keep {W W' : World} {q B : Nat} {cs : List Int} (h : Cnt W q B cs) (hk : ∀ k, k < B → W'.heap[k]? = W.heap[k]?) : Cnt W' q B cs := by
  obtain ⟨A, n, c, h1, h2, h3, h4⟩ := h.box
  exact ⟨⟨A, n, c, (World.cell?_of_block (hk q h.qB)).trans h1, h2.keep hk, h3, h4⟩, h.qB⟩
def cmp3 (x y : Int) : Int := if x < y then -1 else if y < x then 1 else 0
theorem cmp3_lt (x y : Int) : decide (cmp3 x y < 0) = decide (x < y) := by
  unfold cmp3
  rw [decide_eq_decide]
  split
  · omega
  · split <;> omega
theorem compare_any (x y : Int) (w : World) : Calls Tryz.prog 68 #[.int .i64 x, .int .i64 y] w fun e w' => e = .returned (.int .i64 (cmp3 x y)) ∧ w = w' := by
  by_cases h1 : x < y
  · have hc : cmp3 x y = -1 := by unfold cmp3; rw [if_pos h1]
    rw [hc]
    go_enter Tryz.func68, Tryz.ntmps68
    go_wp2
    all_goals go_ret
    all_goals exact ⟨rfl, rfl⟩
  · by_cases h2 : y < x
    · have hc : cmp3 x y = 1 := by unfold cmp3; rw [if_neg h1, if_pos h2]
      rw [hc]
      go_enter Tryz.func68, Tryz.ntmps68
      go_wp2
      all_goals go_ret
      all_goals exact ⟨rfl, rfl⟩
    · have hc : cmp3 x y = 0 := by unfold cmp3; rw [if_neg h1, if_neg h2]
      rw [hc]
      go_enter Tryz.func68, Tryz.ntmps68
      go_wp2
      all_goals go_ret
      all_goals exact ⟨rfl, rfl⟩
abbrev kv (q : Nat) : Value := .func (.func 67) #[] #[.pointer (some ⟨q, 0, none⟩)]
/-- the closure: how often one comes, against how often the other -/
def key (cs : List Int) (x : Int) : Int := cs.getD x.toNat 0
def ok (cs : List Int) (x : Int) : Prop := 0 ≤ x ∧ x < cs.length
/-- how often, and then which: what a stable sort of symbols that rise puts them in order by -/
def key2 (cs : List Int) (x : Int) : Int := cs.length * key cs x + x
theorem key2_lt {cs : List Int} {x y : Int} (hx : ok cs x) (hy : ok cs y) (h : y < x) : key2 cs x < key2 cs y ↔ key cs x < key cs y := by
  unfold key2
  obtain ⟨x0, x1⟩ := hx
  obtain ⟨y0, y1⟩ := hy
  constructor
  · intro h2
    refine Int.not_le.1 fun h3 => ?_
    have := Int.mul_le_mul_of_nonneg_left h3 (show (0 : Int) ≤ (cs.length : Int) by omega)
    omega
  · intro h2
    have := Int.mul_le_mul_of_nonneg_left (show key cs x + 1 ≤ key cs y by omega) (show (0 : Int) ≤ (cs.length : Int) by omega)
    rw [Int.mul_add, Int.mul_one] at this
    omega
theorem key2_key {cs : List Int} {x y : Int} (hx : ok cs x) (hy : ok cs y) (h : key2 cs x ≤ key2 cs y) : key cs x ≤ key cs y := by
  unfold key2 at h
  obtain ⟨x0, x1⟩ := hx
  obtain ⟨y0, y1⟩ := hy
  refine Int.not_lt.1 fun h3 => ?_
  have := Int.mul_le_mul_of_nonneg_left (show key cs y + 1 ≤ key cs x by omega) (show (0 : Int) ≤ (cs.length : Int) by omega)
  rw [Int.mul_add, Int.mul_one] at this
  omega
theorem key2_inj {cs : List Int} {x y : Int} (hx : ok cs x) (hy : ok cs y) (h : key2 cs x = key2 cs y) : x = y := by
  have h1 := key2_key hx hy (Int.le_of_eq h)
  have h2 := key2_key hy hx (Int.le_of_eq h.symm)
  have h3 : key cs x = key cs y := by omega
  unfold key2 at h
  rw [h3] at h
  omega
theorem cmp3_lt2 {cs : List Int} {x y : Int} (hx : ok cs x) (hy : ok cs y) (h : y < x) : decide (cmp3 (key cs x) (key cs y) < 0) = decide (key2 cs x < key2 cs y) := by
  rw [cmp3_lt, decide_eq_decide]
  exact (key2_lt hx hy h).symm
theorem cmp_any (q B : Nat) (cs : List Int) (x y : Int) (w : World) (h : Cnt w q B cs) (hx : ok cs x) (hy : ok cs y) :
    Calls Tryz.prog 67 #[.int .i64 x, .int .i64 y, .pointer (some ⟨q, 0, none⟩)] w fun e w' => e = .returned (.int .i64 (cmp3 (key cs x) (key cs y))) ∧ ∃ m, w' = w.drewN m := by
  obtain ⟨A, n, c, h1, h2, h3, h4⟩ := h.box
  obtain ⟨x, rfl⟩ := Int.eq_ofNat_of_zero_le hx.1
  obtain ⟨y, rfl⟩ := Int.eq_ofNat_of_zero_le hy.1
  have hl : cs.length = n := by have := h2.1; rwa [List.length_map] at this
  have hx2 : x < n := by have := hx.2; omega
  have hy2 : y < n := by have := hy.2; omega
  obtain ⟨b, off, u, rfl, hb, hu, hcu⟩ := h2.at_ hx2
  obtain ⟨b', off', v, e', hb', hv, hcv⟩ := h2.at_ hy2
  injection e' with e'
  injection e' with e1 e2 _
  subst e1; subst e2
  have ku : key cs (x : Int) = u := by unfold key; rw [Int.toNat_natCast, List.getD_eq_getElem?_getD, hu]; rfl
  have kw : key cs (y : Int) = v := by unfold key; rw [Int.toNat_natCast, List.getD_eq_getElem?_getD, hv]; rfl
  rw [ku, kw]
  have x0 : (0 : Int) ≤ (x : Int) := by omega
  have y0 : (0 : Int) ≤ (y : Int) := by omega
  have x1 : (x : Int) < (n : Int) := by omega
  have y1 : (y : Int) < (n : Int) := by omega
  have hcmp : ∀ W, Calls Tryz.prog 68 #[.int .i64 u, .int .i64 v] W fun e w' => e = .returned (.int .i64 (cmp3 u v)) ∧ w' = W := fun W => (compare_any u v W).mono fun _ _ ⟨h1, h2⟩ => ⟨h1, h2.symm⟩
  have HCMP := Lib.hid hcmp
  clear hu hv ku kw h2 h hx hy hcmp
  go_enter Tryz.func67, Tryz.ntmps67
  go_wp2
  go_quiet (with_reducible exact Calls.quiet_of_same (HCMP.out _))
  go_wp2
  go_ret
  exact ⟨rfl, _, rfl⟩
end Go.Proofs.YtppgceighgpgoaaGreatDoor.sortp
/-
  Lengths of codes by how often symbols come (package-merge): plain mathematics, over no program. My own text.
-/
namespace Go.Proofs.YtppgceighgpgoaaGreatDoor.lennum
set_option linter.unusedVariables false
/-- a symbol, or a pair, and how often it comes -/
abbrev Itm := Int × Bool
def mostInt : Int := 9223372036854775807
def together (a b : Int) : Int := a + min b (mostInt - a)
theorem together_ge {a b : Int} (ha : 0 ≤ a) (hb : 0 ≤ b) (hb2 : b ≤ mostInt) (ha2 : a ≤ mostInt) : a ≤ together a b ∧ b ≤ together a b ∧ together a b ≤ mostInt := by
  unfold together
  omega
def paired : List Itm → List Itm
  | x :: y :: r => (together x.1 y.1, true) :: paired r
  | _ => []
/-- the symbols and the pairs -/
def merged : List Int → List Itm → List Itm
  | [], ps => ps
  | w :: ws, [] => (w, false) :: merged ws []
  | w :: ws, q :: ps => if q.1 < w then q :: merged (w :: ws) ps else (w, false) :: merged ws (q :: ps)
  termination_by ws ps => ws.length + ps.length
def singles (l : List Itm) : Nat := l.countP fun x => !x.2
def pairs (l : List Itm) : Nat := l.countP fun x => x.2
theorem both (l : List Itm) : singles l + pairs l = l.length := by
  unfold singles pairs
  induction l with
  | nil => rfl
  | cons x r ih =>
    rw [List.countP_cons, List.countP_cons, List.length_cons]
    cases x.2 <;> simp <;> omega
theorem singles_cons (x : Itm) (l : List Itm) : singles (x :: l) = singles l + if x.2 = true then 0 else 1 := by
  unfold singles; rw [List.countP_cons]; cases x.2 <;> simp
theorem pairs_cons (x : Itm) (l : List Itm) : pairs (x :: l) = pairs l + if x.2 = true then 1 else 0 := by
  unfold pairs; rw [List.countP_cons]
theorem merged_len (ws : List Int) (ps : List Itm) : (merged ws ps).length = ws.length + ps.length := by
  induction ws, ps using merged.induct with
  | case1 ps => simp [merged]
  | case2 w ws ih => rw [merged, List.length_cons, ih]; first | rfl | (simp <;> omega)
  | case3 w ws q ps h ih => rw [merged, if_pos h, List.length_cons, ih]; simp <;> omega
  | case4 w ws q ps h ih => rw [merged, if_neg h, List.length_cons, ih]; simp <;> omega
/-- how many symbols, how many pairs -/
theorem merged_pairs (ws : List Int) (ps : List Itm) (hp : ∀ x ∈ ps, x.2 = true) : pairs (merged ws ps) = ps.length := by
  induction ws, ps using merged.induct with
  | case1 ps =>
    rw [merged]
    unfold pairs
    rw [List.countP_eq_length]
    exact hp
  | case2 w ws ih => rw [merged, pairs_cons, ih (fun x hx => by cases hx)]; rfl
  | case3 w ws q ps h ih =>
    rw [merged, if_pos h, pairs_cons, ih (fun x hx => hp x (List.mem_cons_of_mem _ hx)), hp q (List.mem_cons_self ..)]
    simp
  | case4 w ws q ps h ih => rw [merged, if_neg h, pairs_cons, ih hp]; first | rfl | simp
theorem pairs_take (l : List Itm) (t : Nat) : pairs (l.take t) ≤ pairs l := by
  unfold pairs
  exact List.Sublist.countP_le (List.take_sublist t l)
theorem singles_take (l : List Itm) (t : Nat) : singles (l.take t) ≤ singles l := by
  unfold singles
  exact List.Sublist.countP_le (List.take_sublist t l)
/-- a symbol that comes no more often than a pair stands ahead of it -/
theorem merged_ahead (ws : List Int) (ps : List Itm) (hs : ws.Pairwise (· ≤ ·)) (hp : ∀ x ∈ ps, x.2 = true) :
    ∀ (t i j : Nat) (a : Int) (b : Itm), ws[i]? = some a → ps[j]? = some b → a ≤ b.1 → j < pairs ((merged ws ps).take t) → i < singles ((merged ws ps).take t) := by
  induction ws, ps using merged.induct with
  | case1 ps => intro t i j a b h1; simp at h1
  | case2 w ws ih => intro t i j a b _ h2; simp at h2
  | case3 w ws q ps h ih =>
    intro t i j a b h1 h2 hab hj
    rw [merged, if_pos h] at hj ⊢
    cases t with
    | zero => simp [pairs] at hj
    | succ t =>
      rw [List.take_succ_cons, pairs_cons, hp q (List.mem_cons_self ..)] at hj
      rw [List.take_succ_cons, singles_cons, hp q (List.mem_cons_self ..)]
      cases j with
      | zero =>
        simp at h2
        subst h2
        have hw : w ≤ a := by
          cases i with
          | zero => simp at h1; omega
          | succ i =>
            rw [List.getElem?_cons_succ] at h1
            exact (List.pairwise_cons.1 hs).1 a (List.mem_of_getElem? h1)
        omega
      | succ j =>
        rw [List.getElem?_cons_succ] at h2
        have := ih hs (fun x hx => hp x (List.mem_cons_of_mem _ hx)) t i j a b h1 h2 hab (by simp at hj; omega)
        simpa using this
  | case4 w ws q ps h ih =>
    intro t i j a b h1 h2 hab hj
    rw [merged, if_neg h] at hj ⊢
    cases t with
    | zero => simp [pairs] at hj
    | succ t =>
      rw [List.take_succ_cons, pairs_cons] at hj
      rw [List.take_succ_cons, singles_cons]
      cases i with
      | zero => simp
      | succ i =>
        rw [List.getElem?_cons_succ] at h1
        have := ih (List.pairwise_cons.1 hs).2 hp t i j a b h1 h2 hab (by simpa using hj)
        simp
        omega
/-- the symbols stand in their order: the i-th one that is taken comes so often -/
theorem merged_nth (ws : List Int) (ps : List Itm) (hp : ∀ x ∈ ps, x.2 = true) : ∀ (t : Nat) (a : Int), (merged ws ps)[t]? = some (a, false) → ws[singles ((merged ws ps).take t)]? = some a := by
  induction ws, ps using merged.induct with
  | case1 ps =>
    intro t a h
    rw [merged] at h
    have := hp _ (List.mem_of_getElem? h)
    cases this
  | case2 w ws ih =>
    intro t a h
    rw [merged] at h ⊢
    cases t with
    | zero => simp at h; subst h; simp [singles]
    | succ t =>
      rw [List.getElem?_cons_succ] at h
      rw [List.take_succ_cons, singles_cons]
      simpa using ih (fun x hx => by cases hx) t a h
  | case3 w ws q ps hlt ih =>
    intro t a h
    rw [merged, if_pos hlt] at h ⊢
    have hq := hp q (List.mem_cons_self ..)
    cases t with
    | zero =>
      simp at h
      rw [h] at hq
      cases hq
    | succ t =>
      rw [List.getElem?_cons_succ] at h
      rw [List.take_succ_cons, singles_cons, hq]
      simpa using ih (fun x hx => hp x (List.mem_cons_of_mem _ hx)) t a h
  | case4 w ws q ps hlt ih =>
    intro t a h
    rw [merged, if_neg hlt] at h ⊢
    cases t with
    | zero => simp at h; subst h; simp [singles]
    | succ t =>
      rw [List.getElem?_cons_succ] at h
      rw [List.take_succ_cons, singles_cons]
      simpa using ih hp t a h
theorem paired_len : ∀ l : List Itm, (paired l).length = l.length / 2
  | [] => rfl
  | [x] => by simp [paired]
  | x :: y :: r => by
    rw [paired, List.length_cons, paired_len r, List.length_cons, List.length_cons]
    omega
theorem paired_true : ∀ l : List Itm, ∀ x ∈ paired l, x.2 = true
  | [], x, h => by cases h
  | [y], x, h => by cases h
  | y :: z :: r, x, h => by
    rw [paired] at h
    rcases List.mem_cons.1 h with rfl | h
    · rfl
    · exact paired_true r x h
/-- how often things come: not below 0, no more than an int holds -/
def Fine (l : List Itm) : Prop := ∀ x ∈ l, 0 ≤ x.1 ∧ x.1 ≤ mostInt
theorem Fine.paired : ∀ {l : List Itm}, Fine l → Fine (paired l)
  | [], _, x, h => by cases h
  | [y], _, x, h => by cases h
  | y :: z :: r, hl, x, h => by
    have hy := hl y (List.mem_cons_self ..)
    have hz := hl z (List.mem_cons_of_mem _ (List.mem_cons_self ..))
    rw [lennum.paired] at h
    rcases List.mem_cons.1 h with rfl | h
    · have := together_ge hy.1 hz.1 hz.2 hy.2
      exact ⟨by show 0 ≤ together y.1 z.1; omega, this.2.2⟩
    · exact Fine.paired (fun x hx => hl x (List.mem_cons_of_mem _ (List.mem_cons_of_mem _ hx))) x h
/-- an item stands in the pair of its place, which comes no less often -/
theorem paired_at : ∀ (l : List Itm), Fine l → ∀ (t : Nat) (x : Itm), l[t]? = some x → t / 2 < l.length / 2 → ∃ q, (paired l)[t / 2]? = some q ∧ x.1 ≤ q.1
  | [], _, t, x, h, _ => by simp at h
  | [y], _, t, x, h, h2 => by simp at h2
  | y :: z :: r, hl, t, x, h, h2 => by
    have hy := hl y (List.mem_cons_self ..)
    have hz := hl z (List.mem_cons_of_mem _ (List.mem_cons_self ..))
    have ht := together_ge hy.1 hz.1 hz.2 hy.2
    rw [paired]
    by_cases t0 : t = 0
    · subst t0
      simp at h
      exact ⟨_, rfl, by rw [← h]; exact ht.1⟩
    · by_cases t1 : t = 1
      · subst t1
        simp at h
        exact ⟨_, rfl, by rw [← h]; exact ht.2.1⟩
      · obtain ⟨s, rfl⟩ : ∃ s, t = s + 2 := ⟨t - 2, by omega⟩
        rw [List.getElem?_cons_succ, List.getElem?_cons_succ] at h
        rw [List.length_cons, List.length_cons] at h2
        obtain ⟨q, hq, hle⟩ := paired_at r (fun x hx => hl x (List.mem_cons_of_mem _ (List.mem_cons_of_mem _ hx))) s x h (by omega)
        refine ⟨q, ?_, hle⟩
        rw [show (s + 2) / 2 = s / 2 + 1 by omega, List.getElem?_cons_succ]
        exact hq
theorem merged_mem (ws : List Int) (ps : List Itm) : ∀ x, x ∈ merged ws ps → (∃ a ∈ ws, x = (a, false)) ∨ x ∈ ps := by
  induction ws, ps using merged.induct with
  | case1 ps => intro x h; rw [merged] at h; exact Or.inr h
  | case2 w ws ih =>
    intro x h
    rw [merged] at h
    rcases List.mem_cons.1 h with rfl | h
    · exact Or.inl ⟨w, List.mem_cons_self .., rfl⟩
    · rcases ih x h with ⟨a, ha, e⟩ | h
      · exact Or.inl ⟨a, List.mem_cons_of_mem _ ha, e⟩
      · exact Or.inr h
  | case3 w ws q ps hlt ih =>
    intro x h
    rw [merged, if_pos hlt] at h
    rcases List.mem_cons.1 h with rfl | h
    · exact Or.inr (List.mem_cons_self ..)
    · rcases ih x h with h | h
      · exact Or.inl h
      · exact Or.inr (List.mem_cons_of_mem _ h)
  | case4 w ws q ps hlt ih =>
    intro x h
    rw [merged, if_neg hlt] at h
    rcases List.mem_cons.1 h with rfl | h
    · exact Or.inl ⟨w, List.mem_cons_self .., rfl⟩
    · rcases ih x h with ⟨a, ha, e⟩ | h
      · exact Or.inl ⟨a, List.mem_cons_of_mem _ ha, e⟩
      · exact Or.inr h
/-- the levels, from the deepest one on -/
def lev (ws : List Int) : Nat → List Itm
  | 0 => merged ws []
  | k + 1 => merged ws (paired (lev ws k))
/-- what comes -/
structure Ws (ws : List Int) : Prop where
  srt : ws.Pairwise (· ≤ ·)
  fine : ∀ a ∈ ws, 0 ≤ a ∧ a ≤ mostInt
theorem lev_fine {ws : List Int} (h : Ws ws) : ∀ k, Fine (lev ws k)
  | 0 => fun x hx => by
    rcases merged_mem ws [] x hx with ⟨a, ha, rfl⟩ | hx
    · exact h.fine a ha
    · cases hx
  | k + 1 => fun x hx => by
    rcases merged_mem ws _ x hx with ⟨a, ha, rfl⟩ | hx
    · exact h.fine a ha
    · exact (lev_fine h k).paired x hx
theorem lev_len_zero (ws : List Int) : (lev ws 0).length = ws.length := by rw [lev, merged_len]; rfl
theorem lev_len_succ (ws : List Int) (k : Nat) : (lev ws (k + 1)).length = ws.length + (lev ws k).length / 2 := by rw [lev, merged_len, paired_len]
/-- a level has enough -/
theorem lev_enough (ws : List Int) : ∀ k, ∃ d, (lev ws k).length + d = 2 * ws.length ∧ d * 2 ^ k ≤ ws.length + (2 ^ k - 1) ∧ (0 < ws.length → 1 ≤ d)
  | 0 => ⟨ws.length, by rw [lev_len_zero]; omega, by simp, fun h => h⟩
  | k + 1 => by
    obtain ⟨d, h1, h2, h3⟩ := lev_enough ws k
    refine ⟨(d + 1) / 2, by rw [lev_len_succ]; omega, ?_, fun h => by have := h3 h; omega⟩
    have hp : 1 ≤ 2 ^ k := Nat.pow_pos (by omega)
    have e : (d + 1) / 2 * 2 ^ (k + 1) = ((d + 1) / 2 * 2) * 2 ^ k := by rw [Nat.pow_succ]; rw [Nat.mul_comm (2 ^ k) 2, Nat.mul_assoc]
    have h4 : ((d + 1) / 2 * 2) * 2 ^ k ≤ (d + 1) * 2 ^ k := Nat.mul_le_mul_right _ (by omega)
    rw [Nat.add_mul] at h4
    rw [e]
    have h5 : 2 ^ (k + 1) = 2 * 2 ^ k := by rw [Nat.pow_succ, Nat.mul_comm]
    omega
/-- what is taken on the top level is there -/
theorem lev_top (ws : List Int) (most : Nat) (hm : 1 ≤ most) (h : ws.length ≤ 2 ^ most) (h2 : 2 ≤ ws.length) : 2 * ws.length - 2 ≤ (lev ws (most - 1)).length := by
  obtain ⟨d, h1, h3, _⟩ := lev_enough ws (most - 1)
  have hp : 1 ≤ 2 ^ (most - 1) := Nat.pow_pos (by omega)
  have e : 2 ^ most = 2 * 2 ^ (most - 1) := by rw [show most = (most - 1) + 1 by omega, Nat.pow_succ, Nat.mul_comm, Nat.add_sub_cancel]
  have : d < 3 := by
    apply Nat.lt_of_mul_lt_mul_right (a := 2 ^ (most - 1))
    omega
  omega
theorem lev_pairs_zero (ws : List Int) : pairs (lev ws 0) = 0 := by rw [lev, merged_pairs ws [] (fun x h => by cases h)]; rfl
/-- what is left to be taken on the level behind is there -/
theorem lev_next (ws : List Int) (k t : Nat) : 2 * pairs ((lev ws (k + 1)).take t) ≤ (lev ws k).length := by
  have h1 := pairs_take (lev ws (k + 1)) t
  rw [lev, merged_pairs ws _ (paired_true _), paired_len] at h1
  rw [lev]
  omega
/-- no more symbols are taken on the level behind -/
theorem lev_fewer {ws : List Int} (h : Ws ws) (k t : Nat) (ht : t ≤ (lev ws (k + 1)).length) : singles ((lev ws k).take (2 * pairs ((lev ws (k + 1)).take t))) ≤ singles ((lev ws (k + 1)).take t) := by
  obtain ⟨p, hp⟩ : ∃ p, pairs ((lev ws (k + 1)).take t) = p := ⟨_, rfl⟩
  rw [hp]
  obtain ⟨s, hs⟩ : ∃ s, singles ((lev ws k).take (2 * p)) = s := ⟨_, rfl⟩
  rw [hs]
  rcases Nat.eq_zero_or_pos s with h0 | h0
  · omega
  -- the last symbol that is taken there
  have hlen := lev_next ws k t
  rw [hp] at hlen
  have hfind : ∀ (l : List Itm) (n : Nat), singles (l.take n) = s → ∃ u a, u < n ∧ l[u]? = some (a, false) ∧ singles (l.take u) = s - 1 := by
    intro l n
    induction n with
    | zero => intro h; simp [singles] at h; omega
    | succ n ih =>
      intro h
      by_cases hn : n < l.length
      · rw [List.take_succ_eq_append_getElem hn] at h
        unfold singles at h
        rw [List.countP_append] at h
        by_cases hx : l[n].2 = true
        · have h2 : singles (l.take n) = s := by unfold singles; simpa [hx] using h
          obtain ⟨u, a, hu, h3⟩ := ih h2
          exact ⟨u, a, by omega, h3⟩
        · refine ⟨n, l[n].1, by omega, ?_, ?_⟩
          · rw [List.getElem?_eq_getElem hn]
            have : l[n].2 = false := by simpa using hx
            rw [← this]
          · unfold singles
            simp [hx] at h
            omega
      · rw [List.take_of_length_le (by omega)] at h
        obtain ⟨u, a, hu, h3⟩ := ih (by rw [List.take_of_length_le (by omega)]; exact h)
        exact ⟨u, a, by omega, h3⟩
  obtain ⟨u, a, hu, hget, hcount⟩ := hfind _ _ hs
  obtain ⟨q, hq, hle⟩ := paired_at (lev ws k) (lev_fine h k) u (a, false) hget (by omega)
  have hnth : ws[s - 1]? = some a := by
    rw [← hcount]
    cases k with
    | zero => exact merged_nth ws [] (fun x h => by cases h) u a hget
    | succ k => exact merged_nth ws _ (paired_true _) u a hget
  have := merged_ahead ws (paired (lev ws k)) h.srt (paired_true _) t (s - 1) (u / 2) a q hnth hq hle (by show u / 2 < pairs ((lev ws (k + 1)).take t); rw [hp]; omega)
  have h3 : s - 1 < singles ((lev ws (k + 1)).take t) := this
  omega
/-- how many symbols are taken on each level, from the k-th one from below on -/
def run (ws : List Int) : Nat → Nat → List Nat
  | 0, _ => []
  | k + 1, t => singles ((lev ws k).take t) :: run ws k (2 * (t - singles ((lev ws k).take t)))
theorem run_len (ws : List Int) : ∀ k t, (run ws k t).length = k
  | 0, _ => rfl
  | k + 1, t => by rw [run, List.length_cons, run_len]
theorem left_is (ws : List Int) (k t : Nat) (ht : t ≤ (lev ws k).length) : t - singles ((lev ws k).take t) = pairs ((lev ws k).take t) := by
  have := both ((lev ws k).take t)
  rw [List.length_take] at this
  omega
/-- what is worth how much -/
def worth : List Nat → Nat
  | [] => 0
  | s :: r => s * 2 ^ r.length + worth r
theorem run_worth (ws : List Int) : ∀ k t, t ≤ (lev ws k).length → worth (run ws (k + 1) t) = t * 2 ^ k
  | 0, t, ht => by
    have h1 := left_is ws 0 t ht
    have h2 := pairs_take (lev ws 0) t
    rw [lev_pairs_zero] at h2
    rw [run, run, worth, worth]
    have h3 : singles ((lev ws 0).take t) ≤ t := by
      have := both ((lev ws 0).take t)
      rw [List.length_take] at this
      omega
    simp
    omega
  | k + 1, t, ht => by
    have h1 := left_is ws (k + 1) t ht
    have h2 := lev_next ws k t
    have h3 : singles ((lev ws (k + 1)).take t) ≤ t := by
      have := both ((lev ws (k + 1)).take t)
      rw [List.length_take] at this
      omega
    have ih := run_worth ws k (2 * (t - singles ((lev ws (k + 1)).take t))) (by rw [h1]; exact h2)
    rw [run, worth, ih, run_len]
    have e : 2 * (t - singles ((lev ws (k + 1)).take t)) * 2 ^ k = (t - singles ((lev ws (k + 1)).take t)) * 2 ^ (k + 1) := by
      rw [Nat.pow_succ, Nat.mul_comm 2, Nat.mul_assoc, Nat.mul_comm 2]
    rw [e, ← Nat.add_mul, Nat.add_sub_cancel' h3]
theorem run_falls {ws : List Int} (h : Ws ws) : ∀ k t, t ≤ (lev ws k).length → (run ws (k + 1) t).Pairwise (· ≥ ·)
  | 0, t, ht => by rw [run, run]; simp
  | k + 1, t, ht => by
    have h1 := left_is ws (k + 1) t ht
    have h2 := lev_next ws k t
    have ih := run_falls h k (2 * (t - singles ((lev ws (k + 1)).take t))) (by rw [h1]; exact h2)
    have h3 := lev_fewer h k t ht
    rw [run]
    rw [run] at ih
    refine List.pairwise_cons.2 ⟨fun x hx => ?_, by rw [run]; exact ih⟩
    rw [run] at hx
    rw [h1] at hx ih
    rcases List.mem_cons.1 hx with rfl | hx
    · exact h3
    · exact Nat.le_trans ((List.pairwise_cons.1 ih).1 x hx) h3
/-! the shares are 1 in all -/
def sumTo (f : Nat → Nat) : Nat → Nat
  | 0 => 0
  | m + 1 => sumTo f m + f m
theorem sumTo_same {f g : Nat → Nat} : ∀ m, (∀ j, j < m → f j = g j) → sumTo f m = sumTo g m
  | 0, _ => rfl
  | m + 1, h => by rw [sumTo, sumTo, sumTo_same m fun j hj => h j (by omega), h m (by omega)]
theorem sumTo_const (f : Nat → Nat) (c s : Nat) : ∀ d, (∀ j, s ≤ j → j < s + d → f j = c) → sumTo f (s + d) = sumTo f s + d * c
  | 0, _ => by simp
  | d + 1, h => by
    rw [← Nat.add_assoc, sumTo, sumTo_const f c s d fun j h1 h2 => h j h1 (by omega), h (s + d) (by omega) (by omega), Nat.succ_mul, Nat.add_assoc]
theorem sumTo_ge (f : Nat → Nat) : ∀ m j, j < m → f j ≤ sumTo f m
  | 0, j, h => absurd h (by omega)
  | m + 1, j, h => by
    rw [sumTo]
    by_cases e : j = m
    · subst e; omega
    · have := sumTo_ge f m j (by omega); omega
theorem sumTo_two (f : Nat → Nat) : ∀ m i j, i < m → j < m → i ≠ j → f i + f j ≤ sumTo f m
  | 0, i, j, h, _, _ => absurd h (by omega)
  | m + 1, i, j, h, h2, h3 => by
    rw [sumTo]
    by_cases e : i = m
    · subst e
      have := sumTo_ge f i j (by omega); omega
    · by_cases e2 : j = m
      · subst e2
        have := sumTo_ge f j i (by omega); omega
      · have := sumTo_two f m i j (by omega) (by omega) h3; omega
/-- how many bits the code has of the j-th symbol -/
def bitsOf (l : List Nat) (j : Nat) : Nat := l.countP fun s => decide (j < s)
theorem bitsOf_le (l : List Nat) (j : Nat) : bitsOf l j ≤ l.length := List.countP_le_length
theorem kraft : ∀ (l : List Nat) (m : Nat), l.Pairwise (· ≥ ·) → (∀ x ∈ l, x ≤ m) → sumTo (fun j => 2 ^ (l.length - bitsOf l j)) m + worth l = m * 2 ^ l.length
  | [], m, _, _ => by
    have : sumTo (fun j => 2 ^ (([] : List Nat).length - bitsOf [] j)) (0 + m) = _ := sumTo_const _ 1 0 m fun j _ _ => by simp [bitsOf]
    rw [Nat.zero_add] at this
    rw [this]
    simp [sumTo, worth]
  | s :: r, m, hp, hm => by
    obtain ⟨h1, h2⟩ := List.pairwise_cons.1 hp
    have hs := hm s (List.mem_cons_self ..)
    have ih := kraft r s h2 h1
    obtain ⟨d, rfl⟩ : ∃ d, m = s + d := ⟨m - s, by omega⟩
    have hhi : ∀ j, s ≤ j → j < s + d → 2 ^ ((s :: r).length - bitsOf (s :: r) j) = 2 ^ (r.length + 1) := by
      intro j hj _
      have : bitsOf (s :: r) j = 0 := by
        unfold bitsOf
        rw [List.countP_eq_zero]
        intro x hx
        rcases List.mem_cons.1 hx with rfl | hx
        · simp; omega
        · have := h1 x hx; simp; omega
      rw [this]; rfl
    have hlo : ∀ j, j < s → 2 ^ ((s :: r).length - bitsOf (s :: r) j) = 2 ^ (r.length - bitsOf r j) := by
      intro j hj
      have : bitsOf (s :: r) j = bitsOf r j + 1 := by
        unfold bitsOf
        rw [List.countP_cons]
        simp [hj]
      rw [this, List.length_cons, Nat.add_sub_add_right]
    rw [sumTo_const _ (2 ^ (r.length + 1)) s d hhi, sumTo_same s hlo, worth, List.length_cons]
    have e1 : 2 ^ (r.length + 1) = 2 ^ r.length + 2 ^ r.length := by rw [Nat.pow_succ, Nat.mul_two]
    have e2 : (s + d) * 2 ^ (r.length + 1) = s * 2 ^ r.length + s * 2 ^ r.length + d * 2 ^ (r.length + 1) := by rw [Nat.add_mul, e1, Nat.mul_add]
    rw [e2]
    omega
/-- the lengths that are made: their shares are 1, none is 0, none longer than may be -/
theorem made {ws : List Int} (h : Ws ws) (most : Nat) (hm : 1 ≤ most) (hl : ws.length ≤ 2 ^ most) (h2 : 2 ≤ ws.length) :
    sumTo (fun j => 2 ^ (most - bitsOf (run ws most (2 * ws.length - 2)) j)) ws.length = 2 ^ most ∧ ∀ j, j < ws.length → 1 ≤ bitsOf (run ws most (2 * ws.length - 2)) j ∧ bitsOf (run ws most (2 * ws.length - 2)) j ≤ most := by
  obtain ⟨k, rfl⟩ : ∃ k, most = k + 1 := ⟨most - 1, by omega⟩
  have htop := lev_top ws (k + 1) hm hl h2
  rw [Nat.add_sub_cancel] at htop
  have hw := run_worth ws k (2 * ws.length - 2) htop
  have hf := run_falls h k (2 * ws.length - 2) htop
  have hlen := run_len ws (k + 1) (2 * ws.length - 2)
  have hle : ∀ x ∈ run ws (k + 1) (2 * ws.length - 2), x ≤ ws.length := by
    have hgen : ∀ k t, ∀ x ∈ run ws k t, x ≤ ws.length := by
      intro k
      induction k with
      | zero => intro t x hx; cases hx
      | succ k ih =>
        intro t x hx
        rw [run] at hx
        rcases List.mem_cons.1 hx with rfl | hx
        · have h1 := singles_take (lev ws k) t
          have h2 := both (lev ws k)
          have h3 : pairs (lev ws k) + ws.length = (lev ws k).length := by
            cases k with
            | zero => rw [lev_pairs_zero, lev_len_zero]; omega
            | succ k => rw [lev_len_succ, lev, merged_pairs ws _ (paired_true _), paired_len]; omega
          omega
        · exact ih _ x hx
    exact hgen _ _
  have hk := kraft _ ws.length hf hle
  rw [hlen, hw] at hk
  have e : (2 * ws.length - 2) * 2 ^ k = (ws.length - 1) * 2 ^ (k + 1) := by
    rw [Nat.pow_succ, Nat.mul_comm (2 ^ k) 2, ← Nat.mul_assoc]
    congr 1
    omega
  have e2 : ws.length * 2 ^ (k + 1) = (ws.length - 1) * 2 ^ (k + 1) + 2 ^ (k + 1) := by
    obtain ⟨m, hm⟩ : ∃ m, ws.length = m + 1 := ⟨ws.length - 1, by omega⟩
    rw [hm, Nat.add_sub_cancel, Nat.succ_mul]
  rw [e, e2] at hk
  have hsum : sumTo (fun j => 2 ^ (k + 1 - bitsOf (run ws (k + 1) (2 * ws.length - 2)) j)) ws.length = 2 ^ (k + 1) := by omega
  refine ⟨hsum, fun j hj => ⟨?_, ?_⟩⟩
  · rcases Nat.eq_zero_or_pos (bitsOf (run ws (k + 1) (2 * ws.length - 2)) j) with h0 | h0
    · obtain ⟨i, hi, hne⟩ : ∃ i, i < ws.length ∧ i ≠ j := by
        by_cases e0 : j = 0
        · exact ⟨1, by omega, by omega⟩
        · exact ⟨0, by omega, by omega⟩
      have h3 := sumTo_two (fun j => 2 ^ (k + 1 - bitsOf (run ws (k + 1) (2 * ws.length - 2)) j)) ws.length i j hi hj hne
      rw [hsum] at h3
      simp only [h0] at h3
      have h4 : 1 ≤ 2 ^ (k + 1 - bitsOf (run ws (k + 1) (2 * ws.length - 2)) i) := Nat.pow_pos (by omega)
      rw [Nat.sub_zero] at h3
      omega
    · exact h0
  · have := bitsOf_le (run ws (k + 1) (2 * ws.length - 2)) j
    rwa [hlen] at this
end Go.Proofs.YtppgceighgpgoaaGreatDoor.lennum
/-
  huff.Lengths: together, rows of items. My own text.
-/
namespace Go.Proofs.YtppgceighgpgoaaGreatDoor.lenp
open Go.RowKit Go.Proofs.YtppgceighgpgoaaGreatDoor.base Go.Proofs.YtppgceighgpgoaaGreatDoor.lennum
set_option linter.unusedVariables false

theorem ret_int {a b : Int} (h : a = b) : Ending.returned (.int .i64 a) = .returned (.int .i64 b) := by rw [h]
theorem together_any (a b : Int) (ha : 0 ≤ a ∧ a ≤ mostInt) (hb : 0 ≤ b ∧ b ≤ mostInt) (w : World) : Calls Tryz.prog 90 #[.int .i64 a, .int .i64 b] w fun e w' => e = .returned (.int .i64 (together a b)) ∧ w = w' := by
  have h1 := ha.1
  have h2 : a ≤ 9223372036854775807 := ha.2
  have h3 := hb.1
  have h4 : b ≤ 9223372036854775807 := hb.2
  have hT : together a b = if 9223372036854775807 - a < b then 9223372036854775807 else a + b := by
    unfold together mostInt
    split <;> omega
  rw [hT]
  clear hT ha hb
  by_cases h : 9223372036854775807 - a < b
  · rw [if_pos h]
    have e1 : wrap64 (a + (9223372036854775807 - a)) = 9223372036854775807 := by rw [IntWalk.wrap64_in _ ⟨by omega, by omega⟩]; omega
    go_enter Tryz.func90, Tryz.ntmps90
    go_wp2
    all_goals go_ret
    all_goals exact ⟨ret_int (by first | exact e1 | omega), rfl⟩
  · rw [if_neg h]
    have e1 : wrap64 (a + b) = a + b := IntWalk.wrap64_in _ ⟨by omega, by omega⟩
    go_enter Tryz.func90, Tryz.ntmps90
    go_wp2
    all_goals go_ret
    all_goals exact ⟨ret_int (by first | exact e1 | omega), rfl⟩

abbrev tItem : TypeId := 126
abbrev tItems : TypeId := 99
/-- an item's two cells -/
def icell (x : Itm) : List Value := [.int .i64 x.1, .bool x.2]
def icells (l : List Itm) : List Value := l.flatMap icell
theorem icells_cons (x : Itm) (l : List Itm) : icells (x :: l) = icell x ++ icells l := rfl
theorem icells_snoc (l : List Itm) (s : Itm) : icells (l ++ [s]) = icells l ++ icell s := by simp [icells]
theorem icells_append (l r : List Itm) : icells (l ++ r) = icells l ++ icells r := by simp [icells]
theorem icells_len (l : List Itm) : (icells l).length = l.length * 2 := by
  induction l with
  | nil => rfl
  | cons a r ih =>
    rw [icells_cons, List.length_append, ih, List.length_cons]
    show 2 + _ = _
    omega
theorem icells_get : ∀ (l : List Itm) (j : Nat) (x : Itm), l[j]? = some x → (icells l)[2 * j]? = some (.int .i64 x.1) ∧ (icells l)[2 * j + 1]? = some (.bool x.2)
  | [], j, x, h => by simp at h
  | a :: r, j, x, h => by
    rw [icells_cons]
    cases j with
    | zero => simp at h; subst h; exact ⟨rfl, rfl⟩
    | succ j =>
      rw [List.getElem?_cons_succ] at h
      have := icells_get r j x h
      have e1 : 2 * (j + 1) = 2 * j + 1 + 1 := by omega
      rw [e1]
      exact this
theorem itemInfo : (Tryz.prog.info? tItem).map (fun i => (i.zero, i.size, i.bytes)) = some (some (.agg #[.int .i64 0, .bool false]), 2, 16) := by kernel_rfl
/-- a row of items that is read -/
def RdI (w : World) (B : Nat) (A : Option Addr) (n : Nat) (l : List Itm) : Prop :=
  l.length = n ∧ (0 < n → ∃ b off, A = some ⟨b, off, none⟩ ∧ b < B ∧ ∀ j u, (icells l)[j]? = some u → w.cell? ⟨b, off + j, none⟩ = some u)
theorem RdI.keep {w w' : World} {B n : Nat} {A : Option Addr} {l : List Itm} (h : RdI w B A n l) (hk : ∀ k, k < B → w'.heap[k]? = w.heap[k]?) : RdI w' B A n l :=
  ⟨h.1, fun hn => by
    obtain ⟨b, off, e, hb, hc⟩ := h.2 hn
    exact ⟨b, off, e, hb, fun j u hu => (World.cell?_of_block (hk b hb)).trans (hc j u hu)⟩⟩
theorem RdI.below {w w' : World} {B n : Nat} {A : Option Addr} {l : List Itm} (h : RdI w B A n l) (hb : Below B w w') : RdI w' B A n l := h.keep fun k hk => hb.block k hk
theorem RdI.fresh {w w' : World} {B n : Nat} {A : Option Addr} {l : List Itm} (h : RdI w B A n l) (hb : Fresh w w') (hB : B ≤ w.heap.size) : RdI w' B A n l := h.keep fun k hk => hb.block k (by omega)
/-- a cut 's[lo:hi]' -/
theorem RdI.cut {w : World} {B n : Nat} {A : Option Addr} {l : List Itm} (h : RdI w B A n l) {lo hi cap : Nat} (h1 : lo ≤ hi) (h2 : hi ≤ n) (hc : n ≤ cap) :
    RdI w B (if cap = lo then A else A.map (·.add (lo * 2))) (hi - lo) ((l.drop lo).take (hi - lo)) := by
  refine ⟨by rw [List.length_take, List.length_drop, h.1]; omega, fun hn => ?_⟩
  obtain ⟨b, off, rfl, hb, hcell⟩ := h.2 (by omega)
  rw [if_neg (by omega)]
  refine ⟨b, off + lo * 2, ?_, hb, fun j u hu => ?_⟩
  · simp only [Option.map_some, Option.some.injEq]
    unfold Addr.add
    split
    · rename_i h0; rw [h0]; rfl
    · rfl
  · have e : l = l.take lo ++ ((l.drop lo).take (hi - lo) ++ (l.drop lo).drop (hi - lo)) := by rw [List.take_append_drop, List.take_append_drop]
    have h3 : (icells l)[lo * 2 + j]? = some u := by
      rw [e, icells_append, icells_append]
      have hlen : (icells (l.take lo)).length = lo * 2 := by rw [icells_len, List.length_take, h.1]; omega
      rw [List.getElem?_append_right (by omega), hlen, Nat.add_sub_cancel_left, List.getElem?_append_left (List.getElem?_eq_some_iff.1 hu).1]
      exact hu
    have := hcell _ u h3
    rwa [← Nat.add_assoc] at this
/-- a row of items that is the call's own -/
abbrev OwnI (w : World) (base : Nat) (A : Option Addr) (n c : Nat) (l : List Itm) : Prop := w.ownsRow base tItem 2 (.slice A n c) n (icells l)
theorem OwnI.nil (w : World) (base : Nat) : OwnI w base none 0 0 [] := World.ownsRow_nil _ _ _ _
theorem OwnI.len {w : World} {base n c : Nat} {A : Option Addr} {l : List Itm} (h : OwnI w base A n c l) : l.length = n := by
  have h1 := h.1
  rw [icells_len] at h1
  omega
theorem OwnI.rd {w : World} {base n c : Nat} {A : Option Addr} {l : List Itm} (h : OwnI w base A n c l) : RdI w w.heap.size A n l := by
  refine ⟨h.len, fun hn => ?_⟩
  obtain ⟨g, cap, hv, hb, hlt⟩ := World.ownsRow.form h hn
  injection hv with hA _ _
  subst hA
  refine ⟨g, 0, rfl, hlt, fun j u hu => ?_⟩
  have := World.ownsRow.cells h (g := g) rfl j u hu
  have hadd : (⟨g, 0, none⟩ : Addr).add j = ⟨g, 0 + j, none⟩ := by unfold Addr.add; split <;> simp_all
  rwa [hadd] at this
theorem OwnI.cap {w : World} {base n c : Nat} {A : Option Addr} {l : List Itm} (h : OwnI w base A n c l) : n ≤ c ∧ c ≤ maxLen := by
  rcases h.2 with ⟨hv, hn⟩ | ⟨g, cap, cur, hv, _, _, h1, h2, _⟩
  · injection hv with _ h3 h4
    subst h4; subst h3; unfold maxLen; omega
  · injection hv with _ _ h4
    subst h4
    exact ⟨h1, h2⟩
theorem OwnI.fresh {w w' : World} {base n c : Nat} {A : Option Addr} {l : List Itm} (h : OwnI w base A n c l) (k : Fresh w w') : OwnI w' base A n c l :=
  World.ownsRow.kept h (k.grown none) (by cases (Value.slice A n c).ownBlock <;> simp)
end Go.Proofs.YtppgceighgpgoaaGreatDoor.lenp
/-
  huff.Lengths: paired. My own text.
-/
namespace Go.Proofs.YtppgceighgpgoaaGreatDoor.lenp
open Go.RowKit Go.Proofs.YtppgceighgpgoaaGreatDoor.base Go.Proofs.YtppgceighgpgoaaGreatDoor.lennum
set_option linter.unusedVariables false

theorem st_slot_ {P : Program} {w : World} {ops : Array Oper} {a : Act} {K : Act → World → Prop} {Q : Exit → Act → World → Prop} {E : Prop} (d : Nat) {op : Op} {t : TypeId} {ps : String} {af gd} (h : if Region.wanted ⟨some d, op, t, ps, af, gd⟩ (yielded ops a.tmps) = true then Oper.wp P ⟨some d, op, t, ps, af, gd⟩ a w K Q else E) : if Region.wanted ⟨some d, op, t, ps, af, gd⟩ (yielded ops a.tmps) = true then Oper.wp P ⟨some d, op, t, ps, af, gd⟩ a w K Q else E := h
theorem icell_one (x : Itm) : ∀ u ∈ icell x, u.oneCell' = true := fun u hu => by
  rcases List.mem_cons.1 hu with rfl | hu
  · rfl
  · rw [List.mem_singleton] at hu; subst hu; rfl
/-- a row that has grown since -/
theorem grown_fresh {w w1 w2 : World} {n c : Nat} {A : Option Addr} {l : List Itm} (h : Fresh w w1) (ho : OwnI w1 w.heap.size A n c l) (hg : w1.grownBy w2 (Value.slice A n c).ownBlock) : Fresh w w2 :=
  Below.grown h hg h.size fun k hk => (World.ownsRow.lt ho k hk).1
set_option maxRecDepth 100000 in
set_option maxHeartbeats 16000000 in
theorem paired_any (A : Option Addr) (n c B : Nat) (l : List Itm) (w : World) (h : RdI w B A n l) (hc : n ≤ c) (hm : c ≤ maxLen) (hn : n ≤ 1000) (hB : B ≤ w.heap.size) (hf : Fine l) :
    Calls Tryz.prog 70 #[.slice A n c] w fun e w' => ∃ A' m c', e = .returned (.slice A' m c') ∧ OwnI w' w.heap.size A' m c' (paired l) ∧ Fresh w w' := by
  obtain ⟨i0, hi0, hz0, hz1, hz2⟩ := info_parts itemInfo
  go_enter Tryz.func70, Tryz.ntmps70
  go_wp2
  go_loopw [0, 3] (fun vl vp wr => ∃ (A1 : Option Addr) (n1 c1 : Nat) (l1 : List Itm) (A2 : Option Addr) (m2 c2 : Nat) (p2 : List Itm), vl = .slice A1 n1 c1 ∧ vp = .slice A2 m2 c2 ∧ RdI wr B A1 n1 l1 ∧ n1 ≤ c1 ∧ Hid (c1 ≤ maxLen) ∧ n1 + 2 * m2 ≤ n ∧ OwnI wr w.heap.size A2 m2 c2 p2 ∧ Hid (p2 ++ paired l1 = paired l) ∧ Hid (Fine l1) ∧ Fresh w wr) (fun vl _ _ => match vl with | .slice _ n _ => n | _ => 0)
  case atStart => exact ⟨A, n, c, l, none, 0, 0, [], rfl, rfl, h, hc, hm, by omega, OwnI.nil _ _, rfl, hf, Fresh.refl _⟩
  case round =>
    obtain ⟨A1, n1, c1, l1, A2, m2, c2, p2, rfl, rfl, hR, hc1, hm1, hnm, hO, hP, hF, hfr⟩ := hrel
    by_cases hlt : 1 < n1
    · obtain ⟨x, y, r, rfl⟩ : ∃ x y r, l1 = x :: y :: r := by
        have := hR.1
        match l1, this with
        | x :: y :: r, _ => exact ⟨x, y, r, rfl⟩
        | [x], h => simp at h; omega
        | [], h => simp at h; omega
      have hcut := hR.cut (lo := 2) (hi := n1) (cap := c1) (by omega) (Nat.le_refl _) hc1
      obtain ⟨b, off, rfl, hb, hcell⟩ := hR.2 (by omega)
      have cx : wr.cell? ⟨b, off, none⟩ = some (.int .i64 x.1) := by have := hcell 0 _ rfl; rwa [Nat.add_zero] at this
      have cy : wr.cell? ⟨b, off + 2, none⟩ = some (.int .i64 y.1) := hcell 2 _ rfl
      have hx := hF.out x (List.mem_cons_self ..)
      have hy := hF.out y (List.mem_cons_of_mem _ (List.mem_cons_self ..))
      have hF2 : Fine r := fun z hz => hF.out z (List.mem_cons_of_mem _ (List.mem_cons_of_mem _ hz))
      have htg := fun W => together_any x.1 y.1 hx hy W
      have HTG := Lib.hid htg
      obtain ⟨t, ht⟩ : ∃ t, together x.1 y.1 = t := ⟨_, rfl⟩
      rw [ht] at htg
      have HTG := Lib.hid htg
      have hpr : paired (x :: y :: r) = (t, true) :: paired r := by rw [paired, ht]
      have HPR := Lib.hid hpr
      have HLEN := Lib.hid (show (x :: y :: r).length = n1 from hR.1)
      have HO := Lib.hid hO
      have HFR := Lib.hid hfr
      have HCUT := Lib.hid hcut
      have HF2 := Lib.hid hF2
      have HB := Lib.hid (show b < wr.heap.size by have := hfr.size; omega)
      have hk1 : wr.drew.cell? ⟨b, off, none⟩ = some (.int .i64 x.1) ∧ wr.drew.cell? ⟨b, off + 2, none⟩ = some (.int .i64 y.1) := ⟨cx, cy⟩
      have hk2 : ∀ cs ty, (wr.alloc (.cells cs ty)).drew.cell? ⟨b, off, none⟩ = some (.int .i64 x.1) ∧ (wr.alloc (.cells cs ty)).drew.cell? ⟨b, off + 2, none⟩ = some (.int .i64 y.1) := fun cs ty => ⟨(World.cell?_of_block ((Fresh.alloc wr _).block b HB.out)).trans cx, (World.cell?_of_block ((Fresh.alloc wr _).block b HB.out)).trans cy⟩
      have n0i : (0 : Int) < (n1 : Int) := by omega
      have n0n : 0 < n1 := by omega
      have n1n : 1 < n1 := hlt
      have n1i : (1 : Int) < (n1 : Int) := by omega
      have hbB : b < w.heap.size := by omega
      have n2i : (2 : Int) ≤ (n1 : Int) := by omega
      have c2i : (n1 : Int) ≤ (c1 : Int) := by omega
      clear hO hfr hcut hF2 hpr ht htg hx hy hcell hR cx cy
      go_wp2
      go_region_held3 (fun w' => w'.cell? ⟨b, off, none⟩ = some (.int .i64 x.1) ∧ w'.cell? ⟨b, off + 2, none⟩ = some (.int .i64 y.1)) (first | exact hk1 | exact hk2 _ _ | exact HK3.out)
        (first
        | (go_at_call 90; (with_reducible refine (HTG.out _).mono ?_); rintro e w1 ⟨rfl, rfl⟩)
        | ((with_reducible (refine st_slot_ 21 ?_)); go_loud (refine step_append_lies _ (by rfl) (.tmp 9) (.tmp 20) tItems (by rfl) w.heap.size tItem i0 _ 2 16 Tryz.underlying99 hi0 hz0 hz1 hz2 rfl (by omega) (.slice A2 m2 c2) m2 (icells p2) (by rfl) ((HO.out.fresh (Fresh.alloc _ _)).fresh (Fresh.drew _)) ⟨wr.heap.size, 0, none⟩ 1 1 (icell (t, true)) (by rfl) (by rfl) (World.news_of_block (cs := #[.int .i64 t, .bool true]) (t := tItem) (fr := (0, 0)) (heap_alloc_new wr _)) (icell_one _) (by omega) (by unfold maxLen; omega) (by omega) (by have := HFR.out.size; simp; omega) (wr.heap.size + 1) (by simp) ?_; (intro gg cap w4 hown hgrow hat hlt4; rw [← icells_snoc] at hown; have HOWN := Lib.hid hown; have hfr4 := grown_fresh ((HFR.out.trans (Fresh.alloc wr (.cells #[.int .i64 t, .bool true] tItem))).trans (Fresh.drew _)) ((HO.out.fresh (Fresh.alloc _ _)).fresh (Fresh.drew _)) hgrow; have HFR4 := Lib.hid hfr4; have hrow : ∀ k, k < w.heap.size → w4.heap[k]? = wr.heap[k]? := (fun k hk => (hgrow.block k (by have := HFR.out.size; simp; omega) (fun e => by have := (World.ownsRow.lt ((HO.out.fresh (Fresh.alloc wr (.cells #[.int .i64 t, .bool true] tItem))).fresh (Fresh.drew _)) k e.symm).1; omega)).trans ((Fresh.alloc wr (.cells #[.int .i64 t, .bool true] tItem)).block k (by have := HFR.out.size; omega))); have HROW := Lib.hid hrow; have HK3 := Lib.hid (show w4.cell? ⟨b, off, none⟩ = some (.int .i64 x.1) ∧ w4.cell? ⟨b, off + 2, none⟩ = some (.int .i64 y.1) from ⟨(World.cell?_of_block (hrow b hbB)).trans hk1.1, (World.cell?_of_block (hrow b hbB)).trans hk1.2⟩); clear hown hgrow hat hfr4 hrow))))
      have hR4 : RdI w4 B (if c1 = 2 then some (⟨b, off, none⟩ : Addr) else Option.map (fun x : Addr => x.add (2 * 2)) (some (⟨b, off, none⟩ : Addr))) (n1 - 2) r := by
        have h1 := HCUT.out
        have h2 := HCUT.out.1
        rw [show List.drop 2 (x :: y :: r) = r from rfl] at h1 h2
        rw [List.length_take] at h2
        have h3 : (List.take (n1 - 2) r).length = n1 - 2 := h1.1
        have h4 : List.take (n1 - 2) r = r := by
          have hl := HLEN.out
          simp only [List.length_cons] at hl
          exact List.take_of_length_le (by omega)
        rw [h4] at h1
        exact h1.keep fun k hk => HROW.out k (by omega)
      have HR4 := Lib.hid hR4
      have hpp : (p2 ++ [(t, true)]) ++ paired r = paired l := by
        have h1 := hP.out
        rw [HPR.out] at h1
        rw [List.append_assoc]
        exact h1
      have HPP := Lib.hid hpp
      have nn : (n1 : Int) - 2 = ((n1 - 2 : Nat) : Int) := by omega
      have nc : (c1 : Int) - 2 = ((c1 - 2 : Nat) : Int) := by omega
      rename_i hj
      clear hj hR4 hpp hk1 hk2
      go_wp2
      have hx4 : (if c1 = 2 then some (⟨b, off, none⟩ : Addr) else some (⟨b, off + 4, none⟩ : Addr)) = (if c1 = 2 then some (⟨b, off, none⟩ : Addr) else Option.map (fun x : Addr => x.add (2 * 2)) (some (⟨b, off, none⟩ : Addr))) := rfl
      refine ⟨⟨_, n1 - 2, c1 - 2, r, _, m2 + 1, cap, p2 ++ [(t, true)], rfl, rfl, by rw [hx4]; exact HR4.out, by omega, Lib.hid (by have := hm1.out; omega), by omega, HOWN.out, HPP, HF2, HFR4.out⟩, ?_⟩
      show n1 - 2 < n1
      omega
    · have hln := hR.1
      have hpe : paired l1 = [] := by
        match l1, hln with
        | [], _ => rfl
        | [x], _ => rw [paired]; intro a b c h; cases h
        | x :: y :: r, h => simp at h; omega
      have hP2 := hP.out
      rw [hpe, List.append_nil] at hP2
      have HP2 := Lib.hid hP2
      clear hpe hP2 hln
      go_wp2
      go_ret
      exact ⟨A2, m2, c2, rfl, by rw [← HP2.out]; exact hO, hfr⟩
end Go.Proofs.YtppgceighgpgoaaGreatDoor.lenp
/-
  huff.Lengths: merged. My own text.
-/
namespace Go.Proofs.YtppgceighgpgoaaGreatDoor.lenp
open Go.RowKit Go.Proofs.YtppgceighgpgoaaGreatDoor.base Go.Proofs.YtppgceighgpgoaaGreatDoor.lennum Go.Proofs.YtppgceighgpgoaaGreatDoor.sortp
set_option linter.unusedVariables false

section
variable {P : Program}
theorem run_append_it_nothing (w : World) (base : Nat) (t ty : TypeId) (i : TypeInfo) (ht : P.underlying t = some (.slice tItem)) (hi : P.info? tItem = some i)
    (A : Option Addr) (n c : Nat) (xs : List Itm) (hown : OwnI w base A n c xs) (c' : Nat) : (Builtin.append_ #[t, t] ty #[.slice A n c, .slice none 0 c']).run P w = .ok (.slice A n c) w := by
  rcases hown.2 with ⟨hv, hn⟩ | ⟨g, cap, cur, hv, _, _, hnc, _⟩
  · rw [hv]
    simp [Builtin.append_, run_underlying ht, sizeOf, typeInfo, hi, Builtin.lenOf, Builtin.firstCells]
  · rw [hv]
    simp [Builtin.append_, run_underlying ht, sizeOf, typeInfo, hi, Builtin.lenOf, Builtin.firstCells, hnc, storeCells]
theorem icells_one (l : List Itm) : ∀ u ∈ icells l, u.oneCell' = true := by
  intro u hu
  obtain ⟨x, _, hx⟩ := List.mem_flatMap.1 hu
  exact icell_one x u hx
/-- append(own, src...): src nil, empty or not -/
theorem run_append_it (w : World) (base : Nat) (t ty : TypeId) (i : TypeInfo) (z : Value) (bytes : Nat) (ht : P.underlying t = some (.slice tItem)) (hi : P.info? tItem = some i) (hz : i.zero = some z)
    (hsize : i.size = 2) (hby : i.bytes = bytes) (hzs : z.cells.size = 2)
    (A : Option Addr) (n c : Nat) (xs : List Itm) (hown : OwnI w base A n c xs)
    (B : Nat) (D : Option Addr) (m d : Nat) (news : List Itm) (hr : RdI w B D m news)
    (h63 : n + m ≤ maxLen) (hbytes : (n + m) * bytes ≤ 140737488355328) (hbase : base ≤ w.heap.size) :
    ∃ A' c' w', (Builtin.append_ #[t, t] ty #[.slice A n c, .slice D m d]).run P w = .ok (.slice A' (n + m) c') w' ∧ OwnI w' base A' (n + m) c' (xs ++ news) ∧ w.grownBy w' (Value.slice A n c).ownBlock := by
  rcases D with _ | ad
  · have hm : m = 0 := by
      rcases Nat.eq_zero_or_pos m with h0 | h0
      · exact h0
      · obtain ⟨b, off, h, _⟩ := hr.2 h0
        cases h
    subst hm
    have hn : news = [] := List.eq_nil_of_length_eq_zero hr.1
    subst hn
    exact ⟨A, c, w, run_append_it_nothing w base t ty i ht hi A n c xs hown d, by simpa using hown, World.grownBy.refl w _⟩
  · have hcells : ∀ j u, (icells news)[j]? = some u → w.cell? (ad.add j) = some u := by
      intro j u hu
      rcases Nat.eq_zero_or_pos m with h0 | h0
      · subst h0
        have hn : news = [] := List.eq_nil_of_length_eq_zero hr.1
        subst hn
        simp [icells] at hu
      · obtain ⟨b, off, h, _, hc⟩ := hr.2 h0
        injection h with h
        subst h
        have hadd : (⟨b, off, none⟩ : Addr).add j = ⟨b, off + j, none⟩ := by unfold Addr.add; split <;> simp_all
        rw [hadd]
        exact hc j u hu
    obtain ⟨v', w', hrun, h2, h3, _, h5⟩ := run_append_own_at (P := P) w base t ty tItem i z 2 bytes ht hi hz hsize hby hzs (by omega) (.slice A n c) n (icells xs) hown ad m d (icells news) (by rw [icells_len, hr.1]) hcells (icells_one _) h63 hbytes hbase
    rw [← icells_append] at h2
    have hform : ∃ A' c', v' = .slice A' (n + m) c' := by
      rcases h2.2 with ⟨hv, hn⟩ | ⟨g, cap, cur, hv, _⟩
      · exact ⟨none, 0, by rw [hv, hn]⟩
      · exact ⟨_, cap, hv⟩
    obtain ⟨A', c', rfl⟩ := hform
    exact ⟨A', c', w', hrun, h2, h3⟩
theorem wpList_append_it (w : World) {ops : Array Oper} {rest : List Oper} {o : Oper} {a : Act} {Q : Exit → Act → World → Prop} (hgd : o.guard = none) (s x : Operand) (t : TypeId)
    (ho : o.op = .call { callee := .builtin .append, args := #[s, x], argTypes := #[t, t] })
    (base : Nat) (i : TypeInfo) (z : Value) (bytes : Nat) (ht : P.underlying t = some (.slice tItem)) (hi : P.info? tItem = some i) (hz : i.zero = some z)
    (hsize : i.size = 2) (hby : i.bytes = bytes) (hzs : z.cells.size = 2)
    (A : Option Addr) (n c : Nat) (xs : List Itm) (hs : a.eval s = .slice A n c) (hown : OwnI w base A n c xs)
    (B : Nat) (D : Option Addr) (m d : Nat) (news : List Itm) (hx : a.eval x = .slice D m d) (hr : RdI w B D m news)
    (h63 : n + m ≤ maxLen) (hbytes : (n + m) * bytes ≤ 140737488355328) (hbase : base ≤ w.heap.size)
    (h : ∀ A' c' w', OwnI w' base A' (n + m) c' (xs ++ news) → w.grownBy w' (Value.slice A n c).ownBlock → wpList P ops Q rest (a.put o.dst (.slice A' (n + m) c')) w') : wpList P ops Q (o :: rest) a w :=
  wpList_plain hgd fun _ hK => by
    obtain ⟨A', c', w', hrun, h2, h3⟩ := run_append_it (P := P) w base t o.type i z bytes ht hi hz hsize hby hzs A n c xs hown B D m d news hr h63 hbytes hbase
    unfold Oper.wp execOp
    simp only [ho, resolve, invoke, builtin, Sem.run_bind, Sem.run_pure, Result.andThen_ok, List.map_toArray, List.map_cons, List.map_nil, hs, hx, hrun]
    exact hK _ _ (h A' c' w' h2 h3)
end
theorem rd_lit_it (W : World) (x : Itm) : RdI (W.alloc (.cells #[.int .i64 x.1, .bool x.2] tItem)) (W.heap.size + 1) (some ⟨W.heap.size, 0, none⟩) 1 [x] := by
  refine ⟨rfl, fun _ => ⟨W.heap.size, 0, rfl, by omega, fun j u hu => ?_⟩⟩
  have h := World.news_of_block (cs := #[.int .i64 x.1, .bool x.2]) (t := tItem) (fr := (0, 0)) (heap_alloc_new W _) j u hu
  have hadd : (⟨W.heap.size, 0, none⟩ : Addr).add j = ⟨W.heap.size, 0 + j, none⟩ := by unfold Addr.add; split <;> simp_all
  rwa [hadd] at h
theorem merged_lt {u : Int} {W : List Int} {q : Itm} {r : List Itm} (h : q.1 < u) : merged (u :: W) (q :: r) = q :: merged (u :: W) r := by rw [merged, if_pos h]
theorem merged_ge {u : Int} {W : List Int} {q : Itm} {r : List Itm} (h : ¬ q.1 < u) : merged (u :: W) (q :: r) = (u, false) :: merged W (q :: r) := by rw [merged, if_neg h]
theorem merged_out {u : Int} {W : List Int} : merged (u :: W) [] = (u, false) :: merged W [] := by rw [merged]
set_option maxRecDepth 100000 in
set_option maxHeartbeats 16000000 in
theorem merged_any (S : Option Addr) (ns sc : Nat) (ss : List Int) (C : Option Addr) (nc cc : Nat) (cs : List Int) (P : Option Addr) (np cp B : Nat) (ps : List Itm) (w : World)
    (hS : Rd w B S ns (ss.map iv)) (hC : Rd w B C nc (cs.map iv)) (hP : RdI w B P np ps) (hcp : np ≤ cp) (hmp : cp ≤ maxLen) (hns : ns ≤ 1000) (hnp : np ≤ 1000) (hB : B ≤ w.heap.size) (hok : ∀ s ∈ ss, ok cs s) :
    Calls Tryz.prog 69 #[.slice S ns sc, .slice C nc cc, .slice P np cp] w fun e w' => ∃ A' m c', e = .returned (.slice A' m c') ∧ OwnI w' w.heap.size A' m c' (merged (ss.map (key cs)) ps) ∧ Fresh w w' := by
  obtain ⟨i0, hi0, hz0, hz1, hz2⟩ := info_parts itemInfo
  go_enter Tryz.func69, Tryz.ntmps69
  have HM := Lib.hid (show (ns : Int) + (np : Int) = ((ns + np : Nat) : Int) by omega)
  go_wp2_with (at_make; refine wpList_make_own _ rfl _ _ tItems rfl w.heap.size tItem i0 _ 2 Tryz.underlying99 hi0 hz0 hz1 _ _ _ (ns + np) rfl rfl HM.out (by rw [hz2]; omega) (by unfold maxLen; omega) (Nat.le_refl _) ?_; intro w1 hown1 hg1)
  have hf1 : Fresh w w1 := Below.grown (Fresh.refl w) hg1 (Nat.le_refl _) (fun k hk => by cases hk)
  have HS := Lib.hid hS
  have HC := Lib.hid hC
  have HOK := Lib.hid hok
  have hls : ss.length = ns := by have := hS.1; rwa [List.length_map] at this
  have hlc : cs.length = nc := by have := hC.1; rwa [List.length_map] at this
  clear hg1 hS hC hok
  go_loopw [2, 7, 18] (fun vp vo vi wr => ∃ (i : Nat) (A1 : Option Addr) (m1 c1 : Nat) (o : List Itm) (A2 : Option Addr) (n2 c2 : Nat) (p2 : List Itm), vi = .int .i64 i ∧ vo = .slice A1 m1 c1 ∧ vp = .slice A2 n2 c2 ∧ i ≤ ns ∧ m1 + n2 = i + np ∧ OwnI wr w.heap.size A1 m1 c1 o ∧ RdI wr B A2 n2 p2 ∧ n2 ≤ c2 ∧ Hid (c2 ≤ maxLen) ∧ Hid (o ++ merged ((ss.drop i).map (key cs)) p2 = merged (ss.map (key cs)) ps) ∧ Fresh w wr) (fun _ _ vi _ => ns - (intOf vi).toNat)
  case atStart => exact ⟨0, _, 0, _, [], P, np, cp, ps, rfl, rfl, rfl, Nat.zero_le _, by omega, hown1, hP.keep fun k hk => hf1.block k (by omega), hcp, hmp, rfl, hf1⟩
  case round =>
    obtain ⟨i, A1, m1, c1, o, A2, n2, c2, p2, rfl, rfl, rfl, hi, hmn, hO, hR, hc2, hm2, hG, hfr⟩ := hrel
    clear hown1 hf1
    by_cases hlt : i < ns
    · obtain ⟨b, off, s, hSe, hb, hs, hcs⟩ := HS.out.at_ hlt
      subst hSe
      have hsok := HOK.out s (List.mem_of_getElem? hs)
      obtain ⟨x, rfl⟩ := Int.eq_ofNat_of_zero_le hsok.1
      have hx2 : x < nc := by have := hsok.2; omega
      obtain ⟨cb, coff, u, hCe, hcb, hu, hcc⟩ := HC.out.at_ hx2
      subst hCe
      have hku : key cs (x : Int) = u := by unfold key; rw [Int.toNat_natCast, List.getD_eq_getElem?_getD, hu]; rfl
      have hdr : (ss.drop i).map (key cs) = u :: (ss.drop (i + 1)).map (key cs) := by
        obtain ⟨hl, e⟩ := List.getElem?_eq_some_iff.1 hs
        rw [List.drop_eq_getElem_cons hl, List.map_cons, e, hku]
      have HCS := Lib.hid (show ∀ W, Fresh w W → W.cell? ⟨b, off + i, none⟩ = some (.int .i64 (x : Int)) from fun W hW => (World.cell?_of_block (hW.block b (by omega))).trans hcs)
      have HCC := Lib.hid (show ∀ W, Fresh w W → W.cell? ⟨cb, coff + x, none⟩ = some (.int .i64 u) from fun W hW => (World.cell?_of_block (hW.block cb (by omega))).trans hcc)
      rw [hdr] at hG
      have hcell := HCS.out wr hfr
      have xi : (x : Int) < (nc : Int) := by omega
      have ii : (i : Int) < (ns : Int) := by omega
      clear hdr hcs hcc hu hs hsok hku
      go_wp2
      go_loopw [2, 7] (fun vp vo wr => ∃ (A1 : Option Addr) (m1 c1 : Nat) (o : List Itm) (A2 : Option Addr) (n2 c2 : Nat) (p2 : List Itm), vo = .slice A1 m1 c1 ∧ vp = .slice A2 n2 c2 ∧ m1 + n2 = i + np ∧ OwnI wr w.heap.size A1 m1 c1 o ∧ RdI wr B A2 n2 p2 ∧ n2 ≤ c2 ∧ Hid (c2 ≤ maxLen) ∧ Hid (o ++ merged (u :: (ss.drop (i + 1)).map (key cs)) p2 = merged (ss.map (key cs)) ps) ∧ Fresh w wr) (fun vp _ _ => match vp with | .slice _ n _ => n | _ => 0)
      case atStart => exact ⟨A1, m1, c1, o, A2, n2, c2, p2, rfl, rfl, hmn, hO, hR, hc2, hm2, hG, hfr⟩
      case round =>
        clear hO hR hc2 hm2 hG hfr hcell hmn
        obtain ⟨A3, m3, c3, o3, A4, n4, c4, p4, rfl, rfl, hmn, hO, hR, hc2, hm2, hG, hfr⟩ := hrel
        rename_i wq _ _ _
        have hcc := HCC.out _ hfr
        by_cases hn0 : 0 < n4
        · obtain ⟨q, r, rfl⟩ : ∃ q r, p4 = q :: r := by
            have := hR.1
            match p4, this with
            | q :: r, _ => exact ⟨q, r, rfl⟩
            | [], h => simp at h; omega
          have hcut := hR.cut (lo := 1) (hi := n4) (cap := c4) (by omega) (Nat.le_refl _) hc2
          obtain ⟨pb, poff, rfl, hpb, hpc⟩ := hR.2 hn0
          have cq := hpc 0 _ rfl
          have cq2 := hpc 1 _ rfl
          rw [Nat.add_zero] at cq
          have hqr : (List.drop 1 (q :: r)).take (n4 - 1) = r := by
            have hl := hR.1
            simp only [List.length_cons] at hl
            exact List.take_of_length_le (by simp; omega)
          rw [hqr] at hcut
          have n0i : (0 : Int) < (n4 : Int) := by omega
          have n1i : (1 : Int) ≤ (n4 : Int) := by omega
          have c4i : (n4 : Int) ≤ (c4 : Int) := by omega
          clear hpc hqr
          by_cases hqu : q.1 < u
          · go_wp2
            go_quiet (fail)
            have nn : (n4 : Int) - 1 = ((n4 - 1 : Nat) : Int) := by omega
            have nc4 : (c4 : Int) - 1 = ((c4 - 1 : Nat) : Int) := by omega
            go_wp2_with (at_builtin; go_loud (refine wpList_append_it _ rfl _ _ tItems rfl w.heap.size i0 _ 16 Tryz.underlying99 hi0 hz0 hz1 hz2 rfl A3 m3 c3 o3 rfl ((hO.fresh (Fresh.drewN _ _)).fresh (Fresh.alloc _ _)) _ _ 1 1 [q] rfl (rd_lit_it (wr.drewN nq) q) (by unfold maxLen; omega) (by omega) (by have := hfr.size; simp; omega) ?_); intro A5 c5 w5 hown5 hg5; have hf5 : Fresh w w5 := grown_fresh ((hfr.trans (Fresh.drewN _ _)).trans (Fresh.alloc _ _)) ((hO.fresh (Fresh.drewN _ nq)).fresh (Fresh.alloc _ _)) hg5; clear hg5)
            have hx4 : (if c4 = 1 then some (⟨pb, poff, none⟩ : Addr) else some (⟨pb, poff + 2, none⟩ : Addr)) = (if c4 = 1 then some (⟨pb, poff, none⟩ : Addr) else Option.map (fun x : Addr => x.add (1 * 2)) (some (⟨pb, poff, none⟩ : Addr))) := rfl
            refine ⟨⟨A5, m3 + 1, c5, o3 ++ [q], _, n4 - 1, c4 - 1, r, rfl, rfl, by omega, hown5, by rw [hx4]; exact hcut.keep fun k hk => (hf5.block k (by omega)).trans (hfr.block k (by omega)).symm, by omega, Lib.hid (by have := hm2.out; omega), Lib.hid (by have := hG.out; rw [merged_lt hqu] at this; rw [List.append_assoc]; exact this), hf5⟩, ?_⟩
            show n4 - 1 < n4
            omega
          · go_wp2
            go_quiet (fail)
            have hcc5 := hcc
            go_wp2_with (at_builtin; go_loud (refine wpList_append_it _ rfl _ _ tItems rfl w.heap.size i0 _ 16 Tryz.underlying99 hi0 hz0 hz1 hz2 rfl A3 m3 c3 o3 rfl ((hO.fresh (Fresh.drewN _ _)).fresh (Fresh.alloc _ _)) _ _ 1 1 [(u, false)] rfl (rd_lit_it (wr.drewN nq) (u, false)) (by unfold maxLen; omega) (by omega) (by have := hfr.size; simp; omega) ?_); intro A5 c5 w5 hown5 hg5; have hf5 : Fresh w w5 := grown_fresh ((hfr.trans (Fresh.drewN _ _)).trans (Fresh.alloc _ _)) ((hO.fresh (Fresh.drewN _ nq)).fresh (Fresh.alloc _ _)) hg5; clear hg5)
            refine ⟨⟨i + 1, A5, m3 + 1, c5, o3 ++ [(u, false)], _, n4, c4, q :: r, rfl, rfl, rfl, by omega, by omega, hown5, hR.keep fun k hk => (hf5.block k (by omega)).trans (hfr.block k (by omega)).symm, hc2, hm2, Lib.hid (by have := hG.out; rw [merged_ge (Int.not_lt.2 hqu)] at this; rw [List.append_assoc]; exact this), hf5⟩, ?_⟩
            show ns - ((i : Int) + 1).toNat < ns - ((i : Int)).toNat
            omega

        · have hp4 : p4 = [] := List.eq_nil_of_length_eq_zero (by have := hR.1; omega)
          subst hp4
          have hn4 : n4 = 0 := by omega
          subst hn4
          go_wp2
          go_quiet (fail)
          have hcc5 := hcc
          go_wp2_with (at_builtin; go_loud (refine wpList_append_it _ rfl _ _ tItems rfl w.heap.size i0 _ 16 Tryz.underlying99 hi0 hz0 hz1 hz2 rfl A3 m3 c3 o3 rfl ((hO.fresh (Fresh.drewN _ _)).fresh (Fresh.alloc _ _)) _ _ 1 1 [(u, false)] rfl (rd_lit_it (wr.drewN nq) (u, false)) (by unfold maxLen; omega) (by omega) (by have := hfr.size; simp; omega) ?_); intro A5 c5 w5 hown5 hg5; have hf5 : Fresh w w5 := grown_fresh ((hfr.trans (Fresh.drewN _ _)).trans (Fresh.alloc _ _)) ((hO.fresh (Fresh.drewN _ nq)).fresh (Fresh.alloc _ _)) hg5; clear hg5)
          refine ⟨⟨i + 1, A5, m3 + 1, c5, o3 ++ [(u, false)], A4, 0, c4, [], rfl, rfl, rfl, by omega, by omega, hown5, hR.keep fun k hk => (hf5.block k (by omega)).trans (hfr.block k (by omega)).symm, hc2, hm2, Lib.hid (by have := hG.out; rw [merged_out] at this; rw [List.append_assoc]; exact this), hf5⟩, ?_⟩
          show ns - ((i : Int) + 1).toNat < ns - ((i : Int)).toNat
          omega

    · have hin : i = ns := by omega
      subst hin
      have hG2 := hG.out
      rw [List.drop_eq_nil_of_le (by omega)] at hG2
      rw [show merged (List.map (key cs) []) p2 = p2 from by rw [List.map_nil, merged]] at hG2
      go_wp2_with (at_builtin; go_loud (refine wpList_append_it _ rfl _ _ tItems rfl w.heap.size i0 _ 16 Tryz.underlying99 hi0 hz0 hz1 hz2 rfl A1 m1 c1 o rfl hO B A2 n2 c2 p2 rfl hR (by unfold maxLen; omega) (by omega) (by have := hfr.size; omega) ?_); intro A5 c5 w5 hown5 hg5; have hf5 : Fresh w w5 := grown_fresh hfr hO hg5; clear hg5)
      go_ret
      exact ⟨A5, _, c5, rfl, by rw [show merged (List.map (key cs) ss) ps = o ++ p2 from hG2.symm]; rw [hmn] at hown5; exact hown5, hf5⟩
end Go.Proofs.YtppgceighgpgoaaGreatDoor.lenp
/-
  huff.Lengths: levelsOf. My own text.
-/
namespace Go.Proofs.YtppgceighgpgoaaGreatDoor.lenp
open Go.RowKit Go.Proofs.YtppgceighgpgoaaGreatDoor.base Go.Proofs.YtppgceighgpgoaaGreatDoor.lennum Go.Proofs.YtppgceighgpgoaaGreatDoor.sortp
set_option linter.unusedVariables false

abbrev tLevels : TypeId := 100
theorem OwnI.low {w : World} {base base' : Nat} {A : Option Addr} {n c : Nat} {l : List Itm} (h : OwnI w base A n c l) (hb : base' ≤ base) : OwnI w base' A n c l :=
  ⟨h.1, h.2.imp id fun ⟨g, cap, cur, h1, h2, h3⟩ => ⟨g, cap, cur, h1, Nat.le_trans hb h2, h3⟩⟩
theorem OwnI.but {w w' : World} {base g n c : Nat} {A : Option Addr} {l : List Itm} (h : OwnI w base A n c l) (k : But g w w') (hg : g < base) : OwnI w' base A n c l :=
  World.ownsRow.kept h k (.inr fun e => by have := (World.ownsRow.lt h g e).1; omega)
theorem levelsInfo : (Tryz.prog.info? tLevels).map (·.size) = some 15 := by kernel_rfl
/-- what lies behind a level -/
def behind (ws : List Int) : Nat → List Itm
  | 0 => []
  | k + 1 => paired (lev ws k)
theorem lev_is (ws : List Int) (k : Nat) : merged ws (behind ws k) = lev ws k := by cases k <;> rfl
theorem lev_short (ws : List Int) (k : Nat) : (lev ws k).length ≤ 2 * ws.length := by obtain ⟨d, h, _⟩ := lev_enough ws k; omega
theorem behind_short (ws : List Int) : ∀ k, (behind ws k).length ≤ ws.length
  | 0 => Nat.zero_le _
  | k + 1 => by show (paired (lev ws k)).length ≤ _; rw [paired_len]; have := lev_short ws k; omega
set_option maxRecDepth 100000 in
set_option maxHeartbeats 16000000 in
theorem levels_any (S : Option Addr) (ns sc : Nat) (ss : List Int) (C : Option Addr) (nc cc : Nat) (cs : List Int) (B most : Nat) (w : World)
    (hS : Rd w B S ns (ss.map iv)) (hC : Rd w B C nc (cs.map iv)) (hns : ns ≤ 500) (hm1 : 1 ≤ most) (hm2 : most ≤ 15) (hB : B ≤ w.heap.size) (hok : ∀ s ∈ ss, ok cs s) (hws : Ws (ss.map (key cs))) :
    Calls Tryz.prog 46 #[.slice S ns sc, .slice C nc cc, .int .i64 most] w fun e w' => ∃ vs : List Value, e = .returned (.agg vs.toArray) ∧ vs.length = 15 ∧ (∀ v ∈ vs, v.oneCell' = true) ∧ Fresh w w' ∧ ∀ k, k < most → ∃ A m c, vs[most - 1 - k]? = some (.slice A m c) ∧ OwnI w' w.heap.size A m c (lev (ss.map (key cs)) k) := by
  have hls : (ss.map (key cs)).length = ns := by have := hS.1; rw [List.length_map] at this ⊢; exact this
  obtain ⟨ws, hwd⟩ : ∃ ws, ss.map (key cs) = ws := ⟨_, rfl⟩
  have HMG := Lib.hid (fun (A2 : Option Addr) (n2 c2 : Nat) (l2 : List Itm) (wr : World) (hf : Fresh w wr) (hR : RdI wr wr.heap.size A2 n2 l2) (h1 : n2 ≤ c2) (h2 : c2 ≤ maxLen) (h3 : n2 ≤ 1000) => merged_any S ns sc ss C nc cc cs A2 n2 c2 wr.heap.size l2 wr ((hS.keep fun k hk => hf.block k (by omega)).up (by have := hf.size; omega)) ((hC.keep fun k hk => hf.block k (by omega)).up (by have := hf.size; omega)) hR h1 h2 (by omega) h3 (Nat.le_refl _) hok)
  rw [hwd] at hls hws HMG ⊢
  have HWS := Lib.hid hws
  clear hS hC hok hwd hws
  obtain ⟨G, hGd⟩ : ∃ G, w.heap.size + 1 = G := ⟨_, rfl⟩
  go_enter Tryz.func46, Tryz.ntmps46
  go_wp2
  have hmk : ∀ (o : Obj) (t : TypeId) (cs : Array Value), Bk ((w.alloc o).alloc (.cells cs t)) G t cs.toList := fun o t cs => by
    have h := Bk.made (w.alloc o) t cs
    rwa [show (w.alloc o).heap.size = G from by rw [← hGd]; simp] at h
  go_loopw [8, 9] (fun vp vi wr => ∃ (p j : Nat) (vs : List Value) (A2 : Option Addr) (n2 c2 : Nat), vi = .int .i64 ((p : Int) - 1) ∧ vp = .slice A2 n2 c2 ∧ Hid (p + j = most) ∧ p ≤ 15 ∧ Hid (vs.length = 15) ∧ Bk wr G tLevels vs ∧ OwnI wr (G + 1) A2 n2 c2 (behind ws j) ∧ Hid (∀ k, k < j → ∃ A m c, vs[most - 1 - k]? = some (.slice A m c) ∧ OwnI wr (G + 1) A m c (lev ws k)) ∧ Hid (Bk wr w.heap.size tLevels (List.replicate 15 (.slice none 0 0))) ∧ Hid (∀ v ∈ vs, v.oneCell' = true) ∧ Fresh w wr) (fun _ vi _ => (intOf vi + 1).toNat)
  case atStart => exact ⟨most, 0, List.replicate 15 (.slice none 0 0), none, 0, 0, rfl, rfl, rfl, hm2, rfl, hmk _ _ _, OwnI.nil _ _, Lib.hid (fun k hk => absurd hk (by omega)), Lib.hid (by exact (Bk.made w _ _).alloc _), Lib.hid (fun v hv => by rw [(List.mem_replicate.1 hv).2]; rfl), (Fresh.alloc _ _).trans (Fresh.alloc _ _)⟩
  case round =>
    obtain ⟨p, j, vs, A2, n2, c2, rfl, rfl, hpj, hp, hvl, hBk, hO, hL, hRes, hOne, hfr⟩ := hrel
    have hGw : G < wr.heap.size := hBk.inside
    by_cases hp0 : 0 < p
    · obtain ⟨q, rfl⟩ : ∃ q, p = q + 1 := ⟨p - 1, by omega⟩
      have eq1 : ((q + 1 : Nat) : Int) - 1 = (q : Int) := by omega
      rw [eq1]
      have hn2 : n2 ≤ ns := by have := behind_short ws j; have := hO.len; omega
      have hmg := HMG.out A2 n2 c2 (behind ws j) wr hfr hO.rd hO.cap.1 hO.cap.2 (by omega)
      rw [lev_is] at hmg
      have HMR := Lib.hid hmg
      have HBK := Lib.hid hBk
      have HO := Lib.hid hO
      have HFR := Lib.hid hfr
      have qi : (0 : Int) ≤ (q : Int) := by omega
      have q15 : (q : Int) < 15 := by omega
      clear hmg hBk hO hfr
      go_wp2_with (first
        | (go_at_call 69; (with_reducible refine HMR.out.mono ?_); rintro e w2 ⟨A3, m3, c3, rfl, hO3, hf3⟩; have hB3 := HBK.out.fresh hf3; have hfz := hB3.free q; have hcw : w2.cell? ⟨G, q, none⟩ = some _ := hB3.cell (List.getElem?_eq_getElem (by have := hvl.out; omega)); have hP3 := hB3.put q (.slice A3 m3 c3); have hc3 : (w2.setCell ⟨G, q, none⟩ (.slice A3 m3 c3)).cell? ⟨G, q, none⟩ = some (.slice A3 m3 c3) := hP3.cell (by rw [List.getElem?_set_self (by have := hvl.out; omega)]); have hO4 : OwnI (w2.setCell ⟨G, q, none⟩ (.slice A3 m3 c3)) (G + 1) A3 m3 c3 (lev ws j) := (hO3.low (by omega)).but (But.put _ _) (by omega); have HO4 := Lib.hid hO4; have HP3 := Lib.hid hP3; have HF3 := Lib.hid hf3; clear hB3 hO4 hP3 hO3 hf3)
        | (go_at_call 70; (refine (paired_any A3 m3 c3 _ (lev ws j) _ HO4.out.rd HO4.out.cap.1 HO4.out.cap.2 (by have := HO4.out.len; have := lev_short ws j; omega) (Nat.le_refl _) (lev_fine HWS.out j)).mono ?_); rintro e w5 ⟨A5, m5, c5, rfl, hO5, hf5⟩))
      refine ⟨⟨q, j + 1, vs.set q (.slice A3 m3 c3), A5, m5, c5, rfl, rfl, Lib.hid (by have := hpj.out; omega), by omega, Lib.hid (by rw [List.length_set]; exact hvl.out), HP3.out.fresh hf5, hO5.low (by have := HP3.out.inside; omega), Lib.hid fun k hk => ?_, Lib.hid ((((hRes.out.fresh HF3.out).old ((But.put (g := G) (i := q) w2 _).block _ (by have := HF3.out.size; have := hRes.out.inside; omega) (by simp; omega))).fresh hf5)), Lib.hid (fun v hv => by rcases List.mem_or_eq_of_mem_set hv with h | rfl; exact hOne.out v h; rfl), ((HFR.out.trans HF3.out).but (by omega) (But.put _ _)).trans hf5⟩, ?_⟩
      · by_cases hkj : k = j
        · subst hkj
          refine ⟨A3, m3, c3, ?_, HO4.out.fresh hf5⟩
          rw [show most - 1 - k = q from by have := hpj.out; omega]
          exact List.getElem?_set_self (by have := hvl.out; omega)
        · obtain ⟨A, m, c, h1, h2⟩ := hL.out k (by omega)
          refine ⟨A, m, c, ?_, ((h2.fresh HF3.out).but (But.put _ _) (by omega)).fresh hf5⟩
          rw [List.getElem?_set_ne (by have := hpj.out; omega)]
          exact h1
      · show ((q : Int) - 1 + 1).toNat < ((q : Int) + 1).toNat
        omega
    · have hp1 : p = 0 := by omega
      subst hp1
      have e0 : ((0 : Nat) : Int) - 1 = -1 := by omega
      rw [e0]
      have hjm : j = most := by have := hpj.out; omega
      subst hjm
      go_wp2_with (first
        | (with_reducible (refine at_slot_ 26 ?_); refine wpList_load_blk rfl _ _ rfl G 0 15 tLevels vs rfl hBk (by have := hvl.out; omega) _ Tryz.underlying100 rfl levelsInfo ?_; rw [show (vs.drop 0).take 15 = vs from List.take_of_length_le (by have := hvl.out; simp; omega)])
        | ((with_reducible (refine at_store_ 6 26 ?_)); refine wpList_store_blk rfl tLevels (.tmp 6) (.tmp 26) rfl w.heap.size 0 tLevels _ vs rfl rfl hRes.out (by have := hvl.out; simp; omega) hOne.out (by rw [levelsInfo, hvl.out]) ?_; intro w6 hb6 hbut6))
      have hsp : splice (List.replicate 15 (Value.slice none 0 0)) 0 vs = vs := by
        unfold splice
        rw [List.take_zero, List.nil_append, List.drop_of_length_le (by have := hvl.out; simp; omega), List.append_nil]
      rw [hsp] at hb6
      have hf6 : Fresh w w6 := hfr.but (Nat.le_refl _) hbut6
      exact bodyPost_ret (results_cell_row (p := 6) (by kernel_rfl) _ _ w.heap.size tLevels vs.toArray (0, 0) _ rfl hb6 Tryz.underlying100 rfl (by rw [levelsInfo, List.size_toArray, hvl.out])) rfl ⟨vs, rfl, hvl.out, hOne.out, hf6, fun k hk => by
        obtain ⟨A, m, c, h1, h2⟩ := hL.out k hk
        exact ⟨A, m, c, h1, (h2.but hbut6 (by omega)).low (by omega)⟩⟩
end Go.Proofs.YtppgceighgpgoaaGreatDoor.lenp
