/-
  Batches of pages, as bytes: plain mathematics on numbers and bytes, over no program. My own text.
-/
import Derived.Test.YtcfijppfccfbdaaPagNum
namespace Go.Proofs.Ytcfijppfccfbdaa.waln
open Go.Proofs.Ytcfijppfccfbdaa.crcnum Go.Proofs.Ytcfijppfccfbdaa.num Go.Proofs.Ytcfijppfccfbdaa.pagn

/-- may a number be a page's? -/
def fitN (z : Int) : Bool := decide (0 ≤ z ∧ z < 16777216)
/-- a page: its number, its bytes -/
abbrev Pg := Int × List UInt8
def cell (p : Pg) : List UInt8 := low 4 (u64 p.1) ++ p.2
def body (l : List Pg) : List UInt8 := l.flatMap cell
def mk4 : List UInt8 := [105, 113, 106, 49]
def head (n : Nat) : List UInt8 := mk4 ++ low 4 n
def bat (l : List Pg) : List UInt8 := head l.length ++ body l
def batch (l : List Pg) : List UInt8 := bat l ++ low 4 (sum (bat l))

/-- numbers that rise, and may be -/
def rise : Int → List Int → Bool
  | _, [] => true
  | q, z :: r => decide (q < z) && (fitN z && rise z r)
def right (l : List Pg) : Bool := l.all (fun p => decide (p.2.length = 512)) && (decide (l.length ≤ 4096) && rise (-1) (l.map Prod.fst))

/-- the pages that stand in bytes, one behind the other -/
def pg (c : List UInt8) (i : Nat) : Pg := ((num ((c.drop (516 * i)).take 4) : Nat), (c.drop (516 * i + 4)).take 512)
def pgs (n : Nat) (c : List UInt8) : List Pg := (List.range n).map (pg c)
theorem pgs_len (n : Nat) (c : List UInt8) : (pgs n c).length = n := by simp [pgs]

/-- what is got -/
inductive Got where
  | bad (e : Nat)
  | ok (l : List Pg)
/-- how many, as far as the head tells: the number, the error -/
def told (b : List UInt8) : Nat × Nat :=
  if b.length < 4 then (0, 3) else if b.take 4 = mk4 then (if b.length < 8 then (0, 3) else if 4096 < num ((b.drop 4).take 4) then (0, 4) else (num ((b.drop 4).take 4), 0)) else (0, 4)
def behind (n : Nat) (b : List UInt8) : Got :=
  if b.length < 12 + 516 * n then .bad 3
  else if num ((b.drop (8 + 516 * n)).take 4) = sum (b.take (8 + 516 * n)) then (if rise (-1) ((pgs n (b.drop 8)).map Prod.fst) = true then .ok (pgs n (b.drop 8)) else .bad 4)
  else .bad 5
def get (b : List UInt8) : Got := if (told b).2 = 0 then behind (told b).1 b else .bad (told b).2

theorem told_le (b : List UInt8) : (told b).1 ≤ 4096 := by
  unfold told
  split
  · simp
  · split
    · split
      · simp
      · split
        · simp
        · simp only
          omega
    · simp

theorem cell_len (p : Pg) (h : p.2.length = 512) : (cell p).length = 516 := by rw [cell, List.length_append, low_length, h]
theorem body_len (l : List Pg) (h : ∀ p ∈ l, p.2.length = 512) : (body l).length = 516 * l.length := by
  induction l with
  | nil => rfl
  | cons p r ih =>
    rw [body, List.flatMap_cons, List.length_append, cell_len p (h p (by simp)), List.length_cons]
    have := ih fun q hq => h q (by simp [hq])
    rw [body] at this
    omega
theorem body_cons (p : Pg) (r : List Pg) : body (p :: r) = cell p ++ body r := rfl
theorem body_drop (l : List Pg) (h : ∀ p ∈ l, p.2.length = 512) (more : List UInt8) (i : Nat) (hi : i ≤ l.length) : (body l ++ more).drop (516 * i) = body (l.drop i) ++ more := by
  induction l generalizing i with
  | nil => have : i = 0 := by simpa using hi
           subst this; rfl
  | cons p r ih =>
    cases i with
    | zero => rfl
    | succ i =>
      have hc := cell_len p (h p (by simp))
      have := ih (fun q hq => h q (by simp [hq])) i (by simpa using hi)
      rw [body_cons, List.append_assoc, List.drop_succ_cons, ← this, show 516 * (i + 1) = 516 + 516 * i from by omega, ← List.drop_drop, List.drop_left' hc]

theorem right_all {l : List Pg} (h : right l = true) : (∀ p ∈ l, p.2.length = 512) ∧ l.length ≤ 4096 ∧ rise (-1) (l.map Prod.fst) = true := by
  simp only [right, Bool.and_eq_true, List.all_eq_true, decide_eq_true_eq] at h
  exact ⟨h.1, h.2.1, h.2.2⟩
theorem rise_fit {q : Int} {l : List Int} (h : rise q l = true) : ∀ z ∈ l, 0 ≤ z ∧ z < 16777216 := by
  induction l generalizing q with
  | nil => intro z hz; cases hz
  | cons y r ih =>
    simp only [rise, fitN, Bool.and_eq_true, decide_eq_true_eq] at h
    intro z hz
    rcases List.mem_cons.1 hz with rfl | hz
    · exact h.2.1
    · exact ih h.2.2 z hz
theorem num_low4 (z : Int) (h : 0 ≤ z ∧ z < 16777216) : ((num (low 4 (u64 z)) : Nat) : Int) = z := by
  rw [num_low]
  unfold u64
  omega
theorem pg_at (l : List Pg) (h : right l = true) (more : List UInt8) (i : Nat) (p : Pg) (hp : l[i]? = some p) : pg (body l ++ more) i = p := by
  obtain ⟨h1, _, h3⟩ := right_all h
  obtain ⟨hi, e⟩ := List.getElem?_eq_some_iff.1 hp
  have hm : p ∈ l := List.mem_of_getElem? hp
  have hd := body_drop l h1 more i (by omega)
  rw [List.drop_eq_getElem_cons hi, e, body_cons, List.append_assoc] at hd
  have hl := h1 p hm
  have hz := rise_fit h3 p.1 (List.mem_map_of_mem hm)
  unfold pg
  rw [← List.drop_drop, hd, cell, List.append_assoc, List.take_left' (low_length _ _), List.drop_left' (low_length _ _), List.take_left' hl, num_low4 _ hz]
theorem pgs_body (l : List Pg) (h : right l = true) (more : List UInt8) : pgs l.length (body l ++ more) = l := by
  refine List.ext_getElem? fun i => ?_
  by_cases hi : i < l.length
  · have hp : l[i]? = some l[i] := List.getElem?_eq_getElem hi
    rw [hp, pgs, List.getElem?_map, List.getElem?_range hi, Option.map_some, pg_at l h more i _ hp]
  · rw [List.getElem?_eq_none (by rw [pgs_len]; omega), List.getElem?_eq_none (by omega)]

theorem mk4_len : mk4.length = 4 := rfl
theorem head_len (n : Nat) : (head n).length = 8 := by rw [head, List.length_append, low_length]; rfl
theorem bat_len (l : List Pg) (h : ∀ p ∈ l, p.2.length = 512) : (bat l).length = 8 + 516 * l.length := by rw [bat, List.length_append, head_len, body_len l h]
theorem batch_len (l : List Pg) (h : ∀ p ∈ l, p.2.length = 512) : (batch l).length = 12 + 516 * l.length := by rw [batch, List.length_append, low_length, bat_len l h]; omega
theorem head_take (n : Nat) (more : List UInt8) : (head n ++ more).take 4 = mk4 := by rw [head, List.append_assoc, List.take_left' mk4_len]
theorem head_num (n : Nat) (h : n ≤ 4096) (more : List UInt8) : num (((head n ++ more).drop 4).take 4) = n := by
  rw [head, List.append_assoc, List.drop_left' mk4_len, List.take_left' (low_length _ _), num_low]
  omega
theorem told_head (n : Nat) (h : n ≤ 4096) (more : List UInt8) : told (head n ++ more) = (n, 0) := by
  have hl : (head n ++ more).length = 8 + more.length := by rw [List.length_append, head_len]
  unfold told
  rw [if_neg (by omega), if_pos (head_take n more), if_neg (by omega), head_num n h more, if_neg (by omega)]

/-- what is put is got, whatever is behind -/
theorem get_batch (l : List Pg) (h : right l = true) (more : List UInt8) : get (batch l ++ more) = .ok l := by
  obtain ⟨h1, h2, h3⟩ := right_all h
  have e1 : batch l ++ more = head l.length ++ (body l ++ (low 4 (sum (bat l)) ++ more)) := by simp [batch, bat]
  have e2 : batch l ++ more = bat l ++ (low 4 (sum (bat l)) ++ more) := by simp [batch]
  have hb := bat_len l h1
  have hl := batch_len l h1
  have hs := sum_lt (bat l)
  have ht : told (batch l ++ more) = (l.length, 0) := by rw [e1, told_head _ h2]
  unfold get
  rw [ht, if_pos rfl]
  unfold behind
  rw [if_neg (by rw [List.length_append, hl]; omega), e2, List.drop_left' hb, List.take_left' hb, List.take_left' (low_length _ _), num_low, if_pos (by omega), ← e2, e1, List.drop_left' (head_len _), pgs_body l h, if_pos h3]

/-- no beginning of it is -/
theorem get_cut (l : List Pg) (h : right l = true) (k : Nat) (hk : k < (batch l).length) : get ((batch l).take k) = .bad 3 := by
  obtain ⟨h1, h2, h3⟩ := right_all h
  have hl := batch_len l h1
  have hlen : ((batch l).take k).length = k := by rw [List.length_take]; omega
  have e1 : batch l = head l.length ++ (body l ++ low 4 (sum (bat l))) := by simp [batch, bat]
  unfold get
  by_cases h4 : k < 4
  · have ht : told ((batch l).take k) = (0, 3) := by unfold told; rw [if_pos (by omega)]
    rw [ht, if_neg (by simp)]
  · have hm : ((batch l).take k).take 4 = mk4 := by rw [List.take_take, Nat.min_eq_left (by omega), e1, head_take]
    by_cases h8 : k < 8
    · have ht : told ((batch l).take k) = (0, 3) := by unfold told; rw [if_neg (by omega), if_pos hm, if_pos (by omega)]
      rw [ht, if_neg (by simp)]
    · have hn : num ((((batch l).take k).drop 4).take 4) = l.length := by
        rw [List.drop_take, List.take_take, Nat.min_eq_left (by omega), e1, head_num _ h2]
      have ht : told ((batch l).take k) = (l.length, 0) := by unfold told; rw [if_neg (by omega), if_pos hm, if_neg (by omega), hn, if_neg (by omega)]
      rw [ht, if_pos rfl]
      unfold behind
      rw [if_pos (by omega)]

/-- what a text and its sum come to is one number -/
theorem sum_own (f : List UInt8) : sum (f ++ low 4 (sum f)) = 4294967295 - res := by
  unfold sum
  rw [over_append, over_low _ _ (by omega), res_is]
  have hq := over_lt f (n := 4294967295) (by omega)
  generalize over 4294967295 f = q at *
  rw [← not_xor q hq, Nat.xor_comm 4294967295, ← Nat.xor_assoc, Nat.xor_self, Nat.zero_xor]

/-- turned behind its head, it isn't one -/
theorem get_turn (l : List Pg) (h : right l = true) (k w : Nat) (hk : 8 ≤ k) (hk2 : k + 4 ≤ (batch l).length) (hw : w < 4294967296) (h0 : w ≠ 0) : ∃ e, get (turn (batch l) k w 4) = .bad (e + 1) := by
  obtain ⟨h1, h2, h3⟩ := right_all h
  have hl := batch_len l h1
  have hb := bat_len l h1
  have e1 : batch l = head l.length ++ (body l ++ low 4 (sum (bat l))) := by simp [batch, bat]
  have hne := sum_turned (batch l) k w hk2 hw h0
  have htl : (turn (batch l) k w 4).length = 12 + 516 * l.length := by rw [turn_length, hl]
  have ht8 : (turn (batch l) k w 4).take 8 = head l.length := by
    have : (turn (batch l) k w 4).take 8 = (batch l).take 8 := by
      refine List.ext_getElem? fun i => ?_
      rw [List.getElem?_take, List.getElem?_take]
      split
      · exact turn_ahead _ _ _ _ _ (.inl (by omega))
      · rfl
    rw [this, e1, List.take_left' (head_len _)]
  generalize turn (batch l) k w 4 = b at *
  have e2 : b = head l.length ++ b.drop 8 := by rw [← ht8, List.take_append_drop]
  have ht : told b = (l.length, 0) := by rw [e2, told_head _ h2]
  unfold get
  rw [ht, if_pos rfl]
  unfold behind
  rw [if_neg (by omega)]
  by_cases hs : num ((b.drop (8 + 516 * l.length)).take 4) = sum (b.take (8 + 516 * l.length))
  · exfalso
    have hd : (b.drop (8 + 516 * l.length)).length = 4 := by rw [List.length_drop]; omega
    rw [List.take_of_length_le (by omega)] at hs
    have h5 := low_num (b.drop (8 + 516 * l.length))
    rw [hd, hs] at h5
    have h6 : b = b.take (8 + 516 * l.length) ++ low 4 (sum (b.take (8 + 516 * l.length))) := by rw [h5, List.take_append_drop]
    rw [h6, sum_own, batch, sum_own] at hne
    exact hne rfl
  · rw [if_neg hs]
    exact ⟨4, rfl⟩

/-- as bytes, as a number: the same sum -/
theorem sum_bytes (s : List UInt8) (hs : s.length = 4) (S : Nat) (hS : S < 4294967296) : (low 4 S = s) ↔ num s = S := by
  constructor
  · intro h
    rw [← h, num_low]
    omega
  · intro h
    have := low_num s
    rwa [hs, h] at this
end Go.Proofs.Ytcfijppfccfbdaa.waln
