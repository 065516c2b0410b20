import Derived.Test.YtppgceighgpgoaaGreatDoorMgNum
/- Several of my own texts, one behind the other. -/
/-
  What unpacking all of it tells; bytes in blocks that are only stored: plain mathematics, over no program. My own text.
-/
namespace Go.Proofs.YtppgceighgpgoaaGreatDoor.infnum
open Go.Proofs.YtppgceighgpgoaaGreatDoor.num Go.Proofs.YtppgceighgpgoaaGreatDoor.bitnum Go.Proofs.YtppgceighgpgoaaGreatDoor.huffnum
set_option linter.unusedVariables false

/-- an answer: the bytes, and how many were needed; more than may be; an error -/
inductive Ans where
  | ok (x : List UInt8) (n : Nat)
  | long
  | bad (e : Nat)
def Tells (b : List UInt8) (most : Nat) : Ans → Prop
  | .ok x n => Unp b x n ∧ x.length ≤ most
  | .long => ∃ s p, Steps (num b) (8 * b.length) (start, 0) (s, p) ∧ most < s.out.length
  | .bad e => ∃ s p, Steps (num b) (8 * b.length) (start, 0) (s, p) ∧ ¬ Fin s ∧ one s (num b) (8 * b.length) p = .error e ∧ s.out.length ≤ most
theorem stuck_of {s : At} {U T p e : Nat} (h : one s U T p = .error e) {y : At × Nat} (k : Steps U T (s, p) y) : y = (s, p) := by
  cases k with
  | refl => rfl
  | more h' r => rw [h] at h'; cases h'
theorem out_le {U T : Nat} {x y : At × Nat} (h : Steps U T x y) : x.1.out.length ≤ y.1.out.length := by
  obtain ⟨m, hm⟩ := h.out
  rw [hm, List.length_append]; omega
section
variable {b : List UInt8} {most : Nat}
theorem not_ok_long {x : List UInt8} {n : Nat} (h : Tells b most (.ok x n)) (k : Tells b most .long) : False := by
  obtain ⟨⟨s, p, hs, hf, rfl, _, _⟩, hle⟩ := h
  obtain ⟨s', p', hs', hl⟩ := k
  rcases hs.meet hs' with h | h
  · have := hf.stuck h
    injection this with h1 h2
    subst h1; omega
  · have := out_le h
    simp only at this
    omega
theorem not_ok_bad {x : List UInt8} {n e : Nat} (h : Tells b most (.ok x n)) (k : Tells b most (.bad e)) : False := by
  obtain ⟨⟨s, p, hs, hf, rfl, _, _⟩, hle⟩ := h
  obtain ⟨s', p', hs', hn, he, hl⟩ := k
  rcases hs.meet hs' with h | h
  · have := hf.stuck h
    injection this with h1 h2
    subst h1; exact hn hf
  · have := stuck_of he h
    injection this with h1 h2
    subst h1; exact hn hf
theorem not_long_bad {e : Nat} (h : Tells b most .long) (k : Tells b most (.bad e)) : False := by
  obtain ⟨s, p, hs, hl⟩ := h
  obtain ⟨s', p', hs', hn, he, hl'⟩ := k
  rcases hs.meet hs' with h | h
  · have := out_le h
    simp only at this
    omega
  · have := stuck_of he h
    injection this with h1 h2
    subst h1; omega
theorem bad_bad {e e' : Nat} (h : Tells b most (.bad e)) (k : Tells b most (.bad e')) : e = e' := by
  obtain ⟨s, p, hs, hn, he, hl⟩ := h
  obtain ⟨s', p', hs', hn', he', hl'⟩ := k
  rcases hs.meet hs' with h | h
  · have := stuck_of he h
    injection this with h1 h2
    subst h1; subst h2
    rw [he] at he'; injection he'
  · have := stuck_of he' h
    injection this with h1 h2
    subst h1; subst h2
    rw [he] at he'; injection he'
/-- there is one answer -/
theorem Tells.uniq {a a' : Ans} (h : Tells b most a) (k : Tells b most a') : a = a' := by
  cases a with
  | ok x n =>
    cases a' with
    | ok y m =>
      obtain ⟨e1, e2⟩ := h.1.uniq k.1
      rw [e1, e2]
    | long => exact (not_ok_long h k).elim
    | bad e => exact (not_ok_bad h k).elim
  | long =>
    cases a' with
    | ok y m => exact (not_ok_long k h).elim
    | long => rfl
    | bad e => exact (not_long_bad h k).elim
  | bad e =>
    cases a' with
    | ok y m => exact (not_ok_bad k h).elim
    | long => exact (not_long_bad k h).elim
    | bad e' => rw [bad_bad h k]
end
/-! the laws' own sense -/
theorem Tells.ends {b b' x : List UInt8} {most n m : Nat} (h : Tells b most (.ok x n)) (hb : n ≤ b'.length) (ht : b.take n = b'.take n) (hm : x.length ≤ m) : Tells b' m (.ok x n) := ⟨h.1.behind hb ht, hm⟩
theorem Tells.fewer {b x : List UInt8} {most n m : Nat} (h : Tells b most (.ok x n)) (hm : m < x.length) : Tells b m .long := by
  obtain ⟨⟨s, p, hs, hf, rfl, _, _⟩, _⟩ := h
  exact ⟨s, p, hs, hm⟩
theorem Tells.more {b x : List UInt8} {most n m : Nat} (h : Tells b m (.ok x n)) (hm : m ≤ most) : Tells b most (.ok x n) := ⟨h.1, Nat.le_trans h.2 hm⟩

/-! stored blocks -/
theorem take_bytes {B : List UInt8} {i k : Nat} (h : i + k ≤ B.length) : take (8 * k) (num B) (8 * B.length) (8 * i) = .ok (num ((B.drop i).take k), 8 * (i + k)) := by
  unfold take
  rw [if_pos (by omega), num_cut_take _ _ (by rw [List.length_drop]; omega), num_cut_drop, ← pow256, ← pow256, Nat.mul_add]
theorem num_one (v : UInt8) : num [v] = v.toNat := by simp [num]
theorem num_two (v u : UInt8) : num [v, u] = v.toNat + 256 * u.toNat := by simp [num]
/-- the five bytes ahead of n bytes that are stored -/
def ahead (last : Bool) (n : Nat) : List UInt8 := [if last then 1 else 0, UInt8.ofNat (n % 256), UInt8.ofNat (n / 256), UInt8.ofNat (255 - n % 256), UInt8.ofNat (255 - n / 256)]
def stored (last : Bool) (bs : List UInt8) : List UInt8 := ahead last bs.length ++ bs
theorem raw_steps (B : List UInt8) (last : Bool) : ∀ (k i : Nat) (out : List UInt8), i + k ≤ B.length → Steps (num B) (8 * B.length) (⟨.raw k, last, out⟩, 8 * i) (⟨.head, last, out ++ (B.drop i).take k⟩, 8 * (i + k))
  | 0, i, out, h => by
    rw [List.take_zero, List.append_nil]
    exact .one rfl
  | k + 1, i, out, h => by
    have hx : B[i]? = some B[i] := List.getElem?_eq_getElem (by omega)
    have ht : (B.drop i).take 1 = [B[i]] := by
      rw [List.drop_eq_getElem_cons (by omega)]; rfl
    have h1 : one ⟨.raw (k + 1), last, out⟩ (num B) (8 * B.length) (8 * i) = .ok (⟨.raw k, last, out ++ [B[i]]⟩, 8 * (i + 1)) := by
      have h8 := take_bytes (B := B) (i := i) (k := 1) (by omega)
      rw [ht, num_one, Nat.mul_one] at h8
      unfold one
      simp only
      unfold also
      rw [h8]
      simp only [give, UInt8.ofNat_toNat]
    have h2 := raw_steps B last k (i + 1) (out ++ [B[i]]) (by omega)
    have e : (out ++ [B[i]]) ++ (B.drop (i + 1)).take k = out ++ (B.drop i).take (k + 1) := by
      rw [List.append_assoc, List.drop_eq_getElem_cons (show i < B.length by omega), List.take_succ_cons]
      rfl
    rw [e, show i + 1 + k = i + (k + 1) by omega] at h2
    exact .more h1 h2
theorem stored_steps (pre bs post : List UInt8) (l0 last : Bool) (hl0 : l0 = false) (out : List UInt8) (hn : bs.length < 65536) :
    Steps (num (pre ++ stored last bs ++ post)) (8 * (pre ++ stored last bs ++ post).length) (⟨.head, l0, out⟩, 8 * pre.length) (⟨.head, last, out ++ bs⟩, 8 * (pre ++ stored last bs).length) := by
  subst hl0
  obtain ⟨B, hB⟩ : ∃ B, pre ++ stored last bs ++ post = B := ⟨_, rfl⟩
  have hlen : B.length = pre.length + 5 + bs.length + post.length := by rw [← hB]; simp [stored, ahead]; omega
  have hd : B.drop pre.length = ahead last bs.length ++ (bs ++ post) := by
    rw [← hB, List.append_assoc, List.drop_left, stored, List.append_assoc]
  have g1 : take 1 (num B) (8 * B.length) (8 * pre.length) = .ok ((if last then 1 else 0), 8 * pre.length + 1) := by
    unfold take
    rw [if_pos (by omega)]
    have : num B / 2 ^ (8 * pre.length) % 2 ^ 1 = if last then 1 else 0 := by
      rw [pow256, ← num_cut_drop, hd]
      cases last <;> simp [ahead, num] <;> omega
    rw [this]
  have g2 : take 2 (num B) (8 * B.length) (8 * pre.length + 1) = .ok (0, 8 * pre.length + 1 + 2) := by
    unfold take
    rw [if_pos (by omega)]
    have : num B / 2 ^ (8 * pre.length + 1) % 2 ^ 2 = 0 := by
      rw [Nat.pow_add, ← Nat.div_div_eq_div_mul, pow256, ← num_cut_drop, hd]
      cases last <;> simp [ahead, num] <;> omega
    rw [this]
  have d1 : (B.drop (pre.length + 1)).take 2 = [UInt8.ofNat (bs.length % 256), UInt8.ofNat (bs.length / 256)] := by
    rw [← List.drop_drop, hd]; rfl
  have d3 : (B.drop (pre.length + 3)).take 2 = [UInt8.ofNat (255 - bs.length % 256), UInt8.ofNat (255 - bs.length / 256)] := by
    rw [← List.drop_drop, hd]; rfl
  have g3 := take_bytes (B := B) (i := pre.length + 1) (k := 2) (by omega)
  have g4 := take_bytes (B := B) (i := pre.length + 3) (k := 2) (by omega)
  rw [d1, num_two, UInt8.toNat_ofNat', UInt8.toNat_ofNat'] at g3
  rw [d3, num_two, UInt8.toNat_ofNat', UInt8.toNat_ofNat'] at g4
  have v3 : bs.length % 256 % 2 ^ 8 + 256 * (bs.length / 256 % 2 ^ 8) = bs.length := by omega
  have v4 : (255 - bs.length % 256) % 2 ^ 8 + 256 * ((255 - bs.length / 256) % 2 ^ 8) = 65535 - bs.length := by omega
  rw [v3] at g3
  rw [v4] at g4
  have h1 : one ⟨.head, false, out⟩ (num B) (8 * B.length) (8 * pre.length) = .ok (⟨.raw bs.length, last, out⟩, 8 * (pre.length + 5)) := by
    unfold one
    simp only [Bool.false_eq_true, if_false]
    unfold also
    rw [g1]
    simp only
    rw [g2]
    simp only [if_true]
    unfold align
    simp only
    rw [show (8 * pre.length + 1 + 2 + 7) / 8 * 8 = 8 * (pre.length + 1) by omega, show 16 = 8 * 2 from rfl, g3]
    simp only
    rw [show pre.length + 1 + 2 = pre.length + 3 by omega, g4]
    simp only
    rw [if_pos (by omega)]
    cases last <;> rfl
  have h2 := raw_steps B last bs.length (pre.length + 5) out (by omega)
  have d5 : (B.drop (pre.length + 5)).take bs.length = bs := by
    rw [← List.drop_drop, hd]
    have : (ahead last bs.length ++ (bs ++ post)).drop 5 = bs ++ post := rfl
    rw [this, List.take_left]
  rw [d5] at h2
  have e : 8 * (pre ++ stored last bs).length = 8 * (pre.length + 5 + bs.length) := by simp [stored, ahead]; omega
  rw [hB, e]
  exact .more h1 h2
/-- blocks that are only stored, the last one marked -/
def blocks : List (List UInt8) → List UInt8
  | [] => []
  | [bs] => stored true bs
  | bs :: r => stored false bs ++ blocks r
theorem blocks_cons (bs : List UInt8) {r : List (List UInt8)} (h : r ≠ []) : blocks (bs :: r) = stored false bs ++ blocks r := by
  cases r with
  | nil => exact absurd rfl h
  | cons a r => rfl
theorem blocks_steps : ∀ (l : List (List UInt8)) (pre post out : List UInt8), l ≠ [] → (∀ bs ∈ l, bs.length < 65536) →
    Steps (num (pre ++ blocks l ++ post)) (8 * (pre ++ blocks l ++ post).length) (⟨.head, false, out⟩, 8 * pre.length) (⟨.head, true, out ++ l.flatten⟩, 8 * (pre ++ blocks l).length)
  | [], pre, post, out, h, _ => absurd rfl h
  | [bs], pre, post, out, _, hn => by
    have := stored_steps pre bs post false true rfl out (hn bs (by simp))
    simpa [blocks] using this
  | bs :: b2 :: r, pre, post, out, _, hn => by
    have h1 := stored_steps pre bs (blocks (b2 :: r) ++ post) false false rfl out (hn bs (by simp))
    have h2 := blocks_steps (b2 :: r) (pre ++ stored false bs) post (out ++ bs) (by simp) (fun x hx => hn x (List.mem_cons_of_mem _ hx))
    rw [blocks_cons bs (by simp)]
    have e1 : pre ++ stored false bs ++ (blocks (b2 :: r) ++ post) = pre ++ (stored false bs ++ blocks (b2 :: r)) ++ post := by simp [List.append_assoc]
    have e2 : pre ++ stored false bs ++ blocks (b2 :: r) ++ post = pre ++ (stored false bs ++ blocks (b2 :: r)) ++ post := by simp [List.append_assoc]
    rw [e1] at h1
    rw [e2] at h2
    have e3 : (out ++ bs) ++ (b2 :: r).flatten = out ++ (bs :: b2 :: r).flatten := by simp [List.append_assoc]
    have e4 : pre ++ stored false bs ++ blocks (b2 :: r) = pre ++ (stored false bs ++ blocks (b2 :: r)) := by rw [List.append_assoc]
    rw [e3, e4] at h2
    exact h1.trans h2
theorem blocks_unp {l : List (List UInt8)} (h : l ≠ []) (hn : ∀ bs ∈ l, bs.length < 65536) : Unp (blocks l) l.flatten (blocks l).length := by
  have := blocks_steps l [] [] [] h hn
  simp only [List.nil_append, List.append_nil, List.length_nil, Nat.mul_zero] at this
  exact ⟨_, _, this, ⟨rfl, rfl⟩, rfl, by omega, by omega⟩
end Go.Proofs.YtppgceighgpgoaaGreatDoor.infnum
/-
  Parts that are taken: how they fare when more is there, and when what is ahead is left out; the parts as the program takes them: plain mathematics. My own text.
-/
namespace Go.Proofs.YtppgceighgpgoaaGreatDoor.infnum
open Go.Proofs.YtppgceighgpgoaaGreatDoor.num Go.Proofs.YtppgceighgpgoaaGreatDoor.bitnum Go.Proofs.YtppgceighgpgoaaGreatDoor.huffnum
set_option linter.unusedVariables false

/-- what was told, moved by k -/
def moved {α : Type} (k : Nat) : Except Nat (α × Nat) → Except Nat (α × Nat)
  | .ok (a, q) => .ok (a, k + q)
  | .error e => .error e
structure Good {α : Type} (f : Part α) : Prop where
  loc : Loc f
  bd : ∀ U T p a q, T % 8 = 0 → p ≤ T → f U T p = .ok (a, q) → q ≤ T
  ev : ∀ U T p e, f U T p = .error e → e = 3 ∨ e = 12
  er : ∀ U T p e, T % 8 = 0 → p ≤ T → f U T p = .error e → e ≠ 3 → ∀ U' T', T ≤ T' → U % 2 ^ T = U' % 2 ^ T → f U' T' p = .error e
  sh : ∀ U T o p, f U (8 * o + T) (8 * o + p) = moved (8 * o) (f (U / 2 ^ (8 * o)) T p)
section
variable {α β : Type}
theorem Good.give (a : α) : Good (give a) where
  loc := Loc.give a
  bd U T p b q h8 hp h := by
    injection h with h
    injection h with h1 h2
    omega
  ev U T p e h := by cases h
  er U T p e h8 hp h := by cases h
  sh U T o p := rfl
theorem Good.fail (e : Nat) (he : e = 3 ∨ e = 12) : Good (fail (α := α) e) where
  loc := Loc.fail e
  ev U T p e' h := by
    injection h with h
    subst h
    exact he
  bd U T p b q h8 hp h := by cases h
  er U T p e' h8 hp h hne U' T' hT hU := by
    injection h with h
    subst h
    rfl
  sh U T o p := rfl
theorem Good.ite {f g : Part α} {c : Prop} [Decidable c] (hf : Good f) (hg : Good g) : Good (if c then f else g) := by split <;> assumption
theorem Good.also {f : Part α} {g : α → Part β} (hf : Good f) (hg : ∀ a, Good (g a)) : Good (also f g) where
  loc := Loc.also hf.loc fun a => (hg a).loc
  bd U T p b q h8 hp h := by
    unfold infnum.also at h
    cases hfe : f U T p with
    | error e => rw [hfe] at h; cases h
    | ok x =>
      rw [hfe] at h
      exact (hg x.1).bd _ _ _ _ _ h8 (hf.bd _ _ _ _ _ h8 hp hfe) h
  ev U T p e h := by
    unfold infnum.also at h
    cases hfe : f U T p with
    | error e' =>
      rw [hfe] at h
      injection h with h
      subst h
      exact hf.ev _ _ _ _ hfe
    | ok x =>
      rw [hfe] at h
      exact (hg x.1).ev _ _ _ _ h
  er U T p e h8 hp h hne U' T' hT hU := by
    unfold infnum.also at h ⊢
    cases hfe : f U T p with
    | error e' =>
      rw [hfe] at h
      injection h with h
      subst h
      rw [hf.er _ _ _ _ h8 hp hfe hne _ _ hT hU]
    | ok x =>
      obtain ⟨a, m⟩ := x
      rw [hfe] at h
      have hb := hf.bd _ _ _ _ _ h8 hp hfe
      rw [(hf.loc _ _ _ _ _ hfe).2 U' T' (Nat.le_trans hb hT) (same_low hU hb)]
      exact (hg a).er _ _ _ _ h8 hb h hne _ _ hT hU
  sh U T o p := by
    unfold infnum.also
    rw [hf.sh]
    cases hfe : f (U / 2 ^ (8 * o)) T p with
    | error e' => rfl
    | ok x =>
      obtain ⟨a, m⟩ := x
      exact (hg a).sh U T o m
theorem div_pow_add (U a b : Nat) : U / 2 ^ (a + b) = U / 2 ^ a / 2 ^ b := by rw [Nat.pow_add, Nat.div_div_eq_div_mul]
theorem Good.take (n : Nat) : Good (take n) where
  loc := Loc.take n
  bd U T p b q h8 hp h := by
    unfold infnum.take at h
    split at h
    · injection h with h
      injection h with h1 h2
      omega
    · cases h
  ev U T p e h := by
    unfold infnum.take at h
    split at h
    · cases h
    · injection h with h
      omega
  er U T p e h8 hp h hne := by
    unfold infnum.take at h
    split at h
    · cases h
    · injection h with h
      omega
  sh U T o p := by
    unfold infnum.take
    by_cases h : p + n ≤ T
    · rw [if_pos h, if_pos (by omega), div_pow_add]
      simp only [moved, Nat.add_assoc]
    · rw [if_neg h, if_neg (by omega)]
      rfl
theorem Good.align : Good align where
  loc := Loc.align
  bd U T p b q h8 hp h := by
    injection h with h
    injection h with h1 h2
    omega
  ev U T p e h := by cases h
  er U T p e h8 hp h := by cases h
  sh U T o p := by
    unfold infnum.align moved
    simp only
    congr 2
    omega
theorem Good.sym (ls : List Nat) : Good (sym ls) where
  loc := Loc.sym ls
  bd U T p a q h8 hp h := by
    unfold infnum.sym at h
    simp only at h
    split at h
    · cases h
    · split at h
      · cases h
      · injection h with h
        injection h with h1 h2
        omega
  ev U T p e h := by
    unfold infnum.sym at h
    simp only at h
    split at h
    · injection h with h
      omega
    · split at h
      · injection h with h
        omega
      · cases h
  er U T p e h8 hp h hne U' T' hT hU := by
    unfold infnum.sym at h ⊢
    simp only at h ⊢
    split at h
    · rename_i hd
      injection h with h
      subst h
      rw [if_pos]
      refine Nat.le_trans hd ?_
      have hs := same_cut (p := p) (n := min 15 (T - p)) hU (by omega)
      generalize hm : min 15 (T - p) = m at *
      generalize hm' : min 15 (T' - p) = m' at *
      have h1 := rev_low (A := U / 2 ^ p % 2 ^ m) (m := m) (Nat.mod_lt _ (Nat.pow_pos (by omega))) (15 - m)
      rw [show m + (15 - m) = 15 by omega, rev_mod _ (Nat.le_refl m)] at h1
      have h2 := rev_top (U' / 2 ^ p % 2 ^ m') m (15 - m)
      rw [show m + (15 - m) = 15 by omega, rev_mod _ (show m ≤ m' by omega)] at h2
      rw [h1, (rev_inj _ _ m).2 hs, ← h2]
      exact Nat.div_mul_le_self _ _
    · split at h
      · injection h with h
        omega
      · cases h
  sh U T o p := by
    unfold infnum.sym
    simp only [div_pow_add, show 8 * o + T - (8 * o + p) = T - p by omega]
    split
    · rfl
    · split
      · rfl
      · simp only [moved, Nat.add_assoc]
theorem Good.times {f : Part α} (hf : Good f) : ∀ n, Good (times f n)
  | 0 => Good.give _
  | n + 1 => Good.also hf fun a => Good.also (Good.times hf n) fun l => Good.give _
theorem Good.rep (c : List Nat) (n : Nat) : ∀ f l, Good (rep c n f l)
  | 0, l => Good.fail 12 (.inr rfl)
  | f + 1, l => by
    unfold infnum.rep
    refine Good.ite (Good.fail 12 (.inr rfl)) (Good.ite (Good.give _) (Good.also (Good.sym c) fun k => Good.ite ?_ (Good.ite ?_ (Good.ite ?_ ?_))))
    · cases l.getLast? with
      | none => exact Good.fail 12 (.inr rfl)
      | some v => exact Good.also (Good.take 2) fun t => Good.rep c n f _
    · exact Good.also (Good.take 3) fun t => Good.rep c n f _
    · exact Good.also (Good.take 7) fun t => Good.rep c n f _
    · exact Good.rep c n f _
theorem Good.codes : Good codes :=
  Good.also (Good.take 5) fun n => Good.also (Good.take 5) fun d => Good.also (Good.take 4) fun k =>
    Good.ite (Good.fail 12 (.inr rfl)) (Good.also (Good.times (Good.take 3) _) fun l =>
      Good.ite (Good.fail 12 (.inr rfl)) (Good.also (Good.rep _ _ _ _) fun a => Good.ite (Good.fail 12 (.inr rfl)) (Good.give _)))
theorem Good.one {s : At} (h : ¬ Fin s) : Good (one s) := by
  obtain ⟨ph, last, out⟩ := s
  cases ph with
  | head =>
    cases last with
    | true => exact absurd ⟨rfl, rfl⟩ h
    | false =>
      exact Good.also (Good.take 1) fun l => Good.also (Good.take 2) fun k =>
        Good.ite (Good.also Good.align fun _ => Good.also (Good.take 16) fun n => Good.also (Good.take 16) fun t => Good.ite (Good.give _) (Good.fail 12 (.inr rfl)))
          (Good.ite (Good.give _) (Good.ite (Good.also Good.codes fun c => Good.give _) (Good.fail 12 (.inr rfl))))
  | raw n =>
    cases n with
    | zero => exact Good.give _
    | succ n => exact Good.also (Good.take 8) fun v => Good.give _
  | sy a b =>
    exact Good.also (Good.sym a) fun k => Good.ite (Good.give _) (Good.ite (Good.give _) (Good.ite (Good.fail 12 (.inr rfl))
      (Good.also (Good.take _) fun e => Good.also (Good.sym b) fun d => Good.ite (Good.fail 12 (.inr rfl)) (Good.also (Good.take _) fun g => Good.ite (Good.fail 12 (.inr rfl)) (Good.give _)))))

/-! what is told of the beginning of what is there, from a later byte on -/
section
variable {f : Part α} (hf : Good f) (b : List UInt8) (o F p : Nat) (hF : o + F ≤ b.length)
include hf hF
theorem seen_ok {a : α} {q : Nat} (hp : p ≤ 8 * F) (h : f (num ((b.drop o).take F)) (8 * F) p = .ok (a, q)) :
    q ≤ 8 * F ∧ f (num b) (8 * b.length) (8 * o + p) = .ok (a, 8 * o + q) := by
  have hb := hf.bd _ _ _ _ _ (by omega) hp h
  refine ⟨hb, ?_⟩
  have e : 8 * b.length = 8 * o + 8 * (b.length - o) := by omega
  rw [e, hf.sh]
  have hn : num b / 2 ^ (8 * o) = num (b.drop o) := by rw [num_cut_drop, pow256]
  have ht : num ((b.drop o).take F) = num (b.drop o) % 2 ^ (8 * F) := by rw [num_cut_take _ _ (by rw [List.length_drop]; omega), pow256]
  rw [hn, (hf.loc _ _ _ _ _ h).2 (num (b.drop o)) (8 * (b.length - o)) (by omega) (by rw [ht, Nat.mod_mod_of_dvd _ (Nat.pow_dvd_pow 2 hb)])]
  rfl
theorem seen_bad {e : Nat} (hp : p ≤ 8 * F) (h : f (num ((b.drop o).take F)) (8 * F) p = .error e) (he : e ≠ 3 ∨ o + F = b.length) :
    f (num b) (8 * b.length) (8 * o + p) = .error e := by
  have e1 : 8 * b.length = 8 * o + 8 * (b.length - o) := by omega
  rw [e1, hf.sh]
  have hn : num b / 2 ^ (8 * o) = num (b.drop o) := by rw [num_cut_drop, pow256]
  have ht : num ((b.drop o).take F) = num (b.drop o) % 2 ^ (8 * F) := by rw [num_cut_take _ _ (by rw [List.length_drop]; omega), pow256]
  rw [hn]
  rcases he with he | he
  · rw [hf.er _ _ _ _ (by omega) hp h he (num (b.drop o)) (8 * (b.length - o)) (by omega) (by rw [ht, Nat.mod_mod_of_dvd _ (Nat.dvd_refl _)])]
    rfl
  · have : (b.drop o).take F = b.drop o := List.take_of_length_le (by rw [List.length_drop]; omega)
    rw [this] at h
    rw [show b.length - o = F by omega, h]
    rfl
end

/-! the parts as the program takes them -/
theorem take_two (x y : Nat) (g : Nat → Nat → Part β) : also (take x) (fun i => also (take y) fun j => g i j) = also (take (x + y)) fun v => g (v % 2 ^ x) (v / 2 ^ x) := by
  funext U T p
  unfold also take
  by_cases h1 : p + x ≤ T
  · simp only [if_pos h1]
    by_cases h2 : p + x + y ≤ T
    · rw [if_pos h2, if_pos (by omega)]
      simp only
      have hm : U / 2 ^ p % 2 ^ (x + y) % 2 ^ x = U / 2 ^ p % 2 ^ x := Nat.mod_mod_of_dvd _ (Nat.pow_dvd_pow 2 (by omega))
      have hd : U / 2 ^ p % 2 ^ (x + y) / 2 ^ x = U / 2 ^ (p + x) % 2 ^ y := by
        rw [Nat.pow_add 2 x y, Nat.mod_mul_right_div_self, div_pow_add]
      rw [hm, hd, Nat.add_assoc]
    · rw [if_neg h2, if_neg (by omega)]
  · rw [if_neg h1, if_neg (by omega)]
/-- the head of a block -/
def headP (out : List UInt8) : Part At :=
  also (take 3) fun v =>
    if v / 2 = 0 then also align fun _ => also (take 16) fun n => also (take 16) fun t =>
      if n + t = 65535 then give ⟨.raw n, decide (v % 2 = 1), out⟩ else fail 12
    else if v / 2 = 1 then give ⟨.sy fixedLits fixedDist, decide (v % 2 = 1), out⟩
    else if v / 2 = 2 then also codes fun c => give ⟨.sy c.1 c.2, decide (v % 2 = 1), out⟩
    else fail 12
theorem one_head (out : List UInt8) : one ⟨.head, false, out⟩ = headP out := by
  show also (take 1) _ = _
  rw [take_two 1 2]
  rfl
/-- the lengths of the code of lengths -/
def lensP (k : Nat) : Part (List Nat) := also (times (take 3) k) fun l => if mayBe (laid l) false = false then fail 12 else give (laid l)
/-- the lengths of both codes -/
def bothP (S D : Nat) (a : List Nat) : Part (List Nat × List Nat) :=
  if a.getD 256 0 = 0 ∨ mayBe (a.take S) false = false ∨ mayBe (a.drop S) true = false then fail 12 else give (a.take S, a.drop S)
theorem also_ite {f : Part α} {c : α → Bool} {h g : α → Part β} : also f (fun a => if c a = false then fail 12 else g a) = also (also f fun a => if c a = false then fail 12 else give a) g := by
  funext U T p
  unfold also
  cases f U T p with
  | error e => rfl
  | ok x =>
    obtain ⟨a, q⟩ := x
    simp only
    cases c a <;> rfl
theorem also_ite2 {γ : Type} {f : Part α} {r : α → γ} {c : γ → Bool} {g : γ → Part β} : also f (fun a => if c (r a) = false then fail 12 else g (r a)) = also (also f fun a => if c (r a) = false then fail 12 else give (r a)) g := by
  funext U T p
  unfold also
  cases f U T p with
  | error e => rfl
  | ok x =>
    obtain ⟨a, q⟩ := x
    simp only
    cases c (r a) <;> rfl
theorem codes_is : codes = also (take 14) fun v => if 286 < v % 32 + 257 ∨ 30 < v / 32 % 32 + 1 then fail 12 else
    also (lensP (v / 1024 + 4)) fun l => also (rep l (v % 32 + 257 + (v / 32 % 32 + 1)) (v % 32 + 257 + (v / 32 % 32 + 1) + 1) []) fun a => bothP (v % 32 + 257) (v / 32 % 32 + 1) a := by
  unfold codes
  have h1 : ∀ (g : Nat → Nat → Nat → Part (List Nat × List Nat)), also (take 5) (fun n => also (take 5) fun d => also (take 4) fun k => g n d k) = also (take 14) fun v => g (v % 32) (v / 32 % 32) (v / 1024) := fun g => by
    have : (fun n => also (take 5) fun d => also (take 4) fun k => g n d k) = fun n => also (take 9) fun v => g n (v % 32) (v / 32) := by
      funext n
      exact take_two 5 4 (g n)
    rw [this, take_two 5 9 fun n v => g n (v % 32) (v / 32)]
    simp only [Nat.div_div_eq_div_mul]
  rw [h1]
  congr 1
  funext v
  have e1 : (286 < 257 + v % 32 ∨ 30 < 1 + v / 32 % 32) ↔ (286 < v % 32 + 257 ∨ 30 < v / 32 % 32 + 1) := by omega
  simp only [e1]
  congr 1
  unfold lensP
  rw [← also_ite2 (r := laid) (c := fun l => mayBe l false) (g := fun l => also (rep l (v % 32 + 257 + (v / 32 % 32 + 1)) (v % 32 + 257 + (v / 32 % 32 + 1) + 1) []) fun a => bothP (v % 32 + 257) (v / 32 % 32 + 1) a)]
  rw [show 4 + v / 1024 = v / 1024 + 4 by omega]
  congr 1
  funext l
  rw [show 258 + v % 32 + v / 32 % 32 = v % 32 + 257 + (v / 32 % 32 + 1) by omega, show 259 + v % 32 + v / 32 % 32 = v % 32 + 257 + (v / 32 % 32 + 1) + 1 by omega]
  unfold bothP
  simp only [show 257 + v % 32 = v % 32 + 257 by omega]
/-- how many lengths a symbol tells -/
def timesP (k : Nat) : Part Nat :=
  also (take (if k = 16 then 2 else if k = 17 then 3 else if k = 18 then 7 else 0)) fun t => give ((if k = 16 then 3 else if k = 17 then 3 else if k = 18 then 11 else 1) + t)
/-- a number by its code and bits of its own: how many bits, and what stands ahead of them -/
def ownB (code row : Nat) : Nat := if code < 2 * row then 0 else code / row - 1
def baseB (code row : Nat) : Nat := if code < 2 * row then code else (row + code % row) * 2 ^ (code / row - 1)
def spreadP (code row : Nat) : Part Nat := also (take (ownB code row)) fun v => give (baseB code row + v)
/-- what is behind a symbol that tells a copy: how long, how far back -/
def copyP (k many : Nat) (b : List Nat) : Part (Nat × Nat) :=
  also (if k < 285 then spreadP (k - 257) 4 else also (take 0) fun v => give (255 + v)) fun long => also (sym b) fun d => if 29 < d then fail 12 else also (spreadP d 2) fun back => if many < back + 1 then fail 12 else give (long + 3, back + 1)
/-- a symbol: how long, how far back (0: this byte) -/
def symP (many : Nat) (a b : List Nat) : Part (Nat × Nat × UInt8) :=
  also (sym a) fun k => if k < 256 then give (1, 0, UInt8.ofNat k) else if k = 256 then give (0, 0, 0) else if 285 < k then fail 12 else also (copyP k many b) fun c => give (c.1, c.2, 0)
/-- what comes of it -/
def grown (a b : List Nat) (last : Bool) (out : List UInt8) (x : Nat × Nat × UInt8) : At :=
  if x.1 = 0 then ⟨.head, last, out⟩ else if x.2.1 = 0 then ⟨.sy a b, last, out ++ [x.2.2]⟩ else ⟨.sy a b, last, copied x.2.1 x.1 out⟩
theorem also_eq {f : Part α} {g h : α → Part β} (k : ∀ a, g a = h a) : also f g = also f h := by rw [funext k]
theorem also_also {γ : Type} (f : Part α) (g : α → Part β) (h : β → Part γ) : also (also f g) h = also f fun a => also (g a) h := by
  funext U T p
  unfold also
  cases f U T p with
  | error e => rfl
  | ok x => rfl
theorem also_give (a : α) (g : α → Part β) : also (give a) g = g a := rfl
theorem also_fail (e : Nat) (g : α → Part β) : also (fail e) g = fail e := rfl
theorem also_if {c : Prop} [Decidable c] (f g : Part α) (h : α → Part β) : also (if c then f else g) h = if c then also f h else also g h := by split <;> rfl
theorem long_tab : ∀ i, i < 28 → ownB i 4 = longMore.getD i 0 ∧ baseB i 4 + 3 = longBase.getD i 0 := by decide
theorem far_tab : ∀ d, d < 30 → ownB d 2 = farMore d ∧ baseB d 2 + 1 = farBase.getD d 0 := by decide
theorem one_sym (a b : List Nat) (last : Bool) (out : List UInt8) : one ⟨.sy a b, last, out⟩ = also (symP (min 32768 out.length) a b) fun x => give (grown a b last out x) := by
  unfold symP
  show also (sym a) _ = _
  rw [also_also]
  refine also_eq fun k => ?_
  rw [also_if, also_if, also_if]
  by_cases h1 : k < 256
  · rw [if_pos h1, if_pos h1]; rfl
  rw [if_neg h1, if_neg h1]
  by_cases h2 : k = 256
  · rw [if_pos h2, if_pos h2]; rfl
  rw [if_neg h2, if_neg h2]
  by_cases h3 : 285 < k
  · rw [if_pos h3, if_pos h3]; rfl
  rw [if_neg h3, if_neg h3]
  unfold copyP
  rw [also_also, also_also]
  have hl : ∃ n m, longMore.getD (k - 257) 0 = n ∧ longBase.getD (k - 257) 0 = m + 3 ∧ (if k < 285 then spreadP (k - 257) 4 else also (take 0) fun v => give (255 + v)) = also (take n) fun v => give (m + v) := by
    by_cases h4 : k < 285
    · have := long_tab (k - 257) (by omega)
      exact ⟨_, _, this.1.symm, this.2.symm, by rw [if_pos h4]; rfl⟩
    · have h5 : k = 285 := by omega
      subst h5
      exact ⟨0, 255, rfl, rfl, rfl⟩
  obtain ⟨n, m, e1, e2, e3⟩ := hl
  rw [e1, e2, e3, also_also]
  refine also_eq fun e => ?_
  rw [also_give, also_also]
  refine also_eq fun d => ?_
  rw [also_if]
  by_cases h5 : 29 < d
  · rw [if_pos h5, if_pos h5]; rfl
  rw [if_neg h5, if_neg h5]
  have hf := far_tab d (by omega)
  unfold spreadP
  simp only [also_also]
  rw [hf.1, ← hf.2]
  refine also_eq fun g => ?_
  rw [also_give, also_if]
  by_cases h6 : out.length < baseB d 2 + 1 + g ∨ 32768 < baseB d 2 + 1 + g
  · rw [if_pos h6, if_pos (by omega)]; rfl
  · rw [if_neg h6, if_neg (by omega)]
    simp only [also_give, grown]
    rw [if_neg (by omega), if_neg (by omega)]
    rw [show baseB d 2 + g + 1 = baseB d 2 + 1 + g by omega, show m + e + 3 = m + 3 + e by omega]
theorem Good.spread (code row : Nat) : Good (spreadP code row) := Good.also (Good.take _) fun v => Good.give _
theorem Good.copy (k many : Nat) (b : List Nat) : Good (copyP k many b) :=
  Good.also (Good.ite (Good.spread _ _) (Good.also (Good.take 0) fun v => Good.give _)) fun long => Good.also (Good.sym b) fun d => Good.ite (Good.fail 12 (.inr rfl)) (Good.also (Good.spread _ _) fun back => Good.ite (Good.fail 12 (.inr rfl)) (Good.give _))
theorem Good.symP (many : Nat) (a b : List Nat) : Good (symP many a b) :=
  Good.also (Good.sym a) fun k => Good.ite (Good.give _) (Good.ite (Good.give _) (Good.ite (Good.fail 12 (.inr rfl)) (Good.also (Good.copy _ _ _) fun c => Good.give _)))
theorem Good.times' (k : Nat) : Good (timesP k) := Good.also (Good.take _) fun v => Good.give _
theorem Good.lens (k : Nat) : Good (lensP k) := Good.also (Good.times (Good.take 3) k) fun l => Good.ite (Good.fail 12 (.inr rfl)) (Good.give _)
theorem Good.both (S D : Nat) (a : List Nat) : Good (bothP S D a) := Good.ite (Good.fail 12 (.inr rfl)) (Good.give _)
theorem Good.head (out : List UInt8) : Good (headP out) := by
  rw [← one_head]
  exact Good.one fun h => by cases h.2
end
end Go.Proofs.YtppgceighgpgoaaGreatDoor.infnum
