/-
  What unpacking all of it tells; bytes in blocks that are only stored: plain mathematics, over no program. My own text.
-/
import Derived.Test.YtlaecigjnknhoaaDoorInfNum
namespace Go.Proofs.YtlaecigjnknhoaaDoor.infnum
open Go.Proofs.YtlaecigjnknhoaaDoor.num Go.Proofs.YtlaecigjnknhoaaDoor.bitnum Go.Proofs.YtlaecigjnknhoaaDoor.huffnum
set_option linter.unusedVariables false

/-- an answer: the bytes, and how many were needed; more than may be; an error -/
inductive Ans where
  | ok (x : List UInt8) (n : Nat)
  | long
  | bad (e : Nat)
def Tells (b : List UInt8) (most : Nat) : Ans → Prop
  | .ok x n => Unp b x n ∧ x.length ≤ most
  | .long => ∃ s p, Steps (num b) (8 * b.length) (start, 0) (s, p) ∧ most < s.out.length
  | .bad e => ∃ s p, Steps (num b) (8 * b.length) (start, 0) (s, p) ∧ ¬ Fin s ∧ one s (num b) (8 * b.length) p = .error e ∧ s.out.length ≤ most
theorem stuck_of {s : At} {U T p e : Nat} (h : one s U T p = .error e) {y : At × Nat} (k : Steps U T (s, p) y) : y = (s, p) := by
  cases k with
  | refl => rfl
  | more h' r => rw [h] at h'; cases h'
theorem out_le {U T : Nat} {x y : At × Nat} (h : Steps U T x y) : x.1.out.length ≤ y.1.out.length := by
  obtain ⟨m, hm⟩ := h.out
  rw [hm, List.length_append]; omega
section
variable {b : List UInt8} {most : Nat}
theorem not_ok_long {x : List UInt8} {n : Nat} (h : Tells b most (.ok x n)) (k : Tells b most .long) : False := by
  obtain ⟨⟨s, p, hs, hf, rfl, _, _⟩, hle⟩ := h
  obtain ⟨s', p', hs', hl⟩ := k
  rcases hs.meet hs' with h | h
  · have := hf.stuck h
    injection this with h1 h2
    subst h1; omega
  · have := out_le h
    simp only at this
    omega
theorem not_ok_bad {x : List UInt8} {n e : Nat} (h : Tells b most (.ok x n)) (k : Tells b most (.bad e)) : False := by
  obtain ⟨⟨s, p, hs, hf, rfl, _, _⟩, hle⟩ := h
  obtain ⟨s', p', hs', hn, he, hl⟩ := k
  rcases hs.meet hs' with h | h
  · have := hf.stuck h
    injection this with h1 h2
    subst h1; exact hn hf
  · have := stuck_of he h
    injection this with h1 h2
    subst h1; exact hn hf
theorem not_long_bad {e : Nat} (h : Tells b most .long) (k : Tells b most (.bad e)) : False := by
  obtain ⟨s, p, hs, hl⟩ := h
  obtain ⟨s', p', hs', hn, he, hl'⟩ := k
  rcases hs.meet hs' with h | h
  · have := out_le h
    simp only at this
    omega
  · have := stuck_of he h
    injection this with h1 h2
    subst h1; omega
theorem bad_bad {e e' : Nat} (h : Tells b most (.bad e)) (k : Tells b most (.bad e')) : e = e' := by
  obtain ⟨s, p, hs, hn, he, hl⟩ := h
  obtain ⟨s', p', hs', hn', he', hl'⟩ := k
  rcases hs.meet hs' with h | h
  · have := stuck_of he h
    injection this with h1 h2
    subst h1; subst h2
    rw [he] at he'; injection he'
  · have := stuck_of he' h
    injection this with h1 h2
    subst h1; subst h2
    rw [he] at he'; injection he'
/-- there is one answer -/
theorem Tells.uniq {a a' : Ans} (h : Tells b most a) (k : Tells b most a') : a = a' := by
  cases a with
  | ok x n =>
    cases a' with
    | ok y m =>
      obtain ⟨e1, e2⟩ := h.1.uniq k.1
      rw [e1, e2]
    | long => exact (not_ok_long h k).elim
    | bad e => exact (not_ok_bad h k).elim
  | long =>
    cases a' with
    | ok y m => exact (not_ok_long k h).elim
    | long => rfl
    | bad e => exact (not_long_bad h k).elim
  | bad e =>
    cases a' with
    | ok y m => exact (not_ok_bad k h).elim
    | long => exact (not_long_bad k h).elim
    | bad e' => rw [bad_bad h k]
end
/-! the laws' own sense -/
theorem Tells.ends {b b' x : List UInt8} {most n m : Nat} (h : Tells b most (.ok x n)) (hb : n ≤ b'.length) (ht : b.take n = b'.take n) (hm : x.length ≤ m) : Tells b' m (.ok x n) := ⟨h.1.behind hb ht, hm⟩
theorem Tells.fewer {b x : List UInt8} {most n m : Nat} (h : Tells b most (.ok x n)) (hm : m < x.length) : Tells b m .long := by
  obtain ⟨⟨s, p, hs, hf, rfl, _, _⟩, _⟩ := h
  exact ⟨s, p, hs, hm⟩
theorem Tells.more {b x : List UInt8} {most n m : Nat} (h : Tells b m (.ok x n)) (hm : m ≤ most) : Tells b most (.ok x n) := ⟨h.1, Nat.le_trans h.2 hm⟩

/-! stored blocks -/
theorem take_bytes {B : List UInt8} {i k : Nat} (h : i + k ≤ B.length) : take (8 * k) (num B) (8 * B.length) (8 * i) = .ok (num ((B.drop i).take k), 8 * (i + k)) := by
  unfold take
  rw [if_pos (by omega), num_cut_take _ _ (by rw [List.length_drop]; omega), num_cut_drop, ← pow256, ← pow256, Nat.mul_add]
theorem num_one (v : UInt8) : num [v] = v.toNat := by simp [num]
theorem num_two (v u : UInt8) : num [v, u] = v.toNat + 256 * u.toNat := by simp [num]
/-- the five bytes ahead of n bytes that are stored -/
def ahead (last : Bool) (n : Nat) : List UInt8 := [if last then 1 else 0, UInt8.ofNat (n % 256), UInt8.ofNat (n / 256), UInt8.ofNat (255 - n % 256), UInt8.ofNat (255 - n / 256)]
def stored (last : Bool) (bs : List UInt8) : List UInt8 := ahead last bs.length ++ bs
theorem raw_steps (B : List UInt8) (last : Bool) : ∀ (k i : Nat) (out : List UInt8), i + k ≤ B.length → Steps (num B) (8 * B.length) (⟨.raw k, last, out⟩, 8 * i) (⟨.head, last, out ++ (B.drop i).take k⟩, 8 * (i + k))
  | 0, i, out, h => by
    rw [List.take_zero, List.append_nil]
    exact .one rfl
  | k + 1, i, out, h => by
    have hx : B[i]? = some B[i] := List.getElem?_eq_getElem (by omega)
    have ht : (B.drop i).take 1 = [B[i]] := by
      rw [List.drop_eq_getElem_cons (by omega)]; rfl
    have h1 : one ⟨.raw (k + 1), last, out⟩ (num B) (8 * B.length) (8 * i) = .ok (⟨.raw k, last, out ++ [B[i]]⟩, 8 * (i + 1)) := by
      have h8 := take_bytes (B := B) (i := i) (k := 1) (by omega)
      rw [ht, num_one, Nat.mul_one] at h8
      unfold one
      simp only
      unfold also
      rw [h8]
      simp only [give, UInt8.ofNat_toNat]
    have h2 := raw_steps B last k (i + 1) (out ++ [B[i]]) (by omega)
    have e : (out ++ [B[i]]) ++ (B.drop (i + 1)).take k = out ++ (B.drop i).take (k + 1) := by
      rw [List.append_assoc, List.drop_eq_getElem_cons (show i < B.length by omega), List.take_succ_cons]
      rfl
    rw [e, show i + 1 + k = i + (k + 1) by omega] at h2
    exact .more h1 h2
theorem stored_steps (pre bs post : List UInt8) (l0 last : Bool) (hl0 : l0 = false) (out : List UInt8) (hn : bs.length < 65536) :
    Steps (num (pre ++ stored last bs ++ post)) (8 * (pre ++ stored last bs ++ post).length) (⟨.head, l0, out⟩, 8 * pre.length) (⟨.head, last, out ++ bs⟩, 8 * (pre ++ stored last bs).length) := by
  subst hl0
  obtain ⟨B, hB⟩ : ∃ B, pre ++ stored last bs ++ post = B := ⟨_, rfl⟩
  have hlen : B.length = pre.length + 5 + bs.length + post.length := by rw [← hB]; simp [stored, ahead]; omega
  have hd : B.drop pre.length = ahead last bs.length ++ (bs ++ post) := by
    rw [← hB, List.append_assoc, List.drop_left, stored, List.append_assoc]
  have g1 : take 1 (num B) (8 * B.length) (8 * pre.length) = .ok ((if last then 1 else 0), 8 * pre.length + 1) := by
    unfold take
    rw [if_pos (by omega)]
    have : num B / 2 ^ (8 * pre.length) % 2 ^ 1 = if last then 1 else 0 := by
      rw [pow256, ← num_cut_drop, hd]
      cases last <;> simp [ahead, num] <;> omega
    rw [this]
  have g2 : take 2 (num B) (8 * B.length) (8 * pre.length + 1) = .ok (0, 8 * pre.length + 1 + 2) := by
    unfold take
    rw [if_pos (by omega)]
    have : num B / 2 ^ (8 * pre.length + 1) % 2 ^ 2 = 0 := by
      rw [Nat.pow_add, ← Nat.div_div_eq_div_mul, pow256, ← num_cut_drop, hd]
      cases last <;> simp [ahead, num] <;> omega
    rw [this]
  have d1 : (B.drop (pre.length + 1)).take 2 = [UInt8.ofNat (bs.length % 256), UInt8.ofNat (bs.length / 256)] := by
    rw [← List.drop_drop, hd]; rfl
  have d3 : (B.drop (pre.length + 3)).take 2 = [UInt8.ofNat (255 - bs.length % 256), UInt8.ofNat (255 - bs.length / 256)] := by
    rw [← List.drop_drop, hd]; rfl
  have g3 := take_bytes (B := B) (i := pre.length + 1) (k := 2) (by omega)
  have g4 := take_bytes (B := B) (i := pre.length + 3) (k := 2) (by omega)
  rw [d1, num_two, UInt8.toNat_ofNat', UInt8.toNat_ofNat'] at g3
  rw [d3, num_two, UInt8.toNat_ofNat', UInt8.toNat_ofNat'] at g4
  have v3 : bs.length % 256 % 2 ^ 8 + 256 * (bs.length / 256 % 2 ^ 8) = bs.length := by omega
  have v4 : (255 - bs.length % 256) % 2 ^ 8 + 256 * ((255 - bs.length / 256) % 2 ^ 8) = 65535 - bs.length := by omega
  rw [v3] at g3
  rw [v4] at g4
  have h1 : one ⟨.head, false, out⟩ (num B) (8 * B.length) (8 * pre.length) = .ok (⟨.raw bs.length, last, out⟩, 8 * (pre.length + 5)) := by
    unfold one
    simp only [Bool.false_eq_true, if_false]
    unfold also
    rw [g1]
    simp only
    rw [g2]
    simp only [if_true]
    unfold align
    simp only
    rw [show (8 * pre.length + 1 + 2 + 7) / 8 * 8 = 8 * (pre.length + 1) by omega, show 16 = 8 * 2 from rfl, g3]
    simp only
    rw [show pre.length + 1 + 2 = pre.length + 3 by omega, g4]
    simp only
    rw [if_pos (by omega)]
    cases last <;> rfl
  have h2 := raw_steps B last bs.length (pre.length + 5) out (by omega)
  have d5 : (B.drop (pre.length + 5)).take bs.length = bs := by
    rw [← List.drop_drop, hd]
    have : (ahead last bs.length ++ (bs ++ post)).drop 5 = bs ++ post := rfl
    rw [this, List.take_left]
  rw [d5] at h2
  have e : 8 * (pre ++ stored last bs).length = 8 * (pre.length + 5 + bs.length) := by simp [stored, ahead]; omega
  rw [hB, e]
  exact .more h1 h2
/-- blocks that are only stored, the last one marked -/
def blocks : List (List UInt8) → List UInt8
  | [] => []
  | [bs] => stored true bs
  | bs :: r => stored false bs ++ blocks r
theorem blocks_cons (bs : List UInt8) {r : List (List UInt8)} (h : r ≠ []) : blocks (bs :: r) = stored false bs ++ blocks r := by
  cases r with
  | nil => exact absurd rfl h
  | cons a r => rfl
theorem blocks_steps : ∀ (l : List (List UInt8)) (pre post out : List UInt8), l ≠ [] → (∀ bs ∈ l, bs.length < 65536) →
    Steps (num (pre ++ blocks l ++ post)) (8 * (pre ++ blocks l ++ post).length) (⟨.head, false, out⟩, 8 * pre.length) (⟨.head, true, out ++ l.flatten⟩, 8 * (pre ++ blocks l).length)
  | [], pre, post, out, h, _ => absurd rfl h
  | [bs], pre, post, out, _, hn => by
    have := stored_steps pre bs post false true rfl out (hn bs (by simp))
    simpa [blocks] using this
  | bs :: b2 :: r, pre, post, out, _, hn => by
    have h1 := stored_steps pre bs (blocks (b2 :: r) ++ post) false false rfl out (hn bs (by simp))
    have h2 := blocks_steps (b2 :: r) (pre ++ stored false bs) post (out ++ bs) (by simp) (fun x hx => hn x (List.mem_cons_of_mem _ hx))
    rw [blocks_cons bs (by simp)]
    have e1 : pre ++ stored false bs ++ (blocks (b2 :: r) ++ post) = pre ++ (stored false bs ++ blocks (b2 :: r)) ++ post := by simp [List.append_assoc]
    have e2 : pre ++ stored false bs ++ blocks (b2 :: r) ++ post = pre ++ (stored false bs ++ blocks (b2 :: r)) ++ post := by simp [List.append_assoc]
    rw [e1] at h1
    rw [e2] at h2
    have e3 : (out ++ bs) ++ (b2 :: r).flatten = out ++ (bs :: b2 :: r).flatten := by simp [List.append_assoc]
    have e4 : pre ++ stored false bs ++ blocks (b2 :: r) = pre ++ (stored false bs ++ blocks (b2 :: r)) := by rw [List.append_assoc]
    rw [e3, e4] at h2
    exact h1.trans h2
theorem blocks_unp {l : List (List UInt8)} (h : l ≠ []) (hn : ∀ bs ∈ l, bs.length < 65536) : Unp (blocks l) l.flatten (blocks l).length := by
  have := blocks_steps l [] [] [] h hn
  simp only [List.nil_append, List.append_nil, List.length_nil, Nat.mul_zero] at this
  exact ⟨_, _, this, ⟨rfl, rfl⟩, rfl, by omega, by omega⟩
end Go.Proofs.YtlaecigjnknhoaaDoor.infnum
