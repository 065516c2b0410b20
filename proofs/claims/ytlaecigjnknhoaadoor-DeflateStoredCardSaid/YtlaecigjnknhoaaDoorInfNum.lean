/-
  Unpacking, part by part: plain mathematics, over no program. My own text.
-/
import Derived.Test.YtlaecigjnknhoaaDoorHuffNum
namespace Go.Proofs.YtlaecigjnknhoaaDoor.infnum
open Go.Proofs.YtlaecigjnknhoaaDoor.num Go.Proofs.YtlaecigjnknhoaaDoor.bitnum Go.Proofs.YtlaecigjnknhoaaDoor.huffnum
set_option linter.unusedVariables false

/-- a part that is taken: of the number U, of which T bits are there, from the bit p on; what it is, and where the next one begins; or an error -/
abbrev Part (α : Type) : Type := Nat → Nat → Nat → Except Nat (α × Nat)
def give {α : Type} (a : α) : Part α := fun _ _ p => .ok (a, p)
def fail {α : Type} (e : Nat) : Part α := fun _ _ _ => .error e
def also {α β : Type} (f : Part α) (g : α → Part β) : Part β := fun U T p =>
  match f U T p with
  | .ok (a, q) => g a U T q
  | .error e => .error e
/-- n bits as a number -/
def take (n : Nat) : Part Nat := fun U T p => if p + n ≤ T then .ok (U / 2 ^ p % 2 ^ n, p + n) else .error 3
/-- on to a byte's beginning -/
def align : Part Unit := fun _ _ p => .ok ((), (p + 7) / 8 * 8)
/-- the length of the code that begins the text t -/
def lev (ls : List Nat) (t : Nat) : Nat := ((List.range 16).find? fun n => decide (t < tx ls n)).getD 0
/-- a symbol -/
def sym (ls : List Nat) : Part Nat := fun U T p =>
  let t := rev 15 (U / 2 ^ p % 2 ^ min 15 (T - p))
  if tx ls 15 ≤ t then .error 12
  else if min 15 (T - p) < lev ls t then .error 3
  else .ok (((syms ls (lev ls t))[(t - tx ls (lev ls t - 1)) / 2 ^ (15 - lev ls t)]?).getD 0, p + lev ls t)

theorem lev_is {ls : List Nat} {t n : Nat} (h1 : 1 ≤ n) (h15 : n ≤ 15) (hlo : tx ls (n - 1) ≤ t) (hhi : t < tx ls n) : lev ls t = n := by
  have h : (List.range 16).find? (fun n => decide (t < tx ls n)) = some n := by
    rw [List.find?_range_eq_some]
    refine ⟨by simpa using hhi, by rw [List.mem_range]; omega, fun j hj => ?_⟩
    have := tx_le ls (m := j) (n := n - 1) (by omega) (by omega)
    simp; omega
  rw [lev, h]; rfl
theorem lev_of {ls : List Nat} {t : Nat} (h : t < tx ls 15) : 1 ≤ lev ls t ∧ lev ls t ≤ 15 ∧ tx ls (lev ls t - 1) ≤ t ∧ t < tx ls (lev ls t) := by
  obtain ⟨n, h1, h15, hlo, hhi⟩ := find ls 15 (Nat.le_refl _) h
  rw [lev_is h1 h15 hlo hhi]
  exact ⟨h1, h15, hlo, hhi⟩

/-- what a part tells, and where it ends, hangs on the bits that it takes alone -/
def Loc {α : Type} (f : Part α) : Prop := ∀ U T p a q, f U T p = .ok (a, q) → p ≤ q ∧ ∀ U' T', q ≤ T' → U % 2 ^ q = U' % 2 ^ q → f U' T' p = .ok (a, q)
theorem same_low {U U' k q : Nat} (h : U % 2 ^ q = U' % 2 ^ q) (hk : k ≤ q) : U % 2 ^ k = U' % 2 ^ k := by
  rw [← Nat.mod_mod_of_dvd U (Nat.pow_dvd_pow 2 hk), h, Nat.mod_mod_of_dvd U' (Nat.pow_dvd_pow 2 hk)]
theorem same_cut {U U' p n q : Nat} (h : U % 2 ^ q = U' % 2 ^ q) (hn : p + n ≤ q) : U / 2 ^ p % 2 ^ n = U' / 2 ^ p % 2 ^ n := by
  have h2 := same_low h hn
  rw [Nat.pow_add] at h2
  rw [← Nat.mod_mul_right_div_self, h2, Nat.mod_mul_right_div_self]
section
variable {α β : Type}
theorem Loc.give (a : α) : Loc (give a) := fun U T p b q h => by
  injection h with h
  injection h with h1 h2
  subst h1; subst h2
  exact ⟨Nat.le_refl _, fun U' T' _ _ => rfl⟩
theorem Loc.fail (e : Nat) : Loc (fail (α := α) e) := fun U T p b q h => by cases h
theorem Loc.also {f : Part α} {g : α → Part β} (hf : Loc f) (hg : ∀ a, Loc (g a)) : Loc (also f g) := fun U T p b q h => by
  unfold infnum.also at h
  cases hfe : f U T p with
  | error e => rw [hfe] at h; cases h
  | ok x =>
    obtain ⟨a, m⟩ := x
    rw [hfe] at h
    obtain ⟨h1, h2⟩ := hf _ _ _ _ _ hfe
    obtain ⟨h3, h4⟩ := hg a _ _ _ _ _ h
    refine ⟨Nat.le_trans h1 h3, fun U' T' hq hs => ?_⟩
    unfold infnum.also
    rw [h2 U' T' (Nat.le_trans h3 hq) (same_low hs h3)]
    exact h4 U' T' hq hs
theorem Loc.ite {f g : Part α} {c : Prop} [Decidable c] (hf : Loc f) (hg : Loc g) : Loc (if c then f else g) := by split <;> assumption
theorem Loc.align : Loc align := fun U T p b q h => by
  injection h with h
  injection h with h1 h2
  subst h2
  exact ⟨by omega, fun U' T' _ _ => rfl⟩
theorem Loc.take (n : Nat) : Loc (take n) := fun U T p b q h => by
  unfold infnum.take at h
  split at h
  · injection h with h
    injection h with h1 h2
    subst h1; subst h2
    refine ⟨by omega, fun U' T' hq hs => ?_⟩
    unfold infnum.take
    rw [if_pos hq, same_cut hs (Nat.le_refl _)]
  · cases h
theorem Loc.sym (ls : List Nat) : Loc (sym ls) := fun U T p b q h => by
  unfold infnum.sym at h
  simp only at h
  split at h
  · cases h
  · rename_i hd
    split at h
    · cases h
    · rename_i hm
      obtain ⟨h1, h15, hlo, hhi⟩ := lev_of (Nat.not_le.1 hd)
      injection h with h
      injection h with e1 e2
      generalize hn : lev ls (rev 15 (U / 2 ^ p % 2 ^ min 15 (T - p))) = n at *
      subst e2
      refine ⟨by omega, fun U' T' hq hs => ?_⟩
      have ht := rev_top (U / 2 ^ p % 2 ^ min 15 (T - p)) n (15 - n)
      have ht' := rev_top (U' / 2 ^ p % 2 ^ min 15 (T' - p)) n (15 - n)
      have a1 := rev_mod (U / 2 ^ p) (k := n) (m := min 15 (T - p)) (by omega)
      have a2 := rev_mod (U' / 2 ^ p) (k := n) (m := min 15 (T' - p)) (by omega)
      rw [show n + (15 - n) = 15 by omega, a1] at ht
      rw [show n + (15 - n) = 15 by omega, a2] at ht'
      have hr : rev n (U / 2 ^ p) = rev n (U' / 2 ^ p) := (rev_inj _ _ n).2 (same_cut hs (Nat.le_refl _))
      rw [← hr, ← ht] at ht'
      unfold infnum.sym
      simp only
      generalize rev 15 (U / 2 ^ p % 2 ^ min 15 (T - p)) = t at *
      generalize rev 15 (U' / 2 ^ p % 2 ^ min 15 (T' - p)) = t' at *
      have hx := two_tx ls (n := n - 1) (by omega)
      rw [show n - 1 + 1 = n by omega] at hx
      have hp : 0 < 2 ^ (15 - n) := Nat.pow_pos (by omega)
      have hlo' : tx ls (n - 1) ≤ t' := by
        rw [← hx] at hlo ⊢
        rw [← Nat.le_div_iff_mul_le hp] at hlo ⊢
        rw [ht']; exact hlo
      have hhi' : t' < tx ls n := by
        unfold tx at hhi ⊢
        rw [← Nat.div_lt_iff_lt_mul hp] at hhi ⊢
        rw [ht']; exact hhi
      have h15' := tx_le ls h15 (Nat.le_refl 15)
      rw [if_neg (by omega), lev_is h1 h15 hlo' hhi', if_neg (by omega), ← e1]
      have hi : (t' - tx ls (n - 1)) / 2 ^ (15 - n) = (t - tx ls (n - 1)) / 2 ^ (15 - n) := by
        rw [← hx, Nat.mul_comm _ (2 ^ (15 - n)), Nat.sub_mul_div, Nat.sub_mul_div, ht']
      rw [hi]
end

/-- the same part so many times -/
def times {α : Type} (f : Part α) : Nat → Part (List α)
  | 0 => give []
  | n + 1 => also f fun a => also (times f n) fun l => give (a :: l)
theorem Loc.times {α : Type} {f : Part α} (hf : Loc f) : ∀ n, Loc (times f n)
  | 0 => Loc.give _
  | n + 1 => Loc.also hf fun a => Loc.also (Loc.times hf n) fun l => Loc.give _

/-- the lengths of the code of the lengths, by their symbols -/
def order : List Nat := [16, 17, 18, 0, 8, 7, 9, 6, 10, 5, 11, 4, 12, 3, 13, 2, 14, 1, 15]
def laid (l : List Nat) : List Nat := (List.range 19).map fun s => l.getD (order.idxOf s) 0
/-- may codes be? none: they may be none at all -/
def mayBe (ls : List Nat) (none : Bool) : Bool := decide (tx ls 15 ≤ 32768) && (decide (tx ls 15 = 32768) || decide (ls.sum = 1) || (none && decide (ls.sum = 0)))
/-- n lengths by the code c, behind l -/
def rep (c : List Nat) (n : Nat) : Nat → List Nat → Part (List Nat)
  | 0, l => fail 12
  | f + 1, l =>
    if n < l.length then fail 12
    else if n = l.length then give l
    else also (sym c) fun k =>
      if k = 16 then (match l.getLast? with
        | none => fail 12
        | some v => also (take 2) fun t => rep c n f (l ++ List.replicate (3 + t) v))
      else if k = 17 then also (take 3) fun t => rep c n f (l ++ List.replicate (3 + t) 0)
      else if k = 18 then also (take 7) fun t => rep c n f (l ++ List.replicate (11 + t) 0)
      else rep c n f (l ++ [k])
theorem Loc.rep (c : List Nat) (n : Nat) : ∀ f l, Loc (rep c n f l)
  | 0, l => Loc.fail _
  | f + 1, l => by
    unfold infnum.rep
    refine Loc.ite (Loc.fail _) (Loc.ite (Loc.give _) (Loc.also (Loc.sym c) fun k => Loc.ite ?_ (Loc.ite ?_ (Loc.ite ?_ ?_))))
    · cases l.getLast? with
      | none => exact Loc.fail _
      | some v => exact Loc.also (Loc.take 2) fun t => Loc.rep c n f _
    · exact Loc.also (Loc.take 3) fun t => Loc.rep c n f _
    · exact Loc.also (Loc.take 7) fun t => Loc.rep c n f _
    · exact Loc.rep c n f _
/-- two codes by their lengths -/
def codes : Part (List Nat × List Nat) :=
  also (take 5) fun n => also (take 5) fun d => also (take 4) fun k =>
    if 286 < 257 + n ∨ 30 < 1 + d then fail 12
    else also (times (take 3) (4 + k)) fun l =>
      if mayBe (laid l) false = false then fail 12
      else also (rep (laid l) (258 + n + d) (259 + n + d) []) fun a =>
        if a.getD 256 0 = 0 ∨ mayBe (a.take (257 + n)) false = false ∨ mayBe (a.drop (257 + n)) true = false then fail 12
        else give (a.take (257 + n), a.drop (257 + n))
theorem Loc.codes : Loc codes :=
  Loc.also (Loc.take 5) fun n => Loc.also (Loc.take 5) fun d => Loc.also (Loc.take 4) fun k =>
    Loc.ite (Loc.fail _) (Loc.also (Loc.times (Loc.take 3) _) fun l =>
      Loc.ite (Loc.fail _) (Loc.also (Loc.rep _ _ _ _) fun a => Loc.ite (Loc.fail _) (Loc.give _)))

def fixedLits : List Nat := (List.range 288).map fun i => if 144 ≤ i ∧ i < 256 then 9 else if 256 ≤ i ∧ i < 280 then 7 else 8
def fixedDist : List Nat := List.replicate 32 5
/-- of the length symbols, from 257 on: the first length, how many bits more -/
def longBase : List Nat := [3, 4, 5, 6, 7, 8, 9, 10, 11, 13, 15, 17, 19, 23, 27, 31, 35, 43, 51, 59, 67, 83, 99, 115, 131, 163, 195, 227, 258]
def longMore : List Nat := [0, 0, 0, 0, 0, 0, 0, 0, 1, 1, 1, 1, 2, 2, 2, 2, 3, 3, 3, 3, 4, 4, 4, 4, 5, 5, 5, 5, 0]
/-- of the distances -/
def farBase : List Nat := [1, 2, 3, 4, 5, 7, 9, 13, 17, 25, 33, 49, 65, 97, 129, 193, 257, 385, 513, 769, 1025, 1537, 2049, 3073, 4097, 6145, 8193, 12289, 16385, 24577]
def farMore (k : Nat) : Nat := if 4 ≤ k then k / 2 - 1 else 0
/-- n bytes more, each as it stands f ahead -/
def copied (f : Nat) : Nat → List UInt8 → List UInt8
  | 0, out => out
  | n + 1, out => copied f n (out ++ [out.getD (out.length - f) 0])
theorem copied_more (f : Nat) : ∀ n out, ∃ more, copied f n out = out ++ more ∧ more.length = n
  | 0, out => ⟨[], by simp [copied], rfl⟩
  | n + 1, out => by
    obtain ⟨m, h, hl⟩ := copied_more f n (out ++ [out.getD (out.length - f) 0])
    exact ⟨_ :: m, by rw [copied, h, List.append_assoc]; rfl, by simp [hl]⟩

/-- where unpacking is: ahead of a block; within bytes that are stored; within symbols by two codes -/
inductive Ph where
  | head
  | raw (left : Nat)
  | sy (lits dist : List Nat)
structure At where
  ph : Ph
  last : Bool
  out : List UInt8
/-- one part more -/
def one (s : At) : Part At :=
  match s.ph with
  | .head =>
    if s.last = true then fail 0
    else also (take 1) fun l => also (take 2) fun k =>
      if k = 0 then also align fun _ => also (take 16) fun n => also (take 16) fun t =>
        if n + t = 65535 then give ⟨.raw n, decide (l = 1), s.out⟩ else fail 12
      else if k = 1 then give ⟨.sy fixedLits fixedDist, decide (l = 1), s.out⟩
      else if k = 2 then also codes fun c => give ⟨.sy c.1 c.2, decide (l = 1), s.out⟩
      else fail 12
  | .raw 0 => give ⟨.head, s.last, s.out⟩
  | .raw (n + 1) => also (take 8) fun v => give ⟨.raw n, s.last, s.out ++ [UInt8.ofNat v]⟩
  | .sy a b => also (sym a) fun k =>
      if k < 256 then give ⟨.sy a b, s.last, s.out ++ [UInt8.ofNat k]⟩
      else if k = 256 then give ⟨.head, s.last, s.out⟩
      else if 285 < k then fail 12
      else also (take (longMore.getD (k - 257) 0)) fun e => also (sym b) fun d =>
        if 29 < d then fail 12
        else also (take (farMore d)) fun g =>
          if s.out.length < farBase.getD d 0 + g ∨ 32768 < farBase.getD d 0 + g then fail 12
          else give ⟨.sy a b, s.last, copied (farBase.getD d 0 + g) (longBase.getD (k - 257) 0 + e) s.out⟩
theorem Loc.one (s : At) : Loc (one s) := by
  obtain ⟨ph, last, out⟩ := s
  cases ph with
  | head =>
    exact Loc.ite (Loc.fail _) (Loc.also (Loc.take 1) fun l => Loc.also (Loc.take 2) fun k =>
      Loc.ite (Loc.also Loc.align fun _ => Loc.also (Loc.take 16) fun n => Loc.also (Loc.take 16) fun t => Loc.ite (Loc.give _) (Loc.fail _))
        (Loc.ite (Loc.give _) (Loc.ite (Loc.also Loc.codes fun c => Loc.give _) (Loc.fail _))))
  | raw n =>
    cases n with
    | zero => exact Loc.give _
    | succ n => exact Loc.also (Loc.take 8) fun v => Loc.give _
  | sy a b =>
    exact Loc.also (Loc.sym a) fun k => Loc.ite (Loc.give _) (Loc.ite (Loc.give _) (Loc.ite (Loc.fail _)
      (Loc.also (Loc.take _) fun e => Loc.also (Loc.sym b) fun d => Loc.ite (Loc.fail _) (Loc.also (Loc.take _) fun g => Loc.ite (Loc.fail _) (Loc.give _)))))
/-- a part brings bytes behind those that there are -/
def Grows (f : Part At) (out : List UInt8) : Prop := ∀ U T p s q, f U T p = .ok (s, q) → ∃ more, s.out = out ++ more
theorem Grows.fail (e : Nat) (out : List UInt8) : Grows (fail e) out := fun U T p s q h => by cases h
theorem Grows.give {s : At} {out : List UInt8} (h : ∃ more, s.out = out ++ more) : Grows (give s) out := fun U T p s' q hq => by
  injection hq with hq
  injection hq with h1 h2
  subst h1
  exact h
theorem Grows.also {α : Type} {f : Part α} {g : α → Part At} {out : List UInt8} (hg : ∀ a, Grows (g a) out) : Grows (also f g) out := fun U T p b q h => by
  unfold infnum.also at h
  cases hfe : f U T p with
  | error e => rw [hfe] at h; cases h
  | ok x => rw [hfe] at h; exact hg x.1 _ _ _ _ _ h
theorem Grows.ite {f g : Part At} {out : List UInt8} {c : Prop} [Decidable c] (hf : Grows f out) (hg : Grows g out) : Grows (if c then f else g) out := by split <;> assumption
theorem one_grows (s : At) : Grows (one s) s.out := by
  obtain ⟨ph, last, out⟩ := s
  have same : ∃ more, out = out ++ more := ⟨[], (List.append_nil _).symm⟩
  cases ph with
  | head =>
    exact Grows.ite (Grows.fail _ _) (Grows.also fun l => Grows.also fun k =>
      Grows.ite (Grows.also fun _ => Grows.also fun n => Grows.also fun t => Grows.ite (Grows.give same) (Grows.fail _ _))
        (Grows.ite (Grows.give same) (Grows.ite (Grows.also fun c => Grows.give same) (Grows.fail _ _))))
  | raw n =>
    cases n with
    | zero => exact Grows.give same
    | succ n => exact Grows.also fun v => Grows.give ⟨_, rfl⟩
  | sy a b =>
    exact Grows.also fun k => Grows.ite (Grows.give ⟨_, rfl⟩) (Grows.ite (Grows.give same) (Grows.ite (Grows.fail _ _)
      (Grows.also fun e => Grows.also fun d => Grows.ite (Grows.fail _ _) (Grows.also fun g => Grows.ite (Grows.fail _ _)
        (Grows.give (by obtain ⟨m, h, _⟩ := copied_more (farBase.getD d 0 + g) (longBase.getD (k - 257) 0 + e) out; exact ⟨m, h⟩))))))

/-- parts, one behind the other -/
inductive Steps (U T : Nat) : At × Nat → At × Nat → Prop where
  | refl (x : At × Nat) : Steps U T x x
  | more {s s' : At} {p q : Nat} {y : At × Nat} (h : one s U T p = .ok (s', q)) (r : Steps U T (s', q) y) : Steps U T (s, p) y
section
variable {U T : Nat} {x y z : At × Nat}
theorem Steps.trans (h : Steps U T x y) (k : Steps U T y z) : Steps U T x z := by
  induction h with
  | refl x => exact k
  | more h r ih => exact .more h (ih k)
theorem Steps.one {s s' : At} {p q : Nat} (h : one s U T p = .ok (s', q)) : Steps U T (s, p) (s', q) := .more h (.refl _)
theorem Steps.snoc {s s' : At} {p q : Nat} (h : Steps U T x (s, p)) (k : infnum.one s U T p = .ok (s', q)) : Steps U T x (s', q) := h.trans (.one k)
theorem Steps.le (h : Steps U T x y) : x.2 ≤ y.2 := by
  induction h with
  | refl x => exact Nat.le_refl _
  | more h r ih => exact Nat.le_trans (Loc.one _ _ _ _ _ _ h).1 ih
theorem Steps.out (h : Steps U T x y) : ∃ m, y.1.out = x.1.out ++ m := by
  induction h with
  | refl x => exact ⟨[], (List.append_nil _).symm⟩
  | more h r ih =>
    obtain ⟨m, hm⟩ := ih
    obtain ⟨m', hm'⟩ := one_grows _ _ _ _ _ _ h
    exact ⟨m' ++ m, by rw [hm, hm', List.append_assoc]⟩
theorem Steps.local_ (h : Steps U T x y) {U' T' : Nat} (hT : y.2 ≤ T') (hU : U % 2 ^ y.2 = U' % 2 ^ y.2) : Steps U' T' x y := by
  induction h with
  | refl x => exact .refl x
  | more h r ih =>
    have hl := r.le
    exact .more ((Loc.one _ _ _ _ _ _ h).2 U' T' (Nat.le_trans hl hT) (same_low hU hl)) (ih hT hU)
/-- of two roads from one place one is the other's beginning -/
theorem Steps.meet (h : Steps U T x y) (k : Steps U T x z) : Steps U T y z ∨ Steps U T z y := by
  induction h with
  | refl x => exact .inl k
  | more h r ih =>
    cases k with
    | refl => exact .inr (.more h r)
    | more h' r' =>
      rw [h] at h'
      injection h' with h'
      injection h' with h1 h2
      subst h1; subst h2
      exact ih r'
end
/-- all is unpacked -/
def Fin (s : At) : Prop := s.ph = .head ∧ s.last = true
theorem Fin.stuck {s : At} (h : Fin s) {U T p : Nat} {y : At × Nat} (k : Steps U T (s, p) y) : y = (s, p) := by
  cases k with
  | refl => rfl
  | more h' r =>
    unfold one at h'
    rw [h.1] at h'
    simp only [h.2, if_true] at h'
    cases h'
def start : At := ⟨.head, false, []⟩
/-- the bytes b are unpacked to x; the first n are needed -/
def Unp (b x : List UInt8) (n : Nat) : Prop := ∃ s p, Steps (num b) (8 * b.length) (start, 0) (s, p) ∧ Fin s ∧ s.out = x ∧ n = (p + 7) / 8 ∧ p ≤ 8 * b.length
theorem Unp.uniq {b x y : List UInt8} {n m : Nat} (h : Unp b x n) (k : Unp b y m) : x = y ∧ n = m := by
  obtain ⟨s, p, hs, hf, rfl, rfl, _⟩ := h
  obtain ⟨s', p', hs', hf', rfl, rfl, _⟩ := k
  rcases hs.meet hs' with h | h
  · have := hf.stuck h
    injection this with h1 h2
    subst h1; subst h2
    exact ⟨rfl, rfl⟩
  · have := hf'.stuck h
    injection this with h1 h2
    subst h1; subst h2
    exact ⟨rfl, rfl⟩
theorem Unp.le {b x : List UInt8} {n : Nat} (h : Unp b x n) : n ≤ b.length := by
  obtain ⟨s, p, hs, hf, rfl, rfl, hp⟩ := h
  omega
theorem num_agree {b b' : List UInt8} {p : Nat} (n : Nat) (hp : p ≤ 8 * n) (h : b.take n = b'.take n) (hb : n ≤ b.length) (hb' : n ≤ b'.length) : num b % 2 ^ p = num b' % 2 ^ p := by
  have h1 := num_cut_take b n hb
  have h2 := num_cut_take b' n hb'
  rw [h, h2, ← pow256] at h1
  exact same_low h1.symm hp
/-- what stands behind is not looked at -/
theorem Unp.behind {b b' x : List UInt8} {n : Nat} (h : Unp b x n) (hb' : n ≤ b'.length) (ht : b.take n = b'.take n) : Unp b' x n := by
  have hle := h.le
  obtain ⟨s, p, hs, hf, rfl, rfl, hp⟩ := h
  exact ⟨s, p, hs.local_ (by show p ≤ _; omega) (num_agree ((p + 7) / 8) (by show p ≤ _; omega) ht hle hb'), hf, rfl, rfl, by omega⟩
end Go.Proofs.YtlaecigjnknhoaaDoor.infnum
