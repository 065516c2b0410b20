import Derived.Test.YtcdehklcdipcfaaGreatMgNm
import Derived.Test.YtcdehklcdipcfaaGreatMgVn
import Derived.Test.YtcdehklcdipcfaaGreatMgLf
/-
  A pager's pages, as lists: what page 0 tells, the file of the pages. The plain mathematics of pager. My own text.
-/
namespace Go.Proofs.YtcdehklcdipcfaaGreat.pgr
open Go.Proofs.YtcdehklcdipcfaaGreat.num Go.Proofs.YtcdehklcdipcfaaGreat.pagn Go.Proofs.YtcdehklcdipcfaaGreat.word
set_option linter.unusedVariables false

abbrev Bs := List UInt8
/-- what page 0 tells -/
structure Hd where
  many : Nat
  first : Nat
  roots : List Nat
/-- as it may lie in memory -/
structure Hd.Ok (h : Hd) : Prop where
  eight : h.roots.length = 8
  many : h.many ≤ 65536
  first : h.first ≤ 65536
  roots : ∀ r ∈ h.roots, r ≤ 65536
/-- as it may be committed -/
structure Hd.Good (h : Hd) : Prop where
  eight : h.roots.length = 8
  many : h.many ≤ 65536
  first : h.first < h.many
  roots : ∀ r ∈ h.roots, r < h.many
theorem Hd.Good.ok {h : Hd} (k : h.Good) : h.Ok := ⟨k.eight, k.many, by have := k.first; have := k.many; omega, fun r hr => by have := k.roots r hr; have := k.many; omega⟩
def Hd.nums (h : Hd) : List Int := (h.many : Int) :: (h.first : Int) :: h.roots.map fun (r : Nat) => (r : Int)
def mk4p : Bs := [105, 113, 100, 98]
def hdB (h : Hd) : Bs := fill (mk4p ++ puts 4 h.nums)
def numAt (b : Bs) (i : Nat) : Nat := num ((b.drop (4 * i)).take 4)
def hd0 : Hd := ⟨0, 0, [0, 0, 0, 0, 0, 0, 0, 0]⟩
def hd1 : Hd := ⟨1, 0, [0, 0, 0, 0, 0, 0, 0, 0]⟩
def zeros : Bs := List.replicate 508 0
theorem hd0_ok : hd0.Ok := ⟨rfl, by decide, by decide, by decide⟩
theorem hd1_good : hd1.Good := ⟨rfl, by decide, by decide, by decide⟩

theorem puts_cons (z : Int) (l : List Int) : puts 4 (z :: l) = low 4 (u64 z) ++ puts 4 l := rfl
theorem puts_len (l : List Int) : (puts 4 l).length = 4 * l.length := by
  induction l with
  | nil => rfl
  | cons z r ih => rw [puts_cons, List.length_append, low_length, ih, List.length_cons]; omega
theorem Hd.nums_len {h : Hd} (k : h.roots.length = 8) : h.nums.length = 10 := by simp [Hd.nums, k]
theorem hdB_len {h : Hd} (k : h.roots.length = 8) : (hdB h).length = 508 := by
  refine fill_length _ ?_
  rw [List.length_append, puts_len, Hd.nums_len k]
  decide
theorem puts_drop (l : List Int) (more : Bs) (i : Nat) (hi : i ≤ l.length) : (puts 4 l ++ more).drop (4 * i) = puts 4 (l.drop i) ++ more := by
  induction i generalizing l with
  | zero => simp
  | succ i ih =>
    match l, hi with
    | z :: r, hi =>
      rw [puts_cons, List.append_assoc, show 4 * (i + 1) = (low 4 (u64 z)).length + 4 * i by rw [low_length]; omega, List.drop_append, List.drop_of_length_le (by omega), List.nil_append, Nat.add_sub_cancel_left, ih r (by simpa using hi)]
      rfl
theorem numAt_puts (l : List Int) (more : Bs) (i : Nat) (n : Nat) (h : l[i]? = some (n : Int)) (hn : n < 4294967296) : num (((puts 4 l ++ more).drop (4 * i)).take 4) = n := by
  have hi : i < l.length := by
    rcases Nat.lt_or_ge i l.length with h1 | h1
    · exact h1
    · rw [List.getElem?_eq_none h1] at h; cases h
  rw [puts_drop l more i (by omega)]
  have hc : l.drop i = (n : Int) :: l.drop (i + 1) := by
    rw [List.drop_eq_getElem_cons hi]
    rw [List.getElem?_eq_getElem hi] at h
    injection h with h
    rw [h]
  rw [hc, puts_cons, List.append_assoc, List.take_left' (low_length _ _), num_low]
  have : u64 (n : Int) = n := by unfold u64; omega
  rw [this]
  exact Nat.mod_eq_of_lt (by omega)
theorem numAt_hdB {h : Hd} (i : Nat) (n : Nat) (hn : h.nums[i]? = some (n : Int)) (hb : n < 4294967296) : numAt (hdB h) (i + 1) = n := by
  unfold numAt hdB fill
  rw [List.append_assoc, show 4 * (i + 1) = mk4p.length + 4 * i by show _ = 4 + _; omega, List.drop_append, List.drop_of_length_le (by show 4 ≤ 4 + _; omega), List.nil_append, Nat.add_sub_cancel_left]
  exact numAt_puts _ _ i n hn hb
theorem nums_many (h : Hd) : h.nums[0]? = some (h.many : Int) := rfl
theorem nums_first (h : Hd) : h.nums[1]? = some (h.first : Int) := rfl
theorem nums_root (h : Hd) (k : Nat) (r : Nat) (hr : h.roots[k]? = some r) : h.nums[k + 2]? = some (r : Int) := by
  show (h.roots.map fun (r : Nat) => (r : Int))[k]? = _
  rw [List.getElem?_map, hr]; rfl

/-- the pages, from the i-th one on, as they stand one behind the other -/
def flat : Nat → List Bs → Bs
  | _, [] => []
  | i, f :: r => page i f ++ flat (i + 1) r
def All508 (C : List Bs) : Prop := ∀ f ∈ C, f.length = 508
theorem flat_len (C : List Bs) (i : Nat) (h : All508 C) : (flat i C).length = 512 * C.length := by
  induction C generalizing i with
  | nil => rfl
  | cons f r ih => rw [flat, List.length_append, page_length i f (h f (by simp)), ih (i + 1) fun g hg => h g (by simp [hg]), List.length_cons]; omega
theorem flat_app (C D : List Bs) (i : Nat) : flat i (C ++ D) = flat i C ++ flat (i + C.length) D := by
  induction C generalizing i with
  | nil => rfl
  | cons f r ih => rw [List.cons_append, flat, ih, flat, List.append_assoc, List.length_cons, show i + 1 + r.length = i + (r.length + 1) by omega]
theorem flat_at (C : List Bs) (h : All508 C) (no : Nat) (f : Bs) (hf : C[no]? = some f) : ((flat 0 C).drop (512 * no)).take 512 = page no f := by
  have hlt : no < C.length := by
    rcases Nat.lt_or_ge no C.length with h1 | h1
    · exact h1
    · rw [List.getElem?_eq_none h1] at hf; cases hf
  have e : C = C.take no ++ f :: C.drop (no + 1) := by
    have := List.getElem?_eq_getElem hlt
    rw [this] at hf; injection hf with hf
    rw [← hf, ← List.drop_eq_getElem_cons hlt, List.take_append_drop]
  have h1 : All508 (C.take no) := fun g hg => h g (List.mem_of_mem_take hg)
  have hl := flat_len (C.take no) 0 h1
  rw [List.length_take, Nat.min_eq_left (by omega)] at hl
  have hpl := page_length no f (h f (List.mem_of_getElem? hf))
  rw [e, flat_app, List.drop_append, List.drop_of_length_le (by omega), List.nil_append, hl, Nat.sub_self, List.drop_zero, List.length_take, Nat.min_eq_left (by omega), Nat.zero_add, flat, List.take_left' hpl]
end Go.Proofs.YtcdehklcdipcfaaGreat.pgr
