/-
  Layer 13's plain mathematics: how a pattern is read, by the program and by the reference; quoting. No program in it. My own text.
-/
import Derived.Test.YtkkkjadfhimahaaDoorGlbNum
namespace Go.Proofs.YtkkkjadfhimahaaDoor.glb
open Go.Proofs.YtkkkjadfhimahaaDoor.base Go.Proofs.YtkkkjadfhimahaaDoor.nam
set_option linter.unusedVariables false

def beg (l : List Nat) (r : Nat) : Bool := match l with
  | [] => false
  | a :: _ => decide (a = r)
def esc : List Nat → Option (Nat × Nat)
  | [] => none
  | b :: _ => some (b, 2)
def runeP : List Nat → Option (Nat × Nat)
  | [] => none
  | a :: l => if a = 92 then esc l else some (a, 1)
theorem runeP_le {l : List Nat} {r n : Nat} (h : runeP l = some (r, n)) : 1 ≤ n ∧ n ≤ l.length := by
  cases l with
  | nil => cases h
  | cons a l =>
    rw [runeP] at h
    split at h
    · cases l with
      | nil => cases h
      | cons b l => injection h with h; injection h with _ h; simp; omega
    · injection h with h; injection h with _ h; simp; omega
theorem runeP_mem {l : List Nat} {r n : Nat} (h : runeP l = some (r, n)) : r ∈ l := by
  cases l with
  | nil => cases h
  | cons a l =>
    rw [runeP] at h
    split at h
    · cases l with
      | nil => cases h
      | cons b l => injection h with h; injection h with h _; subst h; simp
    · injection h with h; injection h with h _; subst h; simp
def spanP (l : List Nat) : Option ((Nat × Nat) × Nat) := match runeP l with
  | none => none
  | some (a, n) => if beg (l.drop n) 45 = true ∧ beg (l.drop (n + 1)) 93 = false then
      (match runeP (l.drop (n + 1)) with
       | none => none
       | some (b, m) => if b < a then none else some ((a, b), n + 1 + m))
    else some ((a, a), n)
/-- the reference's -/
def spanR (l : List Nat) : Option ((Nat × Nat) × Nat) := match runeP l with
  | none => none
  | some (a, n) => if beg (l.drop n) 45 = true ∧ l.drop (n + 1) ≠ [] ∧ beg (l.drop (n + 1)) 93 = false then
      (match runeP (l.drop (n + 1)) with
       | none => none
       | some (b, m) => if b < a then none else some ((a, b), n + 1 + m))
    else some ((a, a), n)
theorem spanP_le {l : List Nat} {s : Nat × Nat} {n : Nat} (h : spanP l = some (s, n)) : 1 ≤ n ∧ n ≤ l.length := by
  unfold spanP at h
  cases hr : runeP l with
  | none => rw [hr] at h; cases h
  | some q =>
    obtain ⟨a, k⟩ := q
    have h1 := runeP_le hr
    rw [hr] at h
    simp only at h
    split at h
    · cases hr2 : runeP (l.drop (k + 1)) with
      | none => rw [hr2] at h; cases h
      | some q2 =>
        obtain ⟨b, m⟩ := q2
        have h2 := runeP_le hr2
        rw [List.length_drop] at h2
        rw [hr2] at h
        simp only at h
        split at h
        · cases h
        · injection h with h; injection h with _ h; omega
    · injection h with h; injection h with _ h; omega
theorem spanR_le {l : List Nat} {s : Nat × Nat} {n : Nat} (h : spanR l = some (s, n)) : 1 ≤ n ∧ n ≤ l.length := by
  unfold spanR at h
  cases hr : runeP l with
  | none => rw [hr] at h; cases h
  | some q =>
    obtain ⟨a, k⟩ := q
    have h1 := runeP_le hr
    rw [hr] at h
    simp only at h
    split at h
    · cases hr2 : runeP (l.drop (k + 1)) with
      | none => rw [hr2] at h; cases h
      | some q2 =>
        obtain ⟨b, m⟩ := q2
        have h2 := runeP_le hr2
        rw [List.length_drop] at h2
        rw [hr2] at h
        simp only at h
        split at h
        · cases h
        · injection h with h; injection h with _ h; omega
    · injection h with h; injection h with _ h; omega
/-- the parts of a class, from behind its head on, and how many runes they have, the ] too -/
def clF (sp : List Nat → Option ((Nat × Nat) × Nat)) : Nat → Bool → List Nat → Option (List (Nat × Nat) × Nat)
  | 0, _, _ => none
  | f + 1, first, l => if first = false ∧ beg l 93 = true then some ([], 1) else match sp l with
    | none => none
    | some (s, n) => (clF sp f false (l.drop n)).map fun q => (s :: q.1, n + q.2)
def cl (first : Bool) (l : List Nat) : Option (List (Nat × Nat) × Nat) := clF spanP (l.length + 1) first l
def clR (first : Bool) (l : List Nat) : Option (List (Nat × Nat) × Nat) := clF spanR (l.length + 1) first l
theorem clF_more (sp : List Nat → Option ((Nat × Nat) × Nat)) (hsp : ∀ l s n, sp l = some (s, n) → 1 ≤ n ∧ n ≤ l.length) : ∀ (f g : Nat) (b : Bool) (l : List Nat), l.length < f → l.length < g → clF sp f b l = clF sp g b l
  | 0, _, _, _, h, _ => absurd h (by omega)
  | _, 0, _, _, _, h => absurd h (by omega)
  | f + 1, g + 1, b, l, h1, h2 => by
    rw [clF, clF]
    split
    · rfl
    · cases hs : sp l with
      | none => rfl
      | some q =>
        obtain ⟨s, n⟩ := q
        have h3 := hsp l s n hs
        simp only
        rw [clF_more sp hsp f g false _ (by rw [List.length_drop]; omega) (by rw [List.length_drop]; omega)]
theorem cl_end {l : List Nat} (h : beg l 93 = true) : cl false l = some ([], 1) := by rw [cl, clF, if_pos ⟨rfl, h⟩]
theorem cl_bad {b : Bool} {l : List Nat} (h : ¬ (b = false ∧ beg l 93 = true)) (hs : spanP l = none) : cl b l = none := by rw [cl, clF, if_neg h, hs]
theorem cl_step {b : Bool} {l : List Nat} {s : Nat × Nat} {n : Nat} (h : ¬ (b = false ∧ beg l 93 = true)) (hs : spanP l = some (s, n)) : cl b l = (cl false (l.drop n)).map fun q => (s :: q.1, n + q.2) := by
  rw [cl, clF, if_neg h, hs]
  simp only
  rw [cl, clF_more spanP (fun _ _ _ => spanP_le) l.length ((l.drop n).length + 1) false _ (by rw [List.length_drop]; have := spanP_le hs; omega) (by omega)]
theorem clR_end {l : List Nat} (h : beg l 93 = true) : clR false l = some ([], 1) := by rw [clR, clF, if_pos ⟨rfl, h⟩]
theorem clR_bad {b : Bool} {l : List Nat} (h : ¬ (b = false ∧ beg l 93 = true)) (hs : spanR l = none) : clR b l = none := by rw [clR, clF, if_neg h, hs]
theorem clR_step {b : Bool} {l : List Nat} {s : Nat × Nat} {n : Nat} (h : ¬ (b = false ∧ beg l 93 = true)) (hs : spanR l = some (s, n)) : clR b l = (clR false (l.drop n)).map fun q => (s :: q.1, n + q.2) := by
  rw [clR, clF, if_neg h, hs]
  simp only
  rw [clR, clF_more spanR (fun _ _ _ => spanR_le) l.length ((l.drop n).length + 1) false _ (by rw [List.length_drop]; have := spanR_le hs; omega) (by omega)]
theorem span_or (l : List Nat) : spanP l = spanR l ∨ (spanP l = none ∧ ∃ s n, spanR l = some (s, n) ∧ l.drop n = [45]) := by
  unfold spanP spanR
  cases hr : runeP l with
  | none => exact Or.inl rfl
  | some q =>
    obtain ⟨a, n⟩ := q
    simp only
    by_cases h1 : beg (l.drop n) 45 = true ∧ beg (l.drop (n + 1)) 93 = false
    · by_cases h2 : l.drop (n + 1) = []
      · refine Or.inr ⟨by rw [if_pos h1, h2]; rfl, (a, a), n, by rw [if_neg fun h => h.2.1 h2], ?_⟩
        have h3 := h1.1
        cases hd : l.drop n with
        | nil => rw [hd] at h3; cases h3
        | cons x y =>
          rw [hd, beg] at h3
          have e : l.drop (n + 1) = y := by rw [← List.drop_drop, hd]; rfl
          rw [e] at h2
          rw [h2, of_decide_eq_true h3]
      · left
        rw [if_pos h1, if_pos ⟨h1.1, h2, h1.2⟩]
    · left
      rw [if_neg h1, if_neg fun h => h1 ⟨h.1, h.2.2⟩]
theorem clR_dash : clR false [45] = none := by decide
/-- both read classes alike -/
theorem cl_both (b : Bool) (l : List Nat) : clR b l = cl b l := by
  obtain ⟨n, hn⟩ : ∃ n, l.length ≤ n := ⟨_, Nat.le_refl _⟩
  induction n generalizing b l with
  | zero =>
    have : l = [] := List.eq_nil_of_length_eq_zero (by omega)
    subst this
    cases b <;> decide
  | succ n ih =>
    by_cases h : b = false ∧ beg l 93 = true
    · obtain ⟨rfl, h⟩ := h
      rw [cl_end h, clR_end h]
    · rcases span_or l with e | ⟨e, s, k, e2, e3⟩
      · cases hs : spanP l with
        | none => rw [cl_bad h hs, clR_bad h (by rw [← e, hs])]
        | some q =>
          obtain ⟨s, k⟩ := q
          have h3 := spanP_le hs
          rw [cl_step h hs, clR_step h (by rw [← e, hs]), ih false _ (by rw [List.length_drop]; omega)]
      · rw [cl_bad h e, clR_step h e2, e3, clR_dash]
        rfl
theorem cl_le {b : Bool} {l : List Nat} {sp : List (Nat × Nat)} {n : Nat} (h : cl b l = some (sp, n)) : 1 ≤ n ∧ n ≤ l.length := by
  obtain ⟨m, hm⟩ : ∃ m, l.length ≤ m := ⟨_, Nat.le_refl _⟩
  induction m generalizing b l sp n with
  | zero =>
    have : l = [] := List.eq_nil_of_length_eq_zero (by omega)
    subst this
    cases b <;> cases h
  | succ m ih =>
    by_cases hb : b = false ∧ beg l 93 = true
    · obtain ⟨rfl, hb⟩ := hb
      rw [cl_end hb] at h
      injection h with h
      injection h with _ h
      cases l with
      | nil => cases hb
      | cons a l => simp; omega
    · cases hs : spanP l with
      | none => rw [cl_bad hb hs] at h; cases h
      | some q =>
        obtain ⟨s, k⟩ := q
        have h3 := spanP_le hs
        rw [cl_step hb hs] at h
        cases hc : cl false (l.drop k) with
        | none => rw [hc] at h; cases h
        | some q2 =>
          obtain ⟨sp2, k2⟩ := q2
          have h4 := ih hc (by rw [List.length_drop]; omega)
          rw [List.length_drop] at h4
          rw [hc] at h
          injection h with h
          injection h with _ h
          omega
/-- where the parts of a class begin -/
def clK (l : List Nat) : Nat := if beg (l.drop 1) 33 = true then 2 else 1
def clsP (l : List Nat) : Option (Pt × Nat) := (cl true (l.drop (clK l))).map fun q => (.cls (beg (l.drop 1) 33) q.1, clK l + q.2)
/-- the part at the head -/
def prt : List Nat → Option (Pt × Nat)
  | [] => none
  | a :: l => if a = 63 then some (.one, 1) else if a = 42 then (if beg l 42 = true then some (.all, 2) else some (.star, 1)) else if a = 91 then clsP (a :: l) else (runeP (a :: l)).map fun q => (.it q.1, q.2)
theorem clK_le {l : List Nat} (h : l ≠ []) : 1 ≤ clK l ∧ clK l ≤ l.length := by
  have := List.length_pos_iff.2 h
  unfold clK
  split
  · rename_i h2
    cases hd : l.drop 1 with
    | nil => rw [hd] at h2; cases h2
    | cons a r => have := congrArg List.length hd; rw [List.length_drop] at this; simp at this; omega
  · omega
theorem prt_le {l : List Nat} {p : Pt} {n : Nat} (h : prt l = some (p, n)) : 1 ≤ n ∧ n ≤ l.length := by
  cases l with
  | nil => cases h
  | cons a l =>
    rw [prt] at h
    split at h
    · injection h with h; injection h with _ h; simp; omega
    split at h
    · split at h
      · rename_i h2
        injection h with h; injection h with _ h
        cases l with
        | nil => cases h2
        | cons b l => simp; omega
      · injection h with h; injection h with _ h; simp; omega
    split at h
    · rw [clsP] at h
      cases hc : cl true ((a :: l).drop (clK (a :: l))) with
      | none => rw [hc] at h; cases h
      | some q =>
        obtain ⟨sp, k⟩ := q
        have h1 := cl_le hc
        have h2 := clK_le (l := a :: l) (by simp)
        rw [List.length_drop] at h1
        rw [hc] at h
        injection h with h
        injection h with _ h
        simp only at h
        omega
    · cases hr : runeP (a :: l) with
      | none => rw [hr] at h; cases h
      | some q =>
        obtain ⟨r, k⟩ := q
        have h1 := runeP_le hr
        rw [hr] at h
        injection h with h
        injection h with _ h
        simp only at h
        omega
def prsF : Nat → List Nat → Option (List Pt)
  | 0, _ => none
  | f + 1, l => if l = [] then some [] else match prt l with
    | none => none
    | some (p, n) => (prsF f (l.drop n)).map (p :: ·)
/-- the parts of a pattern -/
def prs (l : List Nat) : Option (List Pt) := prsF (l.length + 1) l
theorem prsF_more : ∀ (f g : Nat) (l : List Nat), l.length < f → l.length < g → prsF f l = prsF g l
  | 0, _, _, h, _ => absurd h (by omega)
  | _, 0, _, _, h => absurd h (by omega)
  | f + 1, g + 1, l, h1, h2 => by
    rw [prsF, prsF]
    split
    · rfl
    · cases hs : prt l with
      | none => rfl
      | some q =>
        obtain ⟨p, n⟩ := q
        have h3 := prt_le hs
        simp only
        rw [prsF_more f g _ (by rw [List.length_drop]; omega) (by rw [List.length_drop]; omega)]
theorem prs_nil : prs [] = some [] := rfl
theorem prs_bad {l : List Nat} (h : l ≠ []) (hs : prt l = none) : prs l = none := by rw [prs, prsF, if_neg h, hs]
theorem prs_step {l : List Nat} {p : Pt} {n : Nat} (hs : prt l = some (p, n)) : prs l = (prs (l.drop n)).map (p :: ·) := by
  have hne : l ≠ [] := by rintro rfl; cases hs
  rw [prs, prsF, if_neg hne, hs]
  simp only
  rw [prs, prsF_more l.length ((l.drop n).length + 1) _ (by rw [List.length_drop]; have := prt_le hs; omega) (by omega)]
/-- runes of parts that are themselves are the pattern's -/
def okP (P : Nat → Prop) : Pt → Prop
  | .it r => P r
  | _ => True
theorem prs_ok {P : Nat → Prop} {l : List Nat} {ps : List Pt} (hl : ∀ r ∈ l, P r) (h : prs l = some ps) : ∀ p ∈ ps, okP P p := by
  obtain ⟨m, hm⟩ : ∃ m, l.length ≤ m := ⟨_, Nat.le_refl _⟩
  induction m generalizing l ps with
  | zero =>
    have : l = [] := List.eq_nil_of_length_eq_zero (by omega)
    subst this
    rw [prs_nil] at h
    injection h with h
    subst h
    simp
  | succ m ih =>
    by_cases hne : l = []
    · subst hne
      rw [prs_nil] at h
      injection h with h
      subst h
      simp
    · cases hs : prt l with
      | none => rw [prs_bad hne hs] at h; cases h
      | some q =>
        obtain ⟨p, n⟩ := q
        have h3 := prt_le hs
        rw [prs_step hs] at h
        cases hc : prs (l.drop n) with
        | none => rw [hc] at h; cases h
        | some ps2 =>
          rw [hc] at h
          injection h with h
          subst h
          intro x hx
          rcases List.mem_cons.1 hx with rfl | hx
          · cases x with
            | it r =>
              show P r
              cases l with
              | nil => cases hs
              | cons a l =>
                rw [prt] at hs
                split at hs
                · cases hs
                split at hs
                · split at hs <;> cases hs
                split at hs
                · rw [clsP] at hs
                  cases hc2 : cl true ((a :: l).drop (clK (a :: l))) with
                  | none => rw [hc2] at hs; cases hs
                  | some q => rw [hc2] at hs; injection hs with hs; injection hs with hs _; cases hs
                · cases hr : runeP (a :: l) with
                  | none => rw [hr] at hs; cases hs
                  | some q =>
                    obtain ⟨r', k⟩ := q
                    rw [hr] at hs
                    injection hs with hs
                    injection hs with hs _
                    injection hs with hs
                    subst hs
                    exact hl _ (runeP_mem hr)
            | _ => trivial
          · exact ih (fun r hr => hl r (List.mem_of_mem_drop hr)) hc (by rw [List.length_drop]; omega) x hx

theorem prs_len {l : List Nat} {ps : List Pt} (h : prs l = some ps) : ps.length ≤ l.length := by
  obtain ⟨m, hm⟩ : ∃ m, l.length ≤ m := ⟨_, Nat.le_refl _⟩
  induction m generalizing l ps with
  | zero =>
    have : l = [] := List.eq_nil_of_length_eq_zero (by omega)
    subst this
    rw [prs_nil] at h
    injection h with h
    subst h
    exact Nat.le_refl _
  | succ m ih =>
    by_cases hne : l = []
    · subst hne
      rw [prs_nil] at h
      injection h with h
      subst h
      exact Nat.le_refl _
    · cases hs : prt l with
      | none => rw [prs_bad hne hs] at h; cases h
      | some q =>
        obtain ⟨p, n⟩ := q
        have h3 := prt_le hs
        rw [prs_step hs] at h
        cases hc : prs (l.drop n) with
        | none => rw [hc] at h; cases h
        | some ps2 =>
          rw [hc] at h
          injection h with h
          subst h
          have := ih hc (by rw [List.length_drop]; omega)
          rw [List.length_drop] at this
          simp
          omega
theorem hd_ok {P : Nat → Prop} : ∀ (ps : List Pt), (∀ p ∈ ps, okP P p) → ∀ r ∈ (hd ps).1, P r
  | [], _, r, hr => by cases hr
  | .it a :: ps, h, r, hr => by
    rcases List.mem_cons.1 hr with rfl | hr
    · exact h (.it r) (.head _)
    · exact hd_ok ps (fun p hp => h p (.tail _ hp)) r hr
  | .one :: ps, _, r, hr => by cases hr
  | .star :: ps, _, r, hr => by cases hr
  | .all :: ps, _, r, hr => by cases hr
  | .cls _ _ :: ps, _, r, hr => by cases hr
theorem hd_len : ∀ (ps : List Pt), (hd ps).1.length ≤ ps.length
  | [] => Nat.le_refl _
  | .it a :: ps => by have := hd_len ps; rw [hd]; simp; omega
  | .one :: ps => Nat.zero_le _
  | .star :: ps => Nat.zero_le _
  | .all :: ps => Nat.zero_le _
  | .cls _ _ :: ps => Nat.zero_le _

/-! quoting -/
def spec (r : Nat) : Bool := decide (r = 63) || (decide (r = 42) || (decide (r = 91) || decide (r = 92)))
def qt1 (r : Nat) : List Nat := if spec r = true then [92, r] else [r]
def qt (rs : List Nat) : List Nat := rs.flatMap qt1
def qb1 (b : UInt8) : List UInt8 := if spec b.toNat = true then [92, b] else [b]
def qb (bs : List UInt8) : List UInt8 := bs.flatMap qb1
theorem en_92 : en 92 = [92] := by decide
theorem spec_lt {r : Nat} (h : spec r = true) : r < 128 := by
  unfold spec at h
  simp at h
  omega
theorem qb_en {r : Nat} (h : Rn r) : qb (en r) = tx (qt1 r) := by
  by_cases h1 : r < 128
  · have e : en r = [UInt8.ofNat r] := by rw [en, if_pos h1]
    unfold qb qt1
    rw [e, List.flatMap_cons, List.flatMap_nil, List.append_nil, qb1, nat_u8 r (by omega)]
    by_cases h2 : spec r = true
    · rw [if_pos h2, if_pos h2]
      show _ = tx [92, r]
      rw [tx_cons, tx_cons, e, en_92]
      rfl
    · rw [if_neg h2, if_neg h2]
      show _ = tx [r]
      rw [tx_cons, e]
      rfl
  · have h2 : ¬ spec r = true := fun h => h1 (spec_lt h)
    unfold qt1
    rw [if_neg h2]
    have e : ∀ l : List UInt8, (∀ b ∈ l, 128 ≤ b.toNat) → qb l = l := by
      intro l hl
      induction l with
      | nil => rfl
      | cons b l ih =>
        have hb := hl b (.head _)
        unfold qb
        rw [List.flatMap_cons, qb1, if_neg (fun h => by have := spec_lt h; omega)]
        have := ih fun x hx => hl x (.tail _ hx)
        unfold qb at this
        rw [this]
        rfl
    rw [e _ fun b hb => by rcases en_high h b hb with h | h <;> omega]
    simp [tx]
theorem qb_tx : ∀ (rs : List Nat), (∀ r ∈ rs, Rn r) → qb (tx rs) = tx (qt rs)
  | [], _ => rfl
  | r :: rs, h => by
    have h1 := qb_en (h r (.head _))
    have h2 := qb_tx rs fun x hx => h x (.tail _ hx)
    have e1 : qb (tx (r :: rs)) = qb (en r) ++ qb (tx rs) := by rw [tx_cons]; exact List.flatMap_append
    have e2 : qt (r :: rs) = qt1 r ++ qt rs := rfl
    rw [e1, h1, h2, e2, tx_append]
theorem qb_len (bs : List UInt8) : (qb bs).length ≤ 2 * bs.length := by
  induction bs with
  | nil => exact Nat.le_refl _
  | cons b bs ih =>
    have e : qb (b :: bs) = qb1 b ++ qb bs := rfl
    have : (qb1 b).length ≤ 2 := by unfold qb1; split <;> simp
    rw [e, List.length_append, List.length_cons]
    omega
theorem qt_rn {rs : List Nat} (h : ∀ r ∈ rs, Rn r) : ∀ r ∈ qt rs, Rn r := by
  intro r hr
  obtain ⟨x, hx, hrx⟩ := List.mem_flatMap.1 hr
  unfold qt1 at hrx
  split at hrx
  · simp only [List.mem_cons, List.not_mem_nil, or_false] at hrx
    rcases hrx with rfl | rfl
    · exact Or.inl (by omega)
    · exact h _ hx
  · rw [List.mem_singleton] at hrx
    subst hrx
    exact h _ hx
theorem prt_q (r : Nat) (l : List Nat) : prt (qt1 r ++ l) = some (.it r, (qt1 r).length) := by
  unfold qt1
  by_cases h : spec r = true
  · rw [if_pos h]
    rfl
  · rw [if_neg h]
    unfold spec at h
    simp at h
    rw [List.singleton_append, prt, if_neg (by omega), if_neg (by omega), if_neg (by omega), runeP, if_neg (by omega)]
    rfl
theorem prs_q : ∀ (rs l : List Nat), prs (qt rs ++ l) = (prs l).map fun ps => rs.map Pt.it ++ ps
  | [], l => by
    show prs l = _
    cases prs l <;> rfl
  | r :: rs, l => by
    have e2 : qt (r :: rs) ++ l = qt1 r ++ (qt rs ++ l) := by show (qt1 r ++ qt rs) ++ l = _; rw [List.append_assoc]
    rw [e2, prs_step (prt_q r _), List.drop_left, prs_q rs l]
    cases prs l <;> rfl
theorem prs_all : prs [42, 42] = some [.all] := rfl
theorem prs_star : prs [42] = some [.star] := rfl
theorem prs_class (a : Nat) : prs [91, 92, a, 93] = some [.cls false [(a, a)]] := by
  have h1 : beg [92, a, 93] 33 = false := rfl
  have h2 : clK [91, 92, a, 93] = 1 := rfl
  have h3 : spanP [92, a, 93] = some ((a, a), 2) := rfl
  have h4 : cl true [92, a, 93] = some ([(a, a)], 3) := by
    rw [cl_step (fun h => Bool.noConfusion h.1) h3]
    rfl
  have h5 : prt [91, 92, a, 93] = some (.cls false [(a, a)], 4) := by
    rw [prt, if_neg (by decide), if_neg (by decide), if_pos rfl, clsP, h2]
    show (cl true [92, a, 93]).map _ = _
    rw [h4]
    rfl
  rw [prs_step h5]
  rfl
theorem prs_classN (a : Nat) : prs [91, 33, 92, a, 93] = some [.cls true [(a, a)]] := by
  have h2 : clK [91, 33, 92, a, 93] = 2 := rfl
  have h3 : spanP [92, a, 93] = some ((a, a), 2) := rfl
  have h4 : cl true [92, a, 93] = some ([(a, a)], 3) := by
    rw [cl_step (fun h => Bool.noConfusion h.1) h3]
    rfl
  have h5 : prt [91, 33, 92, a, 93] = some (.cls true [(a, a)], 5) := by
    rw [prt, if_neg (by decide), if_neg (by decide), if_pos rfl, clsP, h2]
    show (cl true [92, a, 93]).map _ = _
    rw [h4]
    rfl
  rw [prs_step h5]
  rfl
end Go.Proofs.YtkkkjadfhimahaaDoor.glb
