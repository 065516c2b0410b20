/-
  Layer 13's plain mathematics: parts of a pattern, what they match, runes of any bytes. No program in it. My own text.
-/
import Derived.Test.YtkkkjadfhimahaaDoorNamNum
import Derived.Laws.IdiomStrings
namespace Go.Proofs.YtkkkjadfhimahaaDoor.glb
open Go.Proofs.YtkkkjadfhimahaaDoor.base Go.Proofs.YtkkkjadfhimahaaDoor.nam
set_option linter.unusedVariables false

/-- a part of a pattern -/
inductive Pt where
  | it (r : Nat)
  | one
  | star
  | all
  | cls (n : Bool) (sp : List (Nat × Nat))
def inS (sp : List (Nat × Nat)) (r : Nat) : Bool := sp.any fun s => decide (s.1 ≤ r) && decide (r ≤ s.2)
def has : Pt → Nat → Bool
  | .it q, r => decide (r = q)
  | .one, r => decide (r ≠ 47)
  | .star, r => decide (r ≠ 47)
  | .all, _ => true
  | .cls n sp, r => decide (r ≠ 47) && (inS sp r != n)
def many : Pt → Bool
  | .star => true
  | .all => true
  | _ => false
def mstar (p : Pt) (k : List Nat → Bool) : List Nat → Bool
  | [] => k []
  | r :: n => k (r :: n) || (has p r && mstar p k n)
def mone (p : Pt) (k : List Nat → Bool) : List Nat → Bool
  | [] => false
  | r :: n => has p r && k n
/-- does the name match the parts? -/
def mt : List Pt → List Nat → Bool
  | [] => fun n => n.isEmpty
  | p :: ps => if many p then mstar p (mt ps) else mone p (mt ps)
def hasAt (p : Pt) (n : List Nat) (i : Nat) : Bool := match n[i]? with
  | some r => has p r
  | none => false
/-- the ends behind a part, of the ends ahead of it -/
def oneE (p : Pt) (n : List Nat) (E : Nat → Bool) : Nat → Bool
  | 0 => false
  | i + 1 => E i && hasAt p n i
def manyE (p : Pt) (n : List Nat) (E : Nat → Bool) : Nat → Bool
  | 0 => E 0
  | i + 1 => E (i + 1) || (manyE p n E i && hasAt p n i)
def stepE (p : Pt) (n : List Nat) (E : Nat → Bool) : Nat → Bool := if many p then manyE p n E else oneE p n E
def acc (E : Nat → Bool) (ps : List Pt) (n : List Nat) : Prop := ∃ i, i ≤ n.length ∧ E i = true ∧ mt ps (n.drop i) = true
theorem hasAt_drop (p : Pt) (n : List Nat) (i l : Nat) : hasAt p (n.drop i) l = hasAt p n (i + l) := by unfold hasAt; rw [List.getElem?_drop]
theorem hasAt_lt {p : Pt} {n : List Nat} {i : Nat} (h : hasAt p n i = true) : i < n.length := by
  by_cases hlt : i < n.length
  · exact hlt
  · rw [hasAt, List.getElem?_eq_none (by omega)] at h
    cases h
theorem mstar_iff (p : Pt) (k : List Nat → Bool) : ∀ m, mstar p k m = true ↔ ∃ j, j ≤ m.length ∧ (∀ l, l < j → hasAt p m l = true) ∧ k (m.drop j) = true
  | [] => by
    constructor
    · intro h
      exact ⟨0, Nat.le_refl _, fun l hl => absurd hl (by omega), h⟩
    · rintro ⟨j, hj, _, h⟩
      rw [List.drop_nil] at h
      exact h
  | r :: n => by
    rw [mstar, Bool.or_eq_true, Bool.and_eq_true, mstar_iff p k n]
    constructor
    · rintro (h | ⟨h1, j, hj, hall, hk⟩)
      · exact ⟨0, Nat.zero_le _, fun l hl => absurd hl (by omega), h⟩
      · refine ⟨j + 1, by simp; omega, fun l hl => ?_, hk⟩
        cases l with
        | zero => exact h1
        | succ l => exact hall l (by omega)
    · rintro ⟨j, hj, hall, hk⟩
      cases j with
      | zero => exact Or.inl hk
      | succ j => exact Or.inr ⟨hall 0 (by omega), j, by simp at hj; omega, fun l hl => hall (l + 1) (by omega), hk⟩
theorem manyE_iff (p : Pt) (n : List Nat) (E : Nat → Bool) : ∀ j, manyE p n E j = true ↔ ∃ i, i ≤ j ∧ E i = true ∧ ∀ l, i ≤ l → l < j → hasAt p n l = true
  | 0 => by
    constructor
    · intro h
      exact ⟨0, Nat.le_refl _, h, fun l _ hl => absurd hl (by omega)⟩
    · rintro ⟨i, hi, h, _⟩
      obtain rfl : i = 0 := by omega
      exact h
  | j + 1 => by
    rw [manyE, Bool.or_eq_true, Bool.and_eq_true, manyE_iff p n E j]
    constructor
    · rintro (h | ⟨⟨i, hi, h, hall⟩, hl⟩)
      · exact ⟨j + 1, Nat.le_refl _, h, fun l h1 h2 => absurd h1 (by omega)⟩
      · refine ⟨i, by omega, h, fun l h1 h2 => ?_⟩
        by_cases e : l = j
        · subst e; exact hl
        · exact hall l h1 (by omega)
    · rintro ⟨i, hi, h, hall⟩
      by_cases e : i = j + 1
      · subst e; exact Or.inl h
      · exact Or.inr ⟨⟨i, by omega, h, fun l h1 h2 => hall l h1 (by omega)⟩, hall j (by omega) (by omega)⟩
theorem acc_step (E : Nat → Bool) (p : Pt) (ps : List Pt) (n : List Nat) : acc (stepE p n E) ps n ↔ acc E (p :: ps) n := by
  unfold stepE acc
  rw [mt]
  by_cases hm : many p = true
  · simp only [if_pos hm, mstar_iff]
    constructor
    · rintro ⟨j, hj, h, hk⟩
      obtain ⟨i, hi, hE, hall⟩ := (manyE_iff p n E j).1 h
      refine ⟨i, by omega, hE, j - i, by rw [List.length_drop]; omega, fun l hl => by rw [hasAt_drop]; exact hall _ (by omega) (by omega), ?_⟩
      rw [List.drop_drop, show i + (j - i) = j by omega]
      exact hk
    · rintro ⟨i, hi, hE, d, hd, hall, hk⟩
      rw [List.length_drop] at hd
      rw [List.drop_drop] at hk
      refine ⟨i + d, by omega, (manyE_iff p n E _).2 ⟨i, by omega, hE, fun l h1 h2 => ?_⟩, hk⟩
      have := hall (l - i) (by omega)
      rwa [hasAt_drop, show i + (l - i) = l by omega] at this
  · simp only [if_neg hm]
    constructor
    · rintro ⟨j, hj, h, hk⟩
      cases j with
      | zero => cases h
      | succ i =>
        rw [oneE, Bool.and_eq_true] at h
        have hlt := hasAt_lt h.2
        refine ⟨i, by omega, h.1, ?_⟩
        have h2 := h.2
        rw [hasAt, List.getElem?_eq_getElem hlt] at h2
        rw [List.drop_eq_getElem_cons hlt, mone, Bool.and_eq_true]
        exact ⟨h2, hk⟩
    · rintro ⟨i, hi, hE, h⟩
      by_cases hlt : i < n.length
      · rw [List.drop_eq_getElem_cons hlt, mone, Bool.and_eq_true] at h
        refine ⟨i + 1, by omega, ?_, h.2⟩
        rw [oneE, Bool.and_eq_true, hasAt, List.getElem?_eq_getElem hlt]
        exact ⟨hE, h.1⟩
      · rw [List.drop_of_length_le (by omega)] at h
        cases h
theorem acc_start (ps : List Pt) (n : List Nat) : acc (fun i => decide (i = 0)) ps n ↔ mt ps n = true := by
  constructor
  · rintro ⟨i, _, h, hk⟩
    have : i = 0 := of_decide_eq_true h
    subst this
    exact hk
  · intro h
    exact ⟨0, Nat.zero_le _, rfl, h⟩
theorem acc_end (E : Nat → Bool) (n : List Nat) : acc E [] n ↔ E n.length = true := by
  constructor
  · rintro ⟨i, hi, h, hk⟩
    have h2 : (n.drop i).isEmpty = true := hk
    rw [List.isEmpty_iff] at h2
    have h3 := congrArg List.length h2
    rw [List.length_drop] at h3
    simp at h3
    obtain rfl : i = n.length := by omega
    exact h
  · intro h
    refine ⟨n.length, Nat.le_refl _, h, ?_⟩
    rw [List.drop_length]
    rfl
theorem mt_one {p : Pt} (h : many p = false) (ps : List Pt) (r : Nat) (n : List Nat) : mt (p :: ps) (r :: n) = (has p r && mt ps n) := by rw [mt, if_neg (by rw [h]; decide), mone]
theorem mt_one_nil {p : Pt} (h : many p = false) (ps : List Pt) : mt (p :: ps) [] = false := by rw [mt, if_neg (by rw [h]; decide), mone]
theorem mt_many {p : Pt} (h : many p = true) (ps : List Pt) (r : Nat) (n : List Nat) : mt (p :: ps) (r :: n) = (mt ps (r :: n) || (has p r && mt (p :: ps) n)) := by rw [mt, if_pos h, mstar]
theorem mt_many_nil {p : Pt} (h : many p = true) (ps : List Pt) : mt (p :: ps) [] = mt ps [] := by rw [mt, if_pos h, mstar]

/-! the head -/
def hd : List Pt → List Nat × Bool
  | [] => ([], true)
  | .it r :: ps => (r :: (hd ps).1, (hd ps).2)
  | _ => ([], false)
theorem hd_fits : ∀ (ps : List Pt) (n : List Nat), mt ps n = true → (∃ t, n = (hd ps).1 ++ t) ∧ ((hd ps).2 = true → n = (hd ps).1)
  | [], n, h => by
    have : n = [] := List.isEmpty_iff.1 h
    exact ⟨⟨n, rfl⟩, fun _ => this⟩
  | .it r :: ps, [], h => by rw [mt_one_nil rfl] at h; cases h
  | .it r :: ps, a :: n, h => by
    rw [mt_one rfl, Bool.and_eq_true] at h
    have e : a = r := of_decide_eq_true h.1
    subst e
    obtain ⟨⟨t, ht⟩, h2⟩ := hd_fits ps n h.2
    exact ⟨⟨t, by rw [hd]; simp [← ht]⟩, fun h3 => by rw [hd]; simp [← h2 h3]⟩
  | .one :: ps, n, h => ⟨⟨n, rfl⟩, fun h => Bool.noConfusion h⟩
  | .star :: ps, n, h => ⟨⟨n, rfl⟩, fun h => Bool.noConfusion h⟩
  | .all :: ps, n, h => ⟨⟨n, rfl⟩, fun h => Bool.noConfusion h⟩
  | .cls _ _ :: ps, n, h => ⟨⟨n, rfl⟩, fun h => Bool.noConfusion h⟩
theorem hd_all : ∀ (ps : List Pt), (hd ps).2 = true → mt ps (hd ps).1 = true
  | [], _ => rfl
  | .it r :: ps, h => by
    have ih := hd_all ps h
    rw [hd, mt_one rfl, ih]
    simp [has]
  | .one :: ps, h => Bool.noConfusion h
  | .star :: ps, h => Bool.noConfusion h
  | .all :: ps, h => Bool.noConfusion h
  | .cls _ _ :: ps, h => Bool.noConfusion h
theorem hd_its : ∀ (rs : List Nat) (ps : List Pt), hd (rs.map Pt.it ++ ps) = (rs ++ (hd ps).1, (hd ps).2)
  | [], ps => rfl
  | r :: rs, ps => by rw [List.map_cons, List.cons_append, hd, hd_its rs ps]; rfl
theorem mt_its : ∀ (rs n : List Nat), mt (rs.map Pt.it) n = decide (n = rs)
  | [], [] => rfl
  | [], a :: n => rfl
  | r :: rs, [] => rfl
  | r :: rs, a :: n => by
    rw [List.map_cons, mt_one rfl, mt_its rs n]
    by_cases h : a = r
    · subst h; simp [has]
    · simp [has, h]
theorem mt_all : ∀ (n : List Nat), mt [.all] n = true
  | [] => rfl
  | a :: n => by rw [mt_many rfl, mt_all n]; simp [has]
theorem mt_star : ∀ (n : List Nat), mt [.star] n = n.all fun r => decide (r ≠ 47)
  | [] => rfl
  | a :: n => by
    rw [mt_many rfl, mt_star n, List.all_cons]
    rfl
theorem mt_its_all : ∀ (rs n : List Nat), mt (rs.map Pt.it ++ [.all]) (rs ++ n) = true
  | [], n => mt_all n
  | r :: rs, n => by
    rw [List.map_cons, List.cons_append, List.cons_append, mt_one rfl, mt_its_all rs n]
    simp [has]

/-! runes of any bytes -/
def rnsF : Nat → List UInt8 → List Nat
  | 0, _ => []
  | f + 1, t => if t = [] then [] else (dcd t).1 :: rnsF f (t.drop (dcd t).2)
def rns (t : List UInt8) : List Nat := rnsF t.length t
theorem dcd_pos (t : List UInt8) (h : t ≠ []) : 1 ≤ (dcd t).2 := by
  rcases dcd_split t h with e | ⟨r, t', hr, rfl⟩
  · rw [e]; exact Nat.le_refl _
  · rw [dcd_good hr]; exact (wid_bd r).1
theorem rnsF_more : ∀ (f g : Nat) (t : List UInt8), t.length ≤ f → t.length ≤ g → rnsF f t = rnsF g t
  | 0, 0, t, _, _ => rfl
  | 0, g + 1, t, h, _ => by
    have : t = [] := List.eq_nil_of_length_eq_zero (by omega)
    rw [rnsF, rnsF, if_pos this]
  | f + 1, 0, t, _, h => by
    have : t = [] := List.eq_nil_of_length_eq_zero (by omega)
    rw [rnsF, rnsF, if_pos this]
  | f + 1, g + 1, t, h1, h2 => by
    rw [rnsF, rnsF]
    by_cases ht : t = []
    · rw [if_pos ht, if_pos ht]
    · rw [if_neg ht, if_neg ht, rnsF_more f g _ (by rw [List.length_drop]; have := dcd_pos t ht; omega) (by rw [List.length_drop]; have := dcd_pos t ht; omega)]
theorem rns_nil : rns [] = [] := rfl
theorem rns_step (t : List UInt8) (h : t ≠ []) : rns t = (dcd t).1 :: rns (t.drop (dcd t).2) := by
  obtain ⟨f, hf⟩ : ∃ f, t.length = f + 1 := ⟨t.length - 1, by have := List.length_pos_iff.2 h; omega⟩
  rw [rns, hf, rnsF, if_neg h, rns, rnsF_more f _ _ (by rw [List.length_drop]; have := dcd_pos t h; omega) (Nat.le_refl _)]
theorem rns_tx : ∀ (rs : List Nat) (u : List UInt8), (∀ r ∈ rs, Rn r) → rns (tx rs ++ u) = rs ++ rns u
  | [], u, _ => rfl
  | r :: rs, u, h => by
    rw [tx_cons, List.append_assoc, rns_step _ (by simp [en_ne]), dcd_good (h r (.head _))]
    have e : (en r ++ (tx rs ++ u)).drop (r, wid r).2 = tx rs ++ u := by rw [← en_len r]; simp
    rw [e, rns_tx rs u fun x hx => h x (.tail _ hx)]
    rfl
theorem rns_good (rs : List Nat) (h : ∀ r ∈ rs, Rn r) : rns (tx rs) = rs := by
  have := rns_tx rs [] h
  rwa [List.append_nil, rns_nil, List.append_nil] at this
theorem rns_ind {P : List UInt8 → Prop} (h0 : P []) (h1 : ∀ t, t ≠ [] → P (t.drop (dcd t).2) → P t) (t : List UInt8) : P t := by
  obtain ⟨n, hn⟩ : ∃ n, t.length ≤ n := ⟨_, Nat.le_refl _⟩
  induction n generalizing t with
  | zero =>
    have : t = [] := List.eq_nil_of_length_eq_zero (by omega)
    subst this
    exact h0
  | succ n ih =>
    by_cases ht : t = []
    · subst ht; exact h0
    · exact h1 t ht (ih _ (by rw [List.length_drop]; have := dcd_pos t ht; omega))
theorem rns_len (t : List UInt8) : (rns t).length ≤ t.length := by
  refine rns_ind (P := fun t => (rns t).length ≤ t.length) (Nat.le_refl _) (fun t ht ih => ?_) t
  rw [rns_step t ht, List.length_cons]
  rw [List.length_drop] at ih
  have := dcd_pos t ht
  have := List.length_pos_iff.2 ht
  omega
theorem dcd_le (t : List UInt8) (h : t ≠ []) : (dcd t).1 ≤ 1114111 := by
  rcases dcd_split t h with e | ⟨r, t', hr, rfl⟩
  · rw [e]; decide
  · rw [dcd_good hr]; exact hr.le
theorem rns_le (t : List UInt8) : ∀ r ∈ rns t, r ≤ 1114111 := by
  refine rns_ind (P := fun t => ∀ r ∈ rns t, r ≤ 1114111) (by simp [rns_nil]) (fun t ht ih => ?_) t
  rw [rns_step t ht]
  intro r hr
  rcases List.mem_cons.1 hr with rfl | hr
  · exact dcd_le t ht
  · exact ih r hr
theorem en_high {r : Nat} (h : Rn r) : ∀ b ∈ en r, (r < 128 ∧ b.toNat = r) ∨ (128 ≤ r ∧ 128 ≤ b.toNat) := by
  have hl := h.le
  intro b hb
  unfold en at hb
  split at hb
  · rename_i h1
    rw [List.mem_singleton] at hb
    subst hb
    exact Or.inl ⟨h1, nat_u8 _ (by omega)⟩
  · rename_i h1
    right
    refine ⟨by omega, ?_⟩
    split at hb
    · simp only [List.mem_cons, List.not_mem_nil, or_false] at hb
      rcases hb with rfl | rfl <;> rw [nat_u8 _ (by omega)] <;> omega
    · split at hb
      · simp only [List.mem_cons, List.not_mem_nil, or_false] at hb
        rcases hb with rfl | rfl | rfl <;> rw [nat_u8 _ (by omega)] <;> omega
      · simp only [List.mem_cons, List.not_mem_nil, or_false] at hb
        rcases hb with rfl | rfl | rfl | rfl <;> rw [nat_u8 _ (by omega)] <;> omega
theorem rns_slash (t : List UInt8) : (rns t).all (fun r => decide (r ≠ 47)) = t.all fun b => decide (b.toNat ≠ 47) := by
  refine rns_ind (P := fun t => (rns t).all (fun r => decide (r ≠ 47)) = t.all fun b => decide (b.toNat ≠ 47)) rfl (fun t ht ih => ?_) t
  rw [rns_step t ht, List.all_cons, ih]
  rcases dcd_split t ht with e | ⟨r, t', hr, rfl⟩
  · rw [e]
    obtain ⟨b, u, rfl⟩ : ∃ b u, t = b :: u := by cases t with
      | nil => exact absurd rfl ht
      | cons b u => exact ⟨b, u, rfl⟩
    have hb : b.toNat ≠ 47 := by
      intro h47
      have h2 : Rn 47 := Or.inl (by omega)
      have h3 := dcd_good h2 u
      have h4 : en 47 = [b] := by rw [en, if_pos (by omega), u8_of b 47 h47]
      rw [h4, List.singleton_append, e] at h3
      injection h3 with h3 _
      omega
    rw [List.all_cons, decide_eq_true hb]
    rfl
  · rw [dcd_good hr]
    have e : (en r ++ t').drop (r, wid r).2 = t' := by rw [← en_len r]; simp
    rw [e, List.all_append]
    congr 1
    rw [Bool.eq_iff_iff, List.all_eq_true]
    simp only [decide_eq_true_eq]
    constructor
    · intro h b hb
      rcases en_high hr b hb with ⟨h1, h2⟩ | ⟨h1, h2⟩ <;> omega
    · intro h h47
      have hm : (UInt8.ofNat 47) ∈ en r := by rw [h47, en, if_pos (by omega)]; simp
      exact h _ hm (nat_u8 47 (by omega))
theorem runesFrom_is (s : ByteArray) : ∀ (f i : Nat) (acc : Array Value), Conv.runesFrom s f i acc = acc ++ ((rnsF f (s.data.toList.drop i)).map fun r : Nat => Value.int .i32 (r : Int)).toArray
  | 0, i, acc => by simp [Conv.runesFrom, rnsF]
  | f + 1, i, acc => by
    have hsz : s.size = s.data.toList.length := (Array.length_toList (xs := s.data)).symm
    rw [Conv.runesFrom, rnsF]
    by_cases h : i < s.size
    · rw [if_pos h, if_neg (by intro h2; have := congrArg List.length h2; rw [List.length_drop] at this; simp at this; omega), decode_drop]
      simp only
      rw [runesFrom_is s f, List.drop_drop, List.map_cons]
      apply Array.ext'
      simp
    · rw [if_neg h, if_pos (List.drop_of_length_le (by omega))]
      simp
theorem runes_are (s : ByteArray) : Conv.runesFrom s s.size 0 #[] = ((rns s.data.toList).map fun r : Nat => Value.int .i32 (r : Int)).toArray := by
  have hsz : s.size = s.data.toList.length := (Array.length_toList (xs := s.data)).symm
  rw [runesFrom_is, List.drop_zero, rns, hsz]
  simp
end Go.Proofs.YtkkkjadfhimahaaDoor.glb
