import Derived.Test.YtppgceighgpgoaaGreatDoorMgNum
/- Several of my own texts, one behind the other. -/
/-
  What is written so is read back: plain mathematics, over no program. My own text.
-/
namespace Go.Proofs.YtppgceighgpgoaaGreatDoor.infnum
open Go.Proofs.YtppgceighgpgoaaGreatDoor.num Go.Proofs.YtppgceighgpgoaaGreatDoor.bitnum Go.Proofs.YtppgceighgpgoaaGreatDoor.huffnum
set_option linter.unusedVariables false

/-- wherever the next n bits are the number v, the part f is a, and takes just these -/
def Says {α : Type} (f : Part α) (a : α) (n v : Nat) : Prop := v < 2 ^ n ∧ ∀ U T p, p + n ≤ T → U / 2 ^ p % 2 ^ n = v → f U T p = .ok (a, p + n)
section
variable {α β : Type}
theorem Says.give (a : α) : Says (give a) a 0 0 := ⟨by decide, fun U T p _ _ => rfl⟩
theorem Says.take {n v : Nat} (h : v < 2 ^ n) : Says (take n) v n v := ⟨h, fun U T p hp hv => by unfold infnum.take; rw [if_pos hp, hv]⟩
theorem parts_of {x v u n m : Nat} (hv : v < 2 ^ n) (h : x % 2 ^ (n + m) = v + 2 ^ n * u) : x % 2 ^ n = v ∧ x / 2 ^ n % 2 ^ m = u := by
  have hp : 0 < 2 ^ n := Nat.pow_pos (by omega)
  rw [Nat.pow_add, Nat.mod_mul] at h
  have h1 : (x % 2 ^ n + 2 ^ n * (x / 2 ^ n % 2 ^ m)) % 2 ^ n = x % 2 ^ n := by rw [Nat.add_mul_mod_self_left, Nat.mod_mod]
  have h2 : (v + 2 ^ n * u) % 2 ^ n = v := by rw [Nat.add_mul_mod_self_left, Nat.mod_eq_of_lt hv]
  have h3 : x % 2 ^ n = v := by rw [← h1, h, h2]
  refine ⟨h3, ?_⟩
  rw [h3] at h
  exact Nat.eq_of_mul_eq_mul_left hp (by omega)
theorem join_lt {v u n m : Nat} (hv : v < 2 ^ n) (hu : u < 2 ^ m) : v + 2 ^ n * u < 2 ^ (n + m) := by
  rw [Nat.pow_add]
  have : 2 ^ n * (u + 1) ≤ 2 ^ n * 2 ^ m := Nat.mul_le_mul_left _ hu
  rw [Nat.mul_add, Nat.mul_one] at this
  omega
theorem Says.also {f : Part α} {g : α → Part β} {a : α} {b : β} {n v m u : Nat} (hf : Says f a n v) (hg : Says (g a) b m u) : Says (also f g) b (n + m) (v + 2 ^ n * u) := by
  refine ⟨join_lt hf.1 hg.1, fun U T p hp hv => ?_⟩
  obtain ⟨h1, h2⟩ := parts_of hf.1 hv
  unfold infnum.also
  rw [hf.2 U T p (by omega) h1]
  rw [Nat.div_div_eq_div_mul, ← Nat.pow_add] at h2
  have := hg.2 U T (p + n) (by omega) h2
  rw [Nat.add_assoc] at this
  exact this
theorem Says.at_ {f : Part α} {a : α} {n v n' v' : Nat} (h : Says f a n v) (hn : n = n') (hv : v = v') : Says f a n' v' := by subst hn; subst hv; exact h
theorem Says.ite_neg {f g : Part α} {c : Prop} [Decidable c] {a : α} {n v : Nat} (hc : ¬ c) (h : Says g a n v) : Says (if c then f else g) a n v := by rw [if_neg hc]; exact h
theorem Says.ite_pos {f g : Part α} {c : Prop} [Decidable c] {a : α} {n v : Nat} (hc : c) (h : Says f a n v) : Says (if c then f else g) a n v := by rw [if_pos hc]; exact h
end
/-- a symbol's code is read as it -/
theorem Says.sym {ls : List Nat} {s n : Nat} (hf : tx ls 15 ≤ 32768) (hs : ls[s]? = some n) (h1 : 1 ≤ n) (h15 : n ≤ 15) : Says (sym ls) s n (rev n (cd ls s n)) := by
  refine ⟨rev_lt _ _, fun U T p hp hv => ?_⟩
  have hc : cd ls s n < 2 ^ n := Nat.lt_of_lt_of_le (huffnum.cd_lt hs h1) (nx_le hf h15)
  have ht := rev_top (U / 2 ^ p % 2 ^ min 15 (T - p)) n (15 - n)
  rw [show n + (15 - n) = 15 by omega, rev_mod (U / 2 ^ p) (k := n) (m := min 15 (T - p)) (by omega)] at ht
  have hr : rev n (U / 2 ^ p) = cd ls s n := by
    have h2 : rev n (U / 2 ^ p) = rev n (rev n (cd ls s n)) := (rev_inj _ _ n).2 (by rw [hv, Nat.mod_eq_of_lt (rev_lt _ _)])
    rw [h2, rev_rev, Nat.mod_eq_of_lt hc]
  rw [hr] at ht
  unfold infnum.sym
  simp only
  generalize rev 15 (U / 2 ^ p % 2 ^ min 15 (T - p)) = t at *
  have hp2 : 0 < 2 ^ (15 - n) := Nat.pow_pos (by omega)
  have hlo : st ls s n ≤ t := by
    unfold st
    rw [← ht]
    exact Nat.div_mul_le_self _ _
  have hhi : t < st ls s n + 2 ^ (15 - n) := by
    unfold st
    rw [← ht, Nat.mul_comm]
    have := Nat.lt_mul_div_succ t hp2
    rw [Nat.mul_add, Nat.mul_one] at this
    exact this
  have h2 := st_hi hs h1
  have h3 := st_lo (ls := ls) (s := s) h1 h15
  have h4 := tx_le ls h15 (Nat.le_refl 15)
  have h5 := st_is (ls := ls) (s := s) h1 h15
  rw [if_neg (by omega), lev_is h1 h15 (by omega) (by omega), if_neg (by omega)]
  have hi : (t - tx ls (n - 1)) / 2 ^ (15 - n) = rankOf ls s n := by
    rw [h5] at hlo hhi
    refine Nat.div_eq_of_lt_le ?_ ?_
    · omega
    · rw [Nat.add_mul, Nat.one_mul]; omega
  rw [hi, syms_at hs]
  rfl
/-- numbers of so many bits, one behind the other -/
def bits_ : List (Nat × Nat) → Nat × Nat
  | [] => (0, 0)
  | x :: r => (x.1 + (bits_ r).1, x.2 + 2 ^ x.1 * (bits_ r).2)
theorem bits_append : ∀ a b, bits_ (a ++ b) = ((bits_ a).1 + (bits_ b).1, (bits_ a).2 + 2 ^ (bits_ a).1 * (bits_ b).2)
  | [], b => by simp [bits_]
  | x :: r, b => by
    rw [List.cons_append]
    simp only [bits_]
    rw [bits_append r b]
    simp only [Nat.pow_add, Nat.mul_add, Nat.mul_assoc, Nat.add_assoc]
theorem Says.times (n : Nat) : ∀ l : List Nat, (∀ x ∈ l, x < 2 ^ n) → Says (infnum.times (infnum.take n) l.length) l (bits_ (l.map fun x => (n, x))).1 (bits_ (l.map fun x => (n, x))).2
  | [], _ => Says.give []
  | x :: r, h => by
    have ih := Says.times n r fun y hy => h y (by simp [hy])
    refine (Says.also (Says.take (h x (by simp))) (Says.also ih (Says.give (x :: r)))).at_ ?_ ?_
    · simp [bits_]
    · simp [bits_]
/-- what a step is in bits: a byte -/
theorem Says.lit {a b : List Nat} {last : Bool} {o : List UInt8} {k n : Nat} (hf : tx a 15 ≤ 32768) (hk : k < 256) (hs : a[k]? = some n) (h1 : 1 ≤ n) (h15 : n ≤ 15) :
    Says (one ⟨.sy a b, last, o⟩) ⟨.sy a b, last, o ++ [UInt8.ofNat k]⟩ n (rev n (cd a k n)) := by
  refine (Says.also (Says.sym hf hs h1 h15) (Says.ite_pos hk (Says.give _))).at_ ?_ ?_
  · rfl
  · simp
/-- the end -/
theorem Says.end_ {a b : List Nat} {last : Bool} {o : List UInt8} {n : Nat} (hf : tx a 15 ≤ 32768) (hs : a[256]? = some n) (h1 : 1 ≤ n) (h15 : n ≤ 15) :
    Says (one ⟨.sy a b, last, o⟩) ⟨.head, last, o⟩ n (rev n (cd a 256 n)) := by
  refine (Says.also (Says.sym hf hs h1 h15) (Says.ite_neg (by decide) (Says.ite_pos rfl (Says.give _)))).at_ ?_ ?_
  · rfl
  · simp
/-- a copy -/
theorem Says.copy {a b : List Nat} {last : Bool} {o : List UInt8} {k n e E d m g G L K : Nat} (hfa : tx a 15 ≤ 32768) (hfb : tx b 15 ≤ 32768) (hk : 256 < k) (hk2 : k ≤ 285) (hs : a[k]? = some n) (h1 : 1 ≤ n) (h15 : n ≤ 15)
    (he : longMore.getD (k - 257) 0 = e) (hE : E < 2 ^ e) (hL : longBase.getD (k - 257) 0 + E = L) (hd : d ≤ 29) (hsd : b[d]? = some m) (hm1 : 1 ≤ m) (hm15 : m ≤ 15) (hg : farMore d = g) (hG : G < 2 ^ g) (hK : farBase.getD d 0 + G = K) (hKo : K ≤ o.length) (hK2 : K ≤ 32768) :
    Says (one ⟨.sy a b, last, o⟩) ⟨.sy a b, last, copied K L o⟩ (n + e + (m + g)) ((rev n (cd a k n) + 2 ^ n * E) + 2 ^ (n + e) * (rev m (cd b d m) + 2 ^ m * G)) := by
  subst he hg hL hK
  refine (Says.also (Says.sym hfa hs h1 h15) (Says.ite_neg (by omega) (Says.ite_neg (by omega) (Says.ite_neg (by omega)
    (Says.also (Says.take hE) (Says.also (Says.sym hfb hsd hm1 hm15) (Says.ite_neg (by omega) (Says.also (Says.take hG) (Says.ite_neg (by show ¬ (o.length < _ ∨ _); omega) (Says.give _)))))))))).at_ ?_ ?_
  · omega
  · simp only [Nat.pow_add, Nat.mul_add, Nat.mul_assoc, Nat.add_assoc, Nat.mul_zero, Nat.add_zero]
/-- parts that are said are stepped through -/
theorem Says.steps {s s' : At} {n v : Nat} (h : Says (one s) s' n v) {U T p : Nat} (hp : p + n ≤ T) (hv : U / 2 ^ p % 2 ^ n = v) : Steps U T (s, p) (s', p + n) := Steps.one (h.2 U T p hp hv)
end Go.Proofs.YtppgceighgpgoaaGreatDoor.infnum
/-
  What is written so is read back: two codes by their lengths. Plain mathematics, over no program. My own text.
-/
namespace Go.Proofs.YtppgceighgpgoaaGreatDoor.infnum
open Go.Proofs.YtppgceighgpgoaaGreatDoor.num Go.Proofs.YtppgceighgpgoaaGreatDoor.bitnum Go.Proofs.YtppgceighgpgoaaGreatDoor.huffnum
set_option linter.unusedVariables false

/-- parts bring the lengths l on to a: a length; the last one again; none, again and again -/
inductive Rp : List Nat → List (Nat × Nat × Nat) → List Nat → Prop where
  | nil (l : List Nat) : Rp l [] l
  | lit {l a : List Nat} {ps : List (Nat × Nat × Nat)} {k : Nat} (hk : k < 16) (h : Rp (l ++ [k]) ps a) : Rp l ((k, 0, 0) :: ps) a
  | last {l a : List Nat} {ps : List (Nat × Nat × Nat)} {t v : Nat} (hl : l.getLast? = some v) (ht : t < 4) (h : Rp (l ++ List.replicate (3 + t) v) ps a) : Rp l ((16, 2, t) :: ps) a
  | few {l a : List Nat} {ps : List (Nat × Nat × Nat)} {t : Nat} (ht : t < 8) (h : Rp (l ++ List.replicate (3 + t) 0) ps a) : Rp l ((17, 3, t) :: ps) a
  | many {l a : List Nat} {ps : List (Nat × Nat × Nat)} {t : Nat} (ht : t < 128) (h : Rp (l ++ List.replicate (11 + t) 0) ps a) : Rp l ((18, 7, t) :: ps) a
theorem Rp.len {l a : List Nat} {ps : List (Nat × Nat × Nat)} (h : Rp l ps a) : l.length + ps.length ≤ a.length := by
  induction h with
  | nil l => simp
  | lit hk h ih => simp at ih ⊢; omega
  | last hl ht h ih => simp at ih ⊢; omega
  | few ht h ih => simp at ih ⊢; omega
  | many ht h ih => simp at ih ⊢; omega
/-- a part's bits by the code c -/
def partB (c : List Nat) (p : Nat × Nat × Nat) : List (Nat × Nat) := [(c.getD p.1 0, rev (c.getD p.1 0) (cd c p.1 (c.getD p.1 0))), (p.2.1, p.2.2)]
theorem get_of {c : List Nat} {k : Nat} (h : 1 ≤ c.getD k 0) : c[k]? = some (c.getD k 0) := by
  rw [List.getD_eq_getElem?_getD] at h ⊢
  cases e : c[k]? with
  | none => rw [e] at h; simp at h
  | some x => simp
theorem Says.rep {c : List Nat} (hf : tx c 15 ≤ 32768) {l a : List Nat} {ps : List (Nat × Nat × Nat)} (h : Rp l ps a) : ∀ f, ps.length < f → (∀ p ∈ ps, 1 ≤ c.getD p.1 0 ∧ c.getD p.1 0 ≤ 15) → Says (infnum.rep c a.length f l) a (bits_ (ps.flatMap (partB c))).1 (bits_ (ps.flatMap (partB c))).2 := by
  induction h with
  | nil l =>
    intro f hfl hc
    obtain ⟨f, rfl⟩ : ∃ g, f = g + 1 := ⟨f - 1, by omega⟩
    unfold infnum.rep
    exact Says.ite_neg (by omega) (Says.ite_pos rfl (Says.give _))
  | @lit l a ps k hk h ih =>
    intro f hfl hc
    obtain ⟨f, rfl⟩ : ∃ g, f = g + 1 := ⟨f - 1, by simp at hfl; omega⟩
    have hlen := h.len
    have hk2 := hc _ (List.mem_cons_self ..)
    simp only [List.length_append, List.length_cons, List.length_nil] at hlen hfl hk2
    unfold infnum.rep
    refine (Says.ite_neg (by omega) (Says.ite_neg (by omega) (Says.also (Says.sym hf (get_of hk2.1) hk2.1 hk2.2)
      (Says.ite_neg (by omega) (Says.ite_neg (by omega) (Says.ite_neg (by omega) (ih f (by omega) fun p hp => hc p (List.mem_cons_of_mem _ hp)))))))).at_ ?_ ?_
    · simp [partB, bits_]
    · simp [partB, bits_]
  | @last l a ps t v hl ht h ih =>
    intro f hfl hc
    obtain ⟨f, rfl⟩ : ∃ g, f = g + 1 := ⟨f - 1, by simp at hfl; omega⟩
    have hlen := h.len
    have hk2 := hc _ (List.mem_cons_self ..)
    simp only [List.length_append, List.length_cons, List.length_replicate] at hlen hfl hk2
    unfold infnum.rep
    refine (Says.ite_neg (by omega) (Says.ite_neg (by omega) (Says.also (Says.sym hf (get_of hk2.1) hk2.1 hk2.2)
      (Says.ite_pos rfl (by rw [hl]; exact Says.also (Says.take (n := 2) (v := t) (by omega)) (ih f (by omega) fun p hp => hc p (List.mem_cons_of_mem _ hp))))))).at_ ?_ ?_
    · simp [partB, bits_]
    · simp [partB, bits_]
  | @few l a ps t ht h ih =>
    intro f hfl hc
    obtain ⟨f, rfl⟩ : ∃ g, f = g + 1 := ⟨f - 1, by simp at hfl; omega⟩
    have hlen := h.len
    have hk2 := hc _ (List.mem_cons_self ..)
    simp only [List.length_append, List.length_cons, List.length_replicate] at hlen hfl hk2
    unfold infnum.rep
    refine (Says.ite_neg (by omega) (Says.ite_neg (by omega) (Says.also (Says.sym hf (get_of hk2.1) hk2.1 hk2.2)
      (Says.ite_neg (by decide) (Says.ite_pos rfl (Says.also (Says.take (n := 3) (v := t) (by omega)) (ih f (by omega) fun p hp => hc p (List.mem_cons_of_mem _ hp)))))))).at_ ?_ ?_
    · simp [partB, bits_]
    · simp [partB, bits_]
  | @many l a ps t ht h ih =>
    intro f hfl hc
    obtain ⟨f, rfl⟩ : ∃ g, f = g + 1 := ⟨f - 1, by simp at hfl; omega⟩
    have hlen := h.len
    have hk2 := hc _ (List.mem_cons_self ..)
    simp only [List.length_append, List.length_cons, List.length_replicate] at hlen hfl hk2
    unfold infnum.rep
    refine (Says.ite_neg (by omega) (Says.ite_neg (by omega) (Says.also (Says.sym hf (get_of hk2.1) hk2.1 hk2.2)
      (Says.ite_neg (by decide) (Says.ite_neg (by decide) (Says.ite_pos rfl (Says.also (Says.take (n := 7) (v := t) (by omega)) (ih f (by omega) fun p hp => hc p (List.mem_cons_of_mem _ hp))))))))).at_ ?_ ?_
    · simp [partB, bits_]
    · simp [partB, bits_]
/-- the lengths of the code of the lengths, told in their order up to j of them -/
theorem laid_back (T : List Nat) (j : Nat) (hT : T.length = 19) (h0 : ∀ i s, j ≤ i → order[i]? = some s → T.getD s 0 = 0) : laid ((order.take j).map fun s => T.getD s 0) = T := by
  unfold laid
  refine List.ext_getElem? fun s => ?_
  by_cases hs : s < 19
  · rw [List.getElem?_map, List.getElem?_range hs, Option.map_some, List.getElem?_eq_getElem (by omega)]
    congr 1
    have hi : order[order.idxOf s]? = some s := (by decide : ∀ s : _root_.Fin 19, order[order.idxOf s.1]? = some s.1) ⟨s, hs⟩
    have hg : T.getD s 0 = T[s] := by rw [List.getD_eq_getElem?_getD, List.getElem?_eq_getElem (by omega)]; rfl
    generalize order.idxOf s = i at hi
    rw [List.getD_eq_getElem?_getD, List.getElem?_map, List.getElem?_take]
    by_cases hij : i < j
    · rw [if_pos hij, hi]; simpa using hg
    · rw [if_neg hij]
      have := h0 i s (by omega) hi
      rw [hg] at this
      simp [this]
  · rw [List.getElem?_eq_none (by simp; omega), List.getElem?_eq_none (by omega)]
/-- two codes as they are told -/
def codesB (nS nD j : Nat) (T : List Nat) (ps : List (Nat × Nat × Nat)) : List (Nat × Nat) := (5, nS - 257) :: (5, nD - 1) :: (4, j - 4) :: (((order.take j).map fun s => (3, T.getD s 0)) ++ ps.flatMap (partB T))
set_option maxRecDepth 100000 in
theorem Says.codes {nS nD j : Nat} {T a : List Nat} {ps : List (Nat × Nat × Nat)} (hS : 257 ≤ nS ∧ nS ≤ 286) (hD : 1 ≤ nD ∧ nD ≤ 30) (hj : 4 ≤ j ∧ j ≤ 19) (hT : T.length = 19) (hT7 : ∀ s, T.getD s 0 < 8) (h0 : ∀ i s, j ≤ i → order[i]? = some s → T.getD s 0 = 0)
    (hmT : mayBe T false = true) (hR : Rp [] ps a) (hp : ∀ p ∈ ps, 1 ≤ T.getD p.1 0) (ha : a.length = nS + nD) (h256 : a.getD 256 0 ≠ 0) (hmS : mayBe (a.take nS) false = true) (hmD : mayBe (a.drop nS) true = true) :
    Says infnum.codes (a.take nS, a.drop nS) (bits_ (codesB nS nD j T ps)).1 (bits_ (codesB nS nD j T ps)).2 := by
  have hf : tx T 15 ≤ 32768 := by unfold mayBe at hmT; simp at hmT; exact hmT.1
  have hl : ((order.take j).map fun s => T.getD s 0).length = 4 + (j - 4) := by
    have : order.length = 19 := rfl
    simp [this]; omega
  have hti := Says.times 3 ((order.take j).map fun s => T.getD s 0) fun x hx => by
    obtain ⟨s, _, rfl⟩ := List.mem_map.1 hx
    exact hT7 s
  rw [hl] at hti
  have hlen := hR.len
  simp only [List.length_nil] at hlen
  have hrep := Says.rep hf hR (259 + (nS - 257) + (nD - 1)) (by omega) fun p hp' => ⟨hp p hp', by have := hT7 p.1; omega⟩
  rw [show a.length = 258 + (nS - 257) + (nD - 1) by omega] at hrep
  obtain ⟨A, hA⟩ : ∃ A, (bits_ (List.map (fun x => (3, x)) (List.map (fun s => T.getD s 0) (List.take j order)))) = A := ⟨_, rfl⟩
  obtain ⟨B, hB⟩ : ∃ B, (bits_ (List.flatMap (partB T) ps)) = B := ⟨_, rfl⟩
  rw [hA] at hti
  rw [hB] at hrep
  have hend : bits_ (codesB nS nD j T ps) = (5 + (5 + (4 + (A.1 + (B.1 + 0)))), (nS - 257) + 2 ^ 5 * ((nD - 1) + 2 ^ 5 * ((j - 4) + 2 ^ 4 * (A.2 + 2 ^ A.1 * (B.2 + 2 ^ B.1 * 0))))) := by
    rw [← hA, ← hB]
    simp [codesB, bits_, bits_append, List.map_map, Function.comp_def]
  rw [hend]
  show Says infnum.codes _ (5 + (5 + (4 + (A.1 + (B.1 + 0))))) ((nS - 257) + 2 ^ 5 * ((nD - 1) + 2 ^ 5 * ((j - 4) + 2 ^ 4 * (A.2 + 2 ^ A.1 * (B.2 + 2 ^ B.1 * 0)))))
  unfold infnum.codes
  refine Says.also (Says.take (by omega)) ?_
  refine Says.also (Says.take (by omega)) ?_
  refine Says.also (Says.take (by omega)) ?_
  refine Says.ite_neg (by omega) ?_
  refine Says.also hti ?_
  rw [laid_back T j hT h0]
  refine Says.ite_neg (by rw [hmT]; decide) ?_
  refine Says.also hrep ?_
  rw [show 257 + (nS - 257) = nS by omega]
  refine Says.ite_neg ?_ (Says.give _)
  rw [hmS, hmD]
  simpa using h256
end Go.Proofs.YtppgceighgpgoaaGreatDoor.infnum
/-
  Steps, their symbols and distances, what they bring: plain words, over no program. My own text.
-/
namespace Go.Proofs.YtppgceighgpgoaaGreatDoor.defp
open Go.Proofs.YtppgceighgpgoaaGreatDoor.num Go.Proofs.YtppgceighgpgoaaGreatDoor.bitnum
set_option linter.unusedVariables false
/-- what a step brings behind out -/
def played (out : List UInt8) (s : Nat × Nat) : List UInt8 := if s.2 = 0 then out ++ [UInt8.ofNat s.1] else infnum.copied s.2 s.1 out
def play (l : List (Nat × Nat)) : List UInt8 := l.foldl played []
/-! a code with bits of its own -/
/-- the bits of its own of the code that stands for v, in rows of so many codes -/
def own_ (v row : Nat) : Nat := Nat.log2 (v / row)
def code_ (v row : Nat) : Nat := own_ v row * row + v / 2 ^ own_ v row
theorem long_all : ∀ v : Fin 255, code_ v.1 4 < 28 ∧ infnum.longMore.getD (code_ v.1 4) 0 = own_ v.1 4 ∧ infnum.longBase.getD (code_ v.1 4) 0 + v.1 % 2 ^ own_ v.1 4 = v.1 + 3 := by decide +kernel
theorem far_parts : ∀ a : Fin 128, ∀ c : Fin 256, code_ (256 * a.1 + c.1) 2 < 30 ∧ infnum.farMore (code_ (256 * a.1 + c.1) 2) = own_ (256 * a.1 + c.1) 2 ∧ infnum.farBase.getD (code_ (256 * a.1 + c.1) 2) 0 + (256 * a.1 + c.1) % 2 ^ own_ (256 * a.1 + c.1) 2 = 256 * a.1 + c.1 + 1 := by decide +kernel
theorem far_all (v : Nat) (h : v < 32768) : code_ v 2 < 30 ∧ infnum.farMore (code_ v 2) = own_ v 2 ∧ infnum.farBase.getD (code_ v 2) 0 + v % 2 ^ own_ v 2 = v + 1 := by
  have := far_parts ⟨v / 256, by omega⟩ ⟨v % 256, by omega⟩
  simp only at this
  rwa [show 256 * (v / 256) + v % 256 = v by omega] at this
/-- a step that may be -/
def Ok (s : Nat × Nat) : Prop := (s.2 = 0 ∧ s.1 ≤ 256) ∨ (3 ≤ s.1 ∧ s.1 ≤ 258 ∧ 1 ≤ s.2 ∧ s.2 ≤ 32768)
/-- a step's symbol, its own bits, and how many -/
def sy (s : Nat × Nat) : Nat := if s.2 = 0 then s.1 else if s.1 = 258 then 285 else 257 + code_ (s.1 - 3) 4
def syN (s : Nat × Nat) : Nat := if s.2 = 0 then 0 else if s.1 = 258 then 0 else own_ (s.1 - 3) 4
def syV (s : Nat × Nat) : Nat := if s.2 = 0 then 0 else if s.1 = 258 then 0 else (s.1 - 3) % 2 ^ own_ (s.1 - 3) 4
def di (s : Nat × Nat) : Nat := code_ (s.2 - 1) 2
def diN (s : Nat × Nat) : Nat := own_ (s.2 - 1) 2
def diV (s : Nat × Nat) : Nat := (s.2 - 1) % 2 ^ own_ (s.2 - 1) 2
end Go.Proofs.YtppgceighgpgoaaGreatDoor.defp
/-
  Steps that are written by two codes are read back, up to the end. Plain mathematics, over no program. My own text.
-/
namespace Go.Proofs.YtppgceighgpgoaaGreatDoor.defp
open Go.Proofs.YtppgceighgpgoaaGreatDoor.num Go.Proofs.YtppgceighgpgoaaGreatDoor.bitnum Go.Proofs.YtppgceighgpgoaaGreatDoor.huffnum Go.Proofs.YtppgceighgpgoaaGreatDoor.infnum
set_option linter.unusedVariables false

/-- a symbol's code by the lengths a: how many bits, and their number -/
def codeB (a : List Nat) (k : Nat) : Nat × Nat := (a.getD k 0, rev (a.getD k 0) (cd a k (a.getD k 0)))
/-- a step's bits -/
def stepB (a b : List Nat) (s : Nat × Nat) : List (Nat × Nat) := codeB a (sy s) :: (syN s, syV s) :: (if s.2 = 0 then [] else [codeB b (di s), (diN s, diV s)])
def stepsB (a b : List Nat) (l : List (Nat × Nat)) : List (Nat × Nat) := l.flatMap (stepB a b)
/-- the step may be behind n bytes -/
def May (n : Nat) (s : Nat × Nat) : Prop := (s.2 = 0 ∧ s.1 < 256) ∨ (3 ≤ s.1 ∧ s.1 ≤ 258 ∧ 1 ≤ s.2 ∧ s.2 ≤ 32768 ∧ s.2 ≤ n)
/-- the codes have what the step wants -/
def Has (a b : List Nat) (s : Nat × Nat) : Prop := 1 ≤ a.getD (sy s) 0 ∧ a.getD (sy s) 0 ≤ 15 ∧ (s.2 ≠ 0 → 1 ≤ b.getD (di s) 0 ∧ b.getD (di s) 0 ≤ 15)
theorem log_lo (q : Nat) (h : 0 < q) : 2 ^ Nat.log2 q ≤ q := Nat.log2_self_le (by omega)
theorem Says.step {a b : List Nat} {last : Bool} {o : List UInt8} {s : Nat × Nat} (ha : tx a 15 ≤ 32768) (hb : tx b 15 ≤ 32768) (hm : May o.length s) (hh : Has a b s) :
    Says (one ⟨.sy a b, last, o⟩) ⟨.sy a b, last, played o s⟩ (bits_ (stepB a b s)).1 (bits_ (stepB a b s)).2 := by
  obtain ⟨x, k⟩ := s
  obtain ⟨h1, h15, hd⟩ := hh
  by_cases h0 : k = 0
  · subst h0
    have hx : x < 256 := by rcases hm with h | h <;> simp only at h <;> omega
    have e1 : sy (x, 0) = x := rfl
    rw [e1] at h1 h15
    refine (Says.lit ha hx (get_of h1) h1 h15).at_ ?_ ?_
    · simp [stepB, codeB, bits_, e1, syN]
    · simp [stepB, codeB, bits_, e1, syN, syV]
  · have hx : 3 ≤ x ∧ x ≤ 258 ∧ 1 ≤ k ∧ k ≤ 32768 ∧ k ≤ o.length := by rcases hm with h | h <;> simp only at h <;> omega
    obtain ⟨d1, d15⟩ := hd h0
    obtain ⟨f1, f2, f3⟩ := far_all (k - 1) (by omega)
    have ep : played o (x, k) = copied k x o := by unfold played; rw [if_neg h0]
    have hG : diV (x, k) < 2 ^ diN (x, k) := Nat.mod_lt _ (Nat.pow_pos (by omega))
    have hK : farBase.getD (di (x, k)) 0 + diV (x, k) = k := by show farBase.getD (code_ (k - 1) 2) 0 + (k - 1) % 2 ^ own_ (k - 1) 2 = k; omega
    rw [ep]
    by_cases h258 : x = 258
    · subst h258
      have e1 : sy (258, k) = 285 := by simp [sy, h0]
      have e2 : syN (258, k) = 0 := by simp [syN, h0]
      have e3 : syV (258, k) = 0 := by simp [syV, h0]
      rw [e1] at h1 h15
      refine (Says.copy (e := 0) (E := 0) ha hb (by omega) (Nat.le_refl 285) (get_of h1) h1 h15 rfl (by decide) rfl (by show code_ (k - 1) 2 ≤ 29; omega) (get_of d1) d1 d15 f2 hG hK hx.2.2.2.2 hx.2.2.2.1).at_ ?_ ?_
      · simp [stepB, codeB, bits_, e1, e2, h0]; rfl
      · simp [stepB, codeB, bits_, e1, e2, e3, h0]
    · obtain ⟨v, rfl⟩ : ∃ v, x = v + 3 := ⟨x - 3, by omega⟩
      have hv : v < 255 := by omega
      obtain ⟨g1, g2, g3⟩ := long_all ⟨v, hv⟩
      simp only at g1 g2 g3
      have e1 : sy (v + 3, k) = 257 + code_ v 4 := by simp [sy, h0, h258]
      have e2 : syN (v + 3, k) = own_ v 4 := by simp [syN, h0, h258]
      have e3 : syV (v + 3, k) = v % 2 ^ own_ v 4 := by simp [syV, h0, h258]
      rw [e1] at h1 h15
      have hlt : v % 2 ^ own_ v 4 < 2 ^ own_ v 4 := Nat.mod_lt _ (Nat.pow_pos (by omega))
      refine (Says.copy (e := own_ v 4) (E := v % 2 ^ own_ v 4) ha hb (by omega) (by omega) (get_of h1) h1 h15 (by rw [Nat.add_sub_cancel_left]; exact g2) hlt (by rw [Nat.add_sub_cancel_left]; exact g3) (by show code_ (k - 1) 2 ≤ 29; omega) (get_of d1) d1 d15 f2 hG hK hx.2.2.2.2 hx.2.2.2.1).at_ ?_ ?_
      · simp [stepB, codeB, bits_, e1, e2, h0, Nat.add_assoc]; rfl
      · simp [stepB, codeB, bits_, e1, e2, e3, h0, Nat.add_assoc, Nat.mul_add, Nat.mul_assoc, Nat.pow_add]
/-- each step may be where it stands -/
def Fits : List UInt8 → List (Nat × Nat) → Prop
  | _, [] => True
  | o, s :: r => May o.length s ∧ Fits (played o s) r
/-- all steps, and the end -/
theorem steps_back {a b : List Nat} {last : Bool} (ha : tx a 15 ≤ 32768) (hb : tx b 15 ≤ 32768) (he : 1 ≤ a.getD 256 0 ∧ a.getD 256 0 ≤ 15) {U T : Nat} : ∀ (l : List (Nat × Nat)) (o : List UInt8) (p : Nat), Fits o l → (∀ s ∈ l, Has a b s) →
    p + (bits_ (stepsB a b (l ++ [(256, 0)]))).1 ≤ T → U / 2 ^ p % 2 ^ (bits_ (stepsB a b (l ++ [(256, 0)]))).1 = (bits_ (stepsB a b (l ++ [(256, 0)]))).2 →
    infnum.Steps U T (⟨.sy a b, last, o⟩, p) (⟨.head, last, l.foldl played o⟩, p + (bits_ (stepsB a b (l ++ [(256, 0)]))).1) := by
  intro l
  induction l with
  | nil =>
    intro o p _ _ hT hU
    have e : bits_ (stepsB a b ([] ++ [(256, 0)])) = codeB a 256 := by
      have e1 : sy (256, 0) = 256 := rfl
      simp [stepsB, stepB, bits_, e1, syN, syV]
    rw [e] at hT hU ⊢
    exact Says.steps (Says.end_ ha (get_of he.1) he.1 he.2) hT hU
  | cons s r ih =>
    intro o p hF hH hT hU
    have e : stepsB a b (s :: r ++ [(256, 0)]) = stepB a b s ++ stepsB a b (r ++ [(256, 0)]) := by simp [stepsB]
    rw [e, bits_append] at hT hU ⊢
    have hs := Says.step (last := last) ha hb hF.1 (hH s (by simp))
    obtain ⟨h1, h2⟩ := parts_of hs.1 hU
    rw [Nat.div_div_eq_div_mul, ← Nat.pow_add] at h2
    have h3 := ih (played o s) (p + (bits_ (stepB a b s)).1) hF.2 (fun t ht => hH t (by simp [ht])) (by simp only at hT; omega) h2
    have := (hs.steps (by simp only at hT; omega) h1).trans h3
    rw [Nat.add_assoc] at this
    exact this
/-- from the beginning on: one block, by the codes that are told -/
theorem unp_fixed {l : List (Nat × Nat)} {bs : List UInt8} (hF : Fits [] l) (hH : ∀ s ∈ l, Has fixedLits fixedDist s) (hn : num bs = 3 + 2 ^ 3 * (bits_ (stepsB fixedLits fixedDist (l ++ [(256, 0)]))).2) (hv : (bits_ (stepsB fixedLits fixedDist (l ++ [(256, 0)]))).2 < 2 ^ (bits_ (stepsB fixedLits fixedDist (l ++ [(256, 0)]))).1)
    (hl : bs.length = (3 + (bits_ (stepsB fixedLits fixedDist (l ++ [(256, 0)]))).1 + 7) / 8) : Unp bs (play l) bs.length := by
  generalize hB : bits_ (stepsB fixedLits fixedDist (l ++ [(256, 0)])) = B at *
  have hhead : Says (one ⟨.head, false, []⟩) ⟨.sy fixedLits fixedDist, true, []⟩ (1 + (2 + 0)) (1 + 2 ^ 1 * (1 + 2 ^ 2 * 0)) := by
    refine Says.also (Says.take (n := 1) (v := 1) (by decide)) ?_
    refine Says.also (Says.take (n := 2) (v := 1) (by decide)) ?_
    refine Says.ite_neg (by decide) ?_
    exact Says.ite_pos rfl (Says.give _)
  have h1 : num bs % 2 ^ 3 = 3 := by rw [hn, Nat.add_mul_mod_self_left]
  have h2 : num bs / 2 ^ 3 = B.2 := by rw [hn, Nat.add_mul_div_left _ _ (by decide)]; simp
  have s1 := hhead.steps (U := num bs) (T := 8 * bs.length) (p := 0) (by omega) (by simpa using h1)
  have s2 := steps_back (last := true) (U := num bs) (T := 8 * bs.length) (a := fixedLits) (b := fixedDist) (by decide +kernel) (by decide +kernel) (by decide +kernel) l [] 3 hF hH (by rw [hB]; omega) (by rw [hB, h2, Nat.mod_eq_of_lt hv])
  rw [hB] at s2
  exact ⟨_, _, s1.trans s2, ⟨rfl, rfl⟩, rfl, by omega, by omega⟩
/-- the same, by codes of its own -/
theorem unp_own {l : List (Nat × Nat)} {bs : List UInt8} {C : List (Nat × Nat)} {a b : List Nat} (hF : Fits [] l) (hH : ∀ s ∈ l, Has a b s) (ha : tx a 15 ≤ 32768) (hb : tx b 15 ≤ 32768) (he : 1 ≤ a.getD 256 0 ∧ a.getD 256 0 ≤ 15) (hC : Says infnum.codes (a, b) (bits_ C).1 (bits_ C).2)
    (hn : num bs = 5 + 2 ^ 3 * (bits_ (C ++ stepsB a b (l ++ [(256, 0)]))).2) (hv : (bits_ (stepsB a b (l ++ [(256, 0)]))).2 < 2 ^ (bits_ (stepsB a b (l ++ [(256, 0)]))).1)
    (hl : bs.length = (3 + (bits_ (C ++ stepsB a b (l ++ [(256, 0)]))).1 + 7) / 8) : Unp bs (play l) bs.length := by
  rw [bits_append] at hn hl
  generalize hB : bits_ (stepsB a b (l ++ [(256, 0)])) = B at *
  generalize bits_ C = D at *
  simp only at hn hl
  have hhead : Says (one ⟨.head, false, []⟩) ⟨.sy a b, true, []⟩ (3 + D.1) (5 + 2 ^ 3 * D.2) := by
    refine Says.at_ (n := 1 + (2 + (D.1 + 0))) (v := 1 + 2 ^ 1 * (2 + 2 ^ 2 * (D.2 + 2 ^ D.1 * 0))) ?_ (by omega) (by omega)
    refine Says.also (Says.take (n := 1) (v := 1) (by decide)) ?_
    refine Says.also (Says.take (n := 2) (v := 2) (by decide)) ?_
    refine Says.ite_neg (by decide) ?_
    refine Says.ite_neg (by decide) ?_
    exact Says.ite_pos rfl (Says.also hC (Says.give _))
  have hU : num bs = (5 + 2 ^ 3 * D.2) + 2 ^ (3 + D.1) * B.2 := by rw [hn, Nat.pow_add, Nat.mul_add, Nat.mul_assoc, Nat.add_assoc]
  have h1 : num bs % 2 ^ (3 + D.1) = 5 + 2 ^ 3 * D.2 := by rw [hU, Nat.add_mul_mod_self_left, Nat.mod_eq_of_lt hhead.1]
  have h2 : num bs / 2 ^ (3 + D.1) = B.2 := by rw [hU, Nat.add_mul_div_left _ _ (Nat.pow_pos (by omega)), Nat.div_eq_of_lt hhead.1, Nat.zero_add]
  have s1 := hhead.steps (U := num bs) (T := 8 * bs.length) (p := 0) (by omega) (by simpa using h1)
  rw [Nat.zero_add] at s1
  have s2 := steps_back (last := true) (U := num bs) (T := 8 * bs.length) ha hb he l [] (3 + D.1) hF hH (by rw [hB]; omega) (by rw [hB, h2, Nat.mod_eq_of_lt hv])
  rw [hB] at s2
  exact ⟨_, _, s1.trans s2, ⟨rfl, rfl⟩, rfl, by omega, by omega⟩
end Go.Proofs.YtppgceighgpgoaaGreatDoor.defp
