import Derived.Laws.CopyOwn
/- Several of my own texts, one behind the other. -/
/-
  Files of sectors, as lists: the plain mathematics of vfs. My own text.
-/
namespace Go.Proofs.YtcdehklcdipcfaaGreat.vfsnum
set_option linter.unusedVariables false

abbrev Bs := List UInt8
theorem gd_ge (l : Bs) (j : Nat) (h : l.length ≤ j) : l.getD j 0 = 0 := by rw [List.getD_eq_getElem?_getD, List.getElem?_eq_none h]; rfl
theorem gd_take (l : Bs) (n j : Nat) : (l.take n).getD j 0 = if j < n then l.getD j 0 else 0 := by
  simp only [List.getD_eq_getElem?_getD, List.getElem?_take]; split <;> rfl
theorem gd_drop (l : Bs) (n j : Nat) : (l.drop n).getD j 0 = l.getD (n + j) 0 := by simp only [List.getD_eq_getElem?_getD, List.getElem?_drop]
theorem gd_append (a b : Bs) (j : Nat) : (a ++ b).getD j 0 = if j < a.length then a.getD j 0 else b.getD (j - a.length) 0 := by
  simp only [List.getD_eq_getElem?_getD, List.getElem?_append]; split <;> rfl
theorem gd_zeros (n j : Nat) : (List.replicate n (0 : UInt8)).getD j 0 = 0 := by
  simp only [List.getD_eq_getElem?_getD, List.getElem?_replicate]; split <;> rfl
theorem gd_range (n : Nat) (f : Nat → UInt8) (j : Nat) : ((List.range n).map f).getD j 0 = if j < n then f j else 0 := by
  by_cases h : j < n
  · rw [if_pos h, List.getD_eq_getElem?_getD, List.getElem?_map, List.getElem?_range h]; rfl
  · rw [if_neg h, gd_ge _ _ (by simp; omega)]
theorem ext_gd {l l' : Bs} (hl : l.length = l'.length) (h : ∀ j, j < l.length → l.getD j 0 = l'.getD j 0) : l = l' := by
  refine List.ext_getElem hl fun j h1 h2 => ?_
  have := h j h1
  simpa [List.getD_eq_getElem?_getD, List.getElem?_eq_getElem h1, List.getElem?_eq_getElem h2] using this
theorem gd_splice (L : Bs) (off : Nat) (cs : Bs) (h : off ≤ L.length) (j : Nat) : (splice L off cs).getD j 0 = if off ≤ j ∧ j < off + cs.length then cs.getD (j - off) 0 else L.getD j 0 := by
  unfold splice
  rw [gd_append, gd_append, gd_take, gd_drop, List.length_take]
  by_cases h1 : j < off
  · rw [if_pos (by omega), if_pos h1, if_neg (by omega)]
  · rw [if_neg (by omega), show min off L.length = off by omega]
    by_cases h2 : j - off < cs.length
    · rw [if_pos h2, if_pos (by omega)]
    · rw [if_neg h2, if_neg (by omega)]
      congr 1
      omega
theorem splice_map {α β : Type} (f : α → β) (L : List α) (off : Nat) (cs : List α) : splice (L.map f) off (cs.map f) = (splice L off cs).map f := by
  simp [splice]
theorem splice_take {α : Type} (L : List α) (m off : Nat) (cs : List α) (h : off + cs.length ≤ m) (hm : m ≤ L.length) : (splice L off cs).take m = splice (L.take m) off cs := by
  unfold splice
  have e2 : List.take (m - min off L.length) cs = cs := List.take_of_length_le (by omega)
  rw [List.take_append, List.take_append, List.take_take, List.take_take, List.drop_take, List.length_take, e2, show min m off = min off m by omega, show m - min off L.length - cs.length = m - (off + cs.length) by omega]

/-- how many sectors so many bytes take -/
def takes (n : Nat) : Nat := (n + 63) / 64
def secAt (bs : Bs) (k : Nat) : Bs := (List.range 64).map fun j => bs.getD (64 * k + j) 0
def pad (bs : Bs) : Bs := (List.range (64 * takes bs.length)).map fun j => bs.getD j 0
theorem secAt_len (bs : Bs) (k : Nat) : (secAt bs k).length = 64 := by simp [secAt]
theorem pad_len (bs : Bs) : (pad bs).length = 64 * takes bs.length := by simp [pad]
theorem le_takes (n : Nat) : n ≤ 64 * takes n := by unfold takes; omega
theorem gd_sec (bs : Bs) (k j : Nat) (h : j < 64) : (secAt bs k).getD j 0 = bs.getD (64 * k + j) 0 := by rw [secAt, gd_range, if_pos h]
theorem gd_pad (bs : Bs) (j : Nat) : (pad bs).getD j 0 = bs.getD j 0 := by
  rw [pad, gd_range]
  by_cases h : j < 64 * takes bs.length
  · rw [if_pos h]
  · rw [if_neg h, gd_ge]
    have := le_takes bs.length
    omega
theorem pad_nil : pad [] = [] := rfl
/-- a sector, out of the row of all -/
theorem sec_of_row (fl : Bs) (k : Nat) (h : 64 * k + 64 ≤ fl.length) : (fl.drop (64 * k)).take 64 = secAt fl k := by
  refine ext_gd (by rw [List.length_take, List.length_drop, secAt_len]; omega) fun j hj => ?_
  rw [List.length_take] at hj
  rw [gd_take, gd_drop, gd_sec _ _ _ (by omega), if_pos (by omega)]
theorem secAt_congr {a b : Bs} {k : Nat} (h : ∀ j, 64 * k ≤ j → j < 64 * k + 64 → a.getD j 0 = b.getD j 0) : secAt a k = secAt b k := by
  refine ext_gd (by rw [secAt_len, secAt_len]) fun j hj => ?_
  rw [secAt_len] at hj
  rw [gd_sec _ _ _ hj, gd_sec _ _ _ hj]
  exact h _ (by omega) (by omega)

/-- a file: its bytes, its stamp, what the sectors that wait were when it was synced -/
structure Fl where
  bs : Bs
  stamp : Nat
  old : Nat → Option Bs
/-- what is in memory: how many sectors, their row -/
structure Raw where
  long : Nat
  stamp : Nat
  n : Nat
  fl : Bs
  old : Nat → Option Bs
def rawOf (f : Fl) : Raw := ⟨f.bs.length, f.stamp, takes f.bs.length, pad f.bs, f.old⟩

/-- a sector is about to change -/
def Raw.wait (r : Raw) (p : Nat) : Raw :=
  { r with n := max r.n (p + 1), fl := if p = r.n then r.fl ++ List.replicate 64 0 else r.fl, old := fun k => if k = p ∧ (r.old k).isSome = false then some (secAt r.fl p) else r.old k }
theorem wait_len (r : Raw) (p : Nat) (h : p ≤ r.n) (hl : r.fl.length = 64 * r.n) : (r.wait p).fl.length = 64 * max r.n (p + 1) := by
  by_cases hp : p = r.n
  · simp only [Raw.wait, if_pos hp]; rw [List.length_append, List.length_replicate, hl]; omega
  · simp only [Raw.wait, if_neg hp]; rw [hl]; omega
theorem wait_gd (r : Raw) (p j : Nat) : (r.wait p).fl.getD j 0 = r.fl.getD j 0 := by
  by_cases hp : p = r.n
  · simp only [Raw.wait, if_pos hp]
    rw [gd_append, gd_zeros]
    split
    · rfl
    · rw [gd_ge _ _ (by omega)]
  · simp only [Raw.wait, if_neg hp]
theorem wait_sec (r : Raw) (p k : Nat) : secAt (r.wait p).fl k = secAt r.fl k := secAt_congr fun j _ _ => wait_gd r p j

def wrt (f : Fl) (a : Nat) (b : Bs) : Fl :=
  { f with bs := f.bs.take a ++ (b ++ f.bs.drop (a + b.length)), old := fun k => if b ≠ [] ∧ a / 64 ≤ k ∧ 64 * k < a + b.length ∧ (f.old k).isSome = false then some (secAt f.bs k) else f.old k }

theorem wrt_len (f : Fl) (a : Nat) (b : Bs) (h : a ≤ f.bs.length) : (wrt f a b).bs.length = max f.bs.length (a + b.length) := by simp [wrt]; omega
theorem wrt_gd (f : Fl) (a : Nat) (b : Bs) (h : a ≤ f.bs.length) (j : Nat) : (wrt f a b).bs.getD j 0 = if a ≤ j ∧ j < a + b.length then b.getD (j - a) 0 else f.bs.getD j 0 := gd_splice f.bs a b h j
theorem wrt_nil (f : Fl) (a : Nat) (h : a ≤ f.bs.length) : wrt f a [] = f := by
  have h1 : (wrt f a []).old = f.old := by funext k; simp [wrt]
  have h2 : (wrt f a []).bs = f.bs := by simp [wrt]
  cases f
  exact Fl.mk.injEq .. |>.mpr ⟨h2, rfl, h1⟩

/-- the raw file on its way: all but the length -/
def onWay (f : Fl) (a : Nat) (b : Bs) : Raw := { rawOf (wrt f a b) with long := f.bs.length }

/-- a round of write -/
theorem wrt_round (f : Fl) (a : Nat) (b : Bs) (i m : Nat) (ha : a ≤ f.bs.length) (hi : i < b.length) (hal : i = 0 ∨ (a + i) % 64 = 0) (hm : m = min (64 - (a + i) % 64) (b.length - i)) :
    { (onWay f a (b.take i)).wait ((a + i) / 64) with fl := splice ((onWay f a (b.take i)).wait ((a + i) / 64)).fl (64 * ((a + i) / 64) + (a + i) % 64) ((b.drop i).take m) } = onWay f a (b.take (i + m)) ∧
      (a + i) / 64 ≤ takes (wrt f a (b.take i)).bs.length := by
  have l1 := wrt_len f a (b.take i) ha
  have l2 := wrt_len f a (b.take (i + m)) ha
  rw [List.length_take] at l1 l2
  have hp : (a + i) / 64 ≤ takes (wrt f a (b.take i)).bs.length := by rw [l1]; unfold takes; omega
  refine ⟨?_, hp⟩
  have hn : max (takes (wrt f a (b.take i)).bs.length) ((a + i) / 64 + 1) = takes (wrt f a (b.take (i + m))).bs.length := by rw [l1, l2]; unfold takes; omega
  have hfl : ((onWay f a (b.take i)).wait ((a + i) / 64)).fl.length = 64 * max (takes (wrt f a (b.take i)).bs.length) ((a + i) / 64 + 1) := wait_len _ _ hp (pad_len _)
  have hgd : ∀ j, ((onWay f a (b.take i)).wait ((a + i) / 64)).fl.getD j 0 = (wrt f a (b.take i)).bs.getD j 0 := fun j => (wait_gd _ _ _).trans (gd_pad _ _)
  have hbm : ((b.drop i).take m).length = m := by rw [List.length_take, List.length_drop]; omega
  have e1 : splice ((onWay f a (b.take i)).wait ((a + i) / 64)).fl (64 * ((a + i) / 64) + (a + i) % 64) ((b.drop i).take m) = pad (wrt f a (b.take (i + m))).bs := by
    have hoff : 64 * ((a + i) / 64) + (a + i) % 64 = a + i := by omega
    rw [hoff]
    refine ext_gd ?_ fun j hj => ?_
    · rw [length_splice _ _ _ (by rw [hfl, hbm]; omega), hfl, hn, pad_len]
    · rw [gd_splice _ _ _ (by rw [hfl]; omega), gd_pad, wrt_gd _ _ _ ha, hgd, wrt_gd _ _ _ ha, hbm, List.length_take, List.length_take]
      by_cases h1 : a + i ≤ j ∧ j < a + i + m
      · rw [if_pos h1, if_pos (by omega), gd_take, gd_drop, gd_take, if_pos (by omega), if_pos (by omega)]
        congr 1
        omega
      · rw [if_neg h1]
        by_cases h2 : a ≤ j ∧ j < a + min i b.length
        · rw [if_pos h2, if_pos (by omega), gd_take, gd_take, if_pos (by omega), if_pos (by omega)]
        · rw [if_neg h2, if_neg (by omega)]
  have e2 : ((onWay f a (b.take i)).wait ((a + i) / 64)).old = (wrt f a (b.take (i + m))).old := by
    have hsec : secAt (onWay f a (b.take i)).fl ((a + i) / 64) = secAt f.bs ((a + i) / 64) := by
      refine secAt_congr fun j h1 h2 => ?_
      show (pad (wrt f a (b.take i)).bs).getD j 0 = _
      rw [gd_pad, wrt_gd _ _ _ ha, List.length_take]
      rw [if_neg (by rcases hal with h | h <;> omega)]
    have l3 : (b.take (i + m)).length = i + m := by rw [List.length_take]; omega
    have l4 : (b.take i).length = i := by rw [List.length_take]; omega
    have hb2 : b.take (i + m) ≠ [] := fun h => by rw [h] at l3; simp at l3; omega
    have hb1 : b.take i ≠ [] ↔ i ≠ 0 := ⟨fun h h0 => h (by rw [h0]; rfl), fun h0 h => by rw [h] at l4; simp at l4; omega⟩
    funext k
    show (if k = (a + i) / 64 ∧ ((wrt f a (b.take i)).old k).isSome = false then some (secAt (onWay f a (b.take i)).fl ((a + i) / 64)) else (wrt f a (b.take i)).old k) = (wrt f a (b.take (i + m))).old k
    rw [hsec]
    simp only [wrt, l3, l4]
    cases ho : f.old k with
    | some o => simp
    | none =>
      by_cases hk : k = (a + i) / 64
      · subst hk
        by_cases hi0 : i = 0
        · rw [if_neg (c := b.take i ≠ [] ∧ _) (by rw [hb1]; rintro ⟨h, _⟩; exact h hi0), if_pos ⟨rfl, rfl⟩, if_pos ⟨hb2, by omega, by omega, rfl⟩]
        · by_cases h1 : a / 64 ≤ (a + i) / 64 ∧ 64 * ((a + i) / 64) < a + i
          · rw [if_pos (c := b.take i ≠ [] ∧ _) ⟨hb1.2 hi0, h1.1, h1.2, rfl⟩, if_neg (by simp), if_pos ⟨hb2, by omega, by omega, rfl⟩]
          · rw [if_neg (c := b.take i ≠ [] ∧ _) (by rintro ⟨_, h2, h3, _⟩; exact h1 ⟨h2, h3⟩), if_pos ⟨rfl, rfl⟩, if_pos ⟨hb2, by omega, by omega, rfl⟩]
      · rw [if_neg (by rintro ⟨h, _⟩; exact hk h)]
        by_cases h1 : a / 64 ≤ k ∧ 64 * k < a + i
        · by_cases hi0 : i = 0
          · omega
          · rw [if_pos ⟨hb1.2 hi0, h1.1, h1.2, rfl⟩, if_pos ⟨hb2, h1.1, by omega, rfl⟩]
        · rw [if_neg (by rintro ⟨_, h2, h3, _⟩; exact h1 ⟨h2, h3⟩), if_neg (by rintro ⟨_, h2, h3, _⟩; exact h1 ⟨h2, by omega⟩)]
  have e3 : ((onWay f a (b.take i)).wait ((a + i) / 64)).n = takes (wrt f a (b.take (i + m))).bs.length := hn
  rw [e1]
  show Raw.mk _ _ _ _ _ = Raw.mk _ _ _ _ _
  rw [e2, e3]
  rfl

/-- cut -/
def ct (f : Fl) (n : Nat) : Fl :=
  { f with bs := f.bs.take n, old := fun k => if takes n ≤ k then none else if n % 64 ≠ 0 ∧ k = n / 64 ∧ (f.old k).isSome = false then some (secAt f.bs k) else f.old k }
/-- zeros behind the end -/
def Raw.blank (r : Raw) : Raw := { r with fl := if r.long % 64 = 0 then r.fl else splice r.fl (64 * (r.n - 1) + r.long % 64) (List.replicate (64 - r.long % 64) 0) }
theorem Raw.same {r r' : Raw} (h1 : r.long = r'.long) (h2 : r.stamp = r'.stamp) (h3 : r.n = r'.n) (h4 : r.fl = r'.fl) (h5 : r.old = r'.old) : r = r' := by
  cases r; cases r'; simp only at h1 h2 h3 h4 h5; subst h1; subst h2; subst h3; subst h4; subst h5; rfl
theorem blank_fl0 (r : Raw) (h : r.long % 64 = 0) : r.blank.fl = r.fl := by unfold Raw.blank; simp only; rw [if_pos h]
theorem blank_fl1 (r : Raw) (h : ¬ r.long % 64 = 0) : r.blank.fl = splice r.fl (64 * (r.n - 1) + r.long % 64) (List.replicate (64 - r.long % 64) 0) := by unfold Raw.blank; simp only; rw [if_neg h]
/-- what waits from a place on is forgotten -/
def cutOld (old : Nat → Option Bs) (p : Nat) : Nat → Option Bs := fun k => if p ≤ k then none else old k

theorem ct_raw (f : Fl) (n : Nat) (h : n ≤ f.bs.length) (s : Nat) (r : Raw) (hr : r = ⟨n, s, takes n, (pad f.bs).take (64 * takes n), cutOld f.old (takes n)⟩) :
    (if n % 64 = 0 then r else (r.wait (takes n - 1))).blank = rawOf { ct f n with stamp := s } := by
  subst hr
  have hlen : ((pad f.bs).take (64 * takes n)).length = 64 * takes n := by
    rw [List.length_take, pad_len]
    have : takes n ≤ takes f.bs.length := by unfold takes; omega
    omega
  have hL : (f.bs.take n).length = n := by rw [List.length_take]; omega
  by_cases h0 : n % 64 = 0
  · rw [if_pos h0]
    refine Raw.same (show n = _ from hL.symm) rfl (show takes n = takes (f.bs.take n).length by rw [hL]) ?_ ?_
    · rw [blank_fl0 _ (show n % 64 = 0 from h0)]
      show (pad f.bs).take (64 * takes n) = pad (f.bs.take n)
      refine ext_gd (by rw [hlen, pad_len, hL]) fun j hj => ?_
      rw [hlen] at hj
      have : 64 * takes n = n := by unfold takes; omega
      rw [gd_take, if_pos hj, gd_pad, gd_pad, gd_take, if_pos (by omega)]
    · funext k
      show cutOld f.old (takes n) k = (ct f n).old k
      simp [cutOld, ct, h0]
  · rw [if_neg h0]
    have ht : takes n - 1 = n / 64 := by unfold takes; omega
    have htp : takes n = n / 64 + 1 := by unfold takes; omega
    rw [ht]
    have hw := wait_len ⟨n, s, takes n, (pad f.bs).take (64 * takes n), cutOld f.old (takes n)⟩ (n / 64) (by show _ ≤ takes n; omega) hlen
    have hg : ∀ j, (Raw.wait ⟨n, s, takes n, (pad f.bs).take (64 * takes n), cutOld f.old (takes n)⟩ (n / 64)).fl.getD j 0 = ((pad f.bs).take (64 * takes n)).getD j 0 := wait_gd _ _
    have hmx : max (takes n) (n / 64 + 1) = takes n := by omega
    have hwn : (Raw.wait ⟨n, s, takes n, (pad f.bs).take (64 * takes n), cutOld f.old (takes n)⟩ (n / 64)).n = takes n := hmx
    have hw' : (Raw.wait ⟨n, s, takes n, (pad f.bs).take (64 * takes n), cutOld f.old (takes n)⟩ (n / 64)).fl.length = 64 * takes n := by rw [hw]; show 64 * max (takes n) _ = _; rw [hmx]
    refine Raw.same (show n = _ from hL.symm) rfl (by show max (takes n) (n / 64 + 1) = takes (f.bs.take n).length; rw [hL, hmx]) ?_ ?_
    · rw [blank_fl1 _ (show ¬ n % 64 = 0 from h0), hwn]
      show splice _ (64 * (takes n - 1) + n % 64) (List.replicate (64 - n % 64) 0) = pad (f.bs.take n)
      refine ext_gd ?_ fun j hj => ?_
      · rw [length_splice _ _ _ (by rw [hw', List.length_replicate]; omega), hw', pad_len, hL]
      · rw [length_splice _ _ _ (by rw [hw', List.length_replicate]; omega), hw'] at hj
        rw [gd_splice _ _ _ (by rw [hw']; omega), gd_zeros, hg, gd_pad, gd_take, gd_take, gd_pad, List.length_replicate, if_pos hj]
        by_cases h1 : j < n
        · rw [if_neg (by omega), if_pos h1]
        · rw [if_neg h1, if_pos (by omega)]
    · funext k
      show (if k = n / 64 ∧ (cutOld f.old (takes n) k).isSome = false then some (secAt ((pad f.bs).take (64 * takes n)) (n / 64)) else cutOld f.old (takes n) k) = _
      have hsec : secAt ((pad f.bs).take (64 * takes n)) (n / 64) = secAt f.bs (n / 64) := by
        refine secAt_congr fun j h1 h2 => ?_
        rw [gd_take, if_pos (by omega), gd_pad]
      rw [hsec]
      show _ = if takes n ≤ k then none else if n % 64 ≠ 0 ∧ k = n / 64 ∧ (f.old k).isSome = false then some (secAt f.bs k) else f.old k
      by_cases hk : takes n ≤ k
      · have e : cutOld f.old (takes n) k = none := by unfold cutOld; rw [if_pos hk]
        rw [if_neg (by rintro ⟨h, _⟩; omega), if_pos hk, e]
      · have e : cutOld f.old (takes n) k = f.old k := by unfold cutOld; rw [if_neg hk]
        rw [if_neg hk]
        by_cases hk2 : k = n / 64
        · subst hk2
          cases ho : f.old (n / 64) with
          | some o => rw [if_neg (by rw [e, ho]; simp), e, ho, if_neg (by simp)]
          | none => rw [if_pos ⟨rfl, by rw [e, ho]; rfl⟩, if_pos ⟨h0, rfl, rfl⟩]
        · rw [if_neg (by rintro ⟨h, _⟩; exact hk2 h), if_neg (by rintro ⟨_, h, _⟩; exact hk2 h), e]

/-- crash -/
def cnt (old : Nat → Option Bs) (k : Nat) : Nat := ((List.range k).filter fun i => (old i).isSome).length
def keeps (keep : Nat) (i : Nat) : Bool := keep / 2 ^ (i % 64) % 2 == 1
theorem cnt_succ (old : Nat → Option Bs) (k : Nat) : cnt old (k + 1) = cnt old k + if (old k).isSome then 1 else 0 := by
  unfold cnt
  rw [List.range_succ, List.filter_append, List.length_append]
  by_cases h : (old k).isSome <;> simp [h]
theorem cnt_le (old : Nat → Option Bs) (k : Nat) : cnt old k ≤ k := by
  have := List.length_filter_le (fun i => (old i).isSome) (List.range k)
  rwa [List.length_range] at this
def lost (f : Fl) (keep i : Nat) (p : Nat) : UInt8 :=
  match f.old (p / 64) with
  | some o => if keeps keep (i + cnt f.old (p / 64)) then f.bs.getD p 0 else o.getD (p % 64) 0
  | none => f.bs.getD p 0
def cr (f : Fl) (keep i : Nat) : Fl := { f with bs := (List.range f.bs.length).map (lost f keep i), old := fun _ => none }
/-- the row, when so many places were gone through -/
def gone (f : Fl) (keep i k : Nat) : Bs := (List.range (64 * takes f.bs.length)).map fun p => if p / 64 < k then lost f keep i p else f.bs.getD p 0
theorem gone_len (f : Fl) (keep i k : Nat) : (gone f keep i k).length = 64 * takes f.bs.length := by simp [gone]
theorem gone_zero (f : Fl) (keep i : Nat) : gone f keep i 0 = pad f.bs := by simp [gone, pad]
theorem gd_gone (f : Fl) (keep i k p : Nat) (h : p < 64 * takes f.bs.length) : (gone f keep i k).getD p 0 = if p / 64 < k then lost f keep i p else f.bs.getD p 0 := by rw [gone, gd_range, if_pos h]
theorem gone_keep (f : Fl) (keep i k : Nat) (h : f.old k = none ∨ keeps keep (i + cnt f.old k) = true) : gone f keep i (k + 1) = gone f keep i k := by
  refine ext_gd (by rw [gone_len, gone_len]) fun p hp => ?_
  rw [gone_len] at hp
  rw [gd_gone _ _ _ _ _ hp, gd_gone _ _ _ _ _ hp]
  by_cases h1 : p / 64 < k
  · rw [if_pos (by omega), if_pos h1]
  · rw [if_neg h1]
    by_cases h2 : p / 64 = k
    · rw [if_pos (by omega), lost, h2]
      rcases h with h | h
      · rw [h]
      · cases ho : f.old k with
        | none => rfl
        | some o => simp [h]
    · rw [if_neg (by omega)]
theorem gone_lose (f : Fl) (keep i k : Nat) (o : Bs) (hk : k < takes f.bs.length) (ho : f.old k = some o) (hl : o.length = 64) (h : keeps keep (i + cnt f.old k) = false) :
    splice (gone f keep i k) (64 * k) o = gone f keep i (k + 1) := by
  refine ext_gd ?_ fun p hp => ?_
  · rw [length_splice _ _ _ (by rw [gone_len]; omega), gone_len, gone_len]
  · rw [length_splice _ _ _ (by rw [gone_len]; omega), gone_len] at hp
    rw [gd_splice _ _ _ (by rw [gone_len]; omega), gd_gone _ _ _ _ _ hp, gd_gone _ _ _ _ _ hp, hl]
    by_cases h1 : 64 * k ≤ p ∧ p < 64 * k + 64
    · have h2 : p / 64 = k := by omega
      rw [if_pos h1, if_pos (by omega), lost, h2, ho]
      simp only [h, Bool.false_eq_true, if_false]
      congr 1
      omega
    · rw [if_neg h1]
      by_cases h2 : p / 64 < k
      · rw [if_pos h2, if_pos (by omega)]
      · rw [if_neg h2, if_neg (by omega)]
theorem cr_raw (f : Fl) (keep i : Nat) (r : Raw) (hr : r = ⟨f.bs.length, f.stamp, takes f.bs.length, gone f keep i (takes f.bs.length), fun _ => none⟩) : r.blank = rawOf (cr f keep i) := by
  subst hr
  have hL : ((List.range f.bs.length).map (lost f keep i)).length = f.bs.length := by simp
  refine Raw.same (show f.bs.length = _ from hL.symm) rfl (show takes f.bs.length = takes (cr f keep i).bs.length by show _ = takes ((List.range f.bs.length).map (lost f keep i)).length; rw [hL]) ?_ rfl
  show _ = pad ((List.range f.bs.length).map (lost f keep i))
  by_cases h0 : f.bs.length % 64 = 0
  · rw [blank_fl0 _ (show f.bs.length % 64 = 0 from h0)]
    show gone f keep i (takes f.bs.length) = _
    refine ext_gd (by rw [gone_len, pad_len, hL]) fun p hp => ?_
    rw [gone_len] at hp
    have : 64 * takes f.bs.length = f.bs.length := by unfold takes; omega
    rw [gd_gone _ _ _ _ _ hp, gd_pad, gd_range, if_pos (by omega), if_pos (by omega)]
  · rw [blank_fl1 _ (show ¬ f.bs.length % 64 = 0 from h0)]
    have htp : takes f.bs.length = f.bs.length / 64 + 1 := by unfold takes; omega
    show splice (gone f keep i (takes f.bs.length)) (64 * (takes f.bs.length - 1) + f.bs.length % 64) (List.replicate (64 - f.bs.length % 64) 0) = _
    refine ext_gd ?_ fun p hp => ?_
    · rw [length_splice _ _ _ (by rw [gone_len, List.length_replicate]; omega), gone_len, pad_len, hL]
    · rw [length_splice _ _ _ (by rw [gone_len, List.length_replicate]; omega), gone_len] at hp
      rw [gd_splice _ _ _ (by rw [gone_len]; omega), gd_zeros, gd_gone _ _ _ _ _ hp, gd_pad, gd_range, List.length_replicate]
      by_cases h1 : p < f.bs.length
      · rw [if_neg (by omega), if_pos (by omega), if_pos h1]
      · rw [if_pos (by omega), if_neg h1]
end Go.Proofs.YtcdehklcdipcfaaGreat.vfsnum
/-
  A store of files: what its calls do, as plain functions. My own text.
-/
namespace Go.Proofs.YtcdehklcdipcfaaGreat.vfsnum
set_option linter.unusedVariables false

/-- a store: its files, in the order of their names -/
structure Fs where
  files : List (ByteArray × Fl)
  room : Nat
  stamp : Nat
  fuse : Int
  down : Bool
/-- may a byte stand in a name? -/
def okN (n : Nat) : Bool := decide ((97 ≤ n ∧ n ≤ 122) ∨ (48 ≤ n ∧ n ≤ 57) ∨ n = 46 ∨ n = 45 ∨ n = 47)
def okByte (c : UInt8) : Bool := okN c.toNat
def rightB (s : ByteArray) : Bool := decide (1 ≤ s.size) && decide (s.size ≤ 24) && s.data.toList.all okByte
/-- the order of names -/
def nlt (a b : ByteArray) : Bool := decide (a.data.toList < b.data.toList)
/-- a call is taken from the fuse; the store goes down -/
def Fs.burn (a : Fs) : Fs := { a with fuse := if 0 < a.fuse then a.fuse - 1 else a.fuse }
def Fs.fall (a : Fs) : Fs := { a with down := true }
def getF (l : List (ByteArray × Fl)) (n : ByteArray) : Option Fl := (l.find? fun p => decide (p.1 = n)).map (·.2)
def updF (l : List (ByteArray × Fl)) (n : ByteArray) (x : Fl) : List (ByteArray × Fl) := l.map fun p => if p.1 = n then (n, x) else p
def delF (l : List (ByteArray × Fl)) (n : ByteArray) : List (ByteArray × Fl) := l.filter fun p => decide (p.1 ≠ n)
def insF (l : List (ByteArray × Fl)) (n : ByteArray) (x : Fl) : List (ByteArray × Fl) := l.filter (fun p => nlt p.1 n) ++ (n, x) :: l.filter fun p => !nlt p.1 n
def noOld : Nat → Option Bs := fun _ => none
/-- the sectors of a file -/
def tk (x : Fl) : Nat := takes x.bs.length

def Fs.create (a : Fs) (n : ByteArray) : Int × Fs :=
  if a.down = true then (9, a) else if rightB n = false then (1, a) else if (getF a.files n).isSome = true then (7, a) else if a.fuse = 0 then (9, a.fall)
  else (0, { a.burn with files := insF a.files n ⟨[], a.stamp + 1, noOld⟩, stamp := a.stamp + 1 })
def Fs.write (a : Fs) (n : ByteArray) (at_ : Int) (b : Bs) : Int × Fs :=
  if a.down = true then (9, a) else
  match getF a.files n with
  | none => (6, a)
  | some x => if at_ < 0 ∨ (x.bs.length : Int) < at_ then (1, a) else if a.room < takes (at_.toNat + b.length) - tk x then (8, a) else if b.length = 0 then (0, a) else if a.fuse = 0 then (9, a.fall)
    else (0, { a.burn with files := updF a.files n { wrt x at_.toNat b with stamp := a.stamp + 1 }, room := a.room - (takes (at_.toNat + b.length) - tk x), stamp := a.stamp + 1 })
def Fs.cut (a : Fs) (n : ByteArray) (m : Int) : Int × Fs :=
  if a.down = true then (9, a) else
  match getF a.files n with
  | none => (6, a)
  | some x => if m < 0 ∨ (x.bs.length : Int) < m then (1, a) else if a.fuse = 0 then (9, a.fall)
    else (0, { a.burn with files := updF a.files n { ct x m.toNat with stamp := a.stamp + 1 }, room := a.room + (tk x - takes m.toNat), stamp := a.stamp + 1 })
/-- a file is gone, if it is there -/
def Fs.remove (a : Fs) (n : ByteArray) : Fs := { a with files := delF a.files n, room := a.room + match getF a.files n with | some x => tk x | none => 0 }
def Fs.rename (a : Fs) (n m : ByteArray) : Int × Fs :=
  if a.down = true then (9, a) else
  match getF a.files n with
  | none => (6, a)
  | some x => if rightB m = false ∨ m = n then (1, a) else if a.fuse = 0 then (9, a.fall)
    else (0, { a.burn.remove m with files := insF (delF (delF a.files m) n) m { x with stamp := a.stamp + 1 }, stamp := a.stamp + 1 })
def Fs.delete (a : Fs) (n : ByteArray) : Int × Fs :=
  if a.down = true then (9, a) else
  match getF a.files n with
  | none => (6, a)
  | some x => if a.fuse = 0 then (9, a.fall) else (0, a.burn.remove n)
def Fs.sync (a : Fs) (n : ByteArray) : Int × Fs :=
  if a.down = true then (9, a) else
  match getF a.files n with
  | none => (6, a)
  | some x => if a.fuse = 0 then (9, a.fall) else (0, { a.burn with files := updF a.files n { x with old := noOld } })
/-- what a crash leaves of files; i sectors that wait are ahead of them -/
def crF (keep : Nat) : List (ByteArray × Fl) → Nat → List (ByteArray × Fl)
  | [], _ => []
  | p :: r, i => (p.1, cr p.2 keep i) :: crF keep r (i + cnt p.2.old (tk p.2))
def Fs.crash (a : Fs) (keep : Nat) : Fs := { a with files := crF keep a.files 0, fuse := -1, down := false }
def Fs.waits (a : Fs) : Nat := (a.files.map fun p => cnt p.2.old (tk p.2)).sum

/-- what holds of every store -/
def FlOk (f : Fl) : Prop := f.bs.length ≤ 4194304 ∧ ∀ k o, f.old k = some o → k < takes f.bs.length ∧ o.length = 64
structure FsOk (a : Fs) : Prop where
  names : ∀ p ∈ a.files, rightB p.1 = true
  sorted : a.files.Pairwise fun p q => nlt p.1 q.1 = true
  fls : ∀ p ∈ a.files, FlOk p.2
  sum : a.room + (a.files.map fun p => tk p.2).sum ≤ 65536
  fuse1 : -1 ≤ a.fuse
  fuse2 : a.fuse ≤ 9223372036854775807

theorem nlt_irrefl (a : ByteArray) : nlt a a = false := by unfold nlt; simp
theorem nlt_trans {a b c : ByteArray} (h : nlt a b = true) (k : nlt b c = true) : nlt a c = true := by
  unfold nlt at *
  simp only [decide_eq_true_eq] at *
  exact List.lt_trans h k
theorem nlt_ne {a b : ByteArray} (h : nlt a b = true) : a ≠ b := fun e => by subst e; rw [nlt_irrefl] at h; cases h
theorem nlt_total {a b : ByteArray} (h : a ≠ b) : nlt a b = true ∨ nlt b a = true := by
  unfold nlt
  simp only [decide_eq_true_eq]
  have hne : a.data.toList ≠ b.data.toList := fun e => h (by cases a; cases b; simp at e; rw [e])
  by_cases h1 : a.data.toList < b.data.toList
  · exact .inl h1
  · by_cases h2 : b.data.toList < a.data.toList
    · exact .inr h2
    · exact absurd (List.le_antisymm (List.not_lt.1 h2) (List.not_lt.1 h1)) hne
theorem right_size {s : ByteArray} (h : rightB s = true) : 1 ≤ s.size ∧ s.size ≤ 24 := by
  unfold rightB at h
  simp only [Bool.and_eq_true, decide_eq_true_eq] at h
  exact h.1

def Apart (l : List (ByteArray × Fl)) : Prop := l.Pairwise fun p q => p.1 ≠ q.1
theorem apart_of_sorted {l : List (ByteArray × Fl)} (h : l.Pairwise fun p q => nlt p.1 q.1 = true) : Apart l := h.imp nlt_ne
theorem getF_some {l : List (ByteArray × Fl)} {n : ByteArray} {x : Fl} (h : getF l n = some x) : (n, x) ∈ l := by
  unfold getF at h
  rw [Option.map_eq_some_iff] at h
  obtain ⟨p, hp, rfl⟩ := h
  have h1 := List.find?_some hp
  simp only [decide_eq_true_eq] at h1
  have h2 := List.mem_of_find?_eq_some hp
  rw [← h1]
  exact h2
theorem getF_none {l : List (ByteArray × Fl)} {n : ByteArray} (h : getF l n = none) : ∀ p ∈ l, p.1 ≠ n := by
  unfold getF at h
  rw [Option.map_eq_none_iff, List.find?_eq_none] at h
  intro p hp e
  exact h p hp (by simp [e])
theorem getF_mem {l : List (ByteArray × Fl)} (ha : Apart l) {n : ByteArray} {x : Fl} (h : (n, x) ∈ l) : getF l n = some x := by
  cases hg : getF l n with
  | none => exact absurd rfl (getF_none hg (n, x) h)
  | some y =>
    have hy := getF_some hg
    congr 1
    by_cases e : y = x
    · exact e
    · exfalso
      have hne : ((n, y) : ByteArray × Fl) ≠ (n, x) := fun h => e (Prod.mk.inj h).2
      obtain ⟨s, t, hst⟩ := List.append_of_mem hy
      rw [hst] at h ha
      unfold Apart at ha
      rw [List.pairwise_append] at ha
      rcases List.mem_append.1 h with h1 | h1
      · exact ha.2.2 _ h1 (n, y) (by simp) rfl
      · rcases List.mem_cons.1 h1 with h2 | h2
        · exact hne h2.symm
        · exact (List.pairwise_cons.1 ha.2.1).1 _ h2 rfl
end Go.Proofs.YtcdehklcdipcfaaGreat.vfsnum
