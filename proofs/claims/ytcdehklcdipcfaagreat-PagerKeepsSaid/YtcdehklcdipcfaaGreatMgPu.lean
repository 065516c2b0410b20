import Derived.Test.YtcdehklcdipcfaaGreatPgrSto
import Derived.Test.YtcdehklcdipcfaaGreatVfsOps5
import Derived.Test.YtcdehklcdipcfaaGreatPgrBat2
/- Several of my own texts, one behind the other. -/
/-
  What saving does to the two files, where no fuse burns: plain mathematics. My own text.
-/
namespace Go.Proofs.YtcdehklcdipcfaaGreat.pgr
open Go.Proofs.YtcdehklcdipcfaaGreat.num Go.Proofs.YtcdehklcdipcfaaGreat.pagn Go.Proofs.YtcdehklcdipcfaaGreat.waln Go.Proofs.YtcdehklcdipcfaaGreat.vfs
open Go.Proofs.YtcdehklcdipcfaaGreat.vfsnum hiding Bs
set_option linter.unusedVariables false

theorem getF_upd {l : List (ByteArray × Fl)} {n : ByteArray} {x y : Fl} (h : getF l n = some x) : getF (updF l n y) n = some y := by
  unfold getF updF at *
  induction l with
  | nil => simp at h
  | cons p r ih =>
    by_cases e : p.1 = n
    · simp [e]
    · rw [List.map_cons, if_neg e, List.find?_cons_of_neg (by simpa using e)]
      rw [List.find?_cons_of_neg (by simpa using e)] at h
      exact ih h
theorem getF_upd_ne {l : List (ByteArray × Fl)} {n m : ByteArray} {y : Fl} (h : m ≠ n) : getF (updF l n y) m = getF l m := by
  unfold getF updF
  induction l with
  | nil => rfl
  | cons p r ih =>
    rw [List.map_cons]
    by_cases e : p.1 = n
    · rw [if_pos e, List.find?_cons_of_neg (by simpa using Ne.symm h), List.find?_cons_of_neg (by simpa [e] using Ne.symm h)]
      exact ih
    · rw [if_neg e]
      by_cases e2 : p.1 = m
      · rw [List.find?_cons_of_pos (by simpa using e2), List.find?_cons_of_pos (by simpa using e2)]
      · rw [List.find?_cons_of_neg (by simpa using e2), List.find?_cons_of_neg (by simpa using e2)]
        exact ih
/-- the two files of a pager, in a store of T sectors that is up and has no fuse -/
structure Cv (a : Fs) (D L : Bs) (T : Nat) : Prop where
  ok : FsOk a
  up : a.down = false
  fuse : a.fuse = -1
  db : ∃ x, getF a.files dbN = some x ∧ x.bs = D
  log : ∃ y, getF a.files logN = some y ∧ y.bs = L
  room : a.room + takes D.length + takes L.length = T
def wrtB (D : Bs) (t : Nat) (b : Bs) : Bs := D.take t ++ (b ++ D.drop (t + b.length))
theorem wrtB_len (D : Bs) (t : Nat) (b : Bs) (h : t ≤ D.length) : (wrtB D t b).length = max D.length (t + b.length) := by simp [wrtB]; omega
theorem takes_mono {a b : Nat} (h : a ≤ b) : takes a ≤ takes b := by unfold takes; omega
theorem Cv.write_db {a : Fs} {D L : Bs} {T t : Nat} {b : Bs} (h : Cv a D L T) (ht : t ≤ D.length) (hb : b.length ≠ 0) (hT : takes (max D.length (t + b.length)) + takes L.length ≤ T) : ∃ a', a.write dbN t b = (0, a') ∧ Cv a' (wrtB D t b) L T := by
  obtain ⟨hok, hup, hfu, ⟨x, hx, rfl⟩, ⟨y, hy, rfl⟩, hr⟩ := h
  have hok' := write_ok (n := dbN) (t := t) (b := b) hok
  have hnd : ¬ a.down = true := by rw [hup]; simp
  have hm1 := takes_mono (Nat.le_max_right x.bs.length (t + b.length))
  have hm2 := takes_mono (Nat.le_max_left x.bs.length (t + b.length))
  have e : a.write dbN t b = (0, { a.burn with files := updF a.files dbN { wrt x t b with stamp := a.stamp + 1 }, room := a.room - (takes (t + b.length) - tk x), stamp := a.stamp + 1 }) := by
    unfold Fs.write
    rw [if_neg hnd, hx]
    simp only [Int.toNat_natCast]
    rw [if_neg (by omega), if_neg (by unfold tk; omega), if_neg hb, if_neg (by rw [hfu]; omega)]
  rw [e] at hok'
  refine ⟨_, e, hok', hup, ?_, ⟨_, getF_upd hx, rfl⟩, ⟨y, ?_, rfl⟩, ?_⟩
  · show (if 0 < a.fuse then a.fuse - 1 else a.fuse) = -1
    rw [hfu]; rfl
  · rw [getF_upd_ne (Ne.symm names_ne)]; exact hy
  · show a.room - (takes (t + b.length) - tk x) + takes (wrtB x.bs t b).length + takes y.bs.length = T
    rw [wrtB_len _ _ _ ht]
    unfold tk
    rcases Nat.le_total x.bs.length (t + b.length) with hh | hh
    · rw [Nat.max_eq_right hh] at hm1 hm2 hT ⊢; omega
    · rw [Nat.max_eq_left hh] at hm1 hm2 hT ⊢; omega
theorem Cv.write_log {a : Fs} {D L : Bs} {T t : Nat} {b : Bs} (h : Cv a D L T) (ht : t ≤ L.length) (hb : b.length ≠ 0) (hT : takes D.length + takes (max L.length (t + b.length)) ≤ T) : ∃ a', a.write logN t b = (0, a') ∧ Cv a' D (wrtB L t b) T := by
  obtain ⟨hok, hup, hfu, ⟨x, hx, rfl⟩, ⟨y, hy, rfl⟩, hr⟩ := h
  have hok' := write_ok (n := logN) (t := t) (b := b) hok
  have hnd : ¬ a.down = true := by rw [hup]; simp
  have hm1 := takes_mono (Nat.le_max_right y.bs.length (t + b.length))
  have hm2 := takes_mono (Nat.le_max_left y.bs.length (t + b.length))
  have e : a.write logN t b = (0, { a.burn with files := updF a.files logN { wrt y t b with stamp := a.stamp + 1 }, room := a.room - (takes (t + b.length) - tk y), stamp := a.stamp + 1 }) := by
    unfold Fs.write
    rw [if_neg hnd, hy]
    simp only [Int.toNat_natCast]
    rw [if_neg (by omega), if_neg (by unfold tk; omega), if_neg hb, if_neg (by rw [hfu]; omega)]
  rw [e] at hok'
  refine ⟨_, e, hok', hup, ?_, ⟨x, ?_, rfl⟩, ⟨_, getF_upd hy, rfl⟩, ?_⟩
  · show (if 0 < a.fuse then a.fuse - 1 else a.fuse) = -1
    rw [hfu]; rfl
  · rw [getF_upd_ne names_ne]; exact hx
  · show a.room - (takes (t + b.length) - tk y) + takes x.bs.length + takes (wrtB y.bs t b).length = T
    rw [wrtB_len _ _ _ ht]
    unfold tk
    rcases Nat.le_total y.bs.length (t + b.length) with hh | hh
    · rw [Nat.max_eq_right hh] at hm1 hm2 hT ⊢; omega
    · rw [Nat.max_eq_left hh] at hm1 hm2 hT ⊢; omega
theorem Cv.sync {a : Fs} {D L : Bs} {T : Nat} (h : Cv a D L T) {n : ByteArray} (hn : n = dbN ∨ n = logN) : ∃ a', a.sync n = (0, a') ∧ Cv a' D L T := by
  obtain ⟨hok, hup, hfu, ⟨x, hx, rfl⟩, ⟨y, hy, rfl⟩, hr⟩ := h
  have hok' := sync_ok (n := n) hok
  have hnd : ¬ a.down = true := by rw [hup]; simp
  have hfb : (if 0 < a.fuse then a.fuse - 1 else a.fuse) = -1 := by rw [hfu]; rfl
  rcases hn with rfl | rfl
  · have e : a.sync dbN = (0, { a.burn with files := updF a.files dbN { x with old := noOld } }) := by
      unfold Fs.sync; rw [if_neg hnd, hx]; simp only []; rw [if_neg (by rw [hfu]; omega)]
    rw [e] at hok'
    exact ⟨_, e, hok', hup, hfb, ⟨_, getF_upd hx, rfl⟩, ⟨y, by rw [getF_upd_ne (Ne.symm names_ne)]; exact hy, rfl⟩, hr⟩
  · have e : a.sync logN = (0, { a.burn with files := updF a.files logN { y with old := noOld } }) := by
      unfold Fs.sync; rw [if_neg hnd, hy]; simp only []; rw [if_neg (by rw [hfu]; omega)]
    rw [e] at hok'
    exact ⟨_, e, hok', hup, hfb, ⟨x, by rw [getF_upd_ne names_ne]; exact hx, rfl⟩, ⟨_, getF_upd hy, rfl⟩, hr⟩
theorem Cv.cut {a : Fs} {D L : Bs} {T : Nat} (h : Cv a D L T) : ∃ a', a.cut logN 0 = (0, a') ∧ Cv a' D [] T := by
  obtain ⟨hok, hup, hfu, ⟨x, hx, rfl⟩, ⟨y, hy, rfl⟩, hr⟩ := h
  have hok' := cut_ok (n := logN) (t := 0) hok
  have hnd : ¬ a.down = true := by rw [hup]; simp
  have e : a.cut logN 0 = (0, { a.burn with files := updF a.files logN { ct y 0 with stamp := a.stamp + 1 }, room := a.room + (tk y - takes 0), stamp := a.stamp + 1 }) := by
    unfold Fs.cut
    rw [if_neg hnd, hy]
    simp only []
    rw [if_neg (by omega), if_neg (by rw [hfu]; omega)]
    rfl
  rw [e] at hok'
  refine ⟨_, e, hok', hup, ?_, ⟨x, by rw [getF_upd_ne names_ne]; exact hx, rfl⟩, ⟨_, getF_upd hy, by simp [ct]⟩, ?_⟩
  · show (if 0 < a.fuse then a.fuse - 1 else a.fuse) = -1
    rw [hfu]; rfl
  · show a.room + (tk y - takes 0) + takes x.bs.length + takes 0 = T
    unfold tk takes at *
    omega
theorem Cv.note {a : Fs} {D L : Bs} {T t : Nat} {b : Bs} (h : Cv a D L T) (ht : t ≤ L.length) (hb : b.length ≠ 0) (hT : takes D.length + takes (max L.length (t + b.length)) ≤ T) : ∃ a', noteF a t b = (0, a') ∧ Cv a' D (wrtB L t b) T := by
  obtain ⟨a1, h1, h2⟩ := h.write_log ht hb hT
  obtain ⟨a2, h3, h4⟩ := h2.sync (.inr rfl)
  exact ⟨a2, by unfold noteF; rw [h1]; simp only [if_true]; exact h3, h4⟩
/-- what pages that are written one behind the other make of the file -/
def pagesB (D : Bs) : List Pg → Bs
  | [] => D
  | p :: r => pagesB (wrtB D (p.1.toNat * 512) p.2) r
/-- each of them stands in the file, or just behind it -/
def fitsB : Nat → List Pg → Prop
  | _, [] => True
  | n, p :: r => 0 ≤ p.1 ∧ p.2.length = 512 ∧ p.1.toNat ≤ n ∧ fitsB (max n (p.1.toNat + 1)) r
def lastB : Nat → List Pg → Nat
  | n, [] => n
  | n, p :: r => lastB (max n (p.1.toNat + 1)) r
theorem lastB_le (l : List Pg) : ∀ n, n ≤ lastB n l := by
  induction l with
  | nil => intro n; exact Nat.le_refl _
  | cons p r ih => intro n; exact Nat.le_trans (Nat.le_max_left _ _) (ih _)
theorem Cv.pages (l : List Pg) : ∀ {a : Fs} {D L : Bs} {T n : Nat}, Cv a D L T → D.length = 512 * n → fitsB n l → takes (512 * lastB n l) + takes L.length ≤ T →
    ∃ a', pagesF a l = (0, a') ∧ Cv a' (pagesB D l) L T ∧ (pagesB D l).length = 512 * lastB n l := by
  induction l with
  | nil => intro a D L T n h hn _ _; exact ⟨a, rfl, h, hn⟩
  | cons p r ih =>
    intro a D L T n h hn hf hT
    obtain ⟨h0, hl, hk, hr⟩ := hf
    have hle := lastB_le r (max n (p.1.toNat + 1))
    have hlast : lastB n (p :: r) = lastB (max n (p.1.toNat + 1)) r := rfl
    rw [hlast] at hT
    have hmx : max D.length (p.1.toNat * 512 + p.2.length) = 512 * max n (p.1.toNat + 1) := by rw [hn, hl]; omega
    obtain ⟨a1, e1, c1⟩ := h.write_db (t := p.1.toNat * 512) (b := p.2) (by omega) (by omega) (by rw [hmx]; have := takes_mono (show 512 * max n (p.1.toNat + 1) ≤ 512 * lastB (max n (p.1.toNat + 1)) r by omega); omega)
    have hlen := wrtB_len D (p.1.toNat * 512) p.2 (by omega)
    rw [hmx] at hlen
    obtain ⟨a2, e2, c2, l2⟩ := ih c1 hlen hr hT
    refine ⟨a2, ?_, c2, l2⟩
    unfold pagesF
    have hz : ((p.1.toNat * 512 : Nat) : Int) = p.1 * 512 := by omega
    rw [← hz, e1]
    simp only [if_true]
    exact e2
theorem Cv.save {a : Fs} {D : Bs} {T n : Nat} {l : List Pg} (h : Cv a D [] T) (hn : D.length = 512 * n) (hf : fitsB n l) (hr : right l = true) (hT : takes (512 * lastB n l) + takes (12 + 516 * l.length + 4) ≤ T) :
    ∃ a', saveF a l = (0, a') ∧ Cv a' (pagesB D l) [] T ∧ (pagesB D l).length = 512 * lastB n l := by
  have hb := batch_len l (right_all hr).1
  have hle := lastB_le l n
  have hm1 := takes_mono (show 512 * n ≤ 512 * lastB n l by omega)
  have hm2 := takes_mono (show 12 + 516 * l.length ≤ 12 + 516 * l.length + 4 by omega)
  obtain ⟨a1, e1, c1⟩ := h.note (t := 0) (b := batch l) (Nat.zero_le _) (by omega) (by rw [hn, hb]; simp; omega)
  have hw : wrtB [] 0 (batch l) = batch l := by simp [wrtB]
  rw [hw] at c1
  obtain ⟨a2, e2, c2⟩ := c1.note (t := (batch l).length) (b := done4) (Nat.le_refl _) (by decide) (by rw [hn, hb]; have : done4.length = 4 := rfl; rw [this, Nat.max_eq_right (by omega)]; omega)
  have hlg : (wrtB (batch l) (batch l).length done4).length = 12 + 516 * l.length + 4 := by rw [wrtB_len _ _ _ (Nat.le_refl _), hb]; have : done4.length = 4 := rfl; omega
  obtain ⟨a3, e3, c3, l3⟩ := Cv.pages l c2 hn hf (by rw [hlg]; exact hT)
  obtain ⟨a4, e4, c4⟩ := c3.sync (.inl rfl)
  obtain ⟨a5, e5, c5⟩ := c4.cut
  refine ⟨a5, ?_, c5, l3⟩
  unfold saveF
  rw [e1]
  simp only [if_true]
  rw [e2]
  simp only [if_true]
  unfold writeF
  rw [e3]
  simp only [if_true]
  unfold syncF
  rw [e4]
  simp only [if_true]
  exact e5
end Go.Proofs.YtcdehklcdipcfaaGreat.pgr
/-
  The pages of a file, and a batch of them: plain mathematics. My own text.
-/
namespace Go.Proofs.YtcdehklcdipcfaaGreat.pgr
open Go.Proofs.YtcdehklcdipcfaaGreat.num Go.Proofs.YtcdehklcdipcfaaGreat.pagn Go.Proofs.YtcdehklcdipcfaaGreat.waln Go.Proofs.YtcdehklcdipcfaaGreat.pgrp
open Go.Proofs.YtcdehklcdipcfaaGreat.vfsnum hiding Bs
set_option linter.unusedVariables false

def setC (C : List Bs) (i : Nat) (b : Bs) : List Bs := if i < C.length then C.set i b else C ++ [b]
def foldC (C : List Bs) : List Ent → List Bs
  | [] => C
  | e :: r => foldC (setC C e.1 e.2) r
def pgsE (E : List Ent) : List Pg := E.map fun e => ((e.1 : Int), page e.1 e.2)
theorem setC_len (C : List Bs) (i : Nat) (b : Bs) (h : i ≤ C.length) : (setC C i b).length = max C.length (i + 1) := by
  unfold setC
  split
  · rw [List.length_set]; omega
  · rw [List.length_append]; simp; omega
theorem setC_all {C : List Bs} {i : Nat} {b : Bs} (h : All508 C) (hb : b.length = 508) : All508 (setC C i b) := by
  unfold setC
  intro f hf
  split at hf
  · rcases List.mem_or_eq_of_mem_set hf with hf | rfl
    · exact h f hf
    · exact hb
  · rcases List.mem_append.1 hf with hf | hf
    · exact h f hf
    · rw [List.mem_singleton] at hf; subst hf; exact hb
theorem setC_at (C : List Bs) (i j : Nat) (b : Bs) (h : i ≤ C.length) : (setC C i b)[j]? = if j = i then some b else C[j]? := by
  unfold setC
  by_cases hi : i < C.length
  · rw [if_pos hi, List.getElem?_set]
    by_cases hj : i = j
    · subst hj; rw [if_pos rfl, if_pos hi, if_pos rfl]
    · rw [if_neg hj, if_neg (Ne.symm hj)]
  · rw [if_neg hi, List.getElem?_append]
    have : C.length = i := by omega
    by_cases hj : j = i
    · rw [if_neg (by omega), if_pos hj, this, hj, Nat.sub_self]; rfl
    · rw [if_neg hj]
      by_cases hl : j < C.length
      · rw [if_pos hl]
      · rw [if_neg hl, List.getElem?_eq_none (by simp; omega), List.getElem?_eq_none (by omega)]
theorem flat_set (C : List Bs) (i : Nat) (b : Bs) (h : i ≤ C.length) (ha : All508 C) (hb : b.length = 508) : wrtB (flat 0 C) (i * 512) (page i b) = flat 0 (setC C i b) := by
  have hpl := page_length i b hb
  have e : C = C.take i ++ C.drop i := (List.take_append_drop i C).symm
  have h1 : All508 (C.take i) := fun g hg => ha g (List.mem_of_mem_take hg)
  have hl := flat_len (C.take i) 0 h1
  rw [List.length_take, Nat.min_eq_left h] at hl
  have hfa : flat 0 C = flat 0 (C.take i) ++ flat i (C.drop i) := by
    conv => lhs; rw [e]
    rw [flat_app, List.length_take, Nat.min_eq_left h, Nat.zero_add]
  unfold wrtB
  rw [hfa, List.take_left' (by rw [hl]; omega), hpl, List.drop_append, List.drop_of_length_le (by rw [hl]; omega), List.nil_append, hl, show i * 512 + 512 - 512 * i = 512 by omega]
  unfold setC
  by_cases hi : i < C.length
  · rw [if_pos hi]
    have hd : C.drop i = C[i] :: C.drop (i + 1) := List.drop_eq_getElem_cons hi
    have hpc : (page i C[i]).length = 512 := page_length i _ (ha _ (List.getElem_mem hi))
    rw [hd, flat, List.drop_left' hpc]
    have hs : C.set i b = C.take i ++ b :: C.drop (i + 1) := by
      rw [List.set_eq_take_append_cons_drop, if_pos hi]
    rw [hs, flat_app, List.length_take, Nat.min_eq_left h, Nat.zero_add, flat]
  · have : i = C.length := by omega
    subst this
    rw [if_neg hi, List.drop_of_length_le (Nat.le_refl _), List.take_of_length_le (Nat.le_refl _), flat_app, Nat.zero_add]
    simp [flat]
theorem pages_fold (E : List Ent) : ∀ (C : List Bs), All508 C → (∀ e ∈ E, e.2.length = 508) → fitsB C.length (pgsE E) →
    pagesB (flat 0 C) (pgsE E) = flat 0 (foldC C E) ∧ All508 (foldC C E) ∧ (foldC C E).length = lastB C.length (pgsE E) := by
  induction E with
  | nil => intro C h _ _; exact ⟨rfl, h, rfl⟩
  | cons e r ih =>
    intro C h hE hf
    obtain ⟨h0, hl, hk, hr⟩ := hf
    simp only [Int.toNat_natCast] at hk hr
    have hb := hE e (by simp)
    have hs := setC_len C e.1 e.2 hk
    rw [← hs] at hr
    obtain ⟨i1, i2, i3⟩ := ih (setC C e.1 e.2) (setC_all h hb) (fun x hx => hE x (by simp [hx])) hr
    refine ⟨?_, i2, ?_⟩
    · show pagesB (wrtB (flat 0 C) ((e.1 : Int).toNat * 512) (page e.1 e.2)) (pgsE r) = _
      rw [Int.toNat_natCast, flat_set C e.1 e.2 hk h hb]
      exact i1
    · show (foldC (setC C e.1 e.2) r).length = lastB (max C.length ((e.1 : Int).toNat + 1)) (pgsE r)
      rw [i3, hs, Int.toNat_natCast]
theorem foldC_at (E : List Ent) : ∀ (C : List Bs) (j : Nat), fitsB C.length (pgsE E) → EntNd E → (foldC C E)[j]? = match lookE E j with | some b => some b | none => C[j]? := by
  induction E with
  | nil => intro C j _ _; rfl
  | cons e r ih =>
    intro C j hf hn
    obtain ⟨h0, hl, hk, hr⟩ := hf
    simp only [Int.toNat_natCast] at hk hr
    have hs := setC_len C e.1 e.2 hk
    rw [← hs] at hr
    have hn2 := List.pairwise_cons.1 hn
    show (foldC (setC C e.1 e.2) r)[j]? = _
    rw [ih _ j hr hn2.2]
    by_cases hj : e.1 = j
    · have hlk : lookE (e :: r) j = some e.2 := by unfold lookE; rw [List.find?_cons_of_pos (by simpa using hj)]; rfl
      have hno : lookE r j = none := by
        unfold lookE
        rw [Option.map_eq_none_iff, List.find?_eq_none]
        intro x hx
        have := hn2.1 x hx
        simp; omega
      rw [hlk, hno, setC_at _ _ _ _ hk, if_pos hj.symm]
    · have hlk : lookE (e :: r) j = lookE r j := by unfold lookE; rw [List.find?_cons_of_neg (by simpa using hj)]
      rw [hlk]
      cases lookE r j with
      | some b => rfl
      | none => simp only []; rw [setC_at _ _ _ _ hk, if_neg (Ne.symm hj)]
/-- what a commit writes, as numbers and bytes -/
def entE (m : Mm) : List Ent := (0, hdB m.hd) :: ((sortN m.ch).filter fun z => decide (z ≠ 0)).map fun z => (z.toNat, (lookE m.ch z.toNat).getD [])
theorem sortN_nat {ch : List Ent} {z : Int} (h : z ∈ sortN ch) : ((z.toNat : Nat) : Int) = z := by
  obtain ⟨e, _, rfl⟩ := mem_sortN h
  simp
theorem batchL_ent (m : Mm) : batchL m = pgsE (entE m) := by
  unfold batchL entE pgsE
  rw [List.map_cons, List.map_map]
  congr 1
  refine List.map_congr_left fun z hz => ?_
  have := sortN_nat (List.mem_filter.1 hz).1
  simp only [Function.comp, batR, this]
theorem sortN_lt (ch : List Ent) (hn : EntNd ch) : (sortN ch).Pairwise fun x y => x < y := by
  have h1 := sortN_sorted ch
  have h2 : (sortN ch).Pairwise fun x y => x ≠ y := by
    have : (noS ch).Pairwise fun x y => x ≠ y := by
      unfold noS
      rw [List.pairwise_map]
      exact hn.imp fun h => by omega
    exact ((sortN_perm ch).symm.pairwise_iff (fun {a b} h => Ne.symm h)).1 this
  exact (h1.and h2).imp fun ⟨a, b⟩ => by omega
theorem mem_sortN' {ch : List Ent} {e : Ent} (h : e ∈ ch) : ((e.1 : Nat) : Int) ∈ sortN ch := (sortN_perm ch).mem_iff.2 (List.mem_map.2 ⟨e, h, rfl⟩)
theorem fits_of (many : Nat) : ∀ (l : List Int) (f : Int → Pg) (n : Nat), (∀ z ∈ l, (f z).1 = z ∧ (f z).2.length = 512 ∧ 0 ≤ z ∧ z < many) → l.Pairwise (fun x y => x < y) → (∀ j : Nat, n ≤ j → j < many → (j : Int) ∈ l) → n ≤ many → fitsB n (l.map f) ∧ lastB n (l.map f) = many := by
  intro l
  induction l with
  | nil =>
    intro f n _ _ hc hn
    refine ⟨trivial, ?_⟩
    show n = many
    rcases Nat.lt_or_ge n many with h | h
    · have := hc n (Nat.le_refl _) h; cases this
    · omega
  | cons z r ih =>
    intro f n hz hp hc hn
    obtain ⟨z1, z2, z3, z4⟩ := hz z (by simp)
    have hp2 := List.pairwise_cons.1 hp
    have hle : z.toNat ≤ n := by
      rcases Nat.lt_or_ge n z.toNat with h | h
      · exfalso
        have hm := hc n (Nat.le_refl _) (by omega)
        rcases List.mem_cons.1 hm with h1 | h1
        · omega
        · have := hp2.1 _ h1; omega
      · exact h
    have hi := ih f (max n (z.toNat + 1)) (fun y hy => hz y (by simp [hy])) hp2.2 (fun j h1 h2 => by
      have hm := hc j (by omega) h2
      rcases List.mem_cons.1 hm with h | h
      · omega
      · exact h) (by omega)
    show (0 ≤ (f z).1 ∧ (f z).2.length = 512 ∧ (f z).1.toNat ≤ n ∧ fitsB (max n ((f z).1.toNat + 1)) (r.map f)) ∧ lastB (max n ((f z).1.toNat + 1)) (r.map f) = many
    rw [z1]
    exact ⟨⟨z3, z2, hle, hi.1⟩, hi.2⟩
end Go.Proofs.YtcdehklcdipcfaaGreat.pgr
