import Derived.Test.YtcmeoappddpmcaaDoorInfSpread
import Derived.Deep.RegionWith
import Derived.Scope
import Derived.WalkMore
import Derived.Deep.RegionHeld3
/- Several of my own texts, one behind the other. -/
/-
  The contract of codeOf. My own text.
-/
namespace Go.Proofs.YtcmeoappddpmcaaDoor.infp
open Go.RowKit Go.Proofs.YtcmeoappddpmcaaDoor.base Go.Proofs.YtcmeoappddpmcaaDoor.num Go.Proofs.YtcmeoappddpmcaaDoor.bitnum Go.Proofs.YtcmeoappddpmcaaDoor.bitp Go.Proofs.YtcmeoappddpmcaaDoor.huffnum Go.Proofs.YtcmeoappddpmcaaDoor.huffp Go.Proofs.YtcmeoappddpmcaaDoor.infnum
set_option linter.unusedVariables false

theorem nv_zs (ls : List Nat) : nv ls = (ls.map fun x : Nat => (x : Int)).map iv := by rw [List.map_map]; rfl
theorem zs_ls (ls : List Nat) : (ls.map fun x : Nat => (x : Int)).map Int.toNat = ls := by
  rw [List.map_map]
  exact List.map_id'' (fun x => by simp) ls
/-- huff.New of lengths that may be -/
def MadeIs (w : World) (ls : List Nat) (e : Ending) (w' : World) : Prop := ∃ g bl, e = .returned (.tuple #[ptr g, .int .i64 0]) ∧ CodeAt w' g ls bl ∧ Since w w' bl
theorem made_over (A : Option Addr) (n c : Nat) (ls : List Nat) (w : World) (B : Nat) (hr : Rd w B A n (nv ls)) (hB : B ≤ w.heap.size) (hn : n ≤ 320) (h15 : ∀ x ∈ ls, x ≤ 15) (ho : 32768 < tx ls 15) :
    Calls Tryd.prog 15 #[.slice A n c] w fun e w' => e = .returned (.tuple #[.pointer none, .int .i64 12]) ∧ Fresh w w' := by
  rw [nv_zs] at hr
  refine (new_any A n c _ w B hr hB hn).mono ?_
  rintro e w' (⟨⟨z, hz, hb⟩, _⟩ | ⟨_, _, he, hf⟩ | ⟨_, h, _⟩)
  · obtain ⟨x, hx, rfl⟩ := List.mem_map.1 hz
    have := h15 x hx; omega
  · exact ⟨he, hf⟩
  · rw [zs_ls] at h; omega
theorem made_ok (A : Option Addr) (n c : Nat) (ls : List Nat) (w : World) (B : Nat) (hr : Rd w B A n (nv ls)) (hB : B ≤ w.heap.size) (hn : n ≤ 320) (h15 : ∀ x ∈ ls, x ≤ 15) (ho : tx ls 15 ≤ 32768) :
    Calls Tryd.prog 15 #[.slice A n c] w (MadeIs w ls) := by
  rw [nv_zs] at hr
  refine (new_any A n c _ w B hr hB hn).mono ?_
  rintro e w' (⟨⟨z, hz, hb⟩, _⟩ | ⟨_, h, _⟩ | ⟨_, _, g, bl, he, hC, hS⟩)
  · obtain ⟨x, hx, rfl⟩ := List.mem_map.1 hz
    have := h15 x hx; omega
  · rw [zs_ls] at h; omega
  · rw [zs_ls] at hC
    exact ⟨g, bl, he, hC, hS⟩
theorem sum_more {ls : List Nat} {j x : Nat} (h : ls[j]? = some x) : (ls.take (j + 1)).sum = (ls.take j).sum + x := by
  rw [take_one_more _ _ _ h, List.sum_append]; simp
theorem sum_le {ls : List Nat} (h : ∀ x ∈ ls, x ≤ 15) : ls.sum ≤ 15 * ls.length := by
  induction ls with
  | nil => simp
  | cons a l ih =>
    have h1 := h a (by simp)
    have h2 := ih fun x hx => h x (List.mem_cons_of_mem _ hx)
    rw [List.sum_cons, List.length_cons]
    omega
/-- what codeOf tells -/
def CodeOfIs (w : World) (ls : List Nat) (none : Bool) (e : Ending) (w' : World) : Prop :=
  if mayBe ls none = false then e = .returned (.tuple #[.pointer Option.none, .int .i64 12]) ∧ Fresh w w' else MadeIs w ls e w'
end Go.Proofs.YtcmeoappddpmcaaDoor.infp
/-
  The contracts of fixedCodes, useFixed. My own text.
-/
namespace Go.Proofs.YtcmeoappddpmcaaDoor.infp
open Go.RowKit Go.Proofs.YtcmeoappddpmcaaDoor.base Go.Proofs.YtcmeoappddpmcaaDoor.num Go.Proofs.YtcmeoappddpmcaaDoor.bitnum Go.Proofs.YtcmeoappddpmcaaDoor.bitp Go.Proofs.YtcmeoappddpmcaaDoor.huffnum Go.Proofs.YtcmeoappddpmcaaDoor.huffp Go.Proofs.YtcmeoappddpmcaaDoor.infnum
set_option linter.unusedVariables false

/-- the fixed lengths, both codes' -/
def fx : List Nat := fixedLits ++ fixedDist
theorem fx_len : fx.length = 320 := by decide +kernel
theorem fx_at : ∀ j, j < 320 → fx.getD j 0 = if j < 144 then 8 else if j < 256 then 9 else if j < 280 then 7 else if j < 288 then 8 else 5 := by decide +kernel
theorem fx_lits : fx.take 288 = fixedLits := by decide +kernel
theorem fx_dist : fx.drop 288 = fixedDist := by decide +kernel
theorem fit_lits : Fit fixedLits := ⟨by decide +kernel, by decide +kernel⟩
theorem fit_dist : Fit fixedDist := ⟨by decide +kernel, by decide +kernel⟩
/-- the first j of them, then zeros -/
def fxj (j : Nat) : List Value := nv (fx.take j ++ List.replicate (320 - j) 0)
theorem fxj_len (j : Nat) (h : j ≤ 320) : (fxj j).length = 320 := by
  simp [fxj, fx_len]; omega
theorem fxj_get {j : Nat} (h : j < 320) : (fxj j)[j]? = some (iv 0) := by
  unfold fxj
  rw [List.getElem?_map, List.getElem?_append_right (by rw [List.length_take, fx_len]; omega), List.length_take, fx_len, Nat.min_eq_left (by omega), Nat.sub_self, List.getElem?_replicate, if_pos (by omega)]
  rfl
theorem fxj_set {j x : Nat} (h : j < 320) (hx : fx.getD j 0 = x) : (fxj j).set j (iv (x : Nat)) = fxj (j + 1) := by
  have hj : fx[j]? = some x := by
    have hl : j < fx.length := by rw [fx_len]; exact h
    rw [List.getElem?_eq_getElem hl]
    rw [List.getD_eq_getElem?_getD, List.getElem?_eq_getElem hl] at hx
    exact congrArg some hx
  unfold fxj
  rw [take_one_more _ _ _ hj, show (iv (x : Nat)) = (fun x : Nat => iv (x : Int)) x from rfl, ← List.map_set]
  congr 1
  rw [List.set_append_right _ _ (by rw [List.length_take, fx_len]; omega), List.length_take, fx_len, Nat.min_eq_left (by omega), Nat.sub_self, show 320 - j = (320 - (j + 1)) + 1 by omega, List.replicate_succ, List.set_cons_zero, List.append_assoc]
  rfl
theorem fxj_all : fxj 320 = nv fx := by
  unfold fxj
  rw [List.take_of_length_le (by rw [fx_len]; exact Nat.le_refl _)]
  simp
theorem fxj_none : fxj 0 = List.replicate 320 (iv 0) := by
  unfold fxj nv
  rw [List.take_zero, List.nil_append, Nat.sub_zero, List.map_replicate]
  rfl
theorem Bk.rd {w : World} {g off n : Nat} {T : TypeId} {cs : List Value} (h : Bk w g T cs) (hn : off + n ≤ cs.length) : Rd w w.heap.size (some ⟨g, off, none⟩) n ((cs.drop off).take n) := by
  refine ⟨by rw [List.length_take, List.length_drop]; omega, fun _ => ⟨g, off, rfl, h.inside, fun j u hu => ?_⟩⟩
  rw [List.getElem?_take] at hu
  split at hu
  · rw [List.getElem?_drop] at hu
    exact h.cell hu
  · cases hu
/-- the codes of kind 1, if one of its blocks has come -/
def FixAt (w : World) (v : V) : Prop := v.f0 = .pointer none ∨ ∃ s d sbl dbl, v.f0 = ptr s ∧ v.f1 = ptr d ∧ CodeAt w s fixedLits sbl ∧ CodeAt w d fixedDist dbl
section
variable {w : World} {g q p : Nat} {v : V} {bs : List UInt8} {rl : List Nat}
/-- codes that are used -/
def UseAt (w : World) (v : V) (a b : List Nat) : Prop := ∃ s d sbl dbl, v.sy = ptr s ∧ v.di = ptr d ∧ CodeAt w s a sbl ∧ CodeAt w d b dbl ∧ Fit a ∧ Fit b
end
end Go.Proofs.YtcmeoappddpmcaaDoor.infp
/-
  The contracts of takeCopy, takeSymbol. My own text.
-/
namespace Go.Proofs.YtcmeoappddpmcaaDoor.infp
open Go.RowKit Go.Proofs.YtcmeoappddpmcaaDoor.base Go.Proofs.YtcmeoappddpmcaaDoor.num Go.Proofs.YtcmeoappddpmcaaDoor.bitnum Go.Proofs.YtcmeoappddpmcaaDoor.bitp Go.Proofs.YtcmeoappddpmcaaDoor.huffnum Go.Proofs.YtcmeoappddpmcaaDoor.huffp Go.Proofs.YtcmeoappddpmcaaDoor.infnum
set_option linter.unusedVariables false

theorem also_ok {α β : Type} {f : Part α} {g : α → Part β} {U T p q : Nat} {a : α} (h : f U T p = .ok (a, q)) : also f g U T p = g a U T q := by unfold also; rw [h]
theorem also_no {α β : Type} {f : Part α} {g : α → Part β} {U T p e : Nat} (h : f U T p = .error e) : also f g U T p = .error e := by unfold also; rw [h]
section
variable {w : World} {g q p : Nat} {v : V} {bs : List UInt8} {rl : List Nat}
theorem not_zero {f : Part Nat} (hf : infnum.Good f) {U T p k : Nat} (h : f U T p = .error k) : ¬ (k : Int) = 0 := by
  rcases hf.ev _ _ _ _ h with h | h <;> omega

end
end Go.Proofs.YtcmeoappddpmcaaDoor.infp
/-
  The contract of takeSymbol. My own text.
-/
namespace Go.Proofs.YtcmeoappddpmcaaDoor.infp
open Go.RowKit Go.Proofs.YtcmeoappddpmcaaDoor.base Go.Proofs.YtcmeoappddpmcaaDoor.num Go.Proofs.YtcmeoappddpmcaaDoor.bitnum Go.Proofs.YtcmeoappddpmcaaDoor.bitp Go.Proofs.YtcmeoappddpmcaaDoor.huffnum Go.Proofs.YtcmeoappddpmcaaDoor.huffp Go.Proofs.YtcmeoappddpmcaaDoor.infnum
set_option linter.unusedVariables false

section
variable {w : World} {g q p : Nat} {v : V} {bs : List UInt8} {rl : List Nat}
theorem also_of {α β : Type} {f : Part α} {g : α → Part β} {U T p q : Nat} {b : β} (h : also f g U T p = .ok (b, q)) : ∃ a m, f U T p = .ok (a, m) ∧ g a U T m = .ok (b, q) := by
  cases hf : f U T p with
  | error e => rw [also_no hf] at h; cases h
  | ok x =>
    obtain ⟨a, m⟩ := x
    rw [also_ok hf] at h
    exact ⟨a, m, rfl, h⟩
theorem copyP_pos {k n : Nat} {b : List Nat} {U T p l f p' : Nat} (h : copyP k n b U T p = .ok ((l, f), p')) : l ≠ 0 ∧ f ≠ 0 := by
  unfold copyP at h
  obtain ⟨a, m, _, h⟩ := also_of h
  obtain ⟨d, m2, _, h⟩ := also_of h
  split at h
  · cases h
  · obtain ⟨f2, m3, _, h⟩ := also_of h
    split at h
    · cases h
    · injection h with h
      injection h with h _
      injection h with h1 h2
      omega
/-- what the fields hold behind a symbol -/
def symV (v : V) (x : Nat × Nat × UInt8) : V := if x.1 = 0 then { v with left := 0 } else if x.2.1 = 0 then { v with left := x.1, back := 0, one := x.2.2 } else { v with left := x.1, back := x.2.1 }
end
end Go.Proofs.YtcmeoappddpmcaaDoor.infp
/-
  The contract of takeLengthsCode. My own text.
-/
namespace Go.Proofs.YtcmeoappddpmcaaDoor.infp
open Go.RowKit Go.Proofs.YtcmeoappddpmcaaDoor.base Go.Proofs.YtcmeoappddpmcaaDoor.num Go.Proofs.YtcmeoappddpmcaaDoor.bitnum Go.Proofs.YtcmeoappddpmcaaDoor.bitp Go.Proofs.YtcmeoappddpmcaaDoor.huffnum Go.Proofs.YtcmeoappddpmcaaDoor.huffp Go.Proofs.YtcmeoappddpmcaaDoor.infnum
set_option linter.unusedVariables false

theorem order_idx : ∀ j, j < 19 → infnum.order.idxOf (infnum.order.getD j 0) = j ∧ infnum.order.getD j 0 < 19 := by decide +kernel
theorem order_back : ∀ s, s < 19 → infnum.order.getD (infnum.order.idxOf s) 0 = s := by decide +kernel
theorem laid_len (l : List Nat) : (laid l).length = 19 := by simp [laid]
theorem laid_get (l : List Nat) {s : Nat} (h : s < 19) : (laid l)[s]? = some (l.getD (infnum.order.idxOf s) 0) := by
  simp [laid, h]
theorem laid_nil : laid [] = List.replicate 19 0 := by decide +kernel
theorem laid_more (l : List Nat) (x : Nat) (h : l.length < 19) : (laid l).set (infnum.order.getD l.length 0) x = laid (l ++ [x]) := by
  have ho := order_idx l.length h
  apply List.ext_getElem?
  intro s
  by_cases hs : s < 19
  · rw [laid_get _ hs]
    by_cases e : infnum.order.getD l.length 0 = s
    · subst e
      rw [List.getElem?_set_self (by rw [laid_len]; exact hs), ho.1]
      simp [List.getD]
    · rw [List.getElem?_set_ne e, laid_get _ hs]
      have hne : infnum.order.idxOf s ≠ l.length := fun e' => e (by rw [← e']; exact order_back s hs)
      congr 1
      rw [List.getD_eq_getElem?_getD, List.getD_eq_getElem?_getD]
      rcases Nat.lt_or_ge (infnum.order.idxOf s) l.length with h1 | h1
      · rw [List.getElem?_append_left h1]
      · rw [List.getElem?_eq_none (by omega), List.getElem?_eq_none (by rw [List.length_append, List.length_singleton]; omega)]
  · rw [List.getElem?_eq_none (by rw [List.length_set, laid_len]; omega), List.getElem?_eq_none (by rw [laid_len]; omega)]
/-- so far l was taken; what is still to come tells the whole -/
def Run3 (k U T p : Nat) (l : List Nat) (p' : Nat) : Prop :=
  times (take 3) k U T p = match times (take 3) (k - l.length) U T p' with
    | .ok (m, q) => .ok (l ++ m, q)
    | .error e => .error e
theorem Run3.start (k U T p : Nat) : Run3 k U T p [] p := by
  unfold Run3
  simp only [List.length_nil, Nat.sub_zero, List.nil_append]
  cases times (take 3) k U T p with
  | ok x => rfl
  | error e => rfl
theorem Run3.more {k U T p p' x p2 : Nat} {l : List Nat} (h : Run3 k U T p l p') (hl : l.length < k) (hx : take 3 U T p' = .ok (x, p2)) : Run3 k U T p (l ++ [x]) p2 := by
  unfold Run3 at h ⊢
  rw [h, show k - l.length = (k - (l ++ [x]).length) + 1 by rw [List.length_append, List.length_singleton]; omega, times, also_ok hx]
  unfold also
  cases times (take 3) (k - (l ++ [x]).length) U T p2 with
  | error e => rfl
  | ok y => simp [give]
theorem Run3.stop {k U T p p' e : Nat} {l : List Nat} (h : Run3 k U T p l p') (hl : l.length < k) (hx : take 3 U T p' = .error e) : times (take 3) k U T p = .error e := by
  unfold Run3 at h
  rw [h, show k - l.length = (k - l.length - 1) + 1 by omega, times, also_no hx]
theorem Run3.all {k U T p p' : Nat} {l : List Nat} (h : Run3 k U T p l p') (hl : l.length = k) : times (take 3) k U T p = .ok (l, p') := by
  unfold Run3 at h
  rw [h, hl, Nat.sub_self, times]
  simp [give]
theorem zero_19 (W : World) : (zeroValue 90).run Tryd.prog W = .ok (.agg (Array.replicate 19 (.int .i64 0))) W := by kernel_rfl
theorem mayBe_fit {ls : List Nat} {b : Bool} (h15 : ∀ x ∈ ls, x ≤ 15) (h : ¬ mayBe ls b = false) : Fit ls := by
  refine ⟨?_, h15⟩
  unfold mayBe at h
  refine Decidable.byContradiction fun hn => h ?_
  rw [decide_eq_false hn]; rfl
theorem laid_le {l : List Nat} {m : Nat} (h : ∀ x ∈ l, x ≤ m) : ∀ x ∈ laid l, x ≤ m := by
  intro x hx
  unfold laid at hx
  obtain ⟨s, _, rfl⟩ := List.mem_map.1 hx
  rw [List.getD_eq_getElem?_getD]
  cases hl : l[infnum.order.idxOf s]? with
  | none => simp
  | some y => exact h y (List.mem_of_getElem? hl)
section
variable {w : World} {g q p : Nat} {v : V} {bs : List UInt8} {rl : List Nat}
end
end Go.Proofs.YtcmeoappddpmcaaDoor.infp
/-
  The contract of takeLengths. My own text.
-/
namespace Go.Proofs.YtcmeoappddpmcaaDoor.infp
open Go.RowKit Go.Proofs.YtcmeoappddpmcaaDoor.base Go.Proofs.YtcmeoappddpmcaaDoor.num Go.Proofs.YtcmeoappddpmcaaDoor.bitnum Go.Proofs.YtcmeoappddpmcaaDoor.bitp Go.Proofs.YtcmeoappddpmcaaDoor.huffnum Go.Proofs.YtcmeoappddpmcaaDoor.huffp Go.Proofs.YtcmeoappddpmcaaDoor.infnum
set_option linter.unusedVariables false

/-- how long a slice is -/
def lenS : Value → Nat
  | .slice _ n _ => n
  | _ => 0
/-- the length that a symbol tells, behind l -/
def fill (k : Nat) (l : List Nat) : Nat := if k = 16 then l.getLast?.getD 0 else if k = 17 ∨ k = 18 then 0 else k
section
variable {c : List Nat} {n f U T p : Nat} {l : List Nat}
theorem rep_succ : rep c n (f + 1) l = if n < l.length then fail 12 else if n = l.length then give l else also (sym c) fun k =>
      if k = 16 then (match l.getLast? with
        | none => fail 12
        | some v => also (take 2) fun t => rep c n f (l ++ List.replicate (3 + t) v))
      else if k = 17 then also (take 3) fun t => rep c n f (l ++ List.replicate (3 + t) 0)
      else if k = 18 then also (take 7) fun t => rep c n f (l ++ List.replicate (11 + t) 0)
      else rep c n f (l ++ [k]) := rfl
theorem rep_over (h : n < l.length) : rep c n f l U T p = .error 12 := by
  cases f with
  | zero => rfl
  | succ f => rw [rep_succ, if_pos h]; rfl
theorem rep_all (h : l.length = n) : rep c n (f + 1) l U T p = .ok (l, p) := by
  rw [rep_succ, if_neg (by omega), if_pos h.symm]; rfl
theorem rep_sym {e : Nat} (h : l.length < n) (hs : sym c U T p = .error e) : rep c n (f + 1) l U T p = .error e := by
  rw [rep_succ, if_neg (by omega), if_neg (by omega), also_no hs]
theorem rep_none {p1 : Nat} (h : 0 < n) (hs : sym c U T p = .ok (16, p1)) : rep c n (f + 1) [] U T p = .error 12 := by
  rw [rep_succ, if_neg (by simp), if_neg (by simp; omega), also_ok hs]
  rfl
theorem rep_step {k p1 : Nat} (h : l.length < n) (hs : sym c U T p = .ok (k, p1)) (hk : ¬ (k = 16 ∧ l.length = 0)) (hp1 : p1 ≤ T) :
    rep c n (f + 1) l U T p = also (timesP k) (fun t => rep c n f (l ++ List.replicate t (fill k l))) U T p1 := by
  rw [rep_succ, if_neg (by omega), if_neg (by omega), also_ok hs]
  unfold timesP fill
  by_cases h16 : k = 16
  · rw [if_pos h16]
    simp only [if_pos h16]
    cases hl : l.getLast? with
    | none =>
      rw [List.getLast?_eq_none_iff] at hl
      exact absurd ⟨h16, by rw [hl]; rfl⟩ hk
    | some v =>
      rw [also_also]
      rfl
  · rw [if_neg h16]
    simp only [if_neg h16]
    by_cases h17 : k = 17
    · rw [if_pos h17, also_also]
      simp only [if_pos h17, if_pos (Or.inl h17)]
      rfl
    · rw [if_neg h17]
      simp only [if_neg h17]
      by_cases h18 : k = 18
      · rw [if_pos h18, also_also]
        simp only [if_pos h18, if_pos (Or.inr h18)]
        rfl
      · rw [if_neg h18, also_also]
        simp only [if_neg h18]
        have ht : take 0 U T p1 = .ok (0, p1) := by
          unfold take
          rw [if_pos (by omega), Nat.pow_zero, Nat.mod_one]; rfl
        rw [also_ok ht, also_give, if_neg (by omega)]
        rfl
end
theorem times_pos {k U T p t p2 : Nat} (h : timesP k U T p = .ok (t, p2)) : 1 ≤ t ∧ t ≤ 138 := by
  unfold timesP at h
  obtain ⟨a, m, ha, h⟩ := also_of h
  obtain ⟨ha, _⟩ := take_lt ha
  injection h with h
  injection h with h _
  have h7 : a < 128 := Nat.lt_of_lt_of_le ha (Nat.pow_le_pow_right (n := 2) (j := 7) (by omega) (by split <;> (try split) <;> (try split) <;> omega))
  split at h <;> (try split at h) <;> (try split at h) <;> omega
/-- so far l was told; what is still to come tells the whole -/
def RunR (c : List Nat) (n U T p : Nat) (l : List Nat) (p' : Nat) : Prop := ∃ f, n + 1 ≤ f + l.length ∧ rep c n (n + 1) [] U T p = rep c n f l U T p'
theorem RunR.start (c : List Nat) (n U T p : Nat) : RunR c n U T p [] p := ⟨n + 1, by simp, rfl⟩
theorem RunR.fuel {c l : List Nat} {n U T p p' : Nat} (h : RunR c n U T p l p') (hl : l.length ≤ n) : ∃ f, n ≤ f + l.length ∧ rep c n (n + 1) [] U T p = rep c n (f + 1) l U T p' := by
  obtain ⟨f, hf, h⟩ := h
  exact ⟨f - 1, by omega, by rw [h, show f - 1 + 1 = f by omega]⟩

theorem Turn.grow {S S' : List Nat} {w a b : World} {row : Option Nat} (h : Turn S S' w a) (k : a.grownBy b row) (hr : ∀ g, row = some g → w.heap.size ≤ g) : Turn S S' w b where
  os := k.os.trans h.os
  tape := k.tape.trans h.tape
  output := k.output.trans h.output
  size := Nat.le_trans h.size k.size
  block i hi hS := (k.block i (Nat.lt_of_lt_of_le hi h.size) (fun e => by have := hr i e.symm; omega)).trans (h.block i hi hS)
  sub := h.sub
section
variable {w : World} {g q p : Nat} {v : V} {bs : List UInt8} {rl : List Nat}
theorem Own.cellAt {base b off n c : Nat} {l : List Nat} (h : Own w base tInt (some ⟨b, off, none⟩) n c (nv l)) {j x : Nat} (hx : l[j]? = some x) : w.cell? ⟨b, off + j, none⟩ = some (iv (x : Nat)) := by
  have hn : l.length = n := by have := h.rd.1; rwa [List.length_map] at this
  obtain ⟨b', off', y, e, _, hy, hc⟩ := h.rd.at_ (enc := fun x : Nat => iv (x : Int)) (k := j) (by have := (List.getElem?_eq_some_iff.1 hx).1; omega)
  injection e with e
  injection e with e1 e2 _
  subst e1; subst e2
  rw [hx] at hy
  injection hy with hy
  subst hy
  exact hc
end
end Go.Proofs.YtcmeoappddpmcaaDoor.infp
/-
  The contracts of useLengths, takeCodes. My own text.
-/
namespace Go.Proofs.YtcmeoappddpmcaaDoor.infp
open Go.RowKit Go.Proofs.YtcmeoappddpmcaaDoor.base Go.Proofs.YtcmeoappddpmcaaDoor.num Go.Proofs.YtcmeoappddpmcaaDoor.bitnum Go.Proofs.YtcmeoappddpmcaaDoor.bitp Go.Proofs.YtcmeoappddpmcaaDoor.huffnum Go.Proofs.YtcmeoappddpmcaaDoor.huffp Go.Proofs.YtcmeoappddpmcaaDoor.infnum
set_option linter.unusedVariables false

section
variable {w : World} {g q p : Nat} {v : V} {bs : List UInt8} {rl : List Nat}
theorem Rd.pre {w : World} {B n m : Nat} {A : Option Addr} {xs : List Value} (h : Rd w B A n xs) (hm : m ≤ n) : Rd w B A m (xs.take m) := by
  refine ⟨by rw [List.length_take, h.1]; omega, fun hn => ?_⟩
  obtain ⟨b, off, e, hb, hc⟩ := h.2 (by omega)
  refine ⟨b, off, e, hb, fun j u hu => ?_⟩
  rw [List.getElem?_take] at hu
  split at hu
  · exact hc j u hu
  · cases hu
theorem Rd.suf {w : World} {B n lo : Nat} {A : Option Addr} {xs : List Value} (h : Rd w B A n xs) (hm : lo ≤ n) : Rd w B (A.map (·.add lo)) (n - lo) (xs.drop lo) := by
  refine ⟨by rw [List.length_drop, h.1], fun hn => ?_⟩
  obtain ⟨b, off, rfl, hb, hc⟩ := h.2 (by omega)
  refine ⟨b, off + lo, ?_, hb, fun j u hu => ?_⟩
  · simp only [Option.map_some, Option.some.injEq]
    unfold Addr.add
    split
    · subst lo; rfl
    · rfl
  · rw [List.getElem?_drop] at hu
    have := hc _ u hu
    rwa [← Nat.add_assoc] at this
theorem rep_len {c : List Nat} {n : Nat} : ∀ {f : Nat} {l m : List Nat} {U T p p' : Nat}, rep c n f l U T p = .ok (m, p') → m.length = n := by
  intro f
  induction f with
  | zero => intro l m U T p p' h; cases h
  | succ f ih =>
    intro l m U T p p' h
    rw [rep_succ] at h
    split at h
    · cases h
    · split at h
      · rename_i h2
        injection h with h
        injection h with h _
        rw [← h]; exact h2.symm
      · obtain ⟨k, p1, _, h⟩ := also_of h
        split at h
        · cases hg : l.getLast? with
          | none => rw [hg] at h; cases h
          | some v =>
            rw [hg] at h
            obtain ⟨t, p2, _, h⟩ := also_of h; exact ih h
        · split at h
          · obtain ⟨t, p2, _, h⟩ := also_of h; exact ih h
          · split at h
            · obtain ⟨t, p2, _, h⟩ := also_of h; exact ih h
            · exact ih h
theorem lens_of {k U T p p' : Nat} {ls : List Nat} (h : lensP k U T p = .ok (ls, p')) : ls.length = 19 := by
  unfold lensP at h
  obtain ⟨l, m, _, h⟩ := also_of h
  split at h
  · cases h
  · injection h with h
    injection h with h _
    rw [← h, laid_len]
end
end Go.Proofs.YtcmeoappddpmcaaDoor.infp
/-
  The contract of takeHead. My own text.
-/
namespace Go.Proofs.YtcmeoappddpmcaaDoor.infp
open Go.RowKit Go.Proofs.YtcmeoappddpmcaaDoor.base Go.Proofs.YtcmeoappddpmcaaDoor.num Go.Proofs.YtcmeoappddpmcaaDoor.bitnum Go.Proofs.YtcmeoappddpmcaaDoor.bitp Go.Proofs.YtcmeoappddpmcaaDoor.huffnum Go.Proofs.YtcmeoappddpmcaaDoor.huffp Go.Proofs.YtcmeoappddpmcaaDoor.infnum
set_option linter.unusedVariables false

/-- behind a head: bytes that are stored, or symbols -/
def PhAt (w : World) (v : V) (s : At) : Prop :=
  match s.ph with
  | .head => False
  | .raw n => v.next = 1 ∧ v.left = n ∧ v.last = s.last
  | .sy a b => v.next = 2 ∧ v.last = s.last ∧ UseAt w v a b
theorem headP_len (out : List UInt8) (x : Nat) (U T p : Nat) :
    also align (fun _ => also (take 16) fun n => also (take 16) fun t => if n + t = 65535 then give (⟨.raw n, decide (x % 2 = 1), out⟩ : At) else fail 12) U T p = also lenP (fun n => give ⟨.raw n, decide (x % 2 = 1), out⟩) U T p := by
  unfold lenP
  simp only [also_also]
  unfold also align
  simp only
  cases h1 : take 16 U T ((p + 7) / 8 * 8) with
  | error e => rfl
  | ok y =>
    obtain ⟨n, p2⟩ := y
    simp only
    cases h2 : take 16 U T p2 with
    | error e => rfl
    | ok z =>
      obtain ⟨t, p3⟩ := z
      simp only
      split <;> rfl
section
variable {w : World} {g q p : Nat} {v : V} {bs : List UInt8} {rl : List Nat}
theorem FixAt.last {L : Bool} (h : FixAt w v) : FixAt w { v with last := L } := h
end
end Go.Proofs.YtcmeoappddpmcaaDoor.infp
/-
  The contracts of an unpacker's input: feed, behind. My own text.
-/
namespace Go.Proofs.YtcmeoappddpmcaaDoor.infp
open Go.RowKit Go.Proofs.YtcmeoappddpmcaaDoor.base Go.Proofs.YtcmeoappddpmcaaDoor.num Go.Proofs.YtcmeoappddpmcaaDoor.bitnum Go.Proofs.YtcmeoappddpmcaaDoor.bitp Go.Proofs.YtcmeoappddpmcaaDoor.huffnum Go.Proofs.YtcmeoappddpmcaaDoor.huffp Go.Proofs.YtcmeoappddpmcaaDoor.infnum
set_option linter.unusedVariables false

/-- a row of bytes in block k (any, if there are none) -/
def RowAt (w : World) (k : Nat) (A : Option Addr) (n c : Nat) (xs : List UInt8) : Prop :=
  xs.length = n ∧ n ≤ c ∧ c ≤ maxLen ∧ (0 < n → ∃ off, A = some ⟨k, off, none⟩ ∧ k < w.heap.size ∧ ∀ j x, xs[j]? = some x → w.cell? ⟨k, off + j, none⟩ = some (bv x))
section
variable {w w' : World} {k n c : Nat} {A : Option Addr} {xs : List UInt8}
theorem RowAt.keep (h : RowAt w k A n c xs) (hs : w.heap.size ≤ w'.heap.size) (hk : k < w.heap.size → w'.heap[k]? = w.heap[k]?) : RowAt w' k A n c xs :=
  ⟨h.1, h.2.1, h.2.2.1, fun hn => by
    obtain ⟨off, e, hl, hc⟩ := h.2.2.2 hn
    exact ⟨off, e, by omega, fun j x hx => (World.cell?_of_block (hk hl)).trans (hc j x hx)⟩⟩
theorem RowAt.fresh (h : RowAt w k A n c xs) (f : Fresh w w') : RowAt w' k A n c xs := h.keep f.size (f.block k)
theorem RowAt.turn {S S' : List Nat} (h : RowAt w k A n c xs) (t : Turn S S' w w') (hS : k ∉ S) : RowAt w' k A n c xs := h.keep t.size fun hl => t.block k hl hS
theorem RowAt.cut (h : RowAt w k A n c xs) {lo : Nat} (hlo : lo ≤ n) : RowAt w k (if c = lo then A else A.map (·.add lo)) (n - lo) (c - lo) (xs.drop lo) := by
  obtain ⟨h1, h2, h3, h4⟩ := h
  refine ⟨by rw [List.length_drop, h1], by omega, by omega, fun hn => ?_⟩
  obtain ⟨off, rfl, hl, hc⟩ := h4 (by omega)
  rw [if_neg (by omega)]
  refine ⟨off + lo, ?_, hl, fun j x hx => ?_⟩
  · simp only [Option.map_some, Option.some.injEq]
    unfold Addr.add
    split
    · subst lo; rfl
    · rfl
  · rw [List.getElem?_drop] at hx
    have := hc _ x hx
    rwa [← Nat.add_assoc] at this
theorem RowAt.rd (h : RowAt w k A n c xs) {m : Nat} (hm : m ≤ n) : Rd w w.heap.size A m ((xs.take m).map bv) := by
  obtain ⟨h1, h2, h3, h4⟩ := h
  refine ⟨by rw [List.length_map, List.length_take, h1]; omega, fun hn => ?_⟩
  obtain ⟨off, rfl, hl, hc⟩ := h4 (by omega)
  refine ⟨k, off, rfl, hl, fun j u hu => ?_⟩
  rw [List.getElem?_map, List.getElem?_take] at hu
  split at hu
  · cases hx : xs[j]? with
    | none => rw [hx] at hu; cases hu
    | some x =>
      rw [hx] at hu
      injection hu with hu
      rw [hc j x hx, ← hu]
  · cases hu
end

/-- the block that a slice lies in (0, if in none) -/
def blkOf : Value → Nat
  | .slice (some a) _ _ => a.block
  | _ => 0
theorem blkOf_add (A : Option Addr) (t n c n' c' : Nat) : blkOf (.slice (A.map fun x => x.add t) n' c') = blkOf (.slice A n c) := by
  cases A with
  | none => rfl
  | some a =>
    simp only [Option.map_some, blkOf]
    unfold Addr.add
    split <;> rfl
section
variable {w w' : World} {g o p k : Nat} {v v' : V} {b out : List UInt8} {rl wl : List Nat}
end
end Go.Proofs.YtcmeoappddpmcaaDoor.infp
/-
  The contract of feed, where there is more. My own text.
-/
namespace Go.Proofs.YtcmeoappddpmcaaDoor.infp
open Go.RowKit Go.Proofs.YtcmeoappddpmcaaDoor.base Go.Proofs.YtcmeoappddpmcaaDoor.num Go.Proofs.YtcmeoappddpmcaaDoor.bitnum Go.Proofs.YtcmeoappddpmcaaDoor.bitp Go.Proofs.YtcmeoappddpmcaaDoor.huffnum Go.Proofs.YtcmeoappddpmcaaDoor.huffp Go.Proofs.YtcmeoappddpmcaaDoor.infnum
set_option linter.unusedVariables false

theorem Turn.wide {S S' T T' : List Nat} {w w' : World} (h : Turn S S' w w') (hs : ∀ k ∈ S, k ∈ T) (hs' : ∀ k ∈ T', k ∈ T ∨ w.heap.size ≤ k) : Turn T T' w w' where
  os := h.os
  tape := h.tape
  output := h.output
  size := h.size
  block k hk hS := h.block k hk fun hx => hS (hs k hx)
  sub := hs'
section
variable {w w' : World} {g o p k : Nat} {v v' : V} {b out : List UInt8} {rl wl : List Nat}
end
end Go.Proofs.YtcmeoappddpmcaaDoor.infp
/-
  The contracts of whole, copied, endBlock. My own text.
-/
namespace Go.Proofs.YtcmeoappddpmcaaDoor.infp
open Go.RowKit Go.Proofs.YtcmeoappddpmcaaDoor.base Go.Proofs.YtcmeoappddpmcaaDoor.num Go.Proofs.YtcmeoappddpmcaaDoor.bitnum Go.Proofs.YtcmeoappddpmcaaDoor.bitp Go.Proofs.YtcmeoappddpmcaaDoor.huffnum Go.Proofs.YtcmeoappddpmcaaDoor.huffp Go.Proofs.YtcmeoappddpmcaaDoor.infnum
set_option linter.unusedVariables false

section
variable {w : World} {g q p : Nat} {v : V} {bs : List UInt8} {rl : List Nat}
end
section
variable {w : World} {g o p k : Nat} {v : V} {b out : List UInt8} {rl wl : List Nat}
end
end Go.Proofs.YtcmeoappddpmcaaDoor.infp
/-
  Unpacking under way: what holds at a label; a scope with labels. My own text.
-/
namespace Go.Proofs.YtcmeoappddpmcaaDoor.infp
open Go.RowKit Go.Proofs.YtcmeoappddpmcaaDoor.base Go.Proofs.YtcmeoappddpmcaaDoor.num Go.Proofs.YtcmeoappddpmcaaDoor.bitnum Go.Proofs.YtcmeoappddpmcaaDoor.bitp Go.Proofs.YtcmeoappddpmcaaDoor.huffnum Go.Proofs.YtcmeoappddpmcaaDoor.huffp Go.Proofs.YtcmeoappddpmcaaDoor.infnum
set_option linter.unusedVariables false

/-- by a goto to l: J l -/
def Jumps (J : Nat → Act → World → Prop) (Q : Exit → Act → World → Prop) : Exit → Act → World → Prop
  | .goto l, a, w => J l a w
  | e, a, w => Q e a w
section
variable {P : Program} {a : Act} {w : World} {Q : Exit → Act → World → Prop}
theorem Jumps_ret (J : Nat → Act → World → Prop) : Jumps J Q .ret a w = Q .ret a w := rfl
/-- a scope with many labels: what holds at each, with a number that falls -/
theorem wp_scope_labels {c : Code} (J : Nat → Nat → Act → World → Prop)
    (first : c.wp P (Jumps (fun l a w => ∃ m, J m l a w) Q) a w)
    (pass : ∀ m l a w, J m l a w → ∃ rest, findLabel c l = some rest ∧ rest.wp P (Jumps (fun l' a' w' => ∃ m', m' < m ∧ J m' l' a' w') Q) a w) : (Code.scope c).wp P Q a w := by
  intro b k cs
  have hg : ∀ l rest, findLabel c l = some rest → gotoIn l (.inScope c :: k) = some (.code rest :: .inScope c :: k) := fun l rest hf => by simp [gotoIn, hf]
  have key : ∀ n l a w rest, J n l a w → findLabel c l = some rest → ∃ e a' w', Q e a' w' ∧ Arrives P (lone (b.at a (.code rest :: .inScope c :: k)) cs w) b k cs e a' w' := by
    intro n
    induction n using Nat.strongRecOn with
    | _ n ih =>
      intro l a w rest hJ hf
      obtain ⟨rest', hf', hp⟩ := pass n l a w hJ
      rw [hf] at hf'
      injection hf' with hf'
      subst hf'
      obtain ⟨e, a₁, w₁, hq, harr⟩ := hp b (.inScope c :: k) cs
      cases e with
      | normal => exact ⟨.normal, a₁, w₁, hq, Steps.trans harr (.one step_inScope)⟩
      | exit id => exact ⟨.exit id, a₁, w₁, hq, fun k' hk => harr k' (by simp [exitTo, hk])⟩
      | goto l' =>
        obtain ⟨m', hlt, hJ'⟩ := hq
        obtain ⟨rest2, hf2, _⟩ := pass m' l' a₁ w₁ hJ'
        obtain ⟨e₂, a₂, w₂, hq₂, harr₂⟩ := ih m' hlt l' a₁ w₁ rest2 hJ' hf2
        exact ⟨e₂, a₂, w₂, hq₂, .of_steps (harr _ (hg l' rest2 hf2)) harr₂⟩
      | ret => exact ⟨_, a₁, w₁, hq, harr⟩
      | panic ch => exact ⟨_, a₁, w₁, hq, harr⟩
      | outgrown => exact ⟨_, a₁, w₁, hq, harr⟩
  obtain ⟨e, a₁, w₁, hq, harr⟩ := first b (.inScope c :: k) cs
  cases e with
  | normal => exact ⟨.normal, a₁, w₁, hq, .head step_scope (Steps.trans harr (.one step_inScope))⟩
  | exit id => exact ⟨.exit id, a₁, w₁, hq, fun k' hk => .head step_scope (harr k' (by simp [exitTo, hk]))⟩
  | goto l' =>
    obtain ⟨m', hJ'⟩ := hq
    obtain ⟨rest2, hf2, _⟩ := pass m' l' a₁ w₁ hJ'
    obtain ⟨e₂, a₂, w₂, hq₂, harr₂⟩ := key m' l' a₁ w₁ rest2 hJ' hf2
    exact ⟨e₂, a₂, w₂, hq₂, .of_steps (.head step_scope (harr _ (hg l' rest2 hf2))) harr₂⟩
  | ret => exact ⟨_, a₁, w₁, hq, .of_steps (.one step_scope) harr⟩
  | panic ch => exact ⟨_, a₁, w₁, hq, .of_steps (.one step_scope) harr⟩
  | outgrown => exact ⟨_, a₁, w₁, hq, .of_steps (.one step_scope) harr⟩
end

/-- what is still to be handed out of a symbol: X is all, H what came -/
def Pend (v : V) (H X : List UInt8) : Prop := (v.back = 0 ∧ v.left ≤ 1 ∧ X = H ++ List.replicate v.left v.one) ∨ (1 ≤ v.back ∧ v.back ≤ min 32768 H.length ∧ X = infnum.copied v.back v.left H)
theorem symV_told (v : V) (x : Nat × Nat × UInt8) : (symV v x).told = v.told := by
  unfold symV
  split
  · rfl
  · split <;> rfl
/-- what was handed out by this call -/
structure Out (w0 w : World) (A : Option Addr) (n c : Nat) (Y : List UInt8) (g k : Nat) (rl wl : List Nat) : Prop where
  own : Own w w0.heap.size 5 A n c (Y.map bv)
  off : ∀ x, (Value.slice A n c).ownBlock = some x → x ∉ g :: (rl ++ wl) ∧ x ≠ k
section
variable {S0 : List Nat} {w0 w w' : World} {g o p p' k q n c : Nat} {v v' : V} {b H Y : List UInt8} {rl rl' wl wl' : List Nat} {s s' : At} {A : Option Addr}
theorem Out.len (h : Out w0 w A n c Y g k rl wl) : Y.length = n := by have := h.own.1; simpa using this
theorem Out.turn (h : Out w0 w A n c Y g k rl wl) (t : Turn (g :: (rl ++ wl)) (g :: (rl' ++ wl')) w w') : Out w0 w' A n c Y g k rl' wl' where
  own := bitp.Own.turn h.own t fun x hx e => (h.off x e).1 hx
  off x e := ⟨t.apart (World.ownsRow.lt h.own x e).2 (h.off x e).1, (h.off x e).2⟩
theorem Out.fresh (h : Out w0 w A n c Y g k rl wl) (f : Fresh w w') : Out w0 w' A n c Y g k rl wl := ⟨h.own.fresh f, h.off⟩
theorem Turn.left {S S' T : List Nat} (g : Nat) (h : Turn (g :: S) (g :: S') w w') : Turn (g :: (S ++ T)) (g :: (S' ++ T)) w w' := by
  refine Turn.wide h (fun x hx => ?_) fun x hx => ?_
  · rcases List.mem_cons.1 hx with rfl | hx
    · simp
    · simp [hx]
  · rcases List.mem_cons.1 hx with rfl | hx
    · exact .inl (by simp)
    · rcases List.mem_append.1 hx with hx | hx
      · rcases h.sub x (List.mem_cons_of_mem _ hx) with h1 | h1
        · rcases List.mem_cons.1 h1 with rfl | h1
          · exact .inl (by simp)
          · exact .inl (by simp [h1])
        · exact .inr h1
      · exact .inl (by simp [hx])
theorem Turn.right {S S' T : List Nat} (g : Nat) (h : Turn (g :: S) (g :: S') w w') : Turn (g :: (T ++ S)) (g :: (T ++ S')) w w' := by
  refine Turn.wide h (fun x hx => ?_) fun x hx => ?_
  · rcases List.mem_cons.1 hx with rfl | hx
    · simp
    · simp [hx]
  · rcases List.mem_cons.1 hx with rfl | hx
    · exact .inl (by simp)
    · rcases List.mem_append.1 hx with hx | hx
      · exact .inl (by simp [hx])
      · rcases h.sub x (List.mem_cons_of_mem _ hx) with h1 | h1
        · rcases List.mem_cons.1 h1 with rfl | h1
          · exact .inl (by simp)
          · exact .inl (by simp [h1])
        · exact .inr h1
theorem WinAt.ty {val : Value} (h : WinAt w val H wl) : ∀ x ∈ wl, Ty w x 5 := by
  obtain ⟨A, n, c, win, rfl, hn, ho, hr, rfl⟩ := h
  exact fun x hx => Own.ty ho x (by simpa using hx)
/-! where unpacking is -/
def PhHead (v : V) (s : At) (H : List UInt8) : Prop := s = ⟨.head, false, H⟩ ∧ v.next = 0
def PhRaw (v : V) (s : At) (H : List UInt8) : Prop := s = ⟨.raw v.left, v.last, H⟩ ∧ v.next = 1 ∧ v.left ≤ 400000 ∧ ∃ q, v.bits = ptr q
def PhSym (w : World) (v : V) (s : At) (H : List UInt8) : Prop := ∃ a b, s = ⟨.sy a b, v.last, H⟩ ∧ v.next = 2 ∧ UseAt w v a b ∧ ∃ q, v.bits = ptr q
def PhCopy (w : World) (v : V) (s : At) (H : List UInt8) : Prop := ∃ a b X, s = ⟨.sy a b, v.last, X⟩ ∧ v.next = 3 ∧ UseAt w v a b ∧ Pend v H X ∧ v.left ≤ 400000 ∧ ∃ q, v.bits = ptr q
def Any (w : World) (v : V) (s : At) (H : List UInt8) : Prop := PhHead v s H ∨ PhRaw v s H ∨ PhSym w v s H ∨ PhCopy w v s H
/-- how much is ahead -/
def ahead_ (b : List UInt8) (v : V) (o p : Nat) : Nat := 100 * (8 * b.length - (8 * o + p)) + 100 * (b.length - (o + v.fed))
theorem Turn.only {S S' : List Nat} (g : Nat) (h : Turn S (g :: (S' ++ wl)) w0 w) : Turn S (g :: wl) w0 w := h.to fun x hx => h.sub x (by
  rcases List.mem_cons.1 hx with rfl | hx
  · simp
  · simp [hx])
theorem headP_out {out : List UInt8} {U T p p' : Nat} {s : At} (h : headP out U T p = .ok (s, p')) : s.out = out ∧ p + 3 ≤ p' := by
  have hl := ((infnum.Good.head out).loc _ _ _ _ _ h).1
  unfold headP at h
  obtain ⟨x, m, h1, h⟩ := also_of h
  obtain ⟨_, hm, _⟩ := take_lt h1
  split at h
  · rw [headP_len] at h
    obtain ⟨n, m2, h2, h⟩ := also_of h
    have := (show infnum.Good lenP from infnum.Good.also infnum.Good.align fun _ => infnum.Good.also (infnum.Good.take 16) fun n => infnum.Good.also (infnum.Good.take 16) fun t => infnum.Good.ite (infnum.Good.give _) (infnum.Good.fail 12 (.inr rfl))).loc _ _ _ _ _ h2
    injection h with h
    injection h with h3 h4
    rw [← h3]
    exact ⟨rfl, by have := this.1; omega⟩
  · split at h
    · injection h with h
      injection h with h3 h4
      rw [← h3]
      exact ⟨rfl, by omega⟩
    · split at h
      · obtain ⟨c, m2, h2, h⟩ := also_of h
        have := infnum.Good.codes.loc _ _ _ _ _ h2
        injection h with h
        injection h with h3 h4
        rw [← h3]
        exact ⟨rfl, by have := this.1; omega⟩
      · cases h
theorem headP_raw {out : List UInt8} {U T p p' z : Nat} {L : Bool} {o' : List UInt8} (h : headP out U T p = .ok (⟨.raw z, L, o'⟩, p')) : z ≤ 400000 := by
  unfold headP at h
  obtain ⟨x, m, h1, h⟩ := also_of h
  split at h
  · rw [headP_len] at h
    obtain ⟨n, m2, h2, h⟩ := also_of h
    injection h with h
    injection h with h3 h4
    injection h3 with h3 _ _
    injection h3 with h3
    subst h3
    unfold lenP at h2
    obtain ⟨_, m3, _, h2⟩ := also_of h2
    obtain ⟨y, m4, hy, h2⟩ := also_of h2
    obtain ⟨t, m5, _, h2⟩ := also_of h2
    split at h2
    · injection h2 with h2
      injection h2 with h2 _
      have := (take_lt hy).1
      omega
    · cases h2
  · split at h
    · injection h with h
      injection h with h3 h4
      injection h3 with h3 _ _
      cases h3
    · split at h
      · obtain ⟨c, m2, h2, h⟩ := also_of h
        injection h with h
        injection h with h3 h4
        injection h3 with h3 _ _
        cases h3
      · cases h
theorem code_row {R : List Nat} (hR : ∀ x ∈ R, Ty w x 5) {cc : Nat} {ls cbl : List Nat} (hC : CodeAt w cc ls cbl) : ∀ x ∈ cbl, x ∉ R := fun x hx hm => by
  have := hR x hm
  rcases CodeAt.ty hC x hx with t | t | t <;> exact absurd (this.uniq t) (by decide)
theorem UseAt.aside {a b' : List Nat} {R R' : List Nat} (hU : UseAt w v a b') (t : Turn R R' w w') (hR : ∀ x ∈ R, Ty w x 5) (hs : v'.sy = v.sy) (hd : v'.di = v.di) : UseAt w' v' a b' := by
  obtain ⟨s, d, sbl, dbl, h1, h2, hCs, hCd, hF⟩ := hU
  exact ⟨s, d, sbl, dbl, by rw [hs]; exact h1, by rw [hd]; exact h2, hCs.turn t (code_row hR hCs), hCd.turn t (code_row hR hCd), hF⟩
end
end Go.Proofs.YtcmeoappddpmcaaDoor.infp
/-
  The contract of unpack. My own text.
-/
namespace Go.Proofs.YtcmeoappddpmcaaDoor.infp
open Go.RowKit Go.Proofs.YtcmeoappddpmcaaDoor.base Go.Proofs.YtcmeoappddpmcaaDoor.num Go.Proofs.YtcmeoappddpmcaaDoor.bitnum Go.Proofs.YtcmeoappddpmcaaDoor.bitp Go.Proofs.YtcmeoappddpmcaaDoor.huffnum Go.Proofs.YtcmeoappddpmcaaDoor.huffp Go.Proofs.YtcmeoappddpmcaaDoor.infnum
set_option linter.unusedVariables false

/-- unpack's frame: what is handed out so far, and an error -/
def Fr (g M : Nat) (o e : Value) (a : Act) : Prop := ∃ u : Nat → Value, a = { tmps := #[ptr g, .int .i64 M, u 2, u 3, u 4, u 5, o, e, u 8, u 9, u 10, u 11, u 12, u 13, u 14, u 15, u 16, u 17, u 18, u 19, u 20, u 21, u 22, u 23, u 24, u 25, u 26, u 27, u 28, u 29, u 30, u 31, u 32, u 33, u 34, u 35, u 36, u 37, u 38, u 39, u 40, u 41, u 42, u 43, u 44, u 45, u 46, u 47, u 48, u 49, u 50, u 51, u 52, u 53, u 54, u 55, u 56, u 57, u 58, u 59, u 60, u 61, u 62, u 63, u 64, u 65, u 66, u 67, u 68, u 69, u 70, u 71, u 72, u 73, u 74, u 75, u 76, u 77, u 78, u 79, u 80, u 81, u 82, u 83, u 84, u 85, u 86, u 87, u 88, u 89, u 90, u 91, u 92, u 93, u 94, u 95, u 96, u 97, u 98, u 99, u 100, u 101, u 102, u 103, u 104, u 105, u 106, u 107, u 108, u 109, u 110, u 111, u 112, u 113, u 114, u 115, u 116, u 117, u 118, u 119, u 120, u 121, u 122, u 123, u 124, u 125, u 126, u 127, u 128, u 129], defers := [] }
theorem Fr.of {g M : Nat} {o e : Value} (a : Act) (h : a = { tmps := #[ptr g, .int .i64 M, a.tmps.getD 2 undef, a.tmps.getD 3 undef, a.tmps.getD 4 undef, a.tmps.getD 5 undef, o, e, a.tmps.getD 8 undef, a.tmps.getD 9 undef, a.tmps.getD 10 undef, a.tmps.getD 11 undef, a.tmps.getD 12 undef, a.tmps.getD 13 undef, a.tmps.getD 14 undef, a.tmps.getD 15 undef, a.tmps.getD 16 undef, a.tmps.getD 17 undef, a.tmps.getD 18 undef, a.tmps.getD 19 undef, a.tmps.getD 20 undef, a.tmps.getD 21 undef, a.tmps.getD 22 undef, a.tmps.getD 23 undef, a.tmps.getD 24 undef, a.tmps.getD 25 undef, a.tmps.getD 26 undef, a.tmps.getD 27 undef, a.tmps.getD 28 undef, a.tmps.getD 29 undef, a.tmps.getD 30 undef, a.tmps.getD 31 undef, a.tmps.getD 32 undef, a.tmps.getD 33 undef, a.tmps.getD 34 undef, a.tmps.getD 35 undef, a.tmps.getD 36 undef, a.tmps.getD 37 undef, a.tmps.getD 38 undef, a.tmps.getD 39 undef, a.tmps.getD 40 undef, a.tmps.getD 41 undef, a.tmps.getD 42 undef, a.tmps.getD 43 undef, a.tmps.getD 44 undef, a.tmps.getD 45 undef, a.tmps.getD 46 undef, a.tmps.getD 47 undef, a.tmps.getD 48 undef, a.tmps.getD 49 undef, a.tmps.getD 50 undef, a.tmps.getD 51 undef, a.tmps.getD 52 undef, a.tmps.getD 53 undef, a.tmps.getD 54 undef, a.tmps.getD 55 undef, a.tmps.getD 56 undef, a.tmps.getD 57 undef, a.tmps.getD 58 undef, a.tmps.getD 59 undef, a.tmps.getD 60 undef, a.tmps.getD 61 undef, a.tmps.getD 62 undef, a.tmps.getD 63 undef, a.tmps.getD 64 undef, a.tmps.getD 65 undef, a.tmps.getD 66 undef, a.tmps.getD 67 undef, a.tmps.getD 68 undef, a.tmps.getD 69 undef, a.tmps.getD 70 undef, a.tmps.getD 71 undef, a.tmps.getD 72 undef, a.tmps.getD 73 undef, a.tmps.getD 74 undef, a.tmps.getD 75 undef, a.tmps.getD 76 undef, a.tmps.getD 77 undef, a.tmps.getD 78 undef, a.tmps.getD 79 undef, a.tmps.getD 80 undef, a.tmps.getD 81 undef, a.tmps.getD 82 undef, a.tmps.getD 83 undef, a.tmps.getD 84 undef, a.tmps.getD 85 undef, a.tmps.getD 86 undef, a.tmps.getD 87 undef, a.tmps.getD 88 undef, a.tmps.getD 89 undef, a.tmps.getD 90 undef, a.tmps.getD 91 undef, a.tmps.getD 92 undef, a.tmps.getD 93 undef, a.tmps.getD 94 undef, a.tmps.getD 95 undef, a.tmps.getD 96 undef, a.tmps.getD 97 undef, a.tmps.getD 98 undef, a.tmps.getD 99 undef, a.tmps.getD 100 undef, a.tmps.getD 101 undef, a.tmps.getD 102 undef, a.tmps.getD 103 undef, a.tmps.getD 104 undef, a.tmps.getD 105 undef, a.tmps.getD 106 undef, a.tmps.getD 107 undef, a.tmps.getD 108 undef, a.tmps.getD 109 undef, a.tmps.getD 110 undef, a.tmps.getD 111 undef, a.tmps.getD 112 undef, a.tmps.getD 113 undef, a.tmps.getD 114 undef, a.tmps.getD 115 undef, a.tmps.getD 116 undef, a.tmps.getD 117 undef, a.tmps.getD 118 undef, a.tmps.getD 119 undef, a.tmps.getD 120 undef, a.tmps.getD 121 undef, a.tmps.getD 122 undef, a.tmps.getD 123 undef, a.tmps.getD 124 undef, a.tmps.getD 125 undef, a.tmps.getD 126 undef, a.tmps.getD 127 undef, a.tmps.getD 128 undef, a.tmps.getD 129 undef], defers := [] }) : Fr g M o e a := ⟨fun i => a.tmps.getD i undef, h⟩
section
variable {S0 : List Nat} {w0 w w' : World} {g o p p' k q n c : Nat} {v v' : V} {b H Y : List UInt8} {rl rl' wl wl' : List Nat} {s s' : At} {A : Option Addr}
theorem ahead_less {v v' : V} {o p o' p' : Nat} (h : 8 * o + p + 1 ≤ 8 * o' + p') (hl : 8 * o' + p' ≤ 8 * b.length) (hf : b.length - (o' + v'.fed) ≤ b.length - (o + v.fed)) : ahead_ b v' o' p' + 100 ≤ ahead_ b v o p := by
  unfold ahead_; omega
theorem stuck_nil (H : List UInt8) (U : Nat) : infnum.one ⟨.head, false, H⟩ U (8 * 0) 0 = .error 3 := by
  rw [one_head]
  rfl
theorem symV_same (v : V) (x : Nat × Nat × UInt8) : (symV v x).rest = v.rest ∧ (symV v x).fed = v.fed ∧ (symV v x).bits = v.bits ∧ (symV v x).win = v.win ∧ (symV v x).all = v.all ∧ (symV v x).f0 = v.f0 ∧ (symV v x).f1 = v.f1 ∧ (symV v x).last = v.last ∧ (symV v x).sy = v.sy ∧ (symV v x).di = v.di := by
  unfold symV
  split
  · exact ⟨rfl, rfl, rfl, rfl, rfl, rfl, rfl, rfl, rfl, rfl⟩
  · split <;> exact ⟨rfl, rfl, rfl, rfl, rfl, rfl, rfl, rfl, rfl, rfl⟩
theorem symP_cases {many : Nat} {a b : List Nat} {U T p p' : Nat} {x : Nat × Nat × UInt8} (h : symP many a b U T p = .ok (x, p')) :
    p < p' ∧ ((x.1 = 0 ∧ x.2.1 = 0) ∨ (x.1 = 1 ∧ x.2.1 = 0) ∨ (3 ≤ x.1 ∧ x.1 ≤ 400000 ∧ 1 ≤ x.2.1 ∧ x.2.1 ≤ many)) := by
  unfold symP at h
  obtain ⟨k, m, h1, h⟩ := also_of h
  have hlt := (sym_lt h1).2
  split at h
  · injection h with h
    injection h with h2 h3
    rw [← h2]
    exact ⟨by omega, .inr (.inl ⟨rfl, rfl⟩)⟩
  · split at h
    · injection h with h
      injection h with h2 h3
      rw [← h2]
      exact ⟨by omega, .inl ⟨rfl, rfl⟩⟩
    · split at h
      · cases h
      · obtain ⟨c, m2, h2, h⟩ := also_of h
        have hl2 := ((infnum.Good.copy k many b).loc _ _ _ _ _ h2).1
        injection h with h
        injection h with h3 h4
        rw [← h3]
        refine ⟨by omega, .inr (.inr ?_)⟩
        unfold copyP at h2
        obtain ⟨long, m3, hl, h2⟩ := also_of h2
        have hlong : long ≤ 300000 := by
          split at hl
          · have := spread_lt (by omega) (by omega) (by omega) hl; omega
          · obtain ⟨z, m4, hz, hl⟩ := also_of hl
            have := (take_lt hz).1
            injection hl with hl
            injection hl with hl _
            omega
        obtain ⟨d, m5, _, h2⟩ := also_of h2
        split at h2
        · cases h2
        · obtain ⟨f, m6, _, h2⟩ := also_of h2
          split at h2
          · cases h2
          · injection h2 with h2
            injection h2 with h2 _
            rw [← h2]
            exact ⟨by show 3 ≤ long + 3; omega, by show long + 3 ≤ 400000; omega, by show 1 ≤ f + 1; omega, by show f + 1 ≤ many; omega⟩
/-- how many bytes are left, by the memory -/
def leftAt (g : Nat) (w : World) : Nat := match w.cell? ⟨g, 7, none⟩ with
  | some (.int _ z) => z.toNat
  | _ => 0
theorem st_slot_ {P : Program} {w : World} {ops : Array Oper} {a : Act} {K : Act → World → Prop} {Q : Exit → Act → World → Prop} {E : Prop} (d : Nat) {op : Op} {t : TypeId} {ps : String} {af gd} (h : if Region.wanted ⟨some d, op, t, ps, af, gd⟩ (yielded ops a.tmps) = true then Oper.wp P ⟨some d, op, t, ps, af, gd⟩ a w K Q else E) : if Region.wanted ⟨some d, op, t, ps, af, gd⟩ (yielded ops a.tmps) = true then Oper.wp P ⟨some d, op, t, ps, af, gd⟩ a w K Q else E := h
theorem Turn.grown1 {w w' : World} {g : Nat} (h : Turn [g] [g] w w') : But g w w' := ⟨h.os, h.tape, h.output, h.size, fun i hi hne => h.block i hi (by simpa using fun e : i = g => hne (by rw [e]))⟩
end
end Go.Proofs.YtcmeoappddpmcaaDoor.infp
/-
  The contract of unpack. My own text.
-/
namespace Go.Proofs.YtcmeoappddpmcaaDoor.infp
open Go.RowKit Go.Proofs.YtcmeoappddpmcaaDoor.base Go.Proofs.YtcmeoappddpmcaaDoor.num Go.Proofs.YtcmeoappddpmcaaDoor.bitnum Go.Proofs.YtcmeoappddpmcaaDoor.bitp Go.Proofs.YtcmeoappddpmcaaDoor.huffnum Go.Proofs.YtcmeoappddpmcaaDoor.huffp Go.Proofs.YtcmeoappddpmcaaDoor.infnum
set_option linter.unusedVariables false

/-! unpack when all is unpacked, and when what isn't right was met -/
section
variable {S0 : List Nat} {w0 w w' : World} {g o p k P M : Nat} {v : V} {b H H0 : List UInt8} {rl wl : List Nat} {s : At}
/-! the same, as the world stands now -/
/-! the sign that ErrData was told -/
end
end Go.Proofs.YtcmeoappddpmcaaDoor.infp
namespace Go.Proofs.YtcmeoappddpmcaaDoor.infp
open Go.RowKit Go.Proofs.YtcmeoappddpmcaaDoor.base Go.Proofs.YtcmeoappddpmcaaDoor.num Go.Proofs.YtcmeoappddpmcaaDoor.bitnum Go.Proofs.YtcmeoappddpmcaaDoor.bitp Go.Proofs.YtcmeoappddpmcaaDoor.huffnum Go.Proofs.YtcmeoappddpmcaaDoor.huffp Go.Proofs.YtcmeoappddpmcaaDoor.infnum
set_option linter.unusedVariables false

section
variable {S0 : List Nat} {w0 w w' : World} {g o p k P M : Nat} {v : V} {b H H0 : List UInt8} {rl wl : List Nat} {s : At}
end
end Go.Proofs.YtcmeoappddpmcaaDoor.infp
namespace Go.Proofs.YtcmeoappddpmcaaDoor.infp
open Go.RowKit Go.Proofs.YtcmeoappddpmcaaDoor.base Go.Proofs.YtcmeoappddpmcaaDoor.num Go.Proofs.YtcmeoappddpmcaaDoor.bitnum Go.Proofs.YtcmeoappddpmcaaDoor.bitp Go.Proofs.YtcmeoappddpmcaaDoor.huffnum Go.Proofs.YtcmeoappddpmcaaDoor.huffp Go.Proofs.YtcmeoappddpmcaaDoor.infnum
set_option linter.unusedVariables false

section
variable {S0 : List Nat} {w0 w w' : World} {g o p k P M : Nat} {v : V} {b H H0 : List UInt8} {rl wl : List Nat} {s : At}
end
end Go.Proofs.YtcmeoappddpmcaaDoor.infp
namespace Go.Proofs.YtcmeoappddpmcaaDoor.infp
open Go.RowKit Go.Proofs.YtcmeoappddpmcaaDoor.base Go.Proofs.YtcmeoappddpmcaaDoor.num Go.Proofs.YtcmeoappddpmcaaDoor.bitnum Go.Proofs.YtcmeoappddpmcaaDoor.bitp Go.Proofs.YtcmeoappddpmcaaDoor.huffnum Go.Proofs.YtcmeoappddpmcaaDoor.huffp Go.Proofs.YtcmeoappddpmcaaDoor.infnum
set_option linter.unusedVariables false

section
variable {S0 : List Nat} {w0 w w' : World} {g o p k P M : Nat} {v : V} {b H H0 : List UInt8} {rl wl : List Nat} {s : At}
end
end Go.Proofs.YtcmeoappddpmcaaDoor.infp
/-
  New, Put onto a new unpacker; an unpacker between calls, apart from other rows. My own text.
-/
namespace Go.Proofs.YtcmeoappddpmcaaDoor.infp
open Go.RowKit Go.Proofs.YtcmeoappddpmcaaDoor.base Go.Proofs.YtcmeoappddpmcaaDoor.num Go.Proofs.YtcmeoappddpmcaaDoor.bitnum Go.Proofs.YtcmeoappddpmcaaDoor.bitp Go.Proofs.YtcmeoappddpmcaaDoor.huffnum Go.Proofs.YtcmeoappddpmcaaDoor.huffp Go.Proofs.YtcmeoappddpmcaaDoor.infnum
set_option linter.unusedVariables false

/-- an unpacker without input -/
def v0 : V := ⟨.slice none 0 0, 0, .pointer none, .slice none 0 0, 0, 0, false, 0, 0, 0, .pointer none, .pointer none, .pointer none, .pointer none, 0, false⟩
section
variable {S0 : List Nat} {w0 w w' : World} {g o p k P M : Nat} {v : V} {b H H0 : List UInt8} {rl wl : List Nat} {s : At}
theorem Own.rowAt {base n c : Nat} {A : Option Addr} {xs : List UInt8} (h : Own w base 5 A n c (xs.map bv)) : RowAt w (blkOf (.slice A n c)) A n c xs := by
  have hl : xs.length = n := by have := h.1; simpa using this
  obtain ⟨h1, h2⟩ := h.cap
  refine ⟨hl, h1, h2, fun hn => ?_⟩
  obtain ⟨q, cap, hv, hb, hlt⟩ := World.ownsRow.form h hn
  injection hv with hA _ _
  subst hA
  refine ⟨0, rfl, hlt, fun j x hx => ?_⟩
  have := World.ownsRow.cells h (g := q) rfl j (bv x) (by rw [List.getElem?_map, hx]; rfl)
  have hadd : (⟨q, 0, none⟩ : Addr).add j = ⟨q, 0 + j, none⟩ := by unfold Addr.add; split <;> simp_all
  rwa [hadd] at this
/-- the block of a row that is the call's own: none, or one that is new -/
theorem Own.blk {base n c : Nat} {A : Option Addr} {e : TypeId} {xs : List Value} (h : Own w base e A n c xs) : blkOf (.slice A n c) = 0 ∨ (base ≤ blkOf (.slice A n c) ∧ blkOf (.slice A n c) < w.heap.size ∧ (Value.slice A n c).ownBlock = some (blkOf (.slice A n c))) := by
  rcases h.2 with ⟨hv, hn⟩ | ⟨q, cap, cur, hv, hb, hg, r⟩
  · injection hv with hA _ _
    subst hA
    exact .inl rfl
  · injection hv with hA _ _
    subst hA
    exact .inr ⟨hb, (Array.getElem?_eq_some_iff.1 hg).1, rfl⟩
end
end Go.Proofs.YtcmeoappddpmcaaDoor.infp
/-
  Get, Done, Rest of an unpacker between calls, apart from other rows. My own text.
-/
namespace Go.Proofs.YtcmeoappddpmcaaDoor.infp
open Go.RowKit Go.Proofs.YtcmeoappddpmcaaDoor.base Go.Proofs.YtcmeoappddpmcaaDoor.num Go.Proofs.YtcmeoappddpmcaaDoor.bitnum Go.Proofs.YtcmeoappddpmcaaDoor.bitp Go.Proofs.YtcmeoappddpmcaaDoor.huffnum Go.Proofs.YtcmeoappddpmcaaDoor.huffp Go.Proofs.YtcmeoappddpmcaaDoor.infnum
set_option linter.unusedVariables false

/-- what isn't right, or lacks, behind X -/
def Bad (b X : List UInt8) (er : Nat) : Prop := ∃ s P, infnum.Steps (num b) (8 * b.length) (infnum.start, 0) (s, P) ∧ ¬ Fin s ∧ infnum.one s (num b) (8 * b.length) P = .error er ∧ s.out = X
theorem fin_no {s : At} {U T p e : Nat} (h : infnum.one s U T p = .error e) (he : e ≠ 0) : ¬ Fin s := fun hf => by
  unfold infnum.one at h
  rw [hf.1] at h
  simp only [hf.2, if_true] at h
  injection h with h
  exact he h.symm
section
variable {S S' S0 R R' : List Nat} {w0 w w' : World} {g o p k P M N : Nat} {v : V} {b H H0 X : List UInt8} {rl wl : List Nat} {s : At}
theorem Any.next (h : Any w v s H) : v.next ≠ 4 := by
  rcases h with h | h | ⟨a, b, _, h, _⟩ | ⟨a, b, X, _, h, _⟩
  · rw [h.2]; decide
  · rw [h.2.1]; decide
  · rw [h]; decide
  · rw [h]; decide
theorem Pend.le {X : List UInt8} (h : Pend v H X) : H.length ≤ X.length := by
  rcases h with ⟨_, _, rfl⟩ | ⟨_, _, rfl⟩
  · rw [List.length_append]; omega
  · obtain ⟨m, hm, _⟩ := infnum.copied_more v.back v.left H
    rw [hm, List.length_append]; omega
theorem Any.out (h : Any w v s H) : H.length ≤ s.out.length := by
  rcases h with h | h | ⟨a, b, h, _⟩ | ⟨a, b, X, h, _, _, hp, _⟩
  · rw [h.1]; exact Nat.le_refl _
  · rw [h.1]; exact Nat.le_refl _
  · rw [h]; exact Nat.le_refl _
  · rw [h]; exact hp.le
theorem Any.past (ha : Any w v s H) (t : Turn R R w w') (hT : ∀ x ∈ R, Ty w x 5) : Any w' v s H := by
  rcases ha with ha | ha | ⟨xa, xb, e, hn, hU, hq⟩ | ⟨xa, xb, X, e, hn, hU, hP, hl, hq⟩
  · exact .inl ha
  · exact .inr (.inl ha)
  · exact .inr (.inr (.inl ⟨xa, xb, e, hn, UseAt.aside (v' := v) hU t hT rfl rfl, hq⟩))
  · exact .inr (.inr (.inr ⟨xa, xb, X, e, hn, UseAt.aside (v' := v) hU t hT rfl rfl, hP, hl, hq⟩))
/-- of what was there only blocks from N on have turned, and none of R -/
def TurnX (w w' : World) (R : List Nat) (N : Nat) : Prop := ∃ S S', Turn S S' w w' ∧ (∀ x ∈ S, N ≤ x) ∧ ∀ x ∈ R, x ∉ S
end
/-! when all is unpacked -/
end Go.Proofs.YtcmeoappddpmcaaDoor.infp
/-
  The contract of All. My own text.
-/
namespace Go.Proofs.YtcmeoappddpmcaaDoor.infp
open Go.RowKit Go.Proofs.YtcmeoappddpmcaaDoor.base Go.Proofs.YtcmeoappddpmcaaDoor.num Go.Proofs.YtcmeoappddpmcaaDoor.bitnum Go.Proofs.YtcmeoappddpmcaaDoor.bitp Go.Proofs.YtcmeoappddpmcaaDoor.huffnum Go.Proofs.YtcmeoappddpmcaaDoor.huffp Go.Proofs.YtcmeoappddpmcaaDoor.infnum
set_option linter.unusedVariables false

theorem results_tmp3 {fn : Func} {t u v : Tmp} (h : fn.results = #[.tmp t, .tmp u, .tmp v]) (tmps : Array Value) (P : Program) (w : World) :
    (results fn tmps).run P w = .ok (.tuple #[tmps.getD t undef, tmps.getD u undef, tmps.getD v undef]) w := by
  simp [results, h]
/-- how long a slice is -/
def lenOf : Value → Nat
  | .slice _ n _ => n
  | _ => 0
/-- 0 if an unpacker has ended, by the memory -/
def openAt (g : Nat) (w : World) : Nat := match w.cell? ⟨g, 5, none⟩ with
  | some (.int _ z) => if z = 4 then 0 else 1
  | _ => 1
theorem TurnX.fresh {W w w' : World} {R : List Nat} (h : TurnX w w' R W.heap.size) (hf : Fresh W w) : Fresh W w' := by
  obtain ⟨S, S', hT, hN, _⟩ := h
  exact hT.new hf hN
theorem TurnX.own {w w' : World} {base n c N : Nat} {e : TypeId} {A : Option Addr} {xs : List Value} (h : TurnX w w' (rb A n c) N) (ho : Own w base e A n c xs) : Own w' base e A n c xs := by
  obtain ⟨S, S', hT, _, hR⟩ := h
  exact bitp.Own.turn ho hT fun x hx e => hR x (by simp [rb, e]) hx
/-- what All tells -/
def AllIs (w : World) (b : List UInt8) (most : Nat) (e : Ending) (w' : World) : Prop :=
  Fresh w w' ∧ ∃ a, Tells b most a ∧ match a with
    | .ok x n => ∃ A c, e = .returned (.tuple #[.slice A x.length c, .int .i64 (n : Nat), .int .i64 0]) ∧ Own w' w.heap.size 5 A x.length c (x.map bv)
    | .long => e = .returned (.tuple #[.slice none 0 0, .int .i64 0, .int .i64 10])
    | .bad er => er ≠ 0 ∧ e = .returned (.tuple #[.slice none 0 0, .int .i64 0, .int .i64 (er : Nat)])
end Go.Proofs.YtcmeoappddpmcaaDoor.infp
