import Derived.Test.YtppgceighgpgoaaGreatDoorMgLnA
/- Several of my own texts, one behind the other. -/
/-
  Sorting by swaps: plain mathematics, over no program. My own text.
-/
namespace Go.Proofs.YtppgceighgpgoaaGreatDoor.sortnum
set_option linter.unusedVariables false

def lst (f : Nat → Int) (n : Nat) : List Int := (List.range n).map f
theorem lst_len (f : Nat → Int) (n : Nat) : (lst f n).length = n := by simp [lst]
theorem lst_get (f : Nat → Int) {n i : Nat} (h : i < n) : (lst f n)[i]? = some (f i) := by simp [lst, h]
/-- two are swapped -/
def sw (f : Nat → Int) (i j : Nat) : Nat → Int := fun x => if x = i then f j else if x = j then f i else f x
theorem lst_sw (f : Nat → Int) {n i j : Nat} (hi : i < n) (hj : j < n) : ((lst f n).set i (f j)).set j (f i) = lst (sw f i j) n := by
  refine List.ext_getElem? fun x => ?_
  by_cases hx : x < n
  · rw [List.getElem?_set, List.length_set, lst_len, List.getElem?_set, lst_len, lst_get f hx, lst_get _ hx]
    simp only [sw]
    (repeat' split) <;> first | rfl | omega | (subst_vars; first | rfl | omega)
  · rw [List.getElem?_eq_none (by simp [lst_len]; omega), List.getElem?_eq_none (by simp [lst_len]; omega)]
theorem perm_sw (f : Nat → Int) {n i j : Nat} (hi : i < n) (hj : j < n) : (lst (sw f i j) n).Perm (lst f n) := by
  have h1 : i < (lst f n).length := by rw [lst_len]; exact hi
  have h2 : j < (lst f n).length := by rw [lst_len]; exact hj
  have e1 : (lst f n)[i] = f i := by simp [lst]
  have e2 : (lst f n)[j] = f j := by simp [lst]
  have := List.set_set_perm h1 h2
  rw [e1, e2, lst_sw f hi hj] at this
  exact this

/-- in order from a to b -/
def Srt (k : Nat → Int) (a b : Nat) : Prop := ∀ i j, a ≤ i → i ≤ j → j < b → k i ≤ k j
/-- only what is from a to b has changed places -/
structure Wn (a b n : Nat) (f f' : Nat → Int) : Prop where
  out : ∀ i, i < a ∨ b ≤ i → f' i = f i
  ins : ∀ i, a ≤ i → i < b → ∃ j, a ≤ j ∧ j < b ∧ f' i = f j
  perm : (lst f' n).Perm (lst f n)
theorem Wn.refl (a b n : Nat) (f : Nat → Int) : Wn a b n f f := ⟨fun _ _ => rfl, fun i h1 h2 => ⟨i, h1, h2, rfl⟩, List.Perm.refl _⟩
theorem Wn.trans {a b n : Nat} {f g h : Nat → Int} (h1 : Wn a b n f g) (h2 : Wn a b n g h) : Wn a b n f h :=
  ⟨fun i hi => (h2.out i hi).trans (h1.out i hi), fun i ha hb => by
    obtain ⟨j, ja, jb, e⟩ := h2.ins i ha hb
    obtain ⟨l, la, lb, e2⟩ := h1.ins j ja jb
    exact ⟨l, la, lb, e.trans e2⟩, h2.perm.trans h1.perm⟩
theorem Wn.mono {a b a' b' n : Nat} {f g : Nat → Int} (h : Wn a b n f g) (ha : a' ≤ a) (hb : b ≤ b') : Wn a' b' n f g :=
  ⟨fun i hi => h.out i (by omega), fun i h1 h2 => by
    by_cases hc : i < a ∨ b ≤ i
    · exact ⟨i, h1, h2, h.out i hc⟩
    · obtain ⟨j, ja, jb, e⟩ := h.ins i (by omega) (by omega)
      exact ⟨j, by omega, by omega, e⟩, h.perm⟩
theorem Wn.sw {a b n : Nat} (f : Nat → Int) {i j : Nat} (hi : a ≤ i ∧ i < b) (hj : a ≤ j ∧ j < b) (hb : b ≤ n) : Wn a b n f (sw f i j) :=
  ⟨fun x hx => by unfold sortnum.sw; rw [if_neg (by omega), if_neg (by omega)], fun x h1 h2 => by
    unfold sortnum.sw
    split
    · exact ⟨j, hj.1, hj.2, rfl⟩
    · split
      · exact ⟨i, hi.1, hi.2, rfl⟩
      · exact ⟨x, h1, h2, rfl⟩, perm_sw f (by omega) (by omega)⟩
/-- what holds of all holds of all still -/
theorem Wn.all {a b n : Nat} {f g : Nat → Int} (h : Wn a b n f g) {P : Int → Prop} (hp : ∀ i, i < n → P (f i)) (hb : b ≤ n) : ∀ i, i < n → P (g i) := fun i hi => by
  by_cases hc : i < a ∨ b ≤ i
  · rw [h.out i hc]; exact hp i hi
  · obtain ⟨j, ja, jb, e⟩ := h.ins i (by omega) (by omega)
    rw [e]; exact hp j (by omega)

/-- two rows of k change places -/
def swr (f : Nat → Int) (a b k : Nat) : Nat → Int := fun x => if a ≤ x ∧ x < a + k then f (b + (x - a)) else if b ≤ x ∧ x < b + k then f (a + (x - b)) else f x
theorem swr_zero (f : Nat → Int) (a b : Nat) : swr f a b 0 = f := by
  funext x; unfold swr; rw [if_neg (by omega), if_neg (by omega)]
theorem swr_step (f : Nat → Int) {a b k : Nat} (h : a + k < b) : sw (swr f a b k) (a + k) (b + k) = swr f a b (k + 1) := by
  funext x
  simp only [sw, swr]
  (repeat' split) <;> first | rfl | (congr 1; omega) | omega
/-- the i from s on, and the j behind them, change places -/
def exch (f : Nat → Int) (s i j : Nat) : Nat → Int := fun x => if s ≤ x ∧ x < s + j then f (x + i) else if s + j ≤ x ∧ x < s + j + i then f (x - j) else f x
theorem exch_same (f : Nat → Int) (s i : Nat) : swr f s (s + i) i = exch f s i i := by
  funext x
  simp only [swr, exch]
  (repeat' split) <;> first | rfl | (congr 1; omega) | omega
theorem exch_left (f : Nat → Int) {s i j : Nat} (h : j < i) : exch (swr f s (s + i) j) (s + j) (i - j) j = exch f s i j := by
  funext x
  simp only [swr, exch]
  (repeat' split) <;> first | (congr 1; omega) | omega
theorem exch_right (f : Nat → Int) {s i j : Nat} (h : i < j) : exch (swr f s (s + j) i) s i (j - i) = exch f s i j := by
  funext x
  simp only [swr, exch]
  (repeat' split) <;> first | (congr 1; omega) | omega
/-! one comes into its place -/
/-- in order but for what stands at j -/
def Sx (k : Nat → Int) (a i j : Nat) : Prop := ∀ p r, a ≤ p → p < r → r ≤ i → r ≠ j → k p ≤ k r
theorem Sx.start {k : Nat → Int} {a i : Nat} (h : Srt k a i) : Sx k a i i := fun p r hp hpr hr hne => h p r hp (by omega) (by omega)
theorem Sx.step {key : Int → Int} {f : Nat → Int} {a i j : Nat} (h : Sx (fun x => key (f x)) a i j) (haj : a < j) (hji : j ≤ i) (hlt : key (f j) < key (f (j - 1))) : Sx (fun x => key (sw f j (j - 1) x)) a i (j - 1) := by
  intro p r hp hpr hr hne
  have hs : ∀ x, sw f j (j - 1) x = if x = j then f (j - 1) else if x = j - 1 then f j else f x := fun x => rfl
  simp only [hs]
  by_cases e1 : r = j
  · subst e1
    rw [if_neg (by omega), if_pos rfl]
    by_cases e2 : p = r - 1
    · rw [if_pos e2]; omega
    · rw [if_neg e2]
      exact h p (r - 1) hp (by omega) (by omega) (by omega)
  · rw [if_neg e1, if_neg hne]
    by_cases e2 : p = j
    · rw [if_pos e2]
      exact h (j - 1) r (by omega) (by omega) hr e1
    · rw [if_neg e2]
      by_cases e3 : p = j - 1
      · rw [if_pos e3]
        exact h j r (by omega) (by omega) hr e1
      · rw [if_neg e3]
        exact h p r hp hpr hr e1
theorem Sx.done {k : Nat → Int} {a i j : Nat} (h : Sx k a i j) (hj : j = a ∨ (a < j ∧ k (j - 1) ≤ k j)) : Srt k a (i + 1) := by
  intro p r hp hpr hr
  by_cases e : p = r
  · subst e; exact Int.le_refl _
  · by_cases e2 : r = j
    · subst e2
      rcases hj with hj | hj
      · omega
      · by_cases e3 : p = r - 1
        · subst e3; exact hj.2
        · exact Int.le_trans (h p (r - 1) hp (by omega) (by omega) (by omega)) hj.2
    · exact h p r hp (by omega) (by omega) e2
end Go.Proofs.YtppgceighgpgoaaGreatDoor.sortnum
/-
  slices.SortStableFunc of symbols: swapRange, rotate. My own text.
-/
namespace Go.Proofs.YtppgceighgpgoaaGreatDoor.sortp
open Go.RowKit Go.Proofs.YtppgceighgpgoaaGreatDoor.base Go.Proofs.YtppgceighgpgoaaGreatDoor.sortnum
set_option linter.unusedVariables false

/-- a block whose first n cells are f -/
abbrev DAt (W : World) (g n : Nat) (R : List Value) (f : Nat → Int) : Prop := Bk W g 3 ((lst f n).map iv ++ R)
theorem DAt.at_ {W : World} {g n : Nat} {R : List Value} {f : Nat → Int} (h : DAt W g n R f) {i : Nat} (hi : i < n) : W.cell? ⟨g, i, none⟩ = some (.int .i64 (f i)) := by
  refine h.cell ?_
  rw [List.getElem?_append_left (by rw [List.length_map, lst_len]; exact hi), List.getElem?_map, lst_get f hi]
  rfl
theorem DAt.swap {W : World} {g n : Nat} {R : List Value} {f : Nat → Int} (h : DAt W g n R f) {i j : Nat} (hi : i < n) (hj : j < n) : DAt ((W.setCell ⟨g, i, none⟩ (.int .i64 (f j))).setCell ⟨g, j, none⟩ (.int .i64 (f i))) g n R (sw f i j) := by
  have h2 := (h.put i (.int .i64 (f j))).put j (.int .i64 (f i))
  have e : (((lst f n).map iv ++ R).set i (.int .i64 (f j))).set j (.int .i64 (f i)) = (lst (sw f i j) n).map iv ++ R := by
    rw [List.set_append_left _ _ (by rw [List.length_map, lst_len]; exact hi), List.set_append_left _ _ (by rw [List.length_set, List.length_map, lst_len]; exact hj), ← lst_sw f hi hj, List.map_set, List.map_set]
  rw [e] at h2
  exact h2
theorem But.two {g i j : Nat} (w : World) (u v : Value) : But g w ((w.setCell ⟨g, i, none⟩ u).setCell ⟨g, j, none⟩ v) := (But.put w u).trans (But.put _ v)

set_option maxHeartbeats 4000000 in
theorem swap_any (g n c a b k q : Nat) (R : List Value) (f : Nat → Int) (w : World) (h : DAt w g n R f) (hab : a + k ≤ b) (hb : b + k ≤ n) (hn : n ≤ 1000) :
    Calls Tryz.prog 112 #[.slice (some ⟨g, 0, none⟩) n c, .int .i64 a, .int .i64 b, .int .i64 k, kv q] w fun e w' => e = .returned (.tuple #[]) ∧ DAt w' g n R (swr f a b k) ∧ But g w w' := by
  go_enter Tryz.func112, Tryz.ntmps112
  go_wp2
  go_loopw [10] (fun t wr => ∃ j : Nat, t = .int .i64 j ∧ j ≤ k ∧ DAt wr g n R (swr f a b j) ∧ But g w wr) (fun t _ => k - (intOf t).toNat)
  case atStart => exact ⟨0, rfl, by omega, by rw [swr_zero]; exact h, But.refl _ _⟩
  case round =>
    obtain ⟨j, rfl, hj, hD, hB⟩ := hrel
    by_cases hlt : j < k
    · obtain ⟨x, hx⟩ : ∃ x, a + j = x := ⟨_, rfl⟩
      obtain ⟨y, hy⟩ : ∃ y, b + j = y := ⟨_, rfl⟩
      have hD2 := hD.fresh (Fresh.drew wr)
      have cx := hD.at_ (i := x) (by omega)
      have cy := hD.at_ (i := y) (by omega)
      have fx := hD.free x
      have fy := hD.free y
      have hs := (hD.swap (i := x) (j := y) (by omega) (by omega))
      have hst := swr_step f (a := a) (b := b) (k := j) (by omega)
      rw [hx, hy] at hst
      rw [hst] at hs
      obtain ⟨u, hu⟩ : ∃ u, swr f a b j x = u := ⟨_, rfl⟩
      obtain ⟨v, hv⟩ : ∃ v, swr f a b j y = v := ⟨_, rfl⟩
      rw [hu] at cx hs
      rw [hv] at cy hs
      have ex : IntKind.i64.wrap ((a : Int) + (j : Int)) = (x : Int) := by rw [IntWalk.i64_in _ (by omega)]; omega
      have ey : IntKind.i64.wrap ((b : Int) + (j : Int)) = (y : Int) := by rw [IntWalk.i64_in _ (by omega)]; omega
      have x0 : (0 : Int) ≤ (x : Int) := by omega
      have y0 : (0 : Int) ≤ (y : Int) := by omega
      have x1 : (x : Int) < (n : Int) := by omega
      have y1 : (y : Int) < (n : Int) := by omega
      have hne : (x = y) = False := by simp; omega
      have hne2 : (y = x) = False := by simp; omega
      have HS := Lib.hid hs
      have HB := Lib.hid hB
      have HXY := Lib.hid (And.intro hx hy)
      clear hD hD2 hst hs hu hv hB hx hy h
      go_wp2
      go_region
      have hD3 := HS.out.fresh (Fresh.drew _)
      have hB3 := (HB.out.trans (But.two (g := g) (i := x) (j := y) wr (.int .i64 v) (.int .i64 u))).trans (But.of_fresh (Fresh.drew _))
      have HD3 := Lib.hid hD3
      have HB3 := Lib.hid hB3
      clear hD3 hB3 cx cy fx fy
      generalize ((wr.setCell ⟨g, x, none⟩ (.int .i64 v)).setCell ⟨g, y, none⟩ (.int .i64 u)).drew = V at *
      go_wp2
      go_roundw
      case rel => exact ⟨j + 1, by go_num, by omega, HD3.out, HB3.out⟩
      case measure => simp [intOf]; omega
    · go_wp2
      go_end0
      obtain rfl : j = k := by omega
      exact ⟨rfl, hD, hB⟩
set_option maxHeartbeats 8000000 in
theorem rotate_any (g n c a m b q : Nat) (R : List Value) (f : Nat → Int) (w : World) (h : DAt w g n R f) (ham : a < m) (hmb : m < b) (hb : b ≤ n) (hn : n ≤ 1000) :
    Calls Tryz.prog 110 #[.slice (some ⟨g, 0, none⟩) n c, .int .i64 a, .int .i64 m, .int .i64 b, kv q] w fun e w' => e = .returned (.tuple #[]) ∧ DAt w' g n R (exch f a (m - a) (b - m)) ∧ But g w w' := by
  obtain ⟨T, hT⟩ : ∃ T, exch f a (m - a) (b - m) = T := ⟨_, rfl⟩
  rw [hT]
  obtain ⟨i0, hi0⟩ : ∃ i0, m - a = i0 := ⟨_, rfl⟩
  obtain ⟨j0, hj0⟩ : ∃ j0, b - m = j0 := ⟨_, rfl⟩
  rw [hi0, hj0] at hT
  have ei : (m : Int) - (a : Int) = (i0 : Int) := by omega
  have ej : (b : Int) - (m : Int) = (j0 : Int) := by omega
  have ei' : IntKind.i64.wrap ((m : Int) - (a : Int)) = (i0 : Int) := by rw [IntWalk.i64_in _ (by omega)]; omega
  have ej' : IntKind.i64.wrap ((b : Int) - (m : Int)) = (j0 : Int) := by rw [IntWalk.i64_in _ (by omega)]; omega
  go_enter Tryz.func110, Tryz.ntmps110
  go_wp2
  go_loopw [10, 11] (fun vi vj wr => ∃ (i j : Nat) (F : Nat → Int), vi = .int .i64 i ∧ vj = .int .i64 j ∧ 1 ≤ i ∧ 1 ≤ j ∧ i ≤ m ∧ m + j ≤ n ∧ DAt wr g n R F ∧ Hid (exch F (m - i) i j = T) ∧ But g w wr) (fun vi vj _ => (intOf vi + intOf vj).toNat)
  case atStart => exact ⟨i0, j0, f, rfl, rfl, by omega, by omega, by omega, by omega, h, by show _ = _; rw [← hT]; congr 1; omega, But.refl _ _⟩
  case round =>
    obtain ⟨i, j, F, rfl, rfl, hi1, hj1, him, hjn, hD, hE, hB⟩ := hrel
    clear ei ej ei' ej' hT hi0 hj0 h
    obtain ⟨x, hx⟩ : ∃ x, m - i = x := ⟨_, rfl⟩
    have ex : (m : Int) - (i : Int) = (x : Int) := by omega
    rw [hx] at hE
    by_cases hij : i = j
    · subst hij
      have hsw := swap_any g n c x m i q R F wr hD (by omega) (by omega) hn
      have es : swr F x m i = T := by
        have := exch_same F x i
        rw [show x + i = m by omega] at this
        rw [this]
        exact hE.out
      rw [es] at hsw
      have HSW := Lib.hid hsw
      have HB := Lib.hid hB
      clear hsw es hD hB hx
      go_wp2_with (go_at_call 112; (refine HSW.out.mono ?_); rintro e w1 ⟨rfl, hD1, hB1⟩)
      go_end0
      exact ⟨rfl, hD1, HB.out.trans hB1⟩
    · by_cases hlt : j < i
      · obtain ⟨z, hz⟩ : ∃ z, i - j = z := ⟨_, rfl⟩
        have ez : (i : Int) - (j : Int) = (z : Int) := by omega
        have hsw := swap_any g n c x m j q R F wr hD (by omega) (by omega) hn
        have es : exch (swr F x m j) (m - z) z j = T := by
          have := exch_left F (s := x) (i := i) (j := j) hlt
          rw [show x + i = m by omega, hz, show x + j = m - z by omega] at this
          rw [this]
          exact hE.out
        have HES := Lib.hid es
        have HSW := Lib.hid hsw
        have HB := Lib.hid hB
        have tn : ((i : Int) != (j : Int)) = true := by rw [bne_iff_ne]; omega
        clear hsw es hD hB
        go_wp2_with (go_at_call 112; (refine HSW.out.mono ?_); rintro e w1 ⟨rfl, hD1, hB1⟩)
        go_roundw
        case rel => exact ⟨z, j, _, by go_num, rfl, by omega, hj1, by omega, hjn, hD1, HES.out, HB.out.trans hB1⟩
        case measure => simp [intOf]; omega
      · obtain ⟨z, hz⟩ : ∃ z, j - i = z := ⟨_, rfl⟩
        obtain ⟨y, hy⟩ : ∃ y, m + j - i = y := ⟨_, rfl⟩
        have ez : (j : Int) - (i : Int) = (z : Int) := by omega
        have ey : (m : Int) + (j : Int) - (i : Int) = (y : Int) := by omega
        have hsw := swap_any g n c x y i q R F wr hD (by omega) (by omega) hn
        have es : exch (swr F x y i) (m - i) i z = T := by
          have := exch_right F (s := x) (i := i) (j := j) (by omega)
          rw [show x + j = y by omega, hz] at this
          rw [hx, this]
          exact hE.out
        have HES := Lib.hid es
        have HSW := Lib.hid hsw
        have HB := Lib.hid hB
        have tn : ((i : Int) != (j : Int)) = true := by rw [bne_iff_ne]; omega
        clear hsw es hD hB
        go_wp2_with (go_at_call 112; (refine HSW.out.mono ?_); rintro e w1 ⟨rfl, hD1, hB1⟩)
        go_roundw
        case rel => exact ⟨i, z, _, rfl, by go_num, hi1, by omega, him, by omega, hD1, HES.out, HB.out.trans hB1⟩
        case measure => simp [intOf]; omega
end Go.Proofs.YtppgceighgpgoaaGreatDoor.sortp
/-
  slices.SortStableFunc of symbols: insertionSort. My own text.
-/
namespace Go.Proofs.YtppgceighgpgoaaGreatDoor.sortp
open Go.RowKit Go.Proofs.YtppgceighgpgoaaGreatDoor.base Go.Proofs.YtppgceighgpgoaaGreatDoor.sortnum
set_option linter.unusedVariables false

/-- by how often they come -/
abbrev kf (cs : List Int) (f : Nat → Int) : Nat → Int := fun x => key2 cs (f x)
/-- what is ahead is below what is behind -/
def Lr (f : Nat → Int) (a m b : Nat) : Prop := ∀ p r, a ≤ p → p < m → m ≤ r → r < b → f p < f r
/-- what stands from a to k came from there -/
def Pre (f F : Nat → Int) (a k : Nat) : Prop := (∀ p, a ≤ p → p < k → ∃ p', a ≤ p' ∧ p' < k ∧ F p = f p') ∧ ∀ x, k ≤ x → F x = f x
theorem Pre.refl (f : Nat → Int) (a k : Nat) : Pre f f a k := ⟨fun p h1 h2 => ⟨p, h1, h2, rfl⟩, fun _ _ => rfl⟩
theorem Pre.succ {f F : Nat → Int} {a k : Nat} (h : Pre f F a k) : Pre f F a (k + 1) := ⟨fun p h1 h2 => by
    by_cases hp : p < k
    · obtain ⟨p', q1, q2, q3⟩ := h.1 p h1 hp
      exact ⟨p', q1, by omega, q3⟩
    · exact ⟨p, h1, h2, h.2 p (by omega)⟩, fun x hx => h.2 x (by omega)⟩
theorem Pre.sw {f F : Nat → Int} {a k i j : Nat} (h : Pre f F a k) (hi : a ≤ i ∧ i < k) (hj : a ≤ j ∧ j < k) : Pre f (sw F i j) a k := ⟨fun p h1 h2 => by
    unfold sortnum.sw
    split
    · exact h.1 j hj.1 hj.2
    · split
      · exact h.1 i hi.1 hi.2
      · exact h.1 p h1 h2, fun x hx => by unfold sortnum.sw; rw [if_neg (by omega), if_neg (by omega)]; exact h.2 x hx⟩
/-- what is being put in is above all that is ahead -/
def Top (G : Nat → Int) (a i j : Nat) : Prop := ∀ p, a ≤ p → p ≤ i → p ≠ j → G p < G j
theorem Top.start {f F : Nat → Int} {a b i : Nat} (h : Pre f F a i) (hinc : ∀ p r, a ≤ p → p < r → r < b → f p < f r) (hi : i < b) : Top F a i i := fun p h1 h2 hne => by
  obtain ⟨p', q1, q2, q3⟩ := h.1 p h1 (by omega)
  rw [q3, h.2 i (Nat.le_refl _)]
  exact hinc p' i q1 q2 hi
theorem Top.step {G : Nat → Int} {a i j p : Nat} (h : Top G a i j) (hp : a ≤ p) (hpi : p ≤ i) (hne : p ≠ j) : Top (sw G j p) a i p := fun x h1 h2 hx => by
  unfold sortnum.sw
  rw [if_neg hne, if_pos rfl]
  split
  · exact h p hp hpi hne
  · rename_i hxj
    exact h x h1 h2 hxj
theorem Cnt.but {W W' : World} {q B g : Nat} {cs : List Int} (h : Cnt W q B cs) (hB : B ≤ g) (hg : g < W.heap.size) (hb : But g W W') : Cnt W' q B cs :=
  h.keep fun k hk => hb.block k (by omega) (by simp; omega)
theorem Cnt.drewN {W : World} {q B : Nat} {cs : List Int} (h : Cnt W q B cs) (m : Nat) : Cnt (W.drewN m) q B cs := h.keep fun k hk => rfl
/-- what the closure answers in a region that only reads -/
theorem cmp_quiet {W : World} {q B m : Nat} {cs : List Int} {x y : Int} (h : Cnt W q B cs) (hx : ok cs x) (hy : ok cs y) :
    Calls Tryz.prog 67 #[.int .i64 x, .int .i64 y, .pointer (some ⟨q, 0, none⟩)] (W.drewN m) fun e w' => e = .returned (.int .i64 (cmp3 (key cs x) (key cs y))) ∧ ∃ m', w' = W.drewN m' :=
  Calls.quiet_of (cmp_any q B cs x y _ (h.drewN m) hx hy)

set_option maxHeartbeats 8000000 in
theorem insertion_any (g n c a b q B : Nat) (R : List Value) (cs : List Int) (f : Nat → Int) (w : World) (h : DAt w g n R f) (hab : a ≤ b) (hb : b ≤ n) (hn : n ≤ 1000) (hC : Cnt w q B cs) (hBg : B ≤ g) (hok : ∀ i, i < n → ok cs (f i)) (hinc : ∀ p r, a ≤ p → p < r → r < b → f p < f r) :
    Calls Tryz.prog 104 #[.slice (some ⟨g, 0, none⟩) n c, .int .i64 a, .int .i64 b, kv q] w fun e w' => e = .returned (.tuple #[]) ∧ ∃ f', DAt w' g n R f' ∧ Wn a b n f f' ∧ Srt (kf cs f') a b ∧ But g w w' := by
  have hgw := h.inside
  have HC := Lib.hid hC
  have HOK := Lib.hid hok
  have HINC := Lib.hid hinc
  clear hC hok hinc
  go_enter Tryz.func104, Tryz.ntmps104
  go_wp2
  go_loopw [8] (fun t wr => ∃ (i : Nat) (F : Nat → Int), t = .int .i64 i ∧ a + 1 ≤ i ∧ (i ≤ b ∨ i = a + 1) ∧ DAt wr g n R F ∧ Hid (Wn a b n f F) ∧ Hid (Srt (kf cs F) a i) ∧ Hid (Pre f F a i) ∧ But g w wr) (fun t _ => b - (intOf t).toNat)
  case atStart => exact ⟨a + 1, f, by go_num, by omega, by omega, h, Wn.refl _ _ _ _, fun p r hp hpr hr => by rw [show p = r by omega]; exact Int.le_refl _, Pre.refl _ _ _, But.refl _ _⟩
  case round =>
    obtain ⟨i, F, rfl, hi1, hi2, hD, hW, hS, hPR, hB⟩ := hrel
    by_cases hlt : i < b
    · clear h hi2
      go_wp2
      go_loopw [9] (fun t wx => ∃ (j : Nat) (G : Nat → Int), t = .int .i64 j ∧ a ≤ j ∧ j ≤ i ∧ DAt wx g n R G ∧ Hid (Wn a b n f G) ∧ Hid (Sx (kf cs G) a i j) ∧ Hid (Pre f G a (i + 1)) ∧ Hid (Top G a i j) ∧ But g w wx) (fun t _ => (intOf t).toNat)
      case atStart => exact ⟨i, F, rfl, by omega, by omega, hD, hW, Sx.start hS.out, Pre.succ hPR.out, Top.start hPR.out HINC.out hlt, hB⟩
      case round =>
        obtain ⟨j, G, rfl, hj1, hj2, hD2, hW2, hX2, hPG, hTG, hB2⟩ := hrel
        clear hD hW hS hPR hB
        by_cases haj : a < j
        · obtain ⟨p, hp⟩ : ∃ p, j - 1 = p := ⟨_, rfl⟩
          have ep : IntKind.i64.wrap ((j : Int) - 1) = (p : Int) := by rw [IntWalk.i64_in _ (by omega)]; omega
          have cx := hD2.at_ (i := j) (by omega)
          have cy := hD2.at_ (i := p) (by omega)
          have fx := hD2.free j
          have fy := hD2.free p
          have hs := (hD2.swap (i := j) (j := p) (by omega) (by omega))
          have hallok := hW2.out.all (P := ok cs) HOK.out hb
          have hCx := HC.out.but hBg hgw hB2
          have hx := hallok j (by omega)
          have hy := hallok p (by omega)
          obtain ⟨u, hu⟩ : ∃ u, G j = u := ⟨_, rfl⟩
          obtain ⟨v, hv⟩ : ∃ v, G p = v := ⟨_, rfl⟩
          rw [hu] at cx hs hx
          rw [hv] at cy hs hy
          have hcmp := fun m => cmp_quiet (m := m) hCx hx hy
          have x0 : (0 : Int) ≤ (j : Int) := by omega
          have y0 : (0 : Int) ≤ (p : Int) := by omega
          have x1 : (j : Int) < (n : Int) := by omega
          have y1 : (p : Int) < (n : Int) := by omega
          have ta : decide ((a : Int) < (j : Int)) = true := by rw [decide_eq_true_iff]; omega
          have hne : (j = p) = False := by simp; omega
          have hne2 : (p = j) = False := by simp; omega
          have HS := Lib.hid hs
          have HB2 := Lib.hid hB2
          have HU := Lib.hid (And.intro hu hv)
          have HP := Lib.hid hp
          have HCMP := Lib.hid hcmp
          obtain ⟨r, hr⟩ : ∃ r, cmp3 (key cs u) (key cs v) = r := ⟨_, rfl⟩
          have hlt3 := cmp3_lt2 (cs := cs) hx hy (by rw [← hu, ← hv]; exact hTG.out p (by omega) (by omega) (by omega))
          rw [hr] at hlt3 hcmp
          have hPG3 := Lib.hid (Pre.sw hPG.out (i := j) (j := p) ⟨by omega, by omega⟩ ⟨by omega, by omega⟩)
          have hTG3 := Lib.hid (Top.step hTG.out (p := p) (by omega) (by omega) (by omega))
          have HCMP2 := Lib.hid hcmp
          by_cases hk : key2 cs u < key2 cs v
          · have tr : decide (r < 0) = true := by rw [hlt3]; exact decide_eq_true hk
            have hX3 := Sx.step (key := key2 cs) (f := G) hX2.out haj hj2 (by rw [hp, hu, hv]; exact hk)
            rw [hp] at hX3
            have hW3 := hW2.out.trans (Wn.sw G (i := j) (j := p) (a := a) (b := b) ⟨by omega, by omega⟩ ⟨by omega, by omega⟩ hb)
            have HX3 := Lib.hid hX3
            have HW3 := Lib.hid hW3
            have HD2 := Lib.hid hD2
            clear hD2 hs hallok hCx hx hy hu hv hcmp hB2 hp hr hlt3 hk hX3 hW3 HCMP hX2 hW2 HS
            go_wp2
            go_quiet (with_reducible exact HCMP2.out _)
            have hs := DAt.swap (HD2.out.fresh (Fresh.drewN wr nq)) (i := j) (j := p) (by omega) (by have := HP.out; omega)
            have cx' : (wr.drewN nq).cell? ⟨g, j, none⟩ = some (.int .i64 u) := cx
            have cy' : (wr.drewN nq).cell? ⟨g, p, none⟩ = some (.int .i64 v) := cy
            have fx' : (wr.drewN nq).frozen? ⟨g, j, none⟩ = false := fx
            have fy' : (wr.drewN nq).frozen? ⟨g, p, none⟩ = false := fy
            rw [HU.out.1, HU.out.2] at hs
            have hb3 := HB2.out.trans (But.drewN wr nq)
            have HS := Lib.hid hs
            have HB3 := Lib.hid hb3
            clear hs hb3 cx cy fx fy HD2
            generalize wr.drewN nq = W2 at *
            go_wp2
            go_region
            have hD3 := HS.out.fresh (Fresh.drew _)
            have hB4 := (HB3.out.trans (But.two (g := g) (i := j) (j := p) W2 (.int .i64 v) (.int .i64 u))).trans (But.of_fresh (Fresh.drew _))
            have HD3 := Lib.hid hD3
            have HB4 := Lib.hid hB4
            clear hD3 hB4 cx' cy' fx' fy' HS HB3
            generalize ((W2.setCell ⟨g, j, none⟩ (.int .i64 v)).setCell ⟨g, p, none⟩ (.int .i64 u)).drew = V at *
            go_wp2
            go_roundw
            case rel => exact ⟨p, _, by first | rfl | go_num, by have := HP.out; omega, by have := HP.out; omega, HD3.out, HW3.out, HX3.out, hPG3.out, hTG3.out, HB4.out⟩
            case measure => simp [intOf]; have := HP.out; omega
          · have tr : decide (r < 0) = false := by rw [hlt3]; exact decide_eq_false hk
            have hS3 := Sx.done hX2.out (Or.inr ⟨haj, by rw [hp]; show key2 cs (G p) ≤ key2 cs (G j); rw [hu, hv]; omega⟩)
            have HD2 := Lib.hid hD2
            have HS3 := Lib.hid hS3
            clear hD2 hs hallok hCx hx hy hu hv hcmp hB2 hp hr hlt3 hk HCMP hX2 HS hS3
            go_wp2
            go_quiet (with_reducible exact HCMP2.out _)
            have hd3 := HD2.out.fresh (Fresh.drewN wr nq)
            have hb3 := HB2.out.trans (But.drewN wr nq)
            clear cx cy fx fy HD2
            generalize wr.drewN nq = W2 at *
            go_wp2
            go_roundw
            case rel => exact ⟨i + 1, G, by go_num, by omega, by omega, hd3, hW2, HS3.out, hPG, hb3⟩
            case measure => simp [intOf]; omega
        · obtain rfl : j = a := by omega
          have ta : decide ((j : Int) < (j : Int)) = false := by simp
          have hS3 := Sx.done hX2.out (Or.inl rfl)
          have HS3 := Lib.hid hS3
          clear hX2 hS3
          go_wp2
          go_quiet (fail)
          have hd3 := hD2.fresh (Fresh.drewN wr nq)
          have hb3 := hB2.trans (But.drewN wr nq)
          clear hD2 hB2
          generalize wr.drewN nq = W2 at *
          go_wp2
          go_roundw
          case rel => exact ⟨i + 1, G, by go_num, by omega, by omega, hd3, hW2, HS3.out, hPG, hb3⟩
          case measure => simp [intOf]; omega
    · go_wp2
      go_end0
      refine ⟨rfl, F, hD, hW.out, ?_, hB⟩
      intro p r hp hpr hr
      exact hS.out p r hp hpr (by omega)
end Go.Proofs.YtppgceighgpgoaaGreatDoor.sortp
/-
  SymMerge: plain mathematics, over no program. My own text.
-/
namespace Go.Proofs.YtppgceighgpgoaaGreatDoor.sortnum
set_option linter.unusedVariables false

theorem Wn.swr {a b k lo hi n : Nat} (f : Nat → Int) (h0 : lo ≤ a) (h1 : a + k ≤ b) (h2 : b + k ≤ hi) (h3 : hi ≤ n) : Wn lo hi n f (swr f a b k) := by
  induction k with
  | zero => rw [swr_zero]; exact Wn.refl _ _ _ _
  | succ k ih =>
    rw [← swr_step f (by omega)]
    exact (ih (by omega) (by omega)).trans (Wn.sw _ ⟨by omega, by omega⟩ ⟨by omega, by omega⟩ h3)
theorem exch_none (f : Nat → Int) (s i j : Nat) (h : i = 0 ∨ j = 0) : exch f s i j = f := by
  funext x
  simp only [exch]
  (repeat' split) <;> first | rfl | (congr 1; omega) | omega
theorem Wn.exch {lo hi n : Nat} (h3 : hi ≤ n) : ∀ (N : Nat) (f : Nat → Int) (s i j : Nat), i + j ≤ N → lo ≤ s → s + i + j ≤ hi → Wn lo hi n f (exch f s i j)
  | 0, f, s, i, j, h, _, _ => by rw [exch_none f s i j (by omega)]; exact Wn.refl _ _ _ _
  | N + 1, f, s, i, j, h, h0, h1 => by
    by_cases hz : i = 0 ∨ j = 0
    · rw [exch_none f s i j hz]; exact Wn.refl _ _ _ _
    · by_cases he : i = j
      · subst he
        rw [← exch_same]
        exact Wn.swr f h0 (Nat.le_refl _) (by omega) h3
      · by_cases hl : j < i
        · rw [← exch_left f hl]
          exact (Wn.swr f h0 (by omega) (by omega) h3).trans (Wn.exch h3 N _ _ _ _ (by omega) (by omega) (by omega))
        · rw [← exch_right f (by omega)]
          exact (Wn.swr f h0 (by omega) (by omega) h3).trans (Wn.exch h3 N _ _ _ _ (by omega) (by omega) (by omega))

/-- what stood at a now stands at k, those between one place ahead -/
def mvr (f : Nat → Int) (a k : Nat) : Nat → Int := fun x => if a ≤ x ∧ x < k then f (x + 1) else if x = k then f a else f x
theorem mvr_start (f : Nat → Int) (a : Nat) : mvr f a a = f := by
  funext x; simp only [mvr]; (repeat' split) <;> first | rfl | (subst_vars; rfl) | omega
theorem mvr_step (f : Nat → Int) {a k : Nat} (h : a ≤ k) : sw (mvr f a k) k (k + 1) = mvr f a (k + 1) := by
  funext x
  have hm : ∀ k x, mvr f a k x = if a ≤ x ∧ x < k then f (x + 1) else if x = k then f a else f x := fun k x => rfl
  have hs : sw (mvr f a k) k (k + 1) x = if x = k then mvr f a k (k + 1) else if x = k + 1 then mvr f a k k else mvr f a k x := rfl
  rw [hs]
  by_cases e1 : x = k
  · rw [if_pos e1, hm, if_neg (by omega), if_neg (by omega), hm, if_pos (by omega), e1]
  · rw [if_neg e1]
    by_cases e2 : x = k + 1
    · rw [if_pos e2, hm, if_neg (by omega), if_pos rfl, hm, if_neg (by omega), if_pos e2]
    · rw [if_neg e2, hm, hm]
      by_cases e3 : a ≤ x ∧ x < k
      · rw [if_pos e3, if_pos (by omega)]
      · rw [if_neg e3, if_neg e1, if_neg (by omega), if_neg e2]
/-- what stood at m now stands at k, those between one place behind -/
def mvl (f : Nat → Int) (m k : Nat) : Nat → Int := fun x => if k < x ∧ x ≤ m then f (x - 1) else if x = k then f m else f x
theorem mvl_start (f : Nat → Int) (m : Nat) : mvl f m m = f := by
  funext x; simp only [mvl]; (repeat' split) <;> first | rfl | (subst_vars; rfl) | omega
theorem mvl_step (f : Nat → Int) {m k : Nat} (h : k < m) : sw (mvl f m (k + 1)) (k + 1) k = mvl f m k := by
  funext x
  have hm : ∀ k x, mvl f m k x = if k < x ∧ x ≤ m then f (x - 1) else if x = k then f m else f x := fun k x => rfl
  have hs : sw (mvl f m (k + 1)) (k + 1) k x = if x = k + 1 then mvl f m (k + 1) k else if x = k then mvl f m (k + 1) (k + 1) else mvl f m (k + 1) x := rfl
  rw [hs]
  by_cases e1 : x = k + 1
  · rw [if_pos e1, hm, if_neg (by omega), if_neg (by omega), hm, if_pos (by omega), e1]
    rfl
  · rw [if_neg e1]
    by_cases e2 : x = k
    · rw [if_pos e2, hm, if_neg (by omega), if_pos rfl, hm, if_neg (by omega), if_pos e2]
    · rw [if_neg e2, hm, hm]
      by_cases e3 : k + 1 < x ∧ x ≤ m
      · rw [if_pos e3, if_pos (by omega)]
      · rw [if_neg e3, if_neg e1, if_neg (by omega), if_neg e2]
theorem mvr_srt {key : Int → Int} {f : Nat → Int} {a b i : Nat} (hs : Srt (fun x => key (f x)) (a + 1) b) (h1 : a + 1 ≤ i) (h2 : i ≤ b) (hlo : ∀ x, a + 1 ≤ x → x < i → key (f x) < key (f a)) (hhi : ∀ x, i ≤ x → x < b → key (f a) ≤ key (f x)) :
    Srt (fun x => key (mvr f a (i - 1) x)) a b := by
  intro p r hp hpr hr
  have hm : ∀ x, mvr f a (i - 1) x = if a ≤ x ∧ x < i - 1 then f (x + 1) else if x = i - 1 then f a else f x := fun x => rfl
  simp only [hm]
  by_cases p1 : p < i - 1
  · rw [if_pos ⟨hp, p1⟩]
    by_cases r1 : r < i - 1
    · rw [if_pos ⟨by omega, r1⟩]
      exact hs (p + 1) (r + 1) (by omega) (by omega) (by omega)
    · rw [if_neg (by omega)]
      by_cases r2 : r = i - 1
      · rw [if_pos r2]
        have := hlo (p + 1) (by omega) (by omega)
        omega
      · rw [if_neg r2]
        exact hs (p + 1) r (by omega) (by omega) hr
  · rw [if_neg (by omega)]
    by_cases p2 : p = i - 1
    · rw [if_pos p2, if_neg (by omega)]
      by_cases r2 : r = i - 1
      · rw [if_pos r2]; exact Int.le_refl _
      · rw [if_neg r2]
        exact hhi r (by omega) hr
    · rw [if_neg p2, if_neg (by omega), if_neg (by omega)]
      exact hs p r (by omega) hpr hr
theorem mvl_srt {key : Int → Int} {f : Nat → Int} {a m i : Nat} (hs : Srt (fun x => key (f x)) a m) (h1 : a ≤ i) (h2 : i ≤ m) (hlo : ∀ x, a ≤ x → x < i → key (f x) ≤ key (f m)) (hhi : ∀ x, i ≤ x → x < m → key (f m) < key (f x)) :
    Srt (fun x => key (mvl f m i x)) a (m + 1) := by
  intro p r hp hpr hr
  have hm : ∀ x, mvl f m i x = if i < x ∧ x ≤ m then f (x - 1) else if x = i then f m else f x := fun x => rfl
  simp only [hm]
  by_cases p1 : i < p
  · rw [if_pos ⟨p1, by omega⟩, if_pos ⟨by omega, by omega⟩]
    exact hs (p - 1) (r - 1) (by omega) (by omega) (by omega)
  · rw [if_neg (by omega)]
    by_cases p2 : p = i
    · rw [if_pos p2]
      by_cases r1 : i < r
      · rw [if_pos ⟨r1, by omega⟩]
        have := hhi (r - 1) (by omega) (by omega)
        omega
      · rw [if_neg (by omega), if_pos (by omega)]; exact Int.le_refl _
    · rw [if_neg p2]
      by_cases r1 : i < r
      · rw [if_pos ⟨r1, by omega⟩]
        exact hs p (r - 1) hp (by omega) (by omega)
      · rw [if_neg (by omega)]
        by_cases r2 : r = i
        · rw [if_pos r2]; exact hlo p hp (by omega)
        · rw [if_neg r2]; exact hs p r hp hpr (by omega)

/-- a split of two rows in order: where the first one is cut, and the second one -/
structure Cut (k : Nat → Int) (a m b mid s e : Nat) : Prop where
  as_ : a ≤ s
  sm : s ≤ m
  me : m ≤ e
  eb : e ≤ b
  sum : s + e = mid + m
  smid : s ≤ mid
  mide : mid ≤ e
  low : ∀ x y, a ≤ x → x < s → e ≤ y → y < b → k x ≤ k y
  high : ∀ x y, m ≤ x → x < e → s ≤ y → y < m → k x ≤ k y
/-- what a search by halves has found -/
theorem Cut.found {k : Nat → Int} {a m b mid s s0 r0 : Nat} (ha : a < m) (hb : m < b) (hmid : mid = (a + b) / 2) (h1 : Srt k a m) (h2 : Srt k m b)
    (hs0 : s0 = if mid < m then mid + m - b else a) (hr0 : r0 = if mid < m then mid else m) (hs : s0 ≤ s ∧ s ≤ r0)
    (hlo : ∀ x, s0 ≤ x → x < s → k x ≤ k (mid + m - 1 - x)) (hhi : ∀ x, s ≤ x → x < r0 → k (mid + m - 1 - x) < k x) : Cut k a m b mid s (mid + m - s) := by
  have hss : a ≤ s ∧ s ≤ m ∧ s ≤ mid ∧ m ≤ mid + m - s ∧ mid + m - s ≤ b ∧ mid ≤ mid + m - s := by
    split at hs0 <;> rename_i hc
    · rw [if_pos hc] at hr0; omega
    · rw [if_neg hc] at hr0; omega
  refine ⟨hss.1, hss.2.1, hss.2.2.2.1, hss.2.2.2.2.1, by omega, hss.2.2.1, hss.2.2.2.2.2, ?_, ?_⟩
  · intro x y hx1 hx2 hy1 hy2
    by_cases he : s = s0
    · split at hs0 <;> rename_i hc <;> omega
    · have h3 := hlo (s - 1) (by omega) (by omega)
      have e1 : mid + m - 1 - (s - 1) = mid + m - s := by omega
      rw [e1] at h3
      exact Int.le_trans (h1 x (s - 1) hx1 (by omega) (by omega)) (Int.le_trans h3 (h2 (mid + m - s) y (by omega) hy1 hy2))
  · intro x y hx1 hx2 hy1 hy2
    by_cases he : s = r0
    · split at hr0 <;> rename_i hc <;> omega
    · have h3 := hhi s (Nat.le_refl _) (by omega)
      have e1 : mid + m - 1 - s = mid + m - s - 1 := by omega
      rw [e1] at h3
      exact Int.le_trans (h2 x (mid + m - s - 1) hx1 (by omega) (by omega)) (Int.le_trans (Int.le_of_lt h3) (h1 s y (by omega) hy1 hy2))
theorem bds {a m b mid s0 r0 : Nat} (ha : a < m) (hb : m < b) (hmid : mid = (a + b) / 2) (hs0 : s0 = if mid < m then mid + m - b else a) (hr0 : r0 = if mid < m then mid else m) : a ≤ s0 ∧ s0 ≤ r0 ∧ r0 ≤ m ∧ r0 ≤ mid ∧ mid + m - 1 - s0 < b := by
  by_cases hcc : mid < m
  · rw [if_pos hcc] at hs0 hr0; omega
  · rw [if_neg hcc] at hs0 hr0; omega
/-- the search goes on to the right, to the left -/
theorem found_right {k : Nat → Int} {a m b mid s0 r0 c : Nat} (ha : a < m) (hb : m < b) (hmid : mid = (a + b) / 2) (h1 : Srt k a m) (h2 : Srt k m b) (hs0 : s0 = if mid < m then mid + m - b else a) (hr0 : r0 = if mid < m then mid else m)
    (hc : s0 ≤ c ∧ c < r0) (h : k c ≤ k (mid + m - 1 - c)) : ∀ x, s0 ≤ x → x < c + 1 → k x ≤ k (mid + m - 1 - x) := by
  intro x hx1 hx2
  have hb2 := bds ha hb hmid hs0 hr0
  exact Int.le_trans (h1 x c (by omega) (by omega) (by omega)) (Int.le_trans h (h2 _ _ (by omega) (by omega) (by omega)))
theorem found_left {k : Nat → Int} {a m b mid s0 r0 c : Nat} (ha : a < m) (hb : m < b) (hmid : mid = (a + b) / 2) (h1 : Srt k a m) (h2 : Srt k m b) (hs0 : s0 = if mid < m then mid + m - b else a) (hr0 : r0 = if mid < m then mid else m)
    (hc : s0 ≤ c ∧ c < r0) (h : k (mid + m - 1 - c) < k c) : ∀ x, c ≤ x → x < r0 → k (mid + m - 1 - x) < k x := by
  intro x hx1 hx2
  have hb2 := bds ha hb hmid hs0 hr0
  exact Int.lt_of_le_of_lt (h2 _ _ (by omega) (by omega) (by omega)) (Int.lt_of_lt_of_le h (h1 c x (by omega) hx1 (by omega)))
section
variable {key : Int → Int} {f : Nat → Int} {a m b mid s e : Nat}
/-- behind the exchange: each half is two rows in order, and all of the first half is ahead of all of the second -/
theorem Cut.parts (h : Cut (fun x => key (f x)) a m b mid s e) (h1 : Srt (fun x => key (f x)) a m) (h2 : Srt (fun x => key (f x)) m b) :
    Srt (fun x => key (exch f s (m - s) (e - m) x)) a s ∧ Srt (fun x => key (exch f s (m - s) (e - m) x)) s mid ∧ Srt (fun x => key (exch f s (m - s) (e - m) x)) mid e ∧ Srt (fun x => key (exch f s (m - s) (e - m) x)) e b ∧
    ∀ p r, a ≤ p → p < mid → mid ≤ r → r < b → key (exch f s (m - s) (e - m) p) ≤ key (exch f s (m - s) (e - m) r) := by
  obtain ⟨as_, sm, me, eb, sum, smid, mide, low, high⟩ := h
  have g1 : ∀ x, x < s → exch f s (m - s) (e - m) x = f x := fun x hx => by simp only [exch]; rw [if_neg (by omega), if_neg (by omega)]
  have g2 : ∀ x, s ≤ x → x < mid → exch f s (m - s) (e - m) x = f (x + (m - s)) := fun x h1 h2 => by simp only [exch]; rw [if_pos (by omega)]
  have g3 : ∀ x, mid ≤ x → x < e → exch f s (m - s) (e - m) x = f (x - (e - m)) := fun x h1 h2 => by simp only [exch]; rw [if_neg (by omega), if_pos (by omega)]
  have g4 : ∀ x, e ≤ x → exch f s (m - s) (e - m) x = f x := fun x hx => by simp only [exch]; rw [if_neg (by omega), if_neg (by omega)]
  refine ⟨?_, ?_, ?_, ?_, ?_⟩
  · intro p r hp hpr hr
    simp only [g1 p (by omega), g1 r hr]
    exact h1 p r hp hpr (by omega)
  · intro p r hp hpr hr
    simp only [g2 p hp (by omega), g2 r (by omega) hr]
    exact h2 _ _ (by omega) (by omega) (by omega)
  · intro p r hp hpr hr
    simp only [g3 p hp (by omega), g3 r (by omega) hr]
    exact h1 _ _ (by omega) (by omega) (by omega)
  · intro p r hp hpr hr
    simp only [g4 p hp, g4 r (by omega)]
    exact h2 p r (by omega) hpr hr
  · intro p r hp hpm hr hrb
    by_cases p1 : p < s
    · rw [g1 p p1]
      by_cases r1 : r < e
      · rw [g3 r hr r1]; exact h1 _ _ hp (by omega) (by omega)
      · rw [g4 r (by omega)]; exact low p r hp p1 (by omega) hrb
    · rw [g2 p (by omega) hpm]
      by_cases r1 : r < e
      · rw [g3 r hr r1]; exact high _ _ (by omega) (by omega) (by omega) (by omega)
      · rw [g4 r (by omega)]; exact h2 _ _ (by omega) (by omega) hrb
end
/-- two halves in order, the first one ahead of the second -/
theorem srt_join {key : Int → Int} {G F : Nat → Int} {a mid b n : Nat} (ha : a ≤ mid) (hb : mid ≤ b) (hL : ∃ F1, Wn a mid n G F1 ∧ Wn mid b n F1 F) (h1 : Srt (fun x => key (F x)) a mid) (h2 : Srt (fun x => key (F x)) mid b)
    (hc : ∀ p r, a ≤ p → p < mid → mid ≤ r → r < b → key (G p) ≤ key (G r)) : Srt (fun x => key (F x)) a b := by
  obtain ⟨F1, w1, w2⟩ := hL
  intro p r hp hpr hr
  by_cases e1 : r < mid
  · exact h1 p r hp hpr e1
  · by_cases e2 : mid ≤ p
    · exact h2 p r e2 hpr hr
    · obtain ⟨x, x1, x2, ex⟩ := w1.ins p hp (by omega)
      obtain ⟨y, y1, y2, ey⟩ := w2.ins r (by omega) hr
      have e3 : F p = G x := (w2.out p (Or.inl (by omega))).trans ex
      have e4 : F r = G y := ey.trans (w1.out y (Or.inr (by omega)))
      show key (F p) ≤ key (F r)
      rw [e3, e4]
      exact hc x y x1 x2 y1 y2
theorem Srt.same {key : Int → Int} {f g : Nat → Int} {a b : Nat} (h : Srt (fun x => key (f x)) a b) (he : ∀ x, a ≤ x → x < b → g x = f x) : Srt (fun x => key (g x)) a b := fun p r hp hpr hr => by
  show key (g p) ≤ key (g r)
  rw [he p hp (by omega), he r (by omega) hr]
  exact h p r hp hpr hr
end Go.Proofs.YtppgceighgpgoaaGreatDoor.sortnum
/-
  Blocks in order, merged two and two: plain mathematics, over no program. My own text.
-/
namespace Go.Proofs.YtppgceighgpgoaaGreatDoor.sortnum
set_option linter.unusedVariables false
theorem Srt.keep {key : Int → Int} {f g : Nat → Int} {a b lo hi n : Nat} (h : Srt (fun x => key (f x)) a b) (w : Wn lo hi n f g) (hd : b ≤ lo ∨ hi ≤ a) : Srt (fun x => key (g x)) a b :=
  Srt.same h fun x h1 h2 => w.out x (by omega)
theorem Srt.cut {k : Nat → Int} {a b a' b' : Nat} (h : Srt k a b) (ha : a ≤ a') (hb : b' ≤ b) : Srt k a' b' := fun i j h1 h2 h3 => h i j (by omega) h2 (by omega)
theorem dvd_gap {x s a : Nat} (hs : x ∣ s) (ha : x ∣ a) (h : s < a) : s + x ≤ a := by
  obtain ⟨u, rfl⟩ := hs
  obtain ⟨v, rfl⟩ := ha
  have hx : 0 < x := by
    rcases Nat.eq_zero_or_pos x with h0 | h0
    · subst h0; simp at h
    · exact h0
  have huv : u < v := Nat.lt_of_mul_lt_mul_left h
  have := Nat.mul_le_mul_left x (show u + 1 ≤ v from huv)
  rw [Nat.mul_add, Nat.mul_one] at this
  exact this
/-- blocks of so many, each in order -/
def Bs (k : Nat → Int) (x n : Nat) : Prop := ∀ a, x ∣ a → Srt k a (min (a + x) n)
/-- the blocks ahead of a are full, each in order -/
def Ahead (k : Nat → Int) (x a : Nat) : Prop := ∀ s, x ∣ s → s < a → Srt k s (s + x)
/-- the blocks from a on are in order -/
def Behind (k : Nat → Int) (x a n : Nat) : Prop := ∀ s, x ∣ s → a ≤ s → Srt k s (min (s + x) n)
theorem Ahead.zero (k : Nat → Int) (x : Nat) : Ahead k x 0 := fun s _ h => absurd h (by omega)
theorem Ahead.step {key : Int → Int} {f g : Nat → Int} {x a n : Nat} (h : Ahead (fun z => key (f z)) x a) (w : Wn a (a + x) n f g) (hs : Srt (fun z => key (g z)) a (a + x)) (ha : x ∣ a) : Ahead (fun z => key (g z)) x (a + x) := by
  intro s hd hlt
  by_cases e : s < a
  · exact (h s hd e).keep w (Or.inl (dvd_gap hd ha e))
  · by_cases e2 : s = a
    · subst e2; exact hs
    · have := dvd_gap ha hd (by omega)
      omega
/-- the last block, which may be short -/
theorem Ahead.last {key : Int → Int} {f g : Nat → Int} {x a n : Nat} (h : Ahead (fun z => key (f z)) x a) (w : Wn a n n f g) (hs : Srt (fun z => key (g z)) a n) (ha : x ∣ a) (hn : n < a + x) (han : a ≤ n) : Bs (fun z => key (g z)) x n := by
  intro s hd
  by_cases e : s < a
  · have h1 := dvd_gap hd ha e
    exact ((h s hd e).keep w (Or.inl h1)).cut (Nat.le_refl _) (Nat.min_le_left _ _)
  · by_cases e2 : s = a
    · subst e2; exact hs.cut (Nat.le_refl _) (Nat.min_le_right _ _)
    · have := dvd_gap ha hd (by omega)
      intro i j h1 h2 h3
      omega
theorem Bs.behind {k : Nat → Int} {x n : Nat} (h : Bs k x n) : Behind k x 0 n := fun s hd _ => h s hd
theorem Behind.keep {key : Int → Int} {f g : Nat → Int} {x a b n : Nat} (h : Behind (fun z => key (f z)) x a n) (w : Wn a b n f g) (hab : a ≤ b) : Behind (fun z => key (g z)) x b n := fun s hd hs => (h s hd (by omega)).keep w (Or.inr hs)
/-- all in one block -/
theorem Bs.whole {k : Nat → Int} {x n : Nat} (h : Bs k x n) (hn : n ≤ x) : Srt k 0 n := (h 0 (Nat.dvd_zero x)).cut (Nat.le_refl _) (by omega)
end Go.Proofs.YtppgceighgpgoaaGreatDoor.sortnum
/-
  slices.SortStableFunc of symbols: stable, over symMerge's contract. My own text.
-/
namespace Go.Proofs.YtppgceighgpgoaaGreatDoor.sortp
open Go.RowKit Go.Proofs.YtppgceighgpgoaaGreatDoor.base Go.Proofs.YtppgceighgpgoaaGreatDoor.sortnum
set_option linter.unusedVariables false

/-- symMerge's contract -/
def Merges (g n c q B : Nat) (R : List Value) (cs : List Int) : Prop := ∀ (a m b : Nat) (f : Nat → Int) (w : World), DAt w g n R f → a < m → m < b → b ≤ n → n ≤ 1000 → Cnt w q B cs → B ≤ g → (∀ i, i < n → ok cs (f i)) → Srt (kf cs f) a m → Srt (kf cs f) m b → Lr f a m b →
    Calls Tryz.prog 105 #[.slice (some ⟨g, 0, none⟩) n c, .int .i64 a, .int .i64 m, .int .i64 b, kv q] w fun e w' => e = .returned (.tuple #[]) ∧ ∃ f', DAt w' g n R f' ∧ Wn a b n f f' ∧ Srt (kf cs f') a b ∧ But g w w'

/-- all ahead of s is below all behind -/
def Lo (f : Nat → Int) (n s : Nat) : Prop := ∀ i j, i < s → s ≤ j → j < n → f i < f j
theorem Lo.keep {f g : Nat → Int} {a b n s : Nat} (h : Lo f n s) (w : Wn a b n f g) (hb : b ≤ n) (hs : s ≤ a ∨ b ≤ s) : Lo g n s := fun i j h1 h2 h3 => by
  obtain ⟨i', p1, e1⟩ : ∃ i', i' < s ∧ g i = f i' := by
    by_cases hc : i < a ∨ b ≤ i
    · exact ⟨i, h1, w.out i hc⟩
    · obtain ⟨i', q1, q2, q3⟩ := w.ins i (by omega) (by omega)
      exact ⟨i', by omega, q3⟩
  obtain ⟨j', p2, p3, e2⟩ : ∃ j', s ≤ j' ∧ j' < n ∧ g j = f j' := by
    by_cases hc : j < a ∨ b ≤ j
    · exact ⟨j, h2, h3, w.out j hc⟩
    · obtain ⟨j', q1, q2, q3⟩ := w.ins j (by omega) (by omega)
      exact ⟨j', by omega, by omega, q3⟩
  rw [e1, e2]
  exact h i' j' p1 p2 p3
theorem Lo.lr {f : Nat → Int} {n a m b : Nat} (h : Lo f n m) (hb : b ≤ n) : Lr f a m b := fun p r _ p2 r1 r2 => h p r p2 r1 (by omega)
theorem step_side {x a s : Nat} (hs : x ∣ s) (ha : x ∣ a) : s ≤ a ∨ a + x ≤ s := by
  by_cases h : a < s
  · exact .inr (dvd_gap ha hs h)
  · exact .inl (by omega)

section
variable {g n c q B : Nat} {R : List Value} {cs : List Int}
set_option maxRecDepth 100000 in
set_option maxHeartbeats 16000000 in
theorem stable_any (hM : Merges g n c q B R cs) (f : Nat → Int) (w : World) (h : DAt w g n R f) (hn : n ≤ 1000) (hC : Cnt w q B cs) (hBg : B ≤ g) (hok : ∀ i, i < n → ok cs (f i)) (hinc : ∀ p r, p < r → r < n → f p < f r) :
    Calls Tryz.prog 88 #[.slice (some ⟨g, 0, none⟩) n c, .int .i64 n, kv q] w fun e w' => e = .returned (.tuple #[]) ∧ ∃ f', DAt w' g n R f' ∧ Wn 0 n n f f' ∧ Srt (kf cs f') 0 n ∧ But g w w' := by
  have hgw := h.inside
  have HC := Lib.hid hC
  have HOK := Lib.hid hok
  have HM := Lib.hid hM
  have HINC := Lib.hid hinc
  clear hC hok hM hinc
  go_enter Tryz.func88, Tryz.ntmps88
  go_wp2
  go_loopw [7, 8] (fun va vb wr => ∃ (a b : Nat) (F : Nat → Int), va = .int .i64 a ∧ vb = .int .i64 b ∧ a + 20 ≤ b ∧ b ≤ a + 20 ∧ a ≤ n ∧ Hid (20 ∣ a) ∧ DAt wr g n R F ∧ Hid (Wn 0 n n f F) ∧ Hid (Ahead (kf cs F) 20 a) ∧ Hid (∀ x, a ≤ x → F x = f x) ∧ Hid (∀ s, 20 ∣ s → Lo F n s) ∧ But g w wr) (fun _ vb _ => ((n : Int) + 20 - intOf vb).toNat)
  case atStart => exact ⟨0, 20, f, rfl, rfl, by omega, by omega, by omega, ⟨0, rfl⟩, h, Wn.refl _ _ _ _, Ahead.zero _ _, fun _ _ => rfl, fun s _ i j h1 h2 h3 => HINC.out i j (by omega) h3, But.refl _ _⟩
  case round =>
    obtain ⟨a, b, F, rfl, rfl, hab1, hab2, han, hdv, hD, hW, hA, hE, hLO, hB⟩ := hrel
    clear h
    have hiw : ∀ p r, a ≤ p → p < r → r < n → F p < F r := fun p r h1 h2 h3 => by rw [hE.out p h1, hE.out r (by omega)]; exact HINC.out p r h2 h3
    have HIW := Lib.hid hiw
    clear hiw
    by_cases hbn : b ≤ n
    · have hins := insertion_any g n c a b q B R cs F wr hD (by omega) hbn hn (HC.out.but hBg hgw hB) hBg (hW.out.all (P := ok cs) HOK.out (Nat.le_refl _)) (fun p r h1 h2 h3 => HIW.out p r h1 h2 (by omega))
      have HI := Lib.hid hins
      have HB := Lib.hid hB
      clear hins hD hB
      go_wp2_with (go_at_call 104; (refine HI.out.mono ?_); rintro e w1 ⟨rfl, F1, hD1, hW1, hS1, hB1⟩)
      have hA1 := Ahead.step (x := 20) hA.out (by rw [show a + 20 = b by omega]; exact hW1) (by rw [show a + 20 = b by omega]; exact hS1) hdv.out
      rw [show a + 20 = b by omega] at hA1
      have hW2 := hW.out.trans (hW1.mono (Nat.zero_le _) hbn)
      have hd2 : 20 ∣ b := by have := hdv.out; rw [show b = a + 20 by omega]; exact Nat.dvd_add this ⟨1, rfl⟩
      have hE1 := Lib.hid (show ∀ x, b ≤ x → F1 x = f x from fun x hx => (hW1.out x (Or.inr hx)).trans (hE.out x (by omega)))
      have hLO1 := Lib.hid (show ∀ s, 20 ∣ s → Lo F1 n s from fun s hs => (hLO.out s hs).keep hW1 hbn (by have := step_side hs hdv.out; omega))
      clear HIW
      go_roundw
      case rel => exact ⟨b, b + 20, F1, rfl, by go_num, by omega, by omega, hbn, hd2, hD1, hW2, hA1, hE1, hLO1, HB.out.trans hB1⟩
      case measure => simp [intOf]; omega
    · have hins := insertion_any g n c a n q B R cs F wr hD han (Nat.le_refl _) hn (HC.out.but hBg hgw hB) hBg (hW.out.all (P := ok cs) HOK.out (Nat.le_refl _)) HIW.out
      have HI := Lib.hid hins
      have HB := Lib.hid hB
      clear hins hD hB
      go_wp2_with (go_at_call 104; (refine HI.out.mono ?_); rintro e w1 ⟨rfl, F1, hD1, hW1, hS1, hB1⟩)
      have hbs := Ahead.last (x := 20) hA.out hW1 hS1 hdv.out (by omega) han
      have hW2 := hW.out.trans (hW1.mono (Nat.zero_le _) (Nat.le_refl _))
      have hB2 := HB.out.trans hB1
      have hLO1 := Lib.hid (show ∀ s, 20 ∣ s → Lo F1 n s from fun s hs => (hLO.out s hs).keep hW1 (Nat.le_refl _) (by have := step_side hs hdv.out; omega))
      clear hW1 hS1 hB1 HB HI hW hA hdv hE hLO HIW
      go_loopw [6] (fun vx wr => ∃ (x : Nat) (G : Nat → Int), vx = .int .i64 x ∧ 20 ≤ x ∧ x ≤ 4000 ∧ DAt wr g n R G ∧ Hid (Wn 0 n n f G) ∧ Hid (Bs (kf cs G) x n) ∧ Hid (∀ s, x ∣ s → Lo G n s) ∧ But g w wr) (fun vx _ => ((n : Int) - intOf vx).toNat)
      case atStart => exact ⟨20, F1, rfl, by omega, by omega, hD1, hW2, hbs, hLO1, hB2⟩
      case round =>
        obtain ⟨x, G, rfl, hx1, hx2, hD3, hW3, hS3, hLG, hB3⟩ := hrel
        clear hD1 hW2 hbs hB2 hLO1
        by_cases hxn : x < n
        · obtain ⟨y, hy⟩ : ∃ y, 2 * x = y := ⟨_, rfl⟩
          have ey : (2 : Int) * (x : Int) = (y : Int) := by omega
          have ey2 : (x : Int) * 2 = (y : Int) := by omega
          have HY := Lib.hid hy
          clear hy
          go_wp2
          go_loopw [7, 8] (fun va vb wr => ∃ (a b : Nat) (K : Nat → Int), va = .int .i64 a ∧ vb = .int .i64 b ∧ a + y ≤ b ∧ b ≤ a + y ∧ a ≤ n ∧ Hid (y ∣ a) ∧ DAt wr g n R K ∧ Hid (Wn 0 n n f K) ∧ Hid (Ahead (kf cs K) y a) ∧ Hid (Behind (kf cs K) x a n) ∧ Hid (∀ s, x ∣ s → (a ≤ s ∨ y ∣ s) → Lo K n s) ∧ But g w wr) (fun _ vb _ => ((n : Int) + y - intOf vb).toNat)
          case atStart => exact ⟨0, y, G, rfl, rfl, by omega, by omega, by omega, ⟨0, rfl⟩, hD3, hW3, Ahead.zero _ _, Bs.behind hS3.out, fun s h1 _ => hLG.out s h1, hB3⟩
          case round =>
            obtain ⟨a, b, K, rfl, rfl, hab1, hab2, han, hdv, hD, hW, hA, hL, hLK, hB⟩ := hrel
            clear hD3 hB3
            have hyx := HY.out
            have hdx : x ∣ a := Nat.dvd_trans ⟨2, by omega⟩ hdv.out
            have hdx2 : x ∣ a + x := Nat.dvd_add hdx ⟨1, by omega⟩
            obtain ⟨m, hm⟩ : ∃ m, a + x = m := ⟨_, rfl⟩
            have em : (a : Int) + (x : Int) = (m : Int) := by omega
            rw [hm] at hdx2
            have hok2 := hW.out.all (P := ok cs) HOK.out (Nat.le_refl _)
            have hCx := HC.out.but hBg hgw hB
            by_cases hbn : b ≤ n
            · have s1 : Srt (kf cs K) a m := (hL.out a hdx (Nat.le_refl _)).cut (Nat.le_refl _) (by omega)
              have s2 : Srt (kf cs K) m b := (hL.out m hdx2 (by omega)).cut (Nat.le_refl _) (by omega)
              have hmg := HM.out a m b K wr hD (by omega) (by omega) hbn hn hCx hBg hok2 s1 s2 (Lo.lr (hLK.out m hdx2 (Or.inl (by omega))) hbn)
              have HI := Lib.hid hmg
              have HB := Lib.hid hB
              have HMM := Lib.hid hm
              have HDX := Lib.hid (And.intro hdx hdx2)
              clear hmg hD hB s1 s2 hok2 hCx hm hdx hdx2 hyx
              go_wp2_with (go_at_call 105; (refine HI.out.mono ?_); rintro e w1 ⟨rfl, K1, hD1, hW1, hS1, hB1⟩)
              have hA1 := Ahead.step (x := y) hA.out (by rw [show a + y = b by omega]; exact hW1) (by rw [show a + y = b by omega]; exact hS1) hdv.out
              rw [show a + y = b by omega] at hA1
              have hL1 := hL.out.keep hW1 (by omega)
              have hW2 := hW.out.trans (hW1.mono (Nat.zero_le _) hbn)
              have hd2 : y ∣ b := by have := hdv.out; rw [show b = a + y by omega]; exact Nat.dvd_add this ⟨1, by omega⟩
              have hLK1 := Lib.hid (show ∀ s, x ∣ s → (b ≤ s ∨ y ∣ s) → Lo K1 n s from fun s q1 q2 => by
                rcases q2 with q2 | q2
                · exact (hLK.out s q1 (Or.inl (by omega))).keep hW1 hbn (Or.inr q2)
                · exact (hLK.out s q1 (Or.inr q2)).keep hW1 hbn (by have := step_side q2 hdv.out; omega))
              go_roundw
              case rel => exact ⟨b, b + y, K1, rfl, by go_num, by omega, by omega, hbn, hd2, hD1, hW2, hA1, hL1, hLK1, HB.out.trans hB1⟩
              case measure => simp [intOf]; omega
            · by_cases hmn : m < n
              · have s1 : Srt (kf cs K) a m := (hL.out a hdx (Nat.le_refl _)).cut (Nat.le_refl _) (by omega)
                have s2 : Srt (kf cs K) m n := (hL.out m hdx2 (by omega)).cut (Nat.le_refl _) (by omega)
                have hmg := HM.out a m n K wr hD (by omega) hmn (Nat.le_refl _) hn hCx hBg hok2 s1 s2 (Lo.lr (hLK.out m hdx2 (Or.inl (by omega))) (Nat.le_refl _))
                have HI := Lib.hid hmg
                have HB := Lib.hid hB
                have HMM := Lib.hid hm
                clear hmg hD hB s1 s2 hok2 hCx hm hdx hdx2
                go_wp2_with (go_at_call 105; (refine HI.out.mono ?_); rintro e w1 ⟨rfl, K1, hD1, hW1, hS1, hB1⟩)
                have hbs := Ahead.last (x := y) hA.out hW1 hS1 hdv.out (by omega) han
                have hW2 := hW.out.trans (hW1.mono (Nat.zero_le _) (Nat.le_refl _))
                have hLY := Lib.hid (show ∀ s, y ∣ s → Lo K1 n s from fun s q2 => (hLK.out s (Nat.dvd_trans ⟨2, by have := HY.out; omega⟩ q2) (Or.inr q2)).keep hW1 (Nat.le_refl _) (by have := step_side q2 hdv.out; omega))
                go_roundw
                case rel => exact ⟨y, K1, by first | rfl | go_num, by omega, by omega, hD1, hW2, hbs, hLY, HB.out.trans hB1⟩
                case measure => simp [intOf]; omega
              · have s1 : Srt (kf cs K) a n := (hL.out a hdx (Nat.le_refl _)).cut (Nat.le_refl _) (by omega)
                have hbs := Ahead.last (x := y) hA.out (Wn.refl a n n K) s1 hdv.out (by omega) han
                have HBS := Lib.hid hbs
                have HDD := Lib.hid hD
                have HB := Lib.hid hB
                have HMM := Lib.hid hm
                clear s1 hbs hok2 hCx hD hB hdx hdx2 hm
                have hLY := Lib.hid (show ∀ s, y ∣ s → Lo K n s from fun s q2 => hLK.out s (Nat.dvd_trans ⟨2, by have := HY.out; omega⟩ q2) (Or.inr q2))
                go_wp2
                go_roundw
                case rel => exact ⟨y, K, by first | rfl | go_num, by omega, by omega, HDD.out, hW, HBS.out, hLY, HB.out⟩
                case measure => simp [intOf]; omega
        · go_wp2
          go_end0
          exact ⟨rfl, G, hD3, hW3.out, Bs.whole hS3.out (by omega), hB3⟩
set_option maxHeartbeats 4000000 in
theorem sort_any (hM : Merges g n c q B R cs) (f : Nat → Int) (w : World) (h : DAt w g n R f) (hn : n ≤ 1000) (hC : Cnt w q B cs) (hBg : B ≤ g) (hok : ∀ i, i < n → ok cs (f i)) (hinc : ∀ p r, p < r → r < n → f p < f r) :
    Calls Tryz.prog 66 #[.slice (some ⟨g, 0, none⟩) n c, kv q] w fun e w' => e = .returned (.tuple #[]) ∧ ∃ f', DAt w' g n R f' ∧ Wn 0 n n f f' ∧ Srt (kf cs f') 0 n ∧ But g w w' := by
  have hs := stable_any hM f w h hn hC hBg hok hinc
  have HS := Lib.hid hs
  clear hs hC h hok hM hinc
  go_enter Tryz.func66, Tryz.ntmps66
  go_wp2_with (go_at_call 88; (refine HS.out.mono ?_); rintro e w1 ⟨rfl, hx⟩)
  go_end0
  exact ⟨rfl, hx⟩
end
end Go.Proofs.YtppgceighgpgoaaGreatDoor.sortp
