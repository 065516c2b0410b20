import Derived.Test.YtppgceighgpgoaaGreatDoorMgLnC
import Derived.Test.YtppgceighgpgoaaGreatDoorMgLnD
import Derived.Test.YtppgceighgpgoaaGreatDoorInfSpread
/- Several of my own texts, one behind the other. -/
/-
  The lengths that are made are lengths of a code: plain mathematics, over no program. My own text.
-/
namespace Go.Proofs.YtppgceighgpgoaaGreatDoor.lenp
open Go.RowKit Go.Proofs.YtppgceighgpgoaaGreatDoor.base Go.Proofs.YtppgceighgpgoaaGreatDoor.lennum Go.Proofs.YtppgceighgpgoaaGreatDoor.sortp Go.Proofs.YtppgceighgpgoaaGreatDoor.huffnum
set_option linter.unusedVariables false
/-- a length's share of the texts of 15 bits -/
def share (n x : Nat) : Nat := if 1 ≤ x ∧ x ≤ n then 2 ^ (15 - x) else 0
theorem sum_ind (ls : List Nat) (n c : Nat) : ((ls.map fun x => share n x).sum) + ls.count (n + 1) * 2 ^ (15 - (n + 1)) = (ls.map fun x => share (n + 1) x).sum := by
  induction ls with
  | nil => simp
  | cons a r ih =>
    rw [List.map_cons, List.map_cons, List.sum_cons, List.sum_cons, List.count_cons, Nat.add_mul, ← ih]
    have h : share (n + 1) a = share n a + (if (a == n + 1) = true then 1 else 0) * 2 ^ (15 - (n + 1)) := by
      unfold share
      by_cases e : a = n + 1
      · subst e
        rw [if_pos (by omega), if_neg (by omega), if_pos (by simp)]
        omega
      · rw [if_neg (c := (a == n + 1) = true) (by simpa using e)]
        by_cases h1 : 1 ≤ a ∧ a ≤ n
        · rw [if_pos (by omega), if_pos h1]; omega
        · rw [if_neg (by omega), if_neg h1]; omega
    omega
theorem tx_sum (ls : List Nat) : ∀ n, n ≤ 15 → tx ls n = (ls.map fun x => share n x).sum
  | 0, _ => by
    rw [tx_zero]
    induction ls with
    | nil => rfl
    | cons a r ih =>
      rw [List.map_cons, List.sum_cons, ← ih]
      unfold share
      rw [if_neg (by omega)]
  | n + 1, h => by rw [tx_succ ls (by omega), tx_sum ls n (by omega), sum_ind ls n 0]
theorem perm_sum {l l' : List Nat} (h : l.Perm l') : l.sum = l'.sum := by
  induction h with
  | nil => rfl
  | cons x _ ih => rw [List.sum_cons, List.sum_cons, ih]
  | swap x y l => simp only [List.sum_cons]; omega
  | trans _ _ h1 h2 => rw [h1, h2]
theorem sum_filter (p : Nat → Bool) (f : Nat → Nat) (l : List Nat) (h : ∀ x ∈ l, p x = false → f x = 0) : (l.map f).sum = ((l.filter p).map f).sum := by
  induction l with
  | nil => rfl
  | cons a r ih =>
    have ih := ih fun x hx => h x (List.mem_cons_of_mem _ hx)
    rw [List.map_cons, List.sum_cons, ih]
    cases hp : p a with
    | true => rw [List.filter_cons_of_pos hp, List.map_cons, List.sum_cons]
    | false => rw [List.filter_cons_of_neg (by rw [hp]; simp), h a List.mem_cons_self hp, Nat.zero_add]
theorem sumTo_range (f : Nat → Nat) : ∀ m, sumTo f m = ((List.range m).map f).sum
  | 0 => rfl
  | m + 1 => by rw [sumTo, sumTo_range f m, List.range_succ, List.map_append, List.sum_append]; simp
/-- the sum over all symbols is the sum over those that come -/
theorem lens_sum {cs ss : List Int} {nc : Nat} (R : List Nat) (f : Nat → Nat) (hf : f 0 = 0) (hp : ss.Perm (picks cs nc)) :
    ((lensP ss R 0 nc).map f).sum = sumTo (fun j => f (bitsOf R j)) ss.length := by
  have hnd : ss.Nodup := hp.nodup_iff.2 (picks_nodup cs nc)
  obtain ⟨g, hg⟩ : ∃ g : Nat → Nat, ∀ i : Nat, g i = match posOf ss (i : Int) with | some p => bitsOf R p + (if p < 0 then 1 else 0) | none => 0 := ⟨_, fun _ => rfl⟩
  have e1 : (lensP ss R 0 nc).map f = (List.range nc).map fun i => f (g i) := by
    unfold lensP
    rw [List.map_map]
    refine List.map_congr_left fun i _ => ?_
    show f _ = f _
    rw [hg]
    all_goals rfl
  rw [e1, sum_filter (fun i => decide (0 < cs.getD i 0)) (fun i => f (g i)) (List.range nc)]
  · have e2 : ((List.range nc).filter fun i => decide (0 < cs.getD i 0)).map (fun i => f (g i)) = (picks cs nc).map fun x => f (g x.toNat) := by
      unfold picks
      rw [List.map_map]
      refine List.map_congr_left fun i _ => rfl
    rw [e2, perm_sum (hp.symm.map fun x => f (g x.toNat)), sumTo_range]
    congr 1
    refine List.ext_getElem (by simp) fun j h1 h2 => ?_
    rw [List.length_map] at h1
    rw [List.getElem_map, List.getElem_map, List.getElem_range]
    have hx : ss[j]? = some ss[j] := List.getElem?_eq_getElem h1
    have hmem := hp.subset (List.getElem_mem h1)
    unfold picks at hmem
    obtain ⟨k, _, hk⟩ := List.mem_map.1 hmem
    rw [← hk] at hx ⊢
    have : g (Int.ofNat k).toNat = bitsOf R j := by
      rw [hg]
      show (match posOf ss (Int.ofNat k) with | some p => _ | none => 0) = _
      rw [posOf_get hnd hx]
      simp
    rw [this]
  · intro i hi hpi
    have : (i : Int) ∉ ss := fun h => by
      have h1 := hp.subset h
      unfold picks at h1
      obtain ⟨k, hk, hki⟩ := List.mem_map.1 h1
      have h2 := (List.mem_filter.1 hk).2
      have : k = i := Int.ofNat.inj hki
      subst this
      rw [hpi] at h2
      cases h2
    show f (g i) = 0
    rw [hg, posOf_none this]
    exact hf
theorem lens_le {ss : List Int} {R : List Nat} {nc most : Nat} (hR : ∀ j, bitsOf R j ≤ most) : ∀ x ∈ lensP ss R 0 nc, x ≤ most := fun x hx => by
  unfold lensP at hx
  obtain ⟨i, _, rfl⟩ := List.mem_map.1 hx
  split
  · rename_i p _
    rw [if_neg (Nat.not_lt_zero p)]
    exact hR p
  · exact Nat.zero_le _
/-- they are lengths of a code, none longer than may be, and none 0 of a symbol that comes -/
theorem lens_fit {cs ss : List Int} {nc most : Nat} (hp : ss.Perm (picks cs nc)) (hws : Ws (ss.map (key cs))) (hm1 : 1 ≤ most) (hm2 : most ≤ 15) (hl : ss.length ≤ 2 ^ most) :
    tx (lensP ss (madeR (ss.map (key cs)) most) 0 nc) 15 ≤ 32768 ∧ (∀ x ∈ lensP ss (madeR (ss.map (key cs)) most) 0 nc, x ≤ most) ∧ ∀ j, j < ss.length → 1 ≤ bitsOf (madeR (ss.map (key cs)) most) j := by
  have hlw : (ss.map (key cs)).length = ss.length := List.length_map ..
  rw [tx_sum _ 15 (Nat.le_refl _), lens_sum (cs := cs) _ _ (by unfold share; rw [if_neg (by omega)]) hp]
  by_cases h2 : ss.length < 2
  · have e : madeR (ss.map (key cs)) most = [ss.length] := by unfold madeR; rw [hlw, if_pos h2]
    rw [e]
    have hb : ∀ j, bitsOf [ss.length] j = if j < ss.length then 1 else 0 := fun j => by unfold bitsOf; rw [List.countP_cons, List.countP_nil]; simp
    refine ⟨?_, lens_le fun j => ?_, fun j hj => by rw [hb, if_pos hj]; exact Nat.le_refl _⟩
    · rcases (by omega : ss.length = 0 ∨ ss.length = 1) with h | h
      · rw [h]; exact Nat.zero_le _
      · rw [h]
        show 0 + share 15 (bitsOf [1] 0) ≤ 32768
        decide
    · rw [hb]; split <;> omega
  · have e : madeR (ss.map (key cs)) most = run (ss.map (key cs)) most (2 * (ss.map (key cs)).length - 2) := by unfold madeR; rw [hlw, if_neg h2]
    obtain ⟨k1, k2⟩ := made hws most hm1 (by rw [hlw]; exact hl) (by rw [hlw]; omega)
    rw [← e] at k1 k2
    rw [hlw] at k1 k2
    refine ⟨?_, lens_le fun j => ?_, fun j hj => (k2 j hj).1⟩
    · have e3 : ∀ j, j < ss.length → share 15 (bitsOf (madeR (ss.map (key cs)) most) j) = 2 ^ (15 - most) * 2 ^ (most - bitsOf (madeR (ss.map (key cs)) most) j) := fun j hj => by
        obtain ⟨q1, q2⟩ := k2 j hj
        unfold share
        rw [if_pos (by omega), ← Nat.pow_add, show 15 - most + (most - bitsOf (madeR (ss.map (key cs)) most) j) = 15 - bitsOf (madeR (ss.map (key cs)) most) j by omega]
      rw [sumTo_same _ e3]
      have hmul : ∀ (c : Nat) (f : Nat → Nat) (m : Nat), sumTo (fun j => c * f j) m = c * sumTo f m := fun c f m => by
        induction m with
        | zero => rfl
        | succ m ih => rw [sumTo, sumTo, ih, Nat.mul_add]
      rw [hmul, k1, ← Nat.pow_add, show 15 - most + most = 15 by omega]
      decide
    · by_cases hj : j < ss.length
      · exact (k2 j hj).2
      · have hlen : (madeR (ss.map (key cs)) most).length = most := by rw [e, run_len]
        have := bitsOf_le (madeR (ss.map (key cs)) most) j
        omega
end Go.Proofs.YtppgceighgpgoaaGreatDoor.lenp
/-
  Of m codes that leave nothing over none is longer than m - 1 bits: plain mathematics, over no program. My own text.
-/
namespace Go.Proofs.YtppgceighgpgoaaGreatDoor.lenp
open Go.RowKit Go.Proofs.YtppgceighgpgoaaGreatDoor.base Go.Proofs.YtppgceighgpgoaaGreatDoor.lennum Go.Proofs.YtppgceighgpgoaaGreatDoor.sortp Go.Proofs.YtppgceighgpgoaaGreatDoor.huffnum
set_option linter.unusedVariables false
/-- how many texts of d bits are neither codes nor begun by codes -/
def open_ (ls : List Nat) (d : Nat) : Nat := 2 ^ d - nx ls d
theorem open_zero (ls : List Nat) : open_ ls 0 = 1 := by unfold open_ nx; rfl
theorem open_next {ls : List Nat} (h : tx ls 15 ≤ 32768) {d : Nat} (hd : d < 15) : open_ ls (d + 1) + ls.count (d + 1) = 2 * open_ ls d := by
  have h1 := nx_le h (n := d) (by omega)
  have h2 := nx_le h (n := d + 1) (by omega)
  unfold open_
  rw [nx] at h2 ⊢
  rw [Nat.pow_succ] at h2 ⊢
  omega
theorem open_sum {ls : List Nat} (h : tx ls 15 ≤ 32768) : ∀ D, D ≤ 15 → sumTo (open_ ls) D + 1 = sumTo (fun d => ls.count (d + 1)) D + open_ ls D
  | 0, _ => by rw [open_zero]; rfl
  | D + 1, hD => by
    have ih := open_sum h D (by omega)
    have hn := open_next h (d := D) (by omega)
    rw [sumTo, sumTo]
    omega
theorem open_some {ls : List Nat} (h : tx ls 15 ≤ 32768) {L : Nat} (hL : L ≤ 15) (hc : 1 ≤ ls.count L) : ∀ k d, d + k + 1 = L → 1 ≤ open_ ls d
  | 0, d, hd => by
    have hn := open_next h (d := d) (by omega)
    rw [show d + 1 = L by omega] at hn
    omega
  | k + 1, d, hd => by
    have h1 := open_some h hL hc k (d + 1) (by omega)
    have hn := open_next h (d := d) (by omega)
    omega
theorem sum_ones (f : Nat → Nat) : ∀ n, (∀ d, d < n → 1 ≤ f d) → n ≤ sumTo f n
  | 0, _ => Nat.le_refl _
  | n + 1, h => by
    have h1 := sum_ones f n fun d hd => h d (by omega)
    have h2 := h n (by omega)
    rw [sumTo]
    omega
theorem sum_more (f : Nat → Nat) (a : Nat) : ∀ k, sumTo f a ≤ sumTo f (a + k)
  | 0 => Nat.le_refl _
  | k + 1 => by
    have := sum_more f a k
    rw [← Nat.add_assoc, sumTo]
    omega
theorem count_sum (ls : List Nat) (h15 : ∀ x ∈ ls, x ≤ 15) : sumTo (fun d => ls.count (d + 1)) 15 = ls.countP fun x => decide (0 < x) := by
  have hgen : ∀ (ls : List Nat) D, sumTo (fun d => ls.count (d + 1)) D = ls.countP fun x => decide (0 < x ∧ x ≤ D) := by
    intro ls D
    induction D with
    | zero =>
      show 0 = _
      symm
      rw [List.countP_eq_zero]
      intro x _
      simp
      omega
    | succ D ih =>
      rw [sumTo, ih]
      clear ih
      induction ls with
      | nil => rfl
      | cons a r ihr =>
        rw [List.countP_cons, List.countP_cons, List.count_cons, ← ihr]
        by_cases e : a = D + 1
        · subst e
          simp only [beq_self_eq_true, decide_eq_true_eq, if_true]
          rw [if_neg (by omega), if_pos (by omega)]
          omega
        · have e2 : decide (0 < a ∧ a ≤ D + 1) = decide (0 < a ∧ a ≤ D) := by
            rw [decide_eq_decide]
            omega
          rw [e2]
          have e3 : (a == D + 1) = false := by simpa using e
          rw [e3]
          simp
          omega
  rw [hgen]
  refine List.countP_congr fun x hx => ?_
  have := h15 x hx
  simp
  omega
/-- none is longer than all there are, less one -/
theorem deep {ls : List Nat} (h : tx ls 15 = 32768) (h15 : ∀ x ∈ ls, x ≤ 15) : ∀ x ∈ ls, x + 1 ≤ ls.countP fun x => decide (0 < x) := fun x hx => by
  have hle : tx ls 15 ≤ 32768 := by omega
  have ho : open_ ls 15 = 0 := by
    unfold open_
    rw [tx_15] at h
    rw [h]
  have hs := open_sum hle 15 (Nat.le_refl _)
  rw [ho, count_sum ls h15] at hs
  rcases Nat.eq_zero_or_pos x with rfl | hx0
  · omega
  · have hx15 := h15 x hx
    have hc : 1 ≤ ls.count x := List.count_pos_iff.2 hx
    have h1 := sum_ones (open_ ls) x fun d hd => open_some hle hx15 hc (x - 1 - d) d (by omega)
    have h2 := sum_more (open_ ls) x (15 - x)
    rw [show x + (15 - x) = 15 by omega] at h2
    omega
/-- two symbols or more leave nothing over -/
theorem lens_full {cs ss : List Int} {nc most : Nat} (hp : ss.Perm (picks cs nc)) (hws : Ws (ss.map (key cs))) (hm1 : 1 ≤ most) (hm2 : most ≤ 15) (hl : ss.length ≤ 2 ^ most) (h2 : 2 ≤ ss.length) :
    tx (lensP ss (madeR (ss.map (key cs)) most) 0 nc) 15 = 32768 := by
  have hlw : (ss.map (key cs)).length = ss.length := List.length_map ..
  rw [tx_sum _ 15 (Nat.le_refl _), lens_sum (cs := cs) _ _ (by unfold share; rw [if_neg (by omega)]) hp]
  have e : madeR (ss.map (key cs)) most = run (ss.map (key cs)) most (2 * (ss.map (key cs)).length - 2) := by unfold madeR; rw [hlw, if_neg (by omega)]
  obtain ⟨k1, k2⟩ := made hws most hm1 (by rw [hlw]; exact hl) (by rw [hlw]; omega)
  rw [← e] at k1 k2
  rw [hlw] at k1 k2
  have e3 : ∀ j, j < ss.length → share 15 (bitsOf (madeR (ss.map (key cs)) most) j) = 2 ^ (15 - most) * 2 ^ (most - bitsOf (madeR (ss.map (key cs)) most) j) := fun j hj => by
    obtain ⟨q1, q2⟩ := k2 j hj
    unfold share
    rw [if_pos (by omega), ← Nat.pow_add, show 15 - most + (most - bitsOf (madeR (ss.map (key cs)) most) j) = 15 - bitsOf (madeR (ss.map (key cs)) most) j by omega]
  rw [sumTo_same _ e3]
  have hmul : ∀ (c : Nat) (f : Nat → Nat) (m : Nat), sumTo (fun j => c * f j) m = c * sumTo f m := fun c f m => by
    induction m with
    | zero => rfl
    | succ m ih => rw [sumTo, sumTo, ih, Nat.mul_add]
  rw [hmul, k1, ← Nat.pow_add, show 15 - most + most = 15 by omega]
theorem two_of {l : List Int} {a b : Int} (ha : a ∈ l) (hb : b ∈ l) (h : a ≠ b) : 2 ≤ l.length := by
  match l, ha, hb with
  | [x], ha, hb => rw [List.mem_singleton] at ha hb; exact absurd (ha.trans hb.symm) h
  | x :: y :: r, _, _ => simp
end Go.Proofs.YtppgceighgpgoaaGreatDoor.lenp
/-
  huff.Lengths, whole. My own text.
-/
namespace Go.Proofs.YtppgceighgpgoaaGreatDoor.lenp
open Go.RowKit Go.Proofs.YtppgceighgpgoaaGreatDoor.base Go.Proofs.YtppgceighgpgoaaGreatDoor.lennum Go.Proofs.YtppgceighgpgoaaGreatDoor.sortp Go.Proofs.YtppgceighgpgoaaGreatDoor.huffnum Go.Proofs.YtppgceighgpgoaaGreatDoor.infp
set_option linter.unusedVariables false
theorem lens_at {ss : List Int} {R : List Nat} {p nc x : Nat} (hn : ss.Nodup) (hx : ss[p]? = some (x : Int)) (hl : x < nc) : (lensP ss R 0 nc)[x]? = some (bitsOf R p) := by
  unfold lensP
  rw [List.getElem?_map, List.getElem?_range hl]
  simp only [Option.map_some]
  rw [posOf_get hn hx]
  simp
/-- the one way in which they are given out -/
def LenU (cs : List Int) (nc most : Nat) (T : List Nat) : Prop := ∃ ss : List Int, ss.Perm (picks cs nc) ∧ ss.Pairwise (fun a b => key2 cs a ≤ key2 cs b) ∧ T = lensP ss (madeR (ss.map (key cs)) most) 0 nc
theorem LenU.uniq {cs : List Int} {nc most : Nat} {T T' : List Nat} (hlc : cs.length = nc) (h : LenU cs nc most T) (h' : LenU cs nc most T') : T = T' := by
  obtain ⟨ss, hp, hs, rfl⟩ := h
  obtain ⟨ss', hp', hs', rfl⟩ := h'
  have e : ss = ss' := List.Perm.eq_of_pairwise (fun a b ha hb h1 h2 => key2_inj (picks_ok (by omega) a (hp.subset ha)) (picks_ok (by omega) b (hp'.subset hb)) (Int.le_antisymm h1 h2)) hs hs' (hp.trans hp'.symm)
  rw [e]
theorem lengths_any (C : Option Addr) (nc cc : Nat) (cs : List Int) (B : Nat) (w : World) (hC : Rd w B C nc (cs.map iv)) (hnc : nc ≤ 320) (hcc : nc ≤ cc) (hcm : cc ≤ maxLen) (hB : B ≤ w.heap.size) (most : Nat) (hm1 : 1 ≤ most) (hm2 : most ≤ 15)
    (hfew : (picks cs nc).length ≤ 2 ^ most) (hcz : ∀ x ∈ cs, x ≤ mostInt) :
    Calls Tryz.prog 30 #[.slice C nc cc, .int .i64 most] w fun e w' => ∃ (L : Nat) (T : List Nat), e = .returned (.slice (some ⟨L, 0, none⟩) nc nc) ∧ w.heap.size ≤ L ∧ Bk w' L 3 (lv T) ∧ Fresh w w' ∧ T.length = nc ∧ Fit T ∧ (∀ x ∈ T, x ≤ most) ∧ (∀ i, i < nc → 0 < cs.getD i 0 → 1 ≤ T.getD i 0) ∧ (∀ i, i < nc → ¬ 0 < cs.getD i 0 → T.getD i 0 = 0) ∧ (∀ i i', i < nc → i' < nc → 0 < cs.getD i 0 → 0 < cs.getD i' 0 → i ≠ i' → tx T 15 = 32768) ∧ (∀ i, i < nc → 0 < cs.getD i 0 → (∀ i', i' < nc → i' ≠ i → ¬ 0 < cs.getD i' 0) → T.getD i 0 = 1) ∧ LenU cs nc most T := by
  have hlc : cs.length = nc := by have := hC.1; rwa [List.length_map] at this
  have hM : ∀ g n c q B R cs, Merges g n c q B R cs := fun _ _ _ _ _ _ _ => merges
  have hall : Calls Tryz.prog 30 #[.slice C nc cc, .int .i64 most] w (LenIs cs nc most w) := by
    by_cases h2 : (picks cs nc).length < 2
    · exact lengths_few hM C nc cc cs B w hC hnc hcc hcm hB most (2 ^ most) hm1 hm2 rfl h2
    · exact lengths_many hM C nc cc cs B w hC hnc hcc hcm hB most (2 ^ most) hm1 hm2 rfl (by omega) hfew hcz
  refine hall.mono ?_
  rintro e w' ⟨L, ss, rfl, hL, hb, hf, hp, hs⟩
  obtain ⟨_, hws⟩ := WSOK hlc hcz hp hs
  obtain ⟨h1, h2, h3⟩ := lens_fit (most := most) hp hws hm1 hm2 (by rw [hp.length_eq]; exact hfew)
  refine ⟨L, _, rfl, hL, hb, hf, lensP_len _ _ _ _, ⟨h1, fun x hx => Nat.le_trans (h2 x hx) hm2⟩, h2, fun i hi hc => ?_, fun i hi hc => ?_, fun i i' hi hi' hc hc' hne => ?_, fun i hi hc hno => ?_, ⟨ss, hp, hs, rfl⟩⟩
  rotate_left
  · have hno : (i : Int) ∉ ss := fun h => by
      have h1 := hp.subset h
      unfold picks at h1
      obtain ⟨k, hk, hki⟩ := List.mem_map.1 h1
      have h2 := (List.mem_filter.1 hk).2
      have : k = i := Int.ofNat.inj hki
      subst this
      exact hc (by simpa using h2)
    unfold lensP
    rw [List.getD_eq_getElem?_getD, List.getElem?_map, List.getElem?_range hi]
    simp only [Option.map_some]
    rw [posOf_none hno]
    rfl
  · have hin : ∀ i, i < nc → 0 < cs.getD i 0 → (i : Int) ∈ ss := fun i hi hc => hp.symm.subset (by
      unfold picks
      exact List.mem_map.2 ⟨i, List.mem_filter.2 ⟨List.mem_range.2 hi, by simpa using hc⟩, rfl⟩)
    exact lens_full hp hws hm1 hm2 (by rw [hp.length_eq]; exact hfew) (two_of (hin i hi hc) (hin i' hi' hc') (fun h => hne (by omega)))
  · have hnd : ss.Nodup := hp.nodup_iff.2 (picks_nodup cs nc)
    have hmem : (i : Int) ∈ ss := hp.symm.subset (by
      unfold picks
      exact List.mem_map.2 ⟨i, List.mem_filter.2 ⟨List.mem_range.2 hi, by simpa using hc⟩, rfl⟩)
    have hall : ∀ x ∈ ss, x = (i : Int) := fun x hx => by
      have h1 := hp.subset hx
      unfold picks at h1
      obtain ⟨k, hk, rfl⟩ := List.mem_map.1 h1
      obtain ⟨hk1, hk2⟩ := List.mem_filter.1 hk
      exact Classical.byContradiction fun hne => hno k (List.mem_range.1 hk1) (fun e => hne (by rw [e]; rfl)) (by simpa using hk2)
    have hss : ss = [(i : Int)] := by
      clear hb hp hs hws h1 h2 h3
      cases ss with
      | nil => cases hmem
      | cons x r =>
        have hx := hall x (by simp)
        cases r with
        | nil => rw [hx]
        | cons y q =>
          have hy := hall y (by simp)
          rw [hx, hy] at hnd
          simp at hnd
    rw [List.getD_eq_getElem?_getD, lens_at (p := 0) hnd (by rw [hss]; rfl) hi, hss]
    simp [madeR, bitsOf]
  have hmem : (i : Int) ∈ ss := hp.symm.subset (by
    unfold picks
    exact List.mem_map.2 ⟨i, List.mem_filter.2 ⟨List.mem_range.2 hi, by simpa using hc⟩, rfl⟩)
  obtain ⟨j, hj, hji⟩ := List.getElem_of_mem hmem
  have hx : ss[j]? = some (i : Int) := by rw [List.getElem?_eq_getElem hj, hji]
  rw [List.getD_eq_getElem?_getD, lens_at (hp.nodup_iff.2 (picks_nodup cs nc)) hx hi]
  exact h3 j hj
end Go.Proofs.YtppgceighgpgoaaGreatDoor.lenp
