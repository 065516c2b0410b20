import Derived.Test.YtcmeoappddpmcaaDoorMgLenA
import Derived.Deep.DeepCutAuto
import Derived.Test.YtcmeoappddpmcaaDoorInfSpread
/- Several of my own texts, one behind the other. -/
/-
  huff.Lengths: coming. My own text.
-/
namespace Go.Proofs.YtcmeoappddpmcaaDoor.lenp
open Go.RowKit Go.Proofs.YtcmeoappddpmcaaDoor.base Go.Proofs.YtcmeoappddpmcaaDoor.lennum Go.Proofs.YtcmeoappddpmcaaDoor.sortp Go.Proofs.YtcmeoappddpmcaaDoor.sortnum
set_option linter.unusedVariables false

set_option maxRecDepth 100000 in
set_option maxHeartbeats 16000000 in
theorem ins_nil (c q : Nat) (A : Option Addr) (w : World) : Calls Tryd.prog 66 #[.slice A 0 c, .int .i64 0, .int .i64 0, kv q] w fun e w' => e = .returned (.tuple #[]) ∧ Fresh w w' := by
  go_enter Tryd.func66, Tryd.ntmps66
  go_wp2
  go_loopw [8] (fun vi wr => vi = .int .i64 1 ∧ Fresh w wr) (fun _ _ => 0)
  case atStart => exact ⟨rfl, Fresh.refl _⟩
  case round =>
    obtain ⟨rfl, hfr⟩ := hrel
    go_wp2
    go_end0
    exact ⟨rfl, hfr⟩
set_option maxRecDepth 100000 in
set_option maxHeartbeats 16000000 in
theorem stable_nil (c q : Nat) (A : Option Addr) (w : World) : Calls Tryd.prog 61 #[.slice A 0 c, .int .i64 0, kv q] w fun e w' => e = .returned (.tuple #[]) ∧ Fresh w w' := by
  have HI := Lib.hid (ins_nil c q A)
  go_enter Tryd.func61, Tryd.ntmps61
  go_wp2
  go_loopw [7, 8] (fun va vb wr => va = .int .i64 0 ∧ vb = .int .i64 20 ∧ Fresh w wr) (fun _ _ _ => 0)
  case atStart => exact ⟨rfl, rfl, Fresh.refl _⟩
  case round =>
    obtain ⟨rfl, rfl, hfr⟩ := hrel
    go_wp2_with (go_at_call 66; (refine (HI.out _).mono ?_); rintro e w1 ⟨rfl, hf1⟩)
    have HF := Lib.hid (hfr.trans hf1)
    clear hfr hf1
    go_loopw [6] (fun vx wr => vx = .int .i64 20 ∧ Fresh w wr) (fun _ _ => 0)
    case atStart => exact ⟨rfl, HF.out⟩
    case round =>
      obtain ⟨rfl, hfr⟩ := hrel
      go_wp2
      go_end0
      exact ⟨rfl, hfr⟩
set_option maxRecDepth 100000 in
set_option maxHeartbeats 16000000 in
theorem sort_nil (c q : Nat) (A : Option Addr) (w : World) : Calls Tryd.prog 50 #[.slice A 0 c, kv q] w fun e w' => e = .returned (.tuple #[]) ∧ Fresh w w' := by
  have HS := Lib.hid (stable_nil c q A)
  go_enter Tryd.func50, Tryd.ntmps50
  go_wp2_with (go_at_call 61; (refine (HS.out _).mono ?_); rintro e w1 ⟨rfl, hx⟩)
  go_end0
  exact ⟨rfl, hx⟩
theorem intInfo : (Tryd.prog.info? 3).map (fun i => (i.zero, i.size, i.bytes)) = some (some (.int .i64 0), 1, 8) := by kernel_rfl
theorem one_int (x : Int) : ∀ u ∈ [iv x], u.oneCell' = true := fun u hu => by rw [List.mem_singleton] at hu; subst hu; rfl
/-- the symbols that come, by their numbers -/
def picks (cs : List Int) (j : Nat) : List Int := ((List.range j).filter fun i => decide (0 < cs.getD i 0)).map Int.ofNat
theorem picks_in {cs : List Int} {j : Nat} (h : 0 < cs.getD j 0) : picks cs (j + 1) = picks cs j ++ [(j : Int)] := by
  unfold picks
  rw [List.range_succ, List.filter_append, List.map_append]
  simp only [List.filter_cons, List.filter_nil]
  rw [if_pos (by simpa using h)]
  rfl
theorem picks_out {cs : List Int} {j : Nat} (h : ¬ 0 < cs.getD j 0) : picks cs (j + 1) = picks cs j := by
  unfold picks
  rw [List.range_succ, List.filter_append, List.map_append]
  simp only [List.filter_cons, List.filter_nil]
  rw [if_neg (by simpa using h)]
  simp
theorem picks_len (cs : List Int) (j : Nat) : (picks cs j).length ≤ j := by
  unfold picks
  rw [List.length_map]
  have := List.length_filter_le (fun i => decide (0 < cs.getD i 0)) (List.range j)
  rwa [List.length_range] at this
theorem picks_ok {cs : List Int} {j : Nat} (hj : j ≤ cs.length) : ∀ x ∈ picks cs j, ok cs x := by
  intro x hx
  unfold picks at hx
  obtain ⟨i, hi, rfl⟩ := List.mem_map.1 hx
  have := List.mem_range.1 (List.mem_filter.1 hi).1
  exact ⟨Int.natCast_nonneg i, (show (i : Int) < (cs.length : Int) by omega)⟩
theorem lst_of (l : List Int) : lst (fun i => l.getD i 0) l.length = l := by
  unfold lst
  apply List.ext_getElem?
  intro i
  by_cases h : i < l.length
  · simp [h]
  · simp [h]
theorem lst_get (f : Nat → Int) (n i : Nat) (h : i < n) : (lst f n)[i]? = some (f i) := by unfold lst; simp [h]
theorem srt_pair {cs : List Int} {f : Nat → Int} {n : Nat} (h : Srt (kf cs f) 0 n) : (lst f n).Pairwise fun a b => key cs a ≤ key cs b := by
  rw [List.pairwise_iff_getElem]
  intro i j hi hj hij
  have hn : (lst f n).length = n := by unfold lst; simp
  have e1 : (lst f n)[i] = f i := by have := lst_get f n i (by omega); rw [List.getElem?_eq_getElem hi] at this; exact Option.some.inj this
  have e2 : (lst f n)[j] = f j := by have := lst_get f n j (by omega); rw [List.getElem?_eq_getElem hj] at this; exact Option.some.inj this
  rw [e1, e2]
  exact h i j (Nat.zero_le _) (by omega) (by omega)
set_option maxRecDepth 100000 in
set_option maxHeartbeats 16000000 in
theorem coming_any (hM : ∀ g n c q B R cs, Merges g n c q B R cs) (C : Option Addr) (nc cc : Nat) (cs : List Int) (B : Nat) (w : World)
    (hC : Rd w B C nc (cs.map iv)) (hnc : nc ≤ 500) (hcc : nc ≤ cc) (hcm : cc ≤ maxLen) (hB : B ≤ w.heap.size) :
    Calls Tryd.prog 37 #[.slice C nc cc] w fun e w' => ∃ (A : Option Addr) (m c : Nat) (ss : List Int), e = .returned (.slice A m c) ∧ Own w' w.heap.size 3 A m c (ss.map iv) ∧ ss.Perm (picks cs nc) ∧ ss.Pairwise (fun a b => key cs a ≤ key cs b) ∧ Fresh w w' := by
  have hlc : cs.length = nc := by have := hC.1; rwa [List.length_map] at this
  have HM := Lib.hid hM
  have HC := Lib.hid hC
  have HCM := Lib.hid hcm
  obtain ⟨i0, hi0, hz0, hz1, hz2⟩ := info_parts intInfo
  clear hM hC hcm
  go_enter Tryd.func37, Tryd.ntmps37
  go_wp2
  go_loopw [3, 8] (fun vs vi wr => ∃ (i : Nat) (A : Option Addr) (m c : Nat), vi = .int .i64 i ∧ vs = .slice A m c ∧ i ≤ nc ∧ m ≤ i ∧ Own wr (w.heap.size + 1) 3 A m c ((picks cs i).map iv) ∧ Hid (Bk wr w.heap.size 31 [.slice C nc cc]) ∧ Fresh w wr) (fun _ vi _ => nc - (intOf vi).toNat)
  case atStart => exact ⟨0, none, 0, 0, rfl, rfl, Nat.zero_le _, Nat.le_refl _, Own.nil _ _ _, Lib.hid (Bk.made w _ _), Fresh.alloc _ _⟩
  case round =>
    obtain ⟨i, A, m, c, rfl, rfl, hi, hmi, hO, hq, hfr⟩ := hrel
    by_cases hlt : i < nc
    · obtain ⟨b, off, x, hCe, hb, hx, hcx⟩ := (HC.out.keep (w' := wr) fun k hk => hfr.block k (by omega)).at_ hlt
      subst hCe
      have ii : (i : Int) < (nc : Int) := by omega
      have hgx : cs.getD i 0 = x := by rw [List.getD_eq_getElem?_getD, hx]; rfl
      have HQ := hq
      by_cases hx0 : 0 < x
      · have hpk := picks_in (cs := cs) (j := i) (by rw [hgx]; exact hx0)
        have ho1 := Own.fresh hO (Fresh.alloc wr (.cells #[iv (i : Int)] 3))
        go_wp2_with (at_builtin; go_loud (refine wpList_append_rd _ rfl _ _ 31 rfl (w.heap.size + 1) 3 i0 _ 8 Tryd.underlying31 hi0 hz0 hz1 hz2 rfl A m c _ rfl (Own.fresh hO (Fresh.alloc _ _)) (wr.heap.size + 1) (some ⟨wr.heap.size, 0, none⟩) 1 1 [iv (i : Int)] rfl (Rd.lit wr #[iv (i : Int)] 3) (one_int _) (by unfold maxLen; omega) (by omega) (by have := hfr.size; have := hq.out.inside; simp; omega) ?_); intro A3 c3 w3 ho3 hg3)
        refine ⟨⟨i + 1, A3, m + 1, c3, rfl, rfl, by omega, by omega, by rw [hpk, List.map_append]; exact ho3, Lib.hid ((hq.out.alloc _).grown hg3 fun e => by have := (World.ownsRow.lt ho1 _ e).1; omega), (hfr.trans (Fresh.alloc _ _)).append ho1 (by omega) hg3⟩, ?_⟩
        show nc - ((i : Int) + 1).toNat < nc - ((i : Int)).toNat
        omega
      · have hpk := picks_out (cs := cs) (j := i) (by rw [hgx]; exact hx0)
        go_wp2
        refine ⟨⟨i + 1, A, m, c, rfl, rfl, by omega, by omega, by rw [hpk]; exact hO, hq, hfr⟩, ?_⟩
        show nc - ((i : Int) + 1).toNat < nc - ((i : Int)).toNat
        omega
    · have hin : i = nc := by omega
      subst hin
      have hpl : (picks cs i).length = m := by have := hO.1; rw [List.length_map, Nat.mul_one] at this; exact this
      by_cases hm0 : m = 0
      · subst hm0
        have hp0 : picks cs i = [] := List.eq_nil_of_length_eq_zero hpl
        go_wp2_with (go_at_call 50; (refine (sort_nil c w.heap.size A _).mono ?_); rintro e w4 ⟨rfl, hf4⟩)
        go_ret
        exact ⟨A, 0, c, [], rfl, by have := Own.fresh hO hf4; rw [hp0] at this; exact ⟨this.1, this.2.imp id fun ⟨g, cap, cur, h1, h2, h3⟩ => ⟨g, cap, cur, h1, by omega, h3⟩⟩, by rw [hp0], List.Pairwise.nil, hfr.trans hf4⟩
      · rcases hO.2 with ⟨_, h0⟩ | ⟨g, cap, cur, hv, hbg, hg, hmc, hcl, hcs, htk⟩
        · omega
        injection hv with hA _ hcap
        subst hA; subst hcap
        rw [Nat.mul_one] at htk hcs
        have hD : DAt wr g m (cur.toList.drop m) (fun j => (picks cs i).getD j 0) := by
          show wr.heap[g]? = _
          have e : lst (fun j => (picks cs i).getD j 0) m = picks cs i := by rw [← hpl]; exact lst_of _
          rw [hg, e, ← htk, List.take_append_drop]
        have hcn : Cnt wr w.heap.size (w.heap.size + 1) cs := ⟨⟨C, i, cc, hq.out.cell rfl, (HC.out.keep fun k hk => hfr.block k (by omega)).up (by omega), hcc, HCM.out⟩, by omega⟩
        have hso := sort_any (HM.out g m c w.heap.size (w.heap.size + 1) (cur.toList.drop m) cs) _ wr hD (by omega) hcn hbg (fun j hj => picks_ok (j := i) (by omega) _ (by rw [List.getD_eq_getElem?_getD, List.getElem?_eq_getElem (by omega)]; exact List.getElem_mem _))
        have HSO := Lib.hid hso
        clear hso
        go_wp2_with (go_at_call 50; (refine HSO.out.mono ?_); rintro e w4 ⟨rfl, f', hD4, hW4, hS4, hB4⟩)
        go_ret
        refine ⟨_, m, c, lst f' m, rfl, ⟨by unfold lst; simp, .inr ⟨g, c, _, rfl, by omega, hD4, hmc, hcl, ?_, ?_⟩⟩, ?_, srt_pair hS4, hfr.but (by omega) hB4⟩
        · have : (lst f' m).length = m := by unfold lst; simp
          simp [this]
          omega
        · have : ((lst f' m).map iv).length = m := by unfold lst; simp
          rw [Nat.mul_one, List.take_left' this]
        · have e : lst (fun j => (picks cs i).getD j 0) m = picks cs i := by rw [← hpl]; exact lst_of _
          have := hW4.perm
          rwa [e] at this
end Go.Proofs.YtcmeoappddpmcaaDoor.lenp
/-
  Lengths of codes as a row over all symbols, while they are made: plain mathematics, over no program. My own text.
-/
namespace Go.Proofs.YtcmeoappddpmcaaDoor.lenp
open Go.RowKit Go.Proofs.YtcmeoappddpmcaaDoor.base Go.Proofs.YtcmeoappddpmcaaDoor.lennum Go.Proofs.YtcmeoappddpmcaaDoor.sortp
set_option linter.unusedVariables false
/-- where a symbol stands -/
def posOf : List Int → Int → Option Nat
  | [], _ => none
  | x :: r, i => if x = i then some 0 else (posOf r i).map (· + 1)
theorem posOf_some : ∀ {l : List Int} {i : Int} {p : Nat}, posOf l i = some p → l[p]? = some i
  | x :: r, i, p, h => by
    rw [posOf] at h
    by_cases e : x = i
    · rw [if_pos e] at h
      injection h with h
      subst h; subst e
      rfl
    · rw [if_neg e, Option.map_eq_some_iff] at h
      obtain ⟨q, hq, rfl⟩ := h
      rw [List.getElem?_cons_succ]
      exact posOf_some hq
theorem posOf_get : ∀ {l : List Int} {i : Int} {p : Nat}, l.Nodup → l[p]? = some i → posOf l i = some p
  | x :: r, i, 0, _, h => by
    simp at h
    rw [posOf, if_pos h]
  | x :: r, i, p + 1, hn, h => by
    rw [List.getElem?_cons_succ] at h
    obtain ⟨h1, h2⟩ := List.nodup_cons.1 hn
    have hne : x ≠ i := fun e => h1 (e ▸ List.mem_of_getElem? h)
    rw [posOf, if_neg hne, posOf_get h2 h]
    rfl
theorem posOf_none {l : List Int} {i : Int} (h : i ∉ l) : posOf l i = none := by
  cases hp : posOf l i with
  | none => rfl
  | some p => exact absurd (List.mem_of_getElem? (posOf_some hp)) h
/-- the lengths, when the levels with R symbols are through, and j symbols of the next one -/
def lensP (ss : List Int) (R : List Nat) (j nc : Nat) : List Nat := (List.range nc).map fun i : Nat => match posOf ss (i : Int) with
  | some p => bitsOf R p + if p < j then 1 else 0
  | none => 0
theorem lensP_len (ss : List Int) (R : List Nat) (j nc : Nat) : (lensP ss R j nc).length = nc := by simp [lensP]
theorem bitsOf_snoc (R : List Nat) (s p : Nat) : bitsOf (R ++ [s]) p = bitsOf R p + if p < s then 1 else 0 := by
  unfold bitsOf
  rw [List.countP_append, List.countP_cons, List.countP_nil]
  simp
theorem lensP_all (ss : List Int) (R : List Nat) (s nc : Nat) : lensP ss R s nc = lensP ss (R ++ [s]) 0 nc := by
  unfold lensP
  refine List.map_congr_left fun i _ => ?_
  cases posOf ss (i : Int) with
  | none => rfl
  | some p =>
    simp only
    rw [bitsOf_snoc, if_neg (Nat.not_lt_zero p), Nat.add_zero]
theorem lensP_start (ss : List Int) (nc : Nat) : lensP ss [] 0 nc = List.replicate nc 0 := by
  unfold lensP
  refine List.ext_getElem? fun i => ?_
  by_cases h : i < nc
  · rw [List.getElem?_map, List.getElem?_range h, List.getElem?_replicate, if_pos h]
    simp only [Option.map_some]
    cases posOf ss (i : Int) with
    | none => rfl
    | some p => simp [bitsOf]
  · rw [List.getElem?_eq_none (by simp; omega), List.getElem?_eq_none (by simp; omega)]
theorem lensP_get {ss : List Int} {R : List Nat} {j nc x : Nat} (hn : ss.Nodup) (hx : ss[j]? = some (x : Int)) (hl : x < nc) : (lensP ss R j nc)[x]? = some (bitsOf R j) := by
  unfold lensP
  rw [List.getElem?_map, List.getElem?_range hl]
  simp only [Option.map_some]
  rw [posOf_get hn hx]
  simp
theorem lensP_set {ss : List Int} {R : List Nat} {j nc x : Nat} (hn : ss.Nodup) (hx : ss[j]? = some (x : Int)) (hl : x < nc) : (lensP ss R j nc).set x (bitsOf R j + 1) = lensP ss R (j + 1) nc := by
  refine List.ext_getElem? fun i => ?_
  rw [List.getElem?_set, lensP_len]
  by_cases hi : i < nc
  · unfold lensP
    rw [List.getElem?_map, List.getElem?_map, List.getElem?_range hi]
    simp only [Option.map_some]
    by_cases e : x = i
    · subst e
      rw [if_pos rfl, if_pos hi, posOf_get hn hx]
      simp
    · rw [if_neg e]
      cases hp : posOf ss (i : Int) with
      | none => rfl
      | some p =>
        have hpj : p ≠ j := fun h => by
          have h1 := posOf_some hp
          rw [h, hx] at h1
          injection h1 with h1
          omega
        simp only
        by_cases h1 : p < j
        · rw [if_pos h1, if_pos (by omega)]
        · rw [if_neg h1, if_neg (by omega)]
  · rw [List.getElem?_eq_none (by rw [lensP_len]; omega), List.getElem?_eq_none (by rw [lensP_len]; omega)]
    by_cases e : x = i
    · subst e; omega
    · rw [if_neg e]
/-- the symbols that come are each there once -/
theorem picks_nodup (cs : List Int) (n : Nat) : (picks cs n).Nodup := by
  unfold picks
  refine List.Pairwise.map _ ?_ (List.Pairwise.filter _ (List.nodup_range (n := n)))
  intro a b h e
  exact h (Int.ofNat.inj e)
/-- how many levels each symbol is taken on -/
def madeR (ws : List Int) (most : Nat) : List Nat := if ws.length < 2 then [ws.length] else run ws most (2 * ws.length - 2)
end Go.Proofs.YtcmeoappddpmcaaDoor.lenp
/-
  huff.Lengths: singles. My own text.
-/
namespace Go.Proofs.YtcmeoappddpmcaaDoor.lenp
open Go.RowKit Go.Proofs.YtcmeoappddpmcaaDoor.base Go.Proofs.YtcmeoappddpmcaaDoor.lennum
set_option linter.unusedVariables false

set_option maxRecDepth 100000 in
set_option maxHeartbeats 16000000 in
theorem singles_any (A : Option Addr) (n c B : Nat) (l : List Itm) (w : World) (h : RdI w B A n l) (hn : n ≤ 1000) (hB : B ≤ w.heap.size) :
    Calls Tryd.prog 39 #[.slice A n c] w fun e w' => e = .returned (.int .i64 (singles l : Nat)) ∧ Fresh w w' := by
  go_enter Tryd.func39, Tryd.ntmps39
  go_wp2
  go_loopw [3, 8] (fun vt vi wr => ∃ (i : Nat), i ≤ n ∧ vi = .int .i64 i ∧ vt = .int .i64 (singles (l.take i) : Nat) ∧ Fresh w wr) (fun _ vi _ => n - (intOf vi).toNat)
  case atStart => exact ⟨0, Nat.zero_le _, rfl, rfl, Fresh.refl _⟩
  case round =>
    obtain ⟨i, hi, rfl, rfl, hfr⟩ := hrel
    by_cases hlt : i < n
    · obtain ⟨x, hx⟩ : ∃ x, l[i]? = some x := ⟨l[i]'(by have := h.1; omega), List.getElem?_eq_getElem (by have := h.1; omega)⟩
      have hr := h.fresh hfr hB
      obtain ⟨b, off, rfl, hb, hcell⟩ := hr.2 (by omega)
      have hc1 := hcell _ _ (icells_get l i x hx).1
      have hc2 := hcell _ _ (icells_get l i x hx).2
      rw [← Nat.add_assoc] at hc2
      rw [Nat.mul_comm 2 i] at hc1 hc2
      have hil : (i : Int) < (n : Int) := by omega
      have hstep : singles (l.take (i + 1)) = singles (l.take i) + if x.2 = true then 0 else 1 := by
        rw [List.take_add_one, hx]
        show singles (l.take i ++ [x]) = _
        unfold singles
        rw [List.countP_append]
        obtain ⟨a, b⟩ := x
        cases b <;> simp
      go_wp2
      · rename_i hx2
        have hx3 : x.2 = false := by cases hh : x.2 <;> simp_all
        rw [hx3] at hstep
        have hle : singles (l.take i) ≤ i := by have := both (l.take i); rw [List.length_take] at this; omega
        refine ⟨⟨i + 1, by omega, rfl, ?_, hfr.trans (Fresh.alloc _ _)⟩, ?_⟩
        · rw [hstep, IntWalk.wrap64_in _ ⟨by omega, by omega⟩]
          rfl
        · show n - ((i : Int) + 1).toNat < n - ((i : Int)).toNat
          omega
      · rename_i hx2
        have hx3 : x.2 = true := by cases hh : x.2 <;> simp_all
        rw [hx3] at hstep
        refine ⟨⟨i + 1, by omega, rfl, ?_, hfr.trans (Fresh.alloc _ _)⟩, ?_⟩
        · rw [hstep]
          rfl
        · show n - ((i : Int) + 1).toNat < n - ((i : Int)).toNat
          omega
    · have hi2 : i = n := by omega
      subst hi2
      go_wp2
      go_ret
      refine ⟨?_, hfr⟩
      rw [List.take_of_length_le (by rw [h.1]; omega)]
      rfl
end Go.Proofs.YtcmeoappddpmcaaDoor.lenp
/-
  huff.Lengths, walked. My own text.
-/
namespace Go.Proofs.YtcmeoappddpmcaaDoor.lenp
open Go.RowKit Go.Proofs.YtcmeoappddpmcaaDoor.base Go.Proofs.YtcmeoappddpmcaaDoor.lennum Go.Proofs.YtcmeoappddpmcaaDoor.sortp Go.Proofs.YtcmeoappddpmcaaDoor.sortnum
set_option linter.unusedVariables false

abbrev lv (l : List Nat) : List Value := l.map fun x : Nat => iv (x : Int)
theorem lv_set (l : List Nat) (i x : Nat) : (lv l).set i (iv (x : Int)) = lv (l.set i x) := by unfold lv; rw [List.map_set]
/-- what Lengths tells -/
def LenIs (cs : List Int) (nc most : Nat) (w : World) (e : Ending) (w' : World) : Prop :=
  ∃ (L : Nat) (ss : List Int), e = .returned (.slice (some ⟨L, 0, none⟩) nc nc) ∧ w.heap.size ≤ L ∧ Bk w' L 3 (lv (lensP ss (madeR (ss.map (key cs)) most) 0 nc)) ∧ Fresh w w' ∧ ss.Perm (picks cs nc) ∧ ss.Pairwise (fun a b => key cs a ≤ key cs b)
set_option maxRecDepth 100000 in
set_option maxHeartbeats 4000000 in
/-- fewer than two symbols -/
theorem lengths_few (hM : ∀ g n c q B R cs, Merges g n c q B R cs) (C : Option Addr) (nc cc : Nat) (cs : List Int) (B : Nat) (w : World)
    (hC : Rd w B C nc (cs.map iv)) (hnc : nc ≤ 320) (hcc : nc ≤ cc) (hcm : cc ≤ maxLen) (hB : B ≤ w.heap.size) (most P : Nat) (hm1 : 1 ≤ most) (hm2 : most ≤ 15) (hP : 2 ^ most = P) (hfew : (picks cs nc).length < 2) :
    Calls Tryd.prog 23 #[.slice C nc cc, .int .i64 most] w (LenIs cs nc most w) := by
  obtain ⟨i0, hi0, hz0, hz1, hz2⟩ := info_parts intInfo
  have hcom : ∀ wr, Fresh w wr → _ := fun wr (hf : Fresh w wr) => coming_any hM C nc cc cs B wr (hC.keep fun k hk => hf.block k (by omega)) (by omega) hcc hcm (by have := hf.size; omega)
  have hP2 : 2 ≤ P := by rw [← hP]; exact Nat.pow_le_pow_right (n := 2) (i := 1) (by omega) hm1
  have hP3 : P ≤ 32768 := by rw [← hP]; exact Nat.pow_le_pow_right (n := 2) (j := 15) (by omega) hm2
  have hlc : cs.length = nc := by have := hC.1; rwa [List.length_map] at this
  have hPw : wrap64 (2 ^ most) = (P : Int) := by
    rw [← hP]
    rw [IntWalk.wrap64_in]
    · push_cast; rfl
    · have : ((2 : Int) ^ most) = ((2 ^ most : Nat) : Int) := by push_cast; rfl
      rw [this, hP]; omega
  have HCOM := Lib.hid hcom
  have HLC := Lib.hid hlc
  have HFEW := Lib.hid hfew
  have mi1 : (1 : Int) ≤ (most : Int) := by omega
  have mi2 : (most : Int) ≤ 15 := by omega
  have t320 : decide ((nc : Int) > 320) = false := by rw [decide_eq_false_iff_not]; omega
  have t321 : decide (320 < (nc : Int)) = false := by rw [decide_eq_false_iff_not]; omega
  clear hcom hC hcc hcm hP hlc hfew hM
  go_enter Tryd.func23, Tryd.ntmps23
  go_upto_region 1 with (fail)
  go_cut [1] (fun t wx => t = .int .i64 (most : Nat) ∧ Fresh w wx)
  case first =>
    go_wp2
    all_goals go_meet
    all_goals (refine ⟨?_, Fresh.refl _⟩)
    · rfl
    · have h1 : (most : Int) = 1 := by omega
      rw [h1]
  case rest =>
    obtain ⟨rfl, hf0⟩ := hcut
    have HF0 := Lib.hid hf0
    clear hf0
    go_wp2_with (first
      | (go_at_call 37; (refine (HCOM.out _ HF0.out).mono ?_); rintro e w1 ⟨SA, m, sc, ss, rfl, hso, hpm, hsr, hf1⟩; have hml : ss.length = m := (by have := hso.1; rw [List.length_map] at this; omega); have hmm : m < 2 := (by rw [← hml, hpm.length_eq]; exact HFEW.out); have HSO := Lib.hid hso; have HPM := Lib.hid hpm; have HSR := Lib.hid hsr; have HF1 := Lib.hid hf1; have HML := Lib.hid hml; have tp := (show decide ((m : Int) > (P : Int)) = false by rw [decide_eq_false_iff_not]; omega); have tp2 := (show decide ((P : Int) < (m : Int)) = false by rw [decide_eq_false_iff_not]; omega); clear hso hpm hsr hf1 hml; obtain ⟨L, hLd⟩ : ∃ L, w1.heap.size = L := ⟨_, rfl⟩)
      | ((with_reducible refine at_slot_ 33 ?_); refine wpList_make_blk rfl 31 (.tmp 32) (.tmp 32) rfl 3 i0 _ Tryd.underlying31 hi0 hz0 hz1 rfl nc rfl rfl (by rw [hz2]; omega) (by unfold maxLen; omega) L (by omega) ?_; intro w2 hb2 hf2))
    have hb3 : Bk w2 L 3 (lv (lensP ss [] 0 nc)) := by
      rw [lensP_start]; unfold lv; rw [List.map_replicate]; exact hb2
    have hxs : ∀ x ∈ ss, ∃ k : Nat, x = (k : Int) ∧ k < nc := fun x hx => by
      have h := picks_ok (cs := cs) (j := nc) (by have := HLC.out; omega) x (HPM.out.subset hx)
      exact ⟨x.toNat, by have := h.1; omega, by have h1 := h.1; have h2 := h.2; have := HLC.out; omega⟩
    have hnd : ss.Nodup := HPM.out.nodup_iff.2 (picks_nodup cs nc)
    have HXS := Lib.hid hxs
    have HND := Lib.hid hnd
    have HF2 := Lib.hid hf2
    clear hb2 hxs hnd hf2
    go_loopw [39] (fun vi wr => ∃ (i : Nat), vi = .int .i64 i ∧ i ≤ m ∧ Bk wr L 3 (lv (lensP ss [] i nc)) ∧ Hid (Fresh w1 wr)) (fun vi _ => m - (intOf vi).toNat)
    case atStart => exact ⟨0, rfl, Nat.zero_le _, hb3, HF2⟩
    case round =>
      obtain ⟨i, rfl, him, hbk, HFR⟩ := hrel
      by_cases hlt : i < m
      · have hil : (i : Int) < (m : Int) := by omega
        obtain ⟨b, off, x, hSA, hb, hx, hcx⟩ := (HSO.out.rd.keep (w' := wr) fun k hk => HFR.out.block k hk).at_ hlt
        obtain ⟨k, rfl, hk⟩ := HXS.out x (List.mem_of_getElem? hx)
        subst hSA
        have hcl : wr.cell? ⟨L, k, none⟩ = some _ := hbk.cell (i := k) (List.getElem?_eq_getElem (by unfold lv; rw [List.length_map, lensP_len]; exact hk))
        have hfz := hbk.free k
        have hput := hbk.put k (iv 1)
        have e1 : (lv (lensP ss [] i nc)).set k (iv 1) = lv (lensP ss [] (i + 1) nc) := by
          rw [← lensP_set HND.out hx hk]
          exact lv_set _ _ 1
        rw [e1] at hput
        have ki : (k : Int) < (nc : Int) := by omega
        have HPUT := Lib.hid hput
        clear hput e1
        go_wp2
        refine ⟨⟨i + 1, rfl, hlt, HPUT.out, HFR.out.but (by omega) (But.put _ _)⟩, ?_⟩
        show m - ((i : Int) + 1).toNat < m - ((i : Int)).toNat
        omega
      · have hin : i = m := by omega
        subst hin
        go_wp2
        go_ret
        refine ⟨L, ss, rfl, by have := HF0.out.size; have := HF1.out.size; omega, ?_, (HF0.out.trans HF1.out).trans HFR.out, HPM.out, HSR.out⟩
        have e1 : madeR (ss.map (key cs)) most = [i] := by
          unfold madeR
          rw [List.length_map, HML.out, if_pos hmm]
        rw [e1, ← List.nil_append [i], ← lensP_all]
        exact hbk
end Go.Proofs.YtcmeoappddpmcaaDoor.lenp
/-
  huff.Lengths of two symbols and more, walked. My own text.
-/
namespace Go.Proofs.YtcmeoappddpmcaaDoor.lenp
open Go.RowKit Go.Proofs.YtcmeoappddpmcaaDoor.base Go.Proofs.YtcmeoappddpmcaaDoor.lennum Go.Proofs.YtcmeoappddpmcaaDoor.sortp Go.Proofs.YtcmeoappddpmcaaDoor.sortnum
set_option linter.unusedVariables false

theorem behind_true (ws : List Int) : ∀ k, ∀ x ∈ behind ws k, x.2 = true
  | 0 => fun x h => by cases h
  | k + 1 => paired_true _
theorem lev_singles (ws : List Int) (k : Nat) : singles (lev ws k) = ws.length := by
  have h1 := both (lev ws k)
  rw [← lev_is, merged_pairs ws _ (behind_true ws k), merged_len] at h1
  rw [← lev_is]
  omega
theorem singles_le (ws : List Int) (k t : Nat) : singles ((lev ws k).take t) ≤ ws.length ∧ singles ((lev ws k).take t) ≤ t := by
  have h1 := singles_take (lev ws k) t
  rw [lev_singles] at h1
  have h2 := both ((lev ws k).take t)
  rw [List.length_take] at h2
  omega
theorem WSOK {cs ss : List Int} {nc : Nat} (hlc : cs.length = nc) (hcz : ∀ x ∈ cs, x ≤ mostInt) (hp : ss.Perm (picks cs nc)) (hs : ss.Pairwise (fun a b => key cs a ≤ key cs b)) :
    (∀ s ∈ ss, ok cs s) ∧ Ws (ss.map (key cs)) := by
  have hok : ∀ s ∈ ss, ok cs s := fun s h => picks_ok (by omega) s (hp.subset h)
  refine ⟨hok, List.pairwise_map.2 hs, fun a ha => ?_⟩
  obtain ⟨x, hx, rfl⟩ := List.mem_map.1 ha
  have h1 := hp.subset hx
  unfold picks at h1
  obtain ⟨k, hk, rfl⟩ := List.mem_map.1 h1
  have h2 := (List.mem_filter.1 hk).2
  have h3 : 0 < cs.getD k 0 := by simpa using h2
  have e : key cs (Int.ofNat k) = cs.getD k 0 := rfl
  rw [e]
  refine ⟨by omega, ?_⟩
  rw [List.getD_eq_getElem?_getD] at h3 ⊢
  cases hc : cs[k]? with
  | none => rw [hc] at h3; simp at h3
  | some v => exact hcz v (List.mem_of_getElem? hc)
theorem RdI.head {w : World} {B n t : Nat} {A : Option Addr} {l : List Itm} (h : RdI w B A n l) (ht : t ≤ n) : RdI w B A t (l.take t) := by
  refine ⟨by rw [List.length_take, h.1]; omega, fun hn => ?_⟩
  obtain ⟨b, off, rfl, hb, hcell⟩ := h.2 (by omega)
  refine ⟨b, off, rfl, hb, fun j u hu => hcell j u ?_⟩
  rw [← List.take_append_drop t l, icells_append, List.getElem?_append_left (List.getElem?_eq_some_iff.1 hu).1]
  exact hu
set_option maxRecDepth 100000 in
set_option maxHeartbeats 4000000 in
/-- two symbols and more -/
theorem lengths_many (hM : ∀ g n c q B R cs, Merges g n c q B R cs) (C : Option Addr) (nc cc : Nat) (cs : List Int) (B : Nat) (w : World)
    (hC : Rd w B C nc (cs.map iv)) (hnc : nc ≤ 320) (hcc : nc ≤ cc) (hcm : cc ≤ maxLen) (hB : B ≤ w.heap.size) (most P : Nat) (hm1 : 1 ≤ most) (hm2 : most ≤ 15) (hP : 2 ^ most = P) (hmany : 2 ≤ (picks cs nc).length) (hmost : (picks cs nc).length ≤ P) (hcz : ∀ x ∈ cs, x ≤ mostInt) :
    Calls Tryd.prog 23 #[.slice C nc cc, .int .i64 most] w (LenIs cs nc most w) := by
  obtain ⟨i0, hi0, hz0, hz1, hz2⟩ := info_parts intInfo
  have hcom : ∀ wr, Fresh w wr → _ := fun wr (hf : Fresh w wr) => coming_any hM C nc cc cs B wr (hC.keep fun k hk => hf.block k (by omega)) (by omega) hcc hcm (by have := hf.size; omega)
  have hP2 : 2 ≤ P := by rw [← hP]; exact Nat.pow_le_pow_right (n := 2) (i := 1) (by omega) hm1
  have hP3 : P ≤ 32768 := by rw [← hP]; exact Nat.pow_le_pow_right (n := 2) (j := 15) (by omega) hm2
  have hlc : cs.length = nc := by have := hC.1; rwa [List.length_map] at this
  have hPw : wrap64 (2 ^ most) = (P : Int) := by
    rw [← hP]
    rw [IntWalk.wrap64_in]
    · push_cast; rfl
    · have : ((2 : Int) ^ most) = ((2 ^ most : Nat) : Int) := by push_cast; rfl
      rw [this, hP]; omega
  have HCOM := Lib.hid hcom
  have HLC := Lib.hid hlc
  have HMANY := Lib.hid hmany
  have HMOST := Lib.hid hmost
  have HCZ := Lib.hid hcz
  have HPP := Lib.hid hP
  have HC := Lib.hid hC
  have mi1 : (1 : Int) ≤ (most : Int) := by omega
  have mi2 : (most : Int) ≤ 15 := by omega
  have t320 : decide ((nc : Int) > 320) = false := by rw [decide_eq_false_iff_not]; omega
  have t321 : decide (320 < (nc : Int)) = false := by rw [decide_eq_false_iff_not]; omega
  clear hcom hC hcc hcm hP hlc hmany hmost hcz hM
  go_enter Tryd.func23, Tryd.ntmps23
  go_upto_region 1 with (fail)
  go_cut [1] (fun t wx => t = .int .i64 (most : Nat) ∧ Fresh w wx)
  case first =>
    go_wp2
    all_goals go_meet
    all_goals (refine ⟨?_, Fresh.refl _⟩)
    · rfl
    · have h1 : (most : Int) = 1 := by omega
      rw [h1]
  case rest =>
    obtain ⟨rfl, hf0⟩ := hcut
    have HF0 := Lib.hid hf0
    clear hf0
    go_wp2_with (first
      | (go_at_call 37; (refine (HCOM.out _ HF0.out).mono ?_); rintro e w1 ⟨SA, m, sc, ss, rfl, hso, hpm, hsr, hf1⟩; have hml : ss.length = m := (by have := hso.1; rw [List.length_map] at this; omega); have hmm : 2 ≤ m := (by rw [← hml, hpm.length_eq]; exact HMANY.out); have hmP : m ≤ P := (by rw [← hml, hpm.length_eq]; exact HMOST.out); have hm3 : m ≤ 320 := (by rw [← hml, hpm.length_eq]; exact Nat.le_trans (picks_len cs nc) hnc); have hsc := hso.cap; have HSO := Lib.hid hso; have HPM := Lib.hid hpm; have HSR := Lib.hid hsr; have HF1 := Lib.hid hf1; have HML := Lib.hid hml; have tp := (show decide ((m : Int) > (P : Int)) = false by rw [decide_eq_false_iff_not]; omega); have tp2 := (show decide ((P : Int) < (m : Int)) = false by rw [decide_eq_false_iff_not]; omega); have tq : ¬ ((m : Int) < 2) := (by omega); clear hso hpm hsr hf1 hml; obtain ⟨L, hLd⟩ : ∃ L, w1.heap.size = L := ⟨_, rfl⟩)
      | ((with_reducible refine at_slot_ 33 ?_); refine wpList_make_blk rfl 31 (.tmp 32) (.tmp 32) rfl 3 i0 _ Tryd.underlying31 hi0 hz0 hz1 rfl nc rfl rfl (by rw [hz2]; omega) (by unfold maxLen; omega) L (by omega) ?_; intro w2 hb2 hf2; have HB2 := Lib.hid hb2; have HF2 := Lib.hid hf2; clear hb2 hf2)
      | (go_at_call 38; obtain ⟨hok, hws⟩ := WSOK HLC.out HCZ.out HPM.out HSR.out; (refine (levels_any SA m sc ss C nc cc cs w2.heap.size most w2 ((HSO.out.rd.keep fun k hk => HF2.out.block k hk).up HF2.out.size) ((HC.out.keep fun k hk => ((HF0.out.trans HF1.out).trans HF2.out).block k (by omega)).up (by have := HF0.out.size; have := HF1.out.size; have := HF2.out.size; omega)) (by omega) hm1 hm2 (Nat.le_refl _) hok hws).mono ?_); rintro e w3 ⟨vs, rfl, hvl, hone, hf3, hlv⟩; have HOK := Lib.hid hok; have HWS := Lib.hid hws; have HVL := Lib.hid hvl; have HONE := Lib.hid hone; have HF3 := Lib.hid hf3; have HLV := Lib.hid hlv; clear hok hws hvl hone hf3 hlv; obtain ⟨G, hGd⟩ : ∃ G, w3.heap.size = G := ⟨_, rfl⟩)
      | ((with_reducible (refine at_store_ 9 51 ?_)); refine wpList_store_new rfl tLevels (.tmp 9) (.tmp 51) rfl G vs (by rw [← hGd]; rfl) rfl w3 _ tLevels rfl hGd.symm (by have := HVL.out; simp; omega) HONE.out (by rw [levelsInfo, HVL.out]) ?_; intro w4 hb4 hf4 hg4; have HB4 := Lib.hid hb4; have HF4 := Lib.hid hf4; clear hb4 hf4))
    have hb3 : Bk w4 L 3 (lv (lensP ss [] 0 nc)) := by
      rw [lensP_start]; unfold lv; rw [List.map_replicate]; exact (HB2.out.fresh HF3.out).fresh HF4.out
    have hxs : ∀ x ∈ ss, ∃ k : Nat, x = (k : Int) ∧ k < nc := fun x hx => by
      have h := HOK.out x hx
      exact ⟨x.toNat, by have := h.1; omega, by have h1 := h.1; have h2 := h.2; have := HLC.out; omega⟩
    have hnd : ss.Nodup := HPM.out.nodup_iff.2 (picks_nodup cs nc)
    have HXS := Lib.hid hxs
    have HND := Lib.hid hnd
    have hL2 : L < w2.heap.size := HB2.out.inside
    have hL4 : w2.heap.size ≤ w3.heap.size := HF3.out.size
    clear hxs hnd
    obtain ⟨ws, hwsd⟩ : ∃ ws, ss.map (key cs) = ws := ⟨_, rfl⟩
    have hwl : ws.length = m := by rw [← hwsd, List.length_map]; exact HML.out
    have hws : Ws ws := hwsd ▸ HWS.out
    have hlv := HLV.out
    rw [hwsd] at hlv
    have HLW := Lib.hid hlv
    have HWL := Lib.hid hwl
    have HWW := Lib.hid hws
    have HWD := Lib.hid hwsd
    have HTOP := Lib.hid (lev_top ws most hm1 (by rw [HPP.out, hwl]; exact hmP) (by rw [hwl]; exact hmm))
    have e2m : (2 : Int) * (m : Int) - 2 = ((2 * m - 2 : Nat) : Int) := by omega
    rw [e2m]
    clear hlv hwl hws hwsd HLV HWS HML e2m HB2
    go_loopw [10, 59] (fun vt vi wr => ∃ (i t : Nat) (R : List Nat), vi = .int .i64 i ∧ vt = .int .i64 t ∧ i ≤ most ∧ t ≤ 640 ∧ Hid (R ++ run ws (most - i) t = run ws most (2 * m - 2)) ∧ Hid (i < most → t ≤ (lev ws (most - 1 - i)).length) ∧ Bk wr L 3 (lv (lensP ss R 0 nc)) ∧ Hid (But L w4 wr)) (fun _ vi _ => most - (intOf vi).toNat)
    case atStart => exact ⟨0, 2 * m - 2, [], rfl, rfl, Nat.zero_le _, by omega, Lib.hid (by rw [List.nil_append, Nat.sub_zero]), Lib.hid (fun _ => by have := HTOP.out; rw [HWL.out] at this; exact this), hb3, Lib.hid (But.refl _ _)⟩
    case round =>
      rename World => wo
      obtain ⟨i, t, R, rfl, rfl, him, ht, HR, HT, hbk, HBUT⟩ := hrel
      have HBK := Lib.hid hbk
      clear hbk hb3
      by_cases hlt : i < most
      · have hil : (i : Int) < (most : Int) := by omega
        obtain ⟨k, hk⟩ : ∃ k, k + 1 + i = most := ⟨most - 1 - i, by omega⟩
        obtain ⟨A, n, c, hvi, hO⟩ := HLW.out k (by omega)
        rw [show most - 1 - k = i from by omega] at hvi
        have htl : t ≤ (lev ws k).length := by have := HT.out hlt; rwa [show most - 1 - i = k from by omega] at this
        have hO4 := (hO.fresh HF4.out).but HBUT.out hL2
        have hcap := hO.cap
        have htn : t ≤ n := by rw [← hO.len]; exact htl
        have hcg : wo.cell? ⟨G, i, none⟩ = some (.slice A n c) := (HB4.out.old (HBUT.out.block G (by omega) (by intro h; injection h with h; omega))).cell hvi
        have hsl := singles_le ws k t
        rw [HWL.out] at hsl
        obtain ⟨s, hsd⟩ : ∃ s, singles ((lev ws k).take t) = s := ⟨_, rfl⟩
        rw [hsd] at hsl
        have ti : (t : Int) ≤ (c : Int) := by omega
        have si : (s : Int) ≤ (sc : Int) := by omega
        have HO4 := Lib.hid hO4
        have HSD := Lib.hid hsd
        clear hO hO4 hvi hsd
        go_wp2_with (go_at_call 39; (refine (singles_any A t c wo.heap.size ((lev ws k).take t) wo (HO4.out.rd.head htn) (by omega) (Nat.le_refl _)).mono ?_); rw [HSD.out]; rintro e w5 ⟨rfl, hf5⟩; have HF5 := Lib.hid hf5; clear hf5)
        go_loopw [71] (fun vj wr => ∃ (j : Nat), vj = .int .i64 j ∧ j ≤ s ∧ Bk wr L 3 (lv (lensP ss R j nc)) ∧ Hid (But L wo wr)) (fun vj _ => s - (intOf vj).toNat)
        case atStart => exact ⟨0, rfl, Nat.zero_le _, HBK.out.fresh HF5.out, Lib.hid (But.of_fresh HF5.out)⟩
        case round =>
          obtain ⟨j, rfl, hjs, hbq, HBQ⟩ := hrel
          by_cases hlj : j < s
          · have hjl : (j : Int) < (s : Int) := by omega
            obtain ⟨b, off, x, hSA, hb, hx, hcx⟩ := (HSO.out.rd.keep (w' := wr) fun q hq => (((((HF2.out.trans HF3.out).trans HF4.out).but (by omega) HBUT.out).but (by omega) HBQ.out)).block q hq).at_ (k := j) (by omega)
            obtain ⟨y, rfl, hy⟩ := HXS.out x (List.mem_of_getElem? hx)
            subst hSA
            have hcl : wr.cell? ⟨L, y, none⟩ = some (iv (bitsOf R j : Nat)) := hbq.cell (i := y) (by unfold lv; rw [List.getElem?_map, lensP_get HND.out hx hy]; rfl)
            have hfz := hbq.free y
            have hput := hbq.put y (iv ((bitsOf R j + 1 : Nat) : Int))
            rw [lv_set, lensP_set HND.out hx hy] at hput
            have yi : (y : Int) < (nc : Int) := by omega
            have HPUT := Lib.hid hput
            clear hput
            have hbl : bitsOf R j ≤ 15 := by
              have h1 := congrArg List.length HR.out
              rw [List.length_append, run_len, run_len] at h1
              have h2 := bitsOf_le R j
              omega
            go_wp2
            have ew : ((bitsOf R j : Nat) : Int) + 1 = ((bitsOf R j + 1 : Nat) : Int) := rfl
            rw [ew]
            refine ⟨⟨j + 1, rfl, hlj, HPUT.out, Lib.hid (HBQ.out.trans (But.put _ _))⟩, ?_⟩
            show s - ((j : Int) + 1).toNat < s - ((j : Int)).toNat
            omega
          · have hjn : j = s := by omega
            subst hjn
            have hbn := hbq
            rw [lensP_all] at hbn
            have HBN := Lib.hid hbn
            clear hbq hbn
            go_wp2
            have hru : run ws (most - i) t = j :: run ws k (2 * (t - j)) := by
              rw [show most - i = k + 1 from by omega, run, HSD.out]
            have hpr := left_is ws k t htl
            rw [HSD.out] at hpr
            have hpl := pairs_take (lev ws k) t
            rw [← lev_is, merged_pairs ws _ (behind_true ws k), lev_is] at hpl
            have hbs := behind_short ws k
            have hwl2 := HWL.out
            refine ⟨⟨i + 1, 2 * (t - j), R ++ [j], rfl, by congr 1; omega, by omega, by omega, Lib.hid ?_, Lib.hid fun h => ?_, HBN.out, Lib.hid (HBUT.out.trans HBQ.out)⟩, ?_⟩
            · rw [← HR.out, hru, List.append_assoc, show most - (i + 1) = k from by omega]
              rfl
            · obtain ⟨q, rfl⟩ : ∃ q, k = q + 1 := ⟨k - 1, by omega⟩
              rw [hpr, show most - 1 - (i + 1) = q from by omega]
              exact lev_next ws q t
            · show most - ((i : Int) + 1).toNat < most - ((i : Int)).toNat
              omega
      · have hin : i = most := by omega
        subst hin
        go_wp2
        go_ret
        refine ⟨L, ss, rfl, by have := HF0.out.size; have := HF1.out.size; omega, ?_, ((HF0.out.trans HF1.out).trans HF2.out).trans ((HF3.out.trans HF4.out)) |>.but (by have := HF0.out.size; have := HF1.out.size; omega) HBUT.out, HPM.out, HSR.out⟩
        have e1 : madeR (ss.map (key cs)) i = R := by
          unfold madeR
          rw [HWD.out, HWL.out, if_neg (by omega)]
          have := HR.out
          rw [Nat.sub_self] at this
          rw [← this, run, List.append_nil]
        rw [e1]
        exact HBK.out
end Go.Proofs.YtcmeoappddpmcaaDoor.lenp
/-
  slices.SortStableFunc of symbols: symMerge where one row has one symbol. My own text.
-/
namespace Go.Proofs.YtcmeoappddpmcaaDoor.sortp
open Go.RowKit Go.Proofs.YtcmeoappddpmcaaDoor.base Go.Proofs.YtcmeoappddpmcaaDoor.sortnum
set_option linter.unusedVariables false

section
variable {g n c a m b q B : Nat} {R : List Value} {cs : List Int} {f : Nat → Int} {w : World}
set_option maxHeartbeats 16000000 in
set_option maxRecDepth 100000 in
theorem sym_left (h : DAt w g n R f) (ham1 : a + 1 ≤ m) (ham2 : m ≤ a + 1) (hmb : m < b) (hb : b ≤ n) (hn : n ≤ 1000) (hC : Cnt w q B cs) (hBg : B ≤ g) (hok : ∀ i, i < n → ok cs (f i)) (hs : Srt (kf cs f) m b) :
    Calls Tryd.prog 67 #[.slice (some ⟨g, 0, none⟩) n c, .int .i64 a, .int .i64 m, .int .i64 b, kv q] w fun e w' => e = .returned (.tuple #[]) ∧ ∃ f', DAt w' g n R f' ∧ Wn a b n f f' ∧ Srt (kf cs f') a b ∧ But g w w' := by
  have hgw := h.inside
  have HC := Lib.hid hC
  have HOK := Lib.hid hok
  have HS := Lib.hid hs
  have HH := Lib.hid h
  have ha := h.at_ (i := a) (by omega)
  have t1 : ((m : Int) - (a : Int) == 1) = true := by rw [beq_iff_eq]; omega
  obtain ⟨va, hva⟩ : ∃ va, f a = va := ⟨_, rfl⟩
  rw [hva] at ha
  have hoka := hok a (by omega)
  rw [hva] at hoka
  have HVA := Lib.hid hva
  have HOKA := Lib.hid hoka
  clear hC hok hs h hva hoka
  have a0 : (0 : Int) ≤ (a : Int) := by omega
  have a1 : (a : Int) < (n : Int) := by omega
  have em : IntKind.i64.wrap ((m : Int) - (a : Int)) = (m : Int) - (a : Int) := IntWalk.i64_in _ (by omega)
  go_enter Tryd.func67, Tryd.ntmps67
  go_wp2
  go_loopw [10, 11] (fun vi vj wr => ∃ (i j p : Nat), vi = .int .i64 i ∧ vj = .int .i64 j ∧ m ≤ i ∧ i ≤ j ∧ j ≤ b ∧ Hid (∀ x, m ≤ x → x < i → key cs (f x) < key cs va) ∧ Hid (∀ x, j ≤ x → x < b → key cs va ≤ key cs (f x)) ∧ wr = w.drewN p) (fun vi vj _ => (intOf vj - intOf vi).toNat)
  case atStart => exact ⟨m, b, 0, rfl, rfl, by omega, by omega, by omega, fun x h1 h2 => absurd h2 (by omega), fun x h1 h2 => absurd h2 (by omega), rfl⟩
  case round =>
    obtain ⟨i, j, p, rfl, rfl, hi, hij, hj, hlo, hhi, rfl⟩ := hrel
    clear t1 em
    by_cases hlt : i < j
    · obtain ⟨x, hx⟩ : ∃ x, (i + j) / 2 = x := ⟨_, rfl⟩
      have ex : ((i : Int) + (j : Int)) / 2 = (x : Int) := by omega
      have hx1 : i ≤ x ∧ x < j := by omega
      have cx := HH.out.at_ (i := x) (by omega)
      obtain ⟨u, hu⟩ : ∃ u, f x = u := ⟨_, rfl⟩
      rw [hu] at cx
      have hoku := HOK.out x (by omega)
      rw [hu] at hoku
      obtain ⟨r, hr⟩ : ∃ r, cmp3 (key cs u) (key cs va) = r := ⟨_, rfl⟩
      have hcmp := fun mm => cmp_quiet (W := w.drewN p) (m := mm) (HC.out.drewN p) hoku HOKA.out
      have cx : (w.drewN p).cell? ⟨g, x, none⟩ = some (.int .i64 u) := cx
      have ca : (w.drewN p).cell? ⟨g, a, none⟩ = some (.int .i64 va) := ha
      obtain ⟨W, hW⟩ : ∃ W, w.drewN p = W := ⟨_, rfl⟩
      have HWW := Lib.hid hW
      rw [hW] at cx ca ⊢
      rw [hW] at hcmp
      clear hW ha
      have hlt3 := cmp3_lt (key cs u) (key cs va)
      rw [hr] at hcmp hlt3
      have HCMP := Lib.hid hcmp
      have HU := Lib.hid hu
      have HX := Lib.hid hx
      have x0 : (0 : Int) ≤ (x : Int) := by omega
      have x1 : (x : Int) < (n : Int) := by omega
      clear hcmp hu hoku hr hx
      by_cases hk : key cs u < key cs va
      · have tr : decide (r < 0) = true := by rw [hlt3]; exact decide_eq_true hk
        have HK := Lib.hid hk
        clear hlt3 hk
        go_wp2
        go_quiet (with_reducible exact HCMP.out _)
        go_wp2
        go_roundw
        case rel =>
          refine ⟨x + 1, j, _, by go_num, rfl, by omega, by omega, hj, ?_, hhi, by rw [← HWW.out, World.drewN_drewN]⟩
          intro y hy1 hy2
          refine Int.lt_of_le_of_lt (HS.out y x hy1 (by omega) (by omega)) ?_
          show key cs (f x) < _
          rw [HU.out]; exact HK.out
        case measure => simp [intOf]; omega
      · have tr : decide (r < 0) = false := by rw [hlt3]; exact decide_eq_false hk
        have HK := Lib.hid hk
        clear hlt3 hk
        go_wp2
        go_quiet (with_reducible exact HCMP.out _)
        go_wp2
        go_roundw
        case rel =>
          refine ⟨i, x, _, rfl, rfl, hi, by omega, by omega, hlo, ?_, by rw [← HWW.out, World.drewN_drewN]⟩
          intro y hy1 hy2
          refine Int.le_trans ?_ (HS.out x y (by omega) hy1 hy2)
          show _ ≤ key cs (f x)
          rw [HU.out]
          have := HK.out
          omega
        case measure => simp [intOf]; omega
    · obtain rfl : i = j := by omega
      have hD := HH.out.fresh (Fresh.drewN w p)
      have hB : But g w (w.drewN p) := But.drewN w p
      generalize w.drewN p = w1 at *
      obtain ⟨z, hz⟩ : ∃ z, i - 1 = z := ⟨_, rfl⟩
      have ez : (i : Int) - 1 = (z : Int) := by omega
      go_wp2
      go_loopw [13] (fun vk wr => ∃ k : Nat, vk = .int .i64 k ∧ a ≤ k ∧ k ≤ z ∧ DAt wr g n R (mvr f a k) ∧ Hid (Wn a b n f (mvr f a k)) ∧ But g w wr) (fun vk _ => z - (intOf vk).toNat)
      case atStart => exact ⟨a, rfl, by omega, by omega, by rw [mvr_start]; exact hD, by rw [mvr_start]; exact Wn.refl _ _ _ _, hB⟩
      case round =>
        obtain ⟨k, rfl, hk1, hk2, hD2, hW2, hB2⟩ := hrel
        by_cases hkz : k < z
        · obtain ⟨y, hy⟩ : ∃ y, k + 1 = y := ⟨_, rfl⟩
          have ey : IntKind.i64.wrap ((k : Int) + 1) = (y : Int) := by rw [IntWalk.i64_in _ (by omega)]; omega
          have cx := hD2.at_ (i := k) (by omega)
          have cy := hD2.at_ (i := y) (by omega)
          have fx := hD2.free k
          have fy := hD2.free y
          have hs := DAt.swap hD2 (i := k) (j := y) (by omega) (by omega)
          have hW3 := hW2.out.trans (Wn.sw (mvr f a k) (i := k) (j := y) (a := a) (b := b) ⟨by omega, by omega⟩ ⟨by omega, by omega⟩ hb)
          have hst := mvr_step f hk1
          rw [hy] at hst
          rw [hst] at hs hW3
          obtain ⟨u, hu⟩ : ∃ u, mvr f a k k = u := ⟨_, rfl⟩
          obtain ⟨v, hv⟩ : ∃ v, mvr f a k y = v := ⟨_, rfl⟩
          rw [hu] at cx hs
          rw [hv] at cy hs
          have x0 : (0 : Int) ≤ (k : Int) := by omega
          have y0 : (0 : Int) ≤ (y : Int) := by omega
          have x1 : (k : Int) < (n : Int) := by omega
          have y1 : (y : Int) < (n : Int) := by omega
          have hne : (k = y) = False := by simp; omega
          have hne2 : (y = k) = False := by simp; omega
          have HSW := Lib.hid hs
          have HB := Lib.hid hB2
          have HW3 := Lib.hid hW3
          have HY := Lib.hid hy
          clear hD2 hst hs hu hv hB2 hy hD hB hW3 hW2 ha
          go_wp2
          go_region
          have hD3 := HSW.out.fresh (Fresh.drew _)
          have hB3 := (HB.out.trans (But.two (g := g) (i := k) (j := y) wr (.int .i64 v) (.int .i64 u))).trans (But.of_fresh (Fresh.drew _))
          have HD3 := Lib.hid hD3
          have HB3 := Lib.hid hB3
          clear hD3 hB3 cx cy fx fy
          generalize ((wr.setCell ⟨g, k, none⟩ (.int .i64 v)).setCell ⟨g, y, none⟩ (.int .i64 u)).drew = V at *
          go_wp2
          go_roundw
          case rel => exact ⟨y, by go_num, by have := HY.out; omega, by have := HY.out; omega, HD3.out, HW3.out, HB3.out⟩
          case measure => simp [intOf]; have := HY.out; omega
        · obtain rfl : k = z := by omega
          go_wp2
          refine bodyPost_ret (results_none rfl _ _ _) rfl ?_
          refine ⟨rfl, _, hD2, hW2.out, ?_, hB2⟩
          have := mvr_srt (key := key cs) (f := f) (a := a) (b := b) (i := i) (by rw [show a + 1 = m by omega]; exact HS.out) (by omega) hj (fun x h1 h2 => by have := hlo.out x (by omega) h2; rw [HVA.out]; exact this) (fun x h1 h2 => by rw [HVA.out]; exact hhi.out x h1 h2)
          rw [hz] at this
          exact this
set_option maxHeartbeats 16000000 in
set_option maxRecDepth 100000 in
theorem sym_right (h : DAt w g n R f) (ham : a < m) (ham2 : m - a ≠ 1) (hmb1 : m + 1 ≤ b) (hmb2 : b ≤ m + 1) (hb : b ≤ n) (hn : n ≤ 1000) (hC : Cnt w q B cs) (hBg : B ≤ g) (hok : ∀ i, i < n → ok cs (f i)) (hs : Srt (kf cs f) a m) :
    Calls Tryd.prog 67 #[.slice (some ⟨g, 0, none⟩) n c, .int .i64 a, .int .i64 m, .int .i64 b, kv q] w fun e w' => e = .returned (.tuple #[]) ∧ ∃ f', DAt w' g n R f' ∧ Wn a b n f f' ∧ Srt (kf cs f') a b ∧ But g w w' := by
  have hgw := h.inside
  have HC := Lib.hid hC
  have HOK := Lib.hid hok
  have HS := Lib.hid hs
  have HH := Lib.hid h
  have ha := h.at_ (i := m) (by omega)
  have t1 : ((m : Int) - (a : Int) == 1) = false := by rw [beq_eq_false_iff_ne]; omega
  have t2 : ((b : Int) - (m : Int) == 1) = true := by rw [beq_iff_eq]; omega
  obtain ⟨va, hva⟩ : ∃ va, f m = va := ⟨_, rfl⟩
  rw [hva] at ha
  have hoka := hok m (by omega)
  rw [hva] at hoka
  have HVA := Lib.hid hva
  have HOKA := Lib.hid hoka
  clear hC hok hs h hva hoka
  have a0 : (0 : Int) ≤ (m : Int) := by omega
  have a1 : (m : Int) < (n : Int) := by omega
  have em : IntKind.i64.wrap ((m : Int) - (a : Int)) = (m : Int) - (a : Int) := IntWalk.i64_in _ (by omega)
  have em2 : IntKind.i64.wrap ((b : Int) - (m : Int)) = (b : Int) - (m : Int) := IntWalk.i64_in _ (by omega)
  go_enter Tryd.func67, Tryd.ntmps67
  go_wp2
  go_loopw [14, 15] (fun vi vj wr => ∃ (i j p : Nat), vi = .int .i64 i ∧ vj = .int .i64 j ∧ a ≤ i ∧ i ≤ j ∧ j ≤ m ∧ Hid (∀ x, a ≤ x → x < i → key cs (f x) ≤ key cs va) ∧ Hid (∀ x, j ≤ x → x < m → key cs va < key cs (f x)) ∧ wr = w.drewN p) (fun vi vj _ => (intOf vj - intOf vi).toNat)
  case atStart => exact ⟨a, m, 0, rfl, rfl, by omega, by omega, by omega, fun x h1 h2 => absurd h2 (by omega), fun x h1 h2 => absurd h2 (by omega), rfl⟩
  case round =>
    obtain ⟨i, j, p, rfl, rfl, hi, hij, hj, hlo, hhi, rfl⟩ := hrel
    clear t1 em t2 em2
    by_cases hlt : i < j
    · obtain ⟨x, hx⟩ : ∃ x, (i + j) / 2 = x := ⟨_, rfl⟩
      have ex : ((i : Int) + (j : Int)) / 2 = (x : Int) := by omega
      have hx1 : i ≤ x ∧ x < j := by omega
      have cx := HH.out.at_ (i := x) (by omega)
      obtain ⟨u, hu⟩ : ∃ u, f x = u := ⟨_, rfl⟩
      rw [hu] at cx
      have hoku := HOK.out x (by omega)
      rw [hu] at hoku
      obtain ⟨r, hr⟩ : ∃ r, cmp3 (key cs va) (key cs u) = r := ⟨_, rfl⟩
      have hcmp := fun mm => cmp_quiet (W := w.drewN p) (m := mm) (HC.out.drewN p) HOKA.out hoku
      have cx : (w.drewN p).cell? ⟨g, x, none⟩ = some (.int .i64 u) := cx
      have ca : (w.drewN p).cell? ⟨g, m, none⟩ = some (.int .i64 va) := ha
      obtain ⟨W, hW⟩ : ∃ W, w.drewN p = W := ⟨_, rfl⟩
      have HWW := Lib.hid hW
      rw [hW] at cx ca ⊢
      rw [hW] at hcmp
      clear hW ha
      have hlt3 := cmp3_lt (key cs va) (key cs u)
      rw [hr] at hcmp hlt3
      have HCMP := Lib.hid hcmp
      have HU := Lib.hid hu
      have HX := Lib.hid hx
      have x0 : (0 : Int) ≤ (x : Int) := by omega
      have x1 : (x : Int) < (n : Int) := by omega
      clear hcmp hu hoku hr hx
      by_cases hk : key cs va < key cs u
      · have tr : decide (r < 0) = true := by rw [hlt3]; exact decide_eq_true hk
        have HK := Lib.hid hk
        clear hlt3 hk
        go_wp2
        go_quiet (with_reducible exact HCMP.out _)
        go_wp2
        go_roundw
        case rel =>
          refine ⟨i, x, _, rfl, rfl, hi, by omega, by omega, hlo, ?_, by rw [← HWW.out, World.drewN_drewN]⟩
          intro y hy1 hy2
          refine Int.lt_of_lt_of_le ?_ (HS.out x y (by omega) hy1 hy2)
          show _ < key cs (f x)
          rw [HU.out]; exact HK.out
        case measure => simp [intOf]; omega
      · have tr : decide (r < 0) = false := by rw [hlt3]; exact decide_eq_false hk
        have HK := Lib.hid hk
        clear hlt3 hk
        go_wp2
        go_quiet (with_reducible exact HCMP.out _)
        go_wp2
        go_roundw
        case rel =>
          refine ⟨x + 1, j, _, by go_num, rfl, by omega, by omega, hj, ?_, hhi, by rw [← HWW.out, World.drewN_drewN]⟩
          intro y hy1 hy2
          refine Int.le_trans (HS.out y x hy1 (by omega) (by omega)) ?_
          show key cs (f x) ≤ _
          rw [HU.out]
          have := HK.out
          omega
        case measure => simp [intOf]; omega
    · obtain rfl : i = j := by omega
      have hD := HH.out.fresh (Fresh.drewN w p)
      have hB : But g w (w.drewN p) := But.drewN w p
      generalize w.drewN p = w1 at *
      go_wp2
      go_loopw [17] (fun vk wr => ∃ k : Nat, vk = .int .i64 k ∧ i ≤ k ∧ k ≤ m ∧ DAt wr g n R (mvl f m k) ∧ Hid (Wn a b n f (mvl f m k)) ∧ But g w wr) (fun vk _ => (intOf vk).toNat)
      case atStart => exact ⟨m, rfl, by omega, by omega, by rw [mvl_start]; exact hD, by rw [mvl_start]; exact Wn.refl _ _ _ _, hB⟩
      case round =>
        obtain ⟨k, rfl, hk1, hk2, hD2, hW2, hB2⟩ := hrel
        by_cases hkz : i < k
        · obtain ⟨y, hy⟩ : ∃ y, k - 1 = y := ⟨_, rfl⟩
          have ey : IntKind.i64.wrap ((k : Int) - 1) = (y : Int) := by rw [IntWalk.i64_in _ (by omega)]; omega
          have cx := hD2.at_ (i := k) (by omega)
          have cy := hD2.at_ (i := y) (by omega)
          have fx := hD2.free k
          have fy := hD2.free y
          have hs := DAt.swap hD2 (i := k) (j := y) (by omega) (by omega)
          have hW3 := hW2.out.trans (Wn.sw (mvl f m k) (i := k) (j := y) (a := a) (b := b) ⟨by omega, by omega⟩ ⟨by omega, by omega⟩ hb)
          have hst := mvl_step f (m := m) (k := y) (by omega)
          rw [show y + 1 = k by omega] at hst
          rw [hst] at hs hW3
          obtain ⟨u, hu⟩ : ∃ u, mvl f m k k = u := ⟨_, rfl⟩
          obtain ⟨v, hv⟩ : ∃ v, mvl f m k y = v := ⟨_, rfl⟩
          rw [hu] at cx hs
          rw [hv] at cy hs
          have x0 : (0 : Int) ≤ (k : Int) := by omega
          have y0 : (0 : Int) ≤ (y : Int) := by omega
          have x1 : (k : Int) < (n : Int) := by omega
          have y1 : (y : Int) < (n : Int) := by omega
          have hne : (k = y) = False := by simp; omega
          have hne2 : (y = k) = False := by simp; omega
          have HSW := Lib.hid hs
          have HB := Lib.hid hB2
          have HW3 := Lib.hid hW3
          have HY := Lib.hid hy
          clear hD2 hst hs hu hv hB2 hy hD hB hW3 hW2 ha
          go_wp2
          go_region
          have hD3 := HSW.out.fresh (Fresh.drew _)
          have hB3 := (HB.out.trans (But.two (g := g) (i := k) (j := y) wr (.int .i64 v) (.int .i64 u))).trans (But.of_fresh (Fresh.drew _))
          have HD3 := Lib.hid hD3
          have HB3 := Lib.hid hB3
          clear hD3 hB3 cx cy fx fy
          generalize ((wr.setCell ⟨g, k, none⟩ (.int .i64 v)).setCell ⟨g, y, none⟩ (.int .i64 u)).drew = V at *
          go_wp2
          go_roundw
          case rel => exact ⟨y, by first | rfl | go_num, by have := HY.out; omega, by have := HY.out; omega, HD3.out, HW3.out, HB3.out⟩
          case measure => simp [intOf]; have := HY.out; omega
        · obtain rfl : i = k := by omega
          go_wp2
          refine bodyPost_ret (results_none rfl _ _ _) rfl ?_
          refine ⟨rfl, _, hD2, hW2.out, ?_, hB2⟩
          have := mvl_srt (key := key cs) (f := f) (a := a) (m := m) (i := i) HS.out hi hj (fun x h1 h2 => by rw [HVA.out]; exact hlo.out x h1 h2) (fun x h1 h2 => by rw [HVA.out]; exact hhi.out x h1 h2)
          rwa [show m + 1 = b by omega] at this
end
end Go.Proofs.YtcmeoappddpmcaaDoor.sortp
/-
  symMerge: what both ways share. My own text.
-/
namespace Go.Proofs.YtcmeoappddpmcaaDoor.sortp
open Go.RowKit Go.Proofs.YtcmeoappddpmcaaDoor.base Go.Proofs.YtcmeoappddpmcaaDoor.sortnum
set_option linter.unusedVariables false

theorem fin_wn {a mid b n : Nat} {f G F1 F2 : Nat → Int} (h : Wn a b n f G) (h1 : Wn a mid n G F1) (h2 : Wn mid b n F1 F2) (ha : a ≤ mid) (hb : mid ≤ b) : Wn a b n f F2 := (h.trans (h1.mono (Nat.le_refl _) hb)).trans (h2.mono ha (Nat.le_refl _))
theorem fin_srt {key : Int → Int} {a mid b n : Nat} {G F1 F2 : Nat → Int} (ha : a ≤ mid) (hb : mid ≤ b) (h1 : Wn a mid n G F1) (h2 : Wn mid b n F1 F2) (s1 : Srt (fun x => key (F1 x)) a mid) (s2 : Srt (fun x => key (F2 x)) mid b)
    (hc : ∀ p r, a ≤ p → p < mid → mid ≤ r → r < b → key (G p) ≤ key (G r)) : Srt (fun x => key (F2 x)) a b :=
  srt_join ha hb ⟨F1, h1, h2⟩ (Srt.same s1 fun x _ hx => h2.out x (Or.inl hx)) s2 hc
/-- symMerge's contract of rows of so many -/
def Upto (g n c q B : Nat) (R : List Value) (cs : List Int) (N : Nat) : Prop := ∀ (a m b : Nat) (f : Nat → Int) (w : World), b - a ≤ N → DAt w g n R f → a < m → m < b → b ≤ n → n ≤ 1000 → Cnt w q B cs → B ≤ g → (∀ i, i < n → ok cs (f i)) → Srt (kf cs f) a m → Srt (kf cs f) m b →
    Calls Tryd.prog 67 #[.slice (some ⟨g, 0, none⟩) n c, .int .i64 a, .int .i64 m, .int .i64 b, kv q] w fun e w' => e = .returned (.tuple #[]) ∧ ∃ f', DAt w' g n R f' ∧ Wn a b n f f' ∧ Srt (kf cs f') a b ∧ But g w w'
end Go.Proofs.YtcmeoappddpmcaaDoor.sortp
/-
  symMerge where the middle is ahead of the second row. My own text.
-/
namespace Go.Proofs.YtcmeoappddpmcaaDoor.sortp
open Go.RowKit Go.Proofs.YtcmeoappddpmcaaDoor.base Go.Proofs.YtcmeoappddpmcaaDoor.sortnum
set_option linter.unusedVariables false

section
variable {g n c q B : Nat} {R : List Value} {cs : List Int}
set_option maxRecDepth 100000 in
set_option maxHeartbeats 64000000 in
theorem sym_a (N a m b : Nat) (f : Nat → Int) (w : World) (IH : Upto g n c q B R cs N) (hN : b - a ≤ N + 1) (h : DAt w g n R f) (ham : a < m) (hmb : m < b) (hb : b ≤ n) (hn : n ≤ 1000) (hC : Cnt w q B cs) (hBg : B ≤ g) (hok : ∀ i, i < n → ok cs (f i)) (hs1 : Srt (kf cs f) a m) (hs2 : Srt (kf cs f) m b) (ha1 : ¬ m - a = 1) (hb1 : ¬ b - m = 1) (hcase : (a + b) / 2 < m) :
    Calls Tryd.prog 67 #[.slice (some ⟨g, 0, none⟩) n c, .int .i64 a, .int .i64 m, .int .i64 b, kv q] w fun e w' => e = .returned (.tuple #[]) ∧ ∃ f', DAt w' g n R f' ∧ Wn a b n f f' ∧ Srt (kf cs f') a b ∧ But g w w' := by
  have hgw := h.inside
  have HIH := Lib.hid IH
  obtain ⟨mid, hmid⟩ : ∃ mid, (a + b) / 2 = mid := ⟨_, rfl⟩
  obtain ⟨P, hP⟩ : ∃ P, mid + m - 1 = P := ⟨_, rfl⟩
  obtain ⟨s0, hs0⟩ : ∃ s0, (if mid < m then mid + m - b else a) = s0 := ⟨_, rfl⟩
  obtain ⟨r0, hr0⟩ : ∃ r0, (if mid < m then mid else m) = r0 := ⟨_, rfl⟩
  have hbds := bds ham hmb hmid.symm hs0.symm hr0.symm
  have emid : ((a : Int) + (b : Int)) / 2 = (mid : Int) := by omega
  have eP : (mid : Int) + (m : Int) - 1 = (P : Int) := by omega
  have t1 : ((m : Int) - (a : Int) == 1) = false := by rw [beq_eq_false_iff_ne]; omega
  have t2 : ((b : Int) - (m : Int) == 1) = false := by rw [beq_eq_false_iff_ne]; omega
  have HC := Lib.hid hC
  have HOK := Lib.hid hok
  have HS1 := Lib.hid hs1
  have HS2 := Lib.hid hs2
  have HH := Lib.hid h
  have HMID := Lib.hid hmid
  have HP := Lib.hid hP
  have HS0 := Lib.hid hs0
  have HR0 := Lib.hid hr0
  have hamid : a < mid ∧ mid < b := by omega
  obtain ⟨n0, hn0⟩ : ∃ n0, mid + m = n0 := ⟨_, rfl⟩
  have en0 : (mid : Int) + (m : Int) = (n0 : Int) := by omega
  have eP2 : (n0 : Int) - 1 = (P : Int) := by omega
  have HN0 := Lib.hid hn0
  clear hC hok hs1 hs2 h IH hmid hP hs0 hr0 ha1 hb1 eP hn0
  have hc : mid < m := by rw [← HMID.out]; exact hcase
  clear hcase
  have h1 := HS0.out
  have h2 := HR0.out
  rw [if_pos hc] at h1 h2
  have e1 : (n0 : Int) - (b : Int) = (s0 : Int) := by have := HN0.out; omega
  have H2 := Lib.hid h2
  clear h1 h2
  go_enter Tryd.func67, Tryd.ntmps67
  go_wp2
  go_loopw [20, 21] (fun vi vj wr => ∃ (i j p : Nat), vi = .int .i64 i ∧ vj = .int .i64 j ∧ s0 ≤ i ∧ i ≤ j ∧ j ≤ r0 ∧ Hid (∀ x, s0 ≤ x → x < i → kf cs f x ≤ kf cs f (mid + m - 1 - x)) ∧ Hid (∀ x, j ≤ x → x < r0 → kf cs f (mid + m - 1 - x) < kf cs f x) ∧ wr = w.drewN p) (fun vi vj _ => (intOf vj - intOf vi).toNat)
  case atStart => exact ⟨s0, r0, 0, rfl, by rw [← H2.out], by omega, by omega, by omega, fun x h1 h2 => absurd h2 (by omega), fun x h1 h2 => absurd h2 (by omega), rfl⟩
  case round =>
    obtain ⟨i, j, p, rfl, rfl, hi, hij, hj, hlo, hhi, rfl⟩ := hrel
    by_cases hlt : i < j
    · obtain ⟨x, hx⟩ : ∃ x, (i + j) / 2 = x := ⟨_, rfl⟩
      have ex : ((i : Int) + (j : Int)) / 2 = (x : Int) := by omega
      have hx1 : i ≤ x ∧ x < j := by omega
      obtain ⟨d, hd⟩ : ∃ d, mid + m - 1 - x = d := ⟨_, rfl⟩
      have hn0' := HN0.out
      have ed : (P : Int) - (x : Int) = (d : Int) := by omega
      have hdn : d < n := by omega
      have cx := HH.out.at_ (i := x) (by omega)
      have cd := HH.out.at_ (i := d) hdn
      obtain ⟨u, hu⟩ : ∃ u, f x = u := ⟨_, rfl⟩
      obtain ⟨v, hv⟩ : ∃ v, f d = v := ⟨_, rfl⟩
      rw [hu] at cx
      rw [hv] at cd
      have hoku := HOK.out x (by omega)
      have hokv := HOK.out d hdn
      rw [hu] at hoku
      rw [hv] at hokv
      obtain ⟨r, hr⟩ : ∃ r, cmp3 (key cs v) (key cs u) = r := ⟨_, rfl⟩
      have hcmp := fun mm => cmp_quiet (W := w.drewN p) (m := mm) (HC.out.drewN p) hokv hoku
      have cx : (w.drewN p).cell? ⟨g, x, none⟩ = some (.int .i64 u) := cx
      have cd : (w.drewN p).cell? ⟨g, d, none⟩ = some (.int .i64 v) := cd
      obtain ⟨W, hW⟩ : ∃ W, w.drewN p = W := ⟨_, rfl⟩
      have HWW := Lib.hid hW
      rw [hW] at cx cd hcmp ⊢
      have hlt3 := cmp3_lt (key cs v) (key cs u)
      rw [hr] at hcmp hlt3
      have HCMP := Lib.hid hcmp
      have HU := Lib.hid (And.intro hu hv)
      have HX := Lib.hid (And.intro hx hd)
      have x0 : (0 : Int) ≤ (x : Int) := by omega
      have x1 : (x : Int) < (n : Int) := by omega
      have d0 : (0 : Int) ≤ (d : Int) := by omega
      have d1 : (d : Int) < (n : Int) := by omega
      clear hcmp hu hv hoku hokv hr hx hd hW hn0' hdn
      by_cases hk : key cs v < key cs u
      · have tr : decide (r < 0) = true := by rw [hlt3]; exact decide_eq_true hk
        have HK := Lib.hid hk
        clear hlt3 hk
        go_wp2
        go_quiet (with_reducible exact HCMP.out _)
        go_wp2
        go_roundw
        case rel =>
          refine ⟨i, x, _, rfl, rfl, hi, by omega, by omega, hlo, ?_, by rw [← HWW.out, World.drewN_drewN]⟩
          exact found_left ham hmb HMID.out.symm HS1.out HS2.out HS0.out.symm HR0.out.symm ⟨by omega, by omega⟩ (by rw [HX.out.2]; show key cs (f d) < key cs (f x); rw [HU.out.1, HU.out.2]; exact HK.out)
        case measure => simp [intOf]; omega
      · have tr : decide (r < 0) = false := by rw [hlt3]; exact decide_eq_false hk
        have HK := Lib.hid hk
        clear hlt3 hk
        go_wp2
        go_quiet (with_reducible exact HCMP.out _)
        go_wp2
        go_roundw
        case rel =>
          refine ⟨x + 1, j, _, by go_num, rfl, by omega, by omega, hj, ?_, hhi, by rw [← HWW.out, World.drewN_drewN]⟩
          exact found_right ham hmb HMID.out.symm HS1.out HS2.out HS0.out.symm HR0.out.symm ⟨by omega, by omega⟩ (by rw [HX.out.2]; show key cs (f x) ≤ key cs (f d); rw [HU.out.1, HU.out.2]; have := HK.out; omega)
        case measure => simp [intOf]; omega
    · obtain rfl : i = j := by omega
      obtain ⟨s, hsi⟩ : ∃ s, s = i := ⟨_, rfl⟩
      subst hsi
      have hcut := Cut.found ham hmb HMID.out.symm HS1.out HS2.out HS0.out.symm HR0.out.symm ⟨hi, hj⟩ hlo.out hhi.out
      obtain ⟨e, he⟩ : ∃ e, mid + m - s = e := ⟨_, rfl⟩
      rw [he] at hcut
      have hpt := Cut.parts hcut HS1.out HS2.out
      have ee : (n0 : Int) - (s : Int) = (e : Int) := by have := HN0.out; omega
      have hGW : Wn a b n f (exch f s (m - s) (e - m)) := (Wn.exch (lo := a) (hi := b) (n := n) hb _ f s (m - s) (e - m) (Nat.le_refl _) hcut.as_ (by have := hcut.sm; have := hcut.me; have := hcut.eb; omega))
      obtain ⟨c1, c2, c3, c4, c5, c6, c7, _, _⟩ := hcut
      have hDW := HH.out.fresh (Fresh.drewN w p)
      have hBW : But g w (w.drewN p) := But.drewN w p
      obtain ⟨W, hW⟩ : ∃ W, w.drewN p = W := ⟨_, rfl⟩
      rw [hW] at hDW hBW ⊢
      have hD0 : ¬ (s < m ∧ m < e) → DAt W g n R (exch f s (m - s) (e - m)) := fun hh => by rw [exch_none f s (m - s) (e - m) (by omega)]; exact hDW
      have hL0 : ¬ (a < s ∧ s < mid) → Srt (fun x => key cs (exch f s (m - s) (e - m) x)) a mid := fun hh => by
        by_cases q1 : s = a
        · have := hpt.2.1; rwa [q1] at this ⊢
        · have q2 : s = mid := by omega
          have := hpt.1
          rw [q2] at this
          rw [q2]
          exact this
      have hR0 : ¬ (mid < e ∧ e < b) → Srt (fun x => key cs (exch f s (m - s) (e - m) x)) mid b := fun hh => by
        by_cases q1 : e = mid
        · have := hpt.2.2.2.1
          rw [q1] at this ⊢
          exact this
        · have q2 : e = b := by omega
          have := hpt.2.2.1
          rw [q2] at this ⊢
          exact this
      obtain ⟨hp1, hp2, hp3, hp4, hp5⟩ := hpt
      have HOKG := Lib.hid (hGW.all (P := ok cs) HOK.out hb)
      have HGW := Lib.hid hGW
      have HDW := Lib.hid hDW
      have HBW := Lib.hid hBW
      have HP1 := Lib.hid hp1
      have HP2 := Lib.hid hp2
      have HP3 := Lib.hid hp3
      have HP4 := Lib.hid hp4
      have HP5 := Lib.hid hp5
      clear hp1 hp2 hp3 hp4 hp5 hGW hDW hBW hlo hhi hW he
      have HLL := Lib.hid (fun (h1 : a < s) (h2 : s < mid) (W' : World) (hD' : DAt W' g n R (exch f s (m - s) (e - m))) (hB' : But g w W') => HIH.out a s mid (exch f s (m - s) (e - m)) W' (by omega) hD' h1 h2 (by omega) hn (HC.out.but hBg hgw hB') hBg HOKG.out HP1.out HP2.out)
      have HRR := Lib.hid (fun (h1 : mid < e) (h2 : e < b) (W' : World) (F : Nat → Int) (hD' : DAt W' g n R F) (hB' : But g w W') (hW' : Wn a mid n (exch f s (m - s) (e - m)) F) => HIH.out mid e b F W' (by omega) hD' h1 h2 hb hn (HC.out.but hBg hgw hB') hBg (hW'.all HOKG.out (by omega)) (Srt.same HP3.out fun x h1 h2 => hW'.out x (Or.inr h1)) (Srt.same HP4.out fun x h1 h2 => hW'.out x (Or.inr (by omega))))
      by_cases hrot : s < m ∧ m < e
      · by_cases hleft : a < s ∧ s < mid
        · by_cases hright : mid < e ∧ e < b
          · clear hD0 hL0 hR0
            go_wp2_with (first
              | (go_at_call 68; (with_reducible refine (rotate_any g n c s m e q R f W HDW.out (by omega) (by omega) (by omega) hn).mono ?_); rintro e1 w1 ⟨rfl, hD1, hB1⟩; have HD1 := Lib.hid hD1; have HB1 := Lib.hid (HBW.out.trans hB1); clear hD1 hB1)
              | (go_at_call 67; (with_reducible refine (HLL.out hleft.1 hleft.2 _ HD1.out HB1.out).mono ?_); rintro e2 w2 ⟨rfl, F1, hD2, hW2, hS2, hB2⟩; have HD2 := Lib.hid hD2; have HW2 := Lib.hid hW2; have HS2' := Lib.hid hS2; have HB2 := Lib.hid (HB1.out.trans hB2); clear hD2 hW2 hS2 hB2)
              | (go_at_call 67; (with_reducible refine (HRR.out hright.1 hright.2 _ _ HD2.out HB2.out HW2.out).mono ?_); rintro e3 w3 ⟨rfl, F2, hD3, hW3, hS3, hB3⟩; have HD3 := Lib.hid hD3; have HW3 := Lib.hid hW3; have HS3 := Lib.hid hS3; have HB3 := Lib.hid (HB2.out.trans hB3); clear hD3 hW3 hS3 hB3))
            all_goals go_end0
            all_goals exact ⟨rfl, _, HD3.out, fin_wn HGW.out HW2.out HW3.out (by omega) (by omega), fin_srt (by omega) (by omega) HW2.out HW3.out HS2'.out HS3.out HP5.out, HB3.out⟩
          · have HR0' := Lib.hid (hR0 hright)
            clear hD0 hL0 hR0
            go_wp2_with (first
              | (go_at_call 68; (with_reducible refine (rotate_any g n c s m e q R f W HDW.out (by omega) (by omega) (by omega) hn).mono ?_); rintro e1 w1 ⟨rfl, hD1, hB1⟩; have HD1 := Lib.hid hD1; have HB1 := Lib.hid (HBW.out.trans hB1); clear hD1 hB1)
              | (go_at_call 67; (with_reducible refine (HLL.out hleft.1 hleft.2 _ HD1.out HB1.out).mono ?_); rintro e2 w2 ⟨rfl, F1, hD2, hW2, hS2, hB2⟩; have HD2 := Lib.hid hD2; have HW2 := Lib.hid hW2; have HS2' := Lib.hid hS2; have HB2 := Lib.hid (HB1.out.trans hB2); clear hD2 hW2 hS2 hB2))
            all_goals go_end0
            all_goals exact ⟨rfl, _, HD2.out, fin_wn HGW.out HW2.out (Wn.refl _ _ _ _) (by omega) (by omega), fin_srt (by omega) (by omega) HW2.out (Wn.refl mid b n _) HS2'.out (Srt.same HR0'.out fun x h1 h2 => HW2.out.out x (Or.inr h1)) HP5.out, HB2.out⟩
        · by_cases hright : mid < e ∧ e < b
          · have HL0 := Lib.hid (hL0 hleft)
            clear hD0 hL0 hR0
            go_wp2_with (first
              | (go_at_call 68; (with_reducible refine (rotate_any g n c s m e q R f W HDW.out (by omega) (by omega) (by omega) hn).mono ?_); rintro e1 w1 ⟨rfl, hD1, hB1⟩; have HD1 := Lib.hid hD1; have HB1 := Lib.hid (HBW.out.trans hB1); clear hD1 hB1)
              | (go_at_call 67; (with_reducible refine (HRR.out hright.1 hright.2 _ _ HD1.out HB1.out (Wn.refl _ _ _ _)).mono ?_); rintro e3 w3 ⟨rfl, F2, hD3, hW3, hS3, hB3⟩; have HD3 := Lib.hid hD3; have HW3 := Lib.hid hW3; have HS3 := Lib.hid hS3; have HB3 := Lib.hid (HB1.out.trans hB3); clear hD3 hW3 hS3 hB3))
            all_goals go_end0
            all_goals exact ⟨rfl, _, HD3.out, fin_wn HGW.out (Wn.refl _ _ _ _) HW3.out (by omega) (by omega), fin_srt (by omega) (by omega) (Wn.refl _ _ _ _) HW3.out HL0.out HS3.out HP5.out, HB3.out⟩
          · have HL0 := Lib.hid (hL0 hleft)
            have HR0' := Lib.hid (hR0 hright)
            clear hD0 hL0 hR0
            go_wp2_with (first
              | (go_at_call 68; (with_reducible refine (rotate_any g n c s m e q R f W HDW.out (by omega) (by omega) (by omega) hn).mono ?_); rintro e1 w1 ⟨rfl, hD1, hB1⟩; have HD1 := Lib.hid hD1; have HB1 := Lib.hid (HBW.out.trans hB1); clear hD1 hB1))
            all_goals go_end0
            all_goals exact ⟨rfl, _, HD1.out, fin_wn HGW.out (Wn.refl _ _ _ _) (Wn.refl _ _ _ _) (by omega) (by omega), fin_srt (by omega) (by omega) (Wn.refl _ _ _ _) (Wn.refl mid b n _) HL0.out (Srt.same HR0'.out fun x h1 h2 => (Wn.refl a mid n _).out x (Or.inr h1)) HP5.out, HB1.out⟩
      · by_cases hleft : a < s ∧ s < mid
        · by_cases hright : mid < e ∧ e < b
          · have HD0 := Lib.hid (hD0 hrot)
            clear hD0 hL0 hR0
            go_wp2_with (first
              | (go_at_call 67; (with_reducible refine (HLL.out hleft.1 hleft.2 _ HD0.out HBW.out).mono ?_); rintro e2 w2 ⟨rfl, F1, hD2, hW2, hS2, hB2⟩; have HD2 := Lib.hid hD2; have HW2 := Lib.hid hW2; have HS2' := Lib.hid hS2; have HB2 := Lib.hid (HBW.out.trans hB2); clear hD2 hW2 hS2 hB2)
              | (go_at_call 67; (with_reducible refine (HRR.out hright.1 hright.2 _ _ HD2.out HB2.out HW2.out).mono ?_); rintro e3 w3 ⟨rfl, F2, hD3, hW3, hS3, hB3⟩; have HD3 := Lib.hid hD3; have HW3 := Lib.hid hW3; have HS3 := Lib.hid hS3; have HB3 := Lib.hid (HB2.out.trans hB3); clear hD3 hW3 hS3 hB3))
            all_goals go_end0
            all_goals exact ⟨rfl, _, HD3.out, fin_wn HGW.out HW2.out HW3.out (by omega) (by omega), fin_srt (by omega) (by omega) HW2.out HW3.out HS2'.out HS3.out HP5.out, HB3.out⟩
          · have HD0 := Lib.hid (hD0 hrot)
            have HR0' := Lib.hid (hR0 hright)
            clear hD0 hL0 hR0
            go_wp2_with (first
              | (go_at_call 67; (with_reducible refine (HLL.out hleft.1 hleft.2 _ HD0.out HBW.out).mono ?_); rintro e2 w2 ⟨rfl, F1, hD2, hW2, hS2, hB2⟩; have HD2 := Lib.hid hD2; have HW2 := Lib.hid hW2; have HS2' := Lib.hid hS2; have HB2 := Lib.hid (HBW.out.trans hB2); clear hD2 hW2 hS2 hB2))
            all_goals go_end0
            all_goals exact ⟨rfl, _, HD2.out, fin_wn HGW.out HW2.out (Wn.refl _ _ _ _) (by omega) (by omega), fin_srt (by omega) (by omega) HW2.out (Wn.refl mid b n _) HS2'.out (Srt.same HR0'.out fun x h1 h2 => HW2.out.out x (Or.inr h1)) HP5.out, HB2.out⟩
        · by_cases hright : mid < e ∧ e < b
          · have HD0 := Lib.hid (hD0 hrot)
            have HL0 := Lib.hid (hL0 hleft)
            clear hD0 hL0 hR0
            go_wp2_with (first
              | (go_at_call 67; (with_reducible refine (HRR.out hright.1 hright.2 _ _ HD0.out HBW.out (Wn.refl _ _ _ _)).mono ?_); rintro e3 w3 ⟨rfl, F2, hD3, hW3, hS3, hB3⟩; have HD3 := Lib.hid hD3; have HW3 := Lib.hid hW3; have HS3 := Lib.hid hS3; have HB3 := Lib.hid (HBW.out.trans hB3); clear hD3 hW3 hS3 hB3))
            all_goals go_end0
            all_goals exact ⟨rfl, _, HD3.out, fin_wn HGW.out (Wn.refl _ _ _ _) HW3.out (by omega) (by omega), fin_srt (by omega) (by omega) (Wn.refl _ _ _ _) HW3.out HL0.out HS3.out HP5.out, HB3.out⟩
          · have HD0 := Lib.hid (hD0 hrot)
            have HL0 := Lib.hid (hL0 hleft)
            have HR0' := Lib.hid (hR0 hright)
            clear hD0 hL0 hR0
            go_wp2
            all_goals go_end0
            all_goals exact ⟨rfl, _, HD0.out, fin_wn HGW.out (Wn.refl _ _ _ _) (Wn.refl _ _ _ _) (by omega) (by omega), fin_srt (by omega) (by omega) (Wn.refl _ _ _ _) (Wn.refl mid b n _) HL0.out (Srt.same HR0'.out fun x h1 h2 => (Wn.refl a mid n _).out x (Or.inr h1)) HP5.out, HBW.out⟩

end
end Go.Proofs.YtcmeoappddpmcaaDoor.sortp
/-
  symMerge where the middle is not ahead of the second row. My own text.
-/
namespace Go.Proofs.YtcmeoappddpmcaaDoor.sortp
open Go.RowKit Go.Proofs.YtcmeoappddpmcaaDoor.base Go.Proofs.YtcmeoappddpmcaaDoor.sortnum
set_option linter.unusedVariables false

section
variable {g n c q B : Nat} {R : List Value} {cs : List Int}
set_option maxRecDepth 100000 in
set_option maxHeartbeats 64000000 in
theorem sym_b (N a m b : Nat) (f : Nat → Int) (w : World) (IH : Upto g n c q B R cs N) (hN : b - a ≤ N + 1) (h : DAt w g n R f) (ham : a < m) (hmb : m < b) (hb : b ≤ n) (hn : n ≤ 1000) (hC : Cnt w q B cs) (hBg : B ≤ g) (hok : ∀ i, i < n → ok cs (f i)) (hs1 : Srt (kf cs f) a m) (hs2 : Srt (kf cs f) m b) (ha1 : ¬ m - a = 1) (hb1 : ¬ b - m = 1) (hcase : ¬ ((a + b) / 2 < m)) :
    Calls Tryd.prog 67 #[.slice (some ⟨g, 0, none⟩) n c, .int .i64 a, .int .i64 m, .int .i64 b, kv q] w fun e w' => e = .returned (.tuple #[]) ∧ ∃ f', DAt w' g n R f' ∧ Wn a b n f f' ∧ Srt (kf cs f') a b ∧ But g w w' := by
  have hgw := h.inside
  have HIH := Lib.hid IH
  obtain ⟨mid, hmid⟩ : ∃ mid, (a + b) / 2 = mid := ⟨_, rfl⟩
  obtain ⟨P, hP⟩ : ∃ P, mid + m - 1 = P := ⟨_, rfl⟩
  obtain ⟨s0, hs0⟩ : ∃ s0, (if mid < m then mid + m - b else a) = s0 := ⟨_, rfl⟩
  obtain ⟨r0, hr0⟩ : ∃ r0, (if mid < m then mid else m) = r0 := ⟨_, rfl⟩
  have hbds := bds ham hmb hmid.symm hs0.symm hr0.symm
  have emid : ((a : Int) + (b : Int)) / 2 = (mid : Int) := by omega
  have eP : (mid : Int) + (m : Int) - 1 = (P : Int) := by omega
  have t1 : ((m : Int) - (a : Int) == 1) = false := by rw [beq_eq_false_iff_ne]; omega
  have t2 : ((b : Int) - (m : Int) == 1) = false := by rw [beq_eq_false_iff_ne]; omega
  have HC := Lib.hid hC
  have HOK := Lib.hid hok
  have HS1 := Lib.hid hs1
  have HS2 := Lib.hid hs2
  have HH := Lib.hid h
  have HMID := Lib.hid hmid
  have HP := Lib.hid hP
  have HS0 := Lib.hid hs0
  have HR0 := Lib.hid hr0
  have hamid : a < mid ∧ mid < b := by omega
  obtain ⟨n0, hn0⟩ : ∃ n0, mid + m = n0 := ⟨_, rfl⟩
  have en0 : (mid : Int) + (m : Int) = (n0 : Int) := by omega
  have eP2 : (n0 : Int) - 1 = (P : Int) := by omega
  have HN0 := Lib.hid hn0
  clear hC hok hs1 hs2 h IH hmid hP hs0 hr0 ha1 hb1 eP hn0
  have hc : ¬ mid < m := by rw [← HMID.out]; exact hcase
  clear hcase
  have h1 := HS0.out
  have h2 := HR0.out
  rw [if_neg hc] at h1 h2
  have H2 := Lib.hid (And.intro h1 h2)
  clear h1 h2
  go_enter Tryd.func67, Tryd.ntmps67
  go_wp2
  go_loopw [20, 21] (fun vi vj wr => ∃ (i j p : Nat), vi = .int .i64 i ∧ vj = .int .i64 j ∧ s0 ≤ i ∧ i ≤ j ∧ j ≤ r0 ∧ Hid (∀ x, s0 ≤ x → x < i → kf cs f x ≤ kf cs f (mid + m - 1 - x)) ∧ Hid (∀ x, j ≤ x → x < r0 → kf cs f (mid + m - 1 - x) < kf cs f x) ∧ wr = w.drewN p) (fun vi vj _ => (intOf vj - intOf vi).toNat)
  case atStart => exact ⟨s0, r0, 0, by rw [← H2.out.1], by rw [← H2.out.2], by omega, by omega, by omega, fun x h1 h2 => absurd h2 (by omega), fun x h1 h2 => absurd h2 (by omega), rfl⟩
  case round =>
    obtain ⟨i, j, p, rfl, rfl, hi, hij, hj, hlo, hhi, rfl⟩ := hrel
    by_cases hlt : i < j
    · obtain ⟨x, hx⟩ : ∃ x, (i + j) / 2 = x := ⟨_, rfl⟩
      have ex : ((i : Int) + (j : Int)) / 2 = (x : Int) := by omega
      have hx1 : i ≤ x ∧ x < j := by omega
      obtain ⟨d, hd⟩ : ∃ d, mid + m - 1 - x = d := ⟨_, rfl⟩
      have hn0' := HN0.out
      have ed : (P : Int) - (x : Int) = (d : Int) := by omega
      have hdn : d < n := by omega
      have cx := HH.out.at_ (i := x) (by omega)
      have cd := HH.out.at_ (i := d) hdn
      obtain ⟨u, hu⟩ : ∃ u, f x = u := ⟨_, rfl⟩
      obtain ⟨v, hv⟩ : ∃ v, f d = v := ⟨_, rfl⟩
      rw [hu] at cx
      rw [hv] at cd
      have hoku := HOK.out x (by omega)
      have hokv := HOK.out d hdn
      rw [hu] at hoku
      rw [hv] at hokv
      obtain ⟨r, hr⟩ : ∃ r, cmp3 (key cs v) (key cs u) = r := ⟨_, rfl⟩
      have hcmp := fun mm => cmp_quiet (W := w.drewN p) (m := mm) (HC.out.drewN p) hokv hoku
      have cx : (w.drewN p).cell? ⟨g, x, none⟩ = some (.int .i64 u) := cx
      have cd : (w.drewN p).cell? ⟨g, d, none⟩ = some (.int .i64 v) := cd
      obtain ⟨W, hW⟩ : ∃ W, w.drewN p = W := ⟨_, rfl⟩
      have HWW := Lib.hid hW
      rw [hW] at cx cd hcmp ⊢
      have hlt3 := cmp3_lt (key cs v) (key cs u)
      rw [hr] at hcmp hlt3
      have HCMP := Lib.hid hcmp
      have HU := Lib.hid (And.intro hu hv)
      have HX := Lib.hid (And.intro hx hd)
      have x0 : (0 : Int) ≤ (x : Int) := by omega
      have x1 : (x : Int) < (n : Int) := by omega
      have d0 : (0 : Int) ≤ (d : Int) := by omega
      have d1 : (d : Int) < (n : Int) := by omega
      clear hcmp hu hv hoku hokv hr hx hd hW hn0' hdn
      by_cases hk : key cs v < key cs u
      · have tr : decide (r < 0) = true := by rw [hlt3]; exact decide_eq_true hk
        have HK := Lib.hid hk
        clear hlt3 hk
        go_wp2
        go_quiet (with_reducible exact HCMP.out _)
        go_wp2
        go_roundw
        case rel =>
          refine ⟨i, x, _, rfl, rfl, hi, by omega, by omega, hlo, ?_, by rw [← HWW.out, World.drewN_drewN]⟩
          exact found_left ham hmb HMID.out.symm HS1.out HS2.out HS0.out.symm HR0.out.symm ⟨by omega, by omega⟩ (by rw [HX.out.2]; show key cs (f d) < key cs (f x); rw [HU.out.1, HU.out.2]; exact HK.out)
        case measure => simp [intOf]; omega
      · have tr : decide (r < 0) = false := by rw [hlt3]; exact decide_eq_false hk
        have HK := Lib.hid hk
        clear hlt3 hk
        go_wp2
        go_quiet (with_reducible exact HCMP.out _)
        go_wp2
        go_roundw
        case rel =>
          refine ⟨x + 1, j, _, by go_num, rfl, by omega, by omega, hj, ?_, hhi, by rw [← HWW.out, World.drewN_drewN]⟩
          exact found_right ham hmb HMID.out.symm HS1.out HS2.out HS0.out.symm HR0.out.symm ⟨by omega, by omega⟩ (by rw [HX.out.2]; show key cs (f x) ≤ key cs (f d); rw [HU.out.1, HU.out.2]; have := HK.out; omega)
        case measure => simp [intOf]; omega
    · obtain rfl : i = j := by omega
      obtain ⟨s, hsi⟩ : ∃ s, s = i := ⟨_, rfl⟩
      subst hsi
      have hcut := Cut.found ham hmb HMID.out.symm HS1.out HS2.out HS0.out.symm HR0.out.symm ⟨hi, hj⟩ hlo.out hhi.out
      obtain ⟨e, he⟩ : ∃ e, mid + m - s = e := ⟨_, rfl⟩
      rw [he] at hcut
      have hpt := Cut.parts hcut HS1.out HS2.out
      have ee : (n0 : Int) - (s : Int) = (e : Int) := by have := HN0.out; omega
      have hGW : Wn a b n f (exch f s (m - s) (e - m)) := (Wn.exch (lo := a) (hi := b) (n := n) hb _ f s (m - s) (e - m) (Nat.le_refl _) hcut.as_ (by have := hcut.sm; have := hcut.me; have := hcut.eb; omega))
      obtain ⟨c1, c2, c3, c4, c5, c6, c7, _, _⟩ := hcut
      have hDW := HH.out.fresh (Fresh.drewN w p)
      have hBW : But g w (w.drewN p) := But.drewN w p
      obtain ⟨W, hW⟩ : ∃ W, w.drewN p = W := ⟨_, rfl⟩
      rw [hW] at hDW hBW ⊢
      have hD0 : ¬ (s < m ∧ m < e) → DAt W g n R (exch f s (m - s) (e - m)) := fun hh => by rw [exch_none f s (m - s) (e - m) (by omega)]; exact hDW
      have hL0 : ¬ (a < s ∧ s < mid) → Srt (fun x => key cs (exch f s (m - s) (e - m) x)) a mid := fun hh => by
        by_cases q1 : s = a
        · have := hpt.2.1; rwa [q1] at this ⊢
        · have q2 : s = mid := by omega
          have := hpt.1
          rw [q2] at this
          rw [q2]
          exact this
      have hR0 : ¬ (mid < e ∧ e < b) → Srt (fun x => key cs (exch f s (m - s) (e - m) x)) mid b := fun hh => by
        by_cases q1 : e = mid
        · have := hpt.2.2.2.1
          rw [q1] at this ⊢
          exact this
        · have q2 : e = b := by omega
          have := hpt.2.2.1
          rw [q2] at this ⊢
          exact this
      obtain ⟨hp1, hp2, hp3, hp4, hp5⟩ := hpt
      have HOKG := Lib.hid (hGW.all (P := ok cs) HOK.out hb)
      have HGW := Lib.hid hGW
      have HDW := Lib.hid hDW
      have HBW := Lib.hid hBW
      have HP1 := Lib.hid hp1
      have HP2 := Lib.hid hp2
      have HP3 := Lib.hid hp3
      have HP4 := Lib.hid hp4
      have HP5 := Lib.hid hp5
      clear hp1 hp2 hp3 hp4 hp5 hGW hDW hBW hlo hhi hW he
      have HLL := Lib.hid (fun (h1 : a < s) (h2 : s < mid) (W' : World) (hD' : DAt W' g n R (exch f s (m - s) (e - m))) (hB' : But g w W') => HIH.out a s mid (exch f s (m - s) (e - m)) W' (by omega) hD' h1 h2 (by omega) hn (HC.out.but hBg hgw hB') hBg HOKG.out HP1.out HP2.out)
      have HRR := Lib.hid (fun (h1 : mid < e) (h2 : e < b) (W' : World) (F : Nat → Int) (hD' : DAt W' g n R F) (hB' : But g w W') (hW' : Wn a mid n (exch f s (m - s) (e - m)) F) => HIH.out mid e b F W' (by omega) hD' h1 h2 hb hn (HC.out.but hBg hgw hB') hBg (hW'.all HOKG.out (by omega)) (Srt.same HP3.out fun x h1 h2 => hW'.out x (Or.inr h1)) (Srt.same HP4.out fun x h1 h2 => hW'.out x (Or.inr (by omega))))
      by_cases hrot : s < m ∧ m < e
      · by_cases hleft : a < s ∧ s < mid
        · by_cases hright : mid < e ∧ e < b
          · clear hD0 hL0 hR0
            go_wp2_with (first
              | (go_at_call 68; (with_reducible refine (rotate_any g n c s m e q R f W HDW.out (by omega) (by omega) (by omega) hn).mono ?_); rintro e1 w1 ⟨rfl, hD1, hB1⟩; have HD1 := Lib.hid hD1; have HB1 := Lib.hid (HBW.out.trans hB1); clear hD1 hB1)
              | (go_at_call 67; (with_reducible refine (HLL.out hleft.1 hleft.2 _ HD1.out HB1.out).mono ?_); rintro e2 w2 ⟨rfl, F1, hD2, hW2, hS2, hB2⟩; have HD2 := Lib.hid hD2; have HW2 := Lib.hid hW2; have HS2' := Lib.hid hS2; have HB2 := Lib.hid (HB1.out.trans hB2); clear hD2 hW2 hS2 hB2)
              | (go_at_call 67; (with_reducible refine (HRR.out hright.1 hright.2 _ _ HD2.out HB2.out HW2.out).mono ?_); rintro e3 w3 ⟨rfl, F2, hD3, hW3, hS3, hB3⟩; have HD3 := Lib.hid hD3; have HW3 := Lib.hid hW3; have HS3 := Lib.hid hS3; have HB3 := Lib.hid (HB2.out.trans hB3); clear hD3 hW3 hS3 hB3))
            all_goals go_end0
            all_goals exact ⟨rfl, _, HD3.out, fin_wn HGW.out HW2.out HW3.out (by omega) (by omega), fin_srt (by omega) (by omega) HW2.out HW3.out HS2'.out HS3.out HP5.out, HB3.out⟩
          · have HR0' := Lib.hid (hR0 hright)
            clear hD0 hL0 hR0
            go_wp2_with (first
              | (go_at_call 68; (with_reducible refine (rotate_any g n c s m e q R f W HDW.out (by omega) (by omega) (by omega) hn).mono ?_); rintro e1 w1 ⟨rfl, hD1, hB1⟩; have HD1 := Lib.hid hD1; have HB1 := Lib.hid (HBW.out.trans hB1); clear hD1 hB1)
              | (go_at_call 67; (with_reducible refine (HLL.out hleft.1 hleft.2 _ HD1.out HB1.out).mono ?_); rintro e2 w2 ⟨rfl, F1, hD2, hW2, hS2, hB2⟩; have HD2 := Lib.hid hD2; have HW2 := Lib.hid hW2; have HS2' := Lib.hid hS2; have HB2 := Lib.hid (HB1.out.trans hB2); clear hD2 hW2 hS2 hB2))
            all_goals go_end0
            all_goals exact ⟨rfl, _, HD2.out, fin_wn HGW.out HW2.out (Wn.refl _ _ _ _) (by omega) (by omega), fin_srt (by omega) (by omega) HW2.out (Wn.refl mid b n _) HS2'.out (Srt.same HR0'.out fun x h1 h2 => HW2.out.out x (Or.inr h1)) HP5.out, HB2.out⟩
        · by_cases hright : mid < e ∧ e < b
          · have HL0 := Lib.hid (hL0 hleft)
            clear hD0 hL0 hR0
            go_wp2_with (first
              | (go_at_call 68; (with_reducible refine (rotate_any g n c s m e q R f W HDW.out (by omega) (by omega) (by omega) hn).mono ?_); rintro e1 w1 ⟨rfl, hD1, hB1⟩; have HD1 := Lib.hid hD1; have HB1 := Lib.hid (HBW.out.trans hB1); clear hD1 hB1)
              | (go_at_call 67; (with_reducible refine (HRR.out hright.1 hright.2 _ _ HD1.out HB1.out (Wn.refl _ _ _ _)).mono ?_); rintro e3 w3 ⟨rfl, F2, hD3, hW3, hS3, hB3⟩; have HD3 := Lib.hid hD3; have HW3 := Lib.hid hW3; have HS3 := Lib.hid hS3; have HB3 := Lib.hid (HB1.out.trans hB3); clear hD3 hW3 hS3 hB3))
            all_goals go_end0
            all_goals exact ⟨rfl, _, HD3.out, fin_wn HGW.out (Wn.refl _ _ _ _) HW3.out (by omega) (by omega), fin_srt (by omega) (by omega) (Wn.refl _ _ _ _) HW3.out HL0.out HS3.out HP5.out, HB3.out⟩
          · have HL0 := Lib.hid (hL0 hleft)
            have HR0' := Lib.hid (hR0 hright)
            clear hD0 hL0 hR0
            go_wp2_with (first
              | (go_at_call 68; (with_reducible refine (rotate_any g n c s m e q R f W HDW.out (by omega) (by omega) (by omega) hn).mono ?_); rintro e1 w1 ⟨rfl, hD1, hB1⟩; have HD1 := Lib.hid hD1; have HB1 := Lib.hid (HBW.out.trans hB1); clear hD1 hB1))
            all_goals go_end0
            all_goals exact ⟨rfl, _, HD1.out, fin_wn HGW.out (Wn.refl _ _ _ _) (Wn.refl _ _ _ _) (by omega) (by omega), fin_srt (by omega) (by omega) (Wn.refl _ _ _ _) (Wn.refl mid b n _) HL0.out (Srt.same HR0'.out fun x h1 h2 => (Wn.refl a mid n _).out x (Or.inr h1)) HP5.out, HB1.out⟩
      · by_cases hleft : a < s ∧ s < mid
        · by_cases hright : mid < e ∧ e < b
          · have HD0 := Lib.hid (hD0 hrot)
            clear hD0 hL0 hR0
            go_wp2_with (first
              | (go_at_call 67; (with_reducible refine (HLL.out hleft.1 hleft.2 _ HD0.out HBW.out).mono ?_); rintro e2 w2 ⟨rfl, F1, hD2, hW2, hS2, hB2⟩; have HD2 := Lib.hid hD2; have HW2 := Lib.hid hW2; have HS2' := Lib.hid hS2; have HB2 := Lib.hid (HBW.out.trans hB2); clear hD2 hW2 hS2 hB2)
              | (go_at_call 67; (with_reducible refine (HRR.out hright.1 hright.2 _ _ HD2.out HB2.out HW2.out).mono ?_); rintro e3 w3 ⟨rfl, F2, hD3, hW3, hS3, hB3⟩; have HD3 := Lib.hid hD3; have HW3 := Lib.hid hW3; have HS3 := Lib.hid hS3; have HB3 := Lib.hid (HB2.out.trans hB3); clear hD3 hW3 hS3 hB3))
            all_goals go_end0
            all_goals exact ⟨rfl, _, HD3.out, fin_wn HGW.out HW2.out HW3.out (by omega) (by omega), fin_srt (by omega) (by omega) HW2.out HW3.out HS2'.out HS3.out HP5.out, HB3.out⟩
          · have HD0 := Lib.hid (hD0 hrot)
            have HR0' := Lib.hid (hR0 hright)
            clear hD0 hL0 hR0
            go_wp2_with (first
              | (go_at_call 67; (with_reducible refine (HLL.out hleft.1 hleft.2 _ HD0.out HBW.out).mono ?_); rintro e2 w2 ⟨rfl, F1, hD2, hW2, hS2, hB2⟩; have HD2 := Lib.hid hD2; have HW2 := Lib.hid hW2; have HS2' := Lib.hid hS2; have HB2 := Lib.hid (HBW.out.trans hB2); clear hD2 hW2 hS2 hB2))
            all_goals go_end0
            all_goals exact ⟨rfl, _, HD2.out, fin_wn HGW.out HW2.out (Wn.refl _ _ _ _) (by omega) (by omega), fin_srt (by omega) (by omega) HW2.out (Wn.refl mid b n _) HS2'.out (Srt.same HR0'.out fun x h1 h2 => HW2.out.out x (Or.inr h1)) HP5.out, HB2.out⟩
        · by_cases hright : mid < e ∧ e < b
          · have HD0 := Lib.hid (hD0 hrot)
            have HL0 := Lib.hid (hL0 hleft)
            clear hD0 hL0 hR0
            go_wp2_with (first
              | (go_at_call 67; (with_reducible refine (HRR.out hright.1 hright.2 _ _ HD0.out HBW.out (Wn.refl _ _ _ _)).mono ?_); rintro e3 w3 ⟨rfl, F2, hD3, hW3, hS3, hB3⟩; have HD3 := Lib.hid hD3; have HW3 := Lib.hid hW3; have HS3 := Lib.hid hS3; have HB3 := Lib.hid (HBW.out.trans hB3); clear hD3 hW3 hS3 hB3))
            all_goals go_end0
            all_goals exact ⟨rfl, _, HD3.out, fin_wn HGW.out (Wn.refl _ _ _ _) HW3.out (by omega) (by omega), fin_srt (by omega) (by omega) (Wn.refl _ _ _ _) HW3.out HL0.out HS3.out HP5.out, HB3.out⟩
          · have HD0 := Lib.hid (hD0 hrot)
            have HL0 := Lib.hid (hL0 hleft)
            have HR0' := Lib.hid (hR0 hright)
            clear hD0 hL0 hR0
            go_wp2
            all_goals go_end0
            all_goals exact ⟨rfl, _, HD0.out, fin_wn HGW.out (Wn.refl _ _ _ _) (Wn.refl _ _ _ _) (by omega) (by omega), fin_srt (by omega) (by omega) (Wn.refl _ _ _ _) (Wn.refl mid b n _) HL0.out (Srt.same HR0'.out fun x h1 h2 => (Wn.refl a mid n _).out x (Or.inr h1)) HP5.out, HBW.out⟩

end
end Go.Proofs.YtcmeoappddpmcaaDoor.sortp
/-
  symMerge, by induction; SortStableFunc. My own text.
-/
namespace Go.Proofs.YtcmeoappddpmcaaDoor.sortp
open Go.RowKit Go.Proofs.YtcmeoappddpmcaaDoor.base Go.Proofs.YtcmeoappddpmcaaDoor.sortnum
set_option linter.unusedVariables false

section
variable {g n c q B : Nat} {R : List Value} {cs : List Int}
theorem sym_upto : ∀ N, Upto g n c q B R cs N
  | 0, a, m, b, f, w, hN, _, ham, hmb, _, _, _, _, _, _, _ => absurd hN (by omega)
  | N + 1, a, m, b, f, w, hN, h, ham, hmb, hb, hn, hC, hBg, hok, hs1, hs2 => by
    by_cases ha1 : m - a = 1
    · exact sym_left h (by omega) (by omega) hmb hb hn hC hBg hok hs2
    by_cases hb1 : b - m = 1
    · exact sym_right h ham ha1 (by omega) (by omega) hb hn hC hBg hok hs1
    by_cases hc : (a + b) / 2 < m
    · exact sym_a N a m b f w (sym_upto N) hN h ham hmb hb hn hC hBg hok hs1 hs2 ha1 hb1 hc
    · exact sym_b N a m b f w (sym_upto N) hN h ham hmb hb hn hC hBg hok hs1 hs2 ha1 hb1 hc
theorem merges : Merges g n c q B R cs := fun a m b f w h1 h2 h3 h4 h5 h6 h7 h8 h9 h10 => sym_upto (b - a) a m b f w (Nat.le_refl _) h1 h2 h3 h4 h5 h6 h7 h8 h9 h10
end
end Go.Proofs.YtcmeoappddpmcaaDoor.sortp
/-
  The lengths that are made are lengths of a code: plain mathematics, over no program. My own text.
-/
namespace Go.Proofs.YtcmeoappddpmcaaDoor.lenp
open Go.RowKit Go.Proofs.YtcmeoappddpmcaaDoor.base Go.Proofs.YtcmeoappddpmcaaDoor.lennum Go.Proofs.YtcmeoappddpmcaaDoor.sortp Go.Proofs.YtcmeoappddpmcaaDoor.huffnum
set_option linter.unusedVariables false
/-- a length's share of the texts of 15 bits -/
def share (n x : Nat) : Nat := if 1 ≤ x ∧ x ≤ n then 2 ^ (15 - x) else 0
theorem sum_ind (ls : List Nat) (n c : Nat) : ((ls.map fun x => share n x).sum) + ls.count (n + 1) * 2 ^ (15 - (n + 1)) = (ls.map fun x => share (n + 1) x).sum := by
  induction ls with
  | nil => simp
  | cons a r ih =>
    rw [List.map_cons, List.map_cons, List.sum_cons, List.sum_cons, List.count_cons, Nat.add_mul, ← ih]
    have h : share (n + 1) a = share n a + (if (a == n + 1) = true then 1 else 0) * 2 ^ (15 - (n + 1)) := by
      unfold share
      by_cases e : a = n + 1
      · subst e
        rw [if_pos (by omega), if_neg (by omega), if_pos (by simp)]
        omega
      · rw [if_neg (c := (a == n + 1) = true) (by simpa using e)]
        by_cases h1 : 1 ≤ a ∧ a ≤ n
        · rw [if_pos (by omega), if_pos h1]; omega
        · rw [if_neg (by omega), if_neg h1]; omega
    omega
theorem tx_sum (ls : List Nat) : ∀ n, n ≤ 15 → tx ls n = (ls.map fun x => share n x).sum
  | 0, _ => by
    rw [tx_zero]
    induction ls with
    | nil => rfl
    | cons a r ih =>
      rw [List.map_cons, List.sum_cons, ← ih]
      unfold share
      rw [if_neg (by omega)]
  | n + 1, h => by rw [tx_succ ls (by omega), tx_sum ls n (by omega), sum_ind ls n 0]
theorem perm_sum {l l' : List Nat} (h : l.Perm l') : l.sum = l'.sum := by
  induction h with
  | nil => rfl
  | cons x _ ih => rw [List.sum_cons, List.sum_cons, ih]
  | swap x y l => simp only [List.sum_cons]; omega
  | trans _ _ h1 h2 => rw [h1, h2]
theorem sum_filter (p : Nat → Bool) (f : Nat → Nat) (l : List Nat) (h : ∀ x ∈ l, p x = false → f x = 0) : (l.map f).sum = ((l.filter p).map f).sum := by
  induction l with
  | nil => rfl
  | cons a r ih =>
    have ih := ih fun x hx => h x (List.mem_cons_of_mem _ hx)
    rw [List.map_cons, List.sum_cons, ih]
    cases hp : p a with
    | true => rw [List.filter_cons_of_pos hp, List.map_cons, List.sum_cons]
    | false => rw [List.filter_cons_of_neg (by rw [hp]; simp), h a List.mem_cons_self hp, Nat.zero_add]
theorem sumTo_range (f : Nat → Nat) : ∀ m, sumTo f m = ((List.range m).map f).sum
  | 0 => rfl
  | m + 1 => by rw [sumTo, sumTo_range f m, List.range_succ, List.map_append, List.sum_append]; simp
/-- the sum over all symbols is the sum over those that come -/
theorem lens_sum {cs ss : List Int} {nc : Nat} (R : List Nat) (f : Nat → Nat) (hf : f 0 = 0) (hp : ss.Perm (picks cs nc)) :
    ((lensP ss R 0 nc).map f).sum = sumTo (fun j => f (bitsOf R j)) ss.length := by
  have hnd : ss.Nodup := hp.nodup_iff.2 (picks_nodup cs nc)
  obtain ⟨g, hg⟩ : ∃ g : Nat → Nat, ∀ i : Nat, g i = match posOf ss (i : Int) with | some p => bitsOf R p + (if p < 0 then 1 else 0) | none => 0 := ⟨_, fun _ => rfl⟩
  have e1 : (lensP ss R 0 nc).map f = (List.range nc).map fun i => f (g i) := by
    unfold lensP
    rw [List.map_map]
    refine List.map_congr_left fun i _ => ?_
    show f _ = f _
    rw [hg]
    all_goals rfl
  rw [e1, sum_filter (fun i => decide (0 < cs.getD i 0)) (fun i => f (g i)) (List.range nc)]
  · have e2 : ((List.range nc).filter fun i => decide (0 < cs.getD i 0)).map (fun i => f (g i)) = (picks cs nc).map fun x => f (g x.toNat) := by
      unfold picks
      rw [List.map_map]
      refine List.map_congr_left fun i _ => rfl
    rw [e2, perm_sum (hp.symm.map fun x => f (g x.toNat)), sumTo_range]
    congr 1
    refine List.ext_getElem (by simp) fun j h1 h2 => ?_
    rw [List.length_map] at h1
    rw [List.getElem_map, List.getElem_map, List.getElem_range]
    have hx : ss[j]? = some ss[j] := List.getElem?_eq_getElem h1
    have hmem := hp.subset (List.getElem_mem h1)
    unfold picks at hmem
    obtain ⟨k, _, hk⟩ := List.mem_map.1 hmem
    rw [← hk] at hx ⊢
    have : g (Int.ofNat k).toNat = bitsOf R j := by
      rw [hg]
      show (match posOf ss (Int.ofNat k) with | some p => _ | none => 0) = _
      rw [posOf_get hnd hx]
      simp
    rw [this]
  · intro i hi hpi
    have : (i : Int) ∉ ss := fun h => by
      have h1 := hp.subset h
      unfold picks at h1
      obtain ⟨k, hk, hki⟩ := List.mem_map.1 h1
      have h2 := (List.mem_filter.1 hk).2
      have : k = i := Int.ofNat.inj hki
      subst this
      rw [hpi] at h2
      cases h2
    show f (g i) = 0
    rw [hg, posOf_none this]
    exact hf
theorem lens_le {ss : List Int} {R : List Nat} {nc most : Nat} (hR : ∀ j, bitsOf R j ≤ most) : ∀ x ∈ lensP ss R 0 nc, x ≤ most := fun x hx => by
  unfold lensP at hx
  obtain ⟨i, _, rfl⟩ := List.mem_map.1 hx
  split
  · rename_i p _
    rw [if_neg (Nat.not_lt_zero p)]
    exact hR p
  · exact Nat.zero_le _
/-- they are lengths of a code, none longer than may be, and none 0 of a symbol that comes -/
theorem lens_fit {cs ss : List Int} {nc most : Nat} (hp : ss.Perm (picks cs nc)) (hws : Ws (ss.map (key cs))) (hm1 : 1 ≤ most) (hm2 : most ≤ 15) (hl : ss.length ≤ 2 ^ most) :
    tx (lensP ss (madeR (ss.map (key cs)) most) 0 nc) 15 ≤ 32768 ∧ (∀ x ∈ lensP ss (madeR (ss.map (key cs)) most) 0 nc, x ≤ most) ∧ ∀ j, j < ss.length → 1 ≤ bitsOf (madeR (ss.map (key cs)) most) j := by
  have hlw : (ss.map (key cs)).length = ss.length := List.length_map ..
  rw [tx_sum _ 15 (Nat.le_refl _), lens_sum (cs := cs) _ _ (by unfold share; rw [if_neg (by omega)]) hp]
  by_cases h2 : ss.length < 2
  · have e : madeR (ss.map (key cs)) most = [ss.length] := by unfold madeR; rw [hlw, if_pos h2]
    rw [e]
    have hb : ∀ j, bitsOf [ss.length] j = if j < ss.length then 1 else 0 := fun j => by unfold bitsOf; rw [List.countP_cons, List.countP_nil]; simp
    refine ⟨?_, lens_le fun j => ?_, fun j hj => by rw [hb, if_pos hj]; exact Nat.le_refl _⟩
    · rcases (by omega : ss.length = 0 ∨ ss.length = 1) with h | h
      · rw [h]; exact Nat.zero_le _
      · rw [h]
        show 0 + share 15 (bitsOf [1] 0) ≤ 32768
        decide
    · rw [hb]; split <;> omega
  · have e : madeR (ss.map (key cs)) most = run (ss.map (key cs)) most (2 * (ss.map (key cs)).length - 2) := by unfold madeR; rw [hlw, if_neg h2]
    obtain ⟨k1, k2⟩ := made hws most hm1 (by rw [hlw]; exact hl) (by rw [hlw]; omega)
    rw [← e] at k1 k2
    rw [hlw] at k1 k2
    refine ⟨?_, lens_le fun j => ?_, fun j hj => (k2 j hj).1⟩
    · have e3 : ∀ j, j < ss.length → share 15 (bitsOf (madeR (ss.map (key cs)) most) j) = 2 ^ (15 - most) * 2 ^ (most - bitsOf (madeR (ss.map (key cs)) most) j) := fun j hj => by
        obtain ⟨q1, q2⟩ := k2 j hj
        unfold share
        rw [if_pos (by omega), ← Nat.pow_add, show 15 - most + (most - bitsOf (madeR (ss.map (key cs)) most) j) = 15 - bitsOf (madeR (ss.map (key cs)) most) j by omega]
      rw [sumTo_same _ e3]
      have hmul : ∀ (c : Nat) (f : Nat → Nat) (m : Nat), sumTo (fun j => c * f j) m = c * sumTo f m := fun c f m => by
        induction m with
        | zero => rfl
        | succ m ih => rw [sumTo, sumTo, ih, Nat.mul_add]
      rw [hmul, k1, ← Nat.pow_add, show 15 - most + most = 15 by omega]
      decide
    · by_cases hj : j < ss.length
      · exact (k2 j hj).2
      · have hlen : (madeR (ss.map (key cs)) most).length = most := by rw [e, run_len]
        have := bitsOf_le (madeR (ss.map (key cs)) most) j
        omega
end Go.Proofs.YtcmeoappddpmcaaDoor.lenp
/-
  Of m codes that leave nothing over none is longer than m - 1 bits: plain mathematics, over no program. My own text.
-/
namespace Go.Proofs.YtcmeoappddpmcaaDoor.lenp
open Go.RowKit Go.Proofs.YtcmeoappddpmcaaDoor.base Go.Proofs.YtcmeoappddpmcaaDoor.lennum Go.Proofs.YtcmeoappddpmcaaDoor.sortp Go.Proofs.YtcmeoappddpmcaaDoor.huffnum
set_option linter.unusedVariables false
/-- how many texts of d bits are neither codes nor begun by codes -/
def open_ (ls : List Nat) (d : Nat) : Nat := 2 ^ d - nx ls d
theorem open_zero (ls : List Nat) : open_ ls 0 = 1 := by unfold open_ nx; rfl
theorem open_next {ls : List Nat} (h : tx ls 15 ≤ 32768) {d : Nat} (hd : d < 15) : open_ ls (d + 1) + ls.count (d + 1) = 2 * open_ ls d := by
  have h1 := nx_le h (n := d) (by omega)
  have h2 := nx_le h (n := d + 1) (by omega)
  unfold open_
  rw [nx] at h2 ⊢
  rw [Nat.pow_succ] at h2 ⊢
  omega
theorem open_sum {ls : List Nat} (h : tx ls 15 ≤ 32768) : ∀ D, D ≤ 15 → sumTo (open_ ls) D + 1 = sumTo (fun d => ls.count (d + 1)) D + open_ ls D
  | 0, _ => by rw [open_zero]; rfl
  | D + 1, hD => by
    have ih := open_sum h D (by omega)
    have hn := open_next h (d := D) (by omega)
    rw [sumTo, sumTo]
    omega
theorem open_some {ls : List Nat} (h : tx ls 15 ≤ 32768) {L : Nat} (hL : L ≤ 15) (hc : 1 ≤ ls.count L) : ∀ k d, d + k + 1 = L → 1 ≤ open_ ls d
  | 0, d, hd => by
    have hn := open_next h (d := d) (by omega)
    rw [show d + 1 = L by omega] at hn
    omega
  | k + 1, d, hd => by
    have h1 := open_some h hL hc k (d + 1) (by omega)
    have hn := open_next h (d := d) (by omega)
    omega
theorem sum_ones (f : Nat → Nat) : ∀ n, (∀ d, d < n → 1 ≤ f d) → n ≤ sumTo f n
  | 0, _ => Nat.le_refl _
  | n + 1, h => by
    have h1 := sum_ones f n fun d hd => h d (by omega)
    have h2 := h n (by omega)
    rw [sumTo]
    omega
theorem sum_more (f : Nat → Nat) (a : Nat) : ∀ k, sumTo f a ≤ sumTo f (a + k)
  | 0 => Nat.le_refl _
  | k + 1 => by
    have := sum_more f a k
    rw [← Nat.add_assoc, sumTo]
    omega
theorem count_sum (ls : List Nat) (h15 : ∀ x ∈ ls, x ≤ 15) : sumTo (fun d => ls.count (d + 1)) 15 = ls.countP fun x => decide (0 < x) := by
  have hgen : ∀ (ls : List Nat) D, sumTo (fun d => ls.count (d + 1)) D = ls.countP fun x => decide (0 < x ∧ x ≤ D) := by
    intro ls D
    induction D with
    | zero =>
      show 0 = _
      symm
      rw [List.countP_eq_zero]
      intro x _
      simp
      omega
    | succ D ih =>
      rw [sumTo, ih]
      clear ih
      induction ls with
      | nil => rfl
      | cons a r ihr =>
        rw [List.countP_cons, List.countP_cons, List.count_cons, ← ihr]
        by_cases e : a = D + 1
        · subst e
          simp only [beq_self_eq_true, decide_eq_true_eq, if_true]
          rw [if_neg (by omega), if_pos (by omega)]
          omega
        · have e2 : decide (0 < a ∧ a ≤ D + 1) = decide (0 < a ∧ a ≤ D) := by
            rw [decide_eq_decide]
            omega
          rw [e2]
          have e3 : (a == D + 1) = false := by simpa using e
          rw [e3]
          simp
          omega
  rw [hgen]
  refine List.countP_congr fun x hx => ?_
  have := h15 x hx
  simp
  omega
/-- none is longer than all there are, less one -/
theorem deep {ls : List Nat} (h : tx ls 15 = 32768) (h15 : ∀ x ∈ ls, x ≤ 15) : ∀ x ∈ ls, x + 1 ≤ ls.countP fun x => decide (0 < x) := fun x hx => by
  have hle : tx ls 15 ≤ 32768 := by omega
  have ho : open_ ls 15 = 0 := by
    unfold open_
    rw [tx_15] at h
    rw [h]
  have hs := open_sum hle 15 (Nat.le_refl _)
  rw [ho, count_sum ls h15] at hs
  rcases Nat.eq_zero_or_pos x with rfl | hx0
  · omega
  · have hx15 := h15 x hx
    have hc : 1 ≤ ls.count x := List.count_pos_iff.2 hx
    have h1 := sum_ones (open_ ls) x fun d hd => open_some hle hx15 hc (x - 1 - d) d (by omega)
    have h2 := sum_more (open_ ls) x (15 - x)
    rw [show x + (15 - x) = 15 by omega] at h2
    omega
/-- two symbols or more leave nothing over -/
theorem lens_full {cs ss : List Int} {nc most : Nat} (hp : ss.Perm (picks cs nc)) (hws : Ws (ss.map (key cs))) (hm1 : 1 ≤ most) (hm2 : most ≤ 15) (hl : ss.length ≤ 2 ^ most) (h2 : 2 ≤ ss.length) :
    tx (lensP ss (madeR (ss.map (key cs)) most) 0 nc) 15 = 32768 := by
  have hlw : (ss.map (key cs)).length = ss.length := List.length_map ..
  rw [tx_sum _ 15 (Nat.le_refl _), lens_sum (cs := cs) _ _ (by unfold share; rw [if_neg (by omega)]) hp]
  have e : madeR (ss.map (key cs)) most = run (ss.map (key cs)) most (2 * (ss.map (key cs)).length - 2) := by unfold madeR; rw [hlw, if_neg (by omega)]
  obtain ⟨k1, k2⟩ := made hws most hm1 (by rw [hlw]; exact hl) (by rw [hlw]; omega)
  rw [← e] at k1 k2
  rw [hlw] at k1 k2
  have e3 : ∀ j, j < ss.length → share 15 (bitsOf (madeR (ss.map (key cs)) most) j) = 2 ^ (15 - most) * 2 ^ (most - bitsOf (madeR (ss.map (key cs)) most) j) := fun j hj => by
    obtain ⟨q1, q2⟩ := k2 j hj
    unfold share
    rw [if_pos (by omega), ← Nat.pow_add, show 15 - most + (most - bitsOf (madeR (ss.map (key cs)) most) j) = 15 - bitsOf (madeR (ss.map (key cs)) most) j by omega]
  rw [sumTo_same _ e3]
  have hmul : ∀ (c : Nat) (f : Nat → Nat) (m : Nat), sumTo (fun j => c * f j) m = c * sumTo f m := fun c f m => by
    induction m with
    | zero => rfl
    | succ m ih => rw [sumTo, sumTo, ih, Nat.mul_add]
  rw [hmul, k1, ← Nat.pow_add, show 15 - most + most = 15 by omega]
theorem two_of {l : List Int} {a b : Int} (ha : a ∈ l) (hb : b ∈ l) (h : a ≠ b) : 2 ≤ l.length := by
  match l, ha, hb with
  | [x], ha, hb => rw [List.mem_singleton] at ha hb; exact absurd (ha.trans hb.symm) h
  | x :: y :: r, _, _ => simp
end Go.Proofs.YtcmeoappddpmcaaDoor.lenp
/-
  huff.Lengths, whole. My own text.
-/
namespace Go.Proofs.YtcmeoappddpmcaaDoor.lenp
open Go.RowKit Go.Proofs.YtcmeoappddpmcaaDoor.base Go.Proofs.YtcmeoappddpmcaaDoor.lennum Go.Proofs.YtcmeoappddpmcaaDoor.sortp Go.Proofs.YtcmeoappddpmcaaDoor.huffnum Go.Proofs.YtcmeoappddpmcaaDoor.infp
set_option linter.unusedVariables false
theorem lens_at {ss : List Int} {R : List Nat} {p nc x : Nat} (hn : ss.Nodup) (hx : ss[p]? = some (x : Int)) (hl : x < nc) : (lensP ss R 0 nc)[x]? = some (bitsOf R p) := by
  unfold lensP
  rw [List.getElem?_map, List.getElem?_range hl]
  simp only [Option.map_some]
  rw [posOf_get hn hx]
  simp
theorem lengths_any (C : Option Addr) (nc cc : Nat) (cs : List Int) (B : Nat) (w : World) (hC : Rd w B C nc (cs.map iv)) (hnc : nc ≤ 320) (hcc : nc ≤ cc) (hcm : cc ≤ maxLen) (hB : B ≤ w.heap.size) (most : Nat) (hm1 : 1 ≤ most) (hm2 : most ≤ 15)
    (hfew : (picks cs nc).length ≤ 2 ^ most) (hcz : ∀ x ∈ cs, x ≤ mostInt) :
    Calls Tryd.prog 23 #[.slice C nc cc, .int .i64 most] w fun e w' => ∃ (L : Nat) (T : List Nat), e = .returned (.slice (some ⟨L, 0, none⟩) nc nc) ∧ w.heap.size ≤ L ∧ Bk w' L 3 (lv T) ∧ Fresh w w' ∧ T.length = nc ∧ Fit T ∧ (∀ x ∈ T, x ≤ most) ∧ (∀ i, i < nc → 0 < cs.getD i 0 → 1 ≤ T.getD i 0) ∧ (∀ i, i < nc → ¬ 0 < cs.getD i 0 → T.getD i 0 = 0) ∧ ∀ i i', i < nc → i' < nc → 0 < cs.getD i 0 → 0 < cs.getD i' 0 → i ≠ i' → tx T 15 = 32768 := by
  have hlc : cs.length = nc := by have := hC.1; rwa [List.length_map] at this
  have hM : ∀ g n c q B R cs, Merges g n c q B R cs := fun _ _ _ _ _ _ _ => merges
  have hall : Calls Tryd.prog 23 #[.slice C nc cc, .int .i64 most] w (LenIs cs nc most w) := by
    by_cases h2 : (picks cs nc).length < 2
    · exact lengths_few hM C nc cc cs B w hC hnc hcc hcm hB most (2 ^ most) hm1 hm2 rfl h2
    · exact lengths_many hM C nc cc cs B w hC hnc hcc hcm hB most (2 ^ most) hm1 hm2 rfl (by omega) hfew hcz
  refine hall.mono ?_
  rintro e w' ⟨L, ss, rfl, hL, hb, hf, hp, hs⟩
  obtain ⟨_, hws⟩ := WSOK hlc hcz hp hs
  obtain ⟨h1, h2, h3⟩ := lens_fit (most := most) hp hws hm1 hm2 (by rw [hp.length_eq]; exact hfew)
  refine ⟨L, _, rfl, hL, hb, hf, lensP_len _ _ _ _, ⟨h1, fun x hx => Nat.le_trans (h2 x hx) hm2⟩, h2, fun i hi hc => ?_, fun i hi hc => ?_, fun i i' hi hi' hc hc' hne => ?_⟩
  rotate_left
  · have hno : (i : Int) ∉ ss := fun h => by
      have h1 := hp.subset h
      unfold picks at h1
      obtain ⟨k, hk, hki⟩ := List.mem_map.1 h1
      have h2 := (List.mem_filter.1 hk).2
      have : k = i := Int.ofNat.inj hki
      subst this
      exact hc (by simpa using h2)
    unfold lensP
    rw [List.getD_eq_getElem?_getD, List.getElem?_map, List.getElem?_range hi]
    simp only [Option.map_some]
    rw [posOf_none hno]
    rfl
  · have hin : ∀ i, i < nc → 0 < cs.getD i 0 → (i : Int) ∈ ss := fun i hi hc => hp.symm.subset (by
      unfold picks
      exact List.mem_map.2 ⟨i, List.mem_filter.2 ⟨List.mem_range.2 hi, by simpa using hc⟩, rfl⟩)
    exact lens_full hp hws hm1 hm2 (by rw [hp.length_eq]; exact hfew) (two_of (hin i hi hc) (hin i' hi' hc') (fun h => hne (by omega)))
  have hmem : (i : Int) ∈ ss := hp.symm.subset (by
    unfold picks
    exact List.mem_map.2 ⟨i, List.mem_filter.2 ⟨List.mem_range.2 hi, by simpa using hc⟩, rfl⟩)
  obtain ⟨j, hj, hji⟩ := List.getElem_of_mem hmem
  have hx : ss[j]? = some (i : Int) := by rw [List.getElem?_eq_getElem hj, hji]
  rw [List.getD_eq_getElem?_getD, lens_at (hp.nodup_iff.2 (picks_nodup cs nc)) hx hi]
  exact h3 j hj
end Go.Proofs.YtcmeoappddpmcaaDoor.lenp
