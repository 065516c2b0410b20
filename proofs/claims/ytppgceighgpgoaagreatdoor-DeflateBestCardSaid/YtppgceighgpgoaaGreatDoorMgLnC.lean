import Derived.Test.YtppgceighgpgoaaGreatDoorMgLnA
import Derived.Test.YtppgceighgpgoaaGreatDoorMgLnB
import Derived.Deep.DeepCutAuto
/- Several of my own texts, one behind the other. -/
/-
  huff.Lengths: coming. My own text.
-/
namespace Go.Proofs.YtppgceighgpgoaaGreatDoor.lenp
open Go.RowKit Go.Proofs.YtppgceighgpgoaaGreatDoor.base Go.Proofs.YtppgceighgpgoaaGreatDoor.lennum Go.Proofs.YtppgceighgpgoaaGreatDoor.sortp Go.Proofs.YtppgceighgpgoaaGreatDoor.sortnum
set_option linter.unusedVariables false

set_option maxRecDepth 100000 in
set_option maxHeartbeats 16000000 in
theorem ins_nil (c q : Nat) (A : Option Addr) (w : World) : Calls Tryz.prog 104 #[.slice A 0 c, .int .i64 0, .int .i64 0, kv q] w fun e w' => e = .returned (.tuple #[]) ∧ Fresh w w' := by
  go_enter Tryz.func104, Tryz.ntmps104
  go_wp2
  go_loopw [8] (fun vi wr => vi = .int .i64 1 ∧ Fresh w wr) (fun _ _ => 0)
  case atStart => exact ⟨rfl, Fresh.refl _⟩
  case round =>
    obtain ⟨rfl, hfr⟩ := hrel
    go_wp2
    go_end0
    exact ⟨rfl, hfr⟩
set_option maxRecDepth 100000 in
set_option maxHeartbeats 16000000 in
theorem stable_nil (c q : Nat) (A : Option Addr) (w : World) : Calls Tryz.prog 88 #[.slice A 0 c, .int .i64 0, kv q] w fun e w' => e = .returned (.tuple #[]) ∧ Fresh w w' := by
  have HI := Lib.hid (ins_nil c q A)
  go_enter Tryz.func88, Tryz.ntmps88
  go_wp2
  go_loopw [7, 8] (fun va vb wr => va = .int .i64 0 ∧ vb = .int .i64 20 ∧ Fresh w wr) (fun _ _ _ => 0)
  case atStart => exact ⟨rfl, rfl, Fresh.refl _⟩
  case round =>
    obtain ⟨rfl, rfl, hfr⟩ := hrel
    go_wp2_with (go_at_call 104; (refine (HI.out _).mono ?_); rintro e w1 ⟨rfl, hf1⟩)
    have HF := Lib.hid (hfr.trans hf1)
    clear hfr hf1
    go_loopw [6] (fun vx wr => vx = .int .i64 20 ∧ Fresh w wr) (fun _ _ => 0)
    case atStart => exact ⟨rfl, HF.out⟩
    case round =>
      obtain ⟨rfl, hfr⟩ := hrel
      go_wp2
      go_end0
      exact ⟨rfl, hfr⟩
set_option maxRecDepth 100000 in
set_option maxHeartbeats 16000000 in
theorem sort_nil (c q : Nat) (A : Option Addr) (w : World) : Calls Tryz.prog 66 #[.slice A 0 c, kv q] w fun e w' => e = .returned (.tuple #[]) ∧ Fresh w w' := by
  have HS := Lib.hid (stable_nil c q A)
  go_enter Tryz.func66, Tryz.ntmps66
  go_wp2_with (go_at_call 88; (refine (HS.out _).mono ?_); rintro e w1 ⟨rfl, hx⟩)
  go_end0
  exact ⟨rfl, hx⟩
theorem intInfo : (Tryz.prog.info? 3).map (fun i => (i.zero, i.size, i.bytes)) = some (some (.int .i64 0), 1, 8) := by kernel_rfl
theorem one_int (x : Int) : ∀ u ∈ [iv x], u.oneCell' = true := fun u hu => by rw [List.mem_singleton] at hu; subst hu; rfl
/-- the symbols that come, by their numbers -/
def picks (cs : List Int) (j : Nat) : List Int := ((List.range j).filter fun i => decide (0 < cs.getD i 0)).map Int.ofNat
theorem picks_in {cs : List Int} {j : Nat} (h : 0 < cs.getD j 0) : picks cs (j + 1) = picks cs j ++ [(j : Int)] := by
  unfold picks
  rw [List.range_succ, List.filter_append, List.map_append]
  simp only [List.filter_cons, List.filter_nil]
  rw [if_pos (by simpa using h)]
  rfl
theorem picks_out {cs : List Int} {j : Nat} (h : ¬ 0 < cs.getD j 0) : picks cs (j + 1) = picks cs j := by
  unfold picks
  rw [List.range_succ, List.filter_append, List.map_append]
  simp only [List.filter_cons, List.filter_nil]
  rw [if_neg (by simpa using h)]
  simp
theorem picks_len (cs : List Int) (j : Nat) : (picks cs j).length ≤ j := by
  unfold picks
  rw [List.length_map]
  have := List.length_filter_le (fun i => decide (0 < cs.getD i 0)) (List.range j)
  rwa [List.length_range] at this
theorem picks_rise (cs : List Int) (j : Nat) : (picks cs j).Pairwise (· < ·) := by
  unfold picks
  rw [List.pairwise_map]
  exact (List.pairwise_lt_range.filter _).imp fun h => Int.ofNat_lt.2 h
theorem picks_inc (cs : List Int) (j p r : Nat) (h : p < r) (hr : r < (picks cs j).length) : (picks cs j).getD p 0 < (picks cs j).getD r 0 := by
  rw [List.getD_eq_getElem?_getD, List.getD_eq_getElem?_getD, List.getElem?_eq_getElem (by omega), List.getElem?_eq_getElem hr]
  exact List.pairwise_iff_getElem.1 (picks_rise cs j) p r (by omega) hr h
theorem picks_ok {cs : List Int} {j : Nat} (hj : j ≤ cs.length) : ∀ x ∈ picks cs j, ok cs x := by
  intro x hx
  unfold picks at hx
  obtain ⟨i, hi, rfl⟩ := List.mem_map.1 hx
  have := List.mem_range.1 (List.mem_filter.1 hi).1
  exact ⟨Int.natCast_nonneg i, (show (i : Int) < (cs.length : Int) by omega)⟩
theorem lst_of (l : List Int) : lst (fun i => l.getD i 0) l.length = l := by
  unfold lst
  apply List.ext_getElem?
  intro i
  by_cases h : i < l.length
  · simp [h]
  · simp [h]
theorem lst_get (f : Nat → Int) (n i : Nat) (h : i < n) : (lst f n)[i]? = some (f i) := by unfold lst; simp [h]
theorem srt_pair {cs : List Int} {f : Nat → Int} {n : Nat} (h : Srt (kf cs f) 0 n) : (lst f n).Pairwise fun a b => key2 cs a ≤ key2 cs b := by
  rw [List.pairwise_iff_getElem]
  intro i j hi hj hij
  have hn : (lst f n).length = n := by unfold lst; simp
  have e1 : (lst f n)[i] = f i := by have := lst_get f n i (by omega); rw [List.getElem?_eq_getElem hi] at this; exact Option.some.inj this
  have e2 : (lst f n)[j] = f j := by have := lst_get f n j (by omega); rw [List.getElem?_eq_getElem hj] at this; exact Option.some.inj this
  rw [e1, e2]
  exact h i j (Nat.zero_le _) (by omega) (by omega)
set_option maxRecDepth 100000 in
set_option maxHeartbeats 16000000 in
theorem coming_any (hM : ∀ g n c q B R cs, Merges g n c q B R cs) (C : Option Addr) (nc cc : Nat) (cs : List Int) (B : Nat) (w : World)
    (hC : Rd w B C nc (cs.map iv)) (hnc : nc ≤ 500) (hcc : nc ≤ cc) (hcm : cc ≤ maxLen) (hB : B ≤ w.heap.size) :
    Calls Tryz.prog 45 #[.slice C nc cc] w fun e w' => ∃ (A : Option Addr) (m c : Nat) (ss : List Int), e = .returned (.slice A m c) ∧ Own w' w.heap.size 3 A m c (ss.map iv) ∧ ss.Perm (picks cs nc) ∧ ss.Pairwise (fun a b => key2 cs a ≤ key2 cs b) ∧ Fresh w w' := by
  have hlc : cs.length = nc := by have := hC.1; rwa [List.length_map] at this
  have HM := Lib.hid hM
  have HC := Lib.hid hC
  have HCM := Lib.hid hcm
  obtain ⟨i0, hi0, hz0, hz1, hz2⟩ := info_parts intInfo
  clear hM hC hcm
  go_enter Tryz.func45, Tryz.ntmps45
  go_wp2
  go_loopw [3, 8] (fun vs vi wr => ∃ (i : Nat) (A : Option Addr) (m c : Nat), vi = .int .i64 i ∧ vs = .slice A m c ∧ i ≤ nc ∧ m ≤ i ∧ Own wr (w.heap.size + 1) 3 A m c ((picks cs i).map iv) ∧ Hid (Bk wr w.heap.size 62 [.slice C nc cc]) ∧ Fresh w wr) (fun _ vi _ => nc - (intOf vi).toNat)
  case atStart => exact ⟨0, none, 0, 0, rfl, rfl, Nat.zero_le _, Nat.le_refl _, Own.nil _ _ _, Lib.hid (Bk.made w _ _), Fresh.alloc _ _⟩
  case round =>
    obtain ⟨i, A, m, c, rfl, rfl, hi, hmi, hO, hq, hfr⟩ := hrel
    by_cases hlt : i < nc
    · obtain ⟨b, off, x, hCe, hb, hx, hcx⟩ := (HC.out.keep (w' := wr) fun k hk => hfr.block k (by omega)).at_ hlt
      subst hCe
      have ii : (i : Int) < (nc : Int) := by omega
      have hgx : cs.getD i 0 = x := by rw [List.getD_eq_getElem?_getD, hx]; rfl
      have HQ := hq
      by_cases hx0 : 0 < x
      · have hpk := picks_in (cs := cs) (j := i) (by rw [hgx]; exact hx0)
        have ho1 := Own.fresh hO (Fresh.alloc wr (.cells #[iv (i : Int)] 3))
        go_wp2_with (at_builtin; go_loud (refine wpList_append_rd _ rfl _ _ 62 rfl (w.heap.size + 1) 3 i0 _ 8 Tryz.underlying62 hi0 hz0 hz1 hz2 rfl A m c _ rfl (Own.fresh hO (Fresh.alloc _ _)) (wr.heap.size + 1) (some ⟨wr.heap.size, 0, none⟩) 1 1 [iv (i : Int)] rfl (Rd.lit wr #[iv (i : Int)] 3) (one_int _) (by unfold maxLen; omega) (by omega) (by have := hfr.size; have := hq.out.inside; simp; omega) ?_); intro A3 c3 w3 ho3 hg3)
        refine ⟨⟨i + 1, A3, m + 1, c3, rfl, rfl, by omega, by omega, by rw [hpk, List.map_append]; exact ho3, Lib.hid ((hq.out.alloc _).grown hg3 fun e => by have := (World.ownsRow.lt ho1 _ e).1; omega), (hfr.trans (Fresh.alloc _ _)).append ho1 (by omega) hg3⟩, ?_⟩
        show nc - ((i : Int) + 1).toNat < nc - ((i : Int)).toNat
        omega
      · have hpk := picks_out (cs := cs) (j := i) (by rw [hgx]; exact hx0)
        go_wp2
        refine ⟨⟨i + 1, A, m, c, rfl, rfl, by omega, by omega, by rw [hpk]; exact hO, hq, hfr⟩, ?_⟩
        show nc - ((i : Int) + 1).toNat < nc - ((i : Int)).toNat
        omega
    · have hin : i = nc := by omega
      subst hin
      have hpl : (picks cs i).length = m := by have := hO.1; rw [List.length_map, Nat.mul_one] at this; exact this
      by_cases hm0 : m = 0
      · subst hm0
        have hp0 : picks cs i = [] := List.eq_nil_of_length_eq_zero hpl
        go_wp2_with (go_at_call 66; (refine (sort_nil c w.heap.size A _).mono ?_); rintro e w4 ⟨rfl, hf4⟩)
        go_ret
        exact ⟨A, 0, c, [], rfl, by have := Own.fresh hO hf4; rw [hp0] at this; exact ⟨this.1, this.2.imp id fun ⟨g, cap, cur, h1, h2, h3⟩ => ⟨g, cap, cur, h1, by omega, h3⟩⟩, by rw [hp0], List.Pairwise.nil, hfr.trans hf4⟩
      · rcases hO.2 with ⟨_, h0⟩ | ⟨g, cap, cur, hv, hbg, hg, hmc, hcl, hcs, htk⟩
        · omega
        injection hv with hA _ hcap
        subst hA; subst hcap
        rw [Nat.mul_one] at htk hcs
        have hD : DAt wr g m (cur.toList.drop m) (fun j => (picks cs i).getD j 0) := by
          show wr.heap[g]? = _
          have e : lst (fun j => (picks cs i).getD j 0) m = picks cs i := by rw [← hpl]; exact lst_of _
          rw [hg, e, ← htk, List.take_append_drop]
        have hcn : Cnt wr w.heap.size (w.heap.size + 1) cs := ⟨⟨C, i, cc, hq.out.cell rfl, (HC.out.keep fun k hk => hfr.block k (by omega)).up (by omega), hcc, HCM.out⟩, by omega⟩
        have hso := sort_any (HM.out g m c w.heap.size (w.heap.size + 1) (cur.toList.drop m) cs) _ wr hD (by omega) hcn hbg (fun j hj => picks_ok (j := i) (by omega) _ (by rw [List.getD_eq_getElem?_getD, List.getElem?_eq_getElem (by omega)]; exact List.getElem_mem _)) (fun p r h1 h2 => picks_inc cs i p r h1 (by omega))
        have HSO := Lib.hid hso
        clear hso
        go_wp2_with (go_at_call 66; (refine HSO.out.mono ?_); rintro e w4 ⟨rfl, f', hD4, hW4, hS4, hB4⟩)
        go_ret
        refine ⟨_, m, c, lst f' m, rfl, ⟨by unfold lst; simp, .inr ⟨g, c, _, rfl, by omega, hD4, hmc, hcl, ?_, ?_⟩⟩, ?_, srt_pair hS4, hfr.but (by omega) hB4⟩
        · have : (lst f' m).length = m := by unfold lst; simp
          simp [this]
          omega
        · have : ((lst f' m).map iv).length = m := by unfold lst; simp
          rw [Nat.mul_one, List.take_left' this]
        · have e : lst (fun j => (picks cs i).getD j 0) m = picks cs i := by rw [← hpl]; exact lst_of _
          have := hW4.perm
          rwa [e] at this
end Go.Proofs.YtppgceighgpgoaaGreatDoor.lenp
/-
  Lengths of codes as a row over all symbols, while they are made: plain mathematics, over no program. My own text.
-/
namespace Go.Proofs.YtppgceighgpgoaaGreatDoor.lenp
open Go.RowKit Go.Proofs.YtppgceighgpgoaaGreatDoor.base Go.Proofs.YtppgceighgpgoaaGreatDoor.lennum Go.Proofs.YtppgceighgpgoaaGreatDoor.sortp
set_option linter.unusedVariables false
/-- where a symbol stands -/
def posOf : List Int → Int → Option Nat
  | [], _ => none
  | x :: r, i => if x = i then some 0 else (posOf r i).map (· + 1)
theorem posOf_some : ∀ {l : List Int} {i : Int} {p : Nat}, posOf l i = some p → l[p]? = some i
  | x :: r, i, p, h => by
    rw [posOf] at h
    by_cases e : x = i
    · rw [if_pos e] at h
      injection h with h
      subst h; subst e
      rfl
    · rw [if_neg e, Option.map_eq_some_iff] at h
      obtain ⟨q, hq, rfl⟩ := h
      rw [List.getElem?_cons_succ]
      exact posOf_some hq
theorem posOf_get : ∀ {l : List Int} {i : Int} {p : Nat}, l.Nodup → l[p]? = some i → posOf l i = some p
  | x :: r, i, 0, _, h => by
    simp at h
    rw [posOf, if_pos h]
  | x :: r, i, p + 1, hn, h => by
    rw [List.getElem?_cons_succ] at h
    obtain ⟨h1, h2⟩ := List.nodup_cons.1 hn
    have hne : x ≠ i := fun e => h1 (e ▸ List.mem_of_getElem? h)
    rw [posOf, if_neg hne, posOf_get h2 h]
    rfl
theorem posOf_none {l : List Int} {i : Int} (h : i ∉ l) : posOf l i = none := by
  cases hp : posOf l i with
  | none => rfl
  | some p => exact absurd (List.mem_of_getElem? (posOf_some hp)) h
/-- the lengths, when the levels with R symbols are through, and j symbols of the next one -/
def lensP (ss : List Int) (R : List Nat) (j nc : Nat) : List Nat := (List.range nc).map fun i : Nat => match posOf ss (i : Int) with
  | some p => bitsOf R p + if p < j then 1 else 0
  | none => 0
theorem lensP_len (ss : List Int) (R : List Nat) (j nc : Nat) : (lensP ss R j nc).length = nc := by simp [lensP]
theorem bitsOf_snoc (R : List Nat) (s p : Nat) : bitsOf (R ++ [s]) p = bitsOf R p + if p < s then 1 else 0 := by
  unfold bitsOf
  rw [List.countP_append, List.countP_cons, List.countP_nil]
  simp
theorem lensP_all (ss : List Int) (R : List Nat) (s nc : Nat) : lensP ss R s nc = lensP ss (R ++ [s]) 0 nc := by
  unfold lensP
  refine List.map_congr_left fun i _ => ?_
  cases posOf ss (i : Int) with
  | none => rfl
  | some p =>
    simp only
    rw [bitsOf_snoc, if_neg (Nat.not_lt_zero p), Nat.add_zero]
theorem lensP_start (ss : List Int) (nc : Nat) : lensP ss [] 0 nc = List.replicate nc 0 := by
  unfold lensP
  refine List.ext_getElem? fun i => ?_
  by_cases h : i < nc
  · rw [List.getElem?_map, List.getElem?_range h, List.getElem?_replicate, if_pos h]
    simp only [Option.map_some]
    cases posOf ss (i : Int) with
    | none => rfl
    | some p => simp [bitsOf]
  · rw [List.getElem?_eq_none (by simp; omega), List.getElem?_eq_none (by simp; omega)]
theorem lensP_get {ss : List Int} {R : List Nat} {j nc x : Nat} (hn : ss.Nodup) (hx : ss[j]? = some (x : Int)) (hl : x < nc) : (lensP ss R j nc)[x]? = some (bitsOf R j) := by
  unfold lensP
  rw [List.getElem?_map, List.getElem?_range hl]
  simp only [Option.map_some]
  rw [posOf_get hn hx]
  simp
theorem lensP_set {ss : List Int} {R : List Nat} {j nc x : Nat} (hn : ss.Nodup) (hx : ss[j]? = some (x : Int)) (hl : x < nc) : (lensP ss R j nc).set x (bitsOf R j + 1) = lensP ss R (j + 1) nc := by
  refine List.ext_getElem? fun i => ?_
  rw [List.getElem?_set, lensP_len]
  by_cases hi : i < nc
  · unfold lensP
    rw [List.getElem?_map, List.getElem?_map, List.getElem?_range hi]
    simp only [Option.map_some]
    by_cases e : x = i
    · subst e
      rw [if_pos rfl, if_pos hi, posOf_get hn hx]
      simp
    · rw [if_neg e]
      cases hp : posOf ss (i : Int) with
      | none => rfl
      | some p =>
        have hpj : p ≠ j := fun h => by
          have h1 := posOf_some hp
          rw [h, hx] at h1
          injection h1 with h1
          omega
        simp only
        by_cases h1 : p < j
        · rw [if_pos h1, if_pos (by omega)]
        · rw [if_neg h1, if_neg (by omega)]
  · rw [List.getElem?_eq_none (by rw [lensP_len]; omega), List.getElem?_eq_none (by rw [lensP_len]; omega)]
    by_cases e : x = i
    · subst e; omega
    · rw [if_neg e]
/-- the symbols that come are each there once -/
theorem picks_nodup (cs : List Int) (n : Nat) : (picks cs n).Nodup := by
  unfold picks
  refine List.Pairwise.map _ ?_ (List.Pairwise.filter _ (List.nodup_range (n := n)))
  intro a b h e
  exact h (Int.ofNat.inj e)
/-- how many levels each symbol is taken on -/
def madeR (ws : List Int) (most : Nat) : List Nat := if ws.length < 2 then [ws.length] else run ws most (2 * ws.length - 2)
end Go.Proofs.YtppgceighgpgoaaGreatDoor.lenp
/-
  huff.Lengths: singles. My own text.
-/
namespace Go.Proofs.YtppgceighgpgoaaGreatDoor.lenp
open Go.RowKit Go.Proofs.YtppgceighgpgoaaGreatDoor.base Go.Proofs.YtppgceighgpgoaaGreatDoor.lennum
set_option linter.unusedVariables false

set_option maxRecDepth 100000 in
set_option maxHeartbeats 16000000 in
theorem singles_any (A : Option Addr) (n c B : Nat) (l : List Itm) (w : World) (h : RdI w B A n l) (hn : n ≤ 1000) (hB : B ≤ w.heap.size) :
    Calls Tryz.prog 47 #[.slice A n c] w fun e w' => e = .returned (.int .i64 (singles l : Nat)) ∧ Fresh w w' := by
  go_enter Tryz.func47, Tryz.ntmps47
  go_wp2
  go_loopw [3, 8] (fun vt vi wr => ∃ (i : Nat), i ≤ n ∧ vi = .int .i64 i ∧ vt = .int .i64 (singles (l.take i) : Nat) ∧ Fresh w wr) (fun _ vi _ => n - (intOf vi).toNat)
  case atStart => exact ⟨0, Nat.zero_le _, rfl, rfl, Fresh.refl _⟩
  case round =>
    obtain ⟨i, hi, rfl, rfl, hfr⟩ := hrel
    by_cases hlt : i < n
    · obtain ⟨x, hx⟩ : ∃ x, l[i]? = some x := ⟨l[i]'(by have := h.1; omega), List.getElem?_eq_getElem (by have := h.1; omega)⟩
      have hr := h.fresh hfr hB
      obtain ⟨b, off, rfl, hb, hcell⟩ := hr.2 (by omega)
      have hc1 := hcell _ _ (icells_get l i x hx).1
      have hc2 := hcell _ _ (icells_get l i x hx).2
      rw [← Nat.add_assoc] at hc2
      rw [Nat.mul_comm 2 i] at hc1 hc2
      have hil : (i : Int) < (n : Int) := by omega
      have hstep : singles (l.take (i + 1)) = singles (l.take i) + if x.2 = true then 0 else 1 := by
        rw [List.take_add_one, hx]
        show singles (l.take i ++ [x]) = _
        unfold singles
        rw [List.countP_append]
        obtain ⟨a, b⟩ := x
        cases b <;> simp
      go_wp2
      · rename_i hx2
        have hx3 : x.2 = false := by cases hh : x.2 <;> simp_all
        rw [hx3] at hstep
        have hle : singles (l.take i) ≤ i := by have := both (l.take i); rw [List.length_take] at this; omega
        refine ⟨⟨i + 1, by omega, rfl, ?_, hfr.trans (Fresh.alloc _ _)⟩, ?_⟩
        · rw [hstep, IntWalk.wrap64_in _ ⟨by omega, by omega⟩]
          rfl
        · show n - ((i : Int) + 1).toNat < n - ((i : Int)).toNat
          omega
      · rename_i hx2
        have hx3 : x.2 = true := by cases hh : x.2 <;> simp_all
        rw [hx3] at hstep
        refine ⟨⟨i + 1, by omega, rfl, ?_, hfr.trans (Fresh.alloc _ _)⟩, ?_⟩
        · rw [hstep]
          rfl
        · show n - ((i : Int) + 1).toNat < n - ((i : Int)).toNat
          omega
    · have hi2 : i = n := by omega
      subst hi2
      go_wp2
      go_ret
      refine ⟨?_, hfr⟩
      rw [List.take_of_length_le (by rw [h.1]; omega)]
      rfl
end Go.Proofs.YtppgceighgpgoaaGreatDoor.lenp
/-
  huff.Lengths, walked. My own text.
-/
namespace Go.Proofs.YtppgceighgpgoaaGreatDoor.lenp
open Go.RowKit Go.Proofs.YtppgceighgpgoaaGreatDoor.base Go.Proofs.YtppgceighgpgoaaGreatDoor.lennum Go.Proofs.YtppgceighgpgoaaGreatDoor.sortp Go.Proofs.YtppgceighgpgoaaGreatDoor.sortnum
set_option linter.unusedVariables false

abbrev lv (l : List Nat) : List Value := l.map fun x : Nat => iv (x : Int)
theorem lv_set (l : List Nat) (i x : Nat) : (lv l).set i (iv (x : Int)) = lv (l.set i x) := by unfold lv; rw [List.map_set]
/-- what Lengths tells -/
def LenIs (cs : List Int) (nc most : Nat) (w : World) (e : Ending) (w' : World) : Prop :=
  ∃ (L : Nat) (ss : List Int), e = .returned (.slice (some ⟨L, 0, none⟩) nc nc) ∧ w.heap.size ≤ L ∧ Bk w' L 3 (lv (lensP ss (madeR (ss.map (key cs)) most) 0 nc)) ∧ Fresh w w' ∧ ss.Perm (picks cs nc) ∧ ss.Pairwise (fun a b => key2 cs a ≤ key2 cs b)
set_option maxRecDepth 100000 in
set_option maxHeartbeats 4000000 in
/-- fewer than two symbols -/
theorem lengths_few (hM : ∀ g n c q B R cs, Merges g n c q B R cs) (C : Option Addr) (nc cc : Nat) (cs : List Int) (B : Nat) (w : World)
    (hC : Rd w B C nc (cs.map iv)) (hnc : nc ≤ 320) (hcc : nc ≤ cc) (hcm : cc ≤ maxLen) (hB : B ≤ w.heap.size) (most P : Nat) (hm1 : 1 ≤ most) (hm2 : most ≤ 15) (hP : 2 ^ most = P) (hfew : (picks cs nc).length < 2) :
    Calls Tryz.prog 30 #[.slice C nc cc, .int .i64 most] w (LenIs cs nc most w) := by
  obtain ⟨i0, hi0, hz0, hz1, hz2⟩ := info_parts intInfo
  have hcom : ∀ wr, Fresh w wr → _ := fun wr (hf : Fresh w wr) => coming_any hM C nc cc cs B wr (hC.keep fun k hk => hf.block k (by omega)) (by omega) hcc hcm (by have := hf.size; omega)
  have hP2 : 2 ≤ P := by rw [← hP]; exact Nat.pow_le_pow_right (n := 2) (i := 1) (by omega) hm1
  have hP3 : P ≤ 32768 := by rw [← hP]; exact Nat.pow_le_pow_right (n := 2) (j := 15) (by omega) hm2
  have hlc : cs.length = nc := by have := hC.1; rwa [List.length_map] at this
  have hPw : wrap64 (2 ^ most) = (P : Int) := by
    rw [← hP]
    rw [IntWalk.wrap64_in]
    · push_cast; rfl
    · have : ((2 : Int) ^ most) = ((2 ^ most : Nat) : Int) := by push_cast; rfl
      rw [this, hP]; omega
  have HCOM := Lib.hid hcom
  have HLC := Lib.hid hlc
  have HFEW := Lib.hid hfew
  have mi1 : (1 : Int) ≤ (most : Int) := by omega
  have mi2 : (most : Int) ≤ 15 := by omega
  have t320 : decide ((nc : Int) > 320) = false := by rw [decide_eq_false_iff_not]; omega
  have t321 : decide (320 < (nc : Int)) = false := by rw [decide_eq_false_iff_not]; omega
  clear hcom hC hcc hcm hP hlc hfew hM
  go_enter Tryz.func30, Tryz.ntmps30
  go_upto_region 1 with (fail)
  go_cut [1] (fun t wx => t = .int .i64 (most : Nat) ∧ Fresh w wx)
  case first =>
    go_wp2
    all_goals go_meet
    all_goals (refine ⟨?_, Fresh.refl _⟩)
    · rfl
    · have h1 : (most : Int) = 1 := by omega
      rw [h1]
  case rest =>
    obtain ⟨rfl, hf0⟩ := hcut
    have HF0 := Lib.hid hf0
    clear hf0
    go_wp2_with (first
      | (go_at_call 45; (refine (HCOM.out _ HF0.out).mono ?_); rintro e w1 ⟨SA, m, sc, ss, rfl, hso, hpm, hsr, hf1⟩; have hml : ss.length = m := (by have := hso.1; rw [List.length_map] at this; omega); have hmm : m < 2 := (by rw [← hml, hpm.length_eq]; exact HFEW.out); have HSO := Lib.hid hso; have HPM := Lib.hid hpm; have HSR := Lib.hid hsr; have HF1 := Lib.hid hf1; have HML := Lib.hid hml; have tp := (show decide ((m : Int) > (P : Int)) = false by rw [decide_eq_false_iff_not]; omega); have tp2 := (show decide ((P : Int) < (m : Int)) = false by rw [decide_eq_false_iff_not]; omega); clear hso hpm hsr hf1 hml; obtain ⟨L, hLd⟩ : ∃ L, w1.heap.size = L := ⟨_, rfl⟩)
      | ((with_reducible refine at_slot_ 33 ?_); refine wpList_make_blk rfl 62 (.tmp 32) (.tmp 32) rfl 3 i0 _ Tryz.underlying62 hi0 hz0 hz1 rfl nc rfl rfl (by rw [hz2]; omega) (by unfold maxLen; omega) L (by omega) ?_; intro w2 hb2 hf2))
    have hb3 : Bk w2 L 3 (lv (lensP ss [] 0 nc)) := by
      rw [lensP_start]; unfold lv; rw [List.map_replicate]; exact hb2
    have hxs : ∀ x ∈ ss, ∃ k : Nat, x = (k : Int) ∧ k < nc := fun x hx => by
      have h := picks_ok (cs := cs) (j := nc) (by have := HLC.out; omega) x (HPM.out.subset hx)
      exact ⟨x.toNat, by have := h.1; omega, by have h1 := h.1; have h2 := h.2; have := HLC.out; omega⟩
    have hnd : ss.Nodup := HPM.out.nodup_iff.2 (picks_nodup cs nc)
    have HXS := Lib.hid hxs
    have HND := Lib.hid hnd
    have HF2 := Lib.hid hf2
    clear hb2 hxs hnd hf2
    go_loopw [39] (fun vi wr => ∃ (i : Nat), vi = .int .i64 i ∧ i ≤ m ∧ Bk wr L 3 (lv (lensP ss [] i nc)) ∧ Hid (Fresh w1 wr)) (fun vi _ => m - (intOf vi).toNat)
    case atStart => exact ⟨0, rfl, Nat.zero_le _, hb3, HF2⟩
    case round =>
      obtain ⟨i, rfl, him, hbk, HFR⟩ := hrel
      by_cases hlt : i < m
      · have hil : (i : Int) < (m : Int) := by omega
        obtain ⟨b, off, x, hSA, hb, hx, hcx⟩ := (HSO.out.rd.keep (w' := wr) fun k hk => HFR.out.block k hk).at_ hlt
        obtain ⟨k, rfl, hk⟩ := HXS.out x (List.mem_of_getElem? hx)
        subst hSA
        have hcl : wr.cell? ⟨L, k, none⟩ = some _ := hbk.cell (i := k) (List.getElem?_eq_getElem (by unfold lv; rw [List.length_map, lensP_len]; exact hk))
        have hfz := hbk.free k
        have hput := hbk.put k (iv 1)
        have e1 : (lv (lensP ss [] i nc)).set k (iv 1) = lv (lensP ss [] (i + 1) nc) := by
          rw [← lensP_set HND.out hx hk]
          exact lv_set _ _ 1
        rw [e1] at hput
        have ki : (k : Int) < (nc : Int) := by omega
        have HPUT := Lib.hid hput
        clear hput e1
        go_wp2
        refine ⟨⟨i + 1, rfl, hlt, HPUT.out, HFR.out.but (by omega) (But.put _ _)⟩, ?_⟩
        show m - ((i : Int) + 1).toNat < m - ((i : Int)).toNat
        omega
      · have hin : i = m := by omega
        subst hin
        go_wp2
        go_ret
        refine ⟨L, ss, rfl, by have := HF0.out.size; have := HF1.out.size; omega, ?_, (HF0.out.trans HF1.out).trans HFR.out, HPM.out, HSR.out⟩
        have e1 : madeR (ss.map (key cs)) most = [i] := by
          unfold madeR
          rw [List.length_map, HML.out, if_pos hmm]
        rw [e1, ← List.nil_append [i], ← lensP_all]
        exact hbk
end Go.Proofs.YtppgceighgpgoaaGreatDoor.lenp
/-
  huff.Lengths of two symbols and more, walked. My own text.
-/
namespace Go.Proofs.YtppgceighgpgoaaGreatDoor.lenp
open Go.RowKit Go.Proofs.YtppgceighgpgoaaGreatDoor.base Go.Proofs.YtppgceighgpgoaaGreatDoor.lennum Go.Proofs.YtppgceighgpgoaaGreatDoor.sortp Go.Proofs.YtppgceighgpgoaaGreatDoor.sortnum
set_option linter.unusedVariables false

theorem behind_true (ws : List Int) : ∀ k, ∀ x ∈ behind ws k, x.2 = true
  | 0 => fun x h => by cases h
  | k + 1 => paired_true _
theorem lev_singles (ws : List Int) (k : Nat) : singles (lev ws k) = ws.length := by
  have h1 := both (lev ws k)
  rw [← lev_is, merged_pairs ws _ (behind_true ws k), merged_len] at h1
  rw [← lev_is]
  omega
theorem singles_le (ws : List Int) (k t : Nat) : singles ((lev ws k).take t) ≤ ws.length ∧ singles ((lev ws k).take t) ≤ t := by
  have h1 := singles_take (lev ws k) t
  rw [lev_singles] at h1
  have h2 := both ((lev ws k).take t)
  rw [List.length_take] at h2
  omega
theorem WSOK {cs ss : List Int} {nc : Nat} (hlc : cs.length = nc) (hcz : ∀ x ∈ cs, x ≤ mostInt) (hp : ss.Perm (picks cs nc)) (hs : ss.Pairwise (fun a b => key2 cs a ≤ key2 cs b)) :
    (∀ s ∈ ss, ok cs s) ∧ Ws (ss.map (key cs)) := by
  have hok : ∀ s ∈ ss, ok cs s := fun s h => picks_ok (by omega) s (hp.subset h)
  refine ⟨hok, List.pairwise_map.2 (hs.imp_of_mem fun ha hb h => key2_key (hok _ ha) (hok _ hb) h), fun a ha => ?_⟩
  obtain ⟨x, hx, rfl⟩ := List.mem_map.1 ha
  have h1 := hp.subset hx
  unfold picks at h1
  obtain ⟨k, hk, rfl⟩ := List.mem_map.1 h1
  have h2 := (List.mem_filter.1 hk).2
  have h3 : 0 < cs.getD k 0 := by simpa using h2
  have e : key cs (Int.ofNat k) = cs.getD k 0 := rfl
  rw [e]
  refine ⟨by omega, ?_⟩
  rw [List.getD_eq_getElem?_getD] at h3 ⊢
  cases hc : cs[k]? with
  | none => rw [hc] at h3; simp at h3
  | some v => exact hcz v (List.mem_of_getElem? hc)
theorem RdI.head {w : World} {B n t : Nat} {A : Option Addr} {l : List Itm} (h : RdI w B A n l) (ht : t ≤ n) : RdI w B A t (l.take t) := by
  refine ⟨by rw [List.length_take, h.1]; omega, fun hn => ?_⟩
  obtain ⟨b, off, rfl, hb, hcell⟩ := h.2 (by omega)
  refine ⟨b, off, rfl, hb, fun j u hu => hcell j u ?_⟩
  rw [← List.take_append_drop t l, icells_append, List.getElem?_append_left (List.getElem?_eq_some_iff.1 hu).1]
  exact hu
set_option maxRecDepth 100000 in
set_option maxHeartbeats 4000000 in
/-- two symbols and more -/
theorem lengths_many (hM : ∀ g n c q B R cs, Merges g n c q B R cs) (C : Option Addr) (nc cc : Nat) (cs : List Int) (B : Nat) (w : World)
    (hC : Rd w B C nc (cs.map iv)) (hnc : nc ≤ 320) (hcc : nc ≤ cc) (hcm : cc ≤ maxLen) (hB : B ≤ w.heap.size) (most P : Nat) (hm1 : 1 ≤ most) (hm2 : most ≤ 15) (hP : 2 ^ most = P) (hmany : 2 ≤ (picks cs nc).length) (hmost : (picks cs nc).length ≤ P) (hcz : ∀ x ∈ cs, x ≤ mostInt) :
    Calls Tryz.prog 30 #[.slice C nc cc, .int .i64 most] w (LenIs cs nc most w) := by
  obtain ⟨i0, hi0, hz0, hz1, hz2⟩ := info_parts intInfo
  have hcom : ∀ wr, Fresh w wr → _ := fun wr (hf : Fresh w wr) => coming_any hM C nc cc cs B wr (hC.keep fun k hk => hf.block k (by omega)) (by omega) hcc hcm (by have := hf.size; omega)
  have hP2 : 2 ≤ P := by rw [← hP]; exact Nat.pow_le_pow_right (n := 2) (i := 1) (by omega) hm1
  have hP3 : P ≤ 32768 := by rw [← hP]; exact Nat.pow_le_pow_right (n := 2) (j := 15) (by omega) hm2
  have hlc : cs.length = nc := by have := hC.1; rwa [List.length_map] at this
  have hPw : wrap64 (2 ^ most) = (P : Int) := by
    rw [← hP]
    rw [IntWalk.wrap64_in]
    · push_cast; rfl
    · have : ((2 : Int) ^ most) = ((2 ^ most : Nat) : Int) := by push_cast; rfl
      rw [this, hP]; omega
  have HCOM := Lib.hid hcom
  have HLC := Lib.hid hlc
  have HMANY := Lib.hid hmany
  have HMOST := Lib.hid hmost
  have HCZ := Lib.hid hcz
  have HPP := Lib.hid hP
  have HC := Lib.hid hC
  have mi1 : (1 : Int) ≤ (most : Int) := by omega
  have mi2 : (most : Int) ≤ 15 := by omega
  have t320 : decide ((nc : Int) > 320) = false := by rw [decide_eq_false_iff_not]; omega
  have t321 : decide (320 < (nc : Int)) = false := by rw [decide_eq_false_iff_not]; omega
  clear hcom hC hcc hcm hP hlc hmany hmost hcz hM
  go_enter Tryz.func30, Tryz.ntmps30
  go_upto_region 1 with (fail)
  go_cut [1] (fun t wx => t = .int .i64 (most : Nat) ∧ Fresh w wx)
  case first =>
    go_wp2
    all_goals go_meet
    all_goals (refine ⟨?_, Fresh.refl _⟩)
    · rfl
    · have h1 : (most : Int) = 1 := by omega
      rw [h1]
  case rest =>
    obtain ⟨rfl, hf0⟩ := hcut
    have HF0 := Lib.hid hf0
    clear hf0
    go_wp2_with (first
      | (go_at_call 45; (refine (HCOM.out _ HF0.out).mono ?_); rintro e w1 ⟨SA, m, sc, ss, rfl, hso, hpm, hsr, hf1⟩; have hml : ss.length = m := (by have := hso.1; rw [List.length_map] at this; omega); have hmm : 2 ≤ m := (by rw [← hml, hpm.length_eq]; exact HMANY.out); have hmP : m ≤ P := (by rw [← hml, hpm.length_eq]; exact HMOST.out); have hm3 : m ≤ 320 := (by rw [← hml, hpm.length_eq]; exact Nat.le_trans (picks_len cs nc) hnc); have hsc := hso.cap; have HSO := Lib.hid hso; have HPM := Lib.hid hpm; have HSR := Lib.hid hsr; have HF1 := Lib.hid hf1; have HML := Lib.hid hml; have tp := (show decide ((m : Int) > (P : Int)) = false by rw [decide_eq_false_iff_not]; omega); have tp2 := (show decide ((P : Int) < (m : Int)) = false by rw [decide_eq_false_iff_not]; omega); have tq : ¬ ((m : Int) < 2) := (by omega); clear hso hpm hsr hf1 hml; obtain ⟨L, hLd⟩ : ∃ L, w1.heap.size = L := ⟨_, rfl⟩)
      | ((with_reducible refine at_slot_ 33 ?_); refine wpList_make_blk rfl 62 (.tmp 32) (.tmp 32) rfl 3 i0 _ Tryz.underlying62 hi0 hz0 hz1 rfl nc rfl rfl (by rw [hz2]; omega) (by unfold maxLen; omega) L (by omega) ?_; intro w2 hb2 hf2; have HB2 := Lib.hid hb2; have HF2 := Lib.hid hf2; clear hb2 hf2)
      | (go_at_call 46; obtain ⟨hok, hws⟩ := WSOK HLC.out HCZ.out HPM.out HSR.out; (refine (levels_any SA m sc ss C nc cc cs w2.heap.size most w2 ((HSO.out.rd.keep fun k hk => HF2.out.block k hk).up HF2.out.size) ((HC.out.keep fun k hk => ((HF0.out.trans HF1.out).trans HF2.out).block k (by omega)).up (by have := HF0.out.size; have := HF1.out.size; have := HF2.out.size; omega)) (by omega) hm1 hm2 (Nat.le_refl _) hok hws).mono ?_); rintro e w3 ⟨vs, rfl, hvl, hone, hf3, hlv⟩; have HOK := Lib.hid hok; have HWS := Lib.hid hws; have HVL := Lib.hid hvl; have HONE := Lib.hid hone; have HF3 := Lib.hid hf3; have HLV := Lib.hid hlv; clear hok hws hvl hone hf3 hlv; obtain ⟨G, hGd⟩ : ∃ G, w3.heap.size = G := ⟨_, rfl⟩)
      | ((with_reducible (refine at_store_ 9 51 ?_)); refine wpList_store_new rfl tLevels (.tmp 9) (.tmp 51) rfl G vs (by rw [← hGd]; rfl) rfl w3 _ tLevels rfl hGd.symm (by have := HVL.out; simp; omega) HONE.out (by rw [levelsInfo, HVL.out]) ?_; intro w4 hb4 hf4 hg4; have HB4 := Lib.hid hb4; have HF4 := Lib.hid hf4; clear hb4 hf4))
    have hb3 : Bk w4 L 3 (lv (lensP ss [] 0 nc)) := by
      rw [lensP_start]; unfold lv; rw [List.map_replicate]; exact (HB2.out.fresh HF3.out).fresh HF4.out
    have hxs : ∀ x ∈ ss, ∃ k : Nat, x = (k : Int) ∧ k < nc := fun x hx => by
      have h := HOK.out x hx
      exact ⟨x.toNat, by have := h.1; omega, by have h1 := h.1; have h2 := h.2; have := HLC.out; omega⟩
    have hnd : ss.Nodup := HPM.out.nodup_iff.2 (picks_nodup cs nc)
    have HXS := Lib.hid hxs
    have HND := Lib.hid hnd
    have hL2 : L < w2.heap.size := HB2.out.inside
    have hL4 : w2.heap.size ≤ w3.heap.size := HF3.out.size
    clear hxs hnd
    obtain ⟨ws, hwsd⟩ : ∃ ws, ss.map (key cs) = ws := ⟨_, rfl⟩
    have hwl : ws.length = m := by rw [← hwsd, List.length_map]; exact HML.out
    have hws : Ws ws := hwsd ▸ HWS.out
    have hlv := HLV.out
    rw [hwsd] at hlv
    have HLW := Lib.hid hlv
    have HWL := Lib.hid hwl
    have HWW := Lib.hid hws
    have HWD := Lib.hid hwsd
    have HTOP := Lib.hid (lev_top ws most hm1 (by rw [HPP.out, hwl]; exact hmP) (by rw [hwl]; exact hmm))
    have e2m : (2 : Int) * (m : Int) - 2 = ((2 * m - 2 : Nat) : Int) := by omega
    rw [e2m]
    clear hlv hwl hws hwsd HLV HWS HML e2m HB2
    go_loopw [10, 59] (fun vt vi wr => ∃ (i t : Nat) (R : List Nat), vi = .int .i64 i ∧ vt = .int .i64 t ∧ i ≤ most ∧ t ≤ 640 ∧ Hid (R ++ run ws (most - i) t = run ws most (2 * m - 2)) ∧ Hid (i < most → t ≤ (lev ws (most - 1 - i)).length) ∧ Bk wr L 3 (lv (lensP ss R 0 nc)) ∧ Hid (But L w4 wr)) (fun _ vi _ => most - (intOf vi).toNat)
    case atStart => exact ⟨0, 2 * m - 2, [], rfl, rfl, Nat.zero_le _, by omega, Lib.hid (by rw [List.nil_append, Nat.sub_zero]), Lib.hid (fun _ => by have := HTOP.out; rw [HWL.out] at this; exact this), hb3, Lib.hid (But.refl _ _)⟩
    case round =>
      rename World => wo
      obtain ⟨i, t, R, rfl, rfl, him, ht, HR, HT, hbk, HBUT⟩ := hrel
      have HBK := Lib.hid hbk
      clear hbk hb3
      by_cases hlt : i < most
      · have hil : (i : Int) < (most : Int) := by omega
        obtain ⟨k, hk⟩ : ∃ k, k + 1 + i = most := ⟨most - 1 - i, by omega⟩
        obtain ⟨A, n, c, hvi, hO⟩ := HLW.out k (by omega)
        rw [show most - 1 - k = i from by omega] at hvi
        have htl : t ≤ (lev ws k).length := by have := HT.out hlt; rwa [show most - 1 - i = k from by omega] at this
        have hO4 := (hO.fresh HF4.out).but HBUT.out hL2
        have hcap := hO.cap
        have htn : t ≤ n := by rw [← hO.len]; exact htl
        have hcg : wo.cell? ⟨G, i, none⟩ = some (.slice A n c) := (HB4.out.old (HBUT.out.block G (by omega) (by intro h; injection h with h; omega))).cell hvi
        have hsl := singles_le ws k t
        rw [HWL.out] at hsl
        obtain ⟨s, hsd⟩ : ∃ s, singles ((lev ws k).take t) = s := ⟨_, rfl⟩
        rw [hsd] at hsl
        have ti : (t : Int) ≤ (c : Int) := by omega
        have si : (s : Int) ≤ (sc : Int) := by omega
        have HO4 := Lib.hid hO4
        have HSD := Lib.hid hsd
        clear hO hO4 hvi hsd
        go_wp2_with (go_at_call 47; (refine (singles_any A t c wo.heap.size ((lev ws k).take t) wo (HO4.out.rd.head htn) (by omega) (Nat.le_refl _)).mono ?_); rw [HSD.out]; rintro e w5 ⟨rfl, hf5⟩; have HF5 := Lib.hid hf5; clear hf5)
        go_loopw [71] (fun vj wr => ∃ (j : Nat), vj = .int .i64 j ∧ j ≤ s ∧ Bk wr L 3 (lv (lensP ss R j nc)) ∧ Hid (But L wo wr)) (fun vj _ => s - (intOf vj).toNat)
        case atStart => exact ⟨0, rfl, Nat.zero_le _, HBK.out.fresh HF5.out, Lib.hid (But.of_fresh HF5.out)⟩
        case round =>
          obtain ⟨j, rfl, hjs, hbq, HBQ⟩ := hrel
          by_cases hlj : j < s
          · have hjl : (j : Int) < (s : Int) := by omega
            obtain ⟨b, off, x, hSA, hb, hx, hcx⟩ := (HSO.out.rd.keep (w' := wr) fun q hq => (((((HF2.out.trans HF3.out).trans HF4.out).but (by omega) HBUT.out).but (by omega) HBQ.out)).block q hq).at_ (k := j) (by omega)
            obtain ⟨y, rfl, hy⟩ := HXS.out x (List.mem_of_getElem? hx)
            subst hSA
            have hcl : wr.cell? ⟨L, y, none⟩ = some (iv (bitsOf R j : Nat)) := hbq.cell (i := y) (by unfold lv; rw [List.getElem?_map, lensP_get HND.out hx hy]; rfl)
            have hfz := hbq.free y
            have hput := hbq.put y (iv ((bitsOf R j + 1 : Nat) : Int))
            rw [lv_set, lensP_set HND.out hx hy] at hput
            have yi : (y : Int) < (nc : Int) := by omega
            have HPUT := Lib.hid hput
            clear hput
            have hbl : bitsOf R j ≤ 15 := by
              have h1 := congrArg List.length HR.out
              rw [List.length_append, run_len, run_len] at h1
              have h2 := bitsOf_le R j
              omega
            go_wp2
            have ew : ((bitsOf R j : Nat) : Int) + 1 = ((bitsOf R j + 1 : Nat) : Int) := rfl
            rw [ew]
            refine ⟨⟨j + 1, rfl, hlj, HPUT.out, Lib.hid (HBQ.out.trans (But.put _ _))⟩, ?_⟩
            show s - ((j : Int) + 1).toNat < s - ((j : Int)).toNat
            omega
          · have hjn : j = s := by omega
            subst hjn
            have hbn := hbq
            rw [lensP_all] at hbn
            have HBN := Lib.hid hbn
            clear hbq hbn
            go_wp2
            have hru : run ws (most - i) t = j :: run ws k (2 * (t - j)) := by
              rw [show most - i = k + 1 from by omega, run, HSD.out]
            have hpr := left_is ws k t htl
            rw [HSD.out] at hpr
            have hpl := pairs_take (lev ws k) t
            rw [← lev_is, merged_pairs ws _ (behind_true ws k), lev_is] at hpl
            have hbs := behind_short ws k
            have hwl2 := HWL.out
            refine ⟨⟨i + 1, 2 * (t - j), R ++ [j], rfl, by congr 1; omega, by omega, by omega, Lib.hid ?_, Lib.hid fun h => ?_, HBN.out, Lib.hid (HBUT.out.trans HBQ.out)⟩, ?_⟩
            · rw [← HR.out, hru, List.append_assoc, show most - (i + 1) = k from by omega]
              rfl
            · obtain ⟨q, rfl⟩ : ∃ q, k = q + 1 := ⟨k - 1, by omega⟩
              rw [hpr, show most - 1 - (i + 1) = q from by omega]
              exact lev_next ws q t
            · show most - ((i : Int) + 1).toNat < most - ((i : Int)).toNat
              omega
      · have hin : i = most := by omega
        subst hin
        go_wp2
        go_ret
        refine ⟨L, ss, rfl, by have := HF0.out.size; have := HF1.out.size; omega, ?_, ((HF0.out.trans HF1.out).trans HF2.out).trans ((HF3.out.trans HF4.out)) |>.but (by have := HF0.out.size; have := HF1.out.size; omega) HBUT.out, HPM.out, HSR.out⟩
        have e1 : madeR (ss.map (key cs)) i = R := by
          unfold madeR
          rw [HWD.out, HWL.out, if_neg (by omega)]
          have := HR.out
          rw [Nat.sub_self] at this
          rw [← this, run, List.append_nil]
        rw [e1]
        exact HBK.out
end Go.Proofs.YtppgceighgpgoaaGreatDoor.lenp
