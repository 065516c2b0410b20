/-
  Layer 13: goOn. My own text.
-/
import Derived.Test.YtkkkjadfhimahaaDoorGlbHas
import Derived.Handy
import Derived.Deep.RegionHeld3
import Derived.Deep.RegionLaw
namespace Go.Proofs.YtkkkjadfhimahaaDoor.glbp
open Go.RowKit Go.Proofs.YtkkkjadfhimahaaDoor.base Go.Proofs.YtkkkjadfhimahaaDoor.nam Go.Proofs.YtkkkjadfhimahaaDoor.glb
set_option linter.unusedVariables false
abbrev tBool : TypeId := 4
/-- a row of truths -/
def rowB (L : Nat) (f : Nat → Bool) : List Value := (List.range L).map fun i => Value.bool (f i)
theorem rowB_len (L : Nat) (f : Nat → Bool) : (rowB L f).length = L := by simp [rowB]
theorem rowB_get {L i : Nat} (f : Nat → Bool) (h : i < L) : (rowB L f)[i]? = some (.bool (f i)) := by simp [rowB, h]
theorem rowB_congr {L : Nat} {f h : Nat → Bool} (e : ∀ i, i < L → f i = h i) : rowB L f = rowB L h := by
  unfold rowB
  refine List.map_congr_left fun i hi => ?_
  rw [e i (List.mem_range.1 hi)]
theorem rowB_set (L j : Nat) (f : Nat → Bool) (b : Bool) : (rowB L f).set j (.bool b) = rowB L fun i => if i = j then b else f i := by
  apply List.ext_getElem?
  intro i
  rw [List.getElem?_set]
  by_cases hi : i < L
  · rw [rowB_get _ hi, rowB_get _ hi, rowB_len]
    by_cases e : j = i
    · subst e; simp [hi]
    · rw [if_neg e, if_neg (fun h => e h.symm)]
  · have h1 : (rowB L f)[i]? = none := List.getElem?_eq_none (by rw [rowB_len]; omega)
    have h2 : (rowB L fun i => if i = j then b else f i)[i]? = none := List.getElem?_eq_none (by rw [rowB_len]; omega)
    rw [h1, h2, rowB_len]
    split
    · rename_i e; subst e; rw [if_neg hi]
    · rfl
theorem as_star_star (v : Value) (W : World) : (Instr.typeAssert (.iface 93 v) 75 93 true).run Tryd.prog W = .ok (.tuple #[v, .bool true]) W := by kernel_rfl
theorem as_all_star (v : Value) (W : World) : (Instr.typeAssert (.iface 92 v) 75 93 true).run Tryd.prog W = .ok (.tuple #[.agg #[], .bool false]) W := by kernel_rfl
theorem as_one_star (v : Value) (W : World) : (Instr.typeAssert (.iface 90 v) 75 93 true).run Tryd.prog W = .ok (.tuple #[.agg #[], .bool false]) W := by kernel_rfl
theorem as_it_star (v : Value) (W : World) : (Instr.typeAssert (.iface 79 v) 75 93 true).run Tryd.prog W = .ok (.tuple #[.agg #[], .bool false]) W := by kernel_rfl
theorem as_cls_star (v : Value) (W : World) : (Instr.typeAssert (.iface 103 v) 75 93 true).run Tryd.prog W = .ok (.tuple #[.agg #[], .bool false]) W := by kernel_rfl
theorem as_star_all (v : Value) (W : World) : (Instr.typeAssert (.iface 93 v) 75 92 true).run Tryd.prog W = .ok (.tuple #[.agg #[], .bool false]) W := by kernel_rfl
theorem as_all_all (v : Value) (W : World) : (Instr.typeAssert (.iface 92 v) 75 92 true).run Tryd.prog W = .ok (.tuple #[v, .bool true]) W := by kernel_rfl
theorem as_one_all (v : Value) (W : World) : (Instr.typeAssert (.iface 90 v) 75 92 true).run Tryd.prog W = .ok (.tuple #[.agg #[], .bool false]) W := by kernel_rfl
theorem as_it_all (v : Value) (W : World) : (Instr.typeAssert (.iface 79 v) 75 92 true).run Tryd.prog W = .ok (.tuple #[.agg #[], .bool false]) W := by kernel_rfl
theorem as_cls_all (v : Value) (W : World) : (Instr.typeAssert (.iface 103 v) 75 92 true).run Tryd.prog W = .ok (.tuple #[.agg #[], .bool false]) W := by kernel_rfl
theorem as_star_it (v : Value) (W : World) : (Instr.typeAssert (.iface 93 v) 75 79 true).run Tryd.prog W = .ok (.tuple #[.int .i32 0, .bool false]) W := by kernel_rfl
theorem as_all_it (v : Value) (W : World) : (Instr.typeAssert (.iface 92 v) 75 79 true).run Tryd.prog W = .ok (.tuple #[.int .i32 0, .bool false]) W := by kernel_rfl
theorem as_one_it (v : Value) (W : World) : (Instr.typeAssert (.iface 90 v) 75 79 true).run Tryd.prog W = .ok (.tuple #[.int .i32 0, .bool false]) W := by kernel_rfl
theorem as_it_it (v : Value) (W : World) : (Instr.typeAssert (.iface 79 v) 75 79 true).run Tryd.prog W = .ok (.tuple #[v, .bool true]) W := by kernel_rfl
theorem as_cls_it (v : Value) (W : World) : (Instr.typeAssert (.iface 103 v) 75 79 true).run Tryd.prog W = .ok (.tuple #[.int .i32 0, .bool false]) W := by kernel_rfl
theorem gst_slot_ {P : Program} {ops : Array Oper} {a : Act} {w : World} {K : Act → World → Prop} {Q : Exit → Act → World → Prop} {E : Prop} {t : TypeId} (d : Nat) {op : Op} {ps : String} {af gd} (h : if Region.wanted (⟨some d, op, t, ps, af, gd⟩ : Oper) (yielded ops a.tmps) = true then Oper.wp P ⟨some d, op, t, ps, af, gd⟩ a w K Q else E) :
    if Region.wanted (⟨some d, op, t, ps, af, gd⟩ : Oper) (yielded ops a.tmps) = true then Oper.wp P ⟨some d, op, t, ps, af, gd⟩ a w K Q else E := h
set_option maxRecDepth 100000
theorem nil_one (v : Value) (n : Nat) (W : World) : (nilAhead (n + 1) 90 v "inquest/glob.has").run Tryd.prog W = .ok (some false) W := by kernel_rfl
theorem meth_one (v : Value) (n : Nat) (W : World) : (method (n + 1) 90 v "inquest/glob.has").run Tryd.prog W = .ok (60, v) W := by kernel_rfl
theorem nil_it (v : Value) (n : Nat) (W : World) : (nilAhead (n + 1) 79 v "inquest/glob.has").run Tryd.prog W = .ok (some false) W := by kernel_rfl
theorem meth_it (v : Value) (n : Nat) (W : World) : (method (n + 1) 79 v "inquest/glob.has").run Tryd.prog W = .ok (59, v) W := by kernel_rfl
theorem nil_cls (v : Value) (n : Nat) (W : World) : (nilAhead (n + 1) 103 v "inquest/glob.has").run Tryd.prog W = .ok (some false) W := by kernel_rfl
theorem meth_cls (v : Value) (n : Nat) (W : World) : (method (n + 1) 103 v "inquest/glob.has").run Tryd.prog W = .ok (63, v) W := by kernel_rfl
theorem nil_star (v : Value) (n : Nat) (W : World) : (nilAhead (n + 1) 93 v "inquest/glob.has").run Tryd.prog W = .ok (some false) W := by kernel_rfl
theorem meth_star (v : Value) (n : Nat) (W : World) : (method (n + 1) 93 v "inquest/glob.has").run Tryd.prog W = .ok (62, v) W := by kernel_rfl
theorem nil_all (v : Value) (n : Nat) (W : World) : (nilAhead (n + 1) 92 v "inquest/glob.has").run Tryd.prog W = .ok (some false) W := by kernel_rfl
theorem meth_all (v : Value) (n : Nat) (W : World) : (method (n + 1) 92 v "inquest/glob.has").run Tryd.prog W = .ok (61, v) W := by kernel_rfl
abbrev GoIs (g m : Nat) (p : Pt) (n : List Nat) (E : Nat → Bool) (w : World) (e : Ending) (w' : World) : Prop :=
  e = .returned (.tuple #[]) ∧ Bk w' g tBool (rowB (m + 1) (stepE p n E)) ∧ But g w w'
/-- one step of a part that takes many -/
theorem many_next (p : Pt) (n : List Nat) (E : Nat → Bool) (m k : Nat) (b : Bool) (hb : b = manyE p n E (k + 1)) : (rowB (m + 1) fun i => if i ≤ k then manyE p n E i else E i).set (k + 1) (.bool b) = rowB (m + 1) fun i => if i ≤ k + 1 then manyE p n E i else E i := by
  rw [rowB_set]
  refine rowB_congr fun i hi => ?_
  by_cases h1 : i = k + 1
  · subst h1; rw [if_pos rfl, if_pos (Nat.le_refl _), hb]
  · rw [if_neg h1]
    by_cases h2 : i ≤ k
    · rw [if_pos h2, if_pos (by omega)]
    · rw [if_neg h2, if_neg (by omega)]
theorem one_next (p : Pt) (n : List Nat) (E : Nat → Bool) (m k : Nat) (b : Bool) (hb : b = oneE p n E (k + 1)) : (rowB (m + 1) fun i => if k + 1 < i then oneE p n E i else E i).set (k + 1) (.bool b) = rowB (m + 1) fun i => if k < i then oneE p n E i else E i := by
  rw [rowB_set]
  refine rowB_congr fun i hi => ?_
  by_cases h1 : i = k + 1
  · subst h1; rw [if_pos rfl, if_pos (by omega), hb]
  · rw [if_neg h1]
    by_cases h2 : k + 1 < i
    · rw [if_pos h2, if_pos (by omega)]
    · rw [if_neg h2, if_neg (by omega)]
set_option maxRecDepth 100000 in
theorem goOn_star (g c m cN B : Nat) (E : Nat → Bool) (N : Option Addr) (n : List Nat) (w : World) (hg : Bk w g tBool (rowB (m + 1) E)) (hN : Rd w B N m (n.map r32)) (hB : B ≤ g) (hm : m ≤ 1000) :
    Calls Tryd.prog 31 #[.slice (some ⟨g, 0, none⟩) (m + 1) c, .iface 93 (.agg #[]), .slice N m cN] w (GoIs g m .star n E w) := by
  have hst : stepE .star n E = manyE .star n E := rfl
  have hgs := hg.inside
  have hn : n.length = m := by have := hN.1; rwa [List.length_map] at this
  have h0 : (rowB (m + 1) fun i => if i ≤ 0 then manyE .star n E i else E i) = rowB (m + 1) E := rowB_congr fun i _ => by
    by_cases h : i ≤ 0
    · obtain rfl : i = 0 := by omega
      rfl
    · rw [if_neg h]
  have H0 := Lib.hid h0
  have HG := Lib.hid hg
  have HN := Lib.hid hN
  have HL := Lib.hid hn
  unfold GoIs
  rw [hst]
  clear h0 hg hN hn hst
  have a1 := as_star_star (.agg #[])
  have a2 := as_star_all (.agg #[])
  go_enter Tryd.func31, Tryd.ntmps31
  go_wp2
  go_loopw [47] (fun v wr => ∃ k : Nat, k ≤ m ∧ v = .int .i64 k ∧ Bk wr g tBool (rowB (m + 1) fun i => if i ≤ k then manyE .star n E i else E i) ∧ But g w wr) (fun v _ => m - (intOf v).toNat)
  case atStart => exact ⟨0, Nat.zero_le _, rfl, by rw [H0.out]; exact HG.out, But.refl _ _⟩
  case round =>
    obtain ⟨k, hk, rfl, hb, hbut⟩ := hrel
    by_cases hlt : k < m
    · obtain ⟨b, off, x, rfl, hbB, hx, hcx⟩ := (HN.out.keep (fun i hi => hbut.block i (by omega) (fun e => by injection e; omega))).at_ hlt
      have k0 := hb.cell (rowB_get _ (show k < m + 1 by omega))
      have k1 := hb.cell (rowB_get _ (show k + 1 < m + 1 by omega))
      have f1 := hb.free (k + 1)
      simp only [if_pos (Nat.le_refl k), if_neg (show ¬ k + 1 ≤ k by omega)] at k0 k1
      have hat : hasAt .star n k = has .star x := by rw [hasAt, hx]
      have hme : manyE .star n E (k + 1) = (E (k + 1) || (manyE .star n E k && has .star x)) := by rw [manyE, hat]
      have hput := fun (W : World) (b : Bool) (hW : Bk W g tBool (rowB (m + 1) fun i => if i ≤ k then manyE .star n E i else E i)) (e : b = manyE .star n E (k + 1)) => show Bk (W.setCell ⟨g, k + 1, none⟩ (.bool b)) g tBool (rowB (m + 1) fun i => if i ≤ k + 1 then manyE .star n E i else E i) by
        have h := hW.put (k + 1) (.bool b)
        rwa [many_next _ _ _ _ _ _ e] at h
      rw [hme] at hput
      obtain ⟨e1, he1⟩ : ∃ e1, E (k + 1) = e1 := ⟨_, rfl⟩
      obtain ⟨e0, he0⟩ : ∃ e0, manyE .star n E k = e0 := ⟨_, rfl⟩
      rw [he1] at k1 hput
      rw [he0] at k0 hput
      have HP := Lib.hid hput
      have HB := Lib.hid hb
      have HU := Lib.hid hbut
      clear hx hme hat hput he1 he0 hb hbut hbB
      cases e1 with
      | true =>
        go_wp2
        go_roundw
        case rel => exact ⟨k + 1, by omega, by go_num, HP.out _ _ HB.out rfl, HU.out.trans (But.put _ _)⟩
        case measure => simp [intOf]; omega
      | false =>
        cases e0 with
        | false =>
          go_wp2
          go_roundw
          case rel => exact ⟨k + 1, by omega, by go_num, HP.out _ _ HB.out rfl, HU.out.trans (But.put _ _)⟩
          case measure => simp [intOf]; omega
        | true =>
          go_wp2_with (go_at_call 62; (refine (has_star x _).mono ?_); rintro e w1 ⟨rfl, hf1⟩; have hb1 := HB.out.fresh hf1; have f2 := hb1.free (k + 1); have k2 := hb1.cell (rowB_get _ (show k + 1 < m + 1 by omega)); have HB1 := Lib.hid hb1; have HF1 := Lib.hid hf1; clear hb1 hf1)
          go_roundw
          case rel => exact ⟨k + 1, by omega, by go_num, HP.out _ _ HB1.out rfl, (HU.out.trans (But.of_fresh HF1.out)).trans (But.put _ _)⟩
          case measure => simp [intOf]; omega
    · obtain rfl : k = m := by omega
      have he : (rowB (k + 1) fun i => if i ≤ k then manyE .star n E i else E i) = rowB (k + 1) (manyE .star n E) := rowB_congr fun i hi => if_pos (by omega)
      rw [he] at hb
      have HB := Lib.hid hb
      clear hb he
      go_wp2
      go_end0
      exact ⟨rfl, HB.out, hbut⟩
set_option maxRecDepth 100000 in
theorem goOn_one (g c m cN B : Nat) (E : Nat → Bool) (N : Option Addr) (n : List Nat) (w : World) (hg : Bk w g tBool (rowB (m + 1) E)) (hN : Rd w B N m (n.map r32)) (hB : B ≤ g) (hm : m ≤ 1000) :
    Calls Tryd.prog 31 #[.slice (some ⟨g, 0, none⟩) (m + 1) c, .iface 90 (.agg #[]), .slice N m cN] w (GoIs g m .one n E w) := by
  have hst : stepE .one n E = oneE .one n E := rfl
  have hgs := hg.inside
  have hn : n.length = m := by have := hN.1; rwa [List.length_map] at this
  have h0 : (rowB (m + 1) fun i => if m < i then oneE .one n E i else E i) = rowB (m + 1) E := rowB_congr fun i hi => if_neg (by omega)
  have H0 := Lib.hid h0
  have HG := Lib.hid hg
  have HN := Lib.hid hN
  have HL := Lib.hid hn
  unfold GoIs
  rw [hst]
  clear h0 hg hN hn hst
  have n1 := nil_one (.agg #[])
  have n2 := meth_one (.agg #[])
  have a1 := as_one_star (.agg #[])
  have a2 := as_one_all (.agg #[])
  go_enter Tryd.func31, Tryd.ntmps31
  go_wp2
  go_loopw [8] (fun v wr => ∃ k : Nat, k ≤ m ∧ v = .int .i64 ((k : Int) - 1) ∧ Bk wr g tBool (rowB (m + 1) fun i => if k < i then oneE .one n E i else E i) ∧ But g w wr) (fun v _ => ((intOf v) + 1).toNat)
  case atStart => exact ⟨m, Nat.le_refl _, by go_num, by rw [H0.out]; exact HG.out, But.refl _ _⟩
  case round =>
    obtain ⟨k, hk, rfl, hb, hbut⟩ := hrel
    cases k with
    | succ k =>
      have hlt : k < m := by omega
      obtain ⟨b, off, x, rfl, hbB, hx, hcx⟩ := (HN.out.keep (fun i hi => hbut.block i (by omega) (fun e => by injection e; omega))).at_ hlt
      have ek : ((k + 1 : Nat) : Int) - 1 = (k : Int) := by omega
      rw [ek]
      have k0 := hb.cell (rowB_get _ (show k < m + 1 by omega))
      have k1 := hb.cell (rowB_get _ (show k + 1 < m + 1 by omega))
      have f1 := hb.free (k + 1)
      simp only [if_neg (show ¬ k + 1 < k by omega)] at k0
      have hat : hasAt .one n k = has .one x := by rw [hasAt, hx]
      have hme : oneE .one n E (k + 1) = (E k && has .one x) := by rw [oneE, hat]
      have hput := fun (W : World) (b : Bool) (hW : Bk W g tBool (rowB (m + 1) fun i => if k + 1 < i then oneE .one n E i else E i)) (e : b = oneE .one n E (k + 1)) => show Bk (W.setCell ⟨g, k + 1, none⟩ (.bool b)) g tBool (rowB (m + 1) fun i => if k < i then oneE .one n E i else E i) by
        have h := hW.put (k + 1) (.bool b)
        rwa [one_next _ _ _ _ _ _ e] at h
      rw [hme] at hput
      obtain ⟨e0, he0⟩ : ∃ e0, E k = e0 := ⟨_, rfl⟩
      rw [he0] at k0 hput
      have HP := Lib.hid hput
      have HB := Lib.hid hb
      have HU := Lib.hid hbut
      have x1 : (k : Int) < (m : Int) + 1 := by omega
      have x2 : (k : Int) + 1 < (m : Int) + 1 := by omega
      have x3 : (k : Int) < (m : Int) := by omega
      have x4 : 0 ≤ (k : Int) + 1 := by omega
      have ew : IntKind.i64.wrap ((k : Int) + 1) = ((k + 1 : Nat) : Int) := by rw [IntWalk.i64_in _ (by omega)]; omega
      clear hx hme hat hput he0 hb hbut hbB
      cases e0 with
      | true =>
        go_wp2
        go_region_law ((with_reducible refine gst_slot_ 33 ?_); go_simp; (refine (has_one x _).mono ?_); rintro e w1 ⟨rfl, hf1⟩; have hb1 := (HB.out.fresh (Fresh.drew _)).fresh hf1; have f2 := hb1.free (k + 1); have k2 := hb1.cell (rowB_get _ (show k + 1 < m + 1 by omega)); have HB1 := Lib.hid hb1; have HF1 := Lib.hid ((Fresh.drew _).trans hf1); clear hb1 hf1)
        all_goals go_wp2
        all_goals exact ⟨⟨k, by omega, by go_num, HP.out _ _ HB1.out rfl, (HU.out.trans (But.of_fresh HF1.out)).trans (But.put _ _)⟩, by simp [intOf]⟩
      | false =>
        go_wp2
        go_region
        go_wp2
        go_roundw
        case rel => exact ⟨k, by omega, by go_num, (HP.out _ _ HB.out rfl).fresh (Fresh.drew _), (HU.out.trans (But.put _ _)).trans (But.of_fresh (Fresh.drew _))⟩
        case measure => simp [intOf]
    | zero =>
      have k0 := hb.cell (rowB_get _ (show 0 < m + 1 by omega))
      have f0 := hb.free 0
      have hp := hb.put 0 (.bool false)
      have he : (rowB (m + 1) fun i => if 0 < i then oneE .one n E i else E i).set 0 (.bool false) = rowB (m + 1) (oneE .one n E) := by
        rw [rowB_set]
        refine rowB_congr fun i hi => ?_
        by_cases h1 : i = 0
        · subst h1; rfl
        · rw [if_neg h1, if_pos (by omega)]
      rw [he] at hp
      have HP := Lib.hid hp
      clear hb hp he
      go_wp2
      go_end0
      exact ⟨rfl, HP.out, hbut.trans (But.put _ _)⟩
set_option maxRecDepth 100000 in
theorem goOn_all (g c m cN B : Nat) (E : Nat → Bool) (N : Option Addr) (n : List Nat) (w : World) (hg : Bk w g tBool (rowB (m + 1) E)) (hN : Rd w B N m (n.map r32)) (hB : B ≤ g) (hm : m ≤ 1000) :
    Calls Tryd.prog 31 #[.slice (some ⟨g, 0, none⟩) (m + 1) c, .iface 92 (.agg #[]), .slice N m cN] w (GoIs g m .all n E w) := by
  have hst : stepE .all n E = manyE .all n E := rfl
  have hgs := hg.inside
  have hn : n.length = m := by have := hN.1; rwa [List.length_map] at this
  have h0 : (rowB (m + 1) fun i => if i ≤ 0 then manyE .all n E i else E i) = rowB (m + 1) E := rowB_congr fun i _ => by
    by_cases h : i ≤ 0
    · obtain rfl : i = 0 := by omega
      rfl
    · rw [if_neg h]
  have H0 := Lib.hid h0
  have HG := Lib.hid hg
  have HN := Lib.hid hN
  have HL := Lib.hid hn
  unfold GoIs
  rw [hst]
  clear h0 hg hN hn hst
  have a1 := as_all_star (.agg #[])
  have a2 := as_all_all (.agg #[])
  go_enter Tryd.func31, Tryd.ntmps31
  go_wp2
  go_loopw [47] (fun v wr => ∃ k : Nat, k ≤ m ∧ v = .int .i64 k ∧ Bk wr g tBool (rowB (m + 1) fun i => if i ≤ k then manyE .all n E i else E i) ∧ But g w wr) (fun v _ => m - (intOf v).toNat)
  case atStart => exact ⟨0, Nat.zero_le _, rfl, by rw [H0.out]; exact HG.out, But.refl _ _⟩
  case round =>
    obtain ⟨k, hk, rfl, hb, hbut⟩ := hrel
    by_cases hlt : k < m
    · obtain ⟨b, off, x, rfl, hbB, hx, hcx⟩ := (HN.out.keep (fun i hi => hbut.block i (by omega) (fun e => by injection e; omega))).at_ hlt
      have k0 := hb.cell (rowB_get _ (show k < m + 1 by omega))
      have k1 := hb.cell (rowB_get _ (show k + 1 < m + 1 by omega))
      have f1 := hb.free (k + 1)
      simp only [if_pos (Nat.le_refl k), if_neg (show ¬ k + 1 ≤ k by omega)] at k0 k1
      have hat : hasAt .all n k = has .all x := by rw [hasAt, hx]
      have hme : manyE .all n E (k + 1) = (E (k + 1) || (manyE .all n E k && has .all x)) := by rw [manyE, hat]
      have hput := fun (W : World) (b : Bool) (hW : Bk W g tBool (rowB (m + 1) fun i => if i ≤ k then manyE .all n E i else E i)) (e : b = manyE .all n E (k + 1)) => show Bk (W.setCell ⟨g, k + 1, none⟩ (.bool b)) g tBool (rowB (m + 1) fun i => if i ≤ k + 1 then manyE .all n E i else E i) by
        have h := hW.put (k + 1) (.bool b)
        rwa [many_next _ _ _ _ _ _ e] at h
      rw [hme] at hput
      obtain ⟨e1, he1⟩ : ∃ e1, E (k + 1) = e1 := ⟨_, rfl⟩
      obtain ⟨e0, he0⟩ : ∃ e0, manyE .all n E k = e0 := ⟨_, rfl⟩
      rw [he1] at k1 hput
      rw [he0] at k0 hput
      have HP := Lib.hid hput
      have HB := Lib.hid hb
      have HU := Lib.hid hbut
      clear hx hme hat hput he1 he0 hb hbut hbB
      cases e1 with
      | true =>
        go_wp2
        go_roundw
        case rel => exact ⟨k + 1, by omega, by go_num, HP.out _ _ HB.out rfl, HU.out.trans (But.put _ _)⟩
        case measure => simp [intOf]; omega
      | false =>
        cases e0 with
        | false =>
          go_wp2
          go_roundw
          case rel => exact ⟨k + 1, by omega, by go_num, HP.out _ _ HB.out rfl, HU.out.trans (But.put _ _)⟩
          case measure => simp [intOf]; omega
        | true =>
          go_wp2_with (go_at_call 61; (refine (has_all x _).mono ?_); rintro e w1 ⟨rfl, hf1⟩; have hb1 := HB.out.fresh hf1; have f2 := hb1.free (k + 1); have k2 := hb1.cell (rowB_get _ (show k + 1 < m + 1 by omega)); have HB1 := Lib.hid hb1; have HF1 := Lib.hid hf1; clear hb1 hf1)
          go_roundw
          case rel => exact ⟨k + 1, by omega, by go_num, HP.out _ _ HB1.out rfl, (HU.out.trans (But.of_fresh HF1.out)).trans (But.put _ _)⟩
          case measure => simp [intOf]; omega
    · obtain rfl : k = m := by omega
      have he : (rowB (k + 1) fun i => if i ≤ k then manyE .all n E i else E i) = rowB (k + 1) (manyE .all n E) := rowB_congr fun i hi => if_pos (by omega)
      rw [he] at hb
      have HB := Lib.hid hb
      clear hb he
      go_wp2
      go_end0
      exact ⟨rfl, HB.out, hbut⟩
set_option maxRecDepth 100000 in
theorem goOn_it (g c m cN B q : Nat) (E : Nat → Bool) (N : Option Addr) (n : List Nat) (w : World) (hg : Bk w g tBool (rowB (m + 1) E)) (hN : Rd w B N m (n.map r32)) (hB : B ≤ g) (hm : m ≤ 1000) :
    Calls Tryd.prog 31 #[.slice (some ⟨g, 0, none⟩) (m + 1) c, .iface 79 (r32 q), .slice N m cN] w (GoIs g m (.it q) n E w) := by
  have hst : stepE (.it q) n E = oneE (.it q) n E := rfl
  have hgs := hg.inside
  have hn : n.length = m := by have := hN.1; rwa [List.length_map] at this
  have h0 : (rowB (m + 1) fun i => if m < i then oneE (.it q) n E i else E i) = rowB (m + 1) E := rowB_congr fun i hi => if_neg (by omega)
  have H0 := Lib.hid h0
  have HG := Lib.hid hg
  have HN := Lib.hid hN
  have HL := Lib.hid hn
  unfold GoIs
  rw [hst]
  clear h0 hg hN hn hst
  have n1 := nil_it (r32 q)
  have n2 := meth_it (r32 q)
  have a1 := as_it_star (r32 q)
  have a2 := as_it_all (r32 q)
  go_enter Tryd.func31, Tryd.ntmps31
  go_wp2
  go_loopw [8] (fun v wr => ∃ k : Nat, k ≤ m ∧ v = .int .i64 ((k : Int) - 1) ∧ Bk wr g tBool (rowB (m + 1) fun i => if k < i then oneE (.it q) n E i else E i) ∧ But g w wr) (fun v _ => ((intOf v) + 1).toNat)
  case atStart => exact ⟨m, Nat.le_refl _, by go_num, by rw [H0.out]; exact HG.out, But.refl _ _⟩
  case round =>
    obtain ⟨k, hk, rfl, hb, hbut⟩ := hrel
    cases k with
    | succ k =>
      have hlt : k < m := by omega
      obtain ⟨b, off, x, rfl, hbB, hx, hcx⟩ := (HN.out.keep (fun i hi => hbut.block i (by omega) (fun e => by injection e; omega))).at_ hlt
      have ek : ((k + 1 : Nat) : Int) - 1 = (k : Int) := by omega
      rw [ek]
      have k0 := hb.cell (rowB_get _ (show k < m + 1 by omega))
      have k1 := hb.cell (rowB_get _ (show k + 1 < m + 1 by omega))
      have f1 := hb.free (k + 1)
      simp only [if_neg (show ¬ k + 1 < k by omega)] at k0
      have hat : hasAt (.it q) n k = has (.it q) x := by rw [hasAt, hx]
      have hme : oneE (.it q) n E (k + 1) = (E k && has (.it q) x) := by rw [oneE, hat]
      have hput := fun (W : World) (b : Bool) (hW : Bk W g tBool (rowB (m + 1) fun i => if k + 1 < i then oneE (.it q) n E i else E i)) (e : b = oneE (.it q) n E (k + 1)) => show Bk (W.setCell ⟨g, k + 1, none⟩ (.bool b)) g tBool (rowB (m + 1) fun i => if k < i then oneE (.it q) n E i else E i) by
        have h := hW.put (k + 1) (.bool b)
        rwa [one_next _ _ _ _ _ _ e] at h
      rw [hme] at hput
      obtain ⟨e0, he0⟩ : ∃ e0, E k = e0 := ⟨_, rfl⟩
      rw [he0] at k0 hput
      have HP := Lib.hid hput
      have HB := Lib.hid hb
      have HU := Lib.hid hbut
      have x1 : (k : Int) < (m : Int) + 1 := by omega
      have x2 : (k : Int) + 1 < (m : Int) + 1 := by omega
      have x3 : (k : Int) < (m : Int) := by omega
      have x4 : 0 ≤ (k : Int) + 1 := by omega
      have ew : IntKind.i64.wrap ((k : Int) + 1) = ((k + 1 : Nat) : Int) := by rw [IntWalk.i64_in _ (by omega)]; omega
      clear hx hme hat hput he0 hb hbut hbB
      cases e0 with
      | true =>
        go_wp2
        go_region_law ((with_reducible refine gst_slot_ 33 ?_); go_simp; (refine (has_it q x _).mono ?_); rintro e w1 ⟨rfl, hf1⟩; have hb1 := (HB.out.fresh (Fresh.drew _)).fresh hf1; have f2 := hb1.free (k + 1); have k2 := hb1.cell (rowB_get _ (show k + 1 < m + 1 by omega)); have HB1 := Lib.hid hb1; have HF1 := Lib.hid ((Fresh.drew _).trans hf1); clear hb1 hf1)
        all_goals go_wp2
        all_goals exact ⟨⟨k, by omega, by go_num, HP.out _ _ HB1.out rfl, (HU.out.trans (But.of_fresh HF1.out)).trans (But.put _ _)⟩, by simp [intOf]⟩
      | false =>
        go_wp2
        go_region
        go_wp2
        go_roundw
        case rel => exact ⟨k, by omega, by go_num, (HP.out _ _ HB.out rfl).fresh (Fresh.drew _), (HU.out.trans (But.put _ _)).trans (But.of_fresh (Fresh.drew _))⟩
        case measure => simp [intOf]
    | zero =>
      have k0 := hb.cell (rowB_get _ (show 0 < m + 1 by omega))
      have f0 := hb.free 0
      have hp := hb.put 0 (.bool false)
      have he : (rowB (m + 1) fun i => if 0 < i then oneE (.it q) n E i else E i).set 0 (.bool false) = rowB (m + 1) (oneE (.it q) n E) := by
        rw [rowB_set]
        refine rowB_congr fun i hi => ?_
        by_cases h1 : i = 0
        · subst h1; rfl
        · rw [if_neg h1, if_pos (by omega)]
      rw [he] at hp
      have HP := Lib.hid hp
      clear hb hp he
      go_wp2
      go_end0
      exact ⟨rfl, HP.out, hbut.trans (But.put _ _)⟩
set_option maxRecDepth 100000 in
theorem goOn_cls (g c m cN B ls cs : Nat) (nt : Bool) (AS : Option Addr) (sp : List (Nat × Nat)) (E : Nat → Bool) (N : Option Addr) (n : List Nat) (w : World) (hg : Bk w g tBool (rowB (m + 1) E)) (hN : Rd w B N m (n.map r32)) (hB : B ≤ g) (hm : m ≤ 1000) (hls : sp.length = ls) (hrs : RdT w tSpan AS (sp.flatMap spv)) (hms : ls ≤ maxLen) :
    Calls Tryd.prog 31 #[.slice (some ⟨g, 0, none⟩) (m + 1) c, .iface 103 (.agg #[.bool nt, .slice AS ls cs]), .slice N m cN] w (GoIs g m (.cls nt sp) n E w) := by
  have hst : stepE (.cls nt sp) n E = oneE (.cls nt sp) n E := rfl
  have hgs := hg.inside
  have hn : n.length = m := by have := hN.1; rwa [List.length_map] at this
  have h0 : (rowB (m + 1) fun i => if m < i then oneE (.cls nt sp) n E i else E i) = rowB (m + 1) E := rowB_congr fun i hi => if_neg (by omega)
  have H0 := Lib.hid h0
  have HG := Lib.hid hg
  have HN := Lib.hid hN
  have HL := Lib.hid hn
  have HRS := Lib.hid hrs
  have HLS := Lib.hid hls
  have HMS := Lib.hid hms
  clear hrs hls hms
  unfold GoIs
  rw [hst]
  clear h0 hg hN hn hst
  have n1 := nil_cls (.agg #[.bool nt, .slice AS ls cs])
  have n2 := meth_cls (.agg #[.bool nt, .slice AS ls cs])
  have a1 := as_cls_star (.agg #[.bool nt, .slice AS ls cs])
  have a2 := as_cls_all (.agg #[.bool nt, .slice AS ls cs])
  go_enter Tryd.func31, Tryd.ntmps31
  go_wp2
  go_loopw [8] (fun v wr => ∃ k : Nat, k ≤ m ∧ v = .int .i64 ((k : Int) - 1) ∧ Bk wr g tBool (rowB (m + 1) fun i => if k < i then oneE (.cls nt sp) n E i else E i) ∧ But g w wr) (fun v _ => ((intOf v) + 1).toNat)
  case atStart => exact ⟨m, Nat.le_refl _, by go_num, by rw [H0.out]; exact HG.out, But.refl _ _⟩
  case round =>
    obtain ⟨k, hk, rfl, hb, hbut⟩ := hrel
    cases k with
    | succ k =>
      have hlt : k < m := by omega
      obtain ⟨b, off, x, rfl, hbB, hx, hcx⟩ := (HN.out.keep (fun i hi => hbut.block i (by omega) (fun e => by injection e; omega))).at_ hlt
      have ek : ((k + 1 : Nat) : Int) - 1 = (k : Int) := by omega
      rw [ek]
      have k0 := hb.cell (rowB_get _ (show k < m + 1 by omega))
      have k1 := hb.cell (rowB_get _ (show k + 1 < m + 1 by omega))
      have f1 := hb.free (k + 1)
      simp only [if_neg (show ¬ k + 1 < k by omega)] at k0
      have hat : hasAt (.cls nt sp) n k = has (.cls nt sp) x := by rw [hasAt, hx]
      have hme : oneE (.cls nt sp) n E (k + 1) = (E k && has (.cls nt sp) x) := by rw [oneE, hat]
      have hput := fun (W : World) (b : Bool) (hW : Bk W g tBool (rowB (m + 1) fun i => if k + 1 < i then oneE (.cls nt sp) n E i else E i)) (e : b = oneE (.cls nt sp) n E (k + 1)) => show Bk (W.setCell ⟨g, k + 1, none⟩ (.bool b)) g tBool (rowB (m + 1) fun i => if k < i then oneE (.cls nt sp) n E i else E i) by
        have h := hW.put (k + 1) (.bool b)
        rwa [one_next _ _ _ _ _ _ e] at h
      rw [hme] at hput
      obtain ⟨e0, he0⟩ : ∃ e0, E k = e0 := ⟨_, rfl⟩
      rw [he0] at k0 hput
      have HP := Lib.hid hput
      have HB := Lib.hid hb
      have HU := Lib.hid hbut
      have x1 : (k : Int) < (m : Int) + 1 := by omega
      have x2 : (k : Int) + 1 < (m : Int) + 1 := by omega
      have x3 : (k : Int) < (m : Int) := by omega
      have x4 : 0 ≤ (k : Int) + 1 := by omega
      have ew : IntKind.i64.wrap ((k : Int) + 1) = ((k + 1 : Nat) : Int) := by rw [IntWalk.i64_in _ (by omega)]; omega
      clear hx hme hat hput he0 hb hbut hbB
      cases e0 with
      | true =>
        go_wp2
        go_region_law ((with_reducible refine gst_slot_ 33 ?_); go_simp; (refine (has_cls nt AS ls cs x sp HLS.out _ ((HRS.out.keep (KeepT.but HU.out HG.out (by decide))).fresh (Fresh.drew _)) HMS.out).mono ?_); rintro e w1 ⟨rfl, hf1⟩; have hb1 := (HB.out.fresh (Fresh.drew _)).fresh hf1; have f2 := hb1.free (k + 1); have k2 := hb1.cell (rowB_get _ (show k + 1 < m + 1 by omega)); have HB1 := Lib.hid hb1; have HF1 := Lib.hid ((Fresh.drew _).trans hf1); clear hb1 hf1)
        all_goals go_wp2
        all_goals exact ⟨⟨k, by omega, by go_num, HP.out _ _ HB1.out rfl, (HU.out.trans (But.of_fresh HF1.out)).trans (But.put _ _)⟩, by simp [intOf]⟩
      | false =>
        go_wp2
        go_region
        go_wp2
        go_roundw
        case rel => exact ⟨k, by omega, by go_num, (HP.out _ _ HB.out rfl).fresh (Fresh.drew _), (HU.out.trans (But.put _ _)).trans (But.of_fresh (Fresh.drew _))⟩
        case measure => simp [intOf]
    | zero =>
      have k0 := hb.cell (rowB_get _ (show 0 < m + 1 by omega))
      have f0 := hb.free 0
      have hp := hb.put 0 (.bool false)
      have he : (rowB (m + 1) fun i => if 0 < i then oneE (.cls nt sp) n E i else E i).set 0 (.bool false) = rowB (m + 1) (oneE (.cls nt sp) n E) := by
        rw [rowB_set]
        refine rowB_congr fun i hi => ?_
        by_cases h1 : i = 0
        · subst h1; rfl
        · rw [if_neg h1, if_pos (by omega)]
      rw [he] at hp
      have HP := Lib.hid hp
      clear hb hp he
      go_wp2
      go_end0
      exact ⟨rfl, HP.out, hbut.trans (But.put _ _)⟩
/-- goOn, whatever the part -/
theorem goOn_any (g c m cN B : Nat) (E : Nat → Bool) (p : Pt) (v : Value) (N : Option Addr) (n : List Nat) (w : World) (hg : Bk w g tBool (rowB (m + 1) E)) (hv : PtV w v p) (hN : Rd w B N m (n.map r32)) (hB : B ≤ g) (hm : m ≤ 1000) :
    Calls Tryd.prog 31 #[.slice (some ⟨g, 0, none⟩) (m + 1) c, v, .slice N m cN] w (GoIs g m p n E w) := by
  cases p with
  | it q => rw [show v = _ from hv]; exact goOn_it g c m cN B q E N n w hg hN hB hm
  | one => rw [show v = _ from hv]; exact goOn_one g c m cN B E N n w hg hN hB hm
  | star => rw [show v = _ from hv]; exact goOn_star g c m cN B E N n w hg hN hB hm
  | all => rw [show v = _ from hv]; exact goOn_all g c m cN B E N n w hg hN hB hm
  | cls nt sp =>
    obtain ⟨A, cc, rfl, h2, h3, h4⟩ := hv
    exact goOn_cls g c m cN B sp.length cc nt A sp E N n w hg hN hB hm rfl h4 (Nat.le_trans h2 h3)
end Go.Proofs.YtkkkjadfhimahaaDoor.glbp
