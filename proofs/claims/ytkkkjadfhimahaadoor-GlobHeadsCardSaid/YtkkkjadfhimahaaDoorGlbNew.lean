/-
  Layer 13: partOf, partsOf, New. My own text.
-/
import Derived.Test.YtkkkjadfhimahaaDoorGlbCls
import Derived.Test.YtkkkjadfhimahaaDoorGlbMt
import Derived.Test.YtkkkjadfhimahaaDoorNamVal
namespace Go.Proofs.YtkkkjadfhimahaaDoor.glbp
open Go.RowKit Go.Proofs.YtkkkjadfhimahaaDoor.base Go.Proofs.YtkkkjadfhimahaaDoor.nam Go.Proofs.YtkkkjadfhimahaaDoor.namp Go.Proofs.YtkkkjadfhimahaaDoor.glb
set_option linter.unusedVariables false
theorem prtIs_form {r : Option (Pt × Nat)} {w : World} {e : Ending} {w' : World} (h : PrtIs r w e w') : ∃ v k, e = .returned (.tuple #[v, .int .i64 k]) := by
  cases r with
  | none => obtain ⟨v, rfl, _⟩ := h; exact ⟨_, _, rfl⟩
  | some q => obtain ⟨v, rfl, _⟩ := h; exact ⟨_, _, rfl⟩
set_option maxRecDepth 100000 in
theorem partOf_any (A : Option Addr) (n c B : Nat) (l : List Nat) (w : World) (hr : Rd w B A n (rr l)) (hB : B ≤ w.heap.size) (hc : n ≤ c) (hm : n ≤ 1000) (h0 : 0 < n) :
    Calls Tryd.prog 30 #[.slice A n c] w (PrtIs (prt l) w) := by
  have hl : l.length = n := by have := hr.1; rwa [List.length_map] at this
  cases l with
  | nil => exfalso; simp at hl; omega
  | cons a l =>
    obtain ⟨b, off, x, hA, hb, hx, hcx⟩ := hr.at_ h0
    simp at hx
    subst hx
    rw [Nat.add_zero] at hcx
    have t0 : (0 : Int) < (n : Int) := by omega
    have HR := Lib.hid hr
    by_cases h63 : a = 63
    · subst h63
      have hp : prt (63 :: l) = some (.one, 1) := rfl
      have HP := Lib.hid (prtIs_some (w := w) (w' := w) (v := .iface 90 (.agg #[])) hp rfl (Fresh.refl _))
      subst hA
      clear hr hl hp hB hc
      go_enter Tryd.func30, Tryd.ntmps30
      go_wp2
      go_ret2
      exact HP.out
    by_cases h42 : a = 42
    · subst h42
      have hcl := hl
      simp at hcl
      cases hbg : beg l 42 with
      | true =>
        have hp : prt (42 :: l) = some (.all, 2) := by rw [prt, if_neg (by decide), if_pos rfl, if_pos hbg]
        have HP := Lib.hid (prtIs_some (w := w) (w' := w) (v := .iface 92 (.agg #[])) hp rfl (Fresh.refl _))
        have HBG := Lib.hid hbg
        subst hA
        clear hr hl hp hB hbg hcl
        go_enter Tryd.func30, Tryd.ntmps30
        go_wp2_with (first
          | ((with_reducible refine at_slot_ 16 ?_); refine wpList_cut (by rfl) tRow 21 (.tmp 15) (.const (.int .i64 1)) rfl Tryd.underlying61 runeSize _ n c 1 B (rr (42 :: l)) rfl rfl HR.out h0 hc ?_; intro D hD; have hbg := begins_any D (n - 1) (c - 1) B l 42 42 rfl _ hD; rw [HBG.out] at hbg; have HBD := Lib.hid hbg; clear hD hbg)
          | (go_at_call 35; (with_reducible refine HBD.out.mono ?_); rintro e w1 ⟨rfl, hw1⟩; replace hw1 := hw1.symm; subst hw1))
        go_ret2
        exact HP.out
      | false =>
        have hp : prt (42 :: l) = some (.star, 1) := by rw [prt, if_neg (by decide), if_pos rfl, if_neg (by rw [hbg]; decide)]
        have HP := Lib.hid (prtIs_some (w := w) (w' := w) (v := .iface 93 (.agg #[])) hp rfl (Fresh.refl _))
        have HBG := Lib.hid hbg
        subst hA
        clear hr hl hp hB hbg hcl
        go_enter Tryd.func30, Tryd.ntmps30
        go_wp2_with (first
          | ((with_reducible refine at_slot_ 16 ?_); refine wpList_cut (by rfl) tRow 21 (.tmp 15) (.const (.int .i64 1)) rfl Tryd.underlying61 runeSize _ n c 1 B (rr (42 :: l)) rfl rfl HR.out h0 hc ?_; intro D hD; have hbg := begins_any D (n - 1) (c - 1) B l 42 42 rfl _ hD; rw [HBG.out] at hbg; have HBD := Lib.hid hbg; clear hD hbg)
          | (go_at_call 35; (with_reducible refine HBD.out.mono ?_); rintro e w1 ⟨rfl, hw1⟩; replace hw1 := hw1.symm; subst hw1))
        go_ret2
        exact HP.out
    have t1 : ((a : Int) == 63) = false := by rw [beq_eq_false_iff_ne]; omega
    have t2 : ((a : Int) == 42) = false := by rw [beq_eq_false_iff_ne]; omega
    by_cases h91 : a = 91
    · subst h91
      have hp : prt (91 :: l) = clsP (91 :: l) := rfl
      have hco := classOf_any A n c B (91 :: l) w hr hB hc hm h0
      rw [hp]
      have HCO := Lib.hid hco
      subst hA
      clear hr hl hp hB hco
      go_enter Tryd.func30, Tryd.ntmps30
      go_wp2_with (go_at_call 36; (with_reducible refine HCO.out.mono ?_); intro e w1 hprt; obtain ⟨v, k, rfl⟩ := prtIs_form hprt)
      go_ret2
      exact hprt
    · have t3 : ((a : Int) == 91) = false := by rw [beq_eq_false_iff_ne]; omega
      have hp : prt (a :: l) = (runeP (a :: l)).map fun q => (.it q.1, q.2) := by rw [prt, if_neg h63, if_neg h42, if_neg h91]
      have hru := runeOf_any A n c B (a :: l) w hr
      cases hrp : runeP (a :: l) with
      | none =>
        have e2 : runeV (a :: l) = .tuple #[.int .i32 0, .int .i64 0] := by rw [runeV, hrp]
        rw [e2] at hru
        have HRU := Lib.hid hru
        have HP := Lib.hid (prtIs_none (w := w) (w' := w) (v := .iface 79 (.int .i32 0)) (show prt (a :: l) = none by rw [hp, hrp]; rfl) (Fresh.refl _))
        subst hA
        clear hr hl hp hB hru hrp e2
        go_enter Tryd.func30, Tryd.ntmps30
        go_wp2_with (go_at_call 37; (with_reducible refine HRU.out.mono ?_); rintro e w1 ⟨rfl, hw1⟩; replace hw1 := hw1.symm; subst hw1)
        go_ret2
        exact HP.out
      | some q =>
        obtain ⟨r, k⟩ := q
        have e2 : runeV (a :: l) = .tuple #[r32 r, .int .i64 (k : Nat)] := by rw [runeV, hrp]
        rw [e2] at hru
        have HRU := Lib.hid hru
        have HP := Lib.hid (prtIs_some (w := w) (w' := w) (v := .iface 79 (r32 r)) (show prt (a :: l) = some (.it r, k) by rw [hp, hrp]; rfl) rfl (Fresh.refl _))
        subst hA
        clear hr hl hp hB hru hrp e2
        go_enter Tryd.func30, Tryd.ntmps30
        go_wp2_with (go_at_call 37; (with_reducible refine HRU.out.mono ?_); rintro e w1 ⟨rfl, hw1⟩; replace hw1 := hw1.symm; subst hw1)
        go_ret2
        exact HP.out
theorem PtV.one {w : World} {v : Value} {p : Pt} (h : PtV w v p) : v.oneCell' = true := by
  cases p with
  | cls nt sp => obtain ⟨A, c, rfl, _⟩ := h; rfl
  | _ => rw [show v = _ from h]; rfl
theorem PtV.form {w : World} {v : Value} {p : Pt} (h : PtV w v p) : ∃ T x, v = .iface T x := by
  cases p with
  | cls nt sp => obtain ⟨A, c, rfl, _⟩ := h; exact ⟨_, _, rfl⟩
  | _ => exact ⟨_, _, show v = _ from h⟩
theorem partInfo : (Tryd.prog.info? tPart).map (fun i => (i.zero, i.size, i.bytes)) = some (some .nilIface, 1, 16) := by kernel_rfl
/-- parts in a row that is the call's own -/
def Row13 (w : World) (base : Nat) (A : Option Addr) (k c : Nat) (ps : List Pt) : Prop :=
  ∃ vs : List Value, Own w base tPart A k c vs ∧ vs.length = k ∧ ps.length = k ∧ ∀ (j : Nat) (v : Value) (p : Pt), vs[j]? = some v → ps[j]? = some p → PtV w v p
theorem Row13.fresh {w w' : World} {base k c : Nat} {A : Option Addr} {ps : List Pt} (h : Row13 w base A k c ps) (hf : Fresh w w') : Row13 w' base A k c ps := by
  obtain ⟨vs, h1, h2, h3, h4⟩ := h
  exact ⟨vs, h1.fresh hf, h2, h3, fun j v p hv hp => (h4 j v p hv hp).keep (KeepT.fresh hf)⟩
theorem Row13.pts {w : World} {base k c : Nat} {A : Option Addr} {ps : List Pt} (h : Row13 w base A k c ps) : Pts w A k ps := by
  obtain ⟨vs, h1, h2, h3, h4⟩ := h
  exact ⟨vs, h2, h3, RdT.of_own1 h1, h4⟩
theorem Row13.cap {w : World} {base k c : Nat} {A : Option Addr} {ps : List Pt} (h : Row13 w base A k c ps) : k ≤ c ∧ c ≤ maxLen := by
  obtain ⟨vs, h1, _⟩ := h
  exact h1.cap
theorem Row13.nil (w : World) (base : Nat) : Row13 w base none 0 0 [] := ⟨[], Own.nil _ _ _, rfl, rfl, fun j v p hv => by simp at hv⟩
/-- 'append(parts, p)' -/
theorem wpList_append_part (w : World) {ops : Array Oper} {rest : List Oper} {o : Oper} {a : Act} {Q : Exit → Act → World → Prop} (hgd : o.guard = none) (s x : Operand)
    (ho : o.op = .call { callee := .builtin .append, args := #[s, x], argTypes := #[49, 49] })
    (base : Nat) (A : Option Addr) (k c : Nat) (ps : List Pt) (hs : a.eval s = .slice A k c) (hrow : Row13 w base A k c ps)
    (g : Nat) (v : Value) (p : Pt) (hx : a.eval x = .slice (some ⟨g, 0, none⟩) 1 1) (hg : Bk w g tPart [v]) (hv : PtV w v p) (hk : k ≤ 4294967296) (hbase : base ≤ w.heap.size)
    (h : ∀ A' c' w', Row13 w' base A' (k + 1) c' (ps ++ [p]) → (∀ q, Fresh q w → q.heap.size ≤ base → Fresh q w') → Below base w w' → wpList Tryd.prog ops Q rest (a.put o.dst (.slice A' (k + 1) c')) w') : wpList Tryd.prog ops Q (o :: rest) a w := by
  obtain ⟨i0, hi0, hz0, hz1, hz2⟩ := info_parts partInfo
  obtain ⟨vs, h1, h2, h3, h4⟩ := hrow
  have hrd : Rd w (g + 1) (some ⟨g, 0, none⟩) 1 [v] := ⟨rfl, fun _ => ⟨g, 0, rfl, by omega, fun j u hu => by rw [Nat.zero_add]; exact hg.cell hu⟩⟩
  refine wpList_append_rd w hgd s x 49 ho base tPart i0 _ 16 Tryd.underlying49 hi0 hz0 hz1 hz2 rfl A k c vs hs h1 (g + 1) (some ⟨g, 0, none⟩) 1 1 [v] hx hrd (fun u hu => by rw [List.mem_singleton] at hu; subst hu; exact hv.one) (by unfold maxLen; omega) (by omega) hbase ?_
  intro A' c' w' ho' hg'
  have hkt : KeepT tSpan w w' := KeepT.own1 hg' h1 (by decide)
  refine h A' c' w' ⟨vs ++ [v], ho', by rw [List.length_append, h2]; rfl, by rw [List.length_append, h3]; rfl, fun j u q hu hq => ?_⟩ (fun q hq hb => Fresh.append hq h1 hb hg') (below_of_grown hg' hbase (Own.row h1))
  by_cases hj : j < k
  · rw [List.getElem?_append_left (by omega)] at hu hq
    exact (h4 j u q hu hq).keep hkt
  · rw [List.getElem?_append_right (by omega)] at hu hq
    rw [h2] at hu
    rw [h3] at hq
    cases hjk : j - k with
    | zero =>
      rw [hjk] at hu hq
      simp at hu hq
      subst hu; subst hq
      exact hv.keep hkt
    | succ i => rw [hjk] at hu; simp at hu
/-- what partsOf tells -/
def PartsIs (r : Option (List Pt)) (w : World) (e : Ending) (w' : World) : Prop := match r with
  | none => e = .returned (.tuple #[.slice none 0 0, .bool false]) ∧ Fresh w w'
  | some ps => ∃ A k c, e = .returned (.tuple #[.slice A k c, .bool true]) ∧ k ≤ maxLen ∧ Pts w' A k ps ∧ Fresh w w'
/-- the parts of a text -/
def prsT (rs : List Nat) (u : List UInt8) : Option (List Pt) := if u = [] then prs rs else none
theorem partsIs_none {w w' : World} {r : Option (List Pt)} (hr : r = none) (h : Fresh w w') : PartsIs r w (.returned (.tuple #[.slice none 0 0, .bool false])) w' := by
  subst hr
  exact ⟨rfl, h⟩
theorem partsIs_some {w w' : World} {r : Option (List Pt)} {ps : List Pt} {A : Option Addr} {k c : Nat} (hr : r = some ps) (hk : k ≤ maxLen) (hp : Pts w' A k ps) (h : Fresh w w') : PartsIs r w (.returned (.tuple #[.slice A k c, .bool true])) w' := by
  subst hr
  exact ⟨A, k, c, rfl, hk, hp, h⟩
set_option maxRecDepth 100000 in
theorem partsOf_any (s : ByteArray) (rs : List Nat) (u : List UInt8) (hs : s.data.toList = tx rs ++ u) (hrn : ∀ r ∈ rs, Rn r) (hu : u = [] ∨ Bad u) (w : World) (hm : s.size ≤ 1000) (hT : Tabs w) :
    Calls Tryd.prog 19 #[.string s] w (PartsIs (prsT rs u) w) := by
  have hv := Tryd.utf8_ValidString s w (by omega) hT
  rw [hs] at hv
  have hsz : s.size = s.data.toList.length := (Array.length_toList (xs := s.data)).symm
  rcases hu with hu | hub
  · subst hu
    rw [List.append_nil] at hv hs
    rw [valid_good rs hrn] at hv
    have hrns : rns s.data.toList = rs := by rw [hs, rns_good rs hrn]
    have hlen : rs.length ≤ 1000 := by
      have h1 := tx_le rs
      rw [hs] at hsz
      omega
    have hpr : prsT rs [] = prs rs := if_pos rfl
    rw [hpr]
    have HV := Lib.hid hv
    have HRNS := Lib.hid hrns
    obtain ⟨n, hn⟩ : ∃ n, rs.length = n := ⟨_, rfl⟩
    rw [hn] at hlen
    have HN := Lib.hid hn
    clear hs hv hsz hrns hn hm hT hrn
    go_enter Tryd.func19, Tryd.ntmps19
    go_wp2_with (first
      | (go_at_call 29; (refine HV.out.mono ?_); rintro e w1 ⟨rfl, hf1⟩; have HF1 := Lib.hid hf1; clear hf1)
      | ((with_reducible (refine at_slot_ 12 ?_)); refine wpList_runes_of (by rfl) 9 61 21 (.tmp 11) rfl Tryd.underlying9 Tryd.underlying61 Tryd.underlying21 s rfl rs HRNS.out n HN.out (by omega) ?_; intro L0 c0 w2 hf2 hr2 h2c h2m; have HF2 := Lib.hid (Fresh.trans HF1.out hf2); have HR2 := Lib.hid hr2; clear hf2 hr2))
    go_loopw [4, 5] (fun v4 v5 wr => ∃ (A : Option Addr) (k c : Nat) (done : List Pt) (L : Option Addr) (m cL : Nat) (cur : List Nat), v4 = .slice A k c ∧ v5 = .slice L m cL ∧ Row13 wr w2.heap.size A k c done ∧ Rd wr w2.heap.size L m (rr cur) ∧ m ≤ cL ∧ k + m ≤ n ∧ Hid (prs rs = (prs cur).map (done ++ ·)) ∧ Fresh w wr ∧ Fresh w2 wr) (fun _ v5 _ => (match v5 with | .slice _ m _ => m | _ => 0))
    case atStart =>
      refine ⟨none, 0, 0, [], L0, n, c0, rs, rfl, rfl, Row13.nil _ _, HR2.out, h2c, by omega, ?_, HF2.out, Fresh.refl _⟩
      show prs rs = _
      cases prs rs <;> simp
    case round =>
      obtain ⟨A, k, c, done, L, m, cL, cur, rfl, rfl, hrow, hrd, hmc, hkm, hprs, hfr, hfr2⟩ := hrel
      have hcl : cur.length = m := by have := hrd.1; rwa [List.length_map] at this
      have hcap := hrow.cap
      by_cases h0 : 0 < m
      · have hpo := partOf_any L m cL w2.heap.size cur wr hrd hfr2.size hmc (by omega) h0
        have t1 : decide ((m : Int) > 0) = true := by rw [decide_eq_true_iff]; omega
        have t2 : decide (0 < (m : Int)) = true := by rw [decide_eq_true_iff]; omega
        have HPO := Lib.hid hpo
        have HROW := Lib.hid hrow
        have HRD := Lib.hid hrd
        have HF := Lib.hid hfr
        have HF9 := Lib.hid hfr2
        clear hpo hrow hrd hfr hfr2
        cases hp : prt cur with
        | none =>
          have hne : cur ≠ [] := by rintro rfl; simp at hcl; omega
          have hX : prs rs = none := by rw [hprs.out, prs_bad hne hp]; rfl
          rw [hp] at HPO
          have HX := Lib.hid hX
          clear hp hX hprs hne
          go_wp2_with (go_at_call 30; (with_reducible refine HPO.out.mono ?_); rintro e w3 ⟨v, rfl, hf3⟩)
          go_ret2
          exact partsIs_none HX.out (HF.out.trans hf3)
        | some q =>
          obtain ⟨p, d⟩ := q
          have hd := prt_le hp
          rw [hcl] at hd
          have hd1 := hd.1
          have hd2 := hd.2
          have hX : prs rs = (prs (cur.drop d)).map ((done ++ [p]) ++ ·) := by
            rw [hprs.out, prs_step hp, Option.map_map]
            congr 1
            funext q
            simp
          have t3 : ((d : Int) == 0) = false := by rw [beq_eq_false_iff_ne]; omega
          rw [hp] at HPO
          have HX := Lib.hid hX
          have HD := Lib.hid hd
          clear hp hX hprs hd
          go_wp2_with (first
            | (go_at_call 30; (with_reducible refine HPO.out.mono ?_); rintro e w3 ⟨v, rfl, hv3, hf3⟩; obtain ⟨T, x, rfl⟩ := hv3.form; have HV3 := Lib.hid hv3; have HF3 := Lib.hid hf3; clear hv3 hf3)
            | (at_builtin; refine wpList_append_part _ rfl _ _ rfl w2.heap.size A k c done rfl ((HROW.out.fresh HF3.out).fresh (Fresh.alloc _ _)) w3.heap.size (.iface T x) p rfl (Bk.made w3 tPart #[.iface T x]) (HV3.out.keep (KeepT.fresh (Fresh.alloc _ _))) (by omega) (by have h1 := HF9.out.size; have h2 := HF3.out.size; simp; omega) ?_; intro A4 c4 w4 hrow4 hfr4 hbel4; have HROW4 := Lib.hid hrow4; have HX4 := Lib.hid (hfr4 w (HF.out.trans (HF3.out.trans (Fresh.alloc _ _))) HF2.out.size); have HX5 := Lib.hid (hfr4 w2 (HF9.out.trans (HF3.out.trans (Fresh.alloc _ _))) (Nat.le_refl _)); have HRD4 := Lib.hid ((((HRD.out.below HF3.out (by have h1 := HF9.out.size; omega)).below (Fresh.alloc w3 _) (by have h1 := HF9.out.size; have h2 := HF3.out.size; omega))).below hbel4 (Nat.le_refl _)); clear hrow4 hfr4 hbel4)
            | ((with_reducible refine at_slot_ 29 ?_); refine wpList_cut (by rfl) tRow 21 (.tmp 27) (.tmp 28) rfl Tryd.underlying61 runeSize L m cL d w2.heap.size (rr cur) rfl rfl HRD4.out HD.out.2 hmc ?_; intro D hD; rw [rr_drop] at hD; have HDD := Lib.hid hD; clear hD))
          go_roundw
          case rel => exact ⟨A4, k + 1, c4, done ++ [p], D, m - d, cL - d, cur.drop d, rfl, rfl, HROW4.out, HDD.out, by omega, by omega, HX.out, HX4.out, HX5.out⟩
          case measure => show m - d < m; omega
      · have hm0 : m = 0 := by omega
        subst hm0
        have hc0 : cur = [] := List.eq_nil_of_length_eq_zero hcl
        subst hc0
        have hX : prs rs = some done := by rw [hprs.out, prs_nil]; simp
        have HX := Lib.hid hX
        have HP := Lib.hid hrow.pts
        have HC := Lib.hid hcap
        clear hprs hX hrow hcap
        go_wp2
        go_ret2
        exact partsIs_some HX.out (Nat.le_trans HC.out.1 HC.out.2) HP.out hfr
  · rw [valid_bad rs u hrn hub] at hv
    have hpr : prsT rs u = none := if_neg hub.1
    have HP := Lib.hid hpr
    have HV := Lib.hid hv
    clear hpr hv hs hrn hub hm hT hsz
    go_enter Tryd.func19, Tryd.ntmps19
    go_wp2_with (go_at_call 29; (refine HV.out.mono ?_); rintro e w1 ⟨rfl, hf1⟩)
    go_ret2
    exact partsIs_none HP.out hf1
/-- what New tells -/
def NewIs (r : Option (List Pt)) (w : World) (e : Ending) (w' : World) : Prop := match r with
  | none => e = .returned (.tuple #[.pointer none, .int .i64 4]) ∧ Fresh w w'
  | some ps => ∃ g, e = .returned (.tuple #[ptg g, .int .i64 0]) ∧ GlobAt w' g ps ∧ Fresh w w'
theorem new_any (s : ByteArray) (rs : List Nat) (u : List UInt8) (hs : s.data.toList = tx rs ++ u) (hrn : ∀ r ∈ rs, Rn r) (hu : u = [] ∨ Bad u) (w : World) (hm : s.size ≤ 100) (hT : Tabs w) :
    Calls Tryd.prog 10 #[.string s] w (NewIs (prsT rs u) w) := by
  have hpo := partsOf_any s rs u hs hrn hu w (by omega) hT
  have t1 : decide ((s.size : Int) > 100) = false := by rw [decide_eq_false_iff_not]; omega
  have t2 : decide (100 < (s.size : Int)) = false := by rw [decide_eq_false_iff_not]; omega
  obtain ⟨R, hR⟩ : ∃ R, prsT rs u = R := ⟨_, rfl⟩
  rw [hR] at hpo ⊢
  have HPO := Lib.hid hpo
  clear hpo hs hrn hu hm hT hR
  cases R with
  | none =>
    go_enter Tryd.func10, Tryd.ntmps10
    go_wp2_with (go_at_call 19; (refine HPO.out.mono ?_); rintro e w1 ⟨rfl, hf1⟩)
    go_ret2
    exact ⟨rfl, hf1⟩
  | some ps =>
    go_enter Tryd.func10, Tryd.ntmps10
    go_wp2_with (go_at_call 19; (refine HPO.out.mono ?_); rintro e w1 ⟨A, k, c, rfl, hk, hp, hf1⟩; have HP := Lib.hid hp; have HF := Lib.hid hf1; have HK := Lib.hid hk; clear hp hf1 hk)
    go_ret2
    exact ⟨_, rfl, ⟨A, k, c, Bk.made w1 tGlob #[.slice A k c], HK.out, HP.out.fresh (Fresh.alloc _ _)⟩, HF.out.trans (Fresh.alloc _ _)⟩
theorem new_long (s : ByteArray) (w : World) (hm : 100 < s.size) :
    Calls Tryd.prog 10 #[.string s] w fun e w' => e = .returned (.tuple #[.pointer none, .int .i64 10]) ∧ Fresh w w' := by
  have t1 : decide ((s.size : Int) > 100) = true := by rw [decide_eq_true_iff]; omega
  have t2 : decide (100 < (s.size : Int)) = true := by rw [decide_eq_true_iff]; omega
  clear hm
  go_enter Tryd.func10, Tryd.ntmps10
  go_wp2
  go_ret2
  exact ⟨rfl, Fresh.refl _⟩
end Go.Proofs.YtkkkjadfhimahaaDoor.glbp
