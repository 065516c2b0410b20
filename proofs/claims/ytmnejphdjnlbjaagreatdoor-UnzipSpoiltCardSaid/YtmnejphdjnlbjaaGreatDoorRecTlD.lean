/-
  record's wideTail, the walk: my own text.
-/
import Derived.Test.YtmnejphdjnlbjaaGreatDoorRecTlC
import Derived.Deep.DeepCutAuto
namespace Go.Proofs.YtmnejphdjnlbjaaGreatDoor.recp
open Go.RowKit Go.Proofs.YtmnejphdjnlbjaaGreatDoor.base Go.Proofs.YtmnejphdjnlbjaaGreatDoor.num Go.Proofs.YtmnejphdjnlbjaaGreatDoor.word Go.Proofs.YtmnejphdjnlbjaaGreatDoor.recn
set_option linter.unusedVariables false
theorem step_store_row {P : Program} {ops : Array Oper} {o : Oper} {a : Act} {w : World} {K : Act → World → Prop} {Q : Exit → Act → World → Prop} {E : Prop} (hgd : o.guard = none) (ty : TypeId) (x y : Operand) (ho : o.op = .store ty x y)
    (g : Nat) (cells : Array Value) (hx : a.eval x = .pointer (some ⟨g, 0, none⟩)) (hy : a.eval y = .agg cells)
    (t : TypeId) (old : Array Value) (hg : w.heap[g]? = some (.cells old t (0, 0))) (hi : (P.info? ty).map (·.size) = some cells.size)
    (hold : old.size = cells.size) (h1 : cells.all (·.oneCell') = true)
    (h : K (a.put o.dst undef) (w.setRow g cells)) : if Region.wanted o (yielded ops a.tmps) = true then Oper.wp P o a w K Q else E := by
  have hw : Region.wanted o (yielded ops a.tmps) = true := by simp [Region.wanted, hgd]
  rw [if_pos hw]
  exact wp_store_row ty x y ho g cells hx hy t old hg hi hold h1 h
theorem st_none_ {P : Program} {ops : Array Oper} {a : Act} {w : World} {K : Act → World → Prop} {Q : Exit → Act → World → Prop} {E : Prop} {t : TypeId} {op : Op} {ps : String} {af gd} (h : if Region.wanted (⟨none, op, t, ps, af, gd⟩ : Oper) (yielded ops a.tmps) = true then Oper.wp P ⟨none, op, t, ps, af, gd⟩ a w K Q else E) :
    if Region.wanted (⟨none, op, t, ps, af, gd⟩ : Oper) (yielded ops a.tmps) = true then Oper.wp P ⟨none, op, t, ps, af, gd⟩ a w K Q else E := h
theorem st_slotw_ {P : Program} {ops : Array Oper} {a : Act} {w : World} {K : Act → World → Prop} {Q : Exit → Act → World → Prop} {E : Prop} {t : TypeId} (d : Nat) {op : Op} {ps : String} {af gd} (h : if Region.wanted (⟨some d, op, t, ps, af, gd⟩ : Oper) (yielded ops a.tmps) = true then Oper.wp P ⟨some d, op, t, ps, af, gd⟩ a w K Q else E) :
    if Region.wanted (⟨some d, op, t, ps, af, gd⟩ : Oper) (yielded ops a.tmps) = true then Oper.wp P ⟨some d, op, t, ps, af, gd⟩ a w K Q else E := h
set_option maxRecDepth 100000 in
set_option maxHeartbeats 8000000 in
theorem wideTail_any (A : Option Addr) (n c : Nat) (xs : List UInt8) (p : Nat) (z : Int) (w : World) (B : Nat) (hr : Rd w B A n (xs.map bv)) (hB : B ≤ w.heap.size) (hc : n ≤ c) (hm : c ≤ maxLen) (hn : n ≤ 1099511627776) (hp : p + 22 ≤ n) (hz9 : z = (p : Int)) (r : Option Tl) (hres : wideTl xs p = r) :
    Calls Tryz.prog 25 #[.slice A n c, .int .i64 z] w fun e w' => WideIs r e ∧ Fresh w w' := by
  subst hz9
  have hlx : xs.length = n := by have := hr.1; rwa [List.length_map] at this
  have hr0 := hr.alloc hB (.cells #[iv 0, iv 0, iv 0, .bool false] tTail)
  have hbg := begun_any A n c xs ((p : Int) - 20) ⟨#[80, 75, 6, 7]⟩ [80, 75, 6, 7] 20 (w.alloc (.cells #[iv 0, iv 0, iv 0, .bool false] tTail)) B hr0 (by simp; omega) hc hm hn (by omega) (by omega) rfl rfl (by omega)
  have hz := Bk.made w tTail #[iv 0, iv 0, iv 0, .bool false]
  have hf := Fresh.alloc w (.cells #[iv 0, iv 0, iv 0, .bool false] tTail)
  cases hb : bg xs ((p : Int) - 20) [80, 75, 6, 7] 20 with
  | error k =>
    rw [hb] at hbg
    have hk := bg_err hb
    rw [wideTl_no (by omega) hb] at hres
    subst hres
    have HB := Lib.hid hbg
    have HZ := Lib.hid hz
    have HF := Lib.hid hf
    clear hbg hz hf hb hr hr0 hlx
    go_enter Tryz.func25, Tryz.ntmps25
    go_wp2_with (first
      | (go_at_call 41; (refine (HB.out).mono ?_); rintro e w1 ⟨hf1, hE⟩; simp only at hE; subst hE; have HZ1 := Lib.hid (HZ.out.fresh hf1); have HF1 := Lib.hid (HF.out.trans hf1); clear hf1)
      | (refine wpList_store_row (o := ⟨none, _, _, _, _, _⟩) rfl tTail (.tmp 4) (.tmp 23) rfl w.heap.size #[iv 0, iv 0, iv 0, .bool false] rfl rfl tTail _ HZ1.out (by kernel_rfl) (by rfl) (by kernel_rfl) ?_))
    exact bodyPost_ret (results_row_tmp (p := 4) (u := 5) (by kernel_rfl) _ _ w.heap.size tTail [iv 0, iv 0, iv 0, .bool false] _ rfl (HZ1.out.row _) Tryz.underlying44 rfl (by kernel_rfl)) rfl ⟨⟨0, 0, 0, false, rfl⟩, HF1.out.but (Nat.le_refl _) (But.row _ _ _)⟩
  | ok ys =>
    rw [hb] at hbg
    obtain ⟨q, hpq, hys, hq, hw⟩ := wideTl_ok hb
    rw [hw] at hres
    have hly : ys.length = 16 := by rw [hys, List.length_take, List.length_drop]; omega
    have hV : nm (ys.drop 4) (0 * 8) 8 = nm xs (q + 8) 8 := by rw [nm_drop, hys, nm_take _ (by omega), nm_drop]
    have hu := nm8_lt xs (q + 8)
    have hvb := sg64_bd _ hu
    generalize nm xs (q + 8) 8 = u at *
    have HB := Lib.hid hbg
    have HZ := Lib.hid hz
    have HF := Lib.hid hf
    have HLY := Lib.hid hly
    have HV := Lib.hid hV
    have HRES := Lib.hid hres
    have HR := Lib.hid hr
    have HLX := Lib.hid hlx
    have HMX : RowKit.Hid (c ≤ maxLen) := hm
    have HU := Lib.hid hu
    have HVB := Lib.hid hvb
    clear hbg hz hf hb hr hr0 hlx hw hly hV hres hys hm hu hvb hpq hq
    go_enter Tryz.func25, Tryz.ntmps25
    go_upto_region 5 with (go_at_call 41; (refine (HB.out).mono ?_); rintro e w1 ⟨hf1, A1, c1, hE, hO1⟩; subst hE; have HZ1 := Lib.hid (HZ.out.fresh hf1); have HF1 := Lib.hid (HF.out.trans hf1); have HO1 := Lib.hid hO1; clear hf1 hO1)
    obtain ⟨b0, b1, hfW, hszW⟩ := box_two w1
    have hgz : w.heap.size < w1.heap.size := HZ1.out.inside
    have hra : RdA _ [w1.heap.size, w1.heap.size + 1] A1 ys.length (ys.map bv) := ((RdA.of_rd (S := []) HO1.out.rd (Nat.le_refl _) (by simp)).more (R := [w1.heap.size, w1.heap.size + 1]) (by intro i hi; simp at hi; omega)).fresh hfW
    have HZ2 := Lib.hid (HZ1.out.fresh hfW)
    have HF2 := Lib.hid (HF1.out.trans hfW)
    have hcap := HO1.out.cap
    rw [HLY.out] at hra hcap
    have hsl : (Value.slice A1 ys.length c1) = .slice A1 16 c1 := by rw [HLY.out]
    rw [hsl]
    clear hsl HZ1 HF1 HO1 hfW HB HZ HF
    generalize ((w1.alloc (.cells #[.int .i64 0] tInt)).alloc (.cells #[.int .i64 0] tInt)) = W at *
    generalize w1.heap.size = g at *
    have hS : ∀ i ∈ [g, g + 1], i < W.heap.size := by intro i hi; simp at hi; omega
    have hget1 : Calls Tryz.prog 38 #[.slice A1 16 c1, .int .i64 4, .slice (some ⟨W.heap.size, 0, none⟩) 1 1] (W.alloc (.cells #[ptr g] tPtr)) (Got [g, g + 1] (sets (W.alloc (.cells #[ptr g] tPtr)) (gets 4 ys [⟨g, 0, none⟩])) 12 (ys.drop 4)) :=
      get_row A1 16 c1 4 ys [⟨g, 0, none⟩] [g, g + 1] 1 _ W hra hcap.1 hcap.2 (by omega) (.inr rfl) rfl rfl (by
        intro p hp
        rw [List.mem_singleton] at hp
        subst hp
        exact ⟨by simp, b0.wr (by simp)⟩) hS (by omega)
    have hT1 : ∀ W2, Fresh (sets (W.alloc (.cells #[ptr g] tPtr)) (gets 4 ys [⟨g, 0, none⟩])) W2 → Turn [g] [g] W W2 ∧ Bk W2 g tInt [iv (nm ys (0 * 4) 4 : Nat)] := fun W2 h =>
      ⟨turn_of (Fresh.alloc _ _) h (by intro x hx; simp [gets] at hx; subst hx; simp), ((b0.alloc _).put 0 _).fresh h⟩
    have hget2 : ∀ W2 A2 c2, Turn [g] [g] W W2 → RdA W2 [g, g + 1] A2 12 ((ys.drop 4).map bv) → 12 ≤ c2 → c2 ≤ maxLen → Calls Tryz.prog 42 #[.slice A2 12 c2, .slice (some ⟨W2.heap.size, 0, none⟩) 1 1] (W2.alloc (.cells #[ptr (g + 1)] tPtr)) (Got [g, g + 1] (sets (W2.alloc (.cells #[ptr (g + 1)] tPtr)) (getsW (ys.drop 4) [⟨g + 1, 0, none⟩])) 4 ((ys.drop 4).drop 8)) := fun W2 A2 c2 hT hr2 hc2 hm2 =>
      getWide_row A2 12 c2 (ys.drop 4) [⟨g + 1, 0, none⟩] [g, g + 1] 1 _ W2 hr2 hc2 hm2 (by omega) rfl rfl (by
        intro p hp
        rw [List.mem_singleton] at hp
        subst hp
        exact ⟨by simp, (b1.turn hT (by simp)).wr (by simp)⟩) (fun i hi => Nat.lt_of_lt_of_le (hS i hi) hT.size) (by omega)
    have hT2 : ∀ W2 W3, Turn [g] [g] W W2 → Bk W2 g tInt [iv (nm ys (0 * 4) 4 : Nat)] → Fresh (sets (W2.alloc (.cells #[ptr (g + 1)] tPtr)) (getsW (ys.drop 4) [⟨g + 1, 0, none⟩])) W3 → Turn [g, g + 1] [g, g + 1] W W3 ∧ Bk W3 g tInt [iv (nm ys (0 * 4) 4 : Nat)] ∧ Bk W3 (g + 1) tInt [iv (sg64 u)] := fun W2 W3 hT hb2 h =>
      ⟨(hT.wide (T := [g, g + 1]) (by simp)).trans (turn_of (T := [g, g + 1]) (Fresh.alloc _ _) h (by intro x hx; simp [getsW] at hx; subst hx; simp)), ((hb2.alloc _).apart (p := ⟨g + 1, 0, none⟩) (by simp) _).fresh h, by
        have h3 := (((b1.turn hT (by simp)).alloc (.cells #[ptr (g + 1)] tPtr)).put 0 (iv (sg64 (nm (ys.drop 4) (0 * 8) 8)))).fresh h
        rw [HV.out] at h3
        exact h3⟩
    have hfr : ∀ W3, Turn [g, g + 1] [g, g + 1] W W3 → Fresh w W3 ∧ Bk W3 w.heap.size tTail [iv 0, iv 0, iv 0, .bool false] := fun W3 h3 =>
      ⟨h3.new HF2.out (by intro i hi; simp at hi; omega), HZ2.out.turn h3 (by simp; omega)⟩
    have hbg2 := fun W3 (h : Fresh w W3) => begun_any A n c xs (sg64 u) ⟨#[80, 75, 6, 6]⟩ [80, 75, 6, 6] 56 W3 B (HR.out.keep fun i hi => h.block i (by omega)) (by have := h.size; omega) hc HMX.out hn HVB.out.1 HVB.out.2 rfl rfl (by omega)
    have HGET1 := Lib.hid hget1
    have HT1 := Lib.hid hT1
    have HGET2 := Lib.hid hget2
    have HT2 := Lib.hid hT2
    have HFR := Lib.hid hfr
    have HBG2 := Lib.hid hbg2
    clear hget1 hT1 hget2 hT2 hfr hbg2 b0 b1 hra hcap hS hszW
    cases hb2 : bg xs (sg64 u) [80, 75, 6, 6] 56 with
    | error k2 =>
      rw [hb2] at HBG2
      have hk2 := bg_err hb2
      have hres := HRES.out
      rw [wideAt_no (by rw [HLX.out]; exact hn) HU.out hb2] at hres
      subst hres
      clear hb2 HRES
      go_wp2_with (first
        | (go_at_call 38; ((with_reducible refine HGET1.out.mono ?_); rintro e w2 ⟨A2, c2, rfl, hc2, hm2, hf2, hr2⟩; obtain ⟨hT2, hb2⟩ := HT1.out _ hf2; have HS2 := Lib.hid (HGET2.out w2 A2 c2 hT2 hr2 hc2 hm2); have HTT := Lib.hid hT2; have HBB := Lib.hid hb2; clear hf2 hr2 hm2 hT2 hb2))
        | (go_at_call 42; ((with_reducible refine HS2.out.mono ?_); rintro e w3 ⟨A3, c3, rfl, hc3, hm3, hf3, hr3⟩; obtain ⟨hT3, hb3, hb4⟩ := HT2.out _ _ HTT.out HBB.out hf3; obtain ⟨hf4, hz4⟩ := HFR.out _ hT3; have k1 : w3.cell? ⟨g + 1, 0, none⟩ = some (iv (sg64 u)) := hb4.cell rfl; have HF4 := Lib.hid hf4; have HZ4 := Lib.hid hz4; clear hf3 hr3 hm3 hT3 hb3 hb4 hf4 hz4))
        | (go_at_call 41; (refine (HBG2.out _ HF4.out).mono ?_); rintro e w5 ⟨hf5, hE⟩; simp only at hE; subst hE; have HZ5 := Lib.hid (HZ4.out.fresh hf5); have HF5 := Lib.hid (HF4.out.trans hf5); clear hf5)
        | (refine wpList_store_row (o := ⟨none, _, _, _, _, _⟩) rfl tTail (.tmp 4) (.tmp 37) rfl w.heap.size #[iv 0, iv 0, iv 0, .bool false] rfl rfl tTail _ HZ5.out (by kernel_rfl) (by rfl) (by kernel_rfl) ?_))
      exact bodyPost_ret (results_row_tmp (p := 4) (u := 5) (by kernel_rfl) _ _ w.heap.size tTail [iv 0, iv 0, iv 0, .bool false] _ rfl (HZ5.out.row _) Tryz.underlying44 rfl (by kernel_rfl)) rfl ⟨⟨0, 0, 0, false, rfl⟩, HF5.out.but (Nat.le_refl _) (But.row _ _ _)⟩
    | ok y2 =>
      rw [hb2] at HBG2
      obtain ⟨hu56, hy2, hwa⟩ := wideAt_ok (by rw [HLX.out]; exact hn) HU.out hb2
      have hly2 : y2.length = 52 := by rw [hy2, List.length_take, List.length_drop]; omega
      have hres := HRES.out
      rw [hwa] at hres
      have e0 : nm ((((y2.drop 8).drop 4).drop 8)) (1 * 8) 8 = nm xs (u + 32) 8 := by rw [nm_drop, nm_drop, nm_drop, hy2, nm_take _ (by omega), nm_drop]
      have e1 : nm ((((y2.drop 8).drop 4).drop 8)) (2 * 8) 8 = nm xs (u + 40) 8 := by rw [nm_drop, nm_drop, nm_drop, hy2, nm_take _ (by omega), nm_drop]
      have e2 : nm ((((y2.drop 8).drop 4).drop 8)) (3 * 8) 8 = nm xs (u + 48) 8 := by rw [nm_drop, nm_drop, nm_drop, hy2, nm_take _ (by omega), nm_drop]
      have n0 := nm8_lt xs (u + 32)
      have n1 := nm8_lt xs (u + 40)
      have n2 := nm8_lt xs (u + 48)
      generalize nm xs (u + 32) 8 = M at *
      generalize nm xs (u + 40) 8 = L at *
      generalize nm xs (u + 48) 8 = Q at *
      have HLY2 := Lib.hid hly2
      have HE0 := Lib.hid e0
      have HE1 := Lib.hid e1
      have HE2 := Lib.hid e2
      have HRES2 := Lib.hid hres
      have HN0 := Lib.hid n0
      have HN1 := Lib.hid n1
      have HN2 := Lib.hid n2
      clear hb2 HRES hu56 hy2 hwa hly2 hres e0 e1 e2 n0 n1 n2
      go_upto_region 11 with (first
        | (go_at_call 38; ((with_reducible refine HGET1.out.mono ?_); rintro e w2 ⟨A2, c2, rfl, hc2, hm2, hf2, hr2⟩; obtain ⟨hT2, hb2⟩ := HT1.out _ hf2; have HS2 := Lib.hid (HGET2.out w2 A2 c2 hT2 hr2 hc2 hm2); have HTT := Lib.hid hT2; have HBB := Lib.hid hb2; clear hf2 hr2 hm2 hT2 hb2))
        | (go_at_call 42; ((with_reducible refine HS2.out.mono ?_); rintro e w3 ⟨A3, c3, rfl, hc3, hm3, hf3, hr3⟩; obtain ⟨hT3, hb3, hb4⟩ := HT2.out _ _ HTT.out HBB.out hf3; obtain ⟨hf4, hz4⟩ := HFR.out _ hT3; have k1 : w3.cell? ⟨g + 1, 0, none⟩ = some (iv (sg64 u)) := hb4.cell rfl; have HF4 := Lib.hid hf4; have HZ4 := Lib.hid hz4; have HG3 := Lib.hid hb3; have hgin := hb3.inside; clear hf3 hr3 hm3 hT3 hb3 hb4 hf4 hz4))
        | (go_at_call 41; (refine (HBG2.out _ HF4.out).mono ?_); rintro e w5 ⟨hf5, A5, c5, hE, hO5⟩; subst hE; have HZ5 := Lib.hid (HZ4.out.fresh hf5); have HF5 := Lib.hid (HF4.out.trans hf5); have HG5 := Lib.hid (HG3.out.fresh hf5); have HO5 := Lib.hid hO5; clear hf5 hO5))
      obtain ⟨b0, b1, b2, b3, hfX, hszX⟩ := boxes4 w5 [iv 0, iv 0, iv 0, .bool true]
      have hra : RdA _ [w5.heap.size, w5.heap.size + 1, w5.heap.size + 1 + 1, w5.heap.size + 1 + 1 + 1, g] A5 y2.length (y2.map bv) := ((RdA.of_own (S := [g]) HO5.out (by intro i hi; simp at hi; omega)).more (R := [w5.heap.size, w5.heap.size + 1, w5.heap.size + 1 + 1, w5.heap.size + 1 + 1 + 1]) (by intro i hi; simp at hi; omega)).fresh hfX
      have bg0 := HG5.out.fresh hfX
      have hg5 := HG5.out.inside
      have hz5 := HZ5.out.inside
      have HZ6 := Lib.hid (HZ5.out.fresh hfX)
      have HF6 := Lib.hid (HF5.out.trans hfX)
      have hcap := HO5.out.cap
      rw [HLY2.out] at hra hcap
      have hsl : (Value.slice A5 y2.length c5) = .slice A5 52 c5 := by rw [HLY2.out]
      rw [hsl]
      clear hsl HZ5 HF5 HO5 hfX HG5 HG3 HF4 HZ4 HBB HTT HS2 k1 HBG2
      generalize ((((w5.alloc (.cells #[.int .i64 0, .int .i64 0, .int .i64 0, .bool true] tTail)).alloc (.cells #[.int .i64 0] tInt)).alloc (.cells #[.int .i64 0] tInt)).alloc (.cells #[.int .i64 0] tInt)) = X at *
      generalize w5.heap.size = t at *
      have hS : ∀ i ∈ [t, t + 1, t + 1 + 1, t + 1 + 1 + 1, g], i < X.heap.size := by intro i hi; simp at hi; omega
      have hgt : g < t := hg5
      have ha1 : Calls Tryz.prog 42 #[.slice A5 52 c5, .slice (some ⟨X.heap.size, 0, none⟩) 1 1] (X.alloc (.cells #[ptr (t + 1)] tPtr)) (Got [t, t + 1, t + 1 + 1, t + 1 + 1 + 1, g] (sets (X.alloc (.cells #[ptr (t + 1)] tPtr)) (getsW y2 [⟨t + 1, 0, none⟩])) 44 (y2.drop 8)) :=
        getWide_row A5 52 c5 y2 [⟨t + 1, 0, none⟩] [t, t + 1, t + 1 + 1, t + 1 + 1 + 1, g] 1 _ X hra hcap.1 hcap.2 (by omega) rfl rfl (by
          intro p hp
          rw [List.mem_singleton] at hp
          subst hp
          exact ⟨by simp, b1.wr (by simp)⟩) hS (by omega)
      have ht1 : ∀ X1, Fresh (sets (X.alloc (.cells #[ptr (t + 1)] tPtr)) (getsW y2 [⟨t + 1, 0, none⟩])) X1 → Turn [t + 1] [t + 1] X X1 := fun X1 h => turn_of (Fresh.alloc _ _) h (by intro x hx; simp [getsW] at hx; subst hx; simp)
      have ha2 : ∀ X1 A6 c6, Turn [t + 1] [t + 1] X X1 → RdA X1 [t, t + 1, t + 1 + 1, t + 1 + 1 + 1, g] A6 44 ((y2.drop 8).map bv) → 44 ≤ c6 → c6 ≤ maxLen → Calls Tryz.prog 38 #[.slice A6 44 c6, .int .i64 2, .slice (some ⟨X1.heap.size, 0, none⟩) 2 2] (X1.alloc (.cells #[ptr (t + 1 + 1), ptr (t + 1 + 1)] tPtr)) (Got [t, t + 1, t + 1 + 1, t + 1 + 1 + 1, g] (sets (X1.alloc (.cells #[ptr (t + 1 + 1), ptr (t + 1 + 1)] tPtr)) (gets 2 (y2.drop 8) [⟨t + 1 + 1, 0, none⟩, ⟨t + 1 + 1, 0, none⟩])) 40 ((y2.drop 8).drop 4)) := fun X1 A6 c6 hT h6 hc6 hm6 =>
        get_row A6 44 c6 2 (y2.drop 8) [⟨t + 1 + 1, 0, none⟩, ⟨t + 1 + 1, 0, none⟩] [t, t + 1, t + 1 + 1, t + 1 + 1 + 1, g] 2 _ X1 h6 hc6 hm6 (by omega) (.inl rfl) rfl rfl (by
          intro p hp
          simp only [List.mem_cons, List.not_mem_nil, or_false, or_self] at hp
          subst hp
          exact ⟨by simp, (b2.turn hT (by simp)).wr (by simp)⟩) (fun i hi => Nat.lt_of_lt_of_le (hS i hi) hT.size) (by omega)
      have ht2 : ∀ X1 X2, Turn [t + 1] [t + 1] X X1 → Fresh (sets (X1.alloc (.cells #[ptr (t + 1 + 1), ptr (t + 1 + 1)] tPtr)) (gets 2 (y2.drop 8) [⟨t + 1 + 1, 0, none⟩, ⟨t + 1 + 1, 0, none⟩])) X2 → Turn [t + 1, t + 1 + 1] [t + 1, t + 1 + 1] X X2 := fun X1 X2 hT h => (hT.wide (T := [t + 1, t + 1 + 1]) (by simp)).trans (turn_of (T := [t + 1, t + 1 + 1]) (Fresh.alloc _ _) h (by intro x hx; simp [gets] at hx; rcases hx with rfl | rfl <;> simp))
      have ha3 : ∀ X2 A7 c7, Turn [t + 1, t + 1 + 1] [t + 1, t + 1 + 1] X X2 → RdA X2 [t, t + 1, t + 1 + 1, t + 1 + 1 + 1, g] A7 40 (((y2.drop 8).drop 4).map bv) → 40 ≤ c7 → c7 ≤ maxLen → Calls Tryz.prog 38 #[.slice A7 40 c7, .int .i64 4, .slice (some ⟨X2.heap.size, 0, none⟩) 2 2] (X2.alloc (.cells #[ptr g, ptr g] tPtr)) (Got [t, t + 1, t + 1 + 1, t + 1 + 1 + 1, g] (sets (X2.alloc (.cells #[ptr g, ptr g] tPtr)) (gets 4 ((y2.drop 8).drop 4) [⟨g, 0, none⟩, ⟨g, 0, none⟩])) 32 (((y2.drop 8).drop 4).drop 8)) := fun X2 A7 c7 hT h7 hc7 hm7 =>
        get_row A7 40 c7 4 ((y2.drop 8).drop 4) [⟨g, 0, none⟩, ⟨g, 0, none⟩] [t, t + 1, t + 1 + 1, t + 1 + 1 + 1, g] 2 _ X2 h7 hc7 hm7 (by omega) (.inr rfl) rfl rfl (by
          intro p hp
          simp only [List.mem_cons, List.not_mem_nil, or_false, or_self] at hp
          subst hp
          exact ⟨by simp, (bg0.turn hT (by simp; omega)).wr (by simp)⟩) (fun i hi => Nat.lt_of_lt_of_le (hS i hi) hT.size) (by omega)
      have ht3 : ∀ X2 X3, Turn [t + 1, t + 1 + 1] [t + 1, t + 1 + 1] X X2 → Fresh (sets (X2.alloc (.cells #[ptr g, ptr g] tPtr)) (gets 4 ((y2.drop 8).drop 4) [⟨g, 0, none⟩, ⟨g, 0, none⟩])) X3 → Turn [t + 1, t + 1 + 1, g] [t + 1, t + 1 + 1, g] X X3 := fun X2 X3 hT h => (hT.wide (T := [t + 1, t + 1 + 1, g]) (by simp)).trans (turn_of (T := [t + 1, t + 1 + 1, g]) (Fresh.alloc _ _) h (by intro x hx; simp [gets] at hx; rcases hx with rfl | rfl <;> simp))
      have ha4 : ∀ X3 A8 c8, Turn [t + 1, t + 1 + 1, g] [t + 1, t + 1 + 1, g] X X3 → RdA X3 [t, t + 1, t + 1 + 1, t + 1 + 1 + 1, g] A8 32 ((((y2.drop 8).drop 4).drop 8).map bv) → 32 ≤ c8 → c8 ≤ maxLen → Calls Tryz.prog 42 #[.slice A8 32 c8, .slice (some ⟨X3.heap.size, 0, none⟩) 4 4] (X3.alloc (.cells #[ptr (t + 1 + 1 + 1), ptrA ⟨t, 0, none⟩, ptrA ⟨t, 1, none⟩, ptrA ⟨t, 2, none⟩] tPtr)) (Got [t, t + 1, t + 1 + 1, t + 1 + 1 + 1, g] (sets (X3.alloc (.cells #[ptr (t + 1 + 1 + 1), ptrA ⟨t, 0, none⟩, ptrA ⟨t, 1, none⟩, ptrA ⟨t, 2, none⟩] tPtr)) (getsW (((y2.drop 8).drop 4).drop 8) [⟨t + 1 + 1 + 1, 0, none⟩, ⟨t, 0, none⟩, ⟨t, 1, none⟩, ⟨t, 2, none⟩])) 0 ((((y2.drop 8).drop 4).drop 8).drop 32)) := fun X3 A8 c8 hT h8 hc8 hm8 =>
        getWide_row A8 32 c8 (((y2.drop 8).drop 4).drop 8) [⟨t + 1 + 1 + 1, 0, none⟩, ⟨t, 0, none⟩, ⟨t, 1, none⟩, ⟨t, 2, none⟩] [t, t + 1, t + 1 + 1, t + 1 + 1 + 1, g] 4 _ X3 h8 hc8 hm8 (by omega) rfl rfl (by
          have b3' := b3.turn hT (by simp; omega)
          have b0' := b0.turn hT (by simp; omega)
          intro p hp
          simp only [List.mem_cons, List.not_mem_nil, or_false] at hp
          rcases hp with rfl | rfl | rfl | rfl
          · exact ⟨by simp, b3'.wr (by simp)⟩
          · exact ⟨by simp, b0'.wr (by simp)⟩
          · exact ⟨by simp, b0'.wr (by simp)⟩
          · exact ⟨by simp, b0'.wr (by simp)⟩) (fun i hi => Nat.lt_of_lt_of_le (hS i hi) hT.size) (by omega)
      have ht4 : ∀ X3 X4, Turn [t + 1, t + 1 + 1, g] [t + 1, t + 1 + 1, g] X X3 → Fresh (sets (X3.alloc (.cells #[ptr (t + 1 + 1 + 1), ptrA ⟨t, 0, none⟩, ptrA ⟨t, 1, none⟩, ptrA ⟨t, 2, none⟩] tPtr)) (getsW (((y2.drop 8).drop 4).drop 8) [⟨t + 1 + 1 + 1, 0, none⟩, ⟨t, 0, none⟩, ⟨t, 1, none⟩, ⟨t, 2, none⟩])) X4 → Fresh w X4 ∧ Bk X4 w.heap.size tTail [iv 0, iv 0, iv 0, .bool false] ∧ Bk X4 t tTail [iv (sg64 M), iv (sg64 L), iv (sg64 Q), .bool true] := fun X3 X4 hT h => by
        have hT4 := (hT.wide (T := [t, t + 1, t + 1 + 1, t + 1 + 1 + 1, g]) (by simp)).trans (turn_of (T := [t, t + 1, t + 1 + 1, t + 1 + 1 + 1, g]) (Fresh.alloc _ _) h (by intro x hx; simp [getsW] at hx; rcases hx with rfl | rfl | rfl | rfl <;> simp))
        refine ⟨hT4.new HF6.out (by intro i hi; simp at hi; omega), HZ6.out.turn hT4 (by simp; omega), ?_⟩
        rw [← HE0.out, ← HE1.out, ← HE2.out]
        exact (((((b0.turn hT (by simp; omega)).alloc _).apart (p := ⟨t + 1 + 1 + 1, 0, none⟩) (by simp; omega) _).put 0 _).put 1 _ |>.put 2 _).fresh h
      have HA1 := Lib.hid ha1
      have HT1' := Lib.hid ht1
      have HA2 := Lib.hid ha2
      have HT2' := Lib.hid ht2
      have HA3 := Lib.hid ha3
      have HT3' := Lib.hid ht3
      have HA4 := Lib.hid ha4
      have HT4' := Lib.hid ht4
      clear ha1 ht1 ha2 ht2 ha3 ht3 ha4 ht4 b0 b1 b2 b3 bg0 hra hcap hS hszX HGET1 HT1 HGET2 HT2 HFR
      go_cut [6] (fun v wx => ∃ A6 c6, v = .slice A6 44 c6 ∧ Hid (Calls Tryz.prog 38 #[.slice A6 44 c6, .int .i64 2, .slice (some ⟨wx.heap.size, 0, none⟩) 2 2] (wx.alloc (.cells #[ptr (t + 1 + 1), ptr (t + 1 + 1)] tPtr)) (Got [t, t + 1, t + 1 + 1, t + 1 + 1 + 1, g] (sets (wx.alloc (.cells #[ptr (t + 1 + 1), ptr (t + 1 + 1)] tPtr)) (gets 2 (y2.drop 8) [⟨t + 1 + 1, 0, none⟩, ⟨t + 1 + 1, 0, none⟩])) 40 ((y2.drop 8).drop 4))) ∧ Hid (Turn [t + 1] [t + 1] X wx))
      case first =>
        go_wp2_with (go_at_call 42; ((with_reducible refine HA1.out.mono ?_); rintro e w6 ⟨A6, c6, rfl, hc6, hm6, hf6, hr6⟩; have hT6 := HT1'.out _ hf6; have HS6 := Lib.hid (HA2.out w6 A6 c6 hT6 hr6 hc6 hm6); have HT6 := Lib.hid hT6; clear hf6 hr6 hm6 hT6))
        all_goals go_meet
        all_goals exact ⟨A6, c6, rfl, HS6, HT6⟩
      case rest =>
      obtain ⟨A6, c6, rfl, HS6, HT6⟩ := hcut
      clear HA1 HT1' HA2
      go_upto_region 12 with (fail)
      go_cut [6] (fun v wx => ∃ A6 c6, v = .slice A6 40 c6 ∧ Hid (Calls Tryz.prog 38 #[.slice A6 40 c6, .int .i64 4, .slice (some ⟨wx.heap.size, 0, none⟩) 2 2] (wx.alloc (.cells #[ptr g, ptr g] tPtr)) (Got [t, t + 1, t + 1 + 1, t + 1 + 1 + 1, g] (sets (wx.alloc (.cells #[ptr g, ptr g] tPtr)) (gets 4 ((y2.drop 8).drop 4) [⟨g, 0, none⟩, ⟨g, 0, none⟩])) 32 (((y2.drop 8).drop 4).drop 8))) ∧ Hid (Turn [t + 1, t + 1 + 1] [t + 1, t + 1 + 1] X wx))
      case first =>
        go_wp2_with (go_at_call 38; ((with_reducible refine HS6.out.mono ?_); rintro e w7 ⟨A7, c7, rfl, hc7, hm7, hf7, hr7⟩; have hT7 := HT2'.out _ _ HT6.out hf7; have HS7 := Lib.hid (HA3.out w7 A7 c7 hT7 hr7 hc7 hm7); have HT7 := Lib.hid hT7; clear hf7 hr7 hm7 hT7))
        all_goals go_meet
        all_goals exact ⟨A7, c7, rfl, HS7, HT7⟩
      case rest =>
      clear HS6 HT6
      obtain ⟨A7, c7, rfl, HS7, HT7⟩ := hcut
      clear HT2' HA3
      go_upto_region 13 with (fail)
      go_cut [6] (fun v wx => ∃ A6 c6, v = .slice A6 32 c6 ∧ Hid (Calls Tryz.prog 42 #[.slice A6 32 c6, .slice (some ⟨wx.heap.size, 0, none⟩) 4 4] (wx.alloc (.cells #[ptr (t + 1 + 1 + 1), ptrA ⟨t, 0, none⟩, ptrA ⟨t, 1, none⟩, ptrA ⟨t, 2, none⟩] tPtr)) (Got [t, t + 1, t + 1 + 1, t + 1 + 1 + 1, g] (sets (wx.alloc (.cells #[ptr (t + 1 + 1 + 1), ptrA ⟨t, 0, none⟩, ptrA ⟨t, 1, none⟩, ptrA ⟨t, 2, none⟩] tPtr)) (getsW (((y2.drop 8).drop 4).drop 8) [⟨t + 1 + 1 + 1, 0, none⟩, ⟨t, 0, none⟩, ⟨t, 1, none⟩, ⟨t, 2, none⟩])) 0 ((((y2.drop 8).drop 4).drop 8).drop 32))) ∧ Hid (Turn [t + 1, t + 1 + 1, g] [t + 1, t + 1 + 1, g] X wx))
      case first =>
        go_wp2_with (go_at_call 38; ((with_reducible refine HS7.out.mono ?_); rintro e w8 ⟨A8, c8, rfl, hc8, hm8, hf8, hr8⟩; have hT8 := HT3'.out _ _ HT7.out hf8; have HS8 := Lib.hid (HA4.out w8 A8 c8 hT8 hr8 hc8 hm8); have HT8 := Lib.hid hT8; clear hf8 hr8 hm8 hT8))
        all_goals go_meet
        all_goals exact ⟨A8, c8, rfl, HS8, HT8⟩
      case rest =>
      clear HS7 HT7
      obtain ⟨A8, c8, rfl, HS8, HT8⟩ := hcut
      clear HT3' HA4
      go_upto_region 14 with (fail)
      go_cut [53] (fun v wx => Hid (Fresh w wx) ∧ Hid (Bk wx w.heap.size tTail [iv 0, iv 0, iv 0, .bool false]) ∧ Hid (Bk wx t tTail [iv (sg64 M), iv (sg64 L), iv (sg64 Q), .bool true]))
      case first =>
        go_wp2_with (go_at_call 42; ((with_reducible refine HS8.out.mono ?_); rintro e w9 ⟨A9, c9, rfl, hc9, hm9, hf9, hr9⟩; obtain ⟨hf10, hz10, ht10⟩ := HT4'.out _ _ HT8.out hf9; have HF10 := Lib.hid hf10; have HZ10 := Lib.hid hz10; have HB10 := Lib.hid ht10; clear hf9 hr9 hm9 hf10 hz10 ht10))
        all_goals go_meet
        all_goals exact ⟨HF10, HZ10, HB10⟩
      case rest =>
      clear HS8 HT8 HT4'
      obtain ⟨HF10, HZ10, HB10⟩ := hcut
      go_upto_region 15 with (fail)
      have s0 := sg64_bd _ HN0.out
      have s1 := sg64_bd _ HN1.out
      have s2 := sg64_bd _ HN2.out
      have hfit := fun b hb => fits63 (sg64 M) (sg64 L) (sg64 Q) s0 s1 s2 b hb wc
      have hd : decide ((0 ≤ sg64 M ∧ sg64 M < 281474976710656) ∧ (0 ≤ sg64 L ∧ sg64 L < 281474976710656) ∧ (0 ≤ sg64 Q ∧ sg64 Q < 281474976710656)) = decide (M < 281474976710656 ∧ L < 281474976710656 ∧ Q < 281474976710656) := by
        rw [decide_eq_decide, sg64_fits _ HN0.out, sg64_fits _ HN1.out, sg64_fits _ HN2.out]
      rw [hd] at hfit
      clear hd
      have hv0 : M < 281474976710656 → sg64 M = (M : Int) := sg64_small M
      have hv1 : L < 281474976710656 → sg64 L = (L : Int) := sg64_small L
      have hv2 : Q < 281474976710656 → sg64 Q = (Q : Int) := sg64_small Q
      generalize sg64 M = VM at *
      generalize sg64 L = VL at *
      generalize sg64 Q = VQ at *
      have HV0 := Lib.hid hv0
      have HV1 := Lib.hid hv1
      have HV2 := Lib.hid hv2
      clear hv0 hv1 hv2
      have hb10 := HB10.out.fresh (Fresh.drew wc)
      have hal : Fresh wc (wc.alloc (.cells #[iv VM, iv VL, iv VQ] tInt)).drew := (Fresh.alloc wc (.cells #[iv VM, iv VL, iv VQ] tInt)).trans (Fresh.drew _)
      have hbA := HB10.out.fresh hal
      have k0 : wc.drew.cell? ⟨t, 0, none⟩ = some (iv VM) ∧ wc.drew.cell? ⟨t, 1, none⟩ = some (iv VL) ∧ wc.drew.cell? ⟨t, 2, none⟩ = some (iv VQ) ∧ wc.drew.cell? ⟨t, 3, none⟩ = some (.bool true) := ⟨hb10.cell rfl, hb10.cell rfl, hb10.cell rfl, hb10.cell rfl⟩
      have k1 : (wc.alloc (.cells #[iv VM, iv VL, iv VQ] tInt)).drew.cell? ⟨t, 0, none⟩ = some (iv VM) ∧ (wc.alloc (.cells #[iv VM, iv VL, iv VQ] tInt)).drew.cell? ⟨t, 1, none⟩ = some (iv VL) ∧ (wc.alloc (.cells #[iv VM, iv VL, iv VQ] tInt)).drew.cell? ⟨t, 2, none⟩ = some (iv VQ) ∧ (wc.alloc (.cells #[iv VM, iv VL, iv VQ] tInt)).drew.cell? ⟨t, 3, none⟩ = some (.bool true) := ⟨hbA.cell rfl, hbA.cell rfl, hbA.cell rfl, hbA.cell rfl⟩
      have HBA := Lib.hid hbA
      have HZA := Lib.hid (HZ10.out.fresh hal)
      have HFA := Lib.hid (HF10.out.trans hal)
      have hne2 : t ≠ w.heap.size := by omega
      have HNE := Lib.hid hne2
      clear hal hb10 hbA hne2 s0 s1 s2 HB10 HZ10 HF10 HE0 HE1 HE2
      by_cases hall : M < 281474976710656 ∧ L < 281474976710656 ∧ Q < 281474976710656
      · have hft := hfit true (decide_eq_true hall)
        have hres := HRES2.out
        rw [if_pos hall] at hres
        subst hres
        have HFT := Lib.hid hft
        have HAL := Lib.hid hall
        clear hfit hft hall HRES2
        go_cut [5] (fun v wx => v = .bool true ∧ Bk wx w.heap.size tTail [iv VM, iv VL, iv VQ, .bool true] ∧ Fresh w wx)
        case first =>
          go_region_held3 (fun w' => w'.cell? ⟨t, 0, none⟩ = some (iv VM) ∧ w'.cell? ⟨t, 1, none⟩ = some (iv VL) ∧ w'.cell? ⟨t, 2, none⟩ = some (iv VQ) ∧ w'.cell? ⟨t, 3, none⟩ = some (.bool true)) (first | with_reducible exact k0 | with_reducible exact k1 | with_reducible exact k6 | with_reducible exact k7) (first | (go_at_call 39; ((refine HFT.out.mono ?_); rintro e w10 ⟨rfl, hw⟩; have hb := HBA.out; rw [hw] at hb; have hz := HZA.out; rw [hw] at hz; have hf := HFA.out; rw [hw] at hf; have k6 : w10.cell? ⟨t, 0, none⟩ = some (iv VM) ∧ w10.cell? ⟨t, 1, none⟩ = some (iv VL) ∧ w10.cell? ⟨t, 2, none⟩ = some (iv VQ) ∧ w10.cell? ⟨t, 3, none⟩ = some (.bool true) := ⟨hb.cell rfl, hb.cell rfl, hb.cell rfl, hb.cell rfl⟩; have hb7 := (((hb.apart (p := ⟨w.heap.size, 0, none⟩) HNE.out (iv VM)).apart (p := ⟨w.heap.size, 1, none⟩) HNE.out (iv VL)).apart (p := ⟨w.heap.size, 2, none⟩) HNE.out (iv VQ)).apart (p := ⟨w.heap.size, 3, none⟩) HNE.out (.bool true); have k7 : ((((w10.setCell ⟨w.heap.size, 0, none⟩ (iv VM)).setCell ⟨w.heap.size, 1, none⟩ (iv VL)).setCell ⟨w.heap.size, 2, none⟩ (iv VQ)).setCell ⟨w.heap.size, 3, none⟩ (.bool true)).cell? ⟨t, 0, none⟩ = some (iv VM) ∧ ((((w10.setCell ⟨w.heap.size, 0, none⟩ (iv VM)).setCell ⟨w.heap.size, 1, none⟩ (iv VL)).setCell ⟨w.heap.size, 2, none⟩ (iv VQ)).setCell ⟨w.heap.size, 3, none⟩ (.bool true)).cell? ⟨t, 1, none⟩ = some (iv VL) ∧ ((((w10.setCell ⟨w.heap.size, 0, none⟩ (iv VM)).setCell ⟨w.heap.size, 1, none⟩ (iv VL)).setCell ⟨w.heap.size, 2, none⟩ (iv VQ)).setCell ⟨w.heap.size, 3, none⟩ (.bool true)).cell? ⟨t, 2, none⟩ = some (iv VQ) ∧ ((((w10.setCell ⟨w.heap.size, 0, none⟩ (iv VM)).setCell ⟨w.heap.size, 1, none⟩ (iv VL)).setCell ⟨w.heap.size, 2, none⟩ (iv VQ)).setCell ⟨w.heap.size, 3, none⟩ (.bool true)).cell? ⟨t, 3, none⟩ = some (.bool true) := ⟨hb7.cell rfl, hb7.cell rfl, hb7.cell rfl, hb7.cell rfl⟩; have z0 : w10.cell? ⟨w.heap.size, 0, none⟩ = some (iv 0) ∧ w10.cell? ⟨w.heap.size, 1, none⟩ = some (iv 0) ∧ w10.cell? ⟨w.heap.size, 2, none⟩ = some (iv 0) ∧ w10.cell? ⟨w.heap.size, 3, none⟩ = some (.bool false) := ⟨hz.cell rfl, hz.cell rfl, hz.cell rfl, hz.cell rfl⟩; have z1 : w10.frozen? ⟨w.heap.size, 0, none⟩ = false ∧ w10.frozen? ⟨w.heap.size, 1, none⟩ = false ∧ w10.frozen? ⟨w.heap.size, 2, none⟩ = false ∧ w10.frozen? ⟨w.heap.size, 3, none⟩ = false := ⟨hz.free 0, hz.free 1, hz.free 2, hz.free 3⟩; have HZE := Lib.hid ((((hz.put 0 (iv VM)).put 1 (iv VL)).put 2 (iv VQ)).put 3 (.bool true)); have HFE := Lib.hid ((((hf.but (Nat.le_refl _) (But.put (g := w.heap.size) (i := 0) _ (iv VM))).but (Nat.le_refl _) (But.put (g := w.heap.size) (i := 1) _ (iv VL))).but (Nat.le_refl _) (But.put (g := w.heap.size) (i := 2) _ (iv VQ))).but (Nat.le_refl _) (But.put (g := w.heap.size) (i := 3) _ (.bool true))); clear hb hz hf hb7 hw)))
          all_goals go_wp2
          all_goals go_meet
          all_goals exact ⟨rfl, HZE.out, HFE.out⟩
        case rest =>
          obtain ⟨rfl, hz9, hf9⟩ := hcut
          clear k0 k1 HBA HZA HFA HNE HFT
          have HZ9 := Lib.hid hz9
          have HF9 := Lib.hid hf9
          clear hz9 hf9
          go_wp2
          exact bodyPost_ret (results_row_tmp (p := 4) (u := 5) (by kernel_rfl) _ _ w.heap.size tTail [iv VM, iv VL, iv VQ, .bool true] _ rfl HZ9.out Tryz.underlying44 rfl (by kernel_rfl)) rfl ⟨by rw [HV0.out HAL.out.1, HV1.out HAL.out.2.1, HV2.out HAL.out.2.2]; rfl, HF9.out⟩
      · have hft := hfit false (decide_eq_false hall)
        have hres := HRES2.out
        rw [if_neg hall] at hres
        subst hres
        have HFT := Lib.hid hft
        clear hfit hft hall HRES2
        go_cut [5] (fun v wx => v = .bool false ∧ Bk wx w.heap.size tTail [iv VM, iv VL, iv VQ, .bool true] ∧ Fresh w wx)
        case first =>
          go_region_held3 (fun w' => w'.cell? ⟨t, 0, none⟩ = some (iv VM) ∧ w'.cell? ⟨t, 1, none⟩ = some (iv VL) ∧ w'.cell? ⟨t, 2, none⟩ = some (iv VQ) ∧ w'.cell? ⟨t, 3, none⟩ = some (.bool true)) (first | with_reducible exact k0 | with_reducible exact k1 | with_reducible exact k6 | with_reducible exact k7) (first | (go_at_call 39; ((refine HFT.out.mono ?_); rintro e w10 ⟨rfl, hw⟩; have hb := HBA.out; rw [hw] at hb; have hz := HZA.out; rw [hw] at hz; have hf := HFA.out; rw [hw] at hf; have k6 : w10.cell? ⟨t, 0, none⟩ = some (iv VM) ∧ w10.cell? ⟨t, 1, none⟩ = some (iv VL) ∧ w10.cell? ⟨t, 2, none⟩ = some (iv VQ) ∧ w10.cell? ⟨t, 3, none⟩ = some (.bool true) := ⟨hb.cell rfl, hb.cell rfl, hb.cell rfl, hb.cell rfl⟩; have hb7 := (((hb.apart (p := ⟨w.heap.size, 0, none⟩) HNE.out (iv VM)).apart (p := ⟨w.heap.size, 1, none⟩) HNE.out (iv VL)).apart (p := ⟨w.heap.size, 2, none⟩) HNE.out (iv VQ)).apart (p := ⟨w.heap.size, 3, none⟩) HNE.out (.bool true); have k7 : ((((w10.setCell ⟨w.heap.size, 0, none⟩ (iv VM)).setCell ⟨w.heap.size, 1, none⟩ (iv VL)).setCell ⟨w.heap.size, 2, none⟩ (iv VQ)).setCell ⟨w.heap.size, 3, none⟩ (.bool true)).cell? ⟨t, 0, none⟩ = some (iv VM) ∧ ((((w10.setCell ⟨w.heap.size, 0, none⟩ (iv VM)).setCell ⟨w.heap.size, 1, none⟩ (iv VL)).setCell ⟨w.heap.size, 2, none⟩ (iv VQ)).setCell ⟨w.heap.size, 3, none⟩ (.bool true)).cell? ⟨t, 1, none⟩ = some (iv VL) ∧ ((((w10.setCell ⟨w.heap.size, 0, none⟩ (iv VM)).setCell ⟨w.heap.size, 1, none⟩ (iv VL)).setCell ⟨w.heap.size, 2, none⟩ (iv VQ)).setCell ⟨w.heap.size, 3, none⟩ (.bool true)).cell? ⟨t, 2, none⟩ = some (iv VQ) ∧ ((((w10.setCell ⟨w.heap.size, 0, none⟩ (iv VM)).setCell ⟨w.heap.size, 1, none⟩ (iv VL)).setCell ⟨w.heap.size, 2, none⟩ (iv VQ)).setCell ⟨w.heap.size, 3, none⟩ (.bool true)).cell? ⟨t, 3, none⟩ = some (.bool true) := ⟨hb7.cell rfl, hb7.cell rfl, hb7.cell rfl, hb7.cell rfl⟩; have z0 : w10.cell? ⟨w.heap.size, 0, none⟩ = some (iv 0) ∧ w10.cell? ⟨w.heap.size, 1, none⟩ = some (iv 0) ∧ w10.cell? ⟨w.heap.size, 2, none⟩ = some (iv 0) ∧ w10.cell? ⟨w.heap.size, 3, none⟩ = some (.bool false) := ⟨hz.cell rfl, hz.cell rfl, hz.cell rfl, hz.cell rfl⟩; have z1 : w10.frozen? ⟨w.heap.size, 0, none⟩ = false ∧ w10.frozen? ⟨w.heap.size, 1, none⟩ = false ∧ w10.frozen? ⟨w.heap.size, 2, none⟩ = false ∧ w10.frozen? ⟨w.heap.size, 3, none⟩ = false := ⟨hz.free 0, hz.free 1, hz.free 2, hz.free 3⟩; have HZE := Lib.hid ((((hz.put 0 (iv VM)).put 1 (iv VL)).put 2 (iv VQ)).put 3 (.bool true)); have HFE := Lib.hid ((((hf.but (Nat.le_refl _) (But.put (g := w.heap.size) (i := 0) _ (iv VM))).but (Nat.le_refl _) (But.put (g := w.heap.size) (i := 1) _ (iv VL))).but (Nat.le_refl _) (But.put (g := w.heap.size) (i := 2) _ (iv VQ))).but (Nat.le_refl _) (But.put (g := w.heap.size) (i := 3) _ (.bool true))); clear hb hz hf hb7 hw)))
          all_goals go_wp2
          all_goals go_meet
          all_goals exact ⟨rfl, HZE.out, HFE.out⟩
        case rest =>
          obtain ⟨rfl, hz9, hf9⟩ := hcut
          clear k0 k1 HBA HZA HFA HNE HFT
          have HZ9 := Lib.hid hz9
          have HF9 := Lib.hid hf9
          clear hz9 hf9
          go_wp2
          exact bodyPost_ret (results_row_tmp (p := 4) (u := 5) (by kernel_rfl) _ _ w.heap.size tTail [iv VM, iv VL, iv VQ, .bool true] _ rfl HZ9.out Tryz.underlying44 rfl (by kernel_rfl)) rfl ⟨⟨_, _, _, _, rfl⟩, HF9.out⟩
end Go.Proofs.YtmnejphdjnlbjaaGreatDoor.recp
