/-
  Layer 13: a cut of a row, as a law; begins, runeOf, spanOf. My own text.
-/
import Derived.Test.YtkkkjadfhimahaaDoorGlbPrs
import Derived.Test.YtkkkjadfhimahaaDoorGlbRd
import Derived.Laws.Slices
namespace Go.Proofs.YtkkkjadfhimahaaDoor.base
open Go.RowKit
set_option linter.unusedVariables false
/-- 'x[k:]' of one-cell elements -/
theorem wpList_cut {P : Program} {w : World} {ops : Array Oper} {rest : List Oper} {o : Oper} {a : Act} {Q : Exit → Act → World → Prop} (hgd : Region.wanted o (yielded ops a.tmps) = true) (t e : TypeId) (x y : Operand) (ho : o.op = .slice t x (some y) none none) (hu : P.underlying t = some (.slice e)) (hsz : (P.info? e).map (·.size) = some 1)
    (A : Option Addr) (n c k B : Nat) (xs : List Value) (hx : a.eval x = .slice A n c) (hy : a.eval y = .int .i64 (k : Nat)) (hr : Rd w B A n xs) (hk : k ≤ n) (hc : n ≤ c)
    (h : ∀ D, Rd w B D (n - k) (xs.drop k) → wpList P ops Q rest (a.put o.dst (.slice D (n - k) (c - k))) w) : wpList P ops Q (o :: rest) a w := by
  refine wpList_step fun K hK => ?_
  rw [if_pos hgd]
  have he : P.elem t = e := by unfold Program.elem; rw [hu]
  have hu2 : P.underlying t = some (.slice (P.elem t)) := by rw [he]; exact hu
  have hcut := hr.cut (lo := k) (hi := n) (cap := c) hk (Nat.le_refl _) hc
  rw [List.take_of_length_le (by rw [List.length_drop, hr.1]; exact Nat.le_refl _)] at hcut
  have hs : (sizeOf (P.elem t)).run P w = .ok 1 w := by
    rw [he]
    cases hq : P.info? e with
    | none => simp [hq] at hsz
    | some i =>
      have : i.size = 1 := by simpa [hq] using hsz
      simp [sizeOf, typeInfo, hq, this]
  have hrun : (Instr.sliceAt t (.slice A n c) (some (.int .i64 (k : Nat))) none none).run P w = .ok (.slice (if c = k then A else A.map (·.add k)) (n - k) (c - k)) w := by
    rw [run_sliceAt_slice w t _ _ _ _ hu2, run_slice_l w t A n c hu2 .i64 (k : Nat) (by omega) (by omega), hs]
    simp [Result.andThen, sliced]
  unfold Oper.wp execOp
  simp only [ho, hx, hy, Option.map_some, Option.map_none, Sem.run_bind, hrun, Result.andThen_ok]
  exact hK _ _ (h _ hcut)
end Go.Proofs.YtkkkjadfhimahaaDoor.base
namespace Go.Proofs.YtkkkjadfhimahaaDoor.glbp
open Go.RowKit Go.Proofs.YtkkkjadfhimahaaDoor.base Go.Proofs.YtkkkjadfhimahaaDoor.nam Go.Proofs.YtkkkjadfhimahaaDoor.glb
set_option linter.unusedVariables false
abbrev tRow : TypeId := 61
theorem runeSize : (Tryd.prog.info? 21).map (·.size) = some 1 := by kernel_rfl
/-- runes in a row -/
abbrev rr (l : List Nat) : List Value := l.map r32
theorem rr_drop (l : List Nat) (k : Nat) : (rr l).drop k = rr (l.drop k) := by rw [rr, ← List.map_drop]
theorem begins_any (A : Option Addr) (n c B : Nat) (l : List Nat) (R : Int) (r : Nat) (hR : R = (r : Nat)) (w : World) (hr : Rd w B A n (rr l)) :
    Calls Tryd.prog 35 #[.slice A n c, .int .i32 R] w fun e w' => e = .returned (.bool (beg l r)) ∧ w' = w := by
  have hl : l.length = n := by have := hr.1; rwa [List.length_map] at this
  cases l with
  | nil =>
    have : n = 0 := by simp at hl; omega
    subst this
    have e1 : beg [] r = false := rfl
    rw [e1]
    clear hr hR hl
    go_enter Tryd.func35, Tryd.ntmps35
    go_wp2
    go_ret
    exact ⟨by simp, rfl⟩
  | cons a l =>
    have hn : 0 < n := by simp at hl; omega
    obtain ⟨b, off, x, rfl, hb, hx, hcx⟩ := hr.at_ hn
    simp at hx
    subst hx
    have e1 : beg (a :: l) r = ((a : Int) == R) := by
      rw [beg, hR]
      by_cases h : a = r
      · subst h; simp
      · rw [decide_eq_false h]; symm; rw [beq_eq_false_iff_ne]; omega
    rw [e1]
    rw [Nat.add_zero] at hcx
    have t1 : decide ((n : Int) > 0) = true := by rw [decide_eq_true_iff]; omega
    have t2 : decide (0 < (n : Int)) = true := by rw [decide_eq_true_iff]; omega
    have t3 : (0 : Int) < (n : Int) := by omega
    clear hr hR hl e1 hn
    go_enter Tryd.func35, Tryd.ntmps35
    go_wp2
    go_ret
    exact ⟨by simp, rfl⟩
/-- what runeOf tells -/
def runeV (l : List Nat) : Value := match runeP l with
  | none => .tuple #[.int .i32 0, .int .i64 0]
  | some (r, n) => .tuple #[r32 r, .int .i64 (n : Nat)]
theorem runeOf_any (A : Option Addr) (n c B : Nat) (l : List Nat) (w : World) (hr : Rd w B A n (rr l)) :
    Calls Tryd.prog 37 #[.slice A n c] w fun e w' => e = .returned (runeV l) ∧ w' = w := by
  have hl : l.length = n := by have := hr.1; rwa [List.length_map] at this
  cases l with
  | nil =>
    have : n = 0 := by simp at hl; omega
    subst this
    have e1 : runeV [] = .tuple #[.int .i32 0, .int .i64 0] := rfl
    rw [e1]
    clear hr hl
    go_enter Tryd.func37, Tryd.ntmps37
    go_wp2
    go_ret2
    exact ⟨rfl, rfl⟩
  | cons a l =>
    have hn : 0 < n := by simp at hl; omega
    have t0 : ((n : Int) == 0) = false := by rw [beq_eq_false_iff_ne]; omega
    obtain ⟨b, off, x, rfl, hb, hx, hcx⟩ := hr.at_ hn
    simp at hx
    subst hx
    rw [Nat.add_zero] at hcx
    have t3 : (0 : Int) < (n : Int) := by omega
    by_cases h92 : a = 92
    · subst h92
      cases l with
      | nil =>
        have : n = 1 := by simp at hl; omega
        subst this
        have e1 : runeV [92] = .tuple #[.int .i32 0, .int .i64 0] := rfl
        rw [e1]
        clear hr hl hn
        go_enter Tryd.func37, Tryd.ntmps37
        go_wp2
        go_ret2
        exact ⟨rfl, rfl⟩
      | cons y l =>
        have hn1 : 1 < n := by simp at hl; omega
        have t1 : ((n : Int) == 1) = false := by rw [beq_eq_false_iff_ne]; omega
        obtain ⟨b', off', x', e', hb', hx', hcx'⟩ := hr.at_ hn1
        injection e' with e'
        injection e' with e2 e3 _
        subst e2; subst e3
        simp at hx'
        subst hx'
        have e1 : runeV (92 :: y :: l) = .tuple #[r32 y, .int .i64 2] := rfl
        rw [e1]
        have t4 : (1 : Int) < (n : Int) := by omega
        clear hr hl hn hn1 e1
        go_enter Tryd.func37, Tryd.ntmps37
        go_wp2
        go_ret2
        exact ⟨rfl, rfl⟩
    · have e1 : runeV (a :: l) = .tuple #[r32 a, .int .i64 1] := by rw [runeV, runeP, if_neg h92]; rfl
      rw [e1]
      have t1 : ((a : Int) != 92) = true := by rw [bne_iff_ne]; omega
      clear hr hl hn e1 h92
      go_enter Tryd.func37, Tryd.ntmps37
      go_wp2
      go_ret2
      exact ⟨rfl, rfl⟩
theorem span_ret {P : Program} {fn : Func} {p u : Tmp} {ty : TypeId} (h : fn.results = #[.cell p ty, .tmp u]) (tmps : Array Value) (w : World) (g : Nat) (t : TypeId) (cs : List Value) (d : TypeDesc)
    (hp : tmps.getD p undef = .pointer (some ⟨g, 0, none⟩)) (hg : Bk w g t cs)
    (hu : P.underlying ty = some d) (hd : (match d with | .struct _ | .array _ _ => true | _ => false) = true) (hi : (P.info? ty).map (·.size) = some cs.length) :
    (results fn tmps).run P w = .ok (.tuple #[.agg cs.toArray, tmps.getD u undef]) w := by
  rw [results_cell_tmp h, hp]
  simp [asAddr, run_loadVar_row w g t ty cs.toArray (0, 0) d hg hu hd (by simpa using hi)]
/-- what spanOf tells -/
def spanV (l : List Nat) : Value := match spanP l with
  | none => .tuple #[.agg #[.int .i32 0, .int .i32 0], .int .i64 0]
  | some ((a, b), n) => .tuple #[.agg #[r32 a, r32 b], .int .i64 (n : Nat)]
set_option maxRecDepth 100000 in
theorem spanOf_any (A : Option Addr) (n c B : Nat) (l : List Nat) (w : World) (hr : Rd w B A n (rr l)) (hB : B ≤ w.heap.size) (hc : n ≤ c) (hm : n ≤ 1000) :
    Calls Tryd.prog 40 #[.slice A n c] w fun e w' => e = .returned (spanV l) ∧ Fresh w w' := by
  have hl : l.length = n := by have := hr.1; rwa [List.length_map] at this
  have b1 := Bk.made w tSpan #[.int .i32 0, .int .i32 0]
  have f1 := Fresh.alloc w (.cells #[.int .i32 0, .int .i32 0] tSpan)
  have hr1 := hr.alloc hB (.cells #[.int .i32 0, .int .i32 0] tSpan)
  have hru := runeOf_any A n c B l _ hr1
  have HR := Lib.hid hr1
  have HB1 := Lib.hid b1
  have HF1 := Lib.hid f1
  have HLN := Lib.hid hl
  clear hr b1 f1 hr1
  cases hp : runeP l with
  | none =>
    have e1 : spanV l = .tuple #[.agg #[.int .i32 0, .int .i32 0], .int .i64 0] := by rw [spanV, spanP, hp]
    have e2 : runeV l = .tuple #[.int .i32 0, .int .i64 0] := by rw [runeV, hp]
    rw [e2] at hru
    rw [e1]
    have HRU := Lib.hid hru
    clear hru e1 e2 hp
    go_enter Tryd.func40, Tryd.ntmps40
    go_wp2_with (first
      | (go_at_call 37; (refine HRU.out.mono ?_); rintro e w1 ⟨rfl, rfl⟩)
      | ((with_reducible refine at_store_ 2 31 ?_); refine wpList_store_blk rfl _ _ _ rfl w.heap.size 0 tSpan _ [.int .i32 0, .int .i32 0] rfl rfl HB1.out (by simp) (by intro v hv; simp at hv; rcases hv with rfl | rfl <;> rfl) (by kernel_rfl) ?_; intro w2 hb3 hbut2; have HB3 := Lib.hid hb3; have HU3 := Lib.hid hbut2; clear hb3 hbut2))
    exact bodyPost_ret (span_ret (p := 2) (u := 3) (by kernel_rfl) _ _ w.heap.size tSpan [.int .i32 0, .int .i32 0] _ rfl HB3.out Tryd.underlying105 rfl (by kernel_rfl)) rfl ⟨rfl, Fresh.but HF1.out (Nat.le_refl _) HU3.out⟩
  | some q =>
    obtain ⟨a, k⟩ := q
    have hk := runeP_le hp
    rw [hl] at hk
    have e2 : runeV l = .tuple #[r32 a, .int .i64 (k : Nat)] := by rw [runeV, hp]
    rw [e2] at hru
    have HRU := Lib.hid hru
    have t0 : ((k : Int) == 0) = false := by rw [beq_eq_false_iff_ne]; omega
    have hk1 := hk.1
    have hk2 := hk.2
    have ek : IntKind.i64.wrap ((k : Int) + 1) = ((k + 1 : Nat) : Int) := by rw [IntWalk.i64_in _ (by omega)]; omega
    clear hru e2 hk
    cases hb1 : beg (l.drop k) 45 with
    | false =>
      have e1 : spanV l = .tuple #[.agg #[r32 a, r32 a], .int .i64 (k : Nat)] := by rw [spanV, spanP, hp]; simp [hb1]
      rw [e1]
      have HBG := Lib.hid hb1
      clear hp e1 hb1
      go_enter Tryd.func40, Tryd.ntmps40
      go_wp2_with (first
        | (go_at_call 37; (refine HRU.out.mono ?_); rintro e w1 ⟨rfl, rfl⟩)
        | ((with_reducible refine at_slot_ 18 ?_); refine wpList_cut (by rfl) tRow 21 (.tmp 16) (.tmp 17) rfl Tryd.underlying61 runeSize A n c k B (rr l) rfl rfl HR.out hk2 hc ?_; intro D hD; rw [rr_drop] at hD; have hbg := begins_any D (n - k) (c - k) B (l.drop k) 45 45 rfl _ hD; rw [HBG.out] at hbg; have HBD := Lib.hid hbg; clear hD hbg)
        | (go_at_call 35; (refine HBD.out.mono ?_); rintro e w1 ⟨rfl, rfl⟩)
        | ((with_reducible refine at_store_ 2 31 ?_); refine wpList_store_blk rfl _ _ _ rfl w.heap.size 0 tSpan _ [r32 a, r32 a] rfl rfl HB1.out (by simp) (by intro v hv; simp at hv; subst hv; rfl) (by kernel_rfl) ?_; intro w2 hb3 hbut2; have HB3 := Lib.hid hb3; have HU3 := Lib.hid hbut2; clear hb3 hbut2))
      exact bodyPost_ret (span_ret (p := 2) (u := 3) (by kernel_rfl) _ _ w.heap.size tSpan [r32 a, r32 a] _ rfl HB3.out Tryd.underlying105 rfl (by kernel_rfl)) rfl ⟨rfl, Fresh.but HF1.out (Nat.le_refl _) HU3.out⟩
    | true =>
      have hkn : k + 1 ≤ n := by
        by_cases h : k + 1 ≤ n
        · exact h
        · rw [List.drop_of_length_le (by omega)] at hb1; cases hb1
      cases hb2 : beg (l.drop (k + 1)) 93 with
      | true =>
        have e1 : spanV l = .tuple #[.agg #[r32 a, r32 a], .int .i64 (k : Nat)] := by rw [spanV, spanP, hp]; simp [hb1, hb2]
        rw [e1]
        have HBG := Lib.hid hb1
        have HBH := Lib.hid hb2
        clear hp e1 hb1 hb2
        go_enter Tryd.func40, Tryd.ntmps40
        go_wp2_with (first
          | (go_at_call 37; (refine HRU.out.mono ?_); rintro e w1 ⟨rfl, rfl⟩)
          | ((with_reducible refine at_slot_ 18 ?_); refine wpList_cut (by rfl) tRow 21 (.tmp 16) (.tmp 17) rfl Tryd.underlying61 runeSize A n c k B (rr l) rfl rfl HR.out hk2 hc ?_; intro D hD; rw [rr_drop] at hD; have hbg := begins_any D (n - k) (c - k) B (l.drop k) 45 45 rfl _ hD; rw [HBG.out] at hbg; have HBD := Lib.hid hbg; clear hD hbg)
          | ((with_reducible refine at_slot_ 26 ?_); refine wpList_cut (by rfl) tRow 21 (.tmp 23) (.tmp 25) rfl Tryd.underlying61 runeSize A n c (k + 1) B (rr l) rfl rfl HR.out hkn hc ?_; intro D2 hD; rw [rr_drop] at hD; have hbg := begins_any D2 (n - (k + 1)) (c - (k + 1)) B (l.drop (k + 1)) 93 93 rfl _ hD; rw [HBH.out] at hbg; have HBE := Lib.hid hbg; clear hD hbg)
          | (go_at_call 35; (with_reducible refine HBD.out.mono ?_); rintro e w1 ⟨rfl, rfl⟩)
          | (go_at_call 35; (with_reducible refine HBE.out.mono ?_); rintro e w1 ⟨rfl, rfl⟩)
          | ((with_reducible refine at_store_ 2 31 ?_); refine wpList_store_blk rfl _ _ _ rfl w.heap.size 0 tSpan _ [r32 a, r32 a] rfl rfl HB1.out (by simp) (by intro v hv; simp at hv; subst hv; rfl) (by kernel_rfl) ?_; intro w2 hb3 hbut2; have HB3 := Lib.hid hb3; have HU3 := Lib.hid hbut2; clear hb3 hbut2))
        exact bodyPost_ret (span_ret (p := 2) (u := 3) (by kernel_rfl) _ _ w.heap.size tSpan [r32 a, r32 a] _ rfl HB3.out Tryd.underlying105 rfl (by kernel_rfl)) rfl ⟨rfl, Fresh.but HF1.out (Nat.le_refl _) HU3.out⟩
      | false =>
        have HBG := Lib.hid hb1
        have HBH := Lib.hid hb2
        have hun : spanP l = (match runeP (l.drop (k + 1)) with
          | none => none
          | some (b, m) => if b < a then none else some ((a, b), k + 1 + m)) := by rw [spanP, hp]; simp only; rw [if_pos ⟨hb1, hb2⟩]; rfl
        clear hp hb1 hb2
        cases hr2 : runeP (l.drop (k + 1)) with
        | none =>
          have e1 : spanV l = .tuple #[.agg #[.int .i32 0, .int .i32 0], .int .i64 0] := by rw [spanV, hun, hr2]
          have hrv : runeV (l.drop (k + 1)) = .tuple #[.int .i32 0, .int .i64 0] := by rw [runeV, hr2]
          rw [e1]
          have HRV := Lib.hid hrv
          clear e1 hun hr2 hrv
          go_enter Tryd.func40, Tryd.ntmps40
          go_wp2_with (first
            | (go_at_call 37; (with_reducible refine HRU.out.mono ?_); rintro e w1 ⟨rfl, rfl⟩)
            | ((with_reducible refine at_slot_ 18 ?_); refine wpList_cut (by rfl) tRow 21 (.tmp 16) (.tmp 17) rfl Tryd.underlying61 runeSize A n c k B (rr l) rfl rfl HR.out hk2 hc ?_; intro D hD; rw [rr_drop] at hD; have hbg := begins_any D (n - k) (c - k) B (l.drop k) 45 45 rfl _ hD; rw [HBG.out] at hbg; have HBD := Lib.hid hbg; clear hD hbg)
            | ((with_reducible refine at_slot_ 26 ?_); refine wpList_cut (by rfl) tRow 21 (.tmp 23) (.tmp 25) rfl Tryd.underlying61 runeSize A n c (k + 1) B (rr l) rfl rfl HR.out hkn hc ?_; intro D2 hD; rw [rr_drop] at hD; have hbg := begins_any D2 (n - (k + 1)) (c - (k + 1)) B (l.drop (k + 1)) 93 93 rfl _ hD; rw [HBH.out] at hbg; have HBE := Lib.hid hbg; clear hD hbg)
            | (go_at_call 35; (with_reducible refine HBD.out.mono ?_); rintro e w1 ⟨rfl, rfl⟩)
            | (go_at_call 35; (with_reducible refine HBE.out.mono ?_); rintro e w1 ⟨rfl, rfl⟩)
            | ((with_reducible refine at_slot_ 37 ?_); refine wpList_cut (by rfl) tRow 21 (.tmp 34) (.tmp 36) rfl Tryd.underlying61 runeSize A n c (k + 1) B (rr l) rfl rfl HR.out hkn hc ?_; intro D3 hD; rw [rr_drop] at hD; have hbg := runeOf_any D3 (n - (k + 1)) (c - (k + 1)) B (l.drop (k + 1)) _ hD; rw [HRV.out] at hbg; have HBF := Lib.hid hbg; clear hD hbg)
            | (go_at_call 37; (with_reducible refine HBF.out.mono ?_); rintro e w1 ⟨rfl, rfl⟩)
            | ((with_reducible refine at_store_ 2 48 ?_); refine wpList_store_blk rfl _ _ _ rfl w.heap.size 0 tSpan _ [.int .i32 0, .int .i32 0] rfl rfl HB1.out (by simp) (by intro v hv; simp at hv; rcases hv with rfl | rfl <;> rfl) (by kernel_rfl) ?_; intro w2 hb3 hbut2; have HB3 := Lib.hid hb3; have HU3 := Lib.hid hbut2; clear hb3 hbut2))
          exact bodyPost_ret (span_ret (p := 2) (u := 3) (by kernel_rfl) _ _ w.heap.size tSpan [.int .i32 0, .int .i32 0] _ rfl HB3.out Tryd.underlying105 rfl (by kernel_rfl)) rfl ⟨rfl, Fresh.but HF1.out (Nat.le_refl _) HU3.out⟩
        | some q2 =>
          obtain ⟨b, m⟩ := q2
          have hm2 := runeP_le hr2
          rw [List.length_drop, HLN.out] at hm2
          have hrv : runeV (l.drop (k + 1)) = .tuple #[r32 b, .int .i64 (m : Nat)] := by rw [runeV, hr2]
          have HRV := Lib.hid hrv
          have hm3 := hm2.1
          have hm4 := hm2.2
          have t5 : ((m : Int) == 0) = false := by rw [beq_eq_false_iff_ne]; omega
          clear hm2 hrv
          by_cases hba : b < a
          · have e1 : spanV l = .tuple #[.agg #[.int .i32 0, .int .i32 0], .int .i64 0] := by rw [spanV, hun, hr2]; simp [hba]
            rw [e1]
            have t6 : decide ((b : Int) < (a : Int)) = true := by rw [decide_eq_true_iff]; omega
            have t7 : decide (b < a) = true := decide_eq_true hba
            clear e1 hun hr2
            go_enter Tryd.func40, Tryd.ntmps40
            go_wp2_with (first
              | (go_at_call 37; (with_reducible refine HRU.out.mono ?_); rintro e w1 ⟨rfl, rfl⟩)
              | ((with_reducible refine at_slot_ 18 ?_); refine wpList_cut (by rfl) tRow 21 (.tmp 16) (.tmp 17) rfl Tryd.underlying61 runeSize A n c k B (rr l) rfl rfl HR.out hk2 hc ?_; intro D hD; rw [rr_drop] at hD; have hbg := begins_any D (n - k) (c - k) B (l.drop k) 45 45 rfl _ hD; rw [HBG.out] at hbg; have HBD := Lib.hid hbg; clear hD hbg)
              | ((with_reducible refine at_slot_ 26 ?_); refine wpList_cut (by rfl) tRow 21 (.tmp 23) (.tmp 25) rfl Tryd.underlying61 runeSize A n c (k + 1) B (rr l) rfl rfl HR.out hkn hc ?_; intro D2 hD; rw [rr_drop] at hD; have hbg := begins_any D2 (n - (k + 1)) (c - (k + 1)) B (l.drop (k + 1)) 93 93 rfl _ hD; rw [HBH.out] at hbg; have HBE := Lib.hid hbg; clear hD hbg)
              | (go_at_call 35; (with_reducible refine HBD.out.mono ?_); rintro e w1 ⟨rfl, rfl⟩)
              | (go_at_call 35; (with_reducible refine HBE.out.mono ?_); rintro e w1 ⟨rfl, rfl⟩)
              | ((with_reducible refine at_slot_ 37 ?_); refine wpList_cut (by rfl) tRow 21 (.tmp 34) (.tmp 36) rfl Tryd.underlying61 runeSize A n c (k + 1) B (rr l) rfl rfl HR.out hkn hc ?_; intro D3 hD; rw [rr_drop] at hD; have hbg := runeOf_any D3 (n - (k + 1)) (c - (k + 1)) B (l.drop (k + 1)) _ hD; rw [HRV.out] at hbg; have HBF := Lib.hid hbg; clear hD hbg)
              | (go_at_call 37; (with_reducible refine HBF.out.mono ?_); rintro e w1 ⟨rfl, rfl⟩)
              | ((with_reducible refine at_store_ 2 48 ?_); refine wpList_store_blk rfl _ _ _ rfl w.heap.size 0 tSpan _ [.int .i32 0, .int .i32 0] rfl rfl HB1.out (by simp) (by intro v hv; simp at hv; rcases hv with rfl | rfl <;> rfl) (by kernel_rfl) ?_; intro w2 hb3 hbut2; have HB3 := Lib.hid hb3; have HU3 := Lib.hid hbut2; clear hb3 hbut2))
            exact bodyPost_ret (span_ret (p := 2) (u := 3) (by kernel_rfl) _ _ w.heap.size tSpan [.int .i32 0, .int .i32 0] _ rfl HB3.out Tryd.underlying105 rfl (by kernel_rfl)) rfl ⟨rfl, Fresh.but HF1.out (Nat.le_refl _) HU3.out⟩
          · have e1 : spanV l = .tuple #[.agg #[r32 a, r32 b], .int .i64 ((k + 1 + m : Nat) : Int)] := by rw [spanV, hun, hr2]; simp [hba]
            rw [e1]
            have t6 : decide ((b : Int) < (a : Int)) = false := by rw [decide_eq_false_iff_not]; omega
            have t7 : decide (b < a) = false := decide_eq_false hba
            have ekm : IntKind.i64.wrap ((k : Int) + 1 + (m : Int)) = ((k + 1 + m : Nat) : Int) := by rw [IntWalk.i64_in _ (by omega)]; omega
            clear e1 hun hr2
            go_enter Tryd.func40, Tryd.ntmps40
            go_wp2_with (first
              | (go_at_call 37; (with_reducible refine HRU.out.mono ?_); rintro e w1 ⟨rfl, rfl⟩)
              | ((with_reducible refine at_slot_ 18 ?_); refine wpList_cut (by rfl) tRow 21 (.tmp 16) (.tmp 17) rfl Tryd.underlying61 runeSize A n c k B (rr l) rfl rfl HR.out hk2 hc ?_; intro D hD; rw [rr_drop] at hD; have hbg := begins_any D (n - k) (c - k) B (l.drop k) 45 45 rfl _ hD; rw [HBG.out] at hbg; have HBD := Lib.hid hbg; clear hD hbg)
              | ((with_reducible refine at_slot_ 26 ?_); refine wpList_cut (by rfl) tRow 21 (.tmp 23) (.tmp 25) rfl Tryd.underlying61 runeSize A n c (k + 1) B (rr l) rfl rfl HR.out hkn hc ?_; intro D2 hD; rw [rr_drop] at hD; have hbg := begins_any D2 (n - (k + 1)) (c - (k + 1)) B (l.drop (k + 1)) 93 93 rfl _ hD; rw [HBH.out] at hbg; have HBE := Lib.hid hbg; clear hD hbg)
              | (go_at_call 35; (with_reducible refine HBD.out.mono ?_); rintro e w1 ⟨rfl, rfl⟩)
              | (go_at_call 35; (with_reducible refine HBE.out.mono ?_); rintro e w1 ⟨rfl, rfl⟩)
              | ((with_reducible refine at_slot_ 37 ?_); refine wpList_cut (by rfl) tRow 21 (.tmp 34) (.tmp 36) rfl Tryd.underlying61 runeSize A n c (k + 1) B (rr l) rfl rfl HR.out hkn hc ?_; intro D3 hD; rw [rr_drop] at hD; have hbg := runeOf_any D3 (n - (k + 1)) (c - (k + 1)) B (l.drop (k + 1)) _ hD; rw [HRV.out] at hbg; have HBF := Lib.hid hbg; clear hD hbg)
              | (go_at_call 37; (with_reducible refine HBF.out.mono ?_); rintro e w1 ⟨rfl, rfl⟩)
              | ((with_reducible refine at_store_ 2 51 ?_); refine wpList_store_blk rfl _ _ _ rfl w.heap.size 0 tSpan _ [r32 a, r32 b] rfl rfl HB1.out (by simp) (by intro v hv; simp at hv; rcases hv with rfl | rfl <;> rfl) (by kernel_rfl) ?_; intro w2 hb3 hbut2; have HB3 := Lib.hid hb3; have HU3 := Lib.hid hbut2; clear hb3 hbut2))
            exact bodyPost_ret (span_ret (p := 2) (u := 3) (by kernel_rfl) _ _ w.heap.size tSpan [r32 a, r32 b] _ rfl HB3.out Tryd.underlying105 rfl (by kernel_rfl)) rfl ⟨by first | rfl | (simp; done) | (simp; omega), Fresh.but HF1.out (Nat.le_refl _) HU3.out⟩
end Go.Proofs.YtkkkjadfhimahaaDoor.glbp
