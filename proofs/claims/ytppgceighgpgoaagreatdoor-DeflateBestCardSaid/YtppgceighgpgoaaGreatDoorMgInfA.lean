import Derived.Test.YtppgceighgpgoaaGreatDoorInfSpread
/- Several of my own texts, one behind the other. -/
/-
  The contract of codeOf. My own text.
-/
namespace Go.Proofs.YtppgceighgpgoaaGreatDoor.infp
open Go.RowKit Go.Proofs.YtppgceighgpgoaaGreatDoor.base Go.Proofs.YtppgceighgpgoaaGreatDoor.num Go.Proofs.YtppgceighgpgoaaGreatDoor.bitnum Go.Proofs.YtppgceighgpgoaaGreatDoor.bitp Go.Proofs.YtppgceighgpgoaaGreatDoor.huffnum Go.Proofs.YtppgceighgpgoaaGreatDoor.huffp Go.Proofs.YtppgceighgpgoaaGreatDoor.infnum
set_option linter.unusedVariables false

theorem nv_zs (ls : List Nat) : nv ls = (ls.map fun x : Nat => (x : Int)).map iv := by rw [List.map_map]; rfl
theorem zs_ls (ls : List Nat) : (ls.map fun x : Nat => (x : Int)).map Int.toNat = ls := by
  rw [List.map_map]
  exact List.map_id'' (fun x => by simp) ls
/-- huff.New of lengths that may be -/
def MadeIs (w : World) (ls : List Nat) (e : Ending) (w' : World) : Prop := ∃ g bl, e = .returned (.tuple #[ptr g, .int .i64 0]) ∧ CodeAt w' g ls bl ∧ Since w w' bl
theorem made_over (A : Option Addr) (n c : Nat) (ls : List Nat) (w : World) (B : Nat) (hr : Rd w B A n (nv ls)) (hB : B ≤ w.heap.size) (hn : n ≤ 320) (h15 : ∀ x ∈ ls, x ≤ 15) (ho : 32768 < tx ls 15) :
    Calls Tryz.prog 24 #[.slice A n c] w fun e w' => e = .returned (.tuple #[.pointer none, .int .i64 12]) ∧ Fresh w w' := by
  rw [nv_zs] at hr
  refine (new_any A n c _ w B hr hB hn).mono ?_
  rintro e w' (⟨⟨z, hz, hb⟩, _⟩ | ⟨_, _, he, hf⟩ | ⟨_, h, _⟩)
  · obtain ⟨x, hx, rfl⟩ := List.mem_map.1 hz
    have := h15 x hx; omega
  · exact ⟨he, hf⟩
  · rw [zs_ls] at h; omega
theorem made_ok (A : Option Addr) (n c : Nat) (ls : List Nat) (w : World) (B : Nat) (hr : Rd w B A n (nv ls)) (hB : B ≤ w.heap.size) (hn : n ≤ 320) (h15 : ∀ x ∈ ls, x ≤ 15) (ho : tx ls 15 ≤ 32768) :
    Calls Tryz.prog 24 #[.slice A n c] w (MadeIs w ls) := by
  rw [nv_zs] at hr
  refine (new_any A n c _ w B hr hB hn).mono ?_
  rintro e w' (⟨⟨z, hz, hb⟩, _⟩ | ⟨_, h, _⟩ | ⟨_, _, g, bl, he, hC, hS⟩)
  · obtain ⟨x, hx, rfl⟩ := List.mem_map.1 hz
    have := h15 x hx; omega
  · rw [zs_ls] at h; omega
  · rw [zs_ls] at hC
    exact ⟨g, bl, he, hC, hS⟩
theorem sum_more {ls : List Nat} {j x : Nat} (h : ls[j]? = some x) : (ls.take (j + 1)).sum = (ls.take j).sum + x := by
  rw [take_one_more _ _ _ h, List.sum_append]; simp
theorem sum_le {ls : List Nat} (h : ∀ x ∈ ls, x ≤ 15) : ls.sum ≤ 15 * ls.length := by
  induction ls with
  | nil => simp
  | cons a l ih =>
    have h1 := h a (by simp)
    have h2 := ih fun x hx => h x (List.mem_cons_of_mem _ hx)
    rw [List.sum_cons, List.length_cons]
    omega
/-- what codeOf tells -/
def CodeOfIs (w : World) (ls : List Nat) (none : Bool) (e : Ending) (w' : World) : Prop :=
  if mayBe ls none = false then e = .returned (.tuple #[.pointer Option.none, .int .i64 12]) ∧ Fresh w w' else MadeIs w ls e w'
set_option maxHeartbeats 2000000 in
set_option maxRecDepth 100000 in
theorem codeOf_any (A : Option Addr) (n c : Nat) (ls : List Nat) (none : Bool) (w : World) (B : Nat) (hr : Rd w B A n (nv ls)) (hB : B ≤ w.heap.size) (hn : n ≤ 320) (h15 : ∀ x ∈ ls, x ≤ 15) (least : Nat) (hl : least = if none then 0 else 1) :
    Calls Tryz.prog 107 #[.slice A n c, .int .i64 least] w (CodeOfIs w ls none) := by
  have hlen : ls.length = n := by have := hr.1; rwa [List.length_map] at this
  by_cases ho : 32768 < tx ls 15
  · have hm : mayBe ls none = false := by unfold mayBe; rw [decide_eq_false (by omega)]; rfl
    have hnew := made_over A n c ls w B hr hB hn h15 ho
    have HNEW := Lib.hid hnew
    unfold CodeOfIs
    rw [hm]
    simp only [if_true]
    clear hnew ho hm hl
    go_enter Tryz.func107, Tryz.ntmps107
    go_wp2_with (go_at_call 24; refine HNEW.out.mono ?_; rintro e w1 ⟨rfl, hf1⟩)
    go_ret2
    exact ⟨rfl, hf1⟩
  · have hnew := made_ok A n c ls w B hr hB hn h15 (by omega)
    have HNEW := Lib.hid hnew
    have hs5 := sum_le h15
    rw [hlen] at hs5
    obtain ⟨T, hT⟩ : ∃ T, tx ls 15 = T := ⟨_, rfl⟩
    obtain ⟨F, hF⟩ : ∃ F, (if T < 32768 then 1 else 0) = F := ⟨_, rfl⟩
    obtain ⟨S, hS⟩ : ∃ S, ls.sum = S := ⟨_, rfl⟩
    have hS5 : S ≤ 4800 := by omega
    have hmb : mayBe ls none = (decide (T = 32768) || decide (S = 1) || (none && decide (S = 0))) := by
      unfold mayBe; rw [hT, hS, decide_eq_true (by omega), Bool.true_and]
    -- what the test tells
    have hway : (F = 0 ∧ mayBe ls none = true) ∨ (F = 1 ∧ (S : Int) < (least : Int) ∧ mayBe ls none = false) ∨ (F = 1 ∧ ¬ (S : Int) < (least : Int) ∧ (S : Int) > 1 ∧ mayBe ls none = false) ∨ (F = 1 ∧ ¬ (S : Int) < (least : Int) ∧ ¬ (S : Int) > 1 ∧ mayBe ls none = true) := by
      by_cases hT2 : T < 32768
      · rw [if_pos hT2] at hF
        have hTn : decide (T = 32768) = false := decide_eq_false (by omega)
        rw [hmb, hTn]
        cases none
        · simp only [Bool.false_eq_true, if_false] at hl
          rcases Nat.lt_trichotomy S 1 with h | h | h
          · exact .inr (.inl ⟨hF.symm, by omega, by simp; omega⟩)
          · exact .inr (.inr (.inr ⟨hF.symm, by omega, by omega, by simp [h]⟩))
          · exact .inr (.inr (.inl ⟨hF.symm, by omega, by omega, by simp; omega⟩))
        · simp only [if_true] at hl
          by_cases h : S ≤ 1
          · exact .inr (.inr (.inr ⟨hF.symm, by omega, by omega, by simp; omega⟩))
          · exact .inr (.inr (.inl ⟨hF.symm, by omega, by omega, by simp; omega⟩))
      · rw [if_neg hT2] at hF
        refine .inl ⟨hF.symm, ?_⟩
        rw [hmb, decide_eq_true (by omega)]; rfl
    have HT := Lib.hid hT
    have HS := Lib.hid hS
    have HF := Lib.hid hF
    have HLEN := Lib.hid hlen
    have HR := Lib.hid hr
    have HW := Lib.hid hway
    have H15 := Lib.hid h15
    clear hnew ho hl hs5 hT hF hS hmb hlen hway h15
    go_enter Tryz.func107, Tryz.ntmps107
    go_wp2_with (go_at_call 24; refine HNEW.out.mono ?_; rintro e w1 ⟨q, cbl, rfl, hC, hSi⟩; have hrw := hr.below hSi.1 hB)
    go_loopw [8, 21] (fun s i wr => ∃ j, j ≤ n ∧ i = .int .i64 (j : Nat) ∧ (∃ z, z ≤ 4800 ∧ s = .int .i64 (z : Nat) ∧ Hid (z = (ls.take j).sum)) ∧ w1 = wr) (fun _ i _ => n - (intOf i).toNat)
    case atStart => exact ⟨0, by omega, rfl, ⟨0, by omega, rfl, rfl⟩, rfl⟩
    case round =>
      obtain ⟨j, hj, rfl, ⟨z, hz, rfl, hzs⟩, rfl⟩ := hrel
      by_cases hlt : j < n
      · obtain ⟨b, off, x, rfl, hb, hx, hcx⟩ := hrw.at_ (enc := fun x : Nat => iv (x : Int)) hlt
        have hx15 : x ≤ 15 := H15.out x (List.mem_of_getElem? hx)
        have hzx : Hid (z + x = (ls.take (j + 1)).sum) := by show _ = _; rw [sum_more hx, hzs.out]
        have hle : z + x ≤ 4800 := by
          rw [hzx.out]
          have := sum_le (ls := ls.take (j + 1)) fun y hy => H15.out y (List.mem_of_mem_take hy)
          rw [List.length_take] at this
          have := HLEN.out
          omega
        have HX := Lib.hid hx
        clear hx
        go_wp2
        go_roundw
        case rel => exact ⟨j + 1, by omega, by go_num, ⟨z + x, hle, by go_num, hzx⟩, trivial⟩
        case measure => simp [intOf]; omega
      · have hj2 : j = n := by omega
        subst hj2
        have hzS : z = S := by
          rw [hzs.out, List.take_of_length_le (Nat.le_of_eq HLEN.out)]; exact HS.out
        subst hzS
        have hfill := fill_is q ls cbl T w1 hC HT.out F HF.out.symm
        have HFILL := Lib.hid hfill
        clear hfill hzs hrw
        rcases HW.out with ⟨rfl, hm⟩ | ⟨rfl, h1, hm⟩ | ⟨rfl, h1, h2, hm⟩ | ⟨rfl, h1, h2, hm⟩
        all_goals
          go_wp2_with (go_at_call 111; refine HFILL.out.mono ?_; rintro e w2 ⟨rfl, rfl⟩)
          go_ret2
          unfold CodeOfIs
          rw [hm]
        · exact ⟨q, cbl, rfl, hC, hSi⟩
        · exact ⟨rfl, hSi.1⟩
        · exact ⟨rfl, hSi.1⟩
        · exact ⟨q, cbl, rfl, hC, hSi⟩
end Go.Proofs.YtppgceighgpgoaaGreatDoor.infp
/-
  The contracts of fixedCodes, useFixed. My own text.
-/
namespace Go.Proofs.YtppgceighgpgoaaGreatDoor.infp
open Go.RowKit Go.Proofs.YtppgceighgpgoaaGreatDoor.base Go.Proofs.YtppgceighgpgoaaGreatDoor.num Go.Proofs.YtppgceighgpgoaaGreatDoor.bitnum Go.Proofs.YtppgceighgpgoaaGreatDoor.bitp Go.Proofs.YtppgceighgpgoaaGreatDoor.huffnum Go.Proofs.YtppgceighgpgoaaGreatDoor.huffp Go.Proofs.YtppgceighgpgoaaGreatDoor.infnum
set_option linter.unusedVariables false

/-- the fixed lengths, both codes' -/
def fx : List Nat := fixedLits ++ fixedDist
theorem fx_len : fx.length = 320 := by decide +kernel
theorem fx_at : ∀ j, j < 320 → fx.getD j 0 = if j < 144 then 8 else if j < 256 then 9 else if j < 280 then 7 else if j < 288 then 8 else 5 := by decide +kernel
theorem fx_lits : fx.take 288 = fixedLits := by decide +kernel
theorem fx_dist : fx.drop 288 = fixedDist := by decide +kernel
theorem fit_lits : Fit fixedLits := ⟨by decide +kernel, by decide +kernel⟩
theorem fit_dist : Fit fixedDist := ⟨by decide +kernel, by decide +kernel⟩
/-- the first j of them, then zeros -/
def fxj (j : Nat) : List Value := nv (fx.take j ++ List.replicate (320 - j) 0)
theorem fxj_len (j : Nat) (h : j ≤ 320) : (fxj j).length = 320 := by
  simp [fxj, fx_len]; omega
theorem fxj_get {j : Nat} (h : j < 320) : (fxj j)[j]? = some (iv 0) := by
  unfold fxj
  rw [List.getElem?_map, List.getElem?_append_right (by rw [List.length_take, fx_len]; omega), List.length_take, fx_len, Nat.min_eq_left (by omega), Nat.sub_self, List.getElem?_replicate, if_pos (by omega)]
  rfl
theorem fxj_set {j x : Nat} (h : j < 320) (hx : fx.getD j 0 = x) : (fxj j).set j (iv (x : Nat)) = fxj (j + 1) := by
  have hj : fx[j]? = some x := by
    have hl : j < fx.length := by rw [fx_len]; exact h
    rw [List.getElem?_eq_getElem hl]
    rw [List.getD_eq_getElem?_getD, List.getElem?_eq_getElem hl] at hx
    exact congrArg some hx
  unfold fxj
  rw [take_one_more _ _ _ hj, show (iv (x : Nat)) = (fun x : Nat => iv (x : Int)) x from rfl, ← List.map_set]
  congr 1
  rw [List.set_append_right _ _ (by rw [List.length_take, fx_len]; omega), List.length_take, fx_len, Nat.min_eq_left (by omega), Nat.sub_self, show 320 - j = (320 - (j + 1)) + 1 by omega, List.replicate_succ, List.set_cons_zero, List.append_assoc]
  rfl
theorem fxj_all : fxj 320 = nv fx := by
  unfold fxj
  rw [List.take_of_length_le (by rw [fx_len]; exact Nat.le_refl _)]
  simp
theorem fxj_none : fxj 0 = List.replicate 320 (iv 0) := by
  unfold fxj nv
  rw [List.take_zero, List.nil_append, Nat.sub_zero, List.map_replicate]
  rfl
theorem zero_320 (W : World) : (zeroValue 157).run Tryz.prog W = .ok (.agg (Array.replicate 320 (.int .i64 0))) W := by kernel_rfl
theorem Bk.rd {w : World} {g off n : Nat} {T : TypeId} {cs : List Value} (h : Bk w g T cs) (hn : off + n ≤ cs.length) : Rd w w.heap.size (some ⟨g, off, none⟩) n ((cs.drop off).take n) := by
  refine ⟨by rw [List.length_take, List.length_drop]; omega, fun _ => ⟨g, off, rfl, h.inside, fun j u hu => ?_⟩⟩
  rw [List.getElem?_take] at hu
  split at hu
  · rw [List.getElem?_drop] at hu
    exact h.cell hu
  · cases hu
set_option maxHeartbeats 4000000 in
set_option maxRecDepth 100000 in
theorem fixed_gen (LA LD : List Nat) (hA : fx.take 288 = LA) (hD : fx.drop 288 = LD) (fA : Fit LA) (fD : Fit LD) (lD : LD.length = 32) (w : World) : Calls Tryz.prog 93 #[] w fun e w' => ∃ s d sbl dbl, e = .returned (.agg #[ptr s, ptr d]) ∧ CodeAt w' s LA sbl ∧ CodeAt w' d LD dbl ∧ Since w w' sbl ∧ Since w w' dbl := by
  go_enter Tryz.func93, Tryz.ntmps93
  have hz := zero_320
  have HA := Lib.hid hA
  have HD := Lib.hid hD
  clear hA hD
  go_wp2
  have hL : Bk ((w.alloc (.cells #[.pointer none, .pointer none] 78)).alloc (.cells (Array.replicate 320 (.int .i64 0)) 157)) (w.heap.size + 1) 157 (fxj 0) := by
    have := Bk.made (w.alloc (.cells #[.pointer none, .pointer none] 78)) 157 (Array.replicate 320 (.int .i64 0))
    rw [fxj_none]
    simpa using this
  have hP : Bk ((w.alloc (.cells #[.pointer none, .pointer none] 78)).alloc (.cells (Array.replicate 320 (.int .i64 0)) 157)) w.heap.size 78 [.pointer none, .pointer none] := (Bk.made w 78 #[.pointer none, .pointer none]).alloc _
  have hf0 : Fresh w ((w.alloc (.cells #[.pointer none, .pointer none] 78)).alloc (.cells (Array.replicate 320 (.int .i64 0)) 157)) := (Fresh.alloc _ _).trans (Fresh.alloc _ _)
  have HL := Lib.hid hL
  have HP := Lib.hid hP
  have HF0 := Lib.hid hf0
  clear hL hP hf0 hz
  go_loopw [7] (fun i wr => ∃ j, j ≤ 320 ∧ i = .int .i64 (j : Nat) ∧ Bk wr (w.heap.size + 1) 157 (fxj j) ∧ Bk wr w.heap.size 78 [.pointer none, .pointer none] ∧ Fresh w wr) (fun i _ => 320 - (intOf i).toNat)
  case atStart => exact ⟨0, by omega, rfl, HL.out, HP.out, HF0.out⟩
  case round =>
    obtain ⟨j, hj, rfl, hB, hP, hf⟩ := hrel
    by_cases hlt : j < 320
    · have hcj := hB.cell (fxj_get hlt)
      have hfj := hB.free j
      have hat := fx_at j hlt
      have hlb : decide ((j : Int) < 320) = true := decide_eq_true (by omega)
      have hli : (j : Int) ≤ 319 := by omega
      have HAT := Lib.hid hat
      have HJ := Lib.hid hj
      have HLT := Lib.hid hlt
      clear hat hj hlt
      have hway : ((decide ((j : Int) < 144) = true ∧ fx.getD j 0 = 8) ∨ (decide ((j : Int) < 144) = false ∧ decide ((j : Int) < 256) = true ∧ fx.getD j 0 = 9) ∨ (decide ((j : Int) < 144) = false ∧ decide ((j : Int) < 256) = false ∧ decide ((j : Int) < 280) = true ∧ fx.getD j 0 = 7) ∨ (decide ((j : Int) < 144) = false ∧ decide ((j : Int) < 256) = false ∧ decide ((j : Int) < 280) = false ∧ decide ((j : Int) < 288) = true ∧ fx.getD j 0 = 8) ∨ (decide ((j : Int) < 144) = false ∧ decide ((j : Int) < 256) = false ∧ decide ((j : Int) < 280) = false ∧ decide ((j : Int) < 288) = false ∧ fx.getD j 0 = 5)) := by
        have h := HAT.out
        by_cases h1 : j < 144
        · rw [if_pos h1] at h; exact .inl ⟨decide_eq_true (by omega), h⟩
        · rw [if_neg h1] at h
          have d1 : decide ((j : Int) < 144) = false := decide_eq_false (by omega)
          by_cases h2 : j < 256
          · rw [if_pos h2] at h; exact .inr (.inl ⟨d1, decide_eq_true (by omega), h⟩)
          · rw [if_neg h2] at h
            have d2 : decide ((j : Int) < 256) = false := decide_eq_false (by omega)
            by_cases h3 : j < 280
            · rw [if_pos h3] at h; exact .inr (.inr (.inl ⟨d1, d2, decide_eq_true (by omega), h⟩))
            · rw [if_neg h3] at h
              have d3 : decide ((j : Int) < 280) = false := decide_eq_false (by omega)
              by_cases h4 : j < 288
              · rw [if_pos h4] at h; exact .inr (.inr (.inr (.inl ⟨d1, d2, d3, decide_eq_true (by omega), h⟩)))
              · rw [if_neg h4] at h
                exact .inr (.inr (.inr (.inr ⟨d1, d2, d3, decide_eq_false (by omega), h⟩)))
      rcases hway with ⟨d1, hx⟩ | ⟨d1, d2, hx⟩ | ⟨d1, d2, d3, hx⟩ | ⟨d1, d2, d3, d4, hx⟩ | ⟨d1, d2, d3, d4, hx⟩
      all_goals
        have hset := fxj_set HLT.out hx
        have HSET := Lib.hid hset
        clear hset hx
        go_wp2
        go_roundw
        case rel => exact ⟨j + 1, by have := HLT.out; omega, by go_num, by rw [← HSET.out]; exact hB.put j _, hP.apart (by show w.heap.size ≠ w.heap.size + 1; omega) _, hf.but (by omega) (But.put (g := w.heap.size + 1) (i := j) _ _)⟩
        case measure => simp [intOf]; have := HLT.out; omega
    · have hj2 : j = 320 := by omega
      subst hj2
      rw [fxj_all] at hB
      have hbl : w.heap.size + 1 < wr.heap.size := hB.inside
      have hr1 : Rd wr wr.heap.size (some ⟨w.heap.size + 1, 0, none⟩) 288 (nv LA) := by
        have := Bk.rd hB (off := 0) (n := 288) (by rw [List.length_map, fx_len]; omega)
        rw [List.drop_zero, ← List.map_take, HA.out] at this
        exact this
      have hr2 : Rd wr wr.heap.size (some ⟨w.heap.size + 1, 288, none⟩) 32 (nv LD) := by
        have := Bk.rd hB (off := 288) (n := 32) (by rw [List.length_map, fx_len]; omega)
        rw [← List.map_drop, HD.out, List.take_of_length_le (by rw [List.length_map, lD]; exact Nat.le_refl _)] at this
        exact this
      have H1 := Lib.hid hr1
      have H2 := Lib.hid hr2
      clear hr1 hr2 hB
      have hn1 := made_ok (some ⟨w.heap.size + 1, 0, none⟩) 288 320 LA wr wr.heap.size H1.out (Nat.le_refl _) (by omega) fA.2 fA.1
      go_wp2_with (first
        | (go_at_call 24; (with_reducible refine hn1.mono ?_); rintro e w1 ⟨s, sbl, rfl, hC1, hS1⟩; have hn2 := made_ok (some ⟨w.heap.size + 1, 288, none⟩) 32 32 LD w1 wr.heap.size (H2.out.below hS1.1 (Nat.le_refl _)) hS1.1.size (by omega) fD.2 fD.1)
        | (go_at_call 24; (with_reducible refine hn2.mono ?_); rintro e w2 ⟨d, dbl, rfl, hC2, hS2⟩; have hP2 := (hP.fresh hS1.1).fresh hS2.1; have hc0 := hP2.cell (i := 0) rfl; have hc1 := hP2.cell (i := 1) rfl; have hz0 := hP2.free 0; have hz1 := hP2.free 1))
      have hPf : Bk ((w2.setCell ⟨w.heap.size, 0, none⟩ (ptr s)).setCell ⟨w.heap.size, 1, none⟩ (ptr d)) w.heap.size 78 [ptr s, ptr d] := (hP2.put 0 _).put 1 _
      have hTf : Turn [w.heap.size] [w.heap.size] w2 ((w2.setCell ⟨w.heap.size, 0, none⟩ (ptr s)).setCell ⟨w.heap.size, 1, none⟩ (ptr d)) := (Turn.but (But.put _ _) (by simp)).trans (Turn.but (But.put _ _) (by simp))
      have hFf : Fresh w ((w2.setCell ⟨w.heap.size, 0, none⟩ (ptr s)).setCell ⟨w.heap.size, 1, none⟩ (ptr d)) := ((((hf.trans hS1.1).trans hS2.1)).but (Nat.le_refl _) (But.put _ _)).but (Nat.le_refl _) (But.put _ _)
      have hlt : w.heap.size < wr.heap.size := by omega
      exact bodyPost_ret (results_cell_row (p := 0) (by kernel_rfl) _ _ w.heap.size 78 #[ptr s, ptr d] (0, 0) _ rfl hPf Tryz.underlying78 rfl (by kernel_rfl)) rfl
        ⟨s, d, sbl, dbl, rfl, (hC1.fresh hS2.1).turn hTf (fun b hb h => by rw [List.mem_singleton] at h; have := hS1.2 b hb; omega), hC2.turn hTf (fun b hb h => by rw [List.mem_singleton] at h; have := hS2.2 b hb; have := hS1.1.size; omega), ⟨hFf, fun i hi => by have := hS1.2 i hi; omega⟩, ⟨hFf, fun i hi => by have := hS2.2 i hi; have := hS1.1.size; omega⟩⟩
theorem fixed_any (w : World) : Calls Tryz.prog 93 #[] w fun e w' => ∃ s d sbl dbl, e = .returned (.agg #[ptr s, ptr d]) ∧ CodeAt w' s fixedLits sbl ∧ CodeAt w' d fixedDist dbl ∧ Since w w' sbl ∧ Since w w' dbl :=
  fixed_gen fixedLits fixedDist fx_lits fx_dist fit_lits fit_dist (by decide +kernel) w
/-- the codes of kind 1, if one of its blocks has come -/
def FixAt (w : World) (v : V) : Prop := v.f0 = .pointer none ∨ ∃ s d sbl dbl, v.f0 = ptr s ∧ v.f1 = ptr d ∧ CodeAt w s fixedLits sbl ∧ CodeAt w d fixedDist dbl
section
variable {w : World} {g q p : Nat} {v : V} {bs : List UInt8} {rl : List Nat}
theorem FixAt.src {w' : World} {rl' : List Nat} (hF : FixAt w v) (h : Src w g v q bs p rl) (k : Turn (g :: rl) (g :: rl') w w') : FixAt w' v := by
  rcases hF with hF | ⟨s, d, sbl, dbl, h0, h1, hs, hd⟩
  · exact .inl hF
  · exact .inr ⟨s, d, sbl, dbl, h0, h1, CodeAt.src hs h k, CodeAt.src hd h k⟩
/-- codes that are used -/
def UseAt (w : World) (v : V) (a b : List Nat) : Prop := ∃ s d sbl dbl, v.sy = ptr s ∧ v.di = ptr d ∧ CodeAt w s a sbl ∧ CodeAt w d b dbl ∧ Fit a ∧ Fit b
/-- codes are laid, symbols come next -/
theorem Src.use (h : Src w g v q bs p rl) (s d : Value) : SrcIs w g { v with next := 2, sy := s, di := d } q bs p rl (((w.setCell ⟨g, 10, none⟩ s).setCell ⟨g, 11, none⟩ d).setCell ⟨g, 5, none⟩ (.int .i64 2)) :=
  SrcIs.then (SrcIs.then (h.put (v' := { v with sy := s }) 10 _ rfl rfl) fun rl' h' => h'.put (v' := { v with sy := s, di := d }) 11 _ rfl rfl) fun rl' h' => h'.put 5 _ rfl rfl
theorem code_use {c : Nat} {ls cbl : List Nat} (hC : CodeAt w c ls cbl) (h : InfAt w g v) (s d : Value) : CodeAt (((w.setCell ⟨g, 10, none⟩ s).setCell ⟨g, 11, none⟩ d).setCell ⟨g, 5, none⟩ (.int .i64 2)) c ls cbl :=
  hC.turn (S := [g]) (((Turn.but (But.put _ _) (by simp)).trans (Turn.but (But.put _ _) (by simp))).trans (Turn.but (But.put _ _) (by simp))) (fun b hb h' => by rw [List.mem_singleton] at h'; subst h'; exact code_inf hC h hb)
theorem SrcIs.freshed {w' w'' : World} (h : SrcIs w g v q bs p rl w') (k : Fresh w' w'') : SrcIs w g v q bs p rl w'' := SrcIs.then h fun rl' h' => h'.freshIs k
set_option maxHeartbeats 4000000 in
set_option maxRecDepth 100000 in
theorem useFixed_any (LA LD : List Nat) (fA : Fit LA) (fD : Fit LD) (hAll : ∀ w, Calls Tryz.prog 93 #[] w fun e w' => ∃ s d sbl dbl, e = .returned (.agg #[ptr s, ptr d]) ∧ CodeAt w' s LA sbl ∧ CodeAt w' d LD dbl ∧ Since w w' sbl ∧ Since w w' dbl)
    (h : Src w g v q bs p rl) (hfx : v.f0 = .pointer none ∨ ∃ s d sbl dbl, v.f0 = ptr s ∧ v.f1 = ptr d ∧ CodeAt w s LA sbl ∧ CodeAt w d LD dbl) :
    Calls Tryz.prog 78 #[ptr g] w fun e w' => e = .returned (.int .i64 0) ∧ ∃ s d sbl dbl, CodeAt w' s LA sbl ∧ CodeAt w' d LD dbl ∧ SrcIs w g { v with next := 2, sy := ptr s, di := ptr d, f0 := ptr s, f1 := ptr d } q bs p rl w' := by
  have hc12 : w.cell? ⟨g, 12, none⟩ = some v.f0 := h.inf.cell rfl
  have hz12 := h.inf.free 12
  have hz13 := h.inf.free 13
  have hc13 : w.cell? ⟨g, 13, none⟩ = some v.f1 := h.inf.cell rfl
  rcases hfx with hn | ⟨s, d, sbl, dbl, h0, h1, hs, hd⟩
  · rw [hn] at hc12
    go_enter Tryz.func78, Tryz.ntmps78
    have hall := hAll w
    go_wp2_with (go_at_call 93; (with_reducible refine hall.mono ?_); rintro e w1 ⟨s, d, sbl, dbl, rfl, hs, hd, hSs, hSd⟩; have hi1 := h.inf.fresh hSs.1; have h12 : w1.cell? ⟨g, 12, none⟩ = some v.f0 := hi1.cell rfl; have h13 : w1.cell? ⟨g, 13, none⟩ = some v.f1 := hi1.cell rfl; have z12 := hi1.free 12; have z13 := hi1.free 13)
    have hi2 : InfAt ((w1.setCell ⟨g, 12, none⟩ (ptr s)).setCell ⟨g, 13, none⟩ (ptr d)) g { v with f0 := ptr s, f1 := ptr d } := (hi1.put 12 _).put 13 _
    have hS2 : SrcIs w g { v with f0 := ptr s, f1 := ptr d } q bs p rl ((w1.setCell ⟨g, 12, none⟩ (ptr s)).setCell ⟨g, 13, none⟩ (ptr d)) :=
      SrcIs.then (SrcIs.then (h.freshIs hSs.1) fun rl' h' => h'.put (v' := { v with f0 := ptr s }) 12 _ rfl rfl) fun rl' h' => h'.put 13 _ rfl rfl
    have hT2 : Turn [g] [g] w1 ((w1.setCell ⟨g, 12, none⟩ (ptr s)).setCell ⟨g, 13, none⟩ (ptr d)) := (Turn.but (But.put _ _) (by simp)).trans (Turn.but (But.put _ _) (by simp))
    have hs2 := hs.turn hT2 (fun b hb h' => by rw [List.mem_singleton] at h'; subst h'; exact code_inf hs hi1 hb)
    have hd2 := hd.turn hT2 (fun b hb h' => by rw [List.mem_singleton] at h'; subst h'; exact code_inf hd hi1 hb)
    clear hT2 hc12 hz12 hz13 hc13 h12 h13 z12 z13
    generalize (w1.setCell ⟨g, 12, none⟩ (ptr s)).setCell ⟨g, 13, none⟩ (ptr d) = w2 at *
    clear hs hd hall hAll
    have h12 : w2.cell? ⟨g, 12, none⟩ = some (ptr s) := hi2.cell rfl
    have h13 : w2.cell? ⟨g, 13, none⟩ = some (ptr d) := hi2.cell rfl
    have h10 : w2.cell? ⟨g, 10, none⟩ = some v.sy := hi2.cell rfl
    have h11 : w2.cell? ⟨g, 11, none⟩ = some v.di := hi2.cell rfl
    have h5 : w2.cell? ⟨g, 5, none⟩ = some (iv v.next) := hi2.cell rfl
    have z10 := hi2.free 10
    have z11 := hi2.free 11
    have z5 := hi2.free 5
    go_region
    all_goals
      go_wp2
      go_ret
      exact ⟨rfl, s, d, sbl, dbl, (code_use hs2 hi2 _ _).fresh (Fresh.drew _), (code_use hd2 hi2 _ _).fresh (Fresh.drew _), (SrcIs.then hS2 fun rl' h' => h'.use (ptr s) (ptr d)).freshed (Fresh.drew _)⟩
  · have hi2 := h.inf
    rw [h0] at hc12
    rw [h1] at hc13
    go_enter Tryz.func78, Tryz.ntmps78
    go_wp2
    have h10 : w.cell? ⟨g, 10, none⟩ = some v.sy := hi2.cell rfl
    have h11 : w.cell? ⟨g, 11, none⟩ = some v.di := hi2.cell rfl
    have h5 : w.cell? ⟨g, 5, none⟩ = some (iv v.next) := hi2.cell rfl
    have z10 := hi2.free 10
    have z11 := hi2.free 11
    have z5 := hi2.free 5
    go_region
    all_goals
      go_wp2
      go_ret
      have hv : { v with next := 2, sy := ptr s, di := ptr d, f0 := ptr s, f1 := ptr d } = { v with next := 2, sy := ptr s, di := ptr d } := by rw [← h0, ← h1]
      exact ⟨rfl, s, d, sbl, dbl, (code_use hs hi2 _ _).fresh (Fresh.drew _), (code_use hd hi2 _ _).fresh (Fresh.drew _), by rw [hv]; exact (h.use (ptr s) (ptr d)).freshed (Fresh.drew _)⟩
end
end Go.Proofs.YtppgceighgpgoaaGreatDoor.infp
