import Derived.Test.YtppgceighgpgoaaGreatDoorMgDfB
import Derived.Laws.CopyOwn
import Derived.Deep.RegionLaw
import Derived.Deep.RegionWith
import Derived.Lib.AppendZeros
import Derived.Test.YtppgceighgpgoaaGreatDoorMgInfA
/- Several of my own texts, one behind the other. -/
/-
  slices.Repeat of one int. NOT CLEAN YET: make and the first copy pass, the loop is stated; its region draws and holds a copy: go_region_law (refine step_copy_splice ..) as below did not come back in 300 s. My own text.
-/
namespace Go.Proofs.YtppgceighgpgoaaGreatDoor.defp
open Go.RowKit Go.Maps Go.Proofs.YtppgceighgpgoaaGreatDoor.base Go.Proofs.YtppgceighgpgoaaGreatDoor.num Go.Proofs.YtppgceighgpgoaaGreatDoor.bitnum Go.Proofs.YtppgceighgpgoaaGreatDoor.bitp Go.Proofs.YtppgceighgpgoaaGreatDoor.huffnum Go.Proofs.YtppgceighgpgoaaGreatDoor.huffp
set_option linter.unusedVariables false
theorem intSize : (Tryz.prog.info? 3).map (·.size) = some 1 := by kernel_rfl
theorem st_slot_ {P : Program} {ops : Array Oper} {a : Act} {w : World} {K : Act → World → Prop} {Q : Exit → Act → World → Prop} {E : Prop} {t : TypeId} (d : Nat) {op : Op} {ps : String} {af gd} (h : if Region.wanted (⟨some d, op, t, ps, af, gd⟩ : Oper) (yielded ops a.tmps) = true then Oper.wp P ⟨some d, op, t, ps, af, gd⟩ a w K Q else E) :
    if Region.wanted (⟨some d, op, t, ps, af, gd⟩ : Oper) (yielded ops a.tmps) = true then Oper.wp P ⟨some d, op, t, ps, af, gd⟩ a w K Q else E := h
set_option maxRecDepth 100000 in
set_option maxHeartbeats 8000000 in
theorem repeat_any (q k : Nat) (x : Int) (w : World) (hq : Bk w q 3 [iv x]) (hk : 1 ≤ k ∧ k ≤ 400) :
    Calls Tryz.prog 40 #[.slice (some ⟨q, 0, none⟩) 1 1, .int .i64 k] w fun e w' => ∃ g, e = .returned (.slice (some ⟨g, 0, none⟩) k k) ∧ Bk w' g 3 (List.replicate k (iv x)) ∧ w.heap.size ≤ g ∧ Fresh w w' := by
  obtain ⟨i0, hi0, hz0, hz1, hz2⟩ := info_parts info_int
  have hmul : ∀ W, Calls Tryz.prog 62 #[.int .u64 1, .int .u64 k] W fun e w' => e = .returned (.tuple #[.int .u64 0, .int .u64 k]) ∧ w' = W := fun W => by
    have := Tryz.bits_Mul 1 k (by omega) (by omega) W
    rw [Nat.one_mul, Nat.div_eq_of_lt (by omega), Nat.mod_eq_of_lt (by omega)] at this
    exact this
  have HMUL := Lib.hid hmul
  have hk0 : ¬ (k : Int) < 0 := by omega
  have hk1 : wrap64 (k : Int) = k := IntWalk.wrap64_in _ ⟨by omega, by omega⟩
  have hk2 : ¬ (9223372036854775807 : Int) < (k : Int) := by omega
  have hk3 : IntKind.u64.wrap (k : Int) = (k : Int) := by
    rw [IntWalk.u64_in _ (by omega)]
  have HMB : Hid (i0.bytes * k ≤ 281474976710656 ∧ k ≤ maxLen) := ⟨by rw [hz2]; omega, by unfold maxLen; omega⟩
  have HQ := Lib.hid hq
  have HK := Lib.hid hk
  clear hmul hq hk
  go_enter Tryz.func40, Tryz.ntmps40
  go_wp2_with (first
    | (go_at_call 62; (with_reducible refine (HMUL.out _).mono ?_); rintro e w1 ⟨rfl, rfl⟩)
    | ((with_reducible (refine at_slot_ 30 ?_)); refine wpList_make_blk rfl 62 (.tmp 29) (.tmp 29) rfl 3 i0 _ Tryz.underlying62 hi0 hz0 hz1 rfl k rfl rfl HMB.out.1 HMB.out.2 _ rfl ?_; intro w2 hb2 hf2; have HB2 := Lib.hid hb2; have HF2 := Lib.hid hf2; clear hb2 hf2)
    | ((with_reducible (refine at_slot_ 33 ?_)); refine wpList_copy_blk rfl (.tmp 31) (.tmp 32) 62 62 rfl 3 Tryz.underlying62 intSize _ 0 k k (some ⟨q, 0, none⟩) 1 1 rfl rfl _ 3 HB2.out [iv x] 1 rfl (by have := HK.out; simp; omega) (by simp) ⟨q, 0, rfl, fun j v hj => by rw [Nat.zero_add]; exact (HQ.out.fresh HF2.out).cell hj⟩ (by have := HK.out; simp; omega) (by simp [iv]; rfl) ?_; intro w3 hb3 hbut3; have HB3 := Lib.hid hb3; have HBUT3 := Lib.hid hbut3; clear hb3 hbut3))
  go_loopw [8] (fun t wr => ∃ n : Nat, t = .int .i64 n ∧ 1 ≤ n ∧ n ≤ k ∧ Hid (Bk wr w1.heap.size 3 (List.replicate n (iv x) ++ List.replicate (k - n) (iv 0))) ∧ Hid (Fresh w1 wr)) (fun t _ => k - (intOf t).toNat)
  case atStart =>
    refine ⟨1, rfl, Nat.le_refl _, HK.out.1, ?_, Lib.hid (HF2.out.but (Nat.le_refl _) HBUT3.out)⟩
    have h3 := HB3.out
    obtain ⟨j, rfl⟩ : ∃ j, k = j + 1 := ⟨k - 1, by have := HK.out; omega⟩
    have e : splice (List.replicate (j + 1) (Value.int .i64 0)) 0 [iv x] = List.replicate 1 (iv x) ++ List.replicate (j + 1 - 1) (iv 0) := by
      simp [splice, List.replicate_succ, iv]
    rw [e] at h3
    exact Lib.hid h3
  case round =>
    obtain ⟨n, rfl, hn1, hnk, HB, HF⟩ := hrel
    by_cases hlt : n < k
    · have hk400 := HK.out.2
      obtain ⟨z, hz⟩ : ∃ z, min n (k - n) = z := ⟨_, rfl⟩
      have hz1 : 1 ≤ z ∧ n + z ≤ k := by omega
      have hzz : (List.replicate z (iv x)).length = Nat.min n (k - n) := by rw [List.length_replicate]; exact hz.symm
      have hcell : ∀ (W : World), Bk W w1.heap.size 3 (List.replicate n (iv x) ++ List.replicate (k - n) (iv 0)) → ∀ j v, (List.replicate z (iv x))[j]? = some v → W.cell? (Addr.add ⟨w1.heap.size, 0, none⟩ j) = some v := fun W hb j v hj => by
        have hjz : j < z := by have := (List.getElem?_eq_some_iff.1 hj).1; rwa [List.length_replicate] at this
        have hadd : Addr.add ⟨w1.heap.size, 0, none⟩ j = ⟨w1.heap.size, 0 + j, none⟩ := by unfold Addr.add; split <;> simp_all
        rw [hadd, Nat.zero_add]
        refine hb.cell ?_
        rw [List.getElem?_append_left (by rw [List.length_replicate]; omega)]
        rw [List.getElem?_replicate] at hj ⊢
        rw [if_pos (by omega)]
        rw [if_pos hjz] at hj
        exact hj
      have HCELL := Lib.hid hcell
      have HZZ := Lib.hid hzz
      have HZ1 := Lib.hid hz1
      clear hcell hzz
      have hnk1 : (n : Int) ≤ (k : Int) := by omega
      have hn0 : (0 : Int) ≤ (n : Int) := by omega
      go_wp2
      obtain ⟨G, hG⟩ : ∃ G, w1.heap.size = G := ⟨_, rfl⟩
      have hrun : ∃ wX, (Builtin.copy_ #[62, 62] 3 #[.slice (if k = n then some (⟨G, 0, none⟩ : Addr) else some ⟨G, n, none⟩) (k - n) (k - n), .slice (some ⟨G, 0, none⟩) n k]).run Tryz.prog wr.drew = .ok (.int .i64 (z : Nat)) wX ∧ Bk wX G 3 (List.replicate (n + z) (iv x) ++ List.replicate (k - (n + z)) (iv 0)) ∧ But G wr wX := by
        rw [if_neg (show ¬ k = n by omega)]
        rw [hG] at HB HCELL
        have hb := HB.out.fresh (Fresh.drew wr)
        have h := run_copy_row (P := Tryz.prog) wr.drew 62 62 3 3 G n (k - n) (k - n) ⟨G, 0, none⟩ n k _ 3 (List.replicate z (iv x)) Tryz.underlying62 intSize hb HZZ.out (HCELL.out _ hb) (by have := HZ1.out; simp; omega) (fun v hv => by rw [List.eq_of_mem_replicate hv]; rfl)
        have e : ((List.replicate n (iv x) ++ List.replicate (k - n) (iv 0)).toArray.toList.take n ++ List.replicate z (iv x) ++ (List.replicate n (iv x) ++ List.replicate (k - n) (iv 0)).toArray.toList.drop (n + (List.replicate z (iv x)).length)) = List.replicate (n + z) (iv x) ++ List.replicate (k - (n + z)) (iv 0) := by
          rw [List.toList_toArray, List.length_replicate, List.take_left' (by rw [List.length_replicate]), List.drop_append, List.drop_of_length_le (by rw [List.length_replicate]; omega), List.nil_append, List.length_replicate, List.drop_replicate, List.replicate_append_replicate]
          congr 2
          omega
        rw [e, List.length_replicate] at h
        exact ⟨wr.drew.setRow G (List.replicate (n + z) (iv x) ++ List.replicate (k - (n + z)) (iv 0)).toArray, h, hb.row _, (But.of_fresh (Fresh.drew wr)).trans (But.row G wr.drew _)⟩
      obtain ⟨wX, hrun, hbX, hbut⟩ := hrun
      have HBX := Lib.hid hbX
      have HBUT := Lib.hid hbut
      have HG := Lib.hid hG
      clear hbX hbut
      rw [hG]
      clear hG
      have znk : (n : Int) + (z : Int) ≤ (k : Int) := by have := HZ1.out; omega
      go_region_with (fail)
      all_goals go_wp2
      all_goals
        have ew : IntKind.i64.wrap ((n : Int) + (z : Int)) = ((n + z : Nat) : Int) := by rw [IntWalk.i64_in _ (by have := HK.out.2; omega)]; omega
        rw [ew]
        go_roundw
        case rel => exact ⟨_, ⟨n + z, rfl, by omega, HZ1.out.2, by rw [HG.out]; exact HBX, Lib.hid (HF.out.but (by rw [HG.out]; exact Nat.le_refl _) HBUT.out)⟩, HG.out.symm, rfl, HG.out.symm⟩
        case measure =>
          show k - ((n + z : Nat) : Int).toNat < k - ((n : Int)).toNat
          have := HZ1.out
          omega
    · have hin : n = k := by omega
      subst hin
      go_wp2
      go_ret
      refine ⟨w1.heap.size, rfl, ?_, Nat.le_refl _, HF.out⟩
      have := HB.out
      rw [Nat.sub_self, List.replicate_zero, List.append_nil] at this
      exact this
end Go.Proofs.YtppgceighgpgoaaGreatDoor.defp
/-
  slices.Grow of nil, slices.Concat, of ints. My own text.
-/
namespace Go.Proofs.YtppgceighgpgoaaGreatDoor.defp
open Go.RowKit Go.Maps Go.Proofs.YtppgceighgpgoaaGreatDoor.base Go.Proofs.YtppgceighgpgoaaGreatDoor.num Go.Proofs.YtppgceighgpgoaaGreatDoor.bitnum Go.Proofs.YtppgceighgpgoaaGreatDoor.bitp Go.Proofs.YtppgceighgpgoaaGreatDoor.huffnum Go.Proofs.YtppgceighgpgoaaGreatDoor.huffp
set_option linter.unusedVariables false
theorem intU : Tryz.prog.underlying 3 = some (.int .i64) := by kernel_rfl
set_option maxRecDepth 100000 in
set_option maxHeartbeats 8000000 in
theorem grow_nil (n : Nat) (w : World) (hn : n ≤ 1000) :
    Calls Tryz.prog 39 #[.slice none 0 0, .int .i64 n] w fun e w' => ∃ (A : Option Addr) (c : Nat), e = .returned (.slice A 0 c) ∧ Own w' w.heap.size 3 A 0 c [] ∧ Fresh w w' := by
  obtain ⟨i0, hi0, hz0, hz1, hz2⟩ := info_parts info_int
  by_cases h0 : n = 0
  · subst h0
    go_enter Tryz.func39, Tryz.ntmps39
    go_wp2
    go_ret
    exact ⟨none, 0, rfl, Own.nil _ _ _, Fresh.refl _⟩
  · have ni : (0 : Int) < (n : Int) := by omega
    have hrun := Go.Lib.run_append_nil_zeros (P := Tryz.prog) w 62 3 62 3 i0 _ .i64 .i64 Tryz.underlying62 intU hi0 hz0 n (by omega) (by rw [hz1]; omega) (by omega) (by rw [hz2]; omega)
    obtain ⟨X, hX⟩ : ∃ X : Array Value, Builtin.zeroCells (Value.cells (.int .i64 0)) n ++ Builtin.zeroCells (Value.cells (.int .i64 0)) (grownCap w n 0 3 - n) = X := ⟨_, rfl⟩
    have hXs : X.size = grownCap w n 0 3 * 1 := by
      have hone : (Value.cells (.int .i64 0)).size = 1 := rfl
      have := grownCap_ge w n 0 3
      rw [← hX, Array.size_append, size_zeroCells, size_zeroCells, hone]
      omega
    rw [hX] at hrun
    have HRUN := Lib.hid hrun
    have HXS := Lib.hid hXs
    clear hrun hX hXs
    go_enter Tryz.func39, Tryz.ntmps39
    go_wp2_with ((with_reducible (refine at_slot_ 22 ?_)); refine Go.Lib.wpList_append_run _ rfl (.tmp 20) (.tmp 21) 62 3 rfl _ _ rfl rfl _ _ HRUN.out ?_)
    go_ret
    exact ⟨_, _, rfl, ⟨rfl, .inr ⟨w.heap.size, _, X, rfl, Nat.le_refl _, Bk.made w 3 X, Nat.zero_le _, grownCap_le_maxLen w n 0 _ (by unfold maxLen; omega), HXS.out, by rw [Nat.zero_mul, List.take_zero]⟩⟩, (Fresh.alloc _ _).trans (Fresh.drew _)⟩
/-- rows of ints as they stand in a row of rows -/
abbrev RI := Option Addr × Nat × Nat × List Int
def catI (rows : List RI) : List Int := rows.flatMap (·.2.2.2)
theorem catI_snoc (rows : List RI) (r : RI) : catI (rows ++ [r]) = catI rows ++ r.2.2.2 := by simp [catI]
set_option maxRecDepth 100000 in
set_option maxHeartbeats 8000000 in
theorem concat_any (q n c0 : Nat) (rows : List RI) (w : World) (hq : ∀ j r, rows[j]? = some r → w.cell? ⟨q, j, none⟩ = some (.slice r.1 r.2.1 r.2.2.1)) (hqs : q < w.heap.size) (hrd : ∀ r ∈ rows, Rd w w.heap.size r.1 r.2.1 (r.2.2.2.map iv)) (hn : rows.length = n) (hn2 : n ≤ 100) (hsum : (catI rows).length ≤ 1000) :
    Calls Tryz.prog 25 #[.slice (some ⟨q, 0, none⟩) n c0] w fun e w' => ∃ (A : Option Addr) (c : Nat), e = .returned (.slice A (catI rows).length c) ∧ Own w' w.heap.size 3 A (catI rows).length c ((catI rows).map iv) ∧ Fresh w w' := by
  obtain ⟨i0, hi0, hz0, hz1, hz2⟩ := info_parts info_int
  have hpre : ∀ j, (catI (rows.take j)).length ≤ (catI rows).length := fun j => by
    have h : catI rows = catI (rows.take j) ++ catI (rows.drop j) := by unfold catI; rw [← List.flatMap_append, List.take_append_drop]
    rw [h, List.length_append]
    omega
  have hstep : ∀ j r, rows[j]? = some r → catI (rows.take (j + 1)) = catI (rows.take j) ++ r.2.2.2 := fun j r hr => by
    rw [List.take_add_one, hr]
    exact catI_snoc _ _
  have HQ := Lib.hid hq
  have HRD := Lib.hid hrd
  have HPRE := Lib.hid hpre
  have HSTEP := Lib.hid hstep
  have HN := Lib.hid hn
  clear hq hrd hpre hstep hn
  go_enter Tryz.func25, Tryz.ntmps25
  go_wp2
  go_loopw [3, 11] (fun vt vi wr => ∃ (i t : Nat), vi = .int .i64 i ∧ vt = .int .i64 t ∧ i ≤ n ∧ Hid (t = (catI (rows.take i)).length) ∧ t ≤ 1000 ∧ Fresh w wr) (fun _ vi _ => n - (intOf vi).toNat)
  case atStart => exact ⟨0, 0, rfl, rfl, Nat.zero_le _, rfl, by omega, Fresh.refl _⟩
  case round =>
    obtain ⟨i, t, rfl, rfl, hi, HT, ht, hfr⟩ := hrel
    by_cases hlt : i < n
    · have hil : (i : Int) < (n : Int) := by omega
      obtain ⟨r, hr⟩ : ∃ r, rows[i]? = some r := ⟨rows[i]'(by have := HN.out; omega), List.getElem?_eq_getElem (by have := HN.out; omega)⟩
      obtain ⟨A, m, c, xs⟩ := r
      have hcell : wr.cell? ⟨q, i, none⟩ = some (.slice A m c) := (World.cell?_of_block (hfr.block q hqs)).trans (HQ.out i _ hr)
      have hm : xs.length = m := by have := (HRD.out _ (List.mem_of_getElem? hr)).1; rwa [List.length_map] at this
      have hs := HSTEP.out i _ hr
      have hp := HPRE.out (i + 1)
      have hl := congrArg List.length hs
      rw [List.length_append] at hl
      have ht2 := HT.out
      have htm : t + m ≤ 1000 := by simp only at hl; omega
      have HL := Lib.hid hl
      clear hs hp hl ht2
      go_wp2
      refine ⟨⟨i + 1, t + m, rfl, rfl, hlt, Lib.hid ?_, htm, hfr⟩, ?_⟩
      · have h := HL.out
        have h2 := HT.out
        simp only at h
        omega
      · show n - ((i : Int) + 1).toNat < n - ((i : Int)).toNat
        omega
    · have hin : i = n := by omega
      subst hin
      have hT := HT.out
      rw [List.take_of_length_le (by have := HN.out; omega)] at hT
      subst hT
      have HFR := Lib.hid hfr
      clear hfr HT
      go_wp2_with (go_at_call 39; (refine (grow_nil _ wr ht).mono ?_); rintro e w2 ⟨A2, c2, rfl, ho2, hf2⟩; have HO2 := Lib.hid ho2; have HF2 := Lib.hid (HFR.out.trans hf2); have hws := HFR.out.size; clear ho2 hf2)
      go_loopw [6, 27] (fun vs vi wr => ∃ (j : Nat) (A : Option Addr) (m c : Nat), vi = .int .i64 j ∧ vs = .slice A m c ∧ j ≤ i ∧ Hid (m = (catI (rows.take j)).length) ∧ Own wr w.heap.size 3 A m c ((catI (rows.take j)).map iv) ∧ Hid (Fresh w wr)) (fun _ vi _ => i - (intOf vi).toNat)
      case atStart => exact ⟨0, A2, 0, c2, rfl, rfl, Nat.zero_le _, rfl, ⟨HO2.out.1, HO2.out.2.imp id fun ⟨g, cap, cur, h1, h2, h3⟩ => ⟨g, cap, cur, h1, by omega, h3⟩⟩, HF2⟩
      case round =>
        rename World => w5
        obtain ⟨j, A, m, c, rfl, rfl, hj, HM, ho, HF5⟩ := hrel
        by_cases hlt : j < i
        · have hil : (j : Int) < (i : Int) := by omega
          obtain ⟨r, hr⟩ : ∃ r, rows[j]? = some r := ⟨rows[j]'(by have := HN.out; omega), List.getElem?_eq_getElem (by have := HN.out; omega)⟩
          obtain ⟨D, md, d, xs⟩ := r
          have hcell : w5.cell? ⟨q, j, none⟩ = some (.slice D md d) := (World.cell?_of_block (HF5.out.block q hqs)).trans (HQ.out j _ hr)
          have hrow : Rd w5 w.heap.size D md (xs.map iv) := (HRD.out _ (List.mem_of_getElem? hr)).keep fun k hk => HF5.out.block k hk
          have hxs : xs.length = md := by have := hrow.1; rwa [List.length_map] at this
          have hs := HSTEP.out j _ hr
          have hp := HPRE.out (j + 1)
          have hl := congrArg List.length hs
          rw [List.length_append] at hl
          simp only at hl hs
          have hm := HM.out
          have htm : m + md ≤ 1000 := by omega
          have HS := Lib.hid hs
          have HL := Lib.hid hl
          have HROW := Lib.hid hrow
          have HO := Lib.hid ho
          have hsz := HF5.out.size
          clear hs hp hl hm hrow ho
          go_wp2_with (at_builtin; go_loud (refine wpList_append_rd _ rfl _ _ 62 rfl w.heap.size 3 i0 _ 8 Tryz.underlying62 hi0 hz0 hz1 hz2 rfl A m c _ rfl HO.out w.heap.size D md d (xs.map iv) rfl HROW.out (fun v hv => by obtain ⟨x, _, rfl⟩ := List.mem_map.1 hv; rfl) (by unfold maxLen; omega) (by omega) hsz ?_); intro A3 c3 w3 ho3 hg3)
          refine ⟨⟨j + 1, A3, m + md, c3, rfl, rfl, hlt, Lib.hid ?_, ?_, Lib.hid (HF5.out.append HO.out (Nat.le_refl _) hg3)⟩, ?_⟩
          · have h := HL.out
            have h2 := HM.out
            omega
          · rw [HS.out, List.map_append]
            exact ho3
          · show i - ((j : Int) + 1).toNat < i - ((j : Int)).toNat
            omega
        · have hin : j = i := by omega
          subst hin
          go_wp2
          go_ret
          have e : rows.take j = rows := List.take_of_length_le (by have := HN.out; omega)
          have hm := HM.out
          rw [e] at ho hm
          subst hm
          exact ⟨A, c, rfl, ho, HF5.out⟩
end Go.Proofs.YtppgceighgpgoaaGreatDoor.defp
/-
  times, fixed. My own text.
-/
namespace Go.Proofs.YtppgceighgpgoaaGreatDoor.defp
open Go.RowKit Go.Maps Go.Proofs.YtppgceighgpgoaaGreatDoor.base Go.Proofs.YtppgceighgpgoaaGreatDoor.num Go.Proofs.YtppgceighgpgoaaGreatDoor.bitnum Go.Proofs.YtppgceighgpgoaaGreatDoor.bitp Go.Proofs.YtppgceighgpgoaaGreatDoor.huffnum Go.Proofs.YtppgceighgpgoaaGreatDoor.huffp Go.Proofs.YtppgceighgpgoaaGreatDoor.infnum Go.Proofs.YtppgceighgpgoaaGreatDoor.infp
set_option linter.unusedVariables false
theorem Bk.row0 {w : World} {g n : Nat} {T : TypeId} {cs : List Value} (h : Bk w g T cs) (hn : cs.length = n) : Rd w w.heap.size (some ⟨g, 0, none⟩) n cs :=
  ⟨hn, fun _ => ⟨g, 0, rfl, h.inside, fun j u hu => by rw [Nat.zero_add]; exact h.cell hu⟩⟩
set_option maxRecDepth 100000 in
set_option maxHeartbeats 8000000 in
theorem times_any (k : Nat) (x : Int) (hk : 1 ≤ k ∧ k ≤ 400) (w : World) :
    Calls Tryz.prog 26 #[.int .i64 k, .int .i64 x] w fun e w' => ∃ g, e = .returned (.slice (some ⟨g, 0, none⟩) k k) ∧ Rd w' w'.heap.size (some ⟨g, 0, none⟩) k ((List.replicate k x).map iv) ∧ Fresh w w' := by
  go_enter Tryz.func26, Tryz.ntmps26
  go_wp2_with (go_at_call 40; (refine (repeat_any w.heap.size k x _ (Bk.made w 3 #[iv x]) hk).mono ?_); rintro e w2 ⟨g, rfl, hb, hg, hf⟩)
  go_ret
  refine ⟨g, rfl, ?_, (Fresh.alloc _ _).trans hf⟩
  rw [List.map_replicate]
  exact Bk.row0 hb (by rw [List.length_replicate])
theorem lits_rows (LA : List Nat) (h : fixedLits = LA) (a b c d : Option Addr) : (catI [(a, 144, 144, List.replicate 144 8), (b, 112, 112, List.replicate 112 9), (c, 24, 24, List.replicate 24 7), (d, 8, 8, List.replicate 8 8)]).map iv = nv LA ∧ (catI [(a, 144, 144, List.replicate 144 8), (b, 112, 112, List.replicate 112 9), (c, 24, 24, List.replicate 24 7), (d, 8, 8, List.replicate 8 8)]).length = 288 := by
  have e : catI [(a, 144, 144, List.replicate 144 8), (b, 112, 112, List.replicate 112 9), (c, 24, 24, List.replicate 24 7), (d, 8, 8, List.replicate 8 8)] = fixedLits.map fun x : Nat => (x : Int) := by
    show List.replicate 144 (8 : Int) ++ (List.replicate 112 9 ++ (List.replicate 24 7 ++ (List.replicate 8 8 ++ []))) = _
    decide +kernel
  rw [e, ← h]
  refine ⟨by rw [List.map_map]; rfl, ?_⟩
  rw [List.length_map]
  decide +kernel
theorem dist_row (LD : List Nat) (h : List.replicate 30 5 = LD) : (List.replicate 30 (5 : Int)).map iv = nv LD := by
  rw [← h, List.map_replicate]; unfold nv; rw [List.map_replicate]; rfl
theorem own_low {w : World} {base base' : Nat} {e : TypeId} {A : Option Addr} {n c : Nat} {xs : List Value} (h : Own w base e A n c xs) (hb : base' ≤ base) : Own w base' e A n c xs :=
  ⟨h.1, h.2.imp id fun ⟨g, cap, cur, h1, h2, h3⟩ => ⟨g, cap, cur, h1, by omega, h3⟩⟩
theorem concat_lits (LA : List Nat) (h : fixedLits = LA) (T : TypeId) (g1 g2 g3 g4 : Nat) (w : World) (h1 : Rd w w.heap.size (some ⟨g1, 0, none⟩) 144 ((List.replicate 144 8).map iv)) (h2 : Rd w w.heap.size (some ⟨g2, 0, none⟩) 112 ((List.replicate 112 9).map iv)) (h3 : Rd w w.heap.size (some ⟨g3, 0, none⟩) 24 ((List.replicate 24 7).map iv)) (h4 : Rd w w.heap.size (some ⟨g4, 0, none⟩) 8 ((List.replicate 8 8).map iv)) :
    Calls Tryz.prog 25 #[.slice (some ⟨w.heap.size, 0, none⟩) 4 4] (w.alloc (.cells #[.slice (some ⟨g1, 0, none⟩) 144 144, .slice (some ⟨g2, 0, none⟩) 112 112, .slice (some ⟨g3, 0, none⟩) 24 24, .slice (some ⟨g4, 0, none⟩) 8 8] T)) fun e w' => ∃ A c, e = .returned (.slice A 288 c) ∧ Own w' w.heap.size 3 A 288 c (nv LA) ∧ Fresh w w' := by
  have hb := Bk.made w T #[.slice (some ⟨g1, 0, none⟩) 144 144, .slice (some ⟨g2, 0, none⟩) 112 112, .slice (some ⟨g3, 0, none⟩) 24 24, .slice (some ⟨g4, 0, none⟩) 8 8]
  have hf := Fresh.alloc w (.cells #[.slice (some ⟨g1, 0, none⟩) 144 144, .slice (some ⟨g2, 0, none⟩) 112 112, .slice (some ⟨g3, 0, none⟩) 24 24, .slice (some ⟨g4, 0, none⟩) 8 8] T)
  obtain ⟨e1, e2⟩ := lits_rows LA h (some ⟨g1, 0, none⟩) (some ⟨g2, 0, none⟩) (some ⟨g3, 0, none⟩) (some ⟨g4, 0, none⟩)
  refine (concat_any w.heap.size 4 4 [(some ⟨g1, 0, none⟩, 144, 144, List.replicate 144 8), (some ⟨g2, 0, none⟩, 112, 112, List.replicate 112 9), (some ⟨g3, 0, none⟩, 24, 24, List.replicate 24 7), (some ⟨g4, 0, none⟩, 8, 8, List.replicate 8 8)] _ ?_ hb.inside ?_ rfl (by omega) (by rw [e2]; omega)).mono ?_
  · intro j r hr
    match j, hr with
    | 0, hr => injection hr with hr; subst hr; exact hb.cell rfl
    | 1, hr => injection hr with hr; subst hr; exact hb.cell rfl
    | 2, hr => injection hr with hr; subst hr; exact hb.cell rfl
    | 3, hr => injection hr with hr; subst hr; exact hb.cell rfl
  · intro r hr
    rcases List.mem_cons.1 hr with rfl | hr
    · exact (h1.fresh hf)
    rcases List.mem_cons.1 hr with rfl | hr
    · exact (h2.fresh hf)
    rcases List.mem_cons.1 hr with rfl | hr
    · exact (h3.fresh hf)
    rcases List.mem_cons.1 hr with rfl | hr
    · exact (h4.fresh hf)
    · cases hr
  · rintro e w' ⟨A, c, rfl, ho, hf2⟩
    rw [e1, e2] at ho
    rw [e2]
    exact ⟨A, c, rfl, own_low ho hf.size, hf.trans hf2⟩
set_option maxRecDepth 100000 in
set_option maxHeartbeats 8000000 in
theorem fixed_of (LA LD : List Nat) (hA : fixedLits = LA) (hD : List.replicate 30 5 = LD) (fA : Fit LA) (fD : Fit LD) (A : Option Addr) (n c : Nat) (l : List (Nat × Nat)) (base : Nat) (w : World) (hst : Own2 w base A n c l)
    (hok : ∀ s ∈ l, Ok s ∧ sy s < 288 ∧ (s.2 ≠ 0 → di s < 30)) (hn : n ≤ 16777217) :
    Calls Tryz.prog 12 #[.slice A n c] w fun e w' => ∃ A' c', e = .returned (.slice A' ((3 + (outs LA LD l).1 + 7) / 8) c') ∧ Own w' w.heap.size 5 A' ((3 + (outs LA LD l).1 + 7) / 8) c' ((low ((3 + (outs LA LD l).1 + 7) / 8) (3 + 8 * (outs LA LD l).2)).map bv) ∧ Fresh w w' := by
  have hla : LA.length = 288 := by rw [← hA]; decide +kernel
  have hld : LD.length = 30 := by rw [← hD]; decide +kernel
  have HROWS := Lib.hid hA
  have HDIST := Lib.hid (dist_row LD hD)
  have HFA := Lib.hid fA
  have HFD := Lib.hid fD
  have HOK := Lib.hid hok
  have HST := Lib.hid hst
  have HLA := Lib.hid hla
  have HLD := Lib.hid hld
  clear hA hD fA fD hok hst hla hld
  have HT0 : Hid (∀ W, Calls Tryz.prog 26 #[.int .i64 144, .int .i64 8] W (fun e w' => ∃ g, e = .returned (.slice (some ⟨g, 0, none⟩) 144 144) ∧ Rd w' w'.heap.size (some ⟨g, 0, none⟩) 144 ((List.replicate 144 8).map iv) ∧ Fresh W w')) := fun W => times_any 144 8 (by omega) W
  have HT1 : Hid (∀ W, Calls Tryz.prog 26 #[.int .i64 112, .int .i64 9] W (fun e w' => ∃ g, e = .returned (.slice (some ⟨g, 0, none⟩) 112 112) ∧ Rd w' w'.heap.size (some ⟨g, 0, none⟩) 112 ((List.replicate 112 9).map iv) ∧ Fresh W w')) := fun W => times_any 112 9 (by omega) W
  have HT2 : Hid (∀ W, Calls Tryz.prog 26 #[.int .i64 24, .int .i64 7] W (fun e w' => ∃ g, e = .returned (.slice (some ⟨g, 0, none⟩) 24 24) ∧ Rd w' w'.heap.size (some ⟨g, 0, none⟩) 24 ((List.replicate 24 7).map iv) ∧ Fresh W w')) := fun W => times_any 24 7 (by omega) W
  have HT3 : Hid (∀ W, Calls Tryz.prog 26 #[.int .i64 8, .int .i64 8] W (fun e w' => ∃ g, e = .returned (.slice (some ⟨g, 0, none⟩) 8 8) ∧ Rd w' w'.heap.size (some ⟨g, 0, none⟩) 8 ((List.replicate 8 8).map iv) ∧ Fresh W w')) := fun W => times_any 8 8 (by omega) W
  have HT4 : Hid (∀ W, Calls Tryz.prog 26 #[.int .i64 30, .int .i64 5] W (fun e w' => ∃ g, e = .returned (.slice (some ⟨g, 0, none⟩) 30 30) ∧ Rd w' w'.heap.size (some ⟨g, 0, none⟩) 30 ((List.replicate 30 5).map iv) ∧ Fresh W w')) := fun W => times_any 30 5 (by omega) W
  have HBEG : Hid (∀ W, Calls Tryz.prog 23 #[.int .i64 1] W fun e w' => ∃ g bl, e = .returned (ptr g) ∧ WtrAt w' g 3 3 bl ∧ Since W w' bl) := fun W => begun_any 1 (by omega) W
  go_enter Tryz.func12, Tryz.ntmps12
  go_wp2_with (first
    | (go_at_call 23; (with_reducible refine (HBEG.out _).mono ?_); rintro e w1 ⟨g, bl, rfl, hW, hS⟩; have HW := Lib.hid hW; have HS1 := Lib.hid hS; clear hW hS)
    | (go_at_call 26; (with_reducible refine (HT0.out _).mono ?_); rintro e w2 ⟨g1, rfl, hr1, hf1⟩; have HR1 := Lib.hid hr1; have HF1 := Lib.hid hf1; clear hr1 hf1)
    | (go_at_call 26; (with_reducible refine (HT1.out _).mono ?_); rintro e w3 ⟨g2, rfl, hr2, hf2⟩; have HR2 := Lib.hid hr2; have HF2 := Lib.hid hf2; clear hr2 hf2)
    | (go_at_call 26; (with_reducible refine (HT2.out _).mono ?_); rintro e w4 ⟨g3, rfl, hr3, hf3⟩; have HR3 := Lib.hid hr3; have HF3 := Lib.hid hf3; clear hr3 hf3)
    | (go_at_call 26; (with_reducible refine (HT3.out _).mono ?_); rintro e w5 ⟨g4, rfl, hr4, hf4⟩; have HR4 := Lib.hid hr4; have HF4 := Lib.hid hf4; clear hr4 hf4)
    | (go_at_call 25; have hcc := (concat_lits LA HROWS.out 62 g1 g2 g3 g4 w5 (((HR1.out.fresh HF2.out).fresh HF3.out).fresh HF4.out) ((HR2.out.fresh HF3.out).fresh HF4.out) (HR3.out.fresh HF4.out) HR4.out); (with_reducible refine hcc.mono ?_); clear hcc; rintro e w6 ⟨A6, c6, rfl, ho6, hf6⟩; have HO6 := Lib.hid ho6; have HF6 := Lib.hid hf6; clear ho6 hf6)
    | (go_at_call 24; have hnw := made_ok A6 288 c6 LA w6 w6.heap.size HO6.out.rd (Nat.le_refl _) (by omega) HFA.out.2 HFA.out.1; (with_reducible refine hnw.mono ?_); clear hnw; rintro e w7 ⟨gs, sbl, rfl, hC1, hS7⟩; have HC1 := Lib.hid hC1; have HS7 := Lib.hid hS7; clear hC1 hS7)
    | (go_at_call 26; (with_reducible refine (HT4.out _).mono ?_); rintro e w8 ⟨g8, rfl, hr8, hf8⟩; have HR8 := Lib.hid hr8; have HF8 := Lib.hid hf8; clear hr8 hf8)
    | (go_at_call 24; have hnw := made_ok (some ⟨g8, 0, none⟩) 30 30 LD w8 w8.heap.size (by have h := HR8.out; rw [HDIST.out] at h; exact h) (Nat.le_refl _) (by omega) HFD.out.2 HFD.out.1; (with_reducible refine hnw.mono ?_); clear hnw; rintro e w9 ⟨gd, dbl, rfl, hC2, hS9⟩; have HC2 := Lib.hid hC2; have HS9 := Lib.hid hS9; clear hC2 hS9)
    | (go_at_call 27; have F6 := ((((HF1.out.trans HF2.out).trans HF3.out).trans HF4.out).trans HF6.out); have F8 := (F6.trans HS7.out.1).trans HF8.out; have F9 := F8.trans HS9.out.1; have hin := HW.out.1.inside; have z6 := F6.size; have z8 := F8.size; have z9 := (HS1.out.1.trans F9).size; have hen := ended_any g gs gd 3 3 LA LD sbl dbl bl A n c l base w9 (HW.out.fresh F9) (HC1.out.fresh (HF8.out.trans HS9.out.1)) HC2.out (fun b hb h => by have h1 := hin b h; have h2 := HS7.out.2 b hb; omega) (fun b hb h => by have h1 := hin b h; have h2 := HS9.out.2 b hb; omega) (HST.out.fresh (HS1.out.1.trans F9)) (fun q hq h => by have h1 := HS1.out.2 q h; obtain ⟨_, cs, fr, h2⟩ := HST.out.block q hq; have h3 := (Array.getElem?_eq_some_iff.1 h2).1; omega) (fun s hs => by have h := HOK.out s hs; rw [HLA.out, HLD.out]; exact h) hn (by omega); (with_reducible refine hen.mono ?_); clear hen; rintro e w10 ⟨A', c', bl', rfl, ho, ht⟩))
  go_ret
  have F10 : Fresh w w10 := ((HS1.out.fresh (((((((HF1.out.trans HF2.out).trans HF3.out).trans HF4.out).trans HF6.out).trans HS7.out.1).trans HF8.out).trans HS9.out.1)).turn ht).1
  exact ⟨A', c', rfl, own_low ho (by omega), F10⟩
end Go.Proofs.YtppgceighgpgoaaGreatDoor.defp
/-
  alike, trimmed, again. My own text.
-/
namespace Go.Proofs.YtppgceighgpgoaaGreatDoor.defp
open Go.RowKit Go.Maps Go.Proofs.YtppgceighgpgoaaGreatDoor.base Go.Proofs.YtppgceighgpgoaaGreatDoor.num Go.Proofs.YtppgceighgpgoaaGreatDoor.bitnum Go.Proofs.YtppgceighgpgoaaGreatDoor.bitp Go.Proofs.YtppgceighgpgoaaGreatDoor.huffnum Go.Proofs.YtppgceighgpgoaaGreatDoor.huffp
set_option linter.unusedVariables false
theorem nat_at {ls : List Nat} {w : World} {B n : Nat} {A : Option Addr} (h : Rd w B A n (nv ls)) {j : Nat} (hj : j < n) : ∃ b off, A = some ⟨b, off, none⟩ ∧ b < B ∧ w.cell? ⟨b, off + j, none⟩ = some (.int .i64 (ls.getD j 0 : Nat)) := by
  obtain ⟨b, off, x, hA, hb, hx, hc⟩ := h.at_ hj
  refine ⟨b, off, hA, hb, ?_⟩
  rw [hc, List.getD_eq_getElem?_getD, hx]
  rfl
set_option maxRecDepth 100000 in
set_option maxHeartbeats 8000000 in
theorem alike_any (A : Option Addr) (n c B : Nat) (ls : List Nat) (w : World) (hr : Rd w B A n (nv ls)) (hB : B ≤ w.heap.size) (hn : 1 ≤ n) (hn2 : n ≤ 1000) :
    Calls Tryz.prog 71 #[.slice A n c] w fun e w' => ∃ k : Nat, e = .returned (.int .i64 k) ∧ 1 ≤ k ∧ k ≤ n ∧ (∀ i, i < k → ls.getD i 0 = ls.getD 0 0) ∧ (k < n → ls.getD k 0 ≠ ls.getD 0 0) ∧ Fresh w w' := by
  have HR := Lib.hid hr
  clear hr
  go_enter Tryz.func71, Tryz.ntmps71
  go_wp2
  go_loopw [3] (fun t wr => ∃ j : Nat, t = .int .i64 j ∧ 1 ≤ j ∧ j ≤ n ∧ Hid (∀ i, i < j → ls.getD i 0 = ls.getD 0 0) ∧ Hid (Fresh w wr)) (fun t _ => n - (intOf t).toNat)
  case atStart => exact ⟨1, rfl, Nat.le_refl _, hn, Lib.hid (fun i hi => by rw [show i = 0 by omega]), Lib.hid (Fresh.refl _)⟩
  case round =>
    obtain ⟨j, rfl, hj1, hjn, HS, HF⟩ := hrel
    by_cases hlt : j < n
    · have hjl : (j : Int) < (n : Int) := by omega
      obtain ⟨b, off, rfl, hb, ka⟩ := nat_at (HR.out.keep fun k hk => HF.out.block k (by omega)) hlt
      obtain ⟨b', off', e', hb', kb⟩ := nat_at (HR.out.keep (w' := wr) fun k hk => HF.out.block k (by omega)) (j := 0) (by omega)
      injection e' with e'
      injection e' with e1 e2 _
      subst e1; subst e2
      rw [Nat.add_zero] at kb
      have HD : Hid (ls.getD j 0 = ls.getD j 0) := rfl
      by_cases huv : ls.getD j 0 = ls.getD 0 0
      · rw [huv] at ka
        have hs1 : ∀ i, i < j + 1 → ls.getD i 0 = ls.getD 0 0 := fun i hi => by
          rcases Nat.lt_or_ge i j with h | h
          · exact HS.out i h
          · obtain rfl : i = j := by omega
            exact huv
        have HS1 := Lib.hid hs1
        clear hs1 huv HD
        obtain ⟨u, hu⟩ : ∃ u, ls.getD 0 0 = u := ⟨_, rfl⟩
        rw [hu] at ka kb
        clear hu
        go_wp2
        go_quiet (fail)
        go_wp2
        go_roundw
        case rel => exact ⟨j + 1, by go_num, by omega, hlt, HS1.out, HF.out.trans (Fresh.drewN _ _)⟩
        case measure => simp [intOf]; omega
      · have HUV := Lib.hid huv
        have huv' : ¬ ((ls.getD j 0 : Nat) : Int) = ((ls.getD 0 0 : Nat) : Int) := fun h => huv (by omega)
        clear huv HD
        generalize ls.getD j 0 = v at ka huv'
        generalize ls.getD 0 0 = u at kb huv'
        go_wp2
        go_quiet (fail)
        go_wp2
        go_ret
        exact ⟨j, rfl, hj1, hjn, HS.out, fun _ => HUV.out, HF.out.trans (Fresh.drewN _ _)⟩
    · have hin : j = n := by omega
      subst hin
      go_wp2
      go_quiet (fail)
      go_wp2
      go_ret
      exact ⟨j, rfl, hj1, hjn, HS.out, fun h => absurd h (by omega), HF.out.trans (Fresh.drewN _ _)⟩
set_option maxRecDepth 100000 in
set_option maxHeartbeats 8000000 in
theorem trimmed_any (A : Option Addr) (n c B least : Nat) (ls : List Nat) (w : World) (hr : Rd w B A n (nv ls)) (hB : B ≤ w.heap.size) (hl : 1 ≤ least) (hn : least ≤ n) (hn2 : n ≤ 1000) (hc : n ≤ c) :
    Calls Tryz.prog 29 #[.slice A n c, .int .i64 least] w fun e w' => ∃ k : Nat, e = .returned (.slice A k c) ∧ least ≤ k ∧ k ≤ n ∧ (∀ i, k ≤ i → i < n → ls.getD i 0 = 0) ∧ Fresh w w' ∧ (k = least ∨ ls.getD (k - 1) 0 ≠ 0) := by
  have HR := Lib.hid hr
  clear hr
  go_enter Tryz.func29, Tryz.ntmps29
  go_wp2
  go_loopw [5] (fun t wr => ∃ j : Nat, t = .int .i64 j ∧ least ≤ j ∧ j ≤ n ∧ Hid (∀ i, j ≤ i → i < n → ls.getD i 0 = 0) ∧ Hid (Fresh w wr)) (fun t _ => (intOf t).toNat)
  case atStart => exact ⟨n, rfl, hn, Nat.le_refl _, Lib.hid (fun i h1 h2 => by omega), Lib.hid (Fresh.refl _)⟩
  case round =>
    obtain ⟨j, rfl, hj1, hjn, HS, HF⟩ := hrel
    have hjc : (j : Int) ≤ (c : Int) := by omega
    by_cases hlt : least < j
    · obtain ⟨q, rfl⟩ : ∃ q, j = q + 1 := ⟨j - 1, by omega⟩
      have hjl : (least : Int) < ((q + 1 : Nat) : Int) := by omega
      have eq1 : ((q + 1 : Nat) : Int) - 1 = (q : Int) := by omega
      have eq2 : ((q : Int) + 1) - 1 = (q : Int) := by omega
      have qn : (q : Int) < (n : Int) := by omega
      obtain ⟨b, off, rfl, hb, ka⟩ := nat_at (HR.out.keep fun k hk => HF.out.block k (by omega)) (j := q) (by omega)
      by_cases hz : ls.getD q 0 = 0
      · rw [hz] at ka
        have hs1 : ∀ i, q ≤ i → i < n → ls.getD i 0 = 0 := fun i h1 h2 => by
          rcases Nat.lt_or_ge q i with h | h
          · exact HS.out i h h2
          · obtain rfl : i = q := by omega
            exact hz
        have HS1 := Lib.hid hs1
        clear hs1 hz
        go_wp2
        refine ⟨⟨q, rfl, by omega, by omega, HS1, HF⟩, ?_⟩
        show ((q : Int)).toNat < (((q + 1 : Nat) : Int)).toNat
        omega
      · have HZ := Lib.hid hz
        have huv' : ¬ ((ls.getD q 0 : Nat) : Int) = 0 := fun h => hz (by omega)
        clear hz
        generalize ls.getD q 0 = v at ka huv'
        go_wp2
        go_ret
        exact ⟨q + 1, rfl, hj1, hjn, HS.out, HF.out, .inr (by rw [Nat.add_sub_cancel]; exact HZ.out)⟩
    · have hin : j = least := by omega
      subst hin
      go_wp2
      go_ret
      exact ⟨j, rfl, Nat.le_refl _, hjn, HS.out, HF.out, .inl rfl⟩
end Go.Proofs.YtppgceighgpgoaaGreatDoor.defp
/-
  again. My own text.
-/
namespace Go.Proofs.YtppgceighgpgoaaGreatDoor.defp
open Go.RowKit Go.Maps Go.Proofs.YtppgceighgpgoaaGreatDoor.base Go.Proofs.YtppgceighgpgoaaGreatDoor.num Go.Proofs.YtppgceighgpgoaaGreatDoor.bitnum Go.Proofs.YtppgceighgpgoaaGreatDoor.bitp Go.Proofs.YtppgceighgpgoaaGreatDoor.huffnum Go.Proofs.YtppgceighgpgoaaGreatDoor.huffp
set_option linter.unusedVariables false
abbrev tPart : TypeId := 112
/-- a part: its symbol, its own bits, their number -/
abbrev Pt := Nat × Nat × Nat
def pcell (p : Pt) : List Value := [.int .i64 (p.1 : Nat), .int .i64 (p.2.1 : Nat), .int .i64 (p.2.2 : Nat)]
def againP (v s : Nat) : Pt × Nat := if s < 3 then ((v, 0, 0), 1) else if 0 < v then ((16, 2, min s 6 - 3), min s 6) else if s < 11 then ((17, 3, s - 3), s) else ((18, 7, min s 138 - 11), min s 138)
theorem again_results {P : Program} {fn : Func} {p u : Tmp} {ty : TypeId} (h : fn.results = #[.cell p ty, .tmp u]) (tmps : Array Value) (w : World) (g : Nat) (t : TypeId) (cs : List Value) (d : TypeDesc)
    (hp : tmps.getD p undef = .pointer (some ⟨g, 0, none⟩)) (hg : Bk w g t cs)
    (hu : P.underlying ty = some d) (hd : (match d with | .struct _ | .array _ _ => true | _ => false) = true) (hi : (P.info? ty).map (·.size) = some cs.length) :
    (results fn tmps).run P w = .ok (.tuple #[.agg cs.toArray, tmps.getD u undef]) w := by
  rw [results_cell_tmp h, hp]
  simp [asAddr, run_loadVar_row w g t ty cs.toArray (0, 0) d hg hu hd (by simpa using hi)]
set_option maxRecDepth 100000 in
set_option maxHeartbeats 4000000 in
theorem again_any (v s : Nat) (hv : v ≤ 15) (hs : 1 ≤ s ∧ s ≤ 1000) (w : World) :
    Calls Tryz.prog 72 #[.int .i64 v, .int .i64 s] w fun e w' => e = .returned (.tuple #[.agg (pcell (againP v s).1).toArray, .int .i64 ((againP v s).2 : Nat)]) ∧ Fresh w w' := by
  have hz := Bk.made w tPart #[.int .i64 0, .int .i64 0, .int .i64 0]
  have HZ := Lib.hid hz
  have HF := Lib.hid (Fresh.alloc w (.cells #[.int .i64 0, .int .i64 0, .int .i64 0] tPart))
  clear hz
  have hs1 := hs.2
  by_cases c1 : s < 3
  · have e : againP v s = ((v, 0, 0), 1) := by unfold againP; rw [if_pos c1]
    rw [e]
    have i1 : (s : Int) < 3 := by omega
    clear e
    go_enter Tryz.func72, Tryz.ntmps72
    go_wp2_with (refine wpList_store_row (o := ⟨none, _, _, _, _, _⟩) rfl tPart (.tmp 4) (.tmp 12) rfl w.heap.size (pcell (v, 0, 0)).toArray rfl rfl tPart _ HZ.out (by kernel_rfl) (by simp [pcell]) (by kernel_rfl) ?_)
    exact bodyPost_ret (again_results (p := 4) (u := 5) (by kernel_rfl) _ _ w.heap.size tPart (pcell (v, 0, 0)) _ rfl (HZ.out.row _) Tryz.underlying112 rfl (by kernel_rfl)) rfl ⟨rfl, HF.out.but (Nat.le_refl _) (But.row _ _ _)⟩
  by_cases c2 : 0 < v
  · have j1 : (0 : Int) < (v : Int) := by omega
    by_cases c3 : s ≤ 6
    · obtain ⟨q, rfl⟩ : ∃ q, s = q + 3 := ⟨s - 3, by omega⟩
      have i1 : min ((q : Int) + 3) 6 = (q : Int) + 3 := by omega
      have i2 : min (((q + 3 : Nat) : Int)) 6 = (q : Int) + 3 := by omega
      have e : againP v (q + 3) = ((16, 2, q), q + 3) := by unfold againP; rw [if_neg c1, if_pos c2, Nat.min_eq_left c3, Nat.add_sub_cancel]
      rw [e]
      have i0 : ¬ ((q + 3 : Nat) : Int) < 3 := by omega
      clear e
      go_enter Tryz.func72, Tryz.ntmps72
      go_wp2_with (refine wpList_store_row (o := ⟨none, _, _, _, _, _⟩) rfl tPart (.tmp 4) (.tmp 20) rfl w.heap.size (pcell (16, 2, q)).toArray rfl rfl tPart _ HZ.out (by kernel_rfl) (by simp [pcell]) (by kernel_rfl) ?_)
      exact bodyPost_ret (again_results (p := 4) (u := 5) (by kernel_rfl) _ _ w.heap.size tPart (pcell (16, 2, q)) _ rfl (HZ.out.row _) Tryz.underlying112 rfl (by kernel_rfl)) rfl ⟨rfl, HF.out.but (Nat.le_refl _) (But.row _ _ _)⟩
    · have i1 : min (s : Int) 6 = 6 := by omega
      have e : againP v s = ((16, 2, 3), 6) := by unfold againP; rw [if_neg c1, if_pos c2, Nat.min_eq_right (by omega)]
      rw [e]
      have i0 : ¬ (s : Int) < 3 := by omega
      clear e
      go_enter Tryz.func72, Tryz.ntmps72
      go_wp2_with (refine wpList_store_row (o := ⟨none, _, _, _, _, _⟩) rfl tPart (.tmp 4) (.tmp 20) rfl w.heap.size (pcell (16, 2, 3)).toArray rfl rfl tPart _ HZ.out (by kernel_rfl) (by simp [pcell]) (by kernel_rfl) ?_)
      exact bodyPost_ret (again_results (p := 4) (u := 5) (by kernel_rfl) _ _ w.heap.size tPart (pcell (16, 2, 3)) _ rfl (HZ.out.row _) Tryz.underlying112 rfl (by kernel_rfl)) rfl ⟨rfl, HF.out.but (Nat.le_refl _) (But.row _ _ _)⟩
  · have j1 : v = 0 := by omega
    subst j1
    by_cases c3 : s < 11
    · obtain ⟨q, rfl⟩ : ∃ q, s = q + 3 := ⟨s - 3, by omega⟩
      have i1 : ((q + 3 : Nat) : Int) < 11 := by omega
      have e : againP 0 (q + 3) = ((17, 3, q), q + 3) := by unfold againP; rw [if_neg c1, if_neg c2, if_pos c3, Nat.add_sub_cancel]
      rw [e]
      have i0 : ¬ ((q + 3 : Nat) : Int) < 3 := by omega
      clear e
      go_enter Tryz.func72, Tryz.ntmps72
      go_wp2_with (refine wpList_store_row (o := ⟨none, _, _, _, _, _⟩) rfl tPart (.tmp 4) (.tmp 27) rfl w.heap.size (pcell (17, 3, q)).toArray rfl rfl tPart _ HZ.out (by kernel_rfl) (by simp [pcell]) (by kernel_rfl) ?_)
      exact bodyPost_ret (again_results (p := 4) (u := 5) (by kernel_rfl) _ _ w.heap.size tPart (pcell (17, 3, q)) _ rfl (HZ.out.row _) Tryz.underlying112 rfl (by kernel_rfl)) rfl ⟨rfl, HF.out.but (Nat.le_refl _) (But.row _ _ _)⟩
    by_cases c4 : s ≤ 138
    · obtain ⟨q, rfl⟩ : ∃ q, s = q + 11 := ⟨s - 11, by omega⟩
      have i1 : min ((q : Int) + 11) 138 = (q : Int) + 11 := by omega
      have i3 : min (((q + 11 : Nat) : Int)) 138 = (q : Int) + 11 := by omega
      have e : againP 0 (q + 11) = ((18, 7, q), q + 11) := by unfold againP; rw [if_neg c1, if_neg c2, if_neg c3, Nat.min_eq_left c4, Nat.add_sub_cancel]
      rw [e]
      have i0 : ¬ ((q + 11 : Nat) : Int) < 3 := by omega
      have i2 : ¬ ((q + 11 : Nat) : Int) < 11 := by omega
      clear e
      go_enter Tryz.func72, Tryz.ntmps72
      go_wp2_with (refine wpList_store_row (o := ⟨none, _, _, _, _, _⟩) rfl tPart (.tmp 4) (.tmp 33) rfl w.heap.size (pcell (18, 7, q)).toArray rfl rfl tPart _ HZ.out (by kernel_rfl) (by simp [pcell]) (by kernel_rfl) ?_)
      exact bodyPost_ret (again_results (p := 4) (u := 5) (by kernel_rfl) _ _ w.heap.size tPart (pcell (18, 7, q)) _ rfl (HZ.out.row _) Tryz.underlying112 rfl (by kernel_rfl)) rfl ⟨rfl, HF.out.but (Nat.le_refl _) (But.row _ _ _)⟩
    · have i1 : min (s : Int) 138 = 138 := by omega
      have e : againP 0 s = ((18, 7, 127), 138) := by unfold againP; rw [if_neg c1, if_neg c2, if_neg c3, Nat.min_eq_right (by omega)]
      rw [e]
      have i0 : ¬ (s : Int) < 3 := by omega
      have i2 : ¬ (s : Int) < 11 := by omega
      clear e
      go_enter Tryz.func72, Tryz.ntmps72
      go_wp2_with (refine wpList_store_row (o := ⟨none, _, _, _, _, _⟩) rfl tPart (.tmp 4) (.tmp 33) rfl w.heap.size (pcell (18, 7, 127)).toArray rfl rfl tPart _ HZ.out (by kernel_rfl) (by simp [pcell]) (by kernel_rfl) ?_)
      exact bodyPost_ret (again_results (p := 4) (u := 5) (by kernel_rfl) _ _ w.heap.size tPart (pcell (18, 7, 127)) _ rfl (HZ.out.row _) Tryz.underlying112 rfl (by kernel_rfl)) rfl ⟨rfl, HF.out.but (Nat.le_refl _) (But.row _ _ _)⟩
end Go.Proofs.YtppgceighgpgoaaGreatDoor.defp
/-
  Parts that tell lengths: what they stand for; rows of parts. My own text.
-/
namespace Go.Proofs.YtppgceighgpgoaaGreatDoor.defp
open Go.RowKit Go.Maps Go.Proofs.YtppgceighgpgoaaGreatDoor.base Go.Proofs.YtppgceighgpgoaaGreatDoor.num Go.Proofs.YtppgceighgpgoaaGreatDoor.bitnum Go.Proofs.YtppgceighgpgoaaGreatDoor.bitp Go.Proofs.YtppgceighgpgoaaGreatDoor.huffnum Go.Proofs.YtppgceighgpgoaaGreatDoor.huffp
set_option linter.unusedVariables false
/-- the parts tell the first i lengths -/
inductive Pa (ls : List Nat) : Nat → List Pt → Prop where
  | nil : Pa ls 0 []
  | one {i : Nat} {ps : List Pt} : Pa ls i ps → i < ls.length → Pa ls (i + 1) (ps ++ [(ls.getD i 0, 0, 0)])
  | rep {i q : Nat} {ps : List Pt} : Pa ls i ps → 0 < i → q < 4 → i + (q + 3) ≤ ls.length → (∀ j, j < q + 3 → ls.getD (i + j) 0 = ls.getD (i - 1) 0) → Pa ls (i + (q + 3)) (ps ++ [(16, 2, q)])
  | few {i q : Nat} {ps : List Pt} : Pa ls i ps → q < 8 → i + (q + 3) ≤ ls.length → (∀ j, j < q + 3 → ls.getD (i + j) 0 = 0) → Pa ls (i + (q + 3)) (ps ++ [(17, 3, q)])
  | many {i q : Nat} {ps : List Pt} : Pa ls i ps → q < 128 → i + (q + 11) ≤ ls.length → (∀ j, j < q + 11 → ls.getD (i + j) 0 = 0) → Pa ls (i + (q + 11)) (ps ++ [(18, 7, q)])
theorem Pa.le {ls : List Nat} {i : Nat} {ps : List Pt} (h : Pa ls i ps) : i ≤ ls.length ∧ ps.length ≤ i := by
  induction h with
  | nil => simp
  | one h hi ih => simp; omega
  | rep h _ _ h2 _ ih => simp; omega
  | few h _ h2 _ ih => simp; omega
  | many h _ h2 _ ih => simp; omega
theorem Pa.each {ls : List Nat} (h15 : ∀ x ∈ ls, x ≤ 15) {i : Nat} {ps : List Pt} (h : Pa ls i ps) : ∀ p ∈ ps, p.1 ≤ 18 ∧ p.2.1 ≤ 7 ∧ p.2.2 < 2 ^ p.2.1 := by
  induction h with
  | nil => intro p hp; cases hp
  | one h hi ih =>
    rename_i k l
    intro p hp
    rcases List.mem_append.1 hp with hp | hp
    · exact ih p hp
    · rw [List.mem_singleton] at hp
      subst hp
      have : ls.getD k 0 ≤ 15 := by
        rw [List.getD_eq_getElem?_getD, List.getElem?_eq_getElem hi]
        exact h15 _ (List.getElem_mem _)
      exact ⟨by show ls.getD k 0 ≤ 18; omega, by simp, by simp⟩
  | rep h _ hq _ _ ih =>
    intro p hp
    rcases List.mem_append.1 hp with hp | hp
    · exact ih p hp
    · rw [List.mem_singleton] at hp
      subst hp
      exact ⟨by simp, by simp, hq⟩
  | few h hq _ _ ih =>
    intro p hp
    rcases List.mem_append.1 hp with hp | hp
    · exact ih p hp
    · rw [List.mem_singleton] at hp
      subst hp
      exact ⟨by simp, by simp, hq⟩
  | many h hq _ _ ih =>
    intro p hp
    rcases List.mem_append.1 hp with hp | hp
    · exact ih p hp
    · rw [List.mem_singleton] at hp
      subst hp
      exact ⟨by simp, by simp, hq⟩
theorem Pa_again {ls : List Nat} {i v s : Nat} {ps : List Pt} (h : Pa ls i ps) (hs : 1 ≤ s) (hl : i + s ≤ ls.length) (hv : ∀ j, j < s → ls.getD (i + j) 0 = v) (hp : v = 0 ∨ (0 < i ∧ ls.getD (i - 1) 0 = v)) :
    Pa ls (i + (againP v s).2) (ps ++ [(againP v s).1]) ∧ 1 ≤ (againP v s).2 ∧ (againP v s).2 ≤ s := by
  unfold againP
  by_cases c1 : s < 3
  · rw [if_pos c1]
    have h0 := hv 0 (by omega)
    rw [Nat.add_zero] at h0
    refine ⟨?_, Nat.le_refl _, hs⟩
    have := Pa.one h (by omega)
    rwa [h0] at this
  rw [if_neg c1]
  by_cases c2 : 0 < v
  · rw [if_pos c2]
    obtain ⟨q, hq⟩ : ∃ q, min s 6 = q + 3 := ⟨min s 6 - 3, by omega⟩
    rw [hq, Nat.add_sub_cancel]
    rcases hp with hp | ⟨hp1, hp2⟩
    · omega
    exact ⟨Pa.rep h hp1 (by omega) (by omega) (fun j hj => by rw [hp2]; exact hv j (by omega)), by show 1 ≤ q + 3; omega, by show q + 3 ≤ s; omega⟩
  rw [if_neg c2]
  have v0 : v = 0 := by omega
  subst v0
  by_cases c3 : s < 11
  · rw [if_pos c3]
    obtain ⟨q, rfl⟩ : ∃ q, s = q + 3 := ⟨s - 3, by omega⟩
    rw [Nat.add_sub_cancel]
    exact ⟨Pa.few h (by omega) hl hv, hs, Nat.le_refl _⟩
  rw [if_neg c3]
  obtain ⟨q, hq⟩ : ∃ q, min s 138 = q + 11 := ⟨min s 138 - 11, by omega⟩
  rw [hq, Nat.add_sub_cancel]
  exact ⟨Pa.many h (by omega) (by omega) (fun j hj => hv j (by omega)), by show 1 ≤ q + 11; omega, by show q + 11 ≤ s; omega⟩
/-! how many bits parts have at the most, if the code of lengths has no code of more than seven -/
def cost (ps : List Pt) : Nat := (ps.map fun p => 7 + p.2.1).sum
theorem cost_snoc (ps : List Pt) (p : Pt) : cost (ps ++ [p]) = cost ps + (7 + p.2.1) := by simp [cost]
def phi0 (s : Nat) : Nat := if s = 0 then 0 else 14 * ((s - 1) / 138) + if (s - 1) % 138 < 2 then 7 * ((s - 1) % 138 + 1) else 14
def phi (v s : Nat) : Nat := if 0 < v then 7 * s else phi0 s
theorem phi_again (v s : Nat) (hs : 1 ≤ s) : 7 + (againP v s).1.2.1 + phi v (s - (againP v s).2) ≤ phi v s := by
  unfold againP phi
  by_cases c2 : 0 < v
  · simp only [c2, if_true]
    by_cases c1 : s < 3
    · rw [if_pos c1]
      show 7 + 0 + 7 * (s - 1) ≤ 7 * s
      omega
    · rw [if_neg c1]
      show 7 + 2 + 7 * (s - min s 6) ≤ 7 * s
      omega
  · simp only [c2, if_false]
    unfold phi0
    by_cases c1 : s < 3
    · rw [if_pos c1]
      show 7 + 0 + (if s - 1 = 0 then 0 else 14 * ((s - 1 - 1) / 138) + if (s - 1 - 1) % 138 < 2 then 7 * ((s - 1 - 1) % 138 + 1) else 14) ≤ _
      rcases (by omega : s = 1 ∨ s = 2) with rfl | rfl <;> decide
    rw [if_neg c1]
    by_cases c3 : s < 11
    · rw [if_pos c3]
      show 7 + 3 + (if s - s = 0 then 0 else _) ≤ _
      rw [if_pos (Nat.sub_self s), if_neg (by omega : ¬ s = 0), if_neg (by omega)]
      omega
    rw [if_neg c3]
    show 7 + 7 + (if s - min s 138 = 0 then 0 else _) ≤ _
    by_cases c4 : s ≤ 138
    · rw [Nat.min_eq_left c4, if_pos (Nat.sub_self s), if_neg (by omega : ¬ s = 0), if_neg (by omega)]
      omega
    · have e0 : min s 138 = 138 := by omega
      rw [e0]
      show 7 + 7 + (if s - 138 = 0 then 0 else (14 * ((s - 138 - 1) / 138) + if (s - 138 - 1) % 138 < 2 then 7 * ((s - 138 - 1) % 138 + 1) else 14)) ≤ _
      rw [if_neg (by omega : ¬ s - 138 = 0), if_neg (by omega : ¬ s = 0)]
      have e1 : (s - 1) / 138 = (s - 138 - 1) / 138 + 1 := by omega
      have e2 : (s - 1) % 138 = (s - 138 - 1) % 138 := by omega
      rw [e1, e2]
      omega
theorem phi_few (k : Nat) : 138 * phi0 k ≤ 14 * k + 1932 := by
  unfold phi0
  split
  · omega
  · split <;> omega
/-- how many of the first i lengths aren't 0 -/
def nzc (ls : List Nat) (i : Nat) : Nat := (ls.take i).countP fun x => decide (0 < x)
theorem nzc_run {ls : List Nat} {i v : Nat} : ∀ k, i + k ≤ ls.length → (∀ t, i ≤ t → t < i + k → ls.getD t 0 = v) → nzc ls (i + k) = nzc ls i + if 0 < v then k else 0
  | 0, _, _ => by simp
  | k + 1, hl, h => by
    have ih := nzc_run k (by omega) fun t h1 h2 => h t h1 (by omega)
    have hx := h (i + k) (by omega) (by omega)
    rw [List.getD_eq_getElem?_getD, List.getElem?_eq_getElem (by omega)] at hx
    have hx2 : ls[i + k]'(by omega) = v := hx
    rw [← Nat.add_assoc]
    unfold nzc at ih ⊢
    rw [List.take_add_one, List.getElem?_eq_getElem (by omega), List.countP_append, ih, hx2]
    show _ + [v].countP _ = _
    rw [List.countP_cons, List.countP_nil]
    by_cases c : 0 < v
    · simp [c]; omega
    · simp [c]
/-- what the parts of the first i lengths have cost, where a run ends there -/
def Cost (ls : List Nat) (i : Nat) (ps : List Pt) : Prop := ∃ R, 138 * cost ps ≤ 966 * nzc ls i + 14 * (i - nzc ls i) + 1932 * R ∧ R ≤ nzc ls i + 1 ∧ (i < ls.length → ls.getD i 0 = 0 → R ≤ nzc ls i) ∧ nzc ls i ≤ i
theorem Cost.nil (ls : List Nat) : Cost ls 0 [] := ⟨0, by simp [cost], by omega, fun _ _ => Nat.zero_le _, by unfold nzc; simp⟩
theorem Cost.run {ls : List Nat} {i k v : Nat} {ps ps' : List Pt} (h : Cost ls i ps) (hk : 1 ≤ k) (hl : i + k ≤ ls.length) (hv : ∀ t, i ≤ t → t < i + k → ls.getD t 0 = v) (hne : i + k < ls.length → ls.getD (i + k) 0 ≠ v) (hc : cost ps' ≤ cost ps + phi v k) : Cost ls (i + k) ps' := by
  obtain ⟨R, h1, h2, h3, h4⟩ := h
  have hn := nzc_run k hl hv
  have hi := hv i (Nat.le_refl _) (by omega)
  by_cases c : 0 < v
  · rw [if_pos c] at hn
    unfold phi at hc
    rw [if_pos c] at hc
    refine ⟨R, ?_, by omega, fun _ _ => by omega, by omega⟩
    rw [hn]
    have : i + k - (nzc ls i + k) = i - nzc ls i := by omega
    rw [this]
    omega
  · rw [if_neg c, Nat.add_zero] at hn
    unfold phi at hc
    rw [if_neg c] at hc
    have hp := phi_few k
    have hv0 : v = 0 := by omega
    have := h3 (by omega) (by rw [hi]; exact hv0)
    refine ⟨R + 1, ?_, by omega, fun h5 h6 => absurd (h6.trans hv0.symm) (hne h5), by omega⟩
    rw [hn]
    have : i + k - nzc ls i = (i - nzc ls i) + k := by omega
    rw [this]
    omega
/-! the one way in which lengths are told by parts -/
inductive Rn (v : Nat) : Nat → List Pt → Prop where
  | nil : Rn v 0 []
  | cons {s : Nat} {ps : List Pt} : 0 < s → Rn v (s - (againP v s).2) ps → Rn v s ((againP v s).1 :: ps)
theorem Rn.uniq {v s : Nat} {a : List Pt} (h : Rn v s a) : ∀ {b : List Pt}, Rn v s b → a = b := by
  induction h with
  | nil =>
    intro b h'
    cases h' with
    | nil => rfl
    | cons h _ => exact absurd h (Nat.lt_irrefl _)
  | cons hs h ih =>
    intro b h'
    cases h' with
    | nil => exact absurd hs (Nat.lt_irrefl _)
    | cons _ h2 => rw [ih h2]
/-- behind ps0, of K alike, s are left -/
def RnFrom (v s : Nat) (ps0 : List Pt) (K : Nat) (ps' : List Pt) : Prop := ∃ pre, ps' = ps0 ++ pre ∧ ∀ tail, Rn v s tail → Rn v K (pre ++ tail)
theorem RnFrom.start (v K : Nat) (ps0 : List Pt) : RnFrom v K ps0 K ps0 := ⟨[], by rw [List.append_nil], fun t h => h⟩
theorem RnFrom.step {v s K : Nat} {ps0 ps' : List Pt} (h : RnFrom v s ps0 K ps') (hs : 0 < s) : RnFrom v (s - (againP v s).2) ps0 K (ps' ++ [(againP v s).1]) := by
  obtain ⟨pre, rfl, hp⟩ := h
  exact ⟨pre ++ [(againP v s).1], by rw [List.append_assoc], fun t ht => by rw [List.append_assoc]; exact hp _ (Rn.cons hs ht)⟩
theorem RnFrom.done {v K : Nat} {ps0 ps' : List Pt} (h : RnFrom v 0 ps0 K ps') : ∃ pre, ps' = ps0 ++ pre ∧ Rn v K pre := by
  obtain ⟨pre, rfl, hp⟩ := h
  exact ⟨pre, rfl, by have := hp [] Rn.nil; rwa [List.append_nil] at this⟩
/-- the parts of one run -/
def RunOf (v k : Nat) (l : List Pt) : Prop := (0 < v ∧ ∃ r, l = (v, 0, 0) :: r ∧ Rn v (k - 1) r) ∨ (v = 0 ∧ Rn v k l)
theorem RunOf.uniq {v k : Nat} {a b : List Pt} (h : RunOf v k a) (h' : RunOf v k b) : a = b := by
  rcases h with ⟨h0, r, rfl, hr⟩ | ⟨h0, hr⟩
  · rcases h' with ⟨_, r', rfl, hr'⟩ | ⟨h1, _⟩
    · rw [hr.uniq hr']
    · omega
  · rcases h' with ⟨h1, _⟩ | ⟨_, hr'⟩
    · omega
    · exact hr.uniq hr'
/-- run by run -/
inductive Pd (ls : List Nat) (n : Nat) : Nat → List Pt → Prop where
  | nil : Pd ls n 0 []
  | run {i k : Nat} {ps l : List Pt} : Pd ls n i ps → 1 ≤ k → i + k ≤ n → (∀ t, i ≤ t → t < i + k → ls.getD t 0 = ls.getD i 0) → (i + k < n → ls.getD (i + k) 0 ≠ ls.getD i 0) → RunOf (ls.getD i 0) k l → Pd ls n (i + k) (ps ++ l)
theorem Pd.edge {ls : List Nat} {n i : Nat} {ps : List Pt} (h : Pd ls n i ps) (h0 : 0 < i) (hn : i < n) : ls.getD i 0 ≠ ls.getD (i - 1) 0 := by
  cases h with
  | nil => omega
  | run h hk hl hs hne hr =>
    rename_i i k ps l
    rw [hs (i + k - 1) (by omega) (by omega)]
    exact hne hn
theorem Pd.uniq_at {ls : List Nat} {n m : Nat} {ps : List Pt} (h : Pd ls n m ps) : ∀ {ps' : List Pt} {m' : Nat}, Pd ls n m' ps' → m = m' → ps = ps' := by
  induction h with
  | nil =>
    intro ps' m' h' hm
    cases h' with
    | nil => rfl
    | run _ hk _ _ _ _ => omega
  | run h hk hl hs hne hr ih =>
    rename_i i k ps l
    intro ps' m' h' hm
    cases h' with
    | nil => omega
    | run h2 hk2 hl2 hs2 hne2 hr2 =>
      rename_i i2 k2 ps2 l2
      have e : i = i2 := by
        rcases Nat.lt_trichotomy i i2 with c | c | c
        · have h3 := h2.edge (by omega) (by omega)
          rw [hs i2 (by omega) (by omega), hs (i2 - 1) (by omega) (by omega)] at h3
          exact absurd rfl h3
        · exact c
        · have h3 := h.edge (by omega) (by omega)
          rw [hs2 i (by omega) (by omega), hs2 (i - 1) (by omega) (by omega)] at h3
          exact absurd rfl h3
      subst e
      have ek : k = k2 := by omega
      subst ek
      rw [ih h2 rfl, hr.uniq hr2]
theorem Pd.uniq {ls : List Nat} {n m : Nat} {ps ps' : List Pt} (h : Pd ls n m ps) (h' : Pd ls n m ps') : ps = ps' := h.uniq_at h' rfl
theorem Pd.pos {ls : List Nat} {n i k v : Nat} {ps ps' : List Pt} (h : Pd ls n i ps) (hk : 1 ≤ k) (hl : i + k ≤ n) (hv : ∀ t, i ≤ t → t < i + k → ls.getD t 0 = v) (hne : i + k < n → ls.getD (i + k) 0 ≠ v) (h0 : 0 < v) (hr : RnFrom v 0 (ps ++ [(v, 0, 0)]) (k - 1) ps') : Pd ls n (i + k) ps' := by
  obtain ⟨pre, rfl, hp⟩ := hr.done
  have hi : ls.getD i 0 = v := hv i (Nat.le_refl _) (by omega)
  subst hi
  rw [List.append_assoc]
  exact Pd.run h hk hl hv hne (.inl ⟨h0, pre, rfl, hp⟩)
theorem Pd.zero {ls : List Nat} {n i k v : Nat} {ps ps' : List Pt} (h : Pd ls n i ps) (hk : 1 ≤ k) (hl : i + k ≤ n) (hv : ∀ t, i ≤ t → t < i + k → ls.getD t 0 = v) (hne : i + k < n → ls.getD (i + k) 0 ≠ v) (h0 : v = 0) (hr : RnFrom v 0 ps k ps') : Pd ls n (i + k) ps' := by
  obtain ⟨pre, rfl, hp⟩ := hr.done
  have hi : ls.getD i 0 = v := hv i (Nat.le_refl _) (by omega)
  subst hi
  exact Pd.run h hk hl hv hne (.inr ⟨h0, hp⟩)
/-! rows of parts -/
abbrev tParts : TypeId := 108
def pcells (l : List Pt) : List Value := l.flatMap pcell
theorem pcells_snoc (l : List Pt) (s : Pt) : pcells (l ++ [s]) = pcells l ++ pcell s := by simp [pcells]
theorem pcells_len (l : List Pt) : (pcells l).length = l.length * 3 := by
  induction l with
  | nil => rfl
  | cons a r ih =>
    have : pcells (a :: r) = pcell a ++ pcells r := rfl
    rw [this, List.length_append, ih, List.length_cons]
    show 3 + _ = _
    omega
theorem partInfo : (Tryz.prog.info? tPart).map (fun i => (i.zero, i.size, i.bytes)) = some (some (.agg #[.int .i64 0, .int .i64 0, .int .i64 0]), 3, 24) := by kernel_rfl
abbrev Own3 (w : World) (base : Nat) (A : Option Addr) (n c : Nat) (l : List Pt) : Prop := w.ownsRow base tPart 3 (.slice A n c) n (pcells l)
theorem Own3.nil (w : World) (base : Nat) : Own3 w base none 0 0 [] := World.ownsRow_nil _ _ _ _
section
variable {w w' : World} {base n c : Nat} {A : Option Addr} {l : List Pt}
theorem Own3.len (h : Own3 w base A n c l) : l.length = n := by
  have h1 := h.1
  rw [pcells_len] at h1
  omega
theorem Own3.keep (h : Own3 w base A n c l) (hk : ∀ g, (Value.slice A n c).ownBlock = some g → w'.heap[g]? = w.heap[g]?) : Own3 w' base A n c l := by
  refine ⟨h.1, ?_⟩
  rcases h.2 with h2 | ⟨g, cap, cur, hv, hb, hg, r⟩
  · exact .inl h2
  · exact .inr ⟨g, cap, cur, hv, hb, (hk g (by rw [hv]; rfl)).trans hg, r⟩
theorem Own3.block (h : Own3 w base A n c l) : ∀ g, (Value.slice A n c).ownBlock = some g → base ≤ g ∧ ∃ cs fr, w.heap[g]? = some (.cells cs tPart fr) := fun g hg => by
  rcases h.2 with ⟨h2, _⟩ | ⟨q, cap, cur, hv, hb, hq, r⟩
  · rw [h2] at hg; cases hg
  · rw [hv] at hg
    injection hg with hg
    subst hg
    exact ⟨hb, _, _, hq⟩
theorem Own3.fresh (h : Own3 w base A n c l) (k : Fresh w w') : Own3 w' base A n c l := h.keep fun g hg => by
  obtain ⟨_, cs, fr, hq⟩ := h.block g hg
  exact k.block g (Array.getElem?_eq_some_iff.1 hq).1
theorem Own3.cap (h : Own3 w base A n c l) : n ≤ c ∧ c ≤ maxLen := by
  rcases h.2 with ⟨hv, hn⟩ | ⟨g, cap, cur, hv, _, _, h1, h2, _⟩
  · injection hv with _ h3 h4
    subst h4; subst h3; unfold maxLen; omega
  · injection hv with _ _ h4
    subst h4
    exact ⟨h1, h2⟩
theorem Own3.append (h : Own3 w base A n c l) {a : World} (hf : Fresh a w) (hb : a.heap.size ≤ base) (hg : w.grownBy w' (Value.slice A n c).ownBlock) : Fresh a w' :=
  Below.grown hf hg hf.size fun k hk => Nat.le_trans hb (h.block k hk).1
end
theorem wpList_append_part (w : World) {ops : Array Oper} {rest : List Oper} {o : Oper} {a : Act} {Q : Exit → Act → World → Prop} (hgd : o.guard = none) (s x : Operand)
    (ho : o.op = .call { callee := .builtin .append, args := #[s, x], argTypes := #[tParts, tParts] })
    (base : Nat) (A : Option Addr) (n c : Nat) (l : List Pt) (hs : a.eval s = .slice A n c) (hown : Own3 w base A n c l)
    (g : Nat) (p : Pt) (hx : a.eval x = .slice (some ⟨g, 0, none⟩) 1 1) (hg : Bk w g tPart (pcell p)) (h63 : n ≤ 1099511627776) (hbase : base ≤ w.heap.size)
    (h : ∀ A' c' w', Own3 w' base A' (n + 1) c' (l ++ [p]) → w.grownBy w' (Value.slice A n c).ownBlock → wpList Tryz.prog ops Q rest (a.put o.dst (.slice A' (n + 1) c')) w') : wpList Tryz.prog ops Q (o :: rest) a w := by
  obtain ⟨i, hi, hz, hsize, hby⟩ := info_parts partInfo
  refine wpList_plain hgd fun _ hK => ?_
  have hcells : ∀ j u, (pcell p)[j]? = some u → w.cell? ((⟨g, 0, none⟩ : Addr).add j) = some u := fun j u hu => by
    have hadd : (⟨g, 0, none⟩ : Addr).add j = ⟨g, 0 + j, none⟩ := by unfold Addr.add; split <;> simp_all
    rw [hadd, Nat.zero_add]
    exact hg.cell hu
  have h1 : ∀ u ∈ pcell p, u.oneCell' = true := fun u hu => by
    rcases List.mem_cons.1 hu with rfl | hu
    · rfl
    rcases List.mem_cons.1 hu with rfl | hu
    · rfl
    · rw [List.mem_singleton] at hu; subst hu; rfl
  obtain ⟨v', w', hrun, h2, h3, _, h5⟩ := run_append_own_at (P := Tryz.prog) w base tParts o.type tPart i _ 3 24 Tryz.underlying108 hi hz hsize hby rfl (by omega) (.slice A n c) n (pcells l) hown ⟨g, 0, none⟩ 1 1 (pcell p) rfl hcells h1 (by unfold maxLen; omega) (by omega) hbase
  rw [← pcells_snoc] at h2
  have hform : ∃ A' c', v' = .slice A' (n + 1) c' := by
    rcases h2.2 with ⟨hv, hn⟩ | ⟨g, cap, cur, hv, _⟩
    · omega
    · exact ⟨_, cap, hv⟩
  obtain ⟨A', c', rfl⟩ := hform
  unfold Oper.wp execOp
  simp only [ho, resolve, invoke, builtin, Sem.run_bind, Sem.run_pure, Result.andThen_ok, List.map_toArray, List.map_cons, List.map_nil, hs, hx, hrun]
  exact hK _ _ (h A' c' w' h2 h3)
end Go.Proofs.YtppgceighgpgoaaGreatDoor.defp
