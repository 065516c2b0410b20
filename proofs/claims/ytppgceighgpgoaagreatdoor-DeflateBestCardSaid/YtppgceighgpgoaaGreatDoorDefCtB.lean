import Derived.Test.YtppgceighgpgoaaGreatDoorMgDfC
import Derived.Test.YtppgceighgpgoaaGreatDoorMgBk2
/-
  slices.Grow of nil, slices.Concat, of bytes. My own text.
-/
namespace Go.Proofs.YtppgceighgpgoaaGreatDoor.catb
open Go.RowKit Go.Proofs.YtppgceighgpgoaaGreatDoor.base Go.Proofs.YtppgceighgpgoaaGreatDoor.num Go.Proofs.YtppgceighgpgoaaGreatDoor.bitp
set_option linter.unusedVariables false
theorem intU : Tryz.prog.underlying 3 = some (.int .i64) := by kernel_rfl
set_option maxRecDepth 100000 in
set_option maxHeartbeats 8000000 in
theorem grow_nil (n : Nat) (w : World) (hn : n ≤ 1073741824) :
    Calls Tryz.prog 19 #[.slice none 0 0, .int .i64 n] w fun e w' => ∃ (A : Option Addr) (c : Nat), e = .returned (.slice A 0 c) ∧ Own w' w.heap.size 5 A 0 c [] ∧ Fresh w w' := by
  obtain ⟨i0, hi0, hz0, hz1, hz2⟩ := info_parts info_byte
  by_cases h0 : n = 0
  · subst h0
    go_enter Tryz.func19, Tryz.ntmps19
    go_wp2
    go_ret
    exact ⟨none, 0, rfl, Own.nil _ _ _, Fresh.refl _⟩
  · have ni : (0 : Int) < (n : Int) := by omega
    have hrun := Go.Lib.run_append_nil_zeros (P := Tryz.prog) w 24 3 24 5 i0 _ .i64 .i64 Tryz.underlying24 intU hi0 hz0 n (by omega) (by rw [hz1]; omega) (by omega) (by rw [hz2]; omega)
    obtain ⟨X, hX⟩ : ∃ X : Array Value, Builtin.zeroCells (Value.cells (.int .u8 0)) n ++ Builtin.zeroCells (Value.cells (.int .u8 0)) (grownCap w n 0 5 - n) = X := ⟨_, rfl⟩
    have hXs : X.size = grownCap w n 0 5 * 1 := by
      have hone : (Value.cells (.int .u8 0)).size = 1 := rfl
      have := grownCap_ge w n 0 5
      rw [← hX, Array.size_append, size_zeroCells, size_zeroCells, hone]
      omega
    rw [hX] at hrun
    have HRUN := Lib.hid hrun
    have HXS := Lib.hid hXs
    have HN1 := Lib.hid hn
    have hni : (n : Int) ≤ 1073741824 := by omega
    clear hrun hX hXs hn
    go_enter Tryz.func19, Tryz.ntmps19
    go_wp2_with ((with_reducible (refine at_slot_ 22 ?_)); refine Go.Lib.wpList_append_run _ rfl (.tmp 20) (.tmp 21) 24 3 rfl _ _ rfl rfl _ _ HRUN.out ?_)
    go_ret
    exact ⟨_, _, rfl, ⟨rfl, .inr ⟨w.heap.size, _, X, rfl, Nat.le_refl _, Bk.made w 5 X, Nat.zero_le _, grownCap_le_maxLen w n 0 _ (by have := HN1.out; unfold maxLen; omega), HXS.out, by rw [Nat.zero_mul, List.take_zero]⟩⟩, (Fresh.alloc _ _).trans (Fresh.drew _)⟩
/-- rows of ints as they stand in a row of rows -/
abbrev RB := Option Addr × Nat × Nat × List UInt8
def catL (rows : List RB) : List UInt8 := rows.flatMap (·.2.2.2)
theorem catL_snoc (rows : List RB) (r : RB) : catL (rows ++ [r]) = catL rows ++ r.2.2.2 := by simp [catL]
set_option maxRecDepth 100000 in
set_option maxHeartbeats 8000000 in
theorem concat_any (q off n c0 : Nat) (rows : List RB) (w : World) (hq : ∀ j r, rows[j]? = some r → w.cell? ⟨q, off + j, none⟩ = some (.slice r.1 r.2.1 r.2.2.1)) (hqs : q < w.heap.size) (hrd : ∀ r ∈ rows, Rd w w.heap.size r.1 r.2.1 (r.2.2.2.map bv)) (hn : rows.length = n) (hn2 : n ≤ 100) (hsum : (catL rows).length ≤ 1073741824) :
    Calls Tryz.prog 9 #[.slice (some ⟨q, off, none⟩) n c0] w fun e w' => ∃ (A : Option Addr) (c : Nat), e = .returned (.slice A (catL rows).length c) ∧ Own w' w.heap.size 5 A (catL rows).length c ((catL rows).map bv) ∧ Fresh w w' := by
  obtain ⟨i0, hi0, hz0, hz1, hz2⟩ := info_parts info_byte
  have hpre : ∀ j, (catL (rows.take j)).length ≤ (catL rows).length := fun j => by
    have h : catL rows = catL (rows.take j) ++ catL (rows.drop j) := by unfold catL; rw [← List.flatMap_append, List.take_append_drop]
    rw [h, List.length_append]
    omega
  have hstep : ∀ j r, rows[j]? = some r → catL (rows.take (j + 1)) = catL (rows.take j) ++ r.2.2.2 := fun j r hr => by
    rw [List.take_add_one, hr]
    exact catL_snoc _ _
  have HQ := Lib.hid hq
  have HRD := Lib.hid hrd
  have HPRE := Lib.hid hpre
  have HSTEP := Lib.hid hstep
  have HN := Lib.hid hn
  clear hq hrd hpre hstep hn
  go_enter Tryz.func9, Tryz.ntmps9
  go_wp2
  go_loopw [3, 11] (fun vt vi wr => ∃ (i t : Nat), vi = .int .i64 i ∧ vt = .int .i64 t ∧ i ≤ n ∧ Hid (t = (catL (rows.take i)).length) ∧ t ≤ 1073741824 ∧ Fresh w wr) (fun _ vi _ => n - (intOf vi).toNat)
  case atStart => exact ⟨0, 0, rfl, rfl, Nat.zero_le _, rfl, by omega, Fresh.refl _⟩
  case round =>
    obtain ⟨i, t, rfl, rfl, hi, HT, ht, hfr⟩ := hrel
    by_cases hlt : i < n
    · have hil : (i : Int) < (n : Int) := by omega
      obtain ⟨r, hr⟩ : ∃ r, rows[i]? = some r := ⟨rows[i]'(by have := HN.out; omega), List.getElem?_eq_getElem (by have := HN.out; omega)⟩
      obtain ⟨A, m, c, xs⟩ := r
      have hcell : wr.cell? ⟨q, off + i, none⟩ = some (.slice A m c) := (World.cell?_of_block (hfr.block q hqs)).trans (HQ.out i _ hr)
      have hm : xs.length = m := by have := (HRD.out _ (List.mem_of_getElem? hr)).1; rwa [List.length_map] at this
      have hs := HSTEP.out i _ hr
      have hp := HPRE.out (i + 1)
      have hl := congrArg List.length hs
      rw [List.length_append] at hl
      have ht2 := HT.out
      have htm : t + m ≤ 1073741824 := by simp only at hl; omega
      have HL := Lib.hid hl
      clear hs hp hl ht2
      go_wp2
      refine ⟨⟨i + 1, t + m, rfl, rfl, hlt, Lib.hid ?_, htm, hfr⟩, ?_⟩
      · have h := HL.out
        have h2 := HT.out
        simp only at h
        omega
      · show n - ((i : Int) + 1).toNat < n - ((i : Int)).toNat
        omega
    · have hin : i = n := by omega
      subst hin
      have hT := HT.out
      rw [List.take_of_length_le (by have := HN.out; omega)] at hT
      subst hT
      have HFR := Lib.hid hfr
      clear hfr HT
      go_wp2_with (go_at_call 19; (refine (grow_nil _ wr ht).mono ?_); rintro e w2 ⟨A2, c2, rfl, ho2, hf2⟩; have HO2 := Lib.hid ho2; have HF2 := Lib.hid (HFR.out.trans hf2); have hws := HFR.out.size; clear ho2 hf2)
      go_loopw [6, 27] (fun vs vi wr => ∃ (j : Nat) (A : Option Addr) (m c : Nat), vi = .int .i64 j ∧ vs = .slice A m c ∧ j ≤ i ∧ Hid (m = (catL (rows.take j)).length) ∧ Own wr w.heap.size 5 A m c ((catL (rows.take j)).map bv) ∧ Hid (Fresh w wr)) (fun _ vi _ => i - (intOf vi).toNat)
      case atStart => exact ⟨0, A2, 0, c2, rfl, rfl, Nat.zero_le _, rfl, ⟨HO2.out.1, HO2.out.2.imp id fun ⟨g, cap, cur, h1, h2, h3⟩ => ⟨g, cap, cur, h1, by omega, h3⟩⟩, HF2⟩
      case round =>
        rename World => w5
        obtain ⟨j, A, m, c, rfl, rfl, hj, HM, ho, HF5⟩ := hrel
        by_cases hlt : j < i
        · have hil : (j : Int) < (i : Int) := by omega
          obtain ⟨r, hr⟩ : ∃ r, rows[j]? = some r := ⟨rows[j]'(by have := HN.out; omega), List.getElem?_eq_getElem (by have := HN.out; omega)⟩
          obtain ⟨D, md, d, xs⟩ := r
          have hcell : w5.cell? ⟨q, off + j, none⟩ = some (.slice D md d) := (World.cell?_of_block (HF5.out.block q hqs)).trans (HQ.out j _ hr)
          have hrow : Rd w5 w.heap.size D md (xs.map bv) := (HRD.out _ (List.mem_of_getElem? hr)).keep fun k hk => HF5.out.block k hk
          have hxs : xs.length = md := by have := hrow.1; rwa [List.length_map] at this
          have hs := HSTEP.out j _ hr
          have hp := HPRE.out (j + 1)
          have hl := congrArg List.length hs
          rw [List.length_append] at hl
          simp only at hl hs
          have hm := HM.out
          have htm : m + md ≤ 1073741824 := by omega
          have HS := Lib.hid hs
          have HL := Lib.hid hl
          have HROW := Lib.hid hrow
          have HO := Lib.hid ho
          have hsz := HF5.out.size
          clear hs hp hl hm hrow ho
          go_wp2_with (at_builtin; go_loud (refine wpList_append_rd _ rfl _ _ 24 rfl w.heap.size 5 i0 _ 1 Tryz.underlying24 hi0 hz0 hz1 hz2 rfl A m c _ rfl HO.out w.heap.size D md d (xs.map bv) rfl HROW.out (fun v hv => by obtain ⟨x, _, rfl⟩ := List.mem_map.1 hv; rfl) (by unfold maxLen; omega) (by omega) hsz ?_); intro A3 c3 w3 ho3 hg3)
          refine ⟨⟨j + 1, A3, m + md, c3, rfl, rfl, hlt, Lib.hid ?_, ?_, Lib.hid (HF5.out.append HO.out (Nat.le_refl _) hg3)⟩, ?_⟩
          · have h := HL.out
            have h2 := HM.out
            omega
          · rw [HS.out, List.map_append]
            exact ho3
          · show i - ((j : Int) + 1).toNat < i - ((j : Int)).toNat
            omega
        · have hin : j = i := by omega
          subst hin
          go_wp2
          go_ret
          have e : rows.take j = rows := List.take_of_length_le (by have := HN.out; omega)
          have hm := HM.out
          rw [e] at ho hm
          subst hm
          exact ⟨A, c, rfl, ho, HF5.out⟩
set_option maxRecDepth 100000 in
set_option maxHeartbeats 8000000 in
/-- of no rows -/
theorem concat_none (A0 : Option Addr) (c0 : Nat) (w : World) :
    Calls Tryz.prog 9 #[.slice A0 0 c0] w fun e w' => ∃ (A : Option Addr) (c : Nat), e = .returned (.slice A 0 c) ∧ Own w' w.heap.size 5 A 0 c [] ∧ Fresh w w' := by
  go_enter Tryz.func9, Tryz.ntmps9
  go_wp2
  go_loopw [3, 11] (fun vt vi wr => vi = .int .i64 0 ∧ vt = .int .i64 0 ∧ Fresh w wr) (fun _ _ _ => 0)
  case atStart => exact ⟨rfl, rfl, Fresh.refl _⟩
  case round =>
    obtain ⟨rfl, rfl, hfr⟩ := hrel
    have HFR := Lib.hid hfr
    clear hfr
    go_wp2_with (go_at_call 19; (refine (grow_nil 0 _ (by omega)).mono ?_); rintro e w2 ⟨A2, c2, rfl, ho2, hf2⟩; have HO2 := Lib.hid ho2; have HF2 := Lib.hid (HFR.out.trans hf2); have hws := HFR.out.size; clear ho2 hf2)
    go_loopw [6, 27] (fun vs vi wr => vi = .int .i64 0 ∧ vs = .slice A2 0 c2 ∧ wr = w2) (fun _ _ _ => 0)
    case atStart => exact ⟨rfl, rfl, rfl⟩
    case round =>
      obtain ⟨rfl, rfl, rfl⟩ := hrel
      go_wp2
      go_ret
      exact ⟨A2, c2, rfl, ⟨HO2.out.1, HO2.out.2.imp id fun ⟨g, cap, cur, h1, h2, h3⟩ => ⟨g, cap, cur, h1, by omega, h3⟩⟩, HF2.out⟩
end Go.Proofs.YtppgceighgpgoaaGreatDoor.catb
