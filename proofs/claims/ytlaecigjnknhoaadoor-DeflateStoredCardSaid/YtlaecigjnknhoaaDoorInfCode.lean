/-
  The contract of codeOf. My own text.
-/
import Derived.Test.YtlaecigjnknhoaaDoorInfSpread
namespace Go.Proofs.YtlaecigjnknhoaaDoor.infp
open Go.RowKit Go.Proofs.YtlaecigjnknhoaaDoor.base Go.Proofs.YtlaecigjnknhoaaDoor.num Go.Proofs.YtlaecigjnknhoaaDoor.bitnum Go.Proofs.YtlaecigjnknhoaaDoor.bitp Go.Proofs.YtlaecigjnknhoaaDoor.huffnum Go.Proofs.YtlaecigjnknhoaaDoor.huffp Go.Proofs.YtlaecigjnknhoaaDoor.infnum
set_option linter.unusedVariables false

theorem nv_zs (ls : List Nat) : nv ls = (ls.map fun x : Nat => (x : Int)).map iv := by rw [List.map_map]; rfl
theorem zs_ls (ls : List Nat) : (ls.map fun x : Nat => (x : Int)).map Int.toNat = ls := by
  rw [List.map_map]
  exact List.map_id'' (fun x => by simp) ls
/-- huff.New of lengths that may be -/
def MadeIs (w : World) (ls : List Nat) (e : Ending) (w' : World) : Prop := ∃ g bl, e = .returned (.tuple #[ptr g, .int .i64 0]) ∧ CodeAt w' g ls bl ∧ Since w w' bl
theorem made_over (A : Option Addr) (n c : Nat) (ls : List Nat) (w : World) (B : Nat) (hr : Rd w B A n (nv ls)) (hB : B ≤ w.heap.size) (hn : n ≤ 320) (h15 : ∀ x ∈ ls, x ≤ 15) (ho : 32768 < tx ls 15) :
    Calls Tryd.prog 38 #[.slice A n c] w fun e w' => e = .returned (.tuple #[.pointer none, .int .i64 12]) ∧ Fresh w w' := by
  rw [nv_zs] at hr
  refine (new_any A n c _ w B hr hB hn).mono ?_
  rintro e w' (⟨⟨z, hz, hb⟩, _⟩ | ⟨_, _, he, hf⟩ | ⟨_, h, _⟩)
  · obtain ⟨x, hx, rfl⟩ := List.mem_map.1 hz
    have := h15 x hx; omega
  · exact ⟨he, hf⟩
  · rw [zs_ls] at h; omega
theorem made_ok (A : Option Addr) (n c : Nat) (ls : List Nat) (w : World) (B : Nat) (hr : Rd w B A n (nv ls)) (hB : B ≤ w.heap.size) (hn : n ≤ 320) (h15 : ∀ x ∈ ls, x ≤ 15) (ho : tx ls 15 ≤ 32768) :
    Calls Tryd.prog 38 #[.slice A n c] w (MadeIs w ls) := by
  rw [nv_zs] at hr
  refine (new_any A n c _ w B hr hB hn).mono ?_
  rintro e w' (⟨⟨z, hz, hb⟩, _⟩ | ⟨_, h, _⟩ | ⟨_, _, g, bl, he, hC, hS⟩)
  · obtain ⟨x, hx, rfl⟩ := List.mem_map.1 hz
    have := h15 x hx; omega
  · rw [zs_ls] at h; omega
  · rw [zs_ls] at hC
    exact ⟨g, bl, he, hC, hS⟩
theorem sum_more {ls : List Nat} {j x : Nat} (h : ls[j]? = some x) : (ls.take (j + 1)).sum = (ls.take j).sum + x := by
  rw [take_one_more _ _ _ h, List.sum_append]; simp
theorem sum_le {ls : List Nat} (h : ∀ x ∈ ls, x ≤ 15) : ls.sum ≤ 15 * ls.length := by
  induction ls with
  | nil => simp
  | cons a l ih =>
    have h1 := h a (by simp)
    have h2 := ih fun x hx => h x (List.mem_cons_of_mem _ hx)
    rw [List.sum_cons, List.length_cons]
    omega
/-- what codeOf tells -/
def CodeOfIs (w : World) (ls : List Nat) (none : Bool) (e : Ending) (w' : World) : Prop :=
  if mayBe ls none = false then e = .returned (.tuple #[.pointer Option.none, .int .i64 12]) ∧ Fresh w w' else MadeIs w ls e w'
set_option maxHeartbeats 2000000 in
set_option maxRecDepth 100000 in
theorem codeOf_any (A : Option Addr) (n c : Nat) (ls : List Nat) (none : Bool) (w : World) (B : Nat) (hr : Rd w B A n (nv ls)) (hB : B ≤ w.heap.size) (hn : n ≤ 320) (h15 : ∀ x ∈ ls, x ≤ 15) (least : Nat) (hl : least = if none then 0 else 1) :
    Calls Tryd.prog 103 #[.slice A n c, .int .i64 least] w (CodeOfIs w ls none) := by
  have hlen : ls.length = n := by have := hr.1; rwa [List.length_map] at this
  by_cases ho : 32768 < tx ls 15
  · have hm : mayBe ls none = false := by unfold mayBe; rw [decide_eq_false (by omega)]; rfl
    have hnew := made_over A n c ls w B hr hB hn h15 ho
    have HNEW := Lib.hid hnew
    unfold CodeOfIs
    rw [hm]
    simp only [if_true]
    clear hnew ho hm hl
    go_enter Tryd.func103, Tryd.ntmps103
    go_wp2_with (go_at_call 38; refine HNEW.out.mono ?_; rintro e w1 ⟨rfl, hf1⟩)
    go_ret2
    exact ⟨rfl, hf1⟩
  · have hnew := made_ok A n c ls w B hr hB hn h15 (by omega)
    have HNEW := Lib.hid hnew
    have hs5 := sum_le h15
    rw [hlen] at hs5
    obtain ⟨T, hT⟩ : ∃ T, tx ls 15 = T := ⟨_, rfl⟩
    obtain ⟨F, hF⟩ : ∃ F, (if T < 32768 then 1 else 0) = F := ⟨_, rfl⟩
    obtain ⟨S, hS⟩ : ∃ S, ls.sum = S := ⟨_, rfl⟩
    have hS5 : S ≤ 4800 := by omega
    have hmb : mayBe ls none = (decide (T = 32768) || decide (S = 1) || (none && decide (S = 0))) := by
      unfold mayBe; rw [hT, hS, decide_eq_true (by omega), Bool.true_and]
    -- what the test tells
    have hway : (F = 0 ∧ mayBe ls none = true) ∨ (F = 1 ∧ (S : Int) < (least : Int) ∧ mayBe ls none = false) ∨ (F = 1 ∧ ¬ (S : Int) < (least : Int) ∧ (S : Int) > 1 ∧ mayBe ls none = false) ∨ (F = 1 ∧ ¬ (S : Int) < (least : Int) ∧ ¬ (S : Int) > 1 ∧ mayBe ls none = true) := by
      by_cases hT2 : T < 32768
      · rw [if_pos hT2] at hF
        have hTn : decide (T = 32768) = false := decide_eq_false (by omega)
        rw [hmb, hTn]
        cases none
        · simp only [Bool.false_eq_true, if_false] at hl
          rcases Nat.lt_trichotomy S 1 with h | h | h
          · exact .inr (.inl ⟨hF.symm, by omega, by simp; omega⟩)
          · exact .inr (.inr (.inr ⟨hF.symm, by omega, by omega, by simp [h]⟩))
          · exact .inr (.inr (.inl ⟨hF.symm, by omega, by omega, by simp; omega⟩))
        · simp only [if_true] at hl
          by_cases h : S ≤ 1
          · exact .inr (.inr (.inr ⟨hF.symm, by omega, by omega, by simp; omega⟩))
          · exact .inr (.inr (.inl ⟨hF.symm, by omega, by omega, by simp; omega⟩))
      · rw [if_neg hT2] at hF
        refine .inl ⟨hF.symm, ?_⟩
        rw [hmb, decide_eq_true (by omega)]; rfl
    have HT := Lib.hid hT
    have HS := Lib.hid hS
    have HF := Lib.hid hF
    have HLEN := Lib.hid hlen
    have HR := Lib.hid hr
    have HW := Lib.hid hway
    have H15 := Lib.hid h15
    clear hnew ho hl hs5 hT hF hS hmb hlen hway h15
    go_enter Tryd.func103, Tryd.ntmps103
    go_wp2_with (go_at_call 38; refine HNEW.out.mono ?_; rintro e w1 ⟨q, cbl, rfl, hC, hSi⟩; have hrw := hr.below hSi.1 hB)
    go_loopw [8, 21] (fun s i wr => ∃ j, j ≤ n ∧ i = .int .i64 (j : Nat) ∧ (∃ z, z ≤ 4800 ∧ s = .int .i64 (z : Nat) ∧ Hid (z = (ls.take j).sum)) ∧ w1 = wr) (fun _ i _ => n - (intOf i).toNat)
    case atStart => exact ⟨0, by omega, rfl, ⟨0, by omega, rfl, rfl⟩, rfl⟩
    case round =>
      obtain ⟨j, hj, rfl, ⟨z, hz, rfl, hzs⟩, rfl⟩ := hrel
      by_cases hlt : j < n
      · obtain ⟨b, off, x, rfl, hb, hx, hcx⟩ := hrw.at_ (enc := fun x : Nat => iv (x : Int)) hlt
        have hx15 : x ≤ 15 := H15.out x (List.mem_of_getElem? hx)
        have hzx : Hid (z + x = (ls.take (j + 1)).sum) := by show _ = _; rw [sum_more hx, hzs.out]
        have hle : z + x ≤ 4800 := by
          rw [hzx.out]
          have := sum_le (ls := ls.take (j + 1)) fun y hy => H15.out y (List.mem_of_mem_take hy)
          rw [List.length_take] at this
          have := HLEN.out
          omega
        have HX := Lib.hid hx
        clear hx
        go_wp2
        go_roundw
        case rel => exact ⟨j + 1, by omega, by go_num, ⟨z + x, hle, by go_num, hzx⟩, trivial⟩
        case measure => simp [intOf]; omega
      · have hj2 : j = n := by omega
        subst hj2
        have hzS : z = S := by
          rw [hzs.out, List.take_of_length_le (Nat.le_of_eq HLEN.out)]; exact HS.out
        subst hzS
        have hfill := fill_is q ls cbl T w1 hC HT.out F HF.out.symm
        have HFILL := Lib.hid hfill
        clear hfill hzs hrw
        rcases HW.out with ⟨rfl, hm⟩ | ⟨rfl, h1, hm⟩ | ⟨rfl, h1, h2, hm⟩ | ⟨rfl, h1, h2, hm⟩
        all_goals
          go_wp2_with (go_at_call 112; refine HFILL.out.mono ?_; rintro e w2 ⟨rfl, rfl⟩)
          go_ret2
          unfold CodeOfIs
          rw [hm]
        · exact ⟨q, cbl, rfl, hC, hSi⟩
        · exact ⟨rfl, hSi.1⟩
        · exact ⟨rfl, hSi.1⟩
        · exact ⟨q, cbl, rfl, hC, hSi⟩
end Go.Proofs.YtlaecigjnknhoaaDoor.infp
