/-
  New by three contracts; the laws' may and wakes. My own text.
-/
import Derived.Test.YtdcdkafpmnlgoaaHuffNext
namespace Go.Proofs.Ytdcdkafpmnlgoaa.huffp
open Go.RowKit Go.Proofs.Ytdcdkafpmnlgoaa.base Go.Proofs.Ytdcdkafpmnlgoaa.num Go.Proofs.Ytdcdkafpmnlgoaa.bitnum Go.Proofs.Ytdcdkafpmnlgoaa.bitp Go.Proofs.Ytdcdkafpmnlgoaa.huffnum
set_option linter.unusedVariables false

/-- lengths that may be -/
def May (zs : List Int) : Prop := ∀ z ∈ zs, 0 ≤ z ∧ z ≤ 15
theorem may_any (A : Option Addr) (n c : Nat) (zs : List Int) (w : World) (B : Nat) (hr : Rd w B A n (zs.map iv)) (hn : n ≤ maxLen) (b : Bool) (hb : b = true ↔ (May zs ∧ n ≤ 320)) :
    Calls Try.prog 8 #[.slice A n c] w fun e w' => e = .returned (.bool b) ∧ w = w' := by
  unfold maxLen at hn
  have hlz : zs.length = n := by have := hr.1; rwa [List.length_map] at this
  have HLZ := Lib.hid hlz
  have HB := Lib.hid hb
  clear hlz hb
  go_enter Try.func8, Try.ntmps8
  go_wp2
  go_loopw [7] (fun i wr => ∃ (j : Nat), j ≤ n ∧ i = .int .i64 j ∧ Hid (May (zs.take j)) ∧ wr = w) (fun i _ => n - (intOf i).toNat)
  case atStart => exact ⟨0, by omega, rfl, by simp [Hid, May], rfl⟩
  case round =>
    obtain ⟨j, hj, rfl, hok, rfl⟩ := hrel
    by_cases hlt : j < n
    · obtain ⟨bb, off, z, rfl, hbb, hx, hcx⟩ := hr.at_ hlt
      have HX := Lib.hid hx
      clear hx
      have hbad : (z < 0 ∨ 15 < z) → b = false := fun h => by
        cases hb : b with
        | false => rfl
        | true => have := (HB.out.1 hb).1 z (List.mem_of_getElem? HX.out); omega
      have HBAD := Lib.hid hbad
      clear hbad
      by_cases hz1' : z < 0
      · go_wp2
        go_ret
        exact ⟨ret_bool (HBAD.out (.inl hz1')).symm, rfl⟩
      · by_cases hz2' : 15 < z
        · go_wp2
          go_ret
          exact ⟨ret_bool (HBAD.out (.inr hz2')).symm, rfl⟩
        · have hok2 : Hid (May (zs.take (j + 1))) := by
            intro y hy
            rw [take_one_more _ _ _ HX.out] at hy
            rcases List.mem_append.1 hy with hy | hy
            · exact hok.out y hy
            · rw [List.mem_singleton] at hy; subst hy; omega
          go_wp2
          go_roundw
          case rel => exact ⟨j + 1, by omega, by go_num, hok2, trivial⟩
          case measure => simp [intOf]; omega
    · obtain rfl : j = n := by omega
      have hall : May zs := by
        have := hok.out
        rwa [List.take_of_length_le (Nat.le_of_eq HLZ.out)] at this
      have HALL := Lib.hid hall
      clear hall
      go_wp2
      go_ret
      refine ⟨ret_bool ?_, rfl⟩
      cases hb : b with
      | false =>
        refine decide_eq_false fun h => ?_
        have := HB.out.2 ⟨HALL.out, by omega⟩
        rw [hb] at this
        cases this
      | true => exact decide_eq_true (by have := (HB.out.1 hb).2; omega)

theorem new_arg (A : Option Addr) (n c : Nat) (zs : List Int) (w : World) (B : Nat) (hr : Rd w B A n (zs.map iv)) (hB : B ≤ w.heap.size) (hn : n ≤ maxLen) (hbad : ¬ (May zs ∧ n ≤ 320)) :
    Calls Try.prog 7 #[.slice A n c] w fun e w' => e = .returned (.tuple #[.pointer none, .int .i64 1]) ∧ Fresh w w' := by
  by_cases h : n ≤ 320
  · refine (new_any A n c zs w B hr hB h).mono ?_
    rintro e w' (⟨_, he, hf⟩ | ⟨hm, _⟩ | ⟨hm, _⟩)
    · exact ⟨he, hf⟩
    · exact absurd ⟨hm, h⟩ hbad
    · exact absurd ⟨hm, h⟩ hbad
  · exact new_many A n c w (by omega) hn
theorem new_over (A : Option Addr) (n c : Nat) (zs : List Int) (ls : List Nat) (w : World) (B : Nat) (hr : Rd w B A n (zs.map iv)) (hB : B ≤ w.heap.size) (hn : n ≤ 320) (hm : May zs) (hls : zs.map Int.toNat = ls) (ho : 32768 < tx ls 15) :
    Calls Try.prog 7 #[.slice A n c] w fun e w' => e = .returned (.tuple #[.pointer none, .int .i64 12]) ∧ Fresh w w' := by
  subst hls
  refine (new_any A n c zs w B hr hB hn).mono ?_
  rintro e w' (⟨⟨z, hz, hb⟩, _⟩ | ⟨_, _, he, hf⟩ | ⟨_, h, _⟩)
  · have := hm z hz; omega
  · exact ⟨he, hf⟩
  · omega
theorem new_ok (A : Option Addr) (n c : Nat) (zs : List Int) (ls : List Nat) (w : World) (B : Nat) (hr : Rd w B A n (zs.map iv)) (hB : B ≤ w.heap.size) (hn : n ≤ 320) (hm : May zs) (hls : zs.map Int.toNat = ls) (ho : tx ls 15 ≤ 32768) :
    Calls Try.prog 7 #[.slice A n c] w fun e w' => ∃ g bl, e = .returned (.tuple #[.pointer (some ⟨g, 0, none⟩), .int .i64 0]) ∧ CodeAt w' g ls bl ∧ Since w w' bl := by
  subst hls
  refine (new_any A n c zs w B hr hB hn).mono ?_
  rintro e w' (⟨⟨z, hz, hb⟩, _⟩ | ⟨_, h, _⟩ | ⟨_, _, g, bl, he, hC, hS⟩)
  · have := hm z hz; omega
  · omega
  · exact ⟨g, bl, he, hC, hS⟩
theorem new_lit (w : World) (g0 : Nat) (hg : g0 = w.heap.size) :
    Calls Try.prog 7 #[.slice (some ⟨g0, 0, none⟩) 4 4] (w.alloc (.cells #[.int .i64 2, .int .i64 1, .int .i64 3, .int .i64 3] 3)) fun e w' => ∃ g bl, e = .returned (.tuple #[.pointer (some ⟨g, 0, none⟩), .int .i64 0]) ∧ CodeAt w' g [2, 1, 3, 3] bl ∧ Fresh w w' := by
  subst hg
  refine (new_ok (some ⟨w.heap.size, 0, none⟩) 4 4 [2, 1, 3, 3] [2, 1, 3, 3] _ (w.heap.size + 1) (Rd.lit w #[.int .i64 2, .int .i64 1, .int .i64 3, .int .i64 3] 3) (by simp) (by omega) (by intro z hz; simp at hz; omega) rfl (by decide)).mono ?_
  rintro e w' ⟨g, bl, he, hC, hS⟩
  exact ⟨g, bl, he, hC, (Fresh.alloc _ _).trans hS.1⟩
theorem wakes_any (w : World) : Calls Try.prog 6 #[] w fun e w' => e = .returned (.bool true) ∧ Fresh w w' := by
  go_enter Try.func6, Try.ntmps6
  go_wp2_with (first
    | (go_at_call 7; refine (new_lit w _ rfl).mono ?_; rintro e w1 ⟨g, bl, rfl, hC1, hf1⟩)
    | (go_at_call 11; refine (code_in g _ bl 2 3 6 w1 hC1 (by decide) (by decide)).mono ?_; rintro e w2 ⟨rfl, hf2⟩)
    | (go_at_call 10; refine (fill_is g _ bl 32768 w2 (hC1.fresh hf2) (by decide) 0 (by decide)).mono ?_; rintro e w3 ⟨rfl, rfl⟩))
  go_ret
  exact ⟨rfl, hf1.trans hf2⟩
end Go.Proofs.Ytdcdkafpmnlgoaa.huffp
