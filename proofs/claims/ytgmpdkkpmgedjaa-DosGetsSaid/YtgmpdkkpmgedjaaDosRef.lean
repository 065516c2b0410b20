/-
  The reference of layer 8: two, Parts, Text, number, days, Number, Parse. My own text.
-/
import Derived.Test.YtgmpdkkpmgedjaaDosWrite
import Derived.Test.YtgmpdkkpmgedjaaDosRead
namespace Go.Proofs.Ytgmpdkkpmgedjaa.dosp
open Go.RowKit Go.Proofs.Ytgmpdkkpmgedjaa.base Go.Proofs.Ytgmpdkkpmgedjaa.num Go.Proofs.Ytgmpdkkpmgedjaa.bitnum Go.Proofs.Ytgmpdkkpmgedjaa.dosnum
set_option linter.unusedVariables false

def dg (n : Int) : UInt8 := UInt8.ofNat (48 + n.toNat)
/-- a row of six ints that is a moment -/
abbrev MomI (w : World) (g : Nat) (m : Mo) : Prop := Bk w g 3 (momL m)
theorem digit_at (k : Int) (h0 : 0 ≤ k) (h1 : k ≤ 9) (W : World) :
    (Instr.slice 9 (.string ⟨#[48, 49, 50, 51, 52, 53, 54, 55, 56, 57]⟩) (some (.int .i64 k)) (some (.int .i64 (k + 1))) none).run Try.prog W = .ok (.string ⟨#[dg k]⟩) W := by
  rw [run_slice_string (w := W) (P := Try.prog) 9 ⟨#[48, 49, 50, 51, 52, 53, 54, 55, 56, 57]⟩ .i64 .i64 k (k + 1) Try.underlying9 (by omega) (by omega) (by show k + 1 ≤ 10; omega)]
  have h : ∀ j : Fin 10, (⟨#[48, 49, 50, 51, 52, 53, 54, 55, 56, 57]⟩ : ByteArray).extract j.1 (j.1 + 1) = ⟨#[UInt8.ofNat (48 + j.1)]⟩ := by decide
  obtain ⟨j, rfl⟩ := Int.eq_ofNat_of_zero_le h0
  have h2 := h ⟨j, by omega⟩
  have e : ((j : Int) + 1).toNat = j + 1 := by omega
  simp only [Int.toNat_natCast, e, dg]
  simp only at h2
  rw [h2]
theorem two_any (n : Int) (h0 : 0 ≤ n) (h1 : n ≤ 99) (w : World) : Calls Try.prog 24 #[.int .i64 n] w fun e w' => e = .returned (.string ⟨#[dg (n / 10), dg (n % 10)]⟩) ∧ ∃ q, w' = w.drewN q := by
  have hA := fun W => digit_at (n / 10) (by omega) (by omega) W
  have hB := fun W => digit_at (n % 10) (by omega) (by omega) W
  have e1 : IntKind.i64.wrap (n / 10) = n / 10 := IntWalk.i64_in _ (by omega)
  have e2 : n.tdiv 10 = n / 10 := Int.tdiv_eq_ediv_of_nonneg h0
  have e3 : IntKind.i64.wrap (n / 10 + 1) = n / 10 + 1 := IntWalk.i64_in _ (by omega)
  have e4 : IntKind.i64.wrap (n % 10 + 1) = n % 10 + 1 := IntWalk.i64_in _ (by omega)
  go_enter Try.func24, Try.ntmps24
  go_wp2
  go_region
  go_wp2
  go_ret
  exact ⟨rfl, 1, rfl⟩
/-- what has no sign is told by floor and rest -/
theorem parts_any (n : Int) (h0 : 0 ≤ n) (h1 : n ≤ 4294967295) (w : World) : Calls Try.prog 15 #[.int .i64 n] w fun e w' => ∃ g, e = .returned (.slice (some ⟨g, 0, none⟩) 6 6) ∧ MomI w' g (parts n) ∧ Fresh w w' ∧ w.heap.size ≤ g := by
  have hm := Bk.made w 3 (momL (parts n)).toArray
  have HM := Lib.hid hm
  clear hm
  go_enter Try.func15, Try.ntmps15
  go_wp2
  go_ret
  exact ⟨_, rfl, HM.out, Fresh.alloc _ _, Nat.le_refl _⟩
set_option maxHeartbeats 4000000 in
theorem days_ref (y m : Int) (h1 : 1980 ≤ y) (h2 : y ≤ 2107) (h3 : 1 ≤ m) (h4 : m ≤ 12) (w : World) : Calls Try.prog 19 #[.int .i64 y, .int .i64 m] w fun e w' => e = .returned (.int .i64 (days y m)) ∧ Fresh w w' := by
  have hm : m = 1 ∨ m = 2 ∨ m = 3 ∨ m = 4 ∨ m = 5 ∨ m = 6 ∨ m = 7 ∨ m = 8 ∨ m = 9 ∨ m = 10 ∨ m = 11 ∨ m = 12 := by omega
  clear h3 h4
  rcases hm with rfl | rfl | rfl | rfl | rfl | rfl | rfl | rfl | rfl | rfl | rfl | rfl
  all_goals
    go_enter Try.func19, Try.ntmps19
    go_wp2
    all_goals go_ret
    all_goals
      refine ⟨ret_i64 ?_, Fresh.alloc _ _⟩
      simp_all [days, leap]
end Go.Proofs.Ytgmpdkkpmgedjaa.dosp
