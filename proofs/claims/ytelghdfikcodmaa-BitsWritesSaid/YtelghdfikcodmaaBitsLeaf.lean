/-
  The contracts of layer 4's small functions: held, lowest, turned; the reference's Held, Number, Low, High, Bits, Bytes. My own text.
-/
import Derived.Test.YtelghdfikcodmaaBitsNum
import Derived.Test.YtelghdfikcodmaaBlk
import Derived.Test.YtelghdfikcodmaaChecked
import Derived.BigQuiet
import Derived.Deep.QuietTactic
namespace Go.Proofs.Ytelghdfikcodmaa.bitp
open Go.RowKit Go.Proofs.Ytelghdfikcodmaa.base Go.Proofs.Ytelghdfikcodmaa.num Go.Proofs.Ytelghdfikcodmaa.bitnum
set_option linter.unusedVariables false

theorem ret_i64 {a b : Int} (h : a = b) : Ending.returned (.int .i64 a) = .returned (.int .i64 b) := by rw [h]

theorem held_any (x : Int) (w : World) : Calls Try.prog 64 #[.int .i64 x] w fun e w' => e = .returned (.int .i64 (held x)) ∧ w = w' := by
  by_cases h1 : x < 0
  · go_enter Try.func64, Try.ntmps64
    go_wp2
    go_ret
    exact ⟨ret_i64 (held_lo h1), rfl⟩
  · by_cases h7 : 24 < x
    · go_enter Try.func64, Try.ntmps64
      go_wp2
      go_ret
      exact ⟨ret_i64 (held_hi h7), rfl⟩
    · go_enter Try.func64, Try.ntmps64
      go_wp2
      all_goals go_ret
      all_goals exact ⟨ret_i64 (by have := held_mid (z := x) (by omega) (by omega); omega), rfl⟩

theorem Held_any (x : Int) (w : World) : Calls Try.prog 19 #[.int .i64 x] w fun e w' => e = .returned (.int .i64 (held x)) ∧ w = w' := by
  by_cases h1 : x < 0
  · go_enter Try.func19, Try.ntmps19
    go_wp2
    go_ret
    exact ⟨ret_i64 (held_lo h1), rfl⟩
  · by_cases h7 : 24 < x
    · go_enter Try.func19, Try.ntmps19
      go_wp2
      go_ret
      exact ⟨ret_i64 (held_hi h7), rfl⟩
    · go_enter Try.func19, Try.ntmps19
      go_wp2
      go_ret
      exact ⟨ret_i64 (held_mid (by omega) (by omega)), rfl⟩

theorem lowest_any (n : Nat) (v : Int) (w : World) (hn : n ≤ 24) : Calls Try.prog 65 #[.int .i64 n, .int .i64 v] w fun e w' => e = .returned (.int .i64 (u64 v % 2 ^ n : Nat)) ∧ w = w' := by
  have hp := pow24 hn
  have e1 : wrap64 (wrap64 (2 ^ n) - 1) = 2 ^ n - 1 := by
    rw [pow2i]
    generalize 2 ^ n = p at hp
    rw [IntWalk.wrap64_in (p : Int) ⟨by omega, by omega⟩, IntWalk.wrap64_in ((p : Int) - 1) ⟨by omega, by omega⟩]
  have e2 := and_mask v n (by omega)
  go_enter Try.func65, Try.ntmps65
  go_wp2
  go_ret
  exact ⟨ret_i64 (by simp), rfl⟩

theorem turned_any (n : Nat) (v : Int) (w : World) (hn : n ≤ 24) :
    Calls Try.prog 67 #[.int .i64 n, .int .i64 v] w fun e w' => e = .returned (.int .i64 (rev n (u64 v) : Nat)) ∧ w = w' := by
  go_enter Try.func67, Try.ntmps67
  go_wp2
  go_loopw [1, 5, 7] (fun a b i wr => ∃ (k q : Nat) (z : Int), k ≤ n ∧ i = .int .i64 k ∧ a = .int .i64 z ∧ Hid (z = v / 2 ^ k) ∧ b = .int .i64 q ∧ Hid (q = rev k (u64 v)) ∧ q < 16777216 ∧ wr = w) (fun _ _ i _ => n - (intOf i).toNat)
  case atStart => exact ⟨0, 0, v, by omega, rfl, rfl, by simp [Hid], rfl, rfl, by omega, rfl⟩
  case round =>
    obtain ⟨k, q, z, hk, rfl, rfl, hz, rfl, hq, hql, rfl⟩ := hrel
    by_cases hlt : k < n
    · obtain ⟨b, hb⟩ : ∃ b : Nat, u64 v / 2 ^ k % 2 = b := ⟨_, rfl⟩
      have hb2 : b < 2 := by omega
      have h1 : bits .and .i64 z 1 = (b : Int) := by rw [and_one, hz.out, bit_of v k (by omega), hb]
      have h2 := or_bit q b (by omega) hb2
      rw [Int.mul_comm 2 (q : Int)] at h2
      have hr : Hid (2 * q + b = rev (k + 1) (u64 v)) := by show _ = _; rw [rev, hq.out, hb]
      have hr2 : 2 * q + b < 16777216 := by
        have := rev_lt (k + 1) (u64 v)
        have := (pow24 (k := k + 1) (by omega)).2
        have := hr.out
        omega
      have hz2 : Hid (z / 2 = v / 2 ^ (k + 1)) := by
        show _ = _
        rw [hz.out, Int.pow_succ, Int.ediv_ediv_of_nonneg]
        exact Int.le_of_lt (Int.pow_pos (by omega))
      have HB := Lib.hid hb
      clear hb
      go_wp2
      go_roundw
      case rel => exact ⟨k + 1, 2 * q + b, z / 2, by omega, by go_num, by go_num, hz2, by go_num, hr, hr2, trivial⟩
      case measure => simp [intOf]; omega
    · have h0 : k = n := by omega
      subst h0
      go_wp2
      go_ret
      exact ⟨ret_i64 (by rw [hq.out]), rfl⟩
theorem Number_any (A : Option Addr) (n c : Nat) (u : Nat) (w : World) (B : Nat) (hr : Rd w B A n ((lb n u).map fun x : Nat => iv (x : Int))) (hn : n ≤ 24) :
    Calls Try.prog 22 #[.slice A n c] w fun e w' => e = .returned (.int .i64 (u % 2 ^ n : Nat)) ∧ w = w' := by
  obtain ⟨U, hU⟩ : ∃ U, u % 2 ^ n = U := ⟨_, rfl⟩
  have hUl : U < 16777216 := by
    have := Nat.mod_lt u (y := 2 ^ n) (Nat.pow_pos (by omega))
    have := (pow24 hn).2
    omega
  rw [hU]
  have HU := Lib.hid hU
  clear hU
  go_enter Try.func22, Try.ntmps22
  go_wp2
  go_loopw [3, 4] (fun a i wr => ∃ (k q : Nat), k ≤ n ∧ i = .int .i64 ((k : Int) - 1) ∧ a = .int .i64 q ∧ Hid (q = U / 2 ^ k) ∧ q < 16777216 ∧ wr = w) (fun _ i _ => (intOf i + 1).toNat)
  case atStart => exact ⟨n, 0, by omega, rfl, rfl, by
    show _ = _
    rw [Nat.div_eq_of_lt]
    rw [← HU.out]
    exact Nat.mod_lt _ (Nat.pow_pos (by omega)), by omega, rfl⟩
  case round =>
    obtain ⟨k, q, hk, rfl, rfl, hq, hql, rfl⟩ := hrel
    by_cases h0 : k = 0
    · subst h0
      go_wp2
      go_ret
      exact ⟨ret_i64 (by rw [hq.out]; simp), rfl⟩
    · obtain ⟨j, rfl⟩ : ∃ j, k = j + 1 := ⟨k - 1, by omega⟩
      obtain ⟨b, off, x, rfl, hb, hx, hcx⟩ := hr.at_ (enc := fun x : Nat => iv (x : Int)) (k := j) (by omega)
      rw [lb_get (by omega)] at hx
      injection hx with hx
      have hx2 : x < 2 := by omega
      have hstep : Hid (2 * q + x = U / 2 ^ j) := by show _ = _; rw [hq.out, ← HU.out, ← hx]; exact top_step (by omega)
      have hl : 2 * q + x < 16777216 := by have := hstep.out; have := Nat.div_le_self U (2 ^ j); omega
      have HX := Lib.hid hx
      have e1 : ((j + 1 : Nat) : Int) - 1 = (j : Int) := by omega
      rw [e1]
      clear hx e1
      go_wp2
      go_roundw
      case rel => exact ⟨j, 2 * q + x, by omega, by go_num, by go_num, hstep, hl, trivial⟩
      case measure => simp [intOf]
theorem info_int : (Try.prog.info? 3).map (fun i => (i.zero, i.size, i.bytes)) = some (some (.int .i64 0), 1, 8) := by kernel_rfl
theorem Low_any (n : Int) (v : Int) (w : World) :
    Calls Try.prog 31 #[.int .i64 n, .int .i64 v] w fun e w' => ∃ A c, e = .returned (.slice A (held n) c) ∧ Fresh w w' ∧ Own w' w.heap.size 3 A (held n) c ((lb (held n) (u64 v)).map fun x : Nat => iv (x : Int)) := by
  obtain ⟨i0, hi0, hz0, hz1, hz2⟩ := info_parts info_int
  have hh : ∀ w, Calls Try.prog 19 #[.int .i64 n] w fun e w' => e = .returned (.int .i64 (held n)) ∧ w = w' := fun w => Held_any n w
  have hle := held_le n
  obtain ⟨W, hW⟩ : ∃ W, held n = W := ⟨_, rfl⟩
  rw [hW] at hle hh ⊢
  have HH := Lib.hid hh
  clear hh hW
  have hu := wrap_u64 v
  have hu2 := u64_lt v
  go_enter Try.func31, Try.ntmps31
  go_wp2
  clear hu
  generalize hu3 : u64 v = u at *
  have HU := Lib.hid hu3
  clear hu3
  go_loopw [5, 6, 7] (fun v t i wr => ∃ (k c t' : Nat) (A : Option Addr), k ≤ W ∧ i = .int .i64 k ∧ t = .int .u64 t' ∧ Hid (t' = u / 2 ^ k) ∧ v = .slice A k c ∧ Fresh w wr ∧ Own wr w.heap.size 3 A k c ((lb k u).map fun x : Nat => iv (x : Int))) (fun _ _ i _ => W - (intOf i).toNat)
  case atStart => exact ⟨0, 0, u, none, by omega, rfl, rfl, by simp [Hid], rfl, Fresh.refl _, Own.nil _ _ _⟩
  case round =>
    obtain ⟨k, c, t, A, hk, rfl, rfl, ht, rfl, hfr, hown⟩ := hrel
    by_cases hlt : k < W
    · have hb2 : t < 18446744073709551616 := by have := ht.out; have := Nat.div_le_self u (2 ^ k); omega
      go_wp2_with (first
        | (at_builtin; refine wpList_append_rd _ rfl _ _ 40 rfl w.heap.size 3 i0 _ 8 Try.underlying40 hi0 hz0 hz1 hz2 rfl A k c _ rfl (Own.fresh hown (Fresh.alloc _ _)) (wr.heap.size + 1) (some ⟨wr.heap.size, 0, none⟩) 1 1 [.int .i64 ((t : Int) % 2)] rfl (Rd.lit wr #[.int .i64 ((t : Int) % 2)] 3) (one_one _ _) (by unfold maxLen; omega) (by omega) (by have := hfr.size; simp; omega) ?_; intro A1 c1 w1 hown1 hg1)
        | (go_at_call 19; refine (HH.out _).mono ?_; rintro e w' ⟨rfl, rfl⟩))
      have hl : ((lb k u).map fun x : Nat => iv (x : Int)) ++ [Value.int .i64 ((t : Int) % 2)] = (lb (k + 1) u).map fun x : Nat => iv (x : Int) := by
        have h1 : (t : Int) % 2 = ((t % 2 : Nat) : Int) := by omega
        rw [lb_snoc, List.map_append, List.map_cons, List.map_nil, ← ht.out, h1]
      have hfr1 : Fresh w w1 := (hfr.trans (Fresh.alloc _ _)).append (Own.fresh hown (Fresh.alloc _ _)) (Nat.le_refl _) hg1
      rw [hl] at hown1
      have hd : t / 2 = u / 2 ^ (k + 1) := by rw [ht.out, Nat.div_div_eq_div_mul, Nat.pow_succ]
      clear hl hg1
      go_roundw
      case rel => exact ⟨k + 1, c1, t / 2, A1, by omega, by go_num, by go_num, hd, rfl, hfr1, hown1⟩
      case measure => simp [intOf]; omega
    · have h0 : k = W := by omega
      subst h0
      go_wp2_with (go_at_call 19; refine (HH.out _).mono ?_; rintro e w' ⟨rfl, rfl⟩)
      go_ret
      exact ⟨A, c, rfl, hfr, by rw [HU.out]; exact hown⟩
end Go.Proofs.Ytelghdfikcodmaa.bitp
