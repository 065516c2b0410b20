/-
  bits.Writer's Code, a writer that is not there; the reference's Bits, High, Bytes, Same; wakes. My own text.
-/
import Derived.Test.YtcmeoappddpmcaaDoorWtr
namespace Go.Proofs.YtcmeoappddpmcaaDoor.bitp
open Go.RowKit Go.Proofs.YtcmeoappddpmcaaDoor.base Go.Proofs.YtcmeoappddpmcaaDoor.num Go.Proofs.YtcmeoappddpmcaaDoor.bitnum
set_option linter.unusedVariables false

/-- the reference's Same, of two that are alike -/
theorem same_yes (A D : Option Addr) (n c d : Nat) (xs : List UInt8) (w : World) (B B' : Nat) (ha : Rd w B A n (xs.map bv)) (hd : Rd w B' D n (xs.map bv)) (hn : n ≤ maxLen) :
    Calls Tryd.prog 7 #[.slice A n c, .slice D n d] w fun e w' => e = .returned (.bool true) ∧ Fresh w w' := by
  unfold maxLen at hn
  go_enter Tryd.func7, Tryd.ntmps7
  go_wp2
  go_loopw [5] (fun i wr => ∃ (k q : Nat), k ≤ n ∧ i = .int .i64 k ∧ wr = w.drewN q) (fun i _ => n - (intOf i).toNat)
  case atStart => exact ⟨0, 0, by omega, rfl, rfl⟩
  case round =>
    obtain ⟨k, q, hk, rfl, rfl⟩ := hrel
    by_cases hlt : k < n
    · obtain ⟨b, off, x, rfl, hb, hx, hcx⟩ := ha.at_ hlt
      obtain ⟨b', off', x', rfl, hb', hx', hcx'⟩ := hd.at_ hlt
      have e : x = x' := by rw [hx] at hx'; injection hx'
      subst e
      clear hx hx' ha hd
      go_wp2
      go_quiet (fail)
      go_wp2
      go_roundw
      case rel => exact ⟨k + 1, _, by omega, by go_num, rfl⟩
      case measure => simp [intOf]; omega
    · go_wp2
      go_ret
      exact ⟨rfl, Fresh.drewN _ _⟩

theorem code_any (g N m k Y : Nat) (n v : Int) (bl : List Nat) (w : World) (h : WtrAt w g N m bl) (hm : m ≤ 1099511627776) (hk : held n = k) (hY : rev k (u64 v) = Y) :
    Calls Tryd.prog 44 #[ptr g, .int .i64 n, .int .i64 v] w fun e w' => e = .returned (.tuple #[]) ∧ WtrIs w g (N + 2 ^ m * Y) (m + k) bl w' := by
  have hle := held_le n
  have hh : ∀ w, Calls Tryd.prog 40 #[.int .i64 n] w fun e w' => e = .returned (.int .i64 (held n)) ∧ w = w' := fun w => held_any n w
  rw [hk] at hh hle
  have hYl : Y < 2 ^ k := by rw [← hY]; exact rev_lt _ _
  have hp := pow24 hle
  have ht : ∀ w, Calls Tryd.prog 57 #[.int .i64 k, .int .i64 v] w fun e w' => e = .returned (.int .i64 Y) ∧ w = w' := fun w => by rw [← hY]; exact turned_any k v w hle
  have hY2 : u64 (Y : Int) % 2 ^ k = Y := by rw [u64_nat _ (by omega), Nat.mod_eq_of_lt hYl]
  have HH := Lib.hid hh
  have HT := Lib.hid ht
  have HY := Lib.hid hY2
  have H := Lib.hid h
  clear hh ht hY hY2 hk h
  go_enter Tryd.func44, Tryd.ntmps44
  go_wp2_with (first
    | (go_at_call 40; refine (HH.out _).mono ?_; rintro e w1 ⟨rfl, rfl⟩)
    | (go_at_call 57; refine (HT.out _).mono ?_; rintro e w1 ⟨rfl, rfl⟩)
    | (go_at_call 24; refine (put_any g N m k Y _ _ bl w H.out hm (held_nat k hle) HY.out).mono ?_; rintro e w1 ⟨rfl, hW⟩))
  go_end0
  exact ⟨rfl, hW⟩

/-! a writer that is not there -/
theorem putw_nil (n v : Int) (w : World) : Calls Tryd.prog 24 #[.pointer none, .int .i64 n, .int .i64 v] w fun e w' => e = .returned (.tuple #[]) ∧ w = w' := by
  go_enter Tryd.func24, Tryd.ntmps24
  go_wp2
  exact bodyPost_ret (results_none rfl _ _ _) rfl ⟨rfl, rfl⟩
theorem code_nil (n v : Int) (w : World) : Calls Tryd.prog 44 #[.pointer none, .int .i64 n, .int .i64 v] w fun e w' => e = .returned (.tuple #[]) ∧ w = w' := by
  have hle := held_le n
  go_enter Tryd.func44, Tryd.ntmps44
  go_wp2_with (first
    | (go_at_call 40; refine (held_any n _).mono ?_; rintro e w1 ⟨rfl, rfl⟩)
    | (go_at_call 57; refine (turned_any (held n) v _ hle).mono ?_; rintro e w1 ⟨rfl, rfl⟩)
    | (go_at_call 24; refine (putw_nil _ _ _).mono ?_; rintro e w1 ⟨rfl, rfl⟩))
  go_end0
  exact ⟨rfl, rfl⟩
theorem bytes_nil (w : World) : Calls Tryd.prog 32 #[.pointer none] w fun e w' => e = .returned (.slice none 0 0) ∧ w = w' := by
  go_enter Tryd.func32, Tryd.ntmps32
  go_wp2
  go_ret
  exact ⟨rfl, rfl⟩

theorem bytes_is (g N m L : Nat) (bs : List UInt8) (bl : List Nat) (w : World) (h : WtrAt w g N m bl) (hm : m ≤ 1099511627776) (hL : (m + 7) / 8 = L) (hb : low L N = bs) :
    Calls Tryd.prog 32 #[ptr g] w fun e w' => ∃ A c, e = .returned (.slice A L c) ∧ Fresh w w' ∧ Own w' w.heap.size 5 A L c (bs.map bv) := by
  subst hL; subst hb
  exact bytes_any g N m bl w h hm

end Go.Proofs.YtcmeoappddpmcaaDoor.bitp
