import Derived.Test.YtppgceighgpgoaaGreatDoorDefNum
import Derived.Test.YtppgceighgpgoaaGreatDoorMgRdr
import Derived.Test.YtppgceighgpgoaaGreatDoorShelf
/-
  The contracts of folded, symbol and distance. My own text.
-/
namespace Go.Proofs.YtppgceighgpgoaaGreatDoor.defp
open Go.RowKit Go.Maps Go.Proofs.YtppgceighgpgoaaGreatDoor.base Go.Proofs.YtppgceighgpgoaaGreatDoor.num Go.Proofs.YtppgceighgpgoaaGreatDoor.bitnum Go.Proofs.YtppgceighgpgoaaGreatDoor.bitp Go.Proofs.YtppgceighgpgoaaGreatDoor.infp
set_option linter.unusedVariables false
theorem len_parts : ∀ a : Fin 128, ∀ c : Fin 128, Lib.bitLen (128 * a.1 + c.1) = if 128 * a.1 + c.1 = 0 then 0 else Nat.log2 (128 * a.1 + c.1) + 1 := by decide +kernel
theorem len_is (q : Nat) (h : q < 16384) : Lib.bitLen q = if q = 0 then 0 else Nat.log2 q + 1 := by
  have := len_parts ⟨q / 128, by omega⟩ ⟨q % 128, by omega⟩
  simp only at this
  rwa [show 128 * (q / 128) + q % 128 = q by omega] at this
theorem log_parts : ∀ a : Fin 128, ∀ c : Fin 128, Nat.log2 (128 * a.1 + c.1) ≤ 13 := by decide +kernel
theorem log_le (q : Nat) (h : q < 16384) : Nat.log2 q ≤ 13 := by
  have := log_parts ⟨q / 128, by omega⟩ ⟨q % 128, by omega⟩
  simp only at this
  rwa [show 128 * (q / 128) + q % 128 = q by omega] at this
theorem res3 {fn : Func} {t u v : Tmp} (h : fn.results = #[.tmp t, .tmp u, .tmp v]) (tmps : Array Value) (P : Program) (w : World) :
    (results fn tmps).run P w = .ok (.tuple #[tmps.getD t undef, tmps.getD u undef, tmps.getD v undef]) w := by
  simp [results, h]
set_option maxRecDepth 100000 in
set_option maxHeartbeats 4000000 in
theorem folded_any (v row : Nat) (hrow : row = 4 ∨ row = 2) (hv : v < 32768) (w : World) :
    Calls Tryz.prog 65 #[.int .i64 v, .int .i64 row] w fun e w' => e = .returned (.tuple #[.int .i64 (code_ v row : Nat), .int .i64 (own_ v row : Nat), .int .i64 (v % 2 ^ own_ v row : Nat)]) ∧ Fresh w w' := by
  have hr4 : 2 ≤ row ∧ row ≤ 4 := by omega
  obtain ⟨q, hq⟩ : ∃ q, v / row = q := ⟨_, rfl⟩
  have hq14 : q < 16384 := by
    rw [← hq]
    rcases hrow with rfl | rfl <;> omega
  have hq1 : (v : Int) / (row : Int) = (q : Int) := by rw [← hq]; exact (Int.natCast_ediv v row).symm
  have hq2 : Int.tdiv (v : Int) (row : Int) = (q : Int) := by rw [Int.tdiv_eq_ediv_of_nonneg (by omega)]; exact hq1
  have hrne : ((row : Int) == 0) = false := by simp; omega
  have hrne2 : ¬ (row : Int) = 0 := by omega
  obtain ⟨o, ho⟩ : ∃ o, own_ v row = o := ⟨_, rfl⟩
  have hoq : Nat.log2 q = o := by rw [← ho, own_, hq]
  have ho13 : o ≤ 13 := by rw [← hoq]; exact log_le q hq14
  obtain ⟨L, hL⟩ : ∃ L, Lib.bitLen q = L := ⟨_, rfl⟩
  have hL2 : L = if q = 0 then 0 else o + 1 := by rw [← hL, len_is q hq14, hoq]
  have hlen : ∀ W, Calls Tryz.prog 87 #[.int .u64 (q : Int)] W fun e w' => e = .returned (.int .i64 (L : Nat)) ∧ w' = W := fun W => by
    have := Tryz.bits_Len (q : Int) W (by omega) (by omega)
    rw [Int.toNat_natCast, hL] at this
    exact this
  have HLEN := Lib.hid hlen
  have hcode : code_ v row = o * row + v / 2 ^ o := by unfold code_; rw [ho]
  rw [hcode, ho]
  have hwl : wrap64 ((L : Int) - 1) = (L : Int) - 1 := IntWalk.wrap64_in _ ⟨by omega, by rw [hL2]; split <;> omega⟩
  have HM : Hid (max 0 (wrap64 ((L : Int) - 1)) = (o : Int)) := by
    show _ = _
    rw [hwl, hL2]
    split
    case isTrue h =>
      have : o = 0 := by rw [← hoq, h]; rfl
      subst this
      rfl
    case isFalse h =>
      rw [Int.max_def]
      split <;> omega
  clear hwl
  have hp := pow24 (k := o) (by omega)
  have e1 : wrap64 (wrap64 (2 ^ o) - 1) = 2 ^ o - 1 := by
    rw [pow2i]
    generalize 2 ^ o = p at hp
    rw [IntWalk.wrap64_in (p : Int) ⟨by omega, by omega⟩, IntWalk.wrap64_in ((p : Int) - 1) ⟨by omega, by omega⟩]
  have e2 := and_mask v o (by omega)
  have hu : u64 (v : Int) = v := by unfold u64; omega
  rw [hu] at e2
  have HOQ := Lib.hid hoq
  have HL2 := Lib.hid hL2
  clear hlen hL hL2 hoq hcode ho hq
  go_enter Tryz.func65, Tryz.ntmps65
  go_upto_region 1 with (fail)
  go_cut [7] (fun t wx => t = .int .i64 (o : Nat) ∧ w = wx)
  case first =>
    go_wp2_with (go_at_call 87; (with_reducible refine (HLEN.out _).mono ?_); rintro e w1 ⟨rfl, rfl⟩)
    all_goals (have hm : max 0 (wrap64 ((L : Int) - 1)) = (o : Int) := HM.out)
    all_goals rw [hm]
    all_goals go_meet
    all_goals exact ⟨rfl, rfl⟩
  case rest =>
    obtain ⟨rfl, rfl⟩ := hcut
    go_wp2
    go_quiet (fail)
    all_goals go_wp2
    ((try simp only [Exit.inBlock, Exit.then]); refine bodyPost_ret (res3 rfl _ _ _) rfl ?_)
    have e3 : wrap64 (wrap64 ((o : Int) * (row : Int)) + (v : Int) / 2 ^ o) = ((o * row + v / 2 ^ o : Nat) : Int) := by
      have h1 : (v : Int) / 2 ^ o = ((v / 2 ^ o : Nat) : Int) := by rw [pow2i]; exact (Int.natCast_ediv _ _).symm
      have h2 : v / 2 ^ o ≤ v := Nat.div_le_self _ _
      have h3 : o * row ≤ 13 * 4 := Nat.mul_le_mul ho13 hr4.2
      have h4 : (o : Int) * (row : Int) = ((o * row : Nat) : Int) := by push_cast; rfl
      rw [h1, h4]
      generalize o * row = x at h3 ⊢
      generalize v / 2 ^ o = y at h2 ⊢
      rw [IntWalk.wrap64_in (x : Int) ⟨by omega, by omega⟩, IntWalk.wrap64_in _ ⟨by omega, by omega⟩]
      push_cast
      rfl
    rw [e3]
    exact ⟨rfl, Fresh.drewN _ _⟩
end Go.Proofs.YtppgceighgpgoaaGreatDoor.defp
