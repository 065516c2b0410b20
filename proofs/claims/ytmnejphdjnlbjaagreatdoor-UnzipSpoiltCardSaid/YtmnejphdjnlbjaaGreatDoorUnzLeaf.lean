import Derived.Test.YtmnejphdjnlbjaaGreatDoorUnzNum
import Derived.Test.YtmnejphdjnlbjaaGreatDoorMgRow
import Derived.Test.YtmnejphdjnlbjaaGreatDoorLeaf
import Derived.Laws.Strings
/-
  unzip's leaves: within, readable, bytes.Equal. My own text.
-/
namespace Go.Proofs.YtmnejphdjnlbjaaGreatDoor.unzp
open Go.RowKit Go.Proofs.YtmnejphdjnlbjaaGreatDoor.base Go.Proofs.YtmnejphdjnlbjaaGreatDoor.recn Go.Proofs.YtmnejphdjnlbjaaGreatDoor.unz
set_option linter.unusedVariables false
theorem within_any (a n e : Nat) (w : World) (ha : a ≤ 4611686018427387904) (hn : n ≤ 4611686018427387904) (he : e ≤ 4611686018427387904) (b : Bool) (hb : decide (a + n ≤ e) = b) :
    Calls Tryz.prog 17 #[.int .i64 (a : Nat), .int .i64 (n : Nat), .int .i64 (e : Nat)] w fun r w' => r = .returned (.bool b) ∧ w' = w := by
  have h1 : decide ((a : Int) ≥ 0) = true := by rw [decide_eq_true_iff]; omega
  have h2 : decide ((n : Int) ≥ 0) = true := by rw [decide_eq_true_iff]; omega
  have h4 : decide (0 ≤ (a : Int)) = true := by rw [decide_eq_true_iff]; omega
  have h5 : decide (0 ≤ (n : Int)) = true := by rw [decide_eq_true_iff]; omega
  have h3 : decide ((n : Int) ≤ (e : Int) - (a : Int)) = b := by rw [← hb, decide_eq_decide]; omega
  clear hb
  go_enter Tryz.func17, Tryz.ntmps17
  go_wp2
  go_ret
  exact ⟨rfl, rfl⟩
theorem readable_any (m : Nat) (w : World) (hm : m ≤ 65535) (b : Bool) (hb : (m == 0 || m == 8) = b) :
    Calls Tryz.prog 18 #[.int .i64 (m : Nat)] w fun r w' => r = .returned (.bool b) ∧ w' = w := by
  by_cases h0 : m = 0
  · subst h0
    obtain rfl : true = b := hb
    go_enter Tryz.func18, Tryz.ntmps18
    go_wp2
    go_ret
    exact ⟨rfl, rfl⟩
  · have h1 : ((m : Int) == 0) = false := by simp; omega
    have h2 : ((m : Int) == 8) = b := by rw [← hb, Bool.eq_iff_iff]; simp; omega
    clear hb
    go_enter Tryz.func18, Tryz.ntmps18
    go_wp2
    go_ret
    exact ⟨rfl, rfl⟩
theorem text_eq (xs ys : List UInt8) : ((⟨xs.toArray⟩ : ByteArray).toList == (⟨ys.toArray⟩ : ByteArray).toList) = decide (xs = ys) := by
  rw [ByteArray.toList_eq, ByteArray.toList_eq, Bool.eq_iff_iff, decide_eq_true_iff, beq_iff_eq]
theorem equal_any (A D : Option Addr) (n m c d : Nat) (xs ys : List UInt8) (w : World) (B B' : Nat) (ha : Rd w B A n (xs.map bv)) (hd : Rd w B' D m (ys.map bv)) (b : Bool) (hb : decide (xs = ys) = b) :
    Calls Tryz.prog 49 #[.slice A n c, .slice D m d] w fun e w' => e = .returned (.bool b) ∧ w' = w := by
  have h1 := run_str_rd (P := Tryz.prog) w 22 9 5 Tryz.underlying22 Tryz.underlying5 Tryz.underlying9 A c n B xs ha
  have h2 := run_str_rd (P := Tryz.prog) w 22 9 5 Tryz.underlying22 Tryz.underlying5 Tryz.underlying9 D d m B' ys hd
  have h3 := text_eq xs ys
  rw [hb] at h3
  generalize (⟨xs.toArray⟩ : ByteArray) = s at *
  generalize (⟨ys.toArray⟩ : ByteArray) = t at *
  go_enter Tryz.func49, Tryz.ntmps49
  go_wp2
  go_ret
  exact ⟨rfl, rfl⟩
end Go.Proofs.YtmnejphdjnlbjaaGreatDoor.unzp
