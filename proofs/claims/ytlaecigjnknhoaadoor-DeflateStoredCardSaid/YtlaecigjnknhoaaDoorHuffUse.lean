/-
  The contracts of huff.Code's Fill and Code, of huff.highestFirst. My own text.
-/
import Derived.Test.YtlaecigjnknhoaaDoorHuffNew
import Derived.Lib.Tables
import Derived.Laws.BitsAllLaws
namespace Go.Proofs.YtlaecigjnknhoaaDoor.huffp
open Go.RowKit Go.Proofs.YtlaecigjnknhoaaDoor.base Go.Proofs.YtlaecigjnknhoaaDoor.num Go.Proofs.YtlaecigjnknhoaaDoor.bitnum Go.Proofs.YtlaecigjnknhoaaDoor.bitp Go.Proofs.YtlaecigjnknhoaaDoor.huffnum
set_option linter.unusedVariables false

theorem CodeAt.ends {w : World} {g : Nat} {ls bl : List Nat} (h : CodeAt w g ls bl) (n : Nat) (hn : n ≤ 15) : w.cell? ⟨g, 16 + n, none⟩ = some (.int .i64 (tx ls n : Nat)) := by
  obtain ⟨R, d, rfl, h⟩ := h
  have := h.all.cell (cells_end R (Es ls 16) ⟨some ⟨d, 0, none⟩, ls.length, ls.length⟩ (k := n) (by omega))
  rw [Es, if_pos (by omega)] at this
  exact this

set_option maxRecDepth 100000 in
theorem fill_is (g : Nat) (ls bl : List Nat) (T : Nat) (w : World) (h : CodeAt w g ls bl) (hT : tx ls 15 = T) (F : Nat) (hF : F = if T < 32768 then 1 else 0) :
    Calls Tryd.prog 112 #[.pointer (some ⟨g, 0, none⟩)] w fun e w' => e = .returned (.int .i64 F) ∧ w = w' := by
  have hc := h.ends 15 (Nat.le_refl _)
  rw [hT] at hc
  simp only [Nat.reduceAdd] at hc
  clear h hT
  by_cases ht : T < 32768
  · rw [if_pos ht] at hF
    subst hF
    have hti : (T : Int) < 32768 := by omega
    clear ht
    go_enter Tryd.func112, Tryd.ntmps112
    go_wp2
    go_ret
    exact ⟨rfl, rfl⟩
  · rw [if_neg ht] at hF
    subst hF
    have hti : ¬ (T : Int) < 32768 := by omega
    clear ht
    go_enter Tryd.func112, Tryd.ntmps112
    go_wp2
    go_ret
    exact ⟨rfl, rfl⟩

theorem code_out (g : Nat) (ls bl : List Nat) (z : Int) (w : World) (h : CodeAt w g ls bl) (hz : z < 0 ∨ (ls.length : Int) ≤ z) :
    Calls Tryd.prog 79 #[.pointer (some ⟨g, 0, none⟩), .int .i64 z] w fun e w' => e = .returned (.tuple #[.int .i64 0, .int .i64 0]) ∧ w = w' := by
  obtain ⟨R, d, rfl, h⟩ := h
  have hc := h.all.cell (cells_codes R (Es ls 16) ⟨some ⟨d, 0, none⟩, ls.length, ls.length⟩)
  simp only [Sl.val] at hc
  rcases hz with hz | hz
  · go_enter Tryd.func79, Tryd.ntmps79
    go_wp2
    go_ret2
    exact ⟨rfl, rfl⟩
  · go_enter Tryd.func79, Tryd.ntmps79
    go_wp2
    go_ret2
    exact ⟨rfl, rfl⟩
theorem code_in (g : Nat) (ls bl : List Nat) (s a b : Nat) (w : World) (h : CodeAt w g ls bl) (hs : s < ls.length) (hab : Fs ls 16 0 s = (a, b)) :
    Calls Tryd.prog 79 #[.pointer (some ⟨g, 0, none⟩), .int .i64 s] w fun e w' => e = .returned (.tuple #[.int .i64 a, .int .i64 b]) ∧ Fresh w w' := by
  obtain ⟨R, d, rfl, h⟩ := h
  have hc := h.all.cell (cells_codes R (Es ls 16) ⟨some ⟨d, 0, none⟩, ls.length, ls.length⟩)
  have h1 := h.codes.cell (pairs_fst (Fs ls 16 0) ls.length hs)
  have h2 := h.codes.cell (pairs_snd (Fs ls 16 0) ls.length hs)
  rw [hab] at h1 h2
  simp only at h1 h2
  simp only [Sl.val] at hc
  generalize ls.length = n at *
  have hs0 : (0 : Int) ≤ (s : Int) := by omega
  have hs1 : (s : Int) < (n : Int) := by omega
  go_enter Tryd.func79, Tryd.ntmps79
  go_wp2
  go_quiet (fail)
  go_wp2
  go_ret2
  exact ⟨rfl, Fresh.drewN _ _⟩

theorem rev8_is (i : Nat) (h : i < 256) : Lib.rev8 (i : Int) = ((rev 8 i : Nat) : Int) := by
  have all : ∀ j : Fin 256, Lib.rev8 ((j.val : Nat) : Int) = ((rev 8 j.val : Nat) : Int) := by decide +kernel
  exact all ⟨i, h⟩
theorem rev_split (A k : Nat) : ∀ j, rev (k + j) A = rev k A * 2 ^ j + rev j (A / 2 ^ k)
  | 0 => by simp [rev]
  | j + 1 => by
    rw [← Nat.add_assoc, rev, rev_split A k j, rev, Nat.pow_succ, Nat.div_div_eq_div_mul, ← Nat.pow_add, Nat.mul_add, Nat.mul_comm (2 ^ j) 2, Nat.mul_left_comm, Nat.add_assoc]
theorem rev_two (v : Nat) : rev 16 v = rev 8 (v % 256) * 256 + rev 8 (v / 256) := by
  have h := rev_split v 8 8
  have e := rev_mod v (k := 8) (m := 8) (Nat.le_refl _)
  rw [show (2 : Nat) ^ 8 = 256 from rfl] at h e
  rw [e]
  exact h
set_option maxRecDepth 100000 in
theorem fold_rev : (⟨(([0, 128, 64, 192, 32, 160, 96, 224, 16, 144, 80, 208, 48, 176, 112, 240, 8, 136, 72, 200, 40, 168, 104, 232, 24, 152, 88, 216, 56, 184, 120, 248, 4, 132, 68, 196, 36, 164, 100, 228, 20, 148, 84, 212, 52, 180, 116, 244, 12, 140, 76, 204, 44, 172, 108, 236, 28, 156, 92, 220, 60, 188, 124, 252].append [2, 130, 66, 194, 34, 162, 98, 226, 18, 146, 82, 210, 50, 178, 114, 242, 10, 138, 74, 202, 42, 170, 106, 234, 26, 154, 90, 218, 58, 186, 122, 250, 6, 134, 70, 198, 38, 166, 102, 230, 22, 150, 86, 214, 54, 182, 118, 246, 14, 142, 78, 206, 46, 174, 110, 238, 30, 158, 94, 222, 62, 190, 126, 254]).append ([1, 129, 65, 193, 33, 161, 97, 225, 17, 145, 81, 209, 49, 177, 113, 241, 9, 137, 73, 201, 41, 169, 105, 233, 25, 153, 89, 217, 57, 185, 121, 249, 5, 133, 69, 197, 37, 165, 101, 229, 21, 149, 85, 213, 53, 181, 117, 245, 13, 141, 77, 205, 45, 173, 109, 237, 29, 157, 93, 221, 61, 189, 125, 253].append [3, 131, 67, 195, 35, 163, 99, 227, 19, 147, 83, 211, 51, 179, 115, 243, 11, 139, 75, 203, 43, 171, 107, 235, 27, 155, 91, 219, 59, 187, 123, 251, 7, 135, 71, 199, 39, 167, 103, 231, 23, 151, 87, 215, 55, 183, 119, 247, 15, 143, 79, 207, 47, 175, 111, 239, 31, 159, 95, 223, 63, 191, 127, 255])).toArray⟩ : ByteArray) = Lib.rev8tab := by rfl
attribute [local go_sem] fold_rev
set_option maxRecDepth 100000 in
theorem rev16 (v : Nat) (w : World) (hv : v < 65536) :
    Calls Tryd.prog 105 #[.int .u16 v] w fun e w' => e = .returned (.int .u16 (rev 16 v : Nat)) ∧ ∃ m, w' = w.drewN m := by
  have h1 := rev8_is (v / 256) (by omega)
  have h2 := rev8_is (v % 256) (by omega)
  rw [show ((v / 256 : Nat) : Int) = (v : Int) / 256 by omega] at h1
  rw [show ((v % 256 : Nat) : Int) = (v : Int) % 256 by omega] at h2
  have a1 := rev_lt 8 (v / 256)
  have a2 := rev_lt 8 (v % 256)
  have e3 := rev_two v
  have hand : bits .and .u16 (v : Int) 255 = (v : Int) % 256 := by
    have := u16_and_nat v 255 hv (by omega)
    rw [show (255 : Nat) = 2 ^ 8 - 1 from rfl, Nat.and_two_pow_sub_one_eq_mod] at this
    rw [show (v : Int) % 256 = ((v % 2 ^ 8 : Nat) : Int) by omega]
    exact this
  generalize rev 8 (v / 256) = a at *
  generalize rev 8 (v % 256) = b at *
  generalize rev 16 v = c at *
  simp only [Nat.reducePow] at a1 a2
  have hor : bits .or .u16 (a : Int) ((b : Int) * 256) = (c : Int) := by
    have h := u16_or_nat a (b * 256) (by omega) (by omega)
    have h2 := Nat.two_pow_add_eq_or_of_lt (i := 8) (b := a) (by omega) b
    rw [show 2 ^ 8 * b = b * 256 by omega, Nat.or_comm] at h2
    rw [← h2, show b * 256 + a = c by omega] at h
    rw [show (b : Int) * 256 = ((b * 256 : Nat) : Int) by omega]
    exact h
  have hb1 : (0 : Int) ≤ (b : Int) := by omega
  have hb2 : (b : Int) ≤ 255 := by omega
  have ha1 : (0 : Int) ≤ (a : Int) := by omega
  have ha2 : (a : Int) ≤ 255 := by omega
  have hi0 : (0 : Int) ≤ (v : Int) / 256 := by omega
  have hi1 : (v : Int) / 256 ≤ 255 := by omega
  have hj0 : (0 : Int) ≤ (v : Int) % 256 := by omega
  have hj1 : (v : Int) % 256 ≤ 255 := by omega
  clear e3 a1 a2
  go_enter Tryd.func105, Tryd.ntmps105
  go_wp2
  go_region
  all_goals go_wp2
  all_goals go_ret
  all_goals exact ⟨rfl, 1, rfl⟩
end Go.Proofs.YtlaecigjnknhoaaDoor.huffp
