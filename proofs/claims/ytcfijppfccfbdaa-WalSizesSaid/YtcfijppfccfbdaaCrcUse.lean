/-
  crc.Of of one piece and of two, a Sum that is not there, the law's example. My own text.
-/
import Derived.Test.YtcfijppfccfbdaaCrcSum
import Derived.Lib.SmallJoins
namespace Go.Proofs.Ytcfijppfccfbdaa.crc
open Go.RowKit Go.Proofs.Ytcfijppfccfbdaa.base Go.Proofs.Ytcfijppfccfbdaa.crcnum
set_option linter.unusedVariables false
set_option maxRecDepth 100000

theorem of_one (A : Option Addr) (n c : Nat) (bs : List UInt8) (w : World) (B : Nat) (s : Nat) (hr : Rd w B A n (bs.map bv)) (hB : B ≤ w.heap.size) (hn : n ≤ 65536) (hs : sum bs = s) (g : Nat) (hg : g = w.heap.size) :
    Calls Try.prog 28 #[.slice (some ⟨g, 0, none⟩) 1 1] (w.alloc (.cells #[.slice A n c] 23)) fun e w' => e = .returned (.int .u32 s) ∧ Fresh (w.alloc (.cells #[.slice A n c] 23)) w' := by
  subst hg
  have := pieces_any (some ⟨w.heap.size, 0, none⟩) 1 1 [⟨A, n, c, bs⟩] (w.alloc (.cells #[.slice A n c] 23)) (w.heap.size + 1)
    ⟨Rd.lit w #[.slice A n c] 23, fun r h => by rw [List.mem_singleton] at h; subst h; exact (hr.alloc hB _).up (by omega)⟩ (by simp) (by omega) (fun r h => by rw [List.mem_singleton] at h; subst h; exact hn)
  rw [← hs]
  simpa [flat] using this

theorem of_two (A D : Option Addr) (n m c d : Nat) (xs bs : List UInt8) (w : World) (B : Nat) (s : Nat) (hr : Rd w B A n (xs.map bv)) (hd : Rd w B D m (bs.map bv)) (hB : B ≤ w.heap.size) (hn : n ≤ 65536) (hm : m ≤ 65536) (hs : sum (xs ++ bs) = s) (g : Nat) (hg : g = w.heap.size) :
    Calls Try.prog 28 #[.slice (some ⟨g, 0, none⟩) 2 2] (w.alloc (.cells #[.slice A n c, .slice D m d] 23)) fun e w' => e = .returned (.int .u32 s) ∧ Fresh (w.alloc (.cells #[.slice A n c, .slice D m d] 23)) w' := by
  subst hg
  have := pieces_any (some ⟨w.heap.size, 0, none⟩) 2 2 [⟨A, n, c, xs⟩, ⟨D, m, d, bs⟩] (w.alloc (.cells #[.slice A n c, .slice D m d] 23)) (w.heap.size + 1)
    ⟨Rd.lit w #[.slice A n c, .slice D m d] 23, fun r h => by
      simp only [List.mem_cons, List.not_mem_nil, or_false] at h
      rcases h with rfl | rfl
      · exact (hr.alloc hB _).up (by omega)
      · exact (hd.alloc hB _).up (by omega)⟩ (by simp) (by omega) (fun r h => by
      simp only [List.mem_cons, List.not_mem_nil, or_false] at h
      rcases h with rfl | rfl
      · exact hn
      · exact hm)
  rw [← hs]
  simpa [flat] using this

theorem add_nil (A : Option Addr) (n c : Nat) (w : World) : Calls Try.prog 35 #[.pointer none, .slice A n c] w fun e w' => e = .returned (.tuple #[]) ∧ w = w' := by
  go_enter Try.func35, Try.ntmps35
  go_wp2
  exact bodyPost_ret (results_none rfl _ _ _) rfl ⟨rfl, rfl⟩
theorem sum_nil (w : World) : Calls Try.prog 36 #[.pointer none] w fun e w' => e = .returned (.int .u32 0) ∧ w = w' := by
  go_enter Try.func36, Try.ntmps36
  go_wp2
  go_ret
  exact ⟨rfl, rfl⟩
theorem known : sum [49, 50, 51, 52, 53, 54, 55, 56, 57] = 3421780262 := by decide +kernel

theorem digits_rd (w : World) : Rd (w.alloc (.cells #[.int .u8 49, .int .u8 50, .int .u8 51, .int .u8 52, .int .u8 53, .int .u8 54, .int .u8 55, .int .u8 56, .int .u8 57] 5 (9, 10))) (w.heap.size + 1) (some ⟨w.heap.size, 0, none⟩) 9 (([49, 50, 51, 52, 53, 54, 55, 56, 57] : List UInt8).map bv) :=
  Rd.mark w #[.int .u8 49, .int .u8 50, .int .u8 51, .int .u8 52, .int .u8 53, .int .u8 54, .int .u8 55, .int .u8 56, .int .u8 57] 5 _

theorem of_known (w : World) (A : Option Addr) (B : Nat) (h : Rd w B A 9 (([49, 50, 51, 52, 53, 54, 55, 56, 57] : List UInt8).map bv)) (hB : B ≤ w.heap.size) (g : Nat) (hg : g = w.heap.size) :
    Calls Try.prog 28 #[.slice (some ⟨g, 0, none⟩) 1 1] (w.alloc (.cells #[.slice A 9 9] 23)) fun e w' => e = .returned (.int .u32 3421780262) ∧ Fresh (w.alloc (.cells #[.slice A 9 9] 23)) w' := by
  refine (of_one A 9 9 _ w B _ h hB (by omega) rfl g hg).mono ?_
  rintro e w' ⟨rfl, hf⟩
  rw [known]
  exact ⟨rfl, hf⟩

theorem sum_is (g r m S : Nat) (w : World) (h : SumAt w g r m) (hS : 4294967295 - r = S) : Calls Try.prog 36 #[.pointer (some ⟨g, 0, none⟩)] w fun e w' => e = .returned (.int .u32 S) ∧ w = w' := by
  subst hS
  exact sum_any g r m w h
theorem of_is (A : Option Addr) (n c : Nat) (bs : List UInt8) (S : Nat) (w : World) (B : Nat) (hr : Rd w B A n (bs.map bv)) (hn : n ≤ maxLen) (hS : sum bs = S) :
    Calls Try.prog 21 #[.slice A n c] w fun e w' => e = .returned (.int .u32 S) ∧ w = w' := by
  subst hS
  exact of_any A n c bs w B hr hn
theorem pieces_is (A : Option Addr) (n c : Nat) (rows : List Row) (S : Nat) (w : World) (B : Nat) (h : RdRows w B A n rows) (hB : B ≤ w.heap.size) (hn : n ≤ 65536) (hlen : ∀ r ∈ rows, r.len ≤ 65536) (hS : sum (flat rows) = S) :
    Calls Try.prog 28 #[.slice A n c] w fun e w' => e = .returned (.int .u32 S) ∧ Fresh w w' := by
  subst hS
  exact pieces_any A n c rows w B h hB hn hlen
end Go.Proofs.Ytcfijppfccfbdaa.crc
