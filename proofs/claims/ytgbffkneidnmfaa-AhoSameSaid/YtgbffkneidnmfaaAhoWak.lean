/-
  Layer 14: wakes. My own text.
-/
import Derived.Test.YtgbffkneidnmfaaAhoRef
import Derived.Lib.SmallJoins
namespace Go.Proofs.Ytgbffkneidnmfaa.ahop
open Go.RowKit Go.Maps Go.Proofs.Ytgbffkneidnmfaa.base Go.Proofs.Ytgbffkneidnmfaa.aho
set_option linter.unusedVariables false
def exRows (s : Nat) : List Row := [⟨some ⟨s, 0, none⟩, 2, 2, [104, 101]⟩, ⟨some ⟨s + 1, 0, none⟩, 3, 3, [115, 104, 101]⟩, ⟨some ⟨s + 2, 0, none⟩, 4, 4, [104, 101, 114, 115]⟩]
def exW : List Bs := [[104, 101], [115, 104, 101], [104, 101, 114, 115]]
def exT : Bs := [117, 115, 104, 101, 114, 115]
theorem ex_words (s : Nat) : wordsOf (exRows s) = exW := rfl
theorem ex_err (s : Nat) : errA (lens (exRows s)) = 0 := rfl
theorem ex_cnt0 : cnt (fvs exW []) = 3 := by decide +kernel
theorem ex_cnt : cnt (fvs exW exT) = 0 := by decide +kernel
theorem ex_fvs : fvs exW exT = [4, 4, 6] := by decide +kernel
abbrev exW1 (w : World) : World := w.alloc (.cells #[.int .u8 104, .int .u8 101] tU8 (2, 3))
abbrev exW2 (w : World) : World := (exW1 w).alloc (.cells #[.int .u8 115, .int .u8 104, .int .u8 101] tU8 (3, 4))
abbrev exW3 (w : World) : World := (exW2 w).alloc (.cells #[.int .u8 104, .int .u8 101, .int .u8 114, .int .u8 115] tU8 (4, 5))
abbrev exW4 (w : World) : World := (exW3 w).alloc (.cells #[.slice (some ⟨w.heap.size, 0, none⟩) 2 2, .slice (some ⟨w.heap.size + 1, 0, none⟩) 3 3, .slice (some ⟨w.heap.size + 1 + 1, 0, none⟩) 4 4] 32)
theorem ex_rows (w : World) : RdRows (exW4 w) (exW4 w).heap.size (some ⟨w.heap.size + 1 + 1 + 1, 0, none⟩) 3 (exRows w.heap.size) := by
  have f1 : Fresh (exW1 w) (exW4 w) := (Fresh.alloc _ _).trans ((Fresh.alloc _ _).trans (Fresh.alloc _ _))
  have f2 : Fresh (exW2 w) (exW4 w) := (Fresh.alloc _ _).trans (Fresh.alloc _ _)
  have f3 : Fresh (exW3 w) (exW4 w) := Fresh.alloc _ _
  have s1 : (exW1 w).heap.size = w.heap.size + 1 := by simp
  have s2 : (exW2 w).heap.size = w.heap.size + 1 + 1 := by simp
  have s3 : (exW3 w).heap.size = w.heap.size + 1 + 1 + 1 := by simp
  have r1 := ((Rd.mark w #[.int .u8 104, .int .u8 101] tU8 (2, 3)).up (Nat.le_of_eq s1.symm)).fresh f1
  have r2 := ((Rd.mark (exW1 w) #[.int .u8 115, .int .u8 104, .int .u8 101] tU8 (3, 4)).up (Nat.le_of_eq (by rw [s1, s2]))).fresh f2
  have r3 := ((Rd.mark (exW2 w) #[.int .u8 104, .int .u8 101, .int .u8 114, .int .u8 115] tU8 (4, 5)).up (Nat.le_of_eq (by rw [s2, s3]))).fresh f3
  have r4 := Rd.lit (exW3 w) #[.slice (some ⟨w.heap.size, 0, none⟩) 2 2, .slice (some ⟨w.heap.size + 1, 0, none⟩) 3 3, .slice (some ⟨w.heap.size + 1 + 1, 0, none⟩) 4 4] 32
  rw [s1] at r2
  rw [s2] at r3
  rw [s3] at r4
  refine ⟨r4.up (by simp), fun r hr => ?_⟩
  simp only [exRows, List.mem_cons, List.not_mem_nil, or_false] at hr
  rcases hr with rfl | rfl | rfl
  · exact r1
  · exact r2
  · exact r3
theorem new_ex (w : World) : Calls Try.prog 10 #[.slice (some ⟨w.heap.size + 1 + 1 + 1, 0, none⟩) 3 3] (exW4 w) fun e w' => ∃ (q N n c : Nat) (P : List Bs) (A : Option Addr) (T : List Sv), e = .returned (.tuple #[.pointer (some ⟨q, 0, none⟩), iv 0]) ∧ Fresh (exW4 w) w' ∧ WdAt w' q N exW P A n c T :=
  (new_any (exRows w.heap.size) _ 3 3 _ (exW4 w) (ex_rows w) (Nat.le_refl _) (by omega)).mono fun e w' h => by
    rcases h with ⟨h1, _⟩ | ⟨_, q, N, n, c, P, A, T, h2, h3, h4, h5⟩
    · exact absurd (ex_err _) h1
    · exact ⟨q, N, n, c, P, A, T, h2, h3, h5⟩
theorem rdA_mark (w : World) (cs : Array Value) (e : TypeId) (fr : Nat × Nat) {S : List Nat} (hS : ∀ i ∈ S, i < w.heap.size) : RdA (w.alloc (.cells cs e fr)) S (some ⟨w.heap.size, 0, none⟩) cs.size cs.toList := by
  obtain ⟨h1, h2⟩ := Rd.mark w cs e fr
  refine ⟨h1, fun hn => ?_⟩
  obtain ⟨b, off, e1, hb, hc⟩ := h2 hn
  injection e1 with e1
  injection e1 with e2 e3 _
  exact ⟨b, off, by rw [e2, e3], by simp; omega, fun hx => by have := hS b hx; omega, hc⟩
theorem wakes_any (w : World) : Calls Try.prog 8 #[] w fun e w' => e = .returned (.bool true) ∧ Fresh w w' := by
  have hnew := new_ex w
  have hf4 : Fresh w (exW4 w) := (Fresh.alloc _ _).trans ((Fresh.alloc _ _).trans ((Fresh.alloc _ _).trans (Fresh.alloc _ _)))
  have hcv1 : (convert 32 32 (.slice (some ⟨w.heap.size, 0, none⟩) 2 2)).run Try.prog (w.alloc (.cells #[.int .u8 104, .int .u8 101] tU8)) = .ok (.slice (some ⟨w.heap.size, 0, none⟩) 2 2) (exW1 w) := Joins.run_convert_bytes_const_at (P := Try.prog) w 32 5 #[.int .u8 104, .int .u8 101] 2 2 w.heap.size rfl Try.underlying32 Try.underlying5
  have hcv2 : (convert 32 32 (.slice (some ⟨w.heap.size + 1, 0, none⟩) 3 3)).run Try.prog ((exW1 w).alloc (.cells #[.int .u8 115, .int .u8 104, .int .u8 101] tU8)) = .ok (.slice (some ⟨w.heap.size + 1, 0, none⟩) 3 3) (exW2 w) := Joins.run_convert_bytes_const_at (P := Try.prog) (exW1 w) 32 5 #[.int .u8 115, .int .u8 104, .int .u8 101] 3 3 (w.heap.size + 1) (by simp) Try.underlying32 Try.underlying5
  have hcv3 : (convert 32 32 (.slice (some ⟨w.heap.size + 1 + 1, 0, none⟩) 4 4)).run Try.prog ((exW2 w).alloc (.cells #[.int .u8 104, .int .u8 101, .int .u8 114, .int .u8 115] tU8)) = .ok (.slice (some ⟨w.heap.size + 1 + 1, 0, none⟩) 4 4) (exW3 w) := Joins.run_convert_bytes_const_at (P := Try.prog) (exW2 w) 32 5 #[.int .u8 104, .int .u8 101, .int .u8 114, .int .u8 115] 4 4 (w.heap.size + 1 + 1) (by simp) Try.underlying32 Try.underlying5
  have HNEW := Lib.hid hnew
  have HF4 := Lib.hid hf4
  clear hnew hf4
  go_enter Try.func8, Try.ntmps8
  go_upto_region 2 with (go_at_call 10; (refine HNEW.out.mono ?_); rintro e w5 ⟨q, N, n, c, P, A, T, rfl, hf5, hwd⟩; have HF5 := Lib.hid (HF4.out.trans hf5); have HWD := Lib.hid hwd; clear hf5 hwd)
  have hsc := scan_any q N exW P A n c T w5 HWD.out
  have HSC := Lib.hid hsc
  clear hsc
  go_upto_region 3 with (go_at_call 12; (refine HSC.out.mono ?_); rintro e w6 ⟨p, g, rfl, hs6, hp6, hg6, hf6⟩; have HS6 := Lib.hid hs6; have HF6 := Lib.hid (HF5.out.trans hf6); have hpg : w.heap.size ≤ p ∧ w.heap.size ≤ g := (by have := HF5.out.size; omega); clear hs6 hp6 hg6 hf6)
  obtain ⟨i1, i2, i3⟩ := HS6.out.inside
  have hfa : Fresh w6 (w6.alloc (.cells #[.int .u8 117, .int .u8 115, .int .u8 104, .int .u8 101, .int .u8 114, .int .u8 115] tU8 (6, 7))) := Fresh.alloc _ _
  have hcv4 : (convert 32 32 (.slice (some ⟨w6.heap.size, 0, none⟩) 6 6)).run Try.prog (w6.alloc (.cells #[.int .u8 117, .int .u8 115, .int .u8 104, .int .u8 101, .int .u8 114, .int .u8 115] tU8)) = .ok (.slice (some ⟨w6.heap.size, 0, none⟩) 6 6) (w6.alloc (.cells #[.int .u8 117, .int .u8 115, .int .u8 104, .int .u8 101, .int .u8 114, .int .u8 115] tU8 (6, 7))) := Joins.run_convert_bytes_const_at (P := Try.prog) w6 32 5 #[.int .u8 117, .int .u8 115, .int .u8 104, .int .u8 101, .int .u8 114, .int .u8 115] 6 6 w6.heap.size rfl Try.underlying32 Try.underlying5
  have hput := put_any (some ⟨w6.heap.size, 0, none⟩) 6 6 exT (HS6.out.fresh hfa) (rdA_mark w6 #[.int .u8 117, .int .u8 115, .int .u8 104, .int .u8 101, .int .u8 114, .int .u8 115] tU8 (6, 7) (by simp; omega)) (by omega) (by simp)
  have HPUT := Lib.hid hput
  have HFA := Lib.hid hfa
  clear hput hfa
  go_wp2_with (first
    | (go_at_call 13; (refine HPUT.out.mono ?_); rintro e w7 ⟨R, rfl, hR, hs7, ht7⟩; obtain rfl : R = 3 := (by rw [List.nil_append, ex_cnt, ex_cnt0] at hR; omega); have hfi := first_any hs7; have HFI := Lib.hid hfi; have HF7 := Lib.hid (ht7.new (HF6.out.trans HFA.out) (by simp; exact hpg)); clear hR hs7 ht7 hfi)
    | (go_at_call 16; (refine HFI.out.mono ?_); rintro e w8 ⟨A8, c8, rfl, ho8, hf8⟩; have HO8 := Lib.hid ho8; have HF8 := Lib.hid (HF7.out.trans hf8); clear ho8 hf8)
    | (go_at_call 15; (refine (ints_any A8 (some ⟨w8.heap.size, 0, none⟩) 3 3 c8 3 (w8.alloc (.cells #[.int .i64 4, .int .i64 4, .int .i64 6] tInt)).heap.size _ [4, 4, 6] [4, 4, 6] (w8.alloc (.cells #[.int .i64 4, .int .i64 4, .int .i64 6] tInt)) (by have h := HO8.out.rd; rw [List.nil_append, ex_fvs] at h; exact h.fresh (Fresh.alloc _ _)) (Rd.lit w8 #[.int .i64 4, .int .i64 4, .int .i64 6] tInt) (by omega) (by omega)).mono ?_); rintro e w9 ⟨⟨r, rfl, hr⟩, q9, rfl⟩; obtain rfl : r = true := hr.2 rfl))
  go_ret
  exact ⟨rfl, (HF8.out.trans (Fresh.alloc _ _)).trans (Fresh.drewN _ _)⟩
end Go.Proofs.Ytgbffkneidnmfaa.ahop
