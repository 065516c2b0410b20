/-
  What the laws on heads take: my own text.
-/
import Derived.Test.YtlnhafibcbhegaaRecUse
import Derived.Test.YtlnhafibcbhegaaRecRCen
namespace Go.Proofs.Ytlnhafibcbhegaa.recp
open Go.RowKit Go.Proofs.Ytlnhafibcbhegaa.base Go.Proofs.Ytlnhafibcbhegaa.num Go.Proofs.Ytlnhafibcbhegaa.word Go.Proofs.Ytlnhafibcbhegaa.recn
set_option linter.unusedVariables false
theorem wakes_any (w : World) : Calls Try.prog 5 #[] w fun e w' => e = .returned (.bool true) ∧ Fresh w w' := by
  go_enter Try.func5, Try.ntmps5
  go_wp2_with (go_at_call 14; (refine (endZ _).mono ?_; rintro e w1 ⟨A1, c1, rfl, hf1, ho1⟩; obtain ⟨b, off, rfl, _, hcl⟩ := ho1.rd.2 (by omega); have k2 : w1.cell? ⟨b, off + 2, none⟩ = some (.int .u8 5) := hcl 2 _ rfl; clear hcl))
  go_ret
  exact ⟨rfl, hf1⟩
/-- what a call tells of a head, an error too -/
structure Out where
  a0 : Int
  a1 : Int
  a2 : Int
  a3 : Int
  a4 : Int
  a5 : Int
  a6 : Int
  nm : List UInt8
  b : Bool
  en : Int
  er : Int
def rowV (o : Out) (A : Option Addr) (c : Nat) : List Value := [iv o.a0, iv o.a1, iv o.a2, .int .u32 o.a3, iv o.a4, iv o.a5, iv o.a6, .slice A o.nm.length c, .bool o.b]
def outOf : Except Nat (Hd × Nat) → Out
  | .error k => ⟨0, 0, 0, 0, 0, 0, 0, [], false, 0, k⟩
  | .ok x => ⟨x.1.fl, x.1.me, x.1.dt, x.1.cr, x.1.cs, x.1.si, x.1.at_, x.1.nm, x.1.wd, x.2, 0⟩
theorem HeadIs.row {w : World} {r : Except Nat (Hd × Nat)} {e : Ending} {w' : World} (h : HeadIs w r e w') :
    Fresh w w' ∧ ∃ A c, e = .returned (.tuple #[.agg (rowV (outOf r) A c).toArray, iv (outOf r).en, iv (outOf r).er]) ∧ RdA w' (List.range w.heap.size) A (outOf r).nm.length ((outOf r).nm.map bv) ∧ (outOf r).nm.length ≤ maxLen := by
  obtain ⟨h1, h2⟩ := h
  refine ⟨h1, ?_⟩
  cases r with
  | error k => exact ⟨none, 0, h2, RdA.nil _ _ _, Nat.zero_le _⟩
  | ok x =>
    obtain ⟨A, c, he, h3, h4, hr⟩ := h2
    exact ⟨A, c, he, hr, Nat.le_trans h3 h4⟩
theorem GotIs.row {w : World} {r : Except Nat (Hd × Nat)} {e : Ending} {w' : World} (h : GotIs w r e w') :
    Fresh w w' ∧ ∃ A c, e = .returned (.agg (rowV (outOf r) A c ++ [iv (outOf r).en, iv (outOf r).er]).toArray) ∧ Rd w' w'.heap.size A (outOf r).nm.length ((outOf r).nm.map bv) := by
  obtain ⟨h1, h2⟩ := h
  refine ⟨h1, ?_⟩
  cases r with
  | error k => exact ⟨none, 0, h2, Rd.nil _ _ _⟩
  | ok x =>
    obtain ⟨A, c, he, _, _, hr⟩ := h2
    exact ⟨A, c, he, hr⟩
set_option maxRecDepth 100000 in
set_option maxHeartbeats 4000000 in
/-- the reference's Same, of two heads that are alike -/
theorem sameHead (o : Out) (A A' : Option Addr) (c c' : Nat) (w : World) (B B' : Nat) (ha : Rd w B A o.nm.length (o.nm.map bv)) (hB : B ≤ w.heap.size) (hd : Rd w B' A' o.nm.length (o.nm.map bv)) (hB' : B' ≤ w.heap.size) (hn : o.nm.length ≤ maxLen) :
    Calls Try.prog 8 #[.agg (rowV o A c).toArray, .agg (rowV o A' c').toArray] w fun e w' => e = .returned (.bool true) ∧ Fresh w w' := by
  obtain ⟨a0, a1, a2, a3, a4, a5, a6, nm, b, en, er⟩ := o
  unfold rowV
  simp only at ha hd hn ⊢
  generalize nm.length = N at *
  have hf : Fresh w ((w.alloc (.cells #[iv a0, iv a1, iv a2, .int .u32 a3, iv a4, iv a5, iv a6, .slice A N c, .bool b] tHead)).alloc (.cells #[iv a0, iv a1, iv a2, .int .u32 a3, iv a4, iv a5, iv a6, .slice A' N c', .bool b] tHead)) := (Fresh.alloc _ _).trans (Fresh.alloc _ _)
  have b1 : Bk ((w.alloc (.cells #[iv a0, iv a1, iv a2, .int .u32 a3, iv a4, iv a5, iv a6, .slice A N c, .bool b] tHead)).alloc (.cells #[iv a0, iv a1, iv a2, .int .u32 a3, iv a4, iv a5, iv a6, .slice A' N c', .bool b] tHead)) w.heap.size tHead [iv a0, iv a1, iv a2, .int .u32 a3, iv a4, iv a5, iv a6, .slice A N c, .bool b] := (Bk.made w tHead _).alloc _
  have b2 : Bk ((w.alloc (.cells #[iv a0, iv a1, iv a2, .int .u32 a3, iv a4, iv a5, iv a6, .slice A N c, .bool b] tHead)).alloc (.cells #[iv a0, iv a1, iv a2, .int .u32 a3, iv a4, iv a5, iv a6, .slice A' N c', .bool b] tHead)) (w.heap.size + 1) tHead [iv a0, iv a1, iv a2, .int .u32 a3, iv a4, iv a5, iv a6, .slice A' N c', .bool b] := by
    have h := Bk.made (w.alloc (.cells #[iv a0, iv a1, iv a2, .int .u32 a3, iv a4, iv a5, iv a6, .slice A N c, .bool b] tHead)) tHead #[iv a0, iv a1, iv a2, .int .u32 a3, iv a4, iv a5, iv a6, .slice A' N c', .bool b]
    have e : (w.alloc (.cells #[iv a0, iv a1, iv a2, .int .u32 a3, iv a4, iv a5, iv a6, .slice A N c, .bool b] tHead)).heap.size = w.heap.size + 1 := by simp
    rwa [e] at h
  have hsm := same_is A A' N N c c' nm _ B B' (ha.keep fun i hi => hf.block i (by omega)) (hd.keep fun i hi => hf.block i (by omega)) hn rfl
  have HSM := Lib.hid hsm
  have HF := Lib.hid hf
  have c0 := b1.cell (i := 0) rfl
  have c1 := b1.cell (i := 1) rfl
  have c2 := b1.cell (i := 2) rfl
  have c3 := b1.cell (i := 3) rfl
  have c4 := b1.cell (i := 4) rfl
  have c5 := b1.cell (i := 5) rfl
  have c6 := b1.cell (i := 6) rfl
  have c7 := b1.cell (i := 7) rfl
  have c8 := b1.cell (i := 8) rfl
  have d0 := b2.cell (i := 0) rfl
  have d1 := b2.cell (i := 1) rfl
  have d2 := b2.cell (i := 2) rfl
  have d3 := b2.cell (i := 3) rfl
  have d4 := b2.cell (i := 4) rfl
  have d5 := b2.cell (i := 5) rfl
  have d6 := b2.cell (i := 6) rfl
  have d7 := b2.cell (i := 7) rfl
  have d8 := b2.cell (i := 8) rfl
  clear hsm hf b1 b2 ha hd
  go_enter Try.func8, Try.ntmps8
  go_wp2_with (go_at_call 11; ((with_reducible refine HSM.out.mono ?_); rintro e w1 ⟨rfl, hf1⟩))
  go_ret
  exact ⟨rfl, HF.out.trans hf1⟩
end Go.Proofs.Ytlnhafibcbhegaa.recp
