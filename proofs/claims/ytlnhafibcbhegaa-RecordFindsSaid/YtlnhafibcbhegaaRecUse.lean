/-
  The example of the law, the reference's Same: my own text.
-/
import Derived.Test.YtlnhafibcbhegaaRecFits
import Derived.Test.YtlnhafibcbhegaaLeaf
import Derived.Lib.SmallJoins
import Derived.Deep.DeepCutAuto
namespace Go.Proofs.Ytlnhafibcbhegaa.recp
open Go.RowKit Go.Proofs.Ytlnhafibcbhegaa.base Go.Proofs.Ytlnhafibcbhegaa.num Go.Proofs.Ytlnhafibcbhegaa.word Go.Proofs.Ytlnhafibcbhegaa.recn
set_option linter.unusedVariables false
abbrev tTail : TypeId := 37
theorem z_one : ∀ z ∈ ([0] : List Int), -9223372036854775808 ≤ z ∧ z ≤ 9223372036854775807 := by decide
theorem z_two : ∀ z ∈ ([0, 0] : List Int), -9223372036854775808 ≤ z ∧ z ≤ 9223372036854775807 := by decide
theorem z_wf1 : ∀ z ∈ ([0] : List Int), (Lit.int .i64 z).wf = true := by decide
theorem z_wf2 : ∀ z ∈ ([0, 0] : List Int), (Lit.int .i64 z).wf = true := by decide
theorem put_z (W : World) (A : Option Addr) (n c : Nat) (bs : List UInt8) (x : Int) (zs : List Int) (m N g : Nat) (ys : List UInt8) (h : Rd W W.heap.size A n (bs.map bv)) (hz : ∀ z ∈ zs, (Lit.int .i64 z).wf = true) (hn : n ≤ 100) (hm : zs.length = m) (hm9 : m ≤ 100) (hN : n + m * word.wide x = N) (hy : bs ++ puts (word.wide x) zs = ys) (hg : g = W.heap.size) :
    Calls Try.prog 31 #[.slice A n c, .int .i64 x, .slice (some ⟨g, 0, none⟩) m m] (W.alloc (.cells (zs.map iv).toArray tInt)) fun e w' => ∃ A' c', e = .returned (.slice A' N c') ∧ Fresh W w' ∧ Own w' W.heap.size 5 A' N c' (ys.map bv) := by
  subst hg
  have hd := Rd.lit W (zs.map iv).toArray tInt
  rw [show (zs.map iv).toArray.size = m from by simp [hm]] at hd
  refine (put_is A n c bs x _ m m zs _ W.heap.size (W.heap.size + 1) N ys (h.alloc (Nat.le_refl _) _) (by simp) hd (by simp) hz (by omega) (by omega) hN hy).mono ?_
  rintro e w' ⟨A', c', rfl, hf, ho⟩
  exact ⟨A', c', rfl, (Fresh.alloc _ _).trans hf, ⟨ho.1, ho.2.imp id fun ⟨g, cap, cur, hv, hg, r⟩ => ⟨g, cap, cur, hv, by simp at hg; omega, r⟩⟩⟩
set_option maxRecDepth 100000 in
set_option maxHeartbeats 4000000 in
theorem endZ (w : World) : Calls Try.prog 14 #[.agg #[.int .i64 0, .int .i64 0, .int .i64 0, .bool false], .int .i64 0] w fun e w' => ∃ A c, e = .returned (.tuple #[.slice A 22 c, .int .i64 0]) ∧ Fresh w w' ∧ Own w' w.heap.size 5 A 22 c (([80, 75, 5, 6, 0, 0, 0, 0, 0, 0, 0, 0, 0, 0, 0, 0, 0, 0, 0, 0, 0, 0] : List UInt8).map bv) := by
  have hb := Bk.made w tTail #[.int .i64 0, .int .i64 0, .int .i64 0, .bool false]
  have hf := Fresh.alloc w (.cells #[.int .i64 0, .int .i64 0, .int .i64 0, .bool false] tTail)
  have h2 : ∀ (W : World) (g : Nat), g = W.heap.size → Calls Try.prog 26 #[.bool false, .int .i64 2, .slice (some ⟨g, 0, none⟩) 1 1] (W.alloc (.cells #[.int .i64 0] tInt)) fun e w' => e = .returned (.bool true) ∧ Fresh (W.alloc (.cells #[.int .i64 0] tInt)) w' := fun W g hg => hg ▸ fitsN_any 2 (.inl rfl) _ 1 1 [0] _ _ (Rd.lit W #[.int .i64 0] tInt) (by simp) (by omega) z_one
  have h4 : ∀ (W : World) (g : Nat), g = W.heap.size → Calls Try.prog 26 #[.bool false, .int .i64 4, .slice (some ⟨g, 0, none⟩) 2 2] (W.alloc (.cells #[.int .i64 0, .int .i64 0] tInt)) fun e w' => e = .returned (.bool true) ∧ Fresh (W.alloc (.cells #[.int .i64 0, .int .i64 0] tInt)) w' := fun W g hg => hg ▸ fitsN_any 4 (.inr rfl) _ 2 2 [0, 0] _ _ (Rd.lit W #[.int .i64 0, .int .i64 0] tInt) (by simp) (by omega) z_two
  have h6 := fun (W : World) g hg => fits6 0 (by omega) true (by decide) W g hg
  have HB := Lib.hid hb
  have HF := Lib.hid hf
  have H2 := Lib.hid h2
  have H4 := Lib.hid h4
  have H6 := Lib.hid h6
  clear hb hf h2 h4 h6
  go_enter Try.func14, Try.ntmps14
  go_upto_region 3 with (first
    | (go_at_call 26; ((with_reducible refine (H2.out _ _ (by simp)).mono ?_); rintro e w1 ⟨rfl, hf1⟩; have HF1 := Lib.hid ((HF.out.trans (Fresh.alloc _ _)).trans hf1); have hb1 := (HB.out.fresh ((Fresh.alloc _ _).trans hf1)); have k11 : w1.cell? ⟨w.heap.size, 1, none⟩ = some (.int .i64 0) := hb1.cell rfl; have k12 : w1.cell? ⟨w.heap.size, 2, none⟩ = some (.int .i64 0) := hb1.cell rfl; have k13 : w1.cell? ⟨w.heap.size, 3, none⟩ = some (.bool false) := hb1.cell rfl; have HB1 := Lib.hid hb1; clear hf1 hb1))
    | (go_at_call 26; ((with_reducible refine (H4.out _ _ (by simp)).mono ?_); rintro e w2 ⟨rfl, hf2⟩; have HF2 := Lib.hid ((HF1.out.trans (Fresh.alloc _ _)).trans hf2); have HB2 := Lib.hid (HB1.out.fresh ((Fresh.alloc _ _).trans hf2)); clear hf2))
    | (go_at_call 30; ((with_reducible refine (H6.out _ _ (by simp)).mono ?_); rintro e w3 ⟨rfl, rfl⟩)))
  have hf3 := HF2.out.trans (Fresh.alloc w2 (.cells #[.int .i64 0] tInt))
  have hb3 := HB2.out.alloc (.cells #[.int .i64 0] tInt)
  clear k11 k12 k13
  generalize w2.alloc (.cells #[.int .i64 0] tInt) = W3 at *
  have hcv := Joins.run_convert_bytes_const_at (P := Try.prog) W3 22 5 #[.int .u8 80, .int .u8 75, .int .u8 5, .int .u8 6] 4 4 W3.heap.size rfl Try.underlying22 Try.underlying5
  have hm3 := Rd.mark W3 #[.int .u8 80, .int .u8 75, .int .u8 5, .int .u8 6] 5 (4, 5)
  have hf4 := hf3.trans (Fresh.alloc W3 (.cells #[.int .u8 80, .int .u8 75, .int .u8 5, .int .u8 6] 5 (4, 5)))
  have hb4 := hb3.alloc (.cells #[.int .u8 80, .int .u8 75, .int .u8 5, .int .u8 6] 5 (4, 5))
  have p1 : Calls Try.prog 31 #[.slice (some ⟨W3.heap.size, 0, none⟩) 4 4, .int .i64 2, .slice (some ⟨W3.heap.size + 1, 0, none⟩) 2 2] ((W3.alloc (.cells #[.int .u8 80, .int .u8 75, .int .u8 5, .int .u8 6] 5 (4, 5))).alloc (.cells #[.int .i64 0, .int .i64 0] tInt)) _ :=
    put_z (W3.alloc (.cells #[.int .u8 80, .int .u8 75, .int .u8 5, .int .u8 6] 5 (4, 5))) _ 4 4 [80, 75, 5, 6] 2 [0, 0] 2 8 _ [80, 75, 5, 6, 0, 0, 0, 0] (by rw [show (W3.alloc (.cells #[.int .u8 80, .int .u8 75, .int .u8 5, .int .u8 6] 5 (4, 5))).heap.size = W3.heap.size + 1 from by simp]; exact hm3) z_wf2 (by omega) rfl (by omega) (by decide) (by decide) (by simp)
  have p2 : ∀ (W : World) A c g base, Own W base 5 A 8 c (([80, 75, 5, 6, 0, 0, 0, 0] : List UInt8).map bv) → g = W.heap.size → Calls Try.prog 31 #[.slice A 8 c, .int .i64 2, .slice (some ⟨g, 0, none⟩) 2 2] (W.alloc (.cells #[.int .i64 0, .int .i64 0] tInt)) fun e w' => ∃ A' c', e = .returned (.slice A' 12 c') ∧ Fresh W w' ∧ Own w' W.heap.size 5 A' 12 c' (([80, 75, 5, 6, 0, 0, 0, 0, 0, 0, 0, 0] : List UInt8).map bv) := fun W A c g base h hg =>
    put_z W A 8 c _ 2 [0, 0] 2 12 g ([80, 75, 5, 6, 0, 0, 0, 0, 0, 0, 0, 0] : List UInt8) h.rd z_wf2 (by omega) rfl (by omega) (by decide) (by decide) hg
  have p3 : ∀ (W : World) A c g base, Own W base 5 A 12 c (([80, 75, 5, 6, 0, 0, 0, 0, 0, 0, 0, 0] : List UInt8).map bv) → g = W.heap.size → Calls Try.prog 31 #[.slice A 12 c, .int .i64 4, .slice (some ⟨g, 0, none⟩) 2 2] (W.alloc (.cells #[.int .i64 0, .int .i64 0] tInt)) fun e w' => ∃ A' c', e = .returned (.slice A' 20 c') ∧ Fresh W w' ∧ Own w' W.heap.size 5 A' 20 c' (([80, 75, 5, 6, 0, 0, 0, 0, 0, 0, 0, 0, 0, 0, 0, 0, 0, 0, 0, 0] : List UInt8).map bv) := fun W A c g base h hg =>
    put_z W A 12 c _ 4 [0, 0] 2 20 g ([80, 75, 5, 6, 0, 0, 0, 0, 0, 0, 0, 0, 0, 0, 0, 0, 0, 0, 0, 0] : List UInt8) h.rd z_wf2 (by omega) rfl (by omega) (by decide) (by decide) hg
  have p4 : ∀ (W : World) A c g base, Own W base 5 A 20 c (([80, 75, 5, 6, 0, 0, 0, 0, 0, 0, 0, 0, 0, 0, 0, 0, 0, 0, 0, 0] : List UInt8).map bv) → g = W.heap.size → Calls Try.prog 31 #[.slice A 20 c, .int .i64 2, .slice (some ⟨g, 0, none⟩) 1 1] (W.alloc (.cells #[.int .i64 0] tInt)) fun e w' => ∃ A' c', e = .returned (.slice A' 22 c') ∧ Fresh W w' ∧ Own w' W.heap.size 5 A' 22 c' (([80, 75, 5, 6, 0, 0, 0, 0, 0, 0, 0, 0, 0, 0, 0, 0, 0, 0, 0, 0, 0, 0] : List UInt8).map bv) := fun W A c g base h hg =>
    put_z W A 20 c _ 2 [0] 1 22 g ([80, 75, 5, 6, 0, 0, 0, 0, 0, 0, 0, 0, 0, 0, 0, 0, 0, 0, 0, 0, 0, 0] : List UInt8) h.rd z_wf1 (by omega) rfl (by omega) (by decide) (by decide) hg
  have HF4 := Lib.hid hf4
  have HB4 := Lib.hid hb4
  have P1 := Lib.hid p1
  have P2 := Lib.hid p2
  have P3 := Lib.hid p3
  have P4 := Lib.hid p4
  have n1 : ∀ (W : World) D m d, Calls Try.prog 32 #[.bool false, .slice D m d] W fun e w' => e = .returned (.slice D m d) ∧ W = w' := fun W D m d => narrow_no D m d W
  have N1 := Lib.hid n1
  clear hf3 hb3 hm3 hf4 hb4 p1 p2 p3 p4 n1 HF HB H2 H4 H6 HF1 HB1 HF2 HB2
  go_wp2_with (first
    | (go_at_call 31; ((with_reducible refine P1.out.mono ?_); rintro e w4 ⟨A4, c4, rfl, hf5, ho5⟩; clear hcv; have HF5 := Lib.hid (HF4.out.trans hf5); have HB5 := Lib.hid (HB4.out.fresh hf5); have HO5 := Lib.hid ho5; have k0 : w4.cell? ⟨w.heap.size, 0, none⟩ = some (.int .i64 0) := HB5.out.cell rfl; have k3 : w4.cell? ⟨w.heap.size, 3, none⟩ = some (.bool false) := HB5.out.cell rfl; clear hf5 ho5))
    | (go_at_call 32; ((with_reducible refine (N1.out _ _ _ _).mono ?_); rintro e w1 ⟨rfl, rfl⟩))
    | (go_at_call 31; ((with_reducible refine (P2.out _ _ _ _ _ HO5.out (by simp)).mono ?_); rintro e w5 ⟨A5, c5, rfl, hf6, ho6⟩; have HF6 := Lib.hid (HF5.out.trans hf6); have HB6 := Lib.hid (HB5.out.fresh hf6); have HO6 := Lib.hid ho6; have k1 : w5.cell? ⟨w.heap.size, 1, none⟩ = some (.int .i64 0) := HB6.out.cell rfl; have k2 : w5.cell? ⟨w.heap.size, 2, none⟩ = some (.int .i64 0) := HB6.out.cell rfl; have k3 : w5.cell? ⟨w.heap.size, 3, none⟩ = some (.bool false) := HB6.out.cell rfl; clear hf6 ho6))
    | (go_at_call 31; ((with_reducible refine (P3.out _ _ _ _ _ HO6.out (by simp)).mono ?_); rintro e w6 ⟨A6, c6, rfl, hf7, ho7⟩; have HF7 := Lib.hid (HF6.out.trans hf7); have HB7 := Lib.hid (HB6.out.fresh hf7); have HO7 := Lib.hid ho7; clear hf7 ho7))
    | (go_at_call 31; ((with_reducible refine (P4.out _ _ _ _ _ HO7.out (by simp)).mono ?_); rintro e w7 ⟨A7, c7, rfl, hf8, ho8⟩; have HF8 := Lib.hid (HF7.out.trans hf8); have HB8 := Lib.hid (HB7.out.fresh hf8); have HO8 := Lib.hid ho8; have k3 : w7.cell? ⟨w.heap.size, 3, none⟩ = some (.bool false) := HB8.out.cell rfl; have hsz8 := HF7.out.size; clear hf8 ho8)))
  go_ret2
  exact ⟨A7, c7, rfl, HF8.out, ⟨HO8.out.1, HO8.out.2.imp id fun ⟨g, cap, cur, hv, hg, r⟩ => ⟨g, cap, cur, hv, Nat.le_trans hsz8 hg, r⟩⟩⟩
end Go.Proofs.Ytlnhafibcbhegaa.recp
