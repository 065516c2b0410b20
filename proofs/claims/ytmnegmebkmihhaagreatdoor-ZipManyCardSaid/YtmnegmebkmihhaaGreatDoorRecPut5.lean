/-
  record's End: plain tails. My own text.
-/
import Derived.Test.YtmnegmebkmihhaaGreatDoorRecPut3
namespace Go.Proofs.YtmnegmebkmihhaaGreatDoor.recp
open Go.RowKit Go.Proofs.YtmnegmebkmihhaaGreatDoor.base Go.Proofs.YtmnegmebkmihhaaGreatDoor.num Go.Proofs.YtmnegmebkmihhaaGreatDoor.word Go.Proofs.YtmnegmebkmihhaaGreatDoor.recn
set_option linter.unusedVariables false
set_option maxRecDepth 100000 in
set_option maxHeartbeats 8000000 in
theorem end_plain (t : Tl) (q : Nat) (hw : t.wd = false) (h1 : t.many < 65535) (h2 : t.long < 4294967295) (h3 : t.at_ < 4294967295) (h4 : q < 281474976710656) (w : World) :
    Calls Tryz.prog 55 #[.agg #[.int .i64 (t.many : Nat), .int .i64 (t.long : Nat), .int .i64 (t.at_ : Nat), .bool false], .int .i64 (q : Nat)] w fun e w' => ∃ A c, e = .returned (.tuple #[.slice A 22 c, .int .i64 0]) ∧ Fresh w w' ∧ Own w' w.heap.size 5 A 22 c ((endP t).map bv) := by
  obtain ⟨many, long, T, wd⟩ := t
  simp only at hw h1 h2 h3
  subst hw
  simp only
  obtain ⟨y1, hy1⟩ : ∃ y, ([80, 75, 5, 6] : List UInt8) ++ (low 2 0 ++ low 2 0) = y := ⟨_, rfl⟩
  obtain ⟨y2, hy2⟩ : ∃ y, y1 ++ (low 2 many ++ low 2 many) = y := ⟨_, rfl⟩
  obtain ⟨y3, hy3⟩ : ∃ y, y2 ++ (low 4 long ++ low 4 T) = y := ⟨_, rfl⟩
  obtain ⟨y4, hy4⟩ : ∃ y, y3 ++ low 2 0 = y := ⟨_, rfl⟩
  have hend : endP ⟨many, long, T, false⟩ = y4 := by
    unfold endP nar
    rw [← hy4, ← hy3, ← hy2, ← hy1]
    simp only [Bool.false_eq_true, if_false, List.append_assoc]
  rw [hend]
  have hb := Bk.made w tTail #[iv (many : Nat), iv (long : Nat), iv (T : Nat), .bool false]
  have hf := Fresh.alloc w (.cells #[iv (many : Nat), iv (long : Nat), iv (T : Nat), .bool false] tTail)
  have g2 : ∀ (W : World) (g : Nat), g = W.heap.size → Calls Tryz.prog 67 #[.bool false, .int .i64 2, .slice (some ⟨g, 0, none⟩) 1 1] (W.alloc (.cells #[iv (many : Nat)] tInt)) fun e w' => e = .returned (.bool true) ∧ Fresh W w' := fun W g hg => fitsN_row W 2 (.inl rfl) [many] 1 g (lt1 (by omega)) rfl (by omega) hg
  have g4 : ∀ (W : World) (g : Nat), g = W.heap.size → Calls Tryz.prog 67 #[.bool false, .int .i64 4, .slice (some ⟨g, 0, none⟩) 2 2] (W.alloc (.cells #[iv (long : Nat), iv (T : Nat)] tInt)) fun e w' => e = .returned (.bool true) ∧ Fresh W w' := fun W g hg => fitsN_row W 4 (.inr rfl) [long, T] 2 g (lt2 (by omega) (by omega)) rfl (by omega) hg
  have g6 : ∀ (W : World) (g : Nat), g = W.heap.size → Calls Tryz.prog 109 #[.int .i64 6, .slice (some ⟨g, 0, none⟩) 1 1] (W.alloc (.cells #[iv (q : Nat)] tInt)) fun e w' => e = .returned (.bool true) ∧ (W.alloc (.cells #[iv (q : Nat)] tInt)) = w' := fun W g hg =>
    fits_row W 6 6 [q] 1 g (lt1 (by omega)) (by omega) rfl (by omega) rfl hg
  have p2 : ∀ (W : World) A c g base, Own W base 5 A 8 c (y1.map bv) → g = W.heap.size → Calls Tryz.prog 103 #[.slice A 8 c, .int .i64 2, .slice (some ⟨g, 0, none⟩) 2 2] (W.alloc (.cells #[iv (many : Nat), iv (many : Nat)] tInt)) fun e w' => ∃ A' c', e = .returned (.slice A' 12 c') ∧ Fresh W w' ∧ Own w' W.heap.size 5 A' 12 c' (y2.map bv) := fun W A c g base h hg =>
    put_n W A 8 c y1 2 2 [many, many] 2 12 g y2 h.rd (lt2 (by omega) (by omega)) (by omega) rfl (by omega) rfl rfl (by rw [fm2, hy2]) hg
  have p3 : ∀ (W : World) A c g base, Own W base 5 A 12 c (y2.map bv) → g = W.heap.size → Calls Tryz.prog 103 #[.slice A 12 c, .int .i64 4, .slice (some ⟨g, 0, none⟩) 2 2] (W.alloc (.cells #[iv (long : Nat), iv (T : Nat)] tInt)) fun e w' => ∃ A' c', e = .returned (.slice A' 20 c') ∧ Fresh W w' ∧ Own w' W.heap.size 5 A' 20 c' (y3.map bv) := fun W A c g base h hg =>
    put_n W A 12 c y2 4 4 [long, T] 2 20 g y3 h.rd (lt2 (by omega) (by omega)) (by omega) rfl (by omega) rfl rfl (by rw [fm2, hy3]) hg
  have p4 : ∀ (W : World) A c g base, Own W base 5 A 20 c (y3.map bv) → g = W.heap.size → Calls Tryz.prog 103 #[.slice A 20 c, .int .i64 2, .slice (some ⟨g, 0, none⟩) 1 1] (W.alloc (.cells #[.int .i64 0] tInt)) fun e w' => ∃ A' c', e = .returned (.slice A' 22 c') ∧ Fresh W w' ∧ Own w' W.heap.size 5 A' 22 c' (y4.map bv) := fun W A c g base h hg =>
    put_n W A 20 c y3 2 2 [0] 1 22 g y4 h.rd (by decide) (by omega) rfl (by omega) rfl rfl (by rw [fm1, hy4]) hg
  have n1 : ∀ (W : World) D m d, Calls Tryz.prog 107 #[.bool false, .slice D m d] W fun e w' => e = .returned (.slice D m d) ∧ W = w' := fun W D m d => narrow_no D m d W
  have HB := Lib.hid hb
  have HF := Lib.hid hf
  have H2 := Lib.hid g2
  have H4 := Lib.hid g4
  have H6 := Lib.hid g6
  have HY1 := Lib.hid hy1
  have P2 := Lib.hid p2
  have P3 := Lib.hid p3
  have P4 := Lib.hid p4
  have N1 := Lib.hid n1
  clear hb hf g2 g4 g6 hy1 hy2 hy3 hy4 p2 p3 p4 n1 hend h1 h2 h3 h4
  go_enter Tryz.func55, Tryz.ntmps55
  go_upto_region 3 with (first
    | (go_at_call 67; ((with_reducible refine (H2.out _ _ (by simp)).mono ?_); rintro e w1 ⟨rfl, hf1⟩; have HF1 := Lib.hid (HF.out.trans hf1); have hb1 := HB.out.fresh hf1; have k11 : w1.cell? ⟨w.heap.size, 1, none⟩ = some (iv (long : Nat)) := hb1.cell rfl; have k12 : w1.cell? ⟨w.heap.size, 2, none⟩ = some (iv (T : Nat)) := hb1.cell rfl; have k13 : w1.cell? ⟨w.heap.size, 3, none⟩ = some (.bool false) := hb1.cell rfl; have HB1 := Lib.hid hb1; clear hf1 hb1))
    | (go_at_call 67; ((with_reducible refine (H4.out _ _ (by simp)).mono ?_); rintro e w2 ⟨rfl, hf2⟩; have HF2 := Lib.hid (HF1.out.trans hf2); have HB2 := Lib.hid (HB1.out.fresh hf2); clear hf2))
    | (go_at_call 109; ((with_reducible refine (H6.out _ _ (by simp)).mono ?_); rintro e w3 ⟨rfl, rfl⟩)))
  have hf3 := HF2.out.trans (Fresh.alloc w2 (.cells #[iv (q : Nat)] tInt))
  have hb3 := HB2.out.alloc (.cells #[iv (q : Nat)] tInt)
  clear k11 k12 k13
  generalize w2.alloc (.cells #[iv (q : Nat)] tInt) = W3 at *
  have hcv := Joins.run_convert_bytes_const_at (P := Tryz.prog) W3 25 5 #[.int .u8 80, .int .u8 75, .int .u8 5, .int .u8 6] 4 4 W3.heap.size rfl Tryz.underlying25 Tryz.underlying5
  have hm3 := Rd.mark W3 #[.int .u8 80, .int .u8 75, .int .u8 5, .int .u8 6] 5 (4, 5)
  have hf4 := hf3.trans (Fresh.alloc W3 (.cells #[.int .u8 80, .int .u8 75, .int .u8 5, .int .u8 6] 5 (4, 5)))
  have hb4 := hb3.alloc (.cells #[.int .u8 80, .int .u8 75, .int .u8 5, .int .u8 6] 5 (4, 5))
  have p1 : Calls Tryz.prog 103 #[.slice (some ⟨W3.heap.size, 0, none⟩) 4 4, .int .i64 2, .slice (some ⟨W3.heap.size + 1, 0, none⟩) 2 2] ((W3.alloc (.cells #[.int .u8 80, .int .u8 75, .int .u8 5, .int .u8 6] 5 (4, 5))).alloc (.cells #[.int .i64 0, .int .i64 0] tInt)) _ :=
    put_n (W3.alloc (.cells #[.int .u8 80, .int .u8 75, .int .u8 5, .int .u8 6] 5 (4, 5))) _ 4 4 [80, 75, 5, 6] 2 2 [0, 0] 2 8 _ y1 (by rw [show (W3.alloc (.cells #[.int .u8 80, .int .u8 75, .int .u8 5, .int .u8 6] 5 (4, 5))).heap.size = W3.heap.size + 1 from by simp]; exact hm3) (by decide) (by omega) rfl (by omega) rfl rfl (by rw [fm2]; exact HY1.out) (by simp)
  have HF4 := Lib.hid hf4
  have HB4 := Lib.hid hb4
  have P1 := Lib.hid p1
  clear hf3 hb3 hm3 hf4 hb4 p1 HF HB H2 H4 H6 HF1 HB1 HF2 HB2
  go_wp2_with (first
    | (go_at_call 103; ((with_reducible refine P1.out.mono ?_); rintro e w4 ⟨A4, c4, rfl, hf5, ho5⟩; clear hcv; have HF5 := Lib.hid (HF4.out.trans hf5); have HB5 := Lib.hid (HB4.out.fresh hf5); have HO5 := Lib.hid ho5; have k0 : w4.cell? ⟨w.heap.size, 0, none⟩ = some (iv (many : Nat)) := HB5.out.cell rfl; have k3 : w4.cell? ⟨w.heap.size, 3, none⟩ = some (.bool false) := HB5.out.cell rfl; clear hf5 ho5))
    | (go_at_call 107; ((with_reducible refine (N1.out _ _ _ _).mono ?_); rintro e w1 ⟨rfl, rfl⟩))
    | (go_at_call 103; ((with_reducible refine (P2.out _ _ _ _ _ HO5.out (by simp)).mono ?_); rintro e w5 ⟨A5, c5, rfl, hf6, ho6⟩; have HF6 := Lib.hid (HF5.out.trans hf6); have HB6 := Lib.hid (HB5.out.fresh hf6); have HO6 := Lib.hid ho6; have k1 : w5.cell? ⟨w.heap.size, 1, none⟩ = some (iv (long : Nat)) := HB6.out.cell rfl; have k2 : w5.cell? ⟨w.heap.size, 2, none⟩ = some (iv (T : Nat)) := HB6.out.cell rfl; have k3 : w5.cell? ⟨w.heap.size, 3, none⟩ = some (.bool false) := HB6.out.cell rfl; clear hf6 ho6))
    | (go_at_call 103; ((with_reducible refine (P3.out _ _ _ _ _ HO6.out (by simp)).mono ?_); rintro e w6 ⟨A6, c6, rfl, hf7, ho7⟩; have HF7 := Lib.hid (HF6.out.trans hf7); have HB7 := Lib.hid (HB6.out.fresh hf7); have HO7 := Lib.hid ho7; clear hf7 ho7))
    | (go_at_call 103; ((with_reducible refine (P4.out _ _ _ _ _ HO7.out (by simp)).mono ?_); rintro e w7 ⟨A7, c7, rfl, hf8, ho8⟩; have HF8 := Lib.hid (HF7.out.trans hf8); have HB8 := Lib.hid (HB7.out.fresh hf8); have HO8 := Lib.hid ho8; have k3 : w7.cell? ⟨w.heap.size, 3, none⟩ = some (.bool false) := HB8.out.cell rfl; have hsz8 := HF7.out.size; clear hf8 ho8)))
  go_ret2
  exact ⟨A7, c7, rfl, HF8.out, Own.up HO8.out hsz8⟩
end Go.Proofs.YtmnegmebkmihhaaGreatDoor.recp
