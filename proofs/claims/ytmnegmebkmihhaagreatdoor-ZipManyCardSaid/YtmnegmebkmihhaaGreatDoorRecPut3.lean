/-
  record's Local, Central, Behind, End: plain heads and tails. My own text.
-/
import Derived.Test.YtmnegmebkmihhaaGreatDoorRecPut2
namespace Go.Proofs.YtmnegmebkmihhaaGreatDoor.recp
open Go.RowKit Go.Proofs.YtmnegmebkmihhaaGreatDoor.base Go.Proofs.YtmnegmebkmihhaaGreatDoor.num Go.Proofs.YtmnegmebkmihhaaGreatDoor.word Go.Proofs.YtmnegmebkmihhaaGreatDoor.recn
set_option linter.unusedVariables false
theorem behind_plain (h : Hd) (A : Option Addr) (c : Nat) (hf : h.fl ≤ 65535) (hd : des h = false) (w : World) :
    Calls Tryz.prog 54 #[.agg (headV h A c).toArray] w fun e w' => e = .returned (.slice none 0 0) ∧ Fresh w w' := by
  obtain ⟨V, hV⟩ : ∃ V, headV h A c = V := ⟨_, rfl⟩
  have hl : V.length = 9 := by rw [← hV]; rfl
  have d1 : ∀ W, Calls Tryz.prog 101 #[.agg V.toArray] W fun e w' => e = .returned (.bool false) ∧ Fresh W w' := fun W => by
    have := described_any h A c hf W
    rw [hd, hV] at this
    exact this
  have D1 := Lib.hid d1
  rw [hV]
  have hb := Bk.made w tHead V.toArray
  rw [List.toList_toArray] at hb
  have HB := Lib.hid hb
  clear hV d1 hb hf hd
  go_enter Tryz.func54, Tryz.ntmps54
  go_wp2_with (first
    | ((with_reducible (refine at_slot_ 4 ?_)); refine wpList_load_whole rfl tHead (.tmp 1) rfl w.heap.size tHead V 9 hl rfl HB.out _ Tryz.underlying73 rfl size_head ?_)
    | (go_at_call 101; ((with_reducible refine (D1.out _).mono ?_); rintro e w1 ⟨rfl, hf1⟩)))
  go_ret
  exact ⟨rfl, (Fresh.alloc _ _).trans hf1⟩
/-- slices.Concat of three rows of bytes -/
theorem concat3 (W : World) (g : Nat) (A1 A2 A3 : Option Addr) (n1 n2 n3 c1 c2 c3 m : Nat) (x1 x2 x3 ys : List UInt8) (h1 : Rd W W.heap.size A1 n1 (x1.map bv)) (h2 : Rd W W.heap.size A2 n2 (x2.map bv)) (h3 : Rd W W.heap.size A3 n3 (x3.map bv)) (hm : n1 + n2 + n3 = m) (hy : x1 ++ x2 ++ x3 = ys) (hm2 : m ≤ 1073741824) (hg : g = W.heap.size) :
    Calls Tryz.prog 106 #[.slice (some ⟨g, 0, none⟩) 3 3] (W.alloc (.cells #[.slice A1 n1 c1, .slice A2 n2 c2, .slice A3 n3 c3] 25)) fun e w' => ∃ A c, e = .returned (.slice A m c) ∧ Fresh W w' ∧ Own w' W.heap.size 5 A m c (ys.map bv) := by
  subst hg
  have hb := Bk.made W 25 #[.slice A1 n1 c1, .slice A2 n2 c2, .slice A3 n3 c3]
  have hf := Fresh.alloc W (.cells #[.slice A1 n1 c1, .slice A2 n2 c2, .slice A3 n3 c3] 25)
  have hcat : catb.catL [(A1, n1, c1, x1), (A2, n2, c2, x2), (A3, n3, c3, x3)] = ys := by rw [← hy]; simp [catb.catL]
  have hl1 : x1.length = n1 := by have := h1.1; rwa [List.length_map] at this
  have hl2 : x2.length = n2 := by have := h2.1; rwa [List.length_map] at this
  have hl3 : x3.length = n3 := by have := h3.1; rwa [List.length_map] at this
  have hlen : ys.length = m := by rw [← hy, List.length_append, List.length_append]; omega
  refine (catb.concat_any W.heap.size 3 3 [(A1, n1, c1, x1), (A2, n2, c2, x2), (A3, n3, c3, x3)] _ ?_ (by simp) ?_ rfl (by omega) (by rw [hcat]; omega)).mono ?_
  · intro j r hj
    have hjl := (List.getElem?_eq_some_iff.1 hj).1
    simp only [List.length_cons, List.length_nil] at hjl
    rcases (show j = 0 ∨ j = 1 ∨ j = 2 by omega) with rfl | rfl | rfl <;> (injection hj with hj; subst hj; exact hb.cell rfl)
  · intro r hr
    simp only [List.mem_cons, List.not_mem_nil, or_false] at hr
    rcases hr with rfl | rfl | rfl
    · exact h1.fresh hf
    · exact h2.fresh hf
    · exact h3.fresh hf
  · rintro e w' ⟨A, c, rfl, ho, hf'⟩
    rw [hcat] at ho ⊢
    rw [hlen] at ho ⊢
    exact ⟨A, c, rfl, hf.trans hf', Own.up ho (by simp)⟩
set_option maxRecDepth 100000 in
set_option maxHeartbeats 4000000 in
theorem local_plain (h : Hd) (A : Option Addr) (c : Nat) (hR : Rgt h) (hw : h.wd = false) (hd : des h = false) (w : World) (hN : Rd w w.heap.size A h.nm.length (h.nm.map bv)) :
    Calls Tryz.prog 52 #[.agg (headV h A c).toArray] w fun e w' => ∃ A' c', e = .returned (.tuple #[.slice A' (30 + h.nm.length) c', .int .i64 0]) ∧ Fresh w w' ∧ Own w' w.heap.size 5 A' (30 + h.nm.length) c' ((locB h).map bv) := by
  have hnl := hR.nm
  have hfl := hR.fl
  obtain ⟨V, hV⟩ : ∃ V, headV h A c = V := ⟨_, rfl⟩
  have hl : V.length = 9 := by rw [← hV]; rfl
  have v4 : V[4]? = some (iv (h.cs : Nat)) := by rw [← hV]; rfl
  have v5 : V[5]? = some (iv (h.si : Nat)) := by rw [← hV]; rfl
  have v7 : V[7]? = some (.slice A h.nm.length c) := by rw [← hV]; rfl
  have v8 : V[8]? = some (.bool false) := by rw [← hV, ← hw]; rfl
  obtain ⟨y1, hy1⟩ : ∃ y, ([80, 75, 3, 4] : List UInt8) ++ low 2 20 = y := ⟨_, rfl⟩
  obtain ⟨y2, hy2⟩ : ∃ y, y1 ++ shd h 0 = y := ⟨_, rfl⟩
  have hloc : y2 ++ h.nm ++ [] = locB h := by
    unfold locB ver besN bes
    rw [told_no hd, hw, ← hy2, ← hy1]
    rfl
  have d1 : ∀ W, Calls Tryz.prog 101 #[.agg V.toArray] W fun e w' => e = .returned (.bool false) ∧ Fresh W w' := fun W => by
    have := described_any h A c (by omega) W
    rw [hd, hV] at this
    exact this
  have m1 : ∀ W, Calls Tryz.prog 100 #[.agg V.toArray] W fun e w' => e = .returned (.bool true) ∧ Fresh W w' := fun W => by rw [← hV]; exact may_plain h A c hR hw W
  have i1 : ∀ W D m d, Calls Tryz.prog 102 #[.bool false, .slice D m d] W fun e w' => e = .returned (.slice none 0 0) ∧ W = w' := fun W D m d => item_no D m d W
  have e1 : ∀ W, Calls Tryz.prog 104 #[.bool false] W fun e w' => e = .returned (.int .i64 20) ∧ W = w' := fun W => version_no W
  have s1 : ∀ W D d base, Own W base 5 D 6 d (y1.map bv) → Calls Tryz.prog 105 #[.slice D 6 d, .agg V.toArray, .int .i64 0] W fun e w' => ∃ A' c', e = .returned (.slice A' 30 c') ∧ Fresh W w' ∧ Own w' W.heap.size 5 A' 30 c' (y2.map bv) := fun W D d base ho => by
    have := putShared_plain D 6 d y1 h A c 0 W ho.rd (by omega) hR hw (by omega)
    rw [hV, hy2] at this
    exact this
  have t1 : ∀ W D d base g, Own W base 5 D 30 d (y2.map bv) → Fresh w W → g = W.heap.size → Calls Tryz.prog 106 #[.slice (some ⟨g, 0, none⟩) 3 3] (W.alloc (.cells #[.slice D 30 d, .slice A h.nm.length c, .slice none 0 0] 25)) fun e w' => ∃ A' c', e = .returned (.slice A' (30 + h.nm.length) c') ∧ Fresh W w' ∧ Own w' W.heap.size 5 A' (30 + h.nm.length) c' ((locB h).map bv) := fun W D d base g ho hf hg =>
    concat3 W g D A none 30 h.nm.length 0 d c 0 (30 + h.nm.length) y2 h.nm [] (locB h) ho.rd (hN.fresh hf) (Rd.nil _ _ _) rfl hloc (by omega) hg
  rw [hV]
  have hb := Bk.made w tHead V.toArray
  rw [List.toList_toArray] at hb
  have hf0 := Fresh.alloc w (.cells V.toArray tHead)
  generalize h.nm.length = L at *
  have HB := Lib.hid hb
  have HF := Lib.hid hf0
  have D1 := Lib.hid d1
  have M1 := Lib.hid m1
  have I1 := Lib.hid i1
  have E1 := Lib.hid e1
  have S1 := Lib.hid s1
  have T1 := Lib.hid t1
  have HY1 := Lib.hid hy1
  clear hV hb hf0 d1 m1 i1 e1 s1 t1 hloc hy1 hy2 hnl hfl hN hR hw hd
  go_enter Tryz.func52, Tryz.ntmps52
  go_upto_region 6 with (first
    | ((with_reducible (refine at_slot_ 6 ?_)); refine wpList_load_whole rfl tHead (.tmp 1) rfl w.heap.size tHead V 9 hl rfl HB.out _ Tryz.underlying73 rfl size_head ?_)
    | (go_at_call 100; ((with_reducible refine (M1.out _).mono ?_); rintro e w1 ⟨rfl, hf1⟩; have HF1 := Lib.hid (HF.out.trans hf1); have HB1 := Lib.hid (HB.out.fresh hf1); clear hf1))
    | ((with_reducible (refine at_slot_ 9 ?_)); refine wpList_load_whole rfl tHead (.tmp 1) rfl w.heap.size tHead V 9 hl rfl HB1.out _ Tryz.underlying73 rfl size_head ?_)
    | (go_at_call 101; ((with_reducible refine (D1.out _).mono ?_); rintro e w2 ⟨rfl, hf2⟩; have HF2 := Lib.hid (HF1.out.trans hf2); have hb2 := HB1.out.fresh hf2; have k4 := hb2.cell v4; have k5 := hb2.cell v5; have k8 := hb2.cell v8; have HB2 := Lib.hid hb2; clear hf2 hb2))
    | (go_at_call 102; ((with_reducible refine (I1.out _ _ _ _).mono ?_); rintro e w3 ⟨rfl, rfl⟩)))
  have hf3 := HF2.out.trans (Fresh.alloc w2 (.cells #[iv (h.si : Nat), iv (h.cs : Nat)] tInt))
  have hb3 := HB2.out.alloc (.cells #[iv (h.si : Nat), iv (h.cs : Nat)] tInt)
  clear k4 k5 k8
  generalize w2.alloc (.cells #[iv (h.si : Nat), iv (h.cs : Nat)] tInt) = W3 at *
  have hcv := Joins.run_convert_bytes_const_at (P := Tryz.prog) W3 25 5 #[.int .u8 80, .int .u8 75, .int .u8 3, .int .u8 4] 4 4 W3.heap.size rfl Tryz.underlying25 Tryz.underlying5
  have hm3 := Rd.mark W3 #[.int .u8 80, .int .u8 75, .int .u8 3, .int .u8 4] 5 (4, 5)
  have hf4 := hf3.trans (Fresh.alloc W3 (.cells #[.int .u8 80, .int .u8 75, .int .u8 3, .int .u8 4] 5 (4, 5)))
  have hb4 := hb3.alloc (.cells #[.int .u8 80, .int .u8 75, .int .u8 3, .int .u8 4] 5 (4, 5))
  have k8 := hb4.cell v8
  have p1 : Calls Tryz.prog 103 #[.slice (some ⟨W3.heap.size, 0, none⟩) 4 4, .int .i64 2, .slice (some ⟨W3.heap.size + 1, 0, none⟩) 1 1] ((W3.alloc (.cells #[.int .u8 80, .int .u8 75, .int .u8 3, .int .u8 4] 5 (4, 5))).alloc (.cells #[.int .i64 20] tInt)) _ :=
    put_n (W3.alloc (.cells #[.int .u8 80, .int .u8 75, .int .u8 3, .int .u8 4] 5 (4, 5))) _ 4 4 [80, 75, 3, 4] 2 2 [20] 1 6 _ y1 (by rw [show (W3.alloc (.cells #[.int .u8 80, .int .u8 75, .int .u8 3, .int .u8 4] 5 (4, 5))).heap.size = W3.heap.size + 1 from by simp]; exact hm3) (by decide) (by omega) rfl (by omega) rfl rfl (by rw [fm1]; exact HY1.out) (by simp)
  have HF4 := Lib.hid hf4
  have HB4 := Lib.hid hb4
  have P1 := Lib.hid p1
  clear hf3 hb3 hm3 hf4 hb4 p1 HF1 HB1 HF2 HB2
  go_wp2_with (first
    | (go_at_call 104; ((with_reducible refine (E1.out _).mono ?_); rintro e w3 ⟨rfl, rfl⟩))
    | (go_at_call 103; ((with_reducible refine P1.out.mono ?_); rintro e w4 ⟨A4, c4, rfl, hf5, ho5⟩; clear hcv k8; have HF5 := Lib.hid (HF4.out.trans hf5); have HB5 := Lib.hid (HB4.out.fresh hf5); have HO5 := Lib.hid ho5; clear hf5 ho5))
    | ((with_reducible (refine at_slot_ 30 ?_)); refine wpList_load_whole rfl tHead (.tmp 1) rfl w.heap.size tHead V 9 hl rfl HB5.out _ Tryz.underlying73 rfl size_head ?_)
    | (go_at_call 105; ((with_reducible refine (S1.out _ _ _ _ HO5.out).mono ?_); rintro e w5 ⟨A5, c5, rfl, hf6, ho6⟩; have HF6 := Lib.hid (HF5.out.trans hf6); have hb6 := HB5.out.fresh hf6; have k7 := hb6.cell v7; have HO6 := Lib.hid ho6; clear hf6 ho6 hb6))
    | (go_at_call 106; ((with_reducible refine (T1.out _ _ _ _ _ HO6.out HF6.out (by simp)).mono ?_); rintro e w6 ⟨A6, c6, rfl, hf7, ho7⟩; have HF7 := Lib.hid (HF6.out.trans hf7); have hsz7 := HF6.out.size; have HO7 := Lib.hid ho7; clear hf7 ho7)))
  go_ret2
  exact ⟨A6, c6, rfl, HF7.out, Own.up HO7.out hsz7⟩
end Go.Proofs.YtmnegmebkmihhaaGreatDoor.recp
