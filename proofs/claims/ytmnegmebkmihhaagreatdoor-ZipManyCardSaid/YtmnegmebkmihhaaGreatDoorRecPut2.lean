/-
  record's putShared, Local, Central, Behind, End: plain heads and tails. My own text.
-/
import Derived.Test.YtmnegmebkmihhaaGreatDoorRecPut
import Derived.Deep.RegionHeld3
namespace Go.Proofs.YtmnegmebkmihhaaGreatDoor.recp
open Go.RowKit Go.Proofs.YtmnegmebkmihhaaGreatDoor.base Go.Proofs.YtmnegmebkmihhaaGreatDoor.num Go.Proofs.YtmnegmebkmihhaaGreatDoor.word Go.Proofs.YtmnegmebkmihhaaGreatDoor.recn
set_option linter.unusedVariables false
theorem lt2 {a b c : Nat} (ha : a < c) (hb : b < c) : ∀ x ∈ [a, b], x < c := by
  intro x hx
  simp only [List.mem_cons, List.not_mem_nil, or_false] at hx
  rcases hx with rfl | rfl <;> assumption
theorem lt1 {a c : Nat} (ha : a < c) : ∀ x ∈ [a], x < c := by
  intro x hx
  simp only [List.mem_cons, List.not_mem_nil, or_false] at hx
  subst hx; assumption
theorem fm2 (k a b : Nat) : [a, b].flatMap (low k) = low k a ++ low k b := by simp
theorem fm1 (k a : Nat) : [a].flatMap (low k) = low k a := by simp
theorem fm3 (k a b c : Nat) : [a, b, c].flatMap (low k) = low k a ++ (low k b ++ low k c) := by simp
set_option maxRecDepth 100000 in
set_option maxHeartbeats 4000000 in
theorem putShared_plain (A : Option Addr) (n c : Nat) (bs : List UInt8) (h : Hd) (N : Option Addr) (nc k : Nat) (w : World) (hr : Rd w w.heap.size A n (bs.map bv)) (hn : n ≤ 1000) (hR : Rgt h) (hw : h.wd = false) (hk : k < 65536) :
    Calls Tryz.prog 105 #[.slice A n c, .agg (headV h N nc).toArray, .int .i64 (k : Nat)] w fun e w' => ∃ A' c', e = .returned (.slice A' (n + 24) c') ∧ Fresh w w' ∧ Own w' w.heap.size 5 A' (n + 24) c' ((bs ++ shd h k).map bv) := by
  obtain ⟨r1, r2, r3, r4, r5, r6, r7, r8⟩ := hR
  obtain ⟨fl, me, dt, cr, cs, si, at_, nm, wd⟩ := h
  simp only at hw r1 r2 r3 r4 r5 r6 r7 r8
  subst hw
  have hys : bs ++ shd ⟨fl, me, dt, cr, cs, si, at_, nm, false⟩ k = ((((bs ++ (low 2 fl ++ low 2 me)) ++ (low 4 dt ++ low 4 cr)) ++ (low 4 cs ++ low 4 si)) ++ (low 2 nm.length ++ low 2 k)) := by
    unfold shd nar
    simp only [Bool.false_eq_true, if_false, List.append_assoc]
  rw [hys]
  simp only [headV]
  generalize nm.length = L at *
  rw [if_neg (by decide)] at r6 r7 r8
  clear hys
  obtain ⟨n1, hn1⟩ : ∃ n1, n + 4 = n1 := ⟨_, rfl⟩
  obtain ⟨n2, hn2⟩ : ∃ n2, n + 12 = n2 := ⟨_, rfl⟩
  obtain ⟨n3, hn3⟩ : ∃ n3, n + 20 = n3 := ⟨_, rfl⟩
  obtain ⟨n4, hn4⟩ : ∃ n4, n + 24 = n4 := ⟨_, rfl⟩
  obtain ⟨y1, hy1⟩ : ∃ y, bs ++ (low 2 fl ++ low 2 me) = y := ⟨_, rfl⟩
  obtain ⟨y2, hy2⟩ : ∃ y, y1 ++ (low 4 dt ++ low 4 cr) = y := ⟨_, rfl⟩
  obtain ⟨y3, hy3⟩ : ∃ y, y2 ++ (low 4 cs ++ low 4 si) = y := ⟨_, rfl⟩
  obtain ⟨y4, hy4⟩ : ∃ y, y3 ++ (low 2 L ++ low 2 k) = y := ⟨_, rfl⟩
  rw [hy1, hy2, hy3, hy4, hn4]
  have p1 : ∀ (W : World) (g : Nat), Rd W W.heap.size A n (bs.map bv) → g = W.heap.size → Calls Tryz.prog 103 #[.slice A n c, .int .i64 2, .slice (some ⟨g, 0, none⟩) 2 2] (W.alloc (.cells #[iv (fl : Nat), iv (me : Nat)] tInt)) fun e w' => ∃ A' c', e = .returned (.slice A' n1 c') ∧ Fresh W w' ∧ Own w' W.heap.size 5 A' n1 c' (y1.map bv) := fun W g hR hg =>
    put_n W A n c bs 2 2 [fl, me] 2 n1 g y1 hR (lt2 (by omega) (by omega)) (by omega) rfl (by omega) rfl (by omega) (by rw [fm2, hy1]) hg
  have p2 : ∀ (W : World) (D : Option Addr) (d g base : Nat), Own W base 5 D n1 d (y1.map bv) → g = W.heap.size → Calls Tryz.prog 103 #[.slice D n1 d, .int .i64 4, .slice (some ⟨g, 0, none⟩) 2 2] (W.alloc (.cells #[iv (dt : Nat), iv (cr : Nat)] tInt)) fun e w' => ∃ A' c', e = .returned (.slice A' n2 c') ∧ Fresh W w' ∧ Own w' W.heap.size 5 A' n2 c' (y2.map bv) := fun W D d g base ho hg =>
    put_n W D n1 d y1 4 4 [dt, cr] 2 n2 g y2 ho.rd (lt2 (by omega) (by omega)) (by omega) rfl (by omega) rfl (by omega) (by rw [fm2, hy2]) hg
  have p3 : ∀ (W : World) (D : Option Addr) (d g base : Nat), Own W base 5 D n2 d (y2.map bv) → g = W.heap.size → Calls Tryz.prog 103 #[.slice D n2 d, .int .i64 4, .slice (some ⟨g, 0, none⟩) 2 2] (W.alloc (.cells #[iv (cs : Nat), iv (si : Nat)] tInt)) fun e w' => ∃ A' c', e = .returned (.slice A' n3 c') ∧ Fresh W w' ∧ Own w' W.heap.size 5 A' n3 c' (y3.map bv) := fun W D d g base ho hg =>
    put_n W D n2 d y2 4 4 [cs, si] 2 n3 g y3 ho.rd (lt2 (by omega) (by omega)) (by omega) rfl (by omega) rfl (by omega) (by rw [fm2, hy3]) hg
  have p4 : ∀ (W : World) (D : Option Addr) (d g base : Nat), Own W base 5 D n3 d (y3.map bv) → g = W.heap.size → Calls Tryz.prog 103 #[.slice D n3 d, .int .i64 2, .slice (some ⟨g, 0, none⟩) 2 2] (W.alloc (.cells #[iv (L : Nat), iv (k : Nat)] tInt)) fun e w' => ∃ A' c', e = .returned (.slice A' n4 c') ∧ Fresh W w' ∧ Own w' W.heap.size 5 A' n4 c' (y4.map bv) := fun W D d g base ho hg =>
    put_n W D n3 d y3 2 2 [L, k] 2 n4 g y4 ho.rd (lt2 (by omega) (by omega)) (by omega) rfl (by omega) rfl (by omega) (by rw [fm2, hy4]) hg
  have nn : ∀ (W : World) D m d, Calls Tryz.prog 107 #[.bool false, .slice D m d] W fun e w' => e = .returned (.slice D m d) ∧ W = w' := fun W D m d => narrow_no D m d W
  have hcr : IntKind.i64.wrap (cr : Int) = (cr : Int) := IntWalk.i64_in _ (by omega)
  have hb := Bk.made w tHead #[iv (fl : Nat), iv (me : Nat), iv (dt : Nat), .int .u32 (cr : Nat), iv (cs : Nat), iv (si : Nat), iv (at_ : Nat), .slice N L nc, .bool false]
  have hf := Fresh.alloc w (.cells #[iv (fl : Nat), iv (me : Nat), iv (dt : Nat), .int .u32 (cr : Nat), iv (cs : Nat), iv (si : Nat), iv (at_ : Nat), .slice N L nc, .bool false] tHead)
  have hr1 := hr.fresh hf
  have P1 := Lib.hid (fun g => p1 _ g hr1)
  have P2 := Lib.hid p2
  have P3 := Lib.hid p3
  have P4 := Lib.hid p4
  have NN := Lib.hid nn
  have HB := Lib.hid hb
  have HF := Lib.hid hf
  clear hb hf hr1 hr p1 p2 p3 p4 nn r1 r2 r3 r4 r5 r6 r7 r8 hk hn hn1 hn2 hn3 hn4 hy1 hy2 hy3 hy4
  go_enter Tryz.func105, Tryz.ntmps105
  go_wp2_with (first
    | (go_at_call 103; ((with_reducible refine (P1.out _ (by simp)).mono ?_); rintro e w4 ⟨A4, c4, rfl, hf5, ho5⟩; have HF5 := Lib.hid (HF.out.trans hf5); have hb5 := HB.out.fresh hf5; have k2 : w4.cell? ⟨w.heap.size, 2, none⟩ = some (iv (dt : Nat)) := hb5.cell rfl; have k3 : w4.cell? ⟨w.heap.size, 3, none⟩ = some (.int .u32 (cr : Nat)) := hb5.cell rfl; have HB5 := Lib.hid hb5; have HO5 := Lib.hid ho5; clear hf5 ho5 hb5))
    | (go_at_call 107; ((with_reducible refine (NN.out _ _ _ _).mono ?_); rintro e w1 ⟨rfl, rfl⟩))
    | (go_at_call 103; ((with_reducible refine (P2.out _ _ _ _ _ HO5.out (by simp)).mono ?_); rintro e w5 ⟨A5, c5, rfl, hf6, ho6⟩; have HF6 := Lib.hid (HF5.out.trans hf6); have hb6 := HB5.out.fresh hf6; have k4 : w5.cell? ⟨w.heap.size, 4, none⟩ = some (iv (cs : Nat)) := hb6.cell rfl; have k5 : w5.cell? ⟨w.heap.size, 5, none⟩ = some (iv (si : Nat)) := hb6.cell rfl; have k8 : w5.cell? ⟨w.heap.size, 8, none⟩ = some (.bool false) := hb6.cell rfl; have HB6 := Lib.hid hb6; have HO6 := Lib.hid ho6; clear hf6 ho6 hb6))
    | (go_at_call 103; ((with_reducible refine (P3.out _ _ _ _ _ HO6.out (by simp)).mono ?_); rintro e w6 ⟨A6, c6, rfl, hf7, ho7⟩; have HF7 := Lib.hid (HF6.out.trans hf7); have hb7 := HB6.out.fresh hf7; have k7 : w6.cell? ⟨w.heap.size, 7, none⟩ = some (.slice N L nc) := hb7.cell rfl; have HO7 := Lib.hid ho7; clear hf7 ho7 hb7))
    | (go_at_call 103; ((with_reducible refine (P4.out _ _ _ _ _ HO7.out (by simp)).mono ?_); rintro e w7 ⟨A7, c7, rfl, hf8, ho8⟩; have HF8 := Lib.hid (HF7.out.trans hf8); have hsz8 := HF7.out.size; have HO8 := Lib.hid ho8; clear hf8 ho8)))
  go_ret
  exact ⟨A7, c7, rfl, HF8.out, Own.up HO8.out hsz8⟩
end Go.Proofs.YtmnegmebkmihhaaGreatDoor.recp
