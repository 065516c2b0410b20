import Derived.Test.YtmnegmebkmihhaaGreatDoorRecPut3
import Derived.Test.YtmnegmebkmihhaaGreatDoorMgTrn
import Derived.Deep.RegionHeld3
/-
  record's Central and End: plain heads and tails. My own text.
-/
namespace Go.Proofs.YtmnegmebkmihhaaGreatDoor.recp
open Go.RowKit Go.Proofs.YtmnegmebkmihhaaGreatDoor.base Go.Proofs.YtmnegmebkmihhaaGreatDoor.num Go.Proofs.YtmnegmebkmihhaaGreatDoor.word Go.Proofs.YtmnegmebkmihhaaGreatDoor.recn
set_option linter.unusedVariables false
theorem modify_mid {α : Type} (a : Array α) (x y : α) (f : α → α) : ((a.push x).push y).modify a.size f = (a.push (f x)).push y := by
  apply Array.ext
  · simp
  · intro i h1 h2
    simp only [Array.getElem_modify, Array.getElem_push]
    by_cases h : a.size = i
    · subst h
      simp
    · by_cases hi : i < a.size
      · have h3 : i < a.size + 1 := by omega
        simp [h, hi, h3]
      · have h3 : ¬ i < a.size + 1 := by omega
        simp [h3]; exact fun e => absurd e h
/-- a conversion of a constant's bytes, where another row was laid behind them -/
theorem run_convert_mid {P : Program} (w : World) (t e : TypeId) (C : Array Value) (n c g : Nat) (o : Obj) (hg : g = w.heap.size) (ht : P.underlying t = some (.slice e)) (he : P.underlying e = some (.int .u8)) :
    (convert t t (.slice (some ⟨g, 0, none⟩) n c)).run P ((w.alloc (.cells C e)).alloc o) = .ok (.slice (some ⟨g, 0, none⟩) n c) ((w.alloc (.cells C e (C.size, C.size + 1))).alloc o) := by
  subst hg
  have hat : ((w.alloc (.cells C e)).alloc o).heap[w.heap.size]? = some (.cells C e) := by
    show ((w.heap.push (.cells C e)).push o)[w.heap.size]? = _
    rw [Array.getElem?_push, if_neg (by simp), Array.getElem?_push, if_pos rfl]
  have hsh : ((w.alloc (.cells C e)).alloc o).shape? w.heap.size = some (e, C.size) := by
    unfold World.shape?
    rw [hat]
  have hfr : ∀ (k : Nat), ((w.alloc (.cells C e)).alloc o).freeze ⟨w.heap.size, k, none⟩ 1 = (w.alloc (.cells C e (k, k + 1))).alloc o := fun k => by
    unfold World.freeze
    rw [if_neg (by decide)]
    show ({ (w.alloc (.cells C e)).alloc o with heap := ((w.heap.push (.cells C e)).push o).modify w.heap.size _ } : World) = _
    rw [modify_mid]
    rfl
  simp [convert, run_underlying ht, run_underlying he, markStringish, hsh]
  exact hfr _
/-- word.Put behind a mark: the mark's row and the numbers' row in both orders -/
theorem put_mark (W : World) (c : UInt8) (d : UInt8) (x : Int) (k : Nat) (ns : List Nat) (m N g g' : Nat) (ys : List UInt8) (ha : ∀ a ∈ ns, a < 9223372036854775808) (hm : ns.length = m) (hm9 : m ≤ 100) (hk : word.wide x = k) (hN : 4 + m * k = N) (hy : [80, 75, c, d] ++ ns.flatMap (low k) = ys) (hg : g = W.heap.size) (hg' : g' = W.heap.size + 1) :
    Calls Tryz.prog 103 #[.slice (some ⟨g, 0, none⟩) 4 4, .int .i64 x, .slice (some ⟨g', 0, none⟩) m m] ((W.alloc (.cells #[.int .u8 80, .int .u8 75, .int .u8 c.toNat, .int .u8 d.toNat] 5 (4, 5))).alloc (.cells (ns.map fun a => iv (a : Nat)).toArray tInt)) fun e w' => ∃ A' c', e = .returned (.slice A' N c') ∧ Fresh W w' ∧ Own w' W.heap.size 5 A' N c' (ys.map bv) := by
  subst hg
  have hm3 := Rd.mark W #[.int .u8 80, .int .u8 75, .int .u8 c.toNat, .int .u8 d.toNat] 5 (4, 5)
  have hs : (W.alloc (.cells #[.int .u8 80, .int .u8 75, .int .u8 c.toNat, .int .u8 d.toNat] 5 (4, 5))).heap.size = W.heap.size + 1 := by simp
  refine (put_n (W.alloc (.cells #[.int .u8 80, .int .u8 75, .int .u8 c.toNat, .int .u8 d.toNat] 5 (4, 5))) _ 4 4 [80, 75, c, d] x k ns m N g' ys (by rw [hs]; exact hm3) ha (by omega) hm hm9 hk hN hy (by rw [hs]; exact hg')).mono ?_
  rintro e w' ⟨A', c', rfl, hf, ho⟩
  exact ⟨A', c', rfl, (Fresh.alloc _ _).trans hf, Own.up ho (by omega)⟩
theorem put_mark' (W : World) (c : UInt8) (d : UInt8) (x : Int) (k : Nat) (ns : List Nat) (m N g g' : Nat) (ys : List UInt8) (ha : ∀ a ∈ ns, a < 9223372036854775808) (hm : ns.length = m) (hm9 : m ≤ 100) (hk : word.wide x = k) (hN : 4 + m * k = N) (hy : [80, 75, c, d] ++ ns.flatMap (low k) = ys) (hg : g = W.heap.size + 1) (hg' : g' = W.heap.size) :
    Calls Tryz.prog 103 #[.slice (some ⟨g, 0, none⟩) 4 4, .int .i64 x, .slice (some ⟨g', 0, none⟩) m m] ((W.alloc (.cells (ns.map fun a => iv (a : Nat)).toArray tInt)).alloc (.cells #[.int .u8 80, .int .u8 75, .int .u8 c.toNat, .int .u8 d.toNat] 5 (4, 5))) fun e w' => ∃ A' c', e = .returned (.slice A' N c') ∧ Fresh W w' ∧ Own w' W.heap.size 5 A' N c' (ys.map bv) := by
  subst hg'
  have hs : (W.alloc (.cells (ns.map fun a => iv (a : Nat)).toArray tInt)).heap.size = W.heap.size + 1 := by simp
  have hm3 := Rd.mark (W.alloc (.cells (ns.map fun a => iv (a : Nat)).toArray tInt)) #[.int .u8 80, .int .u8 75, .int .u8 c.toNat, .int .u8 d.toNat] 5 (4, 5)
  have hd := Rd.lit W (ns.map fun a => iv (a : Nat)).toArray tInt
  have hsz : (ns.map fun a => iv (a : Nat)).toArray.size = m := by simp [hm]
  rw [hsz] at hd
  have hd2 : Rd (W.alloc (.cells (ns.map fun a => iv (a : Nat)).toArray tInt)) (W.heap.size + 1) (some ⟨W.heap.size, 0, none⟩) m ((ns.map fun a : Nat => (a : Int)).map iv) := by
    rw [List.map_map]; exact hd
  rw [hs] at hm3
  subst hg
  refine (put_is _ 4 4 [80, 75, c, d] x _ m m (ns.map fun a : Nat => (a : Int)) _ (W.heap.size + 2) (W.heap.size + 1) N ys hm3 (by simp) (hd2.alloc (by simp) _) (by simp) ?_ (by omega) (by omega) (by rw [hk]; exact hN) (by rw [hk, puts_nat k ns ha]; exact hy)).mono ?_
  · intro z hz
    obtain ⟨a, ha', rfl⟩ := List.mem_map.1 hz
    have := ha a ha'
    exact WalkArith.wf_i64 ⟨by omega, by omega⟩
  · rintro e w' ⟨A', c', rfl, hf, ho⟩
    exact ⟨A', c', rfl, ((Fresh.alloc _ _).trans (Fresh.alloc _ _)).trans hf, Own.up ho (by simp; omega)⟩
set_option maxRecDepth 100000 in
set_option maxHeartbeats 8000000 in
theorem central_plain (h : Hd) (A : Option Addr) (c : Nat) (hR : Rgt h) (hw : h.wd = false) (w : World) (hN : Rd w w.heap.size A h.nm.length (h.nm.map bv)) :
    Calls Tryz.prog 53 #[.agg (headV h A c).toArray] w fun e w' => ∃ A' c', e = .returned (.tuple #[.slice A' (46 + h.nm.length) c', .int .i64 0]) ∧ Fresh w w' ∧ Own w' w.heap.size 5 A' (46 + h.nm.length) c' ((cenB h).map bv) := by
  have hnl := hR.nm
  have hat := hR.at_
  rw [hw, if_neg (by decide)] at hat
  obtain ⟨V, hV⟩ : ∃ V, headV h A c = V := ⟨_, rfl⟩
  have hl : V.length = 9 := by rw [← hV]; rfl
  have v4 : V[4]? = some (iv (h.cs : Nat)) := by rw [← hV]; rfl
  have v5 : V[5]? = some (iv (h.si : Nat)) := by rw [← hV]; rfl
  have v6 : V[6]? = some (iv (h.at_ : Nat)) := by rw [← hV]; rfl
  have v7 : V[7]? = some (.slice A h.nm.length c) := by rw [← hV]; rfl
  have v8 : V[8]? = some (.bool false) := by rw [← hV, ← hw]; rfl
  obtain ⟨y1, hy1⟩ : ∃ y, ([80, 75, 1, 2] : List UInt8) ++ (low 2 20 ++ low 2 20) = y := ⟨_, rfl⟩
  obtain ⟨y2, hy2⟩ : ∃ y, y1 ++ shd h 0 = y := ⟨_, rfl⟩
  obtain ⟨y3, hy3⟩ : ∃ y, y2 ++ (low 2 0 ++ (low 2 0 ++ low 2 0)) = y := ⟨_, rfl⟩
  obtain ⟨y4, hy4⟩ : ∃ y, y3 ++ low 4 0 = y := ⟨_, rfl⟩
  obtain ⟨y5, hy5⟩ : ∃ y, y4 ++ low 4 h.at_ = y := ⟨_, rfl⟩
  have hcen : y5 ++ h.nm ++ [] = cenB h := by
    unfold cenB ver besN bes nar
    rw [hw, ← hy5, ← hy4, ← hy3, ← hy2, ← hy1]
    simp only [Bool.false_eq_true, if_false, List.append_assoc, List.append_nil]
  have m1 : ∀ W, Calls Tryz.prog 100 #[.agg V.toArray] W fun e w' => e = .returned (.bool true) ∧ Fresh W w' := fun W => by rw [← hV]; exact may_plain h A c hR hw W
  have i1 : ∀ W D m d, Calls Tryz.prog 102 #[.bool false, .slice D m d] W fun e w' => e = .returned (.slice none 0 0) ∧ W = w' := fun W D m d => item_no D m d W
  have e1 : ∀ W, Calls Tryz.prog 104 #[.bool false] W fun e w' => e = .returned (.int .i64 20) ∧ W = w' := fun W => version_no W
  have s1 : ∀ W D d base, Own W base 5 D 8 d (y1.map bv) → Calls Tryz.prog 105 #[.slice D 8 d, .agg V.toArray, .int .i64 0] W fun e w' => ∃ A' c', e = .returned (.slice A' 32 c') ∧ Fresh W w' ∧ Own w' W.heap.size 5 A' 32 c' (y2.map bv) := fun W D d base ho => by
    have := putShared_plain D 8 d y1 h A c 0 W ho.rd (by omega) hR hw (by omega)
    rw [hV, hy2] at this
    exact this
  have q2 : ∀ W D d base g, Own W base 5 D 32 d (y2.map bv) → g = W.heap.size → Calls Tryz.prog 103 #[.slice D 32 d, .int .i64 2, .slice (some ⟨g, 0, none⟩) 3 3] (W.alloc (.cells #[.int .i64 0, .int .i64 0, .int .i64 0] tInt)) fun e w' => ∃ A' c', e = .returned (.slice A' 38 c') ∧ Fresh W w' ∧ Own w' W.heap.size 5 A' 38 c' (y3.map bv) := fun W D d base g ho hg =>
    put_n W D 32 d y2 2 2 [0, 0, 0] 3 38 g y3 ho.rd (by decide) (by omega) rfl (by omega) rfl rfl (by rw [fm3, hy3]) hg
  have q3 : ∀ W D d base g, Own W base 5 D 38 d (y3.map bv) → g = W.heap.size → Calls Tryz.prog 103 #[.slice D 38 d, .int .i64 4, .slice (some ⟨g, 0, none⟩) 1 1] (W.alloc (.cells #[.int .i64 0] tInt)) fun e w' => ∃ A' c', e = .returned (.slice A' 42 c') ∧ Fresh W w' ∧ Own w' W.heap.size 5 A' 42 c' (y4.map bv) := fun W D d base g ho hg =>
    put_n W D 38 d y3 4 4 [0] 1 42 g y4 ho.rd (by decide) (by omega) rfl (by omega) rfl rfl (by rw [fm1, hy4]) hg
  have q4 : ∀ W D d base g, Own W base 5 D 42 d (y4.map bv) → g = W.heap.size → Calls Tryz.prog 103 #[.slice D 42 d, .int .i64 4, .slice (some ⟨g, 0, none⟩) 1 1] (W.alloc (.cells #[iv (h.at_ : Nat)] tInt)) fun e w' => ∃ A' c', e = .returned (.slice A' 46 c') ∧ Fresh W w' ∧ Own w' W.heap.size 5 A' 46 c' (y5.map bv) := fun W D d base g ho hg =>
    put_n W D 42 d y4 4 4 [h.at_] 1 46 g y5 ho.rd (lt1 (by omega)) (by omega) rfl (by omega) rfl rfl (by rw [fm1, hy5]) hg
  have t1 : ∀ W D d base g, Own W base 5 D 46 d (y5.map bv) → Fresh w W → g = W.heap.size → Calls Tryz.prog 106 #[.slice (some ⟨g, 0, none⟩) 3 3] (W.alloc (.cells #[.slice D 46 d, .slice A h.nm.length c, .slice none 0 0] 25)) fun e w' => ∃ A' c', e = .returned (.slice A' (46 + h.nm.length) c') ∧ Fresh W w' ∧ Own w' W.heap.size 5 A' (46 + h.nm.length) c' ((cenB h).map bv) := fun W D d base g ho hf hg =>
    concat3 W g D A none 46 h.nm.length 0 d c 0 (46 + h.nm.length) y5 h.nm [] (cenB h) ho.rd (hN.fresh hf) (Rd.nil _ _ _) rfl hcen (by omega) hg
  have nn : ∀ (W : World) D m d, Calls Tryz.prog 107 #[.bool false, .slice D m d] W fun e w' => e = .returned (.slice D m d) ∧ W = w' := fun W D m d => narrow_no D m d W
  have p1 : ∀ (W : World) (g g' : Nat), g = W.heap.size → g' = W.heap.size + 1 → Calls Tryz.prog 103 #[.slice (some ⟨g, 0, none⟩) 4 4, .int .i64 2, .slice (some ⟨g', 0, none⟩) 2 2] ((W.alloc (.cells #[.int .u8 80, .int .u8 75, .int .u8 1, .int .u8 2] 5 (4, 5))).alloc (.cells #[.int .i64 20, .int .i64 20] tInt)).drew fun e w' => ∃ A' c', e = .returned (.slice A' 8 c') ∧ Fresh W.drew w' ∧ Own w' W.heap.size 5 A' 8 c' (y1.map bv) := fun W g g' hg hg' =>
    put_mark W.drew 1 2 2 2 [20, 20] 2 8 g g' y1 (by decide) rfl (by omega) rfl rfl (by rw [fm2, hy1]) hg hg'
  have p2 : ∀ (W : World) (g g' : Nat), g = W.heap.size + 1 → g' = W.heap.size → Calls Tryz.prog 103 #[.slice (some ⟨g, 0, none⟩) 4 4, .int .i64 2, .slice (some ⟨g', 0, none⟩) 2 2] ((W.alloc (.cells #[.int .i64 20, .int .i64 20] tInt)).alloc (.cells #[.int .u8 80, .int .u8 75, .int .u8 1, .int .u8 2] 5 (4, 5))).drew fun e w' => ∃ A' c', e = .returned (.slice A' 8 c') ∧ Fresh W.drew w' ∧ Own w' W.heap.size 5 A' 8 c' (y1.map bv) := fun W g g' hg hg' =>
    put_mark' W.drew 1 2 2 2 [20, 20] 2 8 g g' y1 (by decide) rfl (by omega) rfl rfl (by rw [fm2, hy1]) hg hg'
  rw [hV]
  have hb := Bk.made w tHead V.toArray
  rw [List.toList_toArray] at hb
  have hf0 := Fresh.alloc w (.cells V.toArray tHead)
  generalize h.nm.length = L at *
  generalize h.cs = cs at *
  generalize h.si = si at *
  generalize h.at_ = at_ at *
  have HB := Lib.hid hb
  have HF := Lib.hid hf0
  have M1 := Lib.hid m1
  have I1 := Lib.hid i1
  have E1 := Lib.hid e1
  have S1 := Lib.hid s1
  have T1 := Lib.hid t1
  have Q2 := Lib.hid q2
  have Q3 := Lib.hid q3
  have Q4 := Lib.hid q4
  have NN := Lib.hid nn
  have P1 := Lib.hid p1
  have P2 := Lib.hid p2
  clear hV hb hf0 m1 i1 e1 s1 t1 q2 q3 q4 nn p1 p2 hcen hy1 hy2 hy3 hy4 hy5 hnl hN hR hw hat
  go_enter Tryz.func53, Tryz.ntmps53
  go_upto_region 4 with (first
    | ((with_reducible (refine at_slot_ 6 ?_)); refine wpList_load_whole rfl tHead (.tmp 1) rfl w.heap.size tHead V 9 hl rfl HB.out _ Tryz.underlying73 rfl size_head ?_)
    | (go_at_call 100; ((with_reducible refine (M1.out _).mono ?_); rintro e w2 ⟨rfl, hf2⟩; have HF2 := Lib.hid (HF.out.trans hf2); have hb2 := HB.out.fresh hf2; have k4 := hb2.cell v4; have k5 := hb2.cell v5; have k6 := hb2.cell v6; have k8 := hb2.cell v8; have HB2 := Lib.hid hb2; clear hf2 hb2))
    | (go_at_call 102; ((with_reducible refine (I1.out _ _ _ _).mono ?_); rintro e w3 ⟨rfl, rfl⟩)))
  have HF3 := Lib.hid (HF2.out.trans (Fresh.alloc w2 (.cells #[iv (si : Nat), iv (cs : Nat), iv (at_ : Nat)] tInt)))
  have HB3 := Lib.hid (HB2.out.alloc (.cells #[iv (si : Nat), iv (cs : Nat), iv (at_ : Nat)] tInt))
  clear k4 k5 k6 k8
  generalize w2.alloc (.cells #[iv (si : Nat), iv (cs : Nat), iv (at_ : Nat)] tInt) = W3 at *
  have hcv : (convert 25 25 (.slice (some ⟨W3.heap.size, 0, none⟩) 4 4)).run Tryz.prog (W3.alloc (.cells #[.int .u8 80, .int .u8 75, .int .u8 1, .int .u8 2] 5)).drew = .ok (.slice (some ⟨W3.heap.size, 0, none⟩) 4 4) (W3.alloc (.cells #[.int .u8 80, .int .u8 75, .int .u8 1, .int .u8 2] 5 (4, 5))).drew :=
    Joins.run_convert_bytes_const_at (P := Tryz.prog) W3.drew 25 5 #[.int .u8 80, .int .u8 75, .int .u8 1, .int .u8 2] 4 4 W3.heap.size rfl Tryz.underlying25 Tryz.underlying5
  have hcv2 : (convert 25 25 (.slice (some ⟨W3.heap.size + 1, 0, none⟩) 4 4)).run Tryz.prog ((W3.alloc (.cells #[.int .i64 20, .int .i64 20] tInt)).alloc (.cells #[.int .u8 80, .int .u8 75, .int .u8 1, .int .u8 2] 5)).drew = .ok (.slice (some ⟨W3.heap.size + 1, 0, none⟩) 4 4) ((W3.alloc (.cells #[.int .i64 20, .int .i64 20] tInt)).alloc (.cells #[.int .u8 80, .int .u8 75, .int .u8 1, .int .u8 2] 5 (4, 5))).drew :=
    Joins.run_convert_bytes_const_at (P := Tryz.prog) (W3.drew.alloc (.cells #[.int .i64 20, .int .i64 20] tInt)) 25 5 #[.int .u8 80, .int .u8 75, .int .u8 1, .int .u8 2] 4 4 (W3.heap.size + 1) (by simp) Tryz.underlying25 Tryz.underlying5
  have hcv3 : (convert 25 25 (.slice (some ⟨W3.heap.size, 0, none⟩) 4 4)).run Tryz.prog ((W3.alloc (.cells #[.int .u8 80, .int .u8 75, .int .u8 1, .int .u8 2] 5)).alloc (.cells #[.int .i64 20, .int .i64 20] tInt)).drew = .ok (.slice (some ⟨W3.heap.size, 0, none⟩) 4 4) ((W3.alloc (.cells #[.int .u8 80, .int .u8 75, .int .u8 1, .int .u8 2] 5 (4, 5))).alloc (.cells #[.int .i64 20, .int .i64 20] tInt)).drew :=
    run_convert_mid (P := Tryz.prog) W3.drew 25 5 #[.int .u8 80, .int .u8 75, .int .u8 1, .int .u8 2] 4 4 W3.heap.size _ rfl Tryz.underlying25 Tryz.underlying5
  have HW6 : Hid (((W3.alloc (.cells #[.int .u8 80, .int .u8 75, .int .u8 1, .int .u8 2] 5)).alloc (.cells #[.int .i64 20, .int .i64 20] tInt)).drew.cell? ⟨w.heap.size, 8, none⟩ = some (.bool false)) := Lib.hid ((Bk.fresh ((HB3.out.alloc _).alloc _ : Bk ((W3.alloc (.cells #[.int .u8 80, .int .u8 75, .int .u8 1, .int .u8 2] 5)).alloc (.cells #[.int .i64 20, .int .i64 20] tInt)) w.heap.size tHead V) (Fresh.drew _)).cell v8)
  have kw6 : ((W3.alloc (.cells #[.int .u8 80, .int .u8 75, .int .u8 1, .int .u8 2] 5)).alloc (.cells #[.int .i64 20, .int .i64 20] tInt)).cell? ⟨w.heap.size, 8, none⟩ = some (.bool false) := HW6.out
  have k8 := HB3.out.cell v8
  have HK8 := Lib.hid ((HB3.out.fresh (Fresh.drew W3)).cell v8)
  have HW0 : Hid ((W3.alloc (.cells #[.int .u8 80, .int .u8 75, .int .u8 1, .int .u8 2] 5)).drew.cell? ⟨w.heap.size, 8, none⟩ = some (.bool false)) := Lib.hid ((Bk.fresh (HB3.out.alloc _ : Bk (W3.alloc (.cells #[.int .u8 80, .int .u8 75, .int .u8 1, .int .u8 2] 5)) w.heap.size tHead V) (Fresh.drew _)).cell v8)
  have kw0 : (W3.alloc (.cells #[.int .u8 80, .int .u8 75, .int .u8 1, .int .u8 2] 5)).cell? ⟨w.heap.size, 8, none⟩ = some (.bool false) := HW0.out
  have HW1 : Hid ((W3.alloc (.cells #[.int .u8 80, .int .u8 75, .int .u8 1, .int .u8 2] 5 (4, 5))).drew.cell? ⟨w.heap.size, 8, none⟩ = some (.bool false)) := Lib.hid ((Bk.fresh (HB3.out.alloc _ : Bk (W3.alloc (.cells #[.int .u8 80, .int .u8 75, .int .u8 1, .int .u8 2] 5 (4, 5))) w.heap.size tHead V) (Fresh.drew _)).cell v8)
  have kw1 : (W3.alloc (.cells #[.int .u8 80, .int .u8 75, .int .u8 1, .int .u8 2] 5 (4, 5))).cell? ⟨w.heap.size, 8, none⟩ = some (.bool false) := HW1.out
  have HW2 : Hid (((W3.alloc (.cells #[.int .u8 80, .int .u8 75, .int .u8 1, .int .u8 2] 5 (4, 5))).alloc (.cells #[.int .i64 20, .int .i64 20] tInt)).drew.cell? ⟨w.heap.size, 8, none⟩ = some (.bool false)) := Lib.hid ((Bk.fresh ((HB3.out.alloc _).alloc _ : Bk ((W3.alloc (.cells #[.int .u8 80, .int .u8 75, .int .u8 1, .int .u8 2] 5 (4, 5))).alloc (.cells #[.int .i64 20, .int .i64 20] tInt)) w.heap.size tHead V) (Fresh.drew _)).cell v8)
  have kw2 : ((W3.alloc (.cells #[.int .u8 80, .int .u8 75, .int .u8 1, .int .u8 2] 5 (4, 5))).alloc (.cells #[.int .i64 20, .int .i64 20] tInt)).cell? ⟨w.heap.size, 8, none⟩ = some (.bool false) := HW2.out
  have HW3 : Hid ((W3.alloc (.cells #[.int .i64 20, .int .i64 20] tInt)).drew.cell? ⟨w.heap.size, 8, none⟩ = some (.bool false)) := Lib.hid ((Bk.fresh (HB3.out.alloc _ : Bk (W3.alloc (.cells #[.int .i64 20, .int .i64 20] tInt)) w.heap.size tHead V) (Fresh.drew _)).cell v8)
  have kw3 : (W3.alloc (.cells #[.int .i64 20, .int .i64 20] tInt)).cell? ⟨w.heap.size, 8, none⟩ = some (.bool false) := HW3.out
  have HW4 : Hid (((W3.alloc (.cells #[.int .i64 20, .int .i64 20] tInt)).alloc (.cells #[.int .u8 80, .int .u8 75, .int .u8 1, .int .u8 2] 5)).drew.cell? ⟨w.heap.size, 8, none⟩ = some (.bool false)) := Lib.hid ((Bk.fresh ((HB3.out.alloc _).alloc _ : Bk ((W3.alloc (.cells #[.int .i64 20, .int .i64 20] tInt)).alloc (.cells #[.int .u8 80, .int .u8 75, .int .u8 1, .int .u8 2] 5)) w.heap.size tHead V) (Fresh.drew _)).cell v8)
  have kw4 : ((W3.alloc (.cells #[.int .i64 20, .int .i64 20] tInt)).alloc (.cells #[.int .u8 80, .int .u8 75, .int .u8 1, .int .u8 2] 5)).cell? ⟨w.heap.size, 8, none⟩ = some (.bool false) := HW4.out
  have HW5 : Hid (((W3.alloc (.cells #[.int .i64 20, .int .i64 20] tInt)).alloc (.cells #[.int .u8 80, .int .u8 75, .int .u8 1, .int .u8 2] 5 (4, 5))).drew.cell? ⟨w.heap.size, 8, none⟩ = some (.bool false)) := Lib.hid ((Bk.fresh ((HB3.out.alloc _).alloc _ : Bk ((W3.alloc (.cells #[.int .i64 20, .int .i64 20] tInt)).alloc (.cells #[.int .u8 80, .int .u8 75, .int .u8 1, .int .u8 2] 5 (4, 5))) w.heap.size tHead V) (Fresh.drew _)).cell v8)
  have kw5 : ((W3.alloc (.cells #[.int .i64 20, .int .i64 20] tInt)).alloc (.cells #[.int .u8 80, .int .u8 75, .int .u8 1, .int .u8 2] 5 (4, 5))).cell? ⟨w.heap.size, 8, none⟩ = some (.bool false) := HW5.out
  refine wp_region_held_drew (S := fun w' => w'.cell? ⟨w.heap.size, 8, none⟩ = some (.bool false)) (by kernel_rfl) HK8.out (fun hHeld => ?_)
  repeat' (first
    | (refine wpAnyH_take (i := 2) (oi := ⟨some 21, _, _, _, _, _⟩) (v := .pointer (some ⟨w.heap.size, 8, none⟩)) rfl (by decide +kernel) (by decide +kernel) (by decide +kernel) (fun _ _ _ h => h) (Or.inl ⟨by rfl, fun w' hw' => ?_⟩) (by assumption) ?_; (· ((try dsimp only at hw'); go_simp)); (try simp only [Act.put, List.setIfInBounds_toArray, List.set_cons_zero, List.set_cons_succ]))
    | (refine wpAnyH_take (i := 3) (oi := ⟨some 22, _, _, _, _, _⟩) (v := .bool false) rfl (by decide +kernel) (by decide +kernel) (by decide +kernel) (fun _ _ _ h => h) (Or.inl ⟨by rfl, fun w' hw' => ?_⟩) (by assumption) ?_; (· ((try dsimp only at hw'); go_simp)); (try simp only [Act.put, List.setIfInBounds_toArray, List.set_cons_zero, List.set_cons_succ]))
    | (refine wpAnyH_take (i := 5) (oi := ⟨some 24, _, _, _, _, _⟩) (v := .pointer (some ⟨w.heap.size, 8, none⟩)) rfl (by decide +kernel) (by decide +kernel) (by decide +kernel) (fun _ _ _ h => h) (Or.inl ⟨by rfl, fun w' hw' => ?_⟩) (by assumption) ?_; (· ((try dsimp only at hw'); go_simp)); (try simp only [Act.put, List.setIfInBounds_toArray, List.set_cons_zero, List.set_cons_succ]))
    | (refine wpAnyH_take (i := 6) (oi := ⟨some 25, _, _, _, _, _⟩) (v := .bool false) rfl (by decide +kernel) (by decide +kernel) (by decide +kernel) (fun _ _ _ h => h) (Or.inl ⟨by rfl, fun w' hw' => ?_⟩) (by assumption) ?_; (· ((try dsimp only at hw'); go_simp)); (try simp only [Act.put, List.setIfInBounds_toArray, List.set_cons_zero, List.set_cons_succ]))
    | (refine wpAnyH_ready (rs := [0, 4, 7]) (by decide +kernel) (by simp) ?_)
    | (refine wpAnyH_ready (rs := [0, 4]) (by decide +kernel) (by simp) ?_)
    | (refine wpAnyH_ready (rs := [0, 7]) (by decide +kernel) (by simp) ?_)
    | (refine wpAnyH_ready (rs := [0, 8]) (by decide +kernel) (by simp) ?_)
    | (refine wpAnyH_ready (rs := [0]) (by decide +kernel) (by simp) ?_)
    | (refine wpAnyH_ready (rs := [1, 4, 7]) (by decide +kernel) (by simp) ?_)
    | (refine wpAnyH_ready (rs := [1, 4]) (by decide +kernel) (by simp) ?_)
    | (refine wpAnyH_ready (rs := [1, 7]) (by decide +kernel) (by simp) ?_)
    | (refine wpAnyH_ready (rs := [1, 8]) (by decide +kernel) (by simp) ?_)
    | (refine wpAnyH_ready (rs := [1]) (by decide +kernel) (by simp) ?_)
    | (refine wpAnyH_ready (rs := [4, 7]) (by decide +kernel) (by simp) ?_)
    | (refine wpAnyH_ready (rs := [4]) (by decide +kernel) (by simp) ?_)
    | (refine wpAnyH_ready (rs := [7]) (by decide +kernel) (by simp) ?_)
    | (refine wpAnyH_ready (rs := [8]) (by decide +kernel) (by simp) ?_)
    | (refine wpAnyH_ready (rs := [9]) (by decide +kernel) (by simp) ?_)
    | (refine wpAnyH_ready (rs := [10]) (by decide +kernel) (by simp) ?_)
    | (refine wpAnyH_done (by decide +kernel) ?_ _)
    | exact AllReadyH.nil
    | (refine AllReadyH.cons (o := ⟨_, _, _, _, _, _⟩) rfl (fun K hK => ?_) ?_; go_simp; (first | ((refine (E1.out _).mono ?_); rintro e w4 ⟨rfl, rfl⟩; go_wp2_with fail) | ((refine (P1.out _ _ _ (by simp) (by simp)).mono ?_); rintro e w4 ⟨A4, c4, rfl, hf5, ho5⟩; have HF5 := Lib.hid ((HF3.out.trans (Fresh.drew W3)).trans hf5); have HB5 := Lib.hid ((HB3.out.fresh (Fresh.drew W3)).fresh hf5); have HO5 := Lib.hid ho5; have HW9 := Lib.hid (HB5.out.cell v8); clear hf5 ho5; go_wp2_with fail) | ((refine (P2.out _ _ _ (by simp) (by simp)).mono ?_); rintro e w4 ⟨A4, c4, rfl, hf5, ho5⟩; have HF5 := Lib.hid ((HF3.out.trans (Fresh.drew W3)).trans hf5); have HB5 := Lib.hid ((HB3.out.fresh (Fresh.drew W3)).fresh hf5); have HO5 := Lib.hid ho5; have HW9 := Lib.hid (HB5.out.cell v8); clear hf5 ho5; go_wp2_with fail) | skip); refine hK.out _ _ ?_ (fun hHeld => ?_); (· (try dsimp only); (first | with_reducible exact k8 | with_reducible exact HK8.out | with_reducible exact HW0.out | with_reducible exact HW1.out | with_reducible exact HW2.out | with_reducible exact HW3.out | with_reducible exact HW4.out | with_reducible exact HW5.out | with_reducible exact HW6.out | with_reducible exact HW9.out | assumption)); clear hK K; (try simp only [Act.put, List.setIfInBounds_toArray, List.set_cons_zero, List.set_cons_succ])))
  all_goals clear kw0 kw1 kw2 kw3 kw4 kw5 kw6 hcv hcv2 hcv3 HW6 k8 HK8 HW0 HW1 HW2 HW3 HW4 HW5 HW9
  all_goals go_wp2_with (first
    | ((with_reducible (refine at_slot_ 30 ?_)); refine wpList_load_whole rfl tHead (.tmp 1) rfl w.heap.size tHead V 9 hl rfl HB5.out _ Tryz.underlying73 rfl size_head ?_)
    | (go_at_call 105; ((with_reducible refine (S1.out _ _ _ _ HO5.out).mono ?_); rintro e w5 ⟨A5, c5, rfl, hf6, ho6⟩; have HF6 := Lib.hid (HF5.out.trans hf6); have HB6 := Lib.hid (HB5.out.fresh hf6); have HO6 := Lib.hid ho6; clear hf6 ho6))
    | (go_at_call 103; ((with_reducible refine (Q2.out _ _ _ _ _ HO6.out (by simp)).mono ?_); rintro e w6 ⟨A6, c6, rfl, hf7, ho7⟩; have HF7 := Lib.hid (HF6.out.trans hf7); have HB7 := Lib.hid (HB6.out.fresh hf7); have HO7 := Lib.hid ho7; clear hf7 ho7))
    | (go_at_call 103; ((with_reducible refine (Q3.out _ _ _ _ _ HO7.out (by simp)).mono ?_); rintro e w7 ⟨A7, c7, rfl, hf8, ho8⟩; have HF8 := Lib.hid (HF7.out.trans hf8); have hb8 := HB7.out.fresh hf8; have k6 := hb8.cell v6; have k8 := hb8.cell v8; have HB8 := Lib.hid hb8; have HO8 := Lib.hid ho8; clear hf8 ho8 hb8))
    | (go_at_call 107; ((with_reducible refine (NN.out _ _ _ _).mono ?_); rintro e w1 ⟨rfl, rfl⟩))
    | (go_at_call 103; ((with_reducible refine (Q4.out _ _ _ _ _ HO8.out (by simp)).mono ?_); rintro e w8 ⟨A8, c8, rfl, hf9, ho9⟩; have HF9 := Lib.hid (HF8.out.trans hf9); have hb9 := HB8.out.fresh hf9; have k7 := hb9.cell v7; have HO9 := Lib.hid ho9; clear hf9 ho9 hb9))
    | (go_at_call 106; ((with_reducible refine (T1.out _ _ _ _ _ HO9.out HF9.out (by simp)).mono ?_); rintro e w9 ⟨A9, c9, rfl, hf10, ho10⟩; have HF10 := Lib.hid (HF9.out.trans hf10); have hsz10 := HF9.out.size; have HO10 := Lib.hid ho10; clear hf10 ho10)))
  all_goals go_ret2
  all_goals exact ⟨A9, c9, rfl, HF10.out, Own.up HO10.out hsz10⟩
end Go.Proofs.YtmnegmebkmihhaaGreatDoor.recp
