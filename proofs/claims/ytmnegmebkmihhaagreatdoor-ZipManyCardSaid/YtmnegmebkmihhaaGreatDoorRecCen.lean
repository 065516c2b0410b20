/-
  record's GetCentral: my own text.
-/
import Derived.Test.YtmnegmebkmihhaaGreatDoorRecHead
namespace Go.Proofs.YtmnegmebkmihhaaGreatDoor.recp
open Go.RowKit Go.Proofs.YtmnegmebkmihhaaGreatDoor.base Go.Proofs.YtmnegmebkmihhaaGreatDoor.num Go.Proofs.YtmnegmebkmihhaaGreatDoor.word Go.Proofs.YtmnegmebkmihhaaGreatDoor.recn
set_option linter.unusedVariables false
theorem boxes7 (w : World) (hv : List Value) :
    Bk ((((((((w.alloc (.cells hv.toArray tHead)).alloc (.cells #[.int .i64 0] tInt)).alloc (.cells #[.int .i64 0] tInt)).alloc (.cells #[.int .i64 0] tInt)).alloc (.cells #[.int .i64 0] tInt)).alloc (.cells #[.int .i64 0] tInt)).alloc (.cells #[.int .i64 0] tInt)).alloc (.cells #[.int .i64 0] tInt)) w.heap.size tHead hv ∧
    Bk ((((((((w.alloc (.cells hv.toArray tHead)).alloc (.cells #[.int .i64 0] tInt)).alloc (.cells #[.int .i64 0] tInt)).alloc (.cells #[.int .i64 0] tInt)).alloc (.cells #[.int .i64 0] tInt)).alloc (.cells #[.int .i64 0] tInt)).alloc (.cells #[.int .i64 0] tInt)).alloc (.cells #[.int .i64 0] tInt)) (w.heap.size + 1) tInt [iv 0] ∧
    Bk ((((((((w.alloc (.cells hv.toArray tHead)).alloc (.cells #[.int .i64 0] tInt)).alloc (.cells #[.int .i64 0] tInt)).alloc (.cells #[.int .i64 0] tInt)).alloc (.cells #[.int .i64 0] tInt)).alloc (.cells #[.int .i64 0] tInt)).alloc (.cells #[.int .i64 0] tInt)).alloc (.cells #[.int .i64 0] tInt)) (w.heap.size + 1 + 1) tInt [iv 0] ∧
    Bk ((((((((w.alloc (.cells hv.toArray tHead)).alloc (.cells #[.int .i64 0] tInt)).alloc (.cells #[.int .i64 0] tInt)).alloc (.cells #[.int .i64 0] tInt)).alloc (.cells #[.int .i64 0] tInt)).alloc (.cells #[.int .i64 0] tInt)).alloc (.cells #[.int .i64 0] tInt)).alloc (.cells #[.int .i64 0] tInt)) (w.heap.size + 1 + 1 + 1) tInt [iv 0] ∧
    Bk ((((((((w.alloc (.cells hv.toArray tHead)).alloc (.cells #[.int .i64 0] tInt)).alloc (.cells #[.int .i64 0] tInt)).alloc (.cells #[.int .i64 0] tInt)).alloc (.cells #[.int .i64 0] tInt)).alloc (.cells #[.int .i64 0] tInt)).alloc (.cells #[.int .i64 0] tInt)).alloc (.cells #[.int .i64 0] tInt)) (w.heap.size + 1 + 1 + 1 + 1) tInt [iv 0] ∧
    Bk ((((((((w.alloc (.cells hv.toArray tHead)).alloc (.cells #[.int .i64 0] tInt)).alloc (.cells #[.int .i64 0] tInt)).alloc (.cells #[.int .i64 0] tInt)).alloc (.cells #[.int .i64 0] tInt)).alloc (.cells #[.int .i64 0] tInt)).alloc (.cells #[.int .i64 0] tInt)).alloc (.cells #[.int .i64 0] tInt)) (w.heap.size + 1 + 1 + 1 + 1 + 1) tInt [iv 0] ∧
    Bk ((((((((w.alloc (.cells hv.toArray tHead)).alloc (.cells #[.int .i64 0] tInt)).alloc (.cells #[.int .i64 0] tInt)).alloc (.cells #[.int .i64 0] tInt)).alloc (.cells #[.int .i64 0] tInt)).alloc (.cells #[.int .i64 0] tInt)).alloc (.cells #[.int .i64 0] tInt)).alloc (.cells #[.int .i64 0] tInt)) (w.heap.size + 1 + 1 + 1 + 1 + 1 + 1) tInt [iv 0] ∧
    Bk ((((((((w.alloc (.cells hv.toArray tHead)).alloc (.cells #[.int .i64 0] tInt)).alloc (.cells #[.int .i64 0] tInt)).alloc (.cells #[.int .i64 0] tInt)).alloc (.cells #[.int .i64 0] tInt)).alloc (.cells #[.int .i64 0] tInt)).alloc (.cells #[.int .i64 0] tInt)).alloc (.cells #[.int .i64 0] tInt)) (w.heap.size + 1 + 1 + 1 + 1 + 1 + 1 + 1) tInt [iv 0] ∧
    Fresh w ((((((((w.alloc (.cells hv.toArray tHead)).alloc (.cells #[.int .i64 0] tInt)).alloc (.cells #[.int .i64 0] tInt)).alloc (.cells #[.int .i64 0] tInt)).alloc (.cells #[.int .i64 0] tInt)).alloc (.cells #[.int .i64 0] tInt)).alloc (.cells #[.int .i64 0] tInt)).alloc (.cells #[.int .i64 0] tInt)) ∧ ((((((((w.alloc (.cells hv.toArray tHead)).alloc (.cells #[.int .i64 0] tInt)).alloc (.cells #[.int .i64 0] tInt)).alloc (.cells #[.int .i64 0] tInt)).alloc (.cells #[.int .i64 0] tInt)).alloc (.cells #[.int .i64 0] tInt)).alloc (.cells #[.int .i64 0] tInt)).alloc (.cells #[.int .i64 0] tInt)).heap.size = w.heap.size + 8 := by
  have h0 := Bk.made w tHead hv.toArray
  have h1 := Bk.made (w.alloc (.cells hv.toArray tHead)) tInt #[.int .i64 0]
  have e1 : (w.alloc (.cells hv.toArray tHead)).heap.size = w.heap.size + 1 := by simp
  rw [e1] at h1
  have h2 := Bk.made ((w.alloc (.cells hv.toArray tHead)).alloc (.cells #[.int .i64 0] tInt)) tInt #[.int .i64 0]
  have e2 : ((w.alloc (.cells hv.toArray tHead)).alloc (.cells #[.int .i64 0] tInt)).heap.size = w.heap.size + 1 + 1 := by simp
  rw [e2] at h2
  have h3 := Bk.made (((w.alloc (.cells hv.toArray tHead)).alloc (.cells #[.int .i64 0] tInt)).alloc (.cells #[.int .i64 0] tInt)) tInt #[.int .i64 0]
  have e3 : (((w.alloc (.cells hv.toArray tHead)).alloc (.cells #[.int .i64 0] tInt)).alloc (.cells #[.int .i64 0] tInt)).heap.size = w.heap.size + 1 + 1 + 1 := by simp
  rw [e3] at h3
  have h4 := Bk.made ((((w.alloc (.cells hv.toArray tHead)).alloc (.cells #[.int .i64 0] tInt)).alloc (.cells #[.int .i64 0] tInt)).alloc (.cells #[.int .i64 0] tInt)) tInt #[.int .i64 0]
  have e4 : ((((w.alloc (.cells hv.toArray tHead)).alloc (.cells #[.int .i64 0] tInt)).alloc (.cells #[.int .i64 0] tInt)).alloc (.cells #[.int .i64 0] tInt)).heap.size = w.heap.size + 1 + 1 + 1 + 1 := by simp
  rw [e4] at h4
  have h5 := Bk.made (((((w.alloc (.cells hv.toArray tHead)).alloc (.cells #[.int .i64 0] tInt)).alloc (.cells #[.int .i64 0] tInt)).alloc (.cells #[.int .i64 0] tInt)).alloc (.cells #[.int .i64 0] tInt)) tInt #[.int .i64 0]
  have e5 : (((((w.alloc (.cells hv.toArray tHead)).alloc (.cells #[.int .i64 0] tInt)).alloc (.cells #[.int .i64 0] tInt)).alloc (.cells #[.int .i64 0] tInt)).alloc (.cells #[.int .i64 0] tInt)).heap.size = w.heap.size + 1 + 1 + 1 + 1 + 1 := by simp
  rw [e5] at h5
  have h6 := Bk.made ((((((w.alloc (.cells hv.toArray tHead)).alloc (.cells #[.int .i64 0] tInt)).alloc (.cells #[.int .i64 0] tInt)).alloc (.cells #[.int .i64 0] tInt)).alloc (.cells #[.int .i64 0] tInt)).alloc (.cells #[.int .i64 0] tInt)) tInt #[.int .i64 0]
  have e6 : ((((((w.alloc (.cells hv.toArray tHead)).alloc (.cells #[.int .i64 0] tInt)).alloc (.cells #[.int .i64 0] tInt)).alloc (.cells #[.int .i64 0] tInt)).alloc (.cells #[.int .i64 0] tInt)).alloc (.cells #[.int .i64 0] tInt)).heap.size = w.heap.size + 1 + 1 + 1 + 1 + 1 + 1 := by simp
  rw [e6] at h6
  have h7 := Bk.made (((((((w.alloc (.cells hv.toArray tHead)).alloc (.cells #[.int .i64 0] tInt)).alloc (.cells #[.int .i64 0] tInt)).alloc (.cells #[.int .i64 0] tInt)).alloc (.cells #[.int .i64 0] tInt)).alloc (.cells #[.int .i64 0] tInt)).alloc (.cells #[.int .i64 0] tInt)) tInt #[.int .i64 0]
  have e7 : (((((((w.alloc (.cells hv.toArray tHead)).alloc (.cells #[.int .i64 0] tInt)).alloc (.cells #[.int .i64 0] tInt)).alloc (.cells #[.int .i64 0] tInt)).alloc (.cells #[.int .i64 0] tInt)).alloc (.cells #[.int .i64 0] tInt)).alloc (.cells #[.int .i64 0] tInt)).heap.size = w.heap.size + 1 + 1 + 1 + 1 + 1 + 1 + 1 := by simp
  rw [e7] at h7
  exact ⟨(((((((h0.alloc _).alloc _).alloc _).alloc _).alloc _).alloc _).alloc _), ((((((h1.alloc _).alloc _).alloc _).alloc _).alloc _).alloc _), (((((h2.alloc _).alloc _).alloc _).alloc _).alloc _), ((((h3.alloc _).alloc _).alloc _).alloc _), (((h4.alloc _).alloc _).alloc _), ((h5.alloc _).alloc _), (h6.alloc _), h7, ((((((((Fresh.alloc _ _).trans (Fresh.alloc _ _)).trans (Fresh.alloc _ _)).trans (Fresh.alloc _ _)).trans (Fresh.alloc _ _)).trans (Fresh.alloc _ _)).trans (Fresh.alloc _ _)).trans (Fresh.alloc _ _)), by simp⟩
theorem cen_ok {xs : List UInt8} {p : Int} {ys : List UInt8} (h : bg xs p [80, 75, 1, 2] 46 = .ok ys) :
    ∃ q : Nat, p = (q : Int) ∧ q + 46 ≤ xs.length ∧ ys = (xs.drop (q + 4)).take 42 ∧ cen xs p = (if xs.length < q + 46 + nm xs (q + 28) 2 + nm xs (q + 30) 2 + nm xs (q + 32) 2 then .error 3 else
      match widn ((xs.drop (q + 46 + nm xs (q + 28) 2)).take (nm xs (q + 30) 2)) [nm xs (q + 24) 4, nm xs (q + 20) 4, nm xs (q + 42) 4] with
      | some [s', c', a'] => .ok (⟨nm xs (q + 8) 2, nm xs (q + 10) 2, nm xs (q + 12) 4, nm xs (q + 16) 4, c', s', a', (xs.drop (q + 46)).take (nm xs (q + 28) 2), isOnes (nm xs (q + 24) 4) || isOnes (nm xs (q + 20) 4) || isOnes (nm xs (q + 42) 4)⟩, q + 46 + nm xs (q + 28) 2 + nm xs (q + 30) 2 + nm xs (q + 32) 2)
      | _ => .error 4) := by
  obtain ⟨q, rfl, h1, h2, h3, h4⟩ := bg_ok h
  refine ⟨q, rfl, h3, h4, ?_⟩
  unfold cen
  rw [if_neg (by omega)]
  simp only [Int.toNat_natCast]
  rw [if_neg (by omega), if_neg (by unfold sg; rw [h1]; simp), if_neg (by omega)]
  rfl
set_option maxRecDepth 100000 in
set_option maxHeartbeats 4000000 in
theorem getCentral_any (A : Option Addr) (n c : Nat) (xs : List UInt8) (p : Int) (w : World) (B : Nat) (hr : Rd w B A n (xs.map bv)) (hB : B ≤ w.heap.size) (hc : n ≤ c) (hm : c ≤ maxLen) (hn : n ≤ 1099511627776)
    (hp1 : -9223372036854775808 ≤ p) (hp2 : p ≤ 9223372036854775807) :
    Calls Tryz.prog 70 #[.slice A n c, .int .i64 p] w (HeadIs w (cen xs p)) := by
  have hr0 := hr.alloc hB (.cells zeroV.toArray tHead)
  have hbg := begun_any A n c xs p ⟨#[80, 75, 1, 2]⟩ [80, 75, 1, 2] 46 (w.alloc (.cells zeroV.toArray tHead)) B hr0 (by simp; omega) hc hm hn hp1 hp2 rfl rfl (by omega)
  have hz := Bk.made w tHead zeroV.toArray
  have hf := Fresh.alloc w (.cells zeroV.toArray tHead)
  cases hb : bg xs p [80, 75, 1, 2] 46 with
  | error k =>
    rw [hb] at hbg
    rw [cen_err hb]
    have hk := bg_err hb
    have HB := Lib.hid hbg
    have HZ := Lib.hid hz
    have HF := Lib.hid hf
    clear hbg hz hf hb hr hr0
    go_enter Tryz.func70, Tryz.ntmps70
    go_wp2_with (first
      | (go_at_call 131; (refine (HB.out).mono ?_); rintro e w1 ⟨hf1, hE⟩; simp only at hE; subst hE; have HZ1 := Lib.hid (HZ.out.fresh hf1); have HF1 := Lib.hid (HF.out.trans hf1); clear hf1)
      | (refine wpList_store_row (o := ⟨none, _, _, _, _, _⟩) rfl tHead (.tmp 4) (.tmp 26) rfl w.heap.size zeroV.toArray rfl rfl tHead _ HZ1.out (by kernel_rfl) (by simp) (by kernel_rfl) ?_))
    exact bodyPost_ret (results_row_two (p := 4) (u := 5) (v := 6) (by kernel_rfl) _ _ w.heap.size tHead zeroV _ rfl (HZ1.out.row _) Tryz.underlying73 rfl (by kernel_rfl)) rfl ⟨HF1.out.but (Nat.le_refl _) (But.row _ _ _), rfl⟩
  | ok ys =>
    rw [hb] at hbg
    obtain ⟨q, rfl, hq, hys, hloc⟩ := cen_ok hb
    have HLOC := Lib.hid hloc
    have hly : ys.length = 42 := by rw [hys, List.length_take, List.length_drop]; omega
    have hnm : ∀ i k, 4 + i + k ≤ 42 → nm (ys.drop 4) i k = nm xs (q + 4 + (4 + i)) k := fun i k h => by rw [nm_drop, hys, nm_take _ (by omega), nm_drop]
    have HB := Lib.hid hbg
    have HZ := Lib.hid hz
    have HF := Lib.hid hf
    have HLY := Lib.hid hly
    have HNM := Lib.hid hnm
    have HYS := Lib.hid hys
    clear hbg hz hf hb hr0 hloc hly hnm hys
    go_enter Tryz.func70, Tryz.ntmps70
    go_upto_region 6 with (go_at_call 131; (refine (HB.out).mono ?_); rintro e w1 ⟨hf1, A1, c1, hE, hO1⟩; subst hE; have HZ1 := Lib.hid (HZ.out.fresh hf1); have HF1 := Lib.hid (HF.out.trans hf1); have HO1 := Lib.hid hO1; clear hf1 hO1)
    obtain ⟨b0, b1, b2, b3, b4, b5, b6, b7, hfW, hszW⟩ := boxes7 w1 [iv 0, iv 0, iv 0, .int .u32 0, iv 0, iv 0, iv 0, .slice none 0 0, .bool false]
    have hgz : w.heap.size < w1.heap.size := HZ1.out.inside
    have hra : RdA _ [w1.heap.size, w1.heap.size + 1, w1.heap.size + 1 + 1, w1.heap.size + 1 + 1 + 1, w1.heap.size + 1 + 1 + 1 + 1, w1.heap.size + 1 + 1 + 1 + 1 + 1, w1.heap.size + 1 + 1 + 1 + 1 + 1 + 1, w1.heap.size + 1 + 1 + 1 + 1 + 1 + 1 + 1] A1 ys.length (ys.map bv) := ((RdA.of_rd (S := []) HO1.out.rd (Nat.le_refl _) (by simp)).more (R := [w1.heap.size, w1.heap.size + 1, w1.heap.size + 1 + 1, w1.heap.size + 1 + 1 + 1, w1.heap.size + 1 + 1 + 1 + 1, w1.heap.size + 1 + 1 + 1 + 1 + 1, w1.heap.size + 1 + 1 + 1 + 1 + 1 + 1, w1.heap.size + 1 + 1 + 1 + 1 + 1 + 1 + 1]) (by intro i hi; simp at hi; omega)).fresh hfW
    have HZ2 := Lib.hid (HZ1.out.fresh hfW)
    have HF2 := Lib.hid (HF1.out.trans hfW)
    have hcap := HO1.out.cap
    rw [HLY.out] at hra hcap
    have hsl : (Value.slice A1 ys.length c1) = .slice A1 42 c1 := by rw [HLY.out]
    rw [hsl]
    clear hsl HZ1 HF1 HO1 hfW HB HZ HF
    generalize ((((((((w1.alloc (.cells #[.int .i64 0, .int .i64 0, .int .i64 0, .int .u32 0, .int .i64 0, .int .i64 0, .int .i64 0, .slice none 0 0, .bool false] tHead)).alloc (.cells #[.int .i64 0] tInt)).alloc (.cells #[.int .i64 0] tInt)).alloc (.cells #[.int .i64 0] tInt)).alloc (.cells #[.int .i64 0] tInt)).alloc (.cells #[.int .i64 0] tInt)).alloc (.cells #[.int .i64 0] tInt)).alloc (.cells #[.int .i64 0] tInt)) = W at *
    generalize w1.heap.size = g at *
    have hS : ∀ i ∈ [g, g + 1, g + 1 + 1, g + 1 + 1 + 1, g + 1 + 1 + 1 + 1, g + 1 + 1 + 1 + 1 + 1, g + 1 + 1 + 1 + 1 + 1 + 1, g + 1 + 1 + 1 + 1 + 1 + 1 + 1], i < W.heap.size := by intro i hi; simp at hi; omega
    have hget : Calls Tryz.prog 129 #[.slice A1 42 c1, .int .i64 2, .slice (some ⟨W.heap.size, 0, none⟩) 2 2] (W.alloc (.cells #[ptr (g + 1), ptr (g + 1)] tPtr)) (Got [g, g + 1, g + 1 + 1, g + 1 + 1 + 1, g + 1 + 1 + 1 + 1, g + 1 + 1 + 1 + 1 + 1, g + 1 + 1 + 1 + 1 + 1 + 1, g + 1 + 1 + 1 + 1 + 1 + 1 + 1] (sets (W.alloc (.cells #[ptr (g + 1), ptr (g + 1)] tPtr)) (gets 2 ys [⟨g + 1, 0, none⟩, ⟨g + 1, 0, none⟩])) 38 (ys.drop 4)) :=
      get_row A1 42 c1 2 ys [⟨g + 1, 0, none⟩, ⟨g + 1, 0, none⟩] [g, g + 1, g + 1 + 1, g + 1 + 1 + 1, g + 1 + 1 + 1 + 1, g + 1 + 1 + 1 + 1 + 1, g + 1 + 1 + 1 + 1 + 1 + 1, g + 1 + 1 + 1 + 1 + 1 + 1 + 1] 2 _ W hra hcap.1 hcap.2 (by omega) (.inl rfl) rfl rfl (by
        intro p hp
        simp only [List.mem_cons, List.not_mem_nil, or_false, or_self] at hp
        subst hp
        exact ⟨by simp, b1.wr (by simp)⟩) hS (by omega)
    have e0 : nm (ys.drop 4) 0 2 = nm xs (q + 8) 2 := HNM.out 0 2 (by omega)
    have e1 : nm (ys.drop 4) 2 2 = nm xs (q + 10) 2 := HNM.out 2 2 (by omega)
    have e2 : nm (ys.drop 4) 4 4 = nm xs (q + 12) 4 := HNM.out 4 4 (by omega)
    have e3 : nm (ys.drop 4) 8 4 = nm xs (q + 16) 4 := HNM.out 8 4 (by omega)
    have e4 : nm (ys.drop 4) 12 4 = nm xs (q + 20) 4 := HNM.out 12 4 (by omega)
    have e5 : nm (ys.drop 4) 16 4 = nm xs (q + 24) 4 := HNM.out 16 4 (by omega)
    have e6 : nm (ys.drop 4) 20 2 = nm xs (q + 28) 2 := HNM.out 20 2 (by omega)
    have e7 : nm (ys.drop 4) 22 2 = nm xs (q + 30) 2 := HNM.out 22 2 (by omega)
    have e8 : nm (ys.drop 4) 24 2 = nm xs (q + 32) 2 := HNM.out 24 2 (by omega)
    have e9 : nm (ys.drop 4) 34 4 = nm xs (q + 42) 4 := HNM.out 34 4 (by omega)
    have hnn := nm2 xs (q + 28)
    have hkk := nm2 xs (q + 30)
    have hmm := nm2 xs (q + 32)
    generalize nm xs (q + 8) 2 = fl at *
    generalize nm xs (q + 10) 2 = me at *
    generalize nm xs (q + 12) 4 = dt at *
    generalize nm xs (q + 16) 4 = cr at *
    generalize nm xs (q + 20) 4 = zc at *
    generalize nm xs (q + 24) 4 = zs at *
    generalize nm xs (q + 28) 2 = nn at *
    generalize nm xs (q + 30) 2 = kk at *
    generalize nm xs (q + 32) 2 = mm at *
    generalize nm xs (q + 42) 4 = za at *
    have hsh : ∀ W2 A2 c2, Turn [g + 1] [g + 1] W W2 → RdA W2 [g, g + 1, g + 1 + 1, g + 1 + 1 + 1, g + 1 + 1 + 1 + 1, g + 1 + 1 + 1 + 1 + 1, g + 1 + 1 + 1 + 1 + 1 + 1, g + 1 + 1 + 1 + 1 + 1 + 1 + 1] A2 38 ((ys.drop 4).map bv) → 38 ≤ c2 → c2 ≤ maxLen →
        Calls Tryz.prog 133 #[.slice A2 38 c2, ptr g, ptr (g + 1 + 1), ptr (g + 1 + 1 + 1)] W2 (SharedIs g (g + 1 + 1) (g + 1 + 1 + 1) [g, g + 1, g + 1 + 1, g + 1 + 1 + 1, g + 1 + 1 + 1 + 1, g + 1 + 1 + 1 + 1 + 1, g + 1 + 1 + 1 + 1 + 1 + 1, g + 1 + 1 + 1 + 1 + 1 + 1 + 1] (ys.drop 4) 38 (iv 0) (.slice none 0 0) (.bool false) W2) := fun W2 A2 c2 hT hr2 hc2 hm2 =>
      getShared_any A2 38 c2 (ys.drop 4) g (g + 1 + 1) (g + 1 + 1 + 1) _ _ _ _ _ _ _ _ _ _ _ _ W2 hr2 hc2 hm2 (by omega) (b0.turn hT (by simp)) (b2.turn hT (by simp <;> omega)) (b3.turn hT (by simp <;> omega)) (by omega) (by simp) (by simp) (by simp) (fun i hi => Nat.lt_of_lt_of_le (hS i hi) hT.size) (by omega)
    unfold SharedIs at hsh
    rw [e0, e1, e2, e3, e4, e5, e6, e7] at hsh
    have hTW : ∀ W2, Fresh (sets (W.alloc (.cells #[ptr (g + 1), ptr (g + 1)] tPtr)) (gets 2 ys [⟨g + 1, 0, none⟩, ⟨g + 1, 0, none⟩])) W2 → Turn [g + 1] [g + 1] W W2 := fun W2 h => turn_of (Fresh.alloc _ _) h (by intro x hx; simp [gets] at hx; rcases hx with rfl | rfl <;> simp)
    -- the third row
    have hgb : ∀ W2 W3 A3 c3, Turn [g + 1] [g + 1] W W2 → Turn [g, g + 1 + 1, g + 1 + 1 + 1] [g, g + 1 + 1, g + 1 + 1 + 1] W2 W3 → RdA W3 [g, g + 1, g + 1 + 1, g + 1 + 1 + 1, g + 1 + 1 + 1 + 1, g + 1 + 1 + 1 + 1 + 1, g + 1 + 1 + 1 + 1 + 1 + 1, g + 1 + 1 + 1 + 1 + 1 + 1 + 1] A3 (38 - 24) (((ys.drop 4).drop 24).map bv) → 38 - 24 ≤ c3 → c3 ≤ maxLen →
        Calls Tryz.prog 129 #[.slice A3 (38 - 24) c3, .int .i64 2, .slice (some ⟨W3.heap.size, 0, none⟩) 3 3] (W3.alloc (.cells #[ptr (g + 1 + 1 + 1 + 1), ptr (g + 1 + 1 + 1 + 1 + 1), ptr (g + 1 + 1 + 1 + 1 + 1 + 1)] tPtr)) (Got [g, g + 1, g + 1 + 1, g + 1 + 1 + 1, g + 1 + 1 + 1 + 1, g + 1 + 1 + 1 + 1 + 1, g + 1 + 1 + 1 + 1 + 1 + 1, g + 1 + 1 + 1 + 1 + 1 + 1 + 1] (sets (W3.alloc (.cells #[ptr (g + 1 + 1 + 1 + 1), ptr (g + 1 + 1 + 1 + 1 + 1), ptr (g + 1 + 1 + 1 + 1 + 1 + 1)] tPtr)) (gets 2 ((ys.drop 4).drop 24) [⟨g + 1 + 1 + 1 + 1, 0, none⟩, ⟨g + 1 + 1 + 1 + 1 + 1, 0, none⟩, ⟨g + 1 + 1 + 1 + 1 + 1 + 1, 0, none⟩])) 8 (((ys.drop 4).drop 24).drop 6)) := fun W2 W3 A3 c3 hT2 hT3 hr3 hc3 hm3 =>
      get_row A3 (38 - 24) c3 2 ((ys.drop 4).drop 24) [⟨g + 1 + 1 + 1 + 1, 0, none⟩, ⟨g + 1 + 1 + 1 + 1 + 1, 0, none⟩, ⟨g + 1 + 1 + 1 + 1 + 1 + 1, 0, none⟩] [g, g + 1, g + 1 + 1, g + 1 + 1 + 1, g + 1 + 1 + 1 + 1, g + 1 + 1 + 1 + 1 + 1, g + 1 + 1 + 1 + 1 + 1 + 1, g + 1 + 1 + 1 + 1 + 1 + 1 + 1] 3 _ W3 hr3 hc3 hm3 (by omega) (.inl rfl) rfl rfl (by
        intro p hp
        simp only [List.mem_cons, List.not_mem_nil, or_false] at hp
        rcases hp with rfl | rfl | rfl
        · exact ⟨by simp, ((b4.turn hT2 (by simp <;> omega)).turn hT3 (by simp <;> omega)).wr (by simp)⟩
        · exact ⟨by simp, ((b5.turn hT2 (by simp <;> omega)).turn hT3 (by simp <;> omega)).wr (by simp)⟩
        · exact ⟨by simp, ((b6.turn hT2 (by simp <;> omega)).turn hT3 (by simp <;> omega)).wr (by simp)⟩) (fun i hi => Nat.lt_of_lt_of_le (hS i hi) (Nat.le_trans hT2.size hT3.size)) (by omega)
    have hgc : ∀ W2 W3 W4 A4 c4, Turn [g + 1] [g + 1] W W2 → Turn [g, g + 1 + 1, g + 1 + 1 + 1] [g, g + 1 + 1, g + 1 + 1 + 1] W2 W3 → Bk W3 g tHead [iv (fl : Nat), iv (me : Nat), iv (dt : Nat), .int .u32 (cr : Nat), iv (zc : Nat), iv (zs : Nat), iv 0, .slice none 0 0, .bool false] →
        Fresh (sets (W3.alloc (.cells #[ptr (g + 1 + 1 + 1 + 1), ptr (g + 1 + 1 + 1 + 1 + 1), ptr (g + 1 + 1 + 1 + 1 + 1 + 1)] tPtr)) (gets 2 ((ys.drop 4).drop 24) [⟨g + 1 + 1 + 1 + 1, 0, none⟩, ⟨g + 1 + 1 + 1 + 1 + 1, 0, none⟩, ⟨g + 1 + 1 + 1 + 1 + 1 + 1, 0, none⟩])) W4 → RdA W4 [g, g + 1, g + 1 + 1, g + 1 + 1 + 1, g + 1 + 1 + 1 + 1, g + 1 + 1 + 1 + 1 + 1, g + 1 + 1 + 1 + 1 + 1 + 1, g + 1 + 1 + 1 + 1 + 1 + 1 + 1] A4 8 ((((ys.drop 4).drop 24).drop 6).map bv) → 8 ≤ c4 → c4 ≤ maxLen →
        Calls Tryz.prog 129 #[.slice A4 8 c4, .int .i64 4, .slice (some ⟨W4.heap.size, 0, none⟩) 2 2] (W4.alloc (.cells #[ptr (g + 1 + 1 + 1 + 1 + 1 + 1 + 1), ptrA ⟨g, 6, none⟩] tPtr)) (Got [g, g + 1, g + 1 + 1, g + 1 + 1 + 1, g + 1 + 1 + 1 + 1, g + 1 + 1 + 1 + 1 + 1, g + 1 + 1 + 1 + 1 + 1 + 1, g + 1 + 1 + 1 + 1 + 1 + 1 + 1] (sets (W4.alloc (.cells #[ptr (g + 1 + 1 + 1 + 1 + 1 + 1 + 1), ptrA ⟨g, 6, none⟩] tPtr)) (gets 4 (((ys.drop 4).drop 24).drop 6) [⟨g + 1 + 1 + 1 + 1 + 1 + 1 + 1, 0, none⟩, ⟨g, 6, none⟩])) 0 ((((ys.drop 4).drop 24).drop 6).drop 8)) := fun W2 W3 W4 A4 c4 hT2 hT3 hg3 hf4 hr4 hc4 hm4 =>
      have hT4 : Turn [g + 1 + 1 + 1 + 1, g + 1 + 1 + 1 + 1 + 1, g + 1 + 1 + 1 + 1 + 1 + 1] [g + 1 + 1 + 1 + 1, g + 1 + 1 + 1 + 1 + 1, g + 1 + 1 + 1 + 1 + 1 + 1] W3 W4 := turn_of (Fresh.alloc _ _) hf4 (by intro x hx; simp [gets] at hx; rcases hx with rfl | rfl | rfl <;> simp)
      get_row A4 8 c4 4 (((ys.drop 4).drop 24).drop 6) [⟨g + 1 + 1 + 1 + 1 + 1 + 1 + 1, 0, none⟩, ⟨g, 6, none⟩] [g, g + 1, g + 1 + 1, g + 1 + 1 + 1, g + 1 + 1 + 1 + 1, g + 1 + 1 + 1 + 1 + 1, g + 1 + 1 + 1 + 1 + 1 + 1, g + 1 + 1 + 1 + 1 + 1 + 1 + 1] 2 _ W4 hr4 hc4 hm4 (by omega) (.inr rfl) rfl rfl (by
        intro p hp
        simp only [List.mem_cons, List.not_mem_nil, or_false] at hp
        rcases hp with rfl | rfl
        · exact ⟨by simp, (((b7.turn hT2 (by simp <;> omega)).turn hT3 (by simp <;> omega)).turn hT4 (by simp <;> omega)).wr (by simp)⟩
        · exact ⟨by simp, (hg3.turn hT4 (by simp <;> omega)).wr (by simp)⟩) (fun i hi => Nat.lt_of_lt_of_le (hS i hi) (Nat.le_trans (Nat.le_trans hT2.size hT3.size) hT4.size)) (by omega)
    have f8 : nm ((ys.drop 4).drop 24) (0 * 2) 2 = mm := by rw [nm_drop]; exact e8
    have f9 : nm (((ys.drop 4).drop 24).drop 6) (1 * 4) 4 = za := by rw [nm_drop, nm_drop]; exact e9
    have hWw : Fresh w W := HF2.out
    have hlast : ∀ W2 W3 W4 W5, Turn [g + 1] [g + 1] W W2 → Turn [g, g + 1 + 1, g + 1 + 1 + 1] [g, g + 1 + 1, g + 1 + 1 + 1] W2 W3 → Bk W3 g tHead [iv (fl : Nat), iv (me : Nat), iv (dt : Nat), .int .u32 (cr : Nat), iv (zc : Nat), iv (zs : Nat), iv 0, .slice none 0 0, .bool false] → Bk W3 (g + 1 + 1) tInt [iv (nn : Nat)] → Bk W3 (g + 1 + 1 + 1) tInt [iv (kk : Nat)] →
        Fresh (sets (W3.alloc (.cells #[ptr (g + 1 + 1 + 1 + 1), ptr (g + 1 + 1 + 1 + 1 + 1), ptr (g + 1 + 1 + 1 + 1 + 1 + 1)] tPtr)) (gets 2 ((ys.drop 4).drop 24) [⟨g + 1 + 1 + 1 + 1, 0, none⟩, ⟨g + 1 + 1 + 1 + 1 + 1, 0, none⟩, ⟨g + 1 + 1 + 1 + 1 + 1 + 1, 0, none⟩])) W4 → Fresh (sets (W4.alloc (.cells #[ptr (g + 1 + 1 + 1 + 1 + 1 + 1 + 1), ptrA ⟨g, 6, none⟩] tPtr)) (gets 4 (((ys.drop 4).drop 24).drop 6) [⟨g + 1 + 1 + 1 + 1 + 1 + 1 + 1, 0, none⟩, ⟨g, 6, none⟩])) W5 →
        Bk W5 w.heap.size tHead zeroV ∧ Fresh w W5 ∧ Bk W5 g tHead [iv (fl : Nat), iv (me : Nat), iv (dt : Nat), .int .u32 (cr : Nat), iv (zc : Nat), iv (zs : Nat), iv (za : Nat), .slice none 0 0, .bool false] ∧ Bk W5 (g + 1 + 1) tInt [iv (nn : Nat)] ∧ Bk W5 (g + 1 + 1 + 1) tInt [iv (kk : Nat)] ∧ Bk W5 (g + 1 + 1 + 1 + 1) tInt [iv (mm : Nat)] ∧ Rd W5 B A n (xs.map bv) := by
      intro W2 W3 W4 W5 hT2 hT3 hg3 ha3 hb3 hf4 hf5
      have hT4 : Turn [g + 1 + 1 + 1 + 1, g + 1 + 1 + 1 + 1 + 1, g + 1 + 1 + 1 + 1 + 1 + 1] [g + 1 + 1 + 1 + 1, g + 1 + 1 + 1 + 1 + 1, g + 1 + 1 + 1 + 1 + 1 + 1] W3 W4 := turn_of (Fresh.alloc _ _) hf4 (by intro x hx; simp [gets] at hx; rcases hx with rfl | rfl | rfl <;> simp)
      have hT5 : Turn [g + 1 + 1 + 1 + 1 + 1 + 1 + 1, g] [g + 1 + 1 + 1 + 1 + 1 + 1 + 1, g] W4 W5 := turn_of (Fresh.alloc _ _) hf5 (by intro x hx; simp [gets] at hx; rcases hx with rfl | rfl <;> simp)
      have hall : Turn [g, g + 1, g + 1 + 1, g + 1 + 1 + 1, g + 1 + 1 + 1 + 1, g + 1 + 1 + 1 + 1 + 1, g + 1 + 1 + 1 + 1 + 1 + 1, g + 1 + 1 + 1 + 1 + 1 + 1 + 1] [g, g + 1, g + 1 + 1, g + 1 + 1 + 1, g + 1 + 1 + 1 + 1, g + 1 + 1 + 1 + 1 + 1, g + 1 + 1 + 1 + 1 + 1 + 1, g + 1 + 1 + 1 + 1 + 1 + 1 + 1] W W5 := (((hT2.wide (by simp)).trans (hT3.wide (by simp))).trans (hT4.wide (by simp))).trans (hT5.wide (by simp))
      have hfr : Fresh w W5 := hall.new hWw (by intro i hi; simp at hi; omega)
      refine ⟨HZ2.out.turn hall (by simp; omega), hfr, ?_, (ha3.turn hT4 (by simp <;> omega)).turn hT5 (by simp <;> omega), (hb3.turn hT4 (by simp <;> omega)).turn hT5 (by simp <;> omega), ?_, hr.keep fun i hi => hfr.block i (by omega)⟩
      · rw [← f9]
        exact ((((hg3.turn hT4 (by simp <;> omega)).alloc _).apart (p := ⟨g + 1 + 1 + 1 + 1 + 1 + 1 + 1, 0, none⟩) (by simp <;> omega) _).put 6 _).fresh hf5
      · rw [← f8]
        have h4 := b4.turn hT2 (by simp <;> omega)
        have h4' := (((((h4.turn hT3 (by simp <;> omega)).alloc (.cells #[ptr (g + 1 + 1 + 1 + 1), ptr (g + 1 + 1 + 1 + 1 + 1), ptr (g + 1 + 1 + 1 + 1 + 1 + 1)] tPtr)).put 0 _).apart (p := ⟨g + 1 + 1 + 1 + 1 + 1, 0, none⟩) (by simp <;> omega) _).apart (p := ⟨g + 1 + 1 + 1 + 1 + 1 + 1, 0, none⟩) (by simp <;> omega) _).fresh hf4
        exact h4'.turn hT5 (by simp <;> omega)
    have HGET := Lib.hid hget
    have HSH := Lib.hid hsh
    have HTW := Lib.hid hTW
    have HGETB := Lib.hid hgb
    have HGETC := Lib.hid hgc
    have HLAST := Lib.hid hlast
    have HSZ := Lib.hid hszW
    have hlx : xs.length = n := by have := hr.1; rwa [List.length_map] at this
    have HLX := Lib.hid hlx
    have hqn : q + 46 ≤ n := by omega
    have hmn : n ≤ maxLen := by unfold maxLen; omega
    have HMN : RowKit.Hid (n ≤ maxLen) := hmn
    clear hget hsh hTW hgb hgc hlast hS e0 e1 e2 e3 e4 e5 e6 e7 e8 e9 f8 f9 HNM b0 b1 b2 b3 b4 b5 b6 b7 hra hcap hszW hWw hr hlx hmn HF2 HZ2
    by_cases hlen : xs.length < q + 46 + nn + kk + mm
    · have hs1 : (n : Int) - ((q : Int) + 46) < (nn : Int) + (kk : Int) + (mm : Int) := by have := HLX.out; omega
      go_wp2_with (first
        | (go_at_call 129; ((with_reducible refine HGET.out.mono ?_); rintro e w2 ⟨A2, c2, rfl, hc2, hm2, hf2, hr2⟩; have hT2 := HTW.out w2 hf2; have HS2 := Lib.hid (HSH.out w2 A2 c2 hT2 hr2 hc2 hm2); have HT2 := Lib.hid hT2; clear hf2 hr2 hT2 hm2))
        | (go_at_call 133; ((with_reducible refine HS2.out.mono ?_); rintro e w3 ⟨A3, c3, rfl, hc3, hm3, hr3, hT3, hg3, ha3, hb3⟩; have HG5X := Lib.hid (HGETB.out w2 w3 A3 c3 HT2.out hT3 hr3 hc3 hm3); have HT3 := Lib.hid hT3; have HG3 := Lib.hid hg3; have HA3 := Lib.hid ha3; have HB3 := Lib.hid hb3; clear hm3 hr3 hT3 hg3 ha3 hb3))
        | (go_at_call 129; ((with_reducible refine HG5X.out.mono ?_); rintro e w3b ⟨A3b, c3b, rfl, hc3b, hm3b, hf3b, hr3b⟩; have HG6X := Lib.hid (HGETC.out w2 w3 w3b A3b c3b HT2.out HT3.out HG3.out hf3b hr3b hc3b hm3b); have HF3B := Lib.hid hf3b; clear hf3b hr3b hm3b))
        | (go_at_call 129; ((with_reducible refine HG6X.out.mono ?_); rintro e w3c ⟨A3c, c3c, rfl, hc3c, hm3c, hf3c, hr3c⟩; obtain ⟨hz3, hfr3, hg3c, ha3c, hb3c, hd3c, hrd3⟩ := HLAST.out w2 w3 w3b w3c HT2.out HT3.out HG3.out HA3.out HB3.out HF3B.out hf3c; have k2 : w3c.cell? ⟨g + 1 + 1, 0, none⟩ = some (iv (nn : Nat)) := ha3c.cell rfl; have k3 : w3c.cell? ⟨g + 1 + 1 + 1, 0, none⟩ = some (iv (kk : Nat)) := hb3c.cell rfl; have k4 : w3c.cell? ⟨g + 1 + 1 + 1 + 1, 0, none⟩ = some (iv (mm : Nat)) := hd3c.cell rfl; have HZ3 := Lib.hid hz3; have HFR3 := Lib.hid hfr3; have HG3C := Lib.hid hg3c; have HA3C := Lib.hid ha3c; have HB3C := Lib.hid hb3c; have HRD3 := Lib.hid hrd3; clear hz3 hfr3 hg3c ha3c hb3c hd3c hrd3 hf3c hr3c hm3c))
        | (go_at_call 134; ((with_reducible refine (cut_end _ _ _ _ _ _ HMN.out (by omega) (by omega) (by omega) hs1).mono ?_); rintro e w4 ⟨rfl, rfl⟩))
        | (refine wpList_store_row (o := ⟨none, _, _, _, _, _⟩) rfl tHead (.tmp 4) (.tmp 54) rfl w.heap.size zeroV.toArray rfl rfl tHead _ HZ3.out (by kernel_rfl) (by simp) (by kernel_rfl) ?_))
      exact bodyPost_ret (results_row_two (p := 4) (u := 5) (v := 6) (by kernel_rfl) _ _ w.heap.size tHead zeroV _ rfl (HZ3.out.row _) Tryz.underlying73 rfl (by kernel_rfl)) rfl ⟨HFR3.out.but (Nat.le_refl _) (But.row _ _ _), by rw [HLOC.out, if_pos hlen]; rfl⟩
    · have hwd := wd_len [zs, zc, za]
      have hcut : ∀ W3, Rd W3 B A n (xs.map bv) → B ≤ W3.heap.size → Calls Tryz.prog 134 #[.slice A n c, .int .i64 ((q : Int) + 46), .int .i64 ((nn : Int) + (kk : Int) + (mm : Int))] W3 fun e w' =>
          ∃ A' c', e = .returned (.tuple #[.slice A' (nn + kk + mm) c', .int .i64 0]) ∧ Fresh W3 w' ∧ Own w' W3.heap.size 5 A' (nn + kk + mm) c' (((xs.drop (q + 46)).take (nn + kk + mm)).map bv) := fun W3 h hB3 =>
        cut_is A n c xs _ ((q : Int) + 46) ((nn : Int) + (kk : Int) + (mm : Int)) (nn + kk + mm) W3 B h hB3 hc hm (by omega) (by simp) (by rw [show ((q : Int) + 46).toNat = q + 46 from by omega]; have := HLX.out; omega) hn (by rw [show ((q : Int) + 46).toNat = q + 46 from by omega])
      have HCUT := Lib.hid hcut
      clear hcut
      go_upto_region 11 with (first
        | (go_at_call 129; ((with_reducible refine HGET.out.mono ?_); rintro e w2 ⟨A2, c2, rfl, hc2, hm2, hf2, hr2⟩; have hT2 := HTW.out w2 hf2; have HS2 := Lib.hid (HSH.out w2 A2 c2 hT2 hr2 hc2 hm2); have HT2 := Lib.hid hT2; clear hf2 hr2 hT2 hm2))
        | (go_at_call 133; ((with_reducible refine HS2.out.mono ?_); rintro e w3 ⟨A3, c3, rfl, hc3, hm3, hr3, hT3, hg3, ha3, hb3⟩; have HG5X := Lib.hid (HGETB.out w2 w3 A3 c3 HT2.out hT3 hr3 hc3 hm3); have HT3 := Lib.hid hT3; have HG3 := Lib.hid hg3; have HA3 := Lib.hid ha3; have HB3 := Lib.hid hb3; clear hm3 hr3 hT3 hg3 ha3 hb3))
        | (go_at_call 129; ((with_reducible refine HG5X.out.mono ?_); rintro e w3b ⟨A3b, c3b, rfl, hc3b, hm3b, hf3b, hr3b⟩; have HG6X := Lib.hid (HGETC.out w2 w3 w3b A3b c3b HT2.out HT3.out HG3.out hf3b hr3b hc3b hm3b); have HF3B := Lib.hid hf3b; clear hf3b hr3b hm3b))
        | (go_at_call 129; ((with_reducible refine HG6X.out.mono ?_); rintro e w3c ⟨A3c, c3c, rfl, hc3c, hm3c, hf3c, hr3c⟩; obtain ⟨hz3, hfr3, hg3c, ha3c, hb3c, hd3c, hrd3⟩ := HLAST.out w2 w3 w3b w3c HT2.out HT3.out HG3.out HA3.out HB3.out HF3B.out hf3c; have k2 : w3c.cell? ⟨g + 1 + 1, 0, none⟩ = some (iv (nn : Nat)) := ha3c.cell rfl; have k3 : w3c.cell? ⟨g + 1 + 1 + 1, 0, none⟩ = some (iv (kk : Nat)) := hb3c.cell rfl; have k4 : w3c.cell? ⟨g + 1 + 1 + 1 + 1, 0, none⟩ = some (iv (mm : Nat)) := hd3c.cell rfl; have HZ3 := Lib.hid hz3; have HFR3 := Lib.hid hfr3; have HG3C := Lib.hid hg3c; have HA3C := Lib.hid ha3c; have HB3C := Lib.hid hb3c; have HRD3 := Lib.hid hrd3; clear hz3 hfr3 hg3c ha3c hb3c hd3c hrd3 hf3c hr3c hm3c))
        | (go_at_call 134; ((with_reducible refine (HCUT.out _ HRD3.out (by have := HFR3.out.size; omega)).mono ?_); rintro e w4 ⟨A4, c4, rfl, hf4, ho4⟩; have HZ4 := Lib.hid (HZ3.out.fresh hf4); have HF4 := Lib.hid (HFR3.out.trans hf4); have HG4 := Lib.hid (HG3C.out.fresh hf4); have HA4 := Lib.hid (HA3C.out.fresh hf4); have HB4 := Lib.hid (HB3C.out.fresh hf4); have HO4 := Lib.hid ho4; have hgs4 := HG3C.out.inside; clear k2 k3 k4 hf4 ho4)))
      have k2 : w4.cell? ⟨g + 1 + 1, 0, none⟩ = some (iv (nn : Nat)) := HA4.out.cell rfl
      have k3 : w4.cell? ⟨g + 1 + 1 + 1, 0, none⟩ = some (iv (kk : Nat)) := HB4.out.cell rfl
      have kf7 := HG4.out.free 7
      have kc7 : w4.cell? ⟨g, 7, none⟩ = some (.slice none 0 0) := HG4.out.cell rfl
      have hg5 := HG4.out.put 7 (.slice A4 nn c4)
      have k2' : (w4.setCell ⟨g, 7, none⟩ (.slice A4 nn c4)).cell? ⟨g + 1 + 1, 0, none⟩ = some (iv (nn : Nat)) := (HA4.out.apart (p := ⟨g, 7, none⟩) (by simp; omega) _).cell rfl
      have k3' : (w4.setCell ⟨g, 7, none⟩ (.slice A4 nn c4)).cell? ⟨g + 1 + 1 + 1, 0, none⟩ = some (iv (kk : Nat)) := (HB4.out.apart (p := ⟨g, 7, none⟩) (by simp; omega) _).cell rfl
      have hcap4 := HO4.out.cap
      have hfr4 := HF4.out.size
      have hrd4 := RdA.of_own (S := [g]) HO4.out (by intro i hi; simp at hi; omega)
      have hrd5 := (hrd4.turn (Turn.put (S := [g]) (p := ⟨g, 7, none⟩) w4 (.slice A4 nn c4) (by simp))).cut (lo := nn) (hi := nn + kk) (cap := c4) (by omega) (by omega) hcap4.1
      have hrd4b := RdA.of_own (S := g :: w.heap.size :: List.range w.heap.size) HO4.out (by intro i hi; simp at hi; have := HZ3.out.inside; omega)
      have hnm5 := (hrd4b.turn (Turn.put (S := g :: w.heap.size :: List.range w.heap.size) (p := ⟨g, 7, none⟩) w4 (.slice A4 nn c4) (by simp))).head (m := nn) (by omega)
      rw [← List.map_take, List.take_take, Nat.min_eq_left (by omega)] at hnm5
      rw [show nn + kk - nn = kk from by omega, ← List.map_drop, ← List.map_take, List.drop_take, List.drop_drop, List.take_take, Nat.min_eq_left (by omega)] at hrd5
      have hal := Fresh.alloc (w4.setCell ⟨g, 7, none⟩ (.slice A4 nn c4)) (.cells #[ptrA ⟨g, 5, none⟩, ptrA ⟨g, 4, none⟩, ptrA ⟨g, 6, none⟩] tPtr)
      have hrow := RdA.lit (S := [g]) (w4.setCell ⟨g, 7, none⟩ (.slice A4 nn c4)) #[ptrA ⟨g, 5, none⟩, ptrA ⟨g, 4, none⟩, ptrA ⟨g, 6, none⟩] tPtr (by intro i hi; simp at hi; subst hi; exact hg5.inside)
      have hwid := widen_any _ kk (c4 - nn) ((xs.drop (q + 46 + nn)).take kk) g _ [5, 4, 6] [zs, zc, za] 3 3 _ _ (hrd5.fresh hal) (by omega) (by omega) (by omega) (hg5.fresh hal) hrow (by decide) rfl (by omega) (by
        intro i f z hf hz
        match i, hf, hz with
        | 0, hf, hz => injection hf with hf; injection hz with hz; subst hf; subst hz; rfl
        | 1, hf, hz => injection hf with hf; injection hz with hz; subst hf; subst hz; rfl
        | 2, hf, hz => injection hf with hf; injection hz with hz; subst hf; subst hz; rfl)
      have hzz5 : ∀ W6, Turn [g] [g] ((w4.setCell ⟨g, 7, none⟩ (.slice A4 nn c4)).alloc (.cells #[ptrA ⟨g, 5, none⟩, ptrA ⟨g, 4, none⟩, ptrA ⟨g, 6, none⟩] tPtr)) W6 → Turn [g] [g] w4 W6 := fun W6 h => ((Turn.put (S := [g]) (p := ⟨g, 7, none⟩) w4 (.slice A4 nn c4) (by simp)).trans (Turn.fresh hal)).trans h
      have hsw : (w4.setCell ⟨g, 7, none⟩ (.slice A4 nn c4)).heap.size = w4.heap.size := by simp [World.setCell]
      rw [hsw] at hwid
      have HNM5 := Lib.hid (hnm5.fresh hal)
      have HZZ5 := Lib.hid hzz5
      clear hg5 hrd4 hrd4b hrd5 hnm5 hal hrow hzz5 hsw
      have hc4n : nn + kk ≤ c4 := by omega
      have HCM : RowKit.Hid (c4 ≤ maxLen) := hcap4.2
      have hcm := hcap4.2
      unfold maxLen at hcm
      cases hwn : widn ((xs.drop (q + 46 + nn)).take kk) [zs, zc, za] with
      | none =>
        rw [hwn] at hwid
        have HWID := Lib.hid hwid
        have HWN := Lib.hid hwn
        clear hwid hwn hwd
        go_wp2_with (first
          | (go_at_call 135; ((with_reducible refine HWID.out.mono ?_); rintro e w6 ⟨hT6, rfl, cs6, hl6, hb6⟩; have HT6 := Lib.hid (HZZ5.out _ hT6); have kf8 := hb6.free 8; obtain ⟨⟨v8, kc8⟩, _⟩ := hb6.wr (i := 8) (by rw [hl6]; simp); have HZ6 := Lib.hid ((HZ4.out.turn HT6.out (by simp; omega)).apart (p := ⟨g, 8, none⟩) (by simp; omega) (.bool false)); have HF6 := Lib.hid ((HT6.out.trans (Turn.put (S := [g]) (p := ⟨g, 8, none⟩) _ (.bool false) (by simp))).new HF4.out (by intro i hi; simp at hi; omega)); clear hT6 hb6))
          | (refine wpList_store_row (o := ⟨none, _, _, _, _, _⟩) rfl tHead (.tmp 4) (.tmp 77) rfl w.heap.size zeroV.toArray rfl rfl tHead _ HZ6.out (by kernel_rfl) (by simp) (by kernel_rfl) ?_))
        all_goals exact bodyPost_ret (results_row_two (p := 4) (u := 5) (v := 6) (by kernel_rfl) _ _ w.heap.size tHead zeroV _ rfl (HZ6.out.row _) Tryz.underlying73 rfl (by kernel_rfl)) rfl ⟨HF6.out.but (Nat.le_refl _) (But.row _ _ _), by rw [HLOC.out, if_neg hlen, HWN.out]; rfl⟩
      | some vs =>
        rw [hwn] at hwid
        obtain ⟨fw, _, hfw⟩ := Option.bind_eq_some_iff.1 hwn
        have hlv := hwd fw vs hfw
        clear hfw
        obtain ⟨va, vb, vc, rfl⟩ : ∃ va vb vc, vs = [va, vb, vc] := by
          match vs, hlv with
          | [va, vb, vc], _ => exact ⟨va, vb, vc, rfl⟩
        have hany : [zs, zc, za].any isOnes = (isOnes zs || isOnes zc || isOnes za) := by simp [Bool.or_assoc]
        generalize hQ : (isOnes zs || isOnes zc || isOnes za) = Q at *
        have HWID := Lib.hid hwid
        have HWN := Lib.hid hwn
        have HANY := Lib.hid hany
        obtain ⟨NM, hNM⟩ : ∃ NM, NM = Value.slice A4 nn c4 := ⟨_, rfl⟩
        have HNAM := Lib.hid hNM
        have hall : (#[iv (fl : Nat), iv (me : Nat), iv (dt : Nat), .int .u32 (cr : Nat), iv (vb : Nat), iv (va : Nat), iv (vc : Nat), NM, .bool Q] : Array Value).all (·.oneCell') = true := by
          subst hNM
          exact all_one [iv (fl : Nat), iv (me : Nat), iv (dt : Nat), .int .u32 (cr : Nat), iv (vb : Nat), iv (va : Nat), iv (vc : Nat), .slice A4 nn c4, .bool Q] (by
            intro v hv
            simp only [List.mem_cons, List.not_mem_nil, or_false] at hv
            rcases hv with rfl | rfl | rfl | rfl | rfl | rfl | rfl | rfl | rfl <;> rfl)
        have HALL := Lib.hid hall
        clear hNM hall
        have HEND := Lib.hid (show ((q + 46 + nn + kk + mm : Nat) : Int) = (q : Int) + 46 + ((nn : Int) + (kk : Int) + (mm : Int)) from by omega)
        clear hwid hwn hwd hany hQ hlv
        go_upto_region 15 with (first
          | (go_at_call 135; ((with_reducible refine HWID.out.mono ?_); rintro e w6 ⟨hT6, hE, hb6⟩; rw [HANY.out] at hE; subst hE; have HT6 := Lib.hid (HZZ5.out _ hT6); have kf8 := hb6.free 8; have kc8 : w6.cell? ⟨g, 8, none⟩ = some (.bool false) := hb6.cell rfl; have hb7 : Bk (w6.setCell ⟨g, 8, none⟩ (.bool Q)) g tHead [iv (fl : Nat), iv (me : Nat), iv (dt : Nat), .int .u32 (cr : Nat), iv (vb : Nat), iv (va : Nat), iv (vc : Nat), NM, .bool Q] := (by rw [HNAM.out]; exact hb6.put 8 (.bool Q)); have HB7 := Lib.hid hb7; have HZ6 := Lib.hid ((HZ4.out.turn HT6.out (by simp; omega)).apart (p := ⟨g, 8, none⟩) (by simp; omega) (.bool Q)); have HT7 := Lib.hid (Turn.put (S := [g]) (p := ⟨g, 8, none⟩) w6 (.bool Q) (by simp)); have HF6 := Lib.hid ((HT6.out.trans HT7.out).new HF4.out (by intro i hi; simp at hi; omega)); have HNM6 := Lib.hid ((HNM5.out.turn (hT6.wide (T := g :: w.heap.size :: List.range w.heap.size) (by simp))).turn (HT7.out.wide (T := g :: w.heap.size :: List.range w.heap.size) (by simp))); clear hT6 hb6 hb7)))
        all_goals
          have hb7 := HB7.out
          have c0 := hb7.cell (i := 0) rfl
          have c1' := hb7.cell (i := 1) rfl
          have c2' := hb7.cell (i := 2) rfl
          have c3' := hb7.cell (i := 3) rfl
          have c4' := hb7.cell (i := 4) rfl
          have c5' := hb7.cell (i := 5) rfl
          have c6' := hb7.cell (i := 6) rfl
          have c7' := hb7.cell (i := 7) rfl
          have c8' := hb7.cell (i := 8) rfl
          clear hb7 kf8 kc8 k2 k2' k3 k3' kf7 kc7
          generalize w6.setCell ⟨g, 8, none⟩ (.bool Q) = w7 at *
          go_wp2_with (refine wpList_store_row (o := ⟨none, _, _, _, _, _⟩) rfl tHead (.tmp 4) (.tmp 79) rfl w.heap.size #[iv (fl : Nat), iv (me : Nat), iv (dt : Nat), .int .u32 (cr : Nat), iv (vb : Nat), iv (va : Nat), iv (vc : Nat), NM, .bool Q] rfl rfl tHead _ HZ6.out (by kernel_rfl) (by rfl) HALL.out ?_)
          all_goals have hl5 := HNM6.out.1
          all_goals rw [List.length_map] at hl5
          all_goals exact bodyPost_ret (results_row_two (p := 4) (u := 5) (v := 6) (by kernel_rfl) _ _ w.heap.size tHead [iv (fl : Nat), iv (me : Nat), iv (dt : Nat), .int .u32 (cr : Nat), iv (vb : Nat), iv (va : Nat), iv (vc : Nat), NM, .bool Q] _ rfl (HZ6.out.row _) Tryz.underlying73 rfl (by kernel_rfl)) rfl ⟨HF6.out.but (Nat.le_refl _) (But.row _ _ _), by
            rw [HLOC.out, if_neg hlen, HWN.out]
            refine ⟨A4, c4, ?_, by rw [hl5]; omega, HCM.out, ?_⟩
            · unfold headV
              simp only [hl5, HEND.out, HNAM.out]
              rfl
            · simp only [hl5]
              exact (HNM6.out.turn (Turn.row (S := g :: w.heap.size :: List.range w.heap.size) _ _ (by simp))).sub (by intro i hi; simp [hi])⟩
end Go.Proofs.YtmnegmebkmihhaaGreatDoor.recp
