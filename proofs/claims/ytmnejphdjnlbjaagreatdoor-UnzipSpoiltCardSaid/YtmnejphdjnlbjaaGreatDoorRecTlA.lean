/-
  record's reaches, getEnd: my own text.
-/
import Derived.Test.YtmnejphdjnlbjaaGreatDoorRecUse
import Derived.Test.YtmnejphdjnlbjaaGreatDoorRecHead
import Derived.Laws.ResultCell
namespace Go.Proofs.YtmnejphdjnlbjaaGreatDoor.recp
open Go.RowKit Go.Proofs.YtmnejphdjnlbjaaGreatDoor.base Go.Proofs.YtmnejphdjnlbjaaGreatDoor.num Go.Proofs.YtmnejphdjnlbjaaGreatDoor.word Go.Proofs.YtmnejphdjnlbjaaGreatDoor.recn
set_option linter.unusedVariables false
theorem eq_len (z n : Nat) : ((22 : Int) + (z : Int) == (n : Int)) = decide (22 + z = n) := by
  rw [Bool.eq_iff_iff, beq_iff_eq, decide_eq_true_iff]; omega
set_option maxHeartbeats 2000000 in
theorem reaches_any (A : Option Addr) (n c : Nat) (xs : List UInt8) (w : World) (B : Nat) (hr : Rd w B A n (xs.map bv)) (hB : B ≤ w.heap.size) (hc : n ≤ c) (hm : c ≤ maxLen) (hn : n ≤ 1099511627776) (h22 : 22 ≤ n) (b : Bool) (hb9 : decide (22 + nm xs 20 2 = n) = b) :
    Calls Tryz.prog 37 #[.slice A n c] w fun e w' => e = .returned (.bool b) ∧ Fresh w w' := by
  have hraw := (RdA.of_rd (S := [w.heap.size]) hr hB (by intro i hi; simp at hi; omega)).fresh (Fresh.alloc w (.cells #[.int .i64 0] tInt))
  have ht := hraw.tail (m := 20) (c := c) (by omega) hc
  rw [if_neg (by omega), ← List.map_drop] at ht
  have hb := Bk.made w tInt #[.int .i64 0]
  have hfw := Fresh.alloc w (.cells #[.int .i64 0] tInt)
  have hget : Calls Tryz.prog 38 #[.slice (A.map fun x => (⟨x.block, x.off + 20, none⟩ : Addr)) (n - 20) (c - 20), .int .i64 2, .slice (some ⟨w.heap.size + 1, 0, none⟩) 1 1] ((w.alloc (.cells #[.int .i64 0] tInt)).alloc (.cells #[ptr w.heap.size] tPtr)) (Got [w.heap.size] (sets ((w.alloc (.cells #[.int .i64 0] tInt)).alloc (.cells #[ptr w.heap.size] tPtr)) (gets 2 (xs.drop 20) [⟨w.heap.size, 0, none⟩])) (n - 20 - 1 * 2) ((xs.drop 20).drop (1 * 2))) :=
    get_row (A.map (·.add 20)) (n - 20) (c - 20) 2 (xs.drop 20) [⟨w.heap.size, 0, none⟩] [w.heap.size] 1 _ (w.alloc (.cells #[.int .i64 0] tInt)) ht (by omega) (by unfold maxLen at *; omega) (by omega) (.inl rfl) rfl (by simp) (by intro p hp; rw [List.mem_singleton] at hp; subst hp; exact ⟨by simp, hb.wr (by simp)⟩) (by intro i hi; rw [List.mem_singleton] at hi; subst hi; exact hb.inside) (by omega)
  have e0 : nm (xs.drop 20) (0 * 2) 2 = nm xs 20 2 := nm_drop _ _ _ _
  have hb2 : Bk (sets ((w.alloc (.cells #[.int .i64 0] tInt)).alloc (.cells #[ptr w.heap.size] tPtr)) (gets 2 (xs.drop 20) [⟨w.heap.size, 0, none⟩])) w.heap.size tInt [iv (nm xs 20 2 : Nat)] := by
    rw [← e0]
    exact (hb.alloc _).put 0 _
  have hfs : Fresh w (sets ((w.alloc (.cells #[.int .i64 0] tInt)).alloc (.cells #[ptr w.heap.size] tPtr)) (gets 2 (xs.drop 20) [⟨w.heap.size, 0, none⟩])) :=
    (sets_turn (S := [w.heap.size]) _ _ (by intro x hx; simp [gets] at hx; subst hx; simp)).new (hfw.trans (Fresh.alloc _ _)) (by intro i hi; simp at hi; omega)
  have h2 := nm2 xs 20
  generalize nm xs 20 2 = z at *
  have HE := Lib.hid (eq_len z n)
  have HBE := Lib.hid hb9
  have HGET := Lib.hid hget
  have HB2 := Lib.hid hb2
  have HFS := Lib.hid hfs
  unfold maxLen at hm
  clear hget hb2 hfs hb hfw hraw ht hr e0 hb9
  go_enter Tryz.func37, Tryz.ntmps37
  go_wp2_with (go_at_call 38; ((with_reducible refine HGET.out.mono ?_); rintro e w2 ⟨A2, c2, rfl, hc2, hm2, hf2, hr2⟩; have k0 : w2.cell? ⟨w.heap.size, 0, none⟩ = some (iv (z : Nat)) := (HB2.out.fresh hf2).cell rfl; have HF3 := Lib.hid (HFS.out.trans hf2); clear hf2 hr2 hm2))
  go_ret
  exact ⟨by rw [← HBE.out, ← HE.out]; rfl, HF3.out⟩
theorem one4 (x y z : Int) (b : Bool) : (#[iv x, iv y, iv z, .bool b] : Array Value).all (·.oneCell') = true := all_one _ (by
  intro v hv
  simp only [List.mem_cons, List.not_mem_nil, or_false] at hv
  rcases hv with rfl | rfl | rfl | rfl <;> rfl)
/-- a tail's cells -/
abbrev tailV (a b c : Int) (d : Bool) : List Value := [iv a, iv b, iv c, .bool d]
theorem boxes2 (w : World) (hv : List Value) :
    Bk ((((w.alloc (.cells hv.toArray tTail)).alloc (.cells hv.toArray tTail)).alloc (.cells #[.int .i64 0] tInt)).alloc (.cells #[.int .i64 0] tInt)) w.heap.size tTail hv ∧
    Bk ((((w.alloc (.cells hv.toArray tTail)).alloc (.cells hv.toArray tTail)).alloc (.cells #[.int .i64 0] tInt)).alloc (.cells #[.int .i64 0] tInt)) (w.heap.size + 1) tTail hv ∧
    Bk ((((w.alloc (.cells hv.toArray tTail)).alloc (.cells hv.toArray tTail)).alloc (.cells #[.int .i64 0] tInt)).alloc (.cells #[.int .i64 0] tInt)) (w.heap.size + 1 + 1) tInt [iv 0] ∧
    Bk ((((w.alloc (.cells hv.toArray tTail)).alloc (.cells hv.toArray tTail)).alloc (.cells #[.int .i64 0] tInt)).alloc (.cells #[.int .i64 0] tInt)) (w.heap.size + 1 + 1 + 1) tInt [iv 0] ∧
    Fresh w ((((w.alloc (.cells hv.toArray tTail)).alloc (.cells hv.toArray tTail)).alloc (.cells #[.int .i64 0] tInt)).alloc (.cells #[.int .i64 0] tInt)) ∧
    ((((w.alloc (.cells hv.toArray tTail)).alloc (.cells hv.toArray tTail)).alloc (.cells #[.int .i64 0] tInt)).alloc (.cells #[.int .i64 0] tInt)).heap.size = w.heap.size + 4 := by
  have h0 := Bk.made w tTail hv.toArray
  have h1 := Bk.made (w.alloc (.cells hv.toArray tTail)) tTail hv.toArray
  have h2 := Bk.made ((w.alloc (.cells hv.toArray tTail)).alloc (.cells hv.toArray tTail)) tInt #[.int .i64 0]
  have h3 := Bk.made (((w.alloc (.cells hv.toArray tTail)).alloc (.cells hv.toArray tTail)).alloc (.cells #[.int .i64 0] tInt)) tInt #[.int .i64 0]
  have e1 : (w.alloc (.cells hv.toArray tTail)).heap.size = w.heap.size + 1 := by simp
  have e2 : ((w.alloc (.cells hv.toArray tTail)).alloc (.cells hv.toArray tTail)).heap.size = w.heap.size + 1 + 1 := by simp
  have e3 : (((w.alloc (.cells hv.toArray tTail)).alloc (.cells hv.toArray tTail)).alloc (.cells #[.int .i64 0] tInt)).heap.size = w.heap.size + 1 + 1 + 1 := by simp
  rw [e1] at h1
  rw [e2] at h2
  rw [e3] at h3
  exact ⟨((h0.alloc _).alloc _).alloc _, (h1.alloc _).alloc _, h2.alloc _, h3, (((Fresh.alloc _ _).trans (Fresh.alloc _ _)).trans (Fresh.alloc _ _)).trans (Fresh.alloc _ _), by simp⟩
set_option maxRecDepth 100000 in
set_option maxHeartbeats 4000000 in
theorem getEnd_any (A : Option Addr) (n c : Nat) (xs : List UInt8) (w : World) (B : Nat) (hr : Rd w B A n (xs.map bv)) (hB : B ≤ w.heap.size) (hc : n ≤ c) (hm : c ≤ maxLen) (hn : n ≤ 1099511627776) (h22 : 22 ≤ n) (m l a : Nat) (hem : nm xs 10 2 = m) (hel : nm xs 12 4 = l) (hea : nm xs 16 4 = a) :
    Calls Tryz.prog 23 #[.slice A n c] w fun e w' => e = .returned (.agg #[iv (m : Nat), iv (l : Nat), iv (a : Nat), .bool false]) ∧ Fresh w w' := by
  have HB : RowKit.Hid (B ≤ w.heap.size) := hB
  have HMX : RowKit.Hid (c ≤ maxLen) := hm
  have HR := Lib.hid hr
  have HEM := Lib.hid hem
  have HEL := Lib.hid hel
  have HEA := Lib.hid hea
  clear hr hem hel hea hB hm
  go_enter Tryz.func23, Tryz.ntmps23
  go_upto_region 3 with (fail)
  obtain ⟨b0, b1, b2, b3, hfW, hszW⟩ := boxes2 w [iv 0, iv 0, iv 0, .bool false]
  have hr := HR.out
  have hB := HB.out
  have hm := HMX.out
  have hra := ((RdA.of_rd (S := [w.heap.size, w.heap.size + 1, w.heap.size + 1 + 1, w.heap.size + 1 + 1 + 1]) hr hB (by intro i hi; simp at hi; omega)).fresh hfW)
  have ht := hra.tail (m := 4) (c := c) (by omega) hc
  rw [if_neg (by omega), ← List.map_drop] at ht
  have e2 : nm (xs.drop 4) (2 * 2) 2 = nm xs 8 2 := nm_drop _ _ _ _
  have e3 : nm (xs.drop 4) (3 * 2) 2 = nm xs 10 2 := nm_drop _ _ _ _
  have e4 : nm ((xs.drop 4).drop (4 * 2)) (0 * 4) 4 = nm xs 12 4 := by rw [nm_drop, nm_drop]
  have e5 : nm ((xs.drop 4).drop (4 * 2)) (1 * 4) 4 = nm xs 16 4 := by rw [nm_drop, nm_drop]
  rw [HEM.out] at e3
  rw [HEL.out] at e4
  rw [HEA.out] at e5
  generalize ((((w.alloc (.cells #[.int .i64 0, .int .i64 0, .int .i64 0, .bool false] tTail)).alloc (.cells #[.int .i64 0, .int .i64 0, .int .i64 0, .bool false] tTail)).alloc (.cells #[.int .i64 0] tInt)).alloc (.cells #[.int .i64 0] tInt)) = W at *
  obtain ⟨g, hg⟩ : ∃ g, w.heap.size = g := ⟨_, rfl⟩
  rw [hg] at b0 b1 b2 b3 hra ht hszW hB ⊢
  have hS : ∀ i ∈ [g, g + 1, g + 1 + 1, g + 1 + 1 + 1], i < W.heap.size := by intro i hi; simp at hi; omega
  have hget : Calls Tryz.prog 38 #[.slice (A.map fun x => (⟨x.block, x.off + 4, none⟩ : Addr)) (n - 4) (c - 4), .int .i64 2, .slice (some ⟨W.heap.size, 0, none⟩) 4 4] (W.alloc (.cells #[ptr (g + 1 + 1), ptr (g + 1 + 1), ptr (g + 1 + 1 + 1), ptrA ⟨g + 1, 0, none⟩] tPtr)) (Got [g, g + 1, g + 1 + 1, g + 1 + 1 + 1] (sets (W.alloc (.cells #[ptr (g + 1 + 1), ptr (g + 1 + 1), ptr (g + 1 + 1 + 1), ptrA ⟨g + 1, 0, none⟩] tPtr)) (gets 2 (xs.drop 4) [⟨g + 1 + 1, 0, none⟩, ⟨g + 1 + 1, 0, none⟩, ⟨g + 1 + 1 + 1, 0, none⟩, ⟨g + 1, 0, none⟩])) (n - 4 - 4 * 2) ((xs.drop 4).drop (4 * 2))) :=
    get_row (A.map (·.add 4)) (n - 4) (c - 4) 2 (xs.drop 4) [⟨g + 1 + 1, 0, none⟩, ⟨g + 1 + 1, 0, none⟩, ⟨g + 1 + 1 + 1, 0, none⟩, ⟨g + 1, 0, none⟩] [g, g + 1, g + 1 + 1, g + 1 + 1 + 1] 4 _ W ht (by omega) (by unfold maxLen at *; omega) (by omega) (.inl rfl) rfl rfl (by
      intro p hp
      simp only [List.mem_cons, List.not_mem_nil, or_false] at hp
      rcases hp with rfl | rfl | rfl | rfl
      · exact ⟨by simp, b2.wr (by simp)⟩
      · exact ⟨by simp, b2.wr (by simp)⟩
      · exact ⟨by simp, b3.wr (by simp)⟩
      · exact ⟨by simp, b1.wr (by simp)⟩) hS (by omega)
  have hT2 : ∀ W2, Fresh (sets (W.alloc (.cells #[ptr (g + 1 + 1), ptr (g + 1 + 1), ptr (g + 1 + 1 + 1), ptrA ⟨g + 1, 0, none⟩] tPtr)) (gets 2 (xs.drop 4) [⟨g + 1 + 1, 0, none⟩, ⟨g + 1 + 1, 0, none⟩, ⟨g + 1 + 1 + 1, 0, none⟩, ⟨g + 1, 0, none⟩])) W2 → Turn [g + 1, g + 1 + 1, g + 1 + 1 + 1] [g + 1, g + 1 + 1, g + 1 + 1 + 1] W W2 ∧ Bk W2 (g + 1) tTail (tailV m 0 0 false) := fun W2 h =>
    ⟨turn_of (Fresh.alloc _ _) h (by intro x hx; simp [gets] at hx; rcases hx with rfl | rfl | rfl | rfl <;> simp), by
      rw [← e3]
      exact (((((b1.alloc _).apart (p := ⟨g + 1 + 1, 0, none⟩) (by simp) _).apart (p := ⟨g + 1 + 1, 0, none⟩) (by simp) _).apart (p := ⟨g + 1 + 1 + 1, 0, none⟩) (by simp) _).put 0 _).fresh h⟩
  have hget2 : ∀ W2 A2 c2, Turn [g + 1, g + 1 + 1, g + 1 + 1 + 1] [g + 1, g + 1 + 1, g + 1 + 1 + 1] W W2 → Bk W2 (g + 1) tTail (tailV m 0 0 false) → RdA W2 [g, g + 1, g + 1 + 1, g + 1 + 1 + 1] A2 (n - 4 - 4 * 2) (((xs.drop 4).drop (4 * 2)).map bv) → n - 4 - 4 * 2 ≤ c2 → c2 ≤ maxLen →
      Calls Tryz.prog 38 #[.slice A2 (n - 4 - 4 * 2) c2, .int .i64 4, .slice (some ⟨W2.heap.size, 0, none⟩) 2 2] (W2.alloc (.cells #[ptrA ⟨g + 1, 1, none⟩, ptrA ⟨g + 1, 2, none⟩] tPtr)) (Got [g, g + 1, g + 1 + 1, g + 1 + 1 + 1] (sets (W2.alloc (.cells #[ptrA ⟨g + 1, 1, none⟩, ptrA ⟨g + 1, 2, none⟩] tPtr)) (gets 4 ((xs.drop 4).drop (4 * 2)) [⟨g + 1, 1, none⟩, ⟨g + 1, 2, none⟩])) (n - 4 - 4 * 2 - 2 * 4) (((xs.drop 4).drop (4 * 2)).drop (2 * 4))) := fun W2 A2 c2 hT hb hr2 hc2 hm2 =>
    get_row A2 (n - 4 - 4 * 2) c2 4 ((xs.drop 4).drop (4 * 2)) [⟨g + 1, 1, none⟩, ⟨g + 1, 2, none⟩] [g, g + 1, g + 1 + 1, g + 1 + 1 + 1] 2 _ W2 hr2 hc2 hm2 (by omega) (.inr rfl) rfl rfl (by
      intro p hp
      simp only [List.mem_cons, List.not_mem_nil, or_false] at hp
      rcases hp with rfl | rfl
      · exact ⟨by simp, hb.wr (by simp)⟩
      · exact ⟨by simp, hb.wr (by simp)⟩) (fun i hi => Nat.lt_of_lt_of_le (hS i hi) hT.size) (by omega)
  have hT3 : ∀ W2 W3, Bk W2 (g + 1) tTail (tailV m 0 0 false) → Fresh (sets (W2.alloc (.cells #[ptrA ⟨g + 1, 1, none⟩, ptrA ⟨g + 1, 2, none⟩] tPtr)) (gets 4 ((xs.drop 4).drop (4 * 2)) [⟨g + 1, 1, none⟩, ⟨g + 1, 2, none⟩])) W3 → Turn [g + 1] [g + 1] W2 W3 ∧ Bk W3 (g + 1) tTail (tailV m l a false) := fun W2 W3 hb h =>
    ⟨turn_of (Fresh.alloc _ _) h (by intro x hx; simp [gets] at hx; rcases hx with rfl | rfl <;> simp), by
      rw [← e4, ← e5]
      exact (((hb.alloc _).put 1 _).put 2 _).fresh h⟩
  have hall : (#[iv (m : Nat), iv (l : Nat), iv (a : Nat), .bool false] : Array Value).all (·.oneCell') = true := one4 _ _ _ _
  have hfn : ∀ W2 W3, Turn [g + 1, g + 1 + 1, g + 1 + 1 + 1] [g + 1, g + 1 + 1, g + 1 + 1 + 1] W W2 → Turn [g + 1] [g + 1] W2 W3 → Fresh w W3 ∧ Bk W3 g tTail (tailV 0 0 0 false) := fun W2 W3 h2 h3 =>
    ⟨(h2.trans (h3.wide (T := [g + 1, g + 1 + 1, g + 1 + 1 + 1]) (by simp))).new hfW (by intro i hi; simp at hi; omega), (b0.turn h2 (by simp; omega)).turn h3 (by simp)⟩
  have HGET := Lib.hid hget
  have HT2 := Lib.hid hT2
  have HGET2 := Lib.hid hget2
  have HT3 := Lib.hid hT3
  have HALL := Lib.hid hall
  have HG := Lib.hid hg
  have HFN := Lib.hid hfn
  unfold maxLen at hm
  clear hget hT2 hget2 hT3 hall b0 b1 b2 b3 hfW hra ht e2 e3 e4 e5 hr hS hfn hg hszW
  go_upto_region 5 with (first
    | (go_at_call 38; ((with_reducible refine HGET.out.mono ?_); rintro e w2 ⟨A2, c2, rfl, hc2, hm2, hf2, hr2⟩; obtain ⟨hT2, hb2⟩ := HT2.out _ hf2; have HS2 := Lib.hid (HGET2.out w2 A2 c2 hT2 hb2 hr2 hc2 hm2); have HTT := Lib.hid hT2; have HBB := Lib.hid hb2; clear hf2 hr2 hm2 hT2 hb2))
    | (go_at_call 38; ((with_reducible refine HS2.out.mono ?_); rintro e w3 ⟨A3, c3, rfl, hc3, hm3, hf3, hr3⟩; obtain ⟨hT3, hb3⟩ := HT3.out _ _ HBB.out hf3; obtain ⟨hf4, hb4⟩ := HFN.out _ _ HTT.out hT3; have HB3 := Lib.hid hb3; have HF4 := Lib.hid hf4; have HB4 := Lib.hid hb4; clear hf3 hr3 hm3 hT3 hb3 hf4 hb4)))
  have hb3 := HB3.out
  have c0 := hb3.cell (i := 0) rfl
  have c1' := hb3.cell (i := 1) rfl
  have c2' := hb3.cell (i := 2) rfl
  have c3' := hb3.cell (i := 3) rfl
  clear hb3
  go_wp2_with (refine wpList_store_row (o := ⟨none, _, _, _, _, _⟩) rfl tTail (.tmp 2) (.tmp 16) rfl g #[iv (m : Nat), iv (l : Nat), iv (a : Nat), .bool false] rfl rfl tTail _ HB4.out (by kernel_rfl) (by rfl) HALL.out ?_)
  exact bodyPost_ret (results_cell_row (p := 2) (by kernel_rfl) _ _ g tTail #[iv (m : Nat), iv (l : Nat), iv (a : Nat), .bool false] (0, 0) _ rfl (HB4.out.row _) Tryz.underlying44 rfl (by kernel_rfl)) rfl ⟨rfl, HF4.out.but (Nat.le_of_eq HG.out) (But.row _ _ _)⟩
end Go.Proofs.YtmnejphdjnlbjaaGreatDoor.recp
