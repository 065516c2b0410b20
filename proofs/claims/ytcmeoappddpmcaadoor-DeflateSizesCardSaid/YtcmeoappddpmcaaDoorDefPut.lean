import Derived.Test.YtcmeoappddpmcaaDoorDefCat
import Derived.Test.YtcmeoappddpmcaaDoorMgInf
/-
  times, fixed. My own text.
-/
namespace Go.Proofs.YtcmeoappddpmcaaDoor.defp
open Go.RowKit Go.Maps Go.Proofs.YtcmeoappddpmcaaDoor.base Go.Proofs.YtcmeoappddpmcaaDoor.num Go.Proofs.YtcmeoappddpmcaaDoor.bitnum Go.Proofs.YtcmeoappddpmcaaDoor.bitp Go.Proofs.YtcmeoappddpmcaaDoor.huffnum Go.Proofs.YtcmeoappddpmcaaDoor.huffp Go.Proofs.YtcmeoappddpmcaaDoor.infnum Go.Proofs.YtcmeoappddpmcaaDoor.infp
set_option linter.unusedVariables false
theorem Bk.row0 {w : World} {g n : Nat} {T : TypeId} {cs : List Value} (h : Bk w g T cs) (hn : cs.length = n) : Rd w w.heap.size (some ⟨g, 0, none⟩) n cs :=
  ⟨hn, fun _ => ⟨g, 0, rfl, h.inside, fun j u hu => by rw [Nat.zero_add]; exact h.cell hu⟩⟩
set_option maxRecDepth 100000 in
set_option maxHeartbeats 8000000 in
theorem times_any (k : Nat) (x : Int) (hk : 1 ≤ k ∧ k ≤ 400) (w : World) :
    Calls Tryd.prog 17 #[.int .i64 k, .int .i64 x] w fun e w' => ∃ g, e = .returned (.slice (some ⟨g, 0, none⟩) k k) ∧ Rd w' w'.heap.size (some ⟨g, 0, none⟩) k ((List.replicate k x).map iv) ∧ Fresh w w' := by
  go_enter Tryd.func17, Tryd.ntmps17
  go_wp2_with (go_at_call 30; (refine (repeat_any w.heap.size k x _ (Bk.made w 3 #[iv x]) hk).mono ?_); rintro e w2 ⟨g, rfl, hb, hg, hf⟩)
  go_ret
  refine ⟨g, rfl, ?_, (Fresh.alloc _ _).trans hf⟩
  rw [List.map_replicate]
  exact Bk.row0 hb (by rw [List.length_replicate])
theorem lits_rows (LA : List Nat) (h : fixedLits = LA) (a b c d : Option Addr) : (catI [(a, 144, 144, List.replicate 144 8), (b, 112, 112, List.replicate 112 9), (c, 24, 24, List.replicate 24 7), (d, 8, 8, List.replicate 8 8)]).map iv = nv LA ∧ (catI [(a, 144, 144, List.replicate 144 8), (b, 112, 112, List.replicate 112 9), (c, 24, 24, List.replicate 24 7), (d, 8, 8, List.replicate 8 8)]).length = 288 := by
  have e : catI [(a, 144, 144, List.replicate 144 8), (b, 112, 112, List.replicate 112 9), (c, 24, 24, List.replicate 24 7), (d, 8, 8, List.replicate 8 8)] = fixedLits.map fun x : Nat => (x : Int) := by
    show List.replicate 144 (8 : Int) ++ (List.replicate 112 9 ++ (List.replicate 24 7 ++ (List.replicate 8 8 ++ []))) = _
    decide +kernel
  rw [e, ← h]
  refine ⟨by rw [List.map_map]; rfl, ?_⟩
  rw [List.length_map]
  decide +kernel
theorem dist_row (LD : List Nat) (h : List.replicate 30 5 = LD) : (List.replicate 30 (5 : Int)).map iv = nv LD := by
  rw [← h, List.map_replicate]; unfold nv; rw [List.map_replicate]; rfl
theorem own_low {w : World} {base base' : Nat} {e : TypeId} {A : Option Addr} {n c : Nat} {xs : List Value} (h : Own w base e A n c xs) (hb : base' ≤ base) : Own w base' e A n c xs :=
  ⟨h.1, h.2.imp id fun ⟨g, cap, cur, h1, h2, h3⟩ => ⟨g, cap, cur, h1, by omega, h3⟩⟩
theorem concat_lits (LA : List Nat) (h : fixedLits = LA) (T : TypeId) (g1 g2 g3 g4 : Nat) (w : World) (h1 : Rd w w.heap.size (some ⟨g1, 0, none⟩) 144 ((List.replicate 144 8).map iv)) (h2 : Rd w w.heap.size (some ⟨g2, 0, none⟩) 112 ((List.replicate 112 9).map iv)) (h3 : Rd w w.heap.size (some ⟨g3, 0, none⟩) 24 ((List.replicate 24 7).map iv)) (h4 : Rd w w.heap.size (some ⟨g4, 0, none⟩) 8 ((List.replicate 8 8).map iv)) :
    Calls Tryd.prog 16 #[.slice (some ⟨w.heap.size, 0, none⟩) 4 4] (w.alloc (.cells #[.slice (some ⟨g1, 0, none⟩) 144 144, .slice (some ⟨g2, 0, none⟩) 112 112, .slice (some ⟨g3, 0, none⟩) 24 24, .slice (some ⟨g4, 0, none⟩) 8 8] T)) fun e w' => ∃ A c, e = .returned (.slice A 288 c) ∧ Own w' w.heap.size 3 A 288 c (nv LA) ∧ Fresh w w' := by
  have hb := Bk.made w T #[.slice (some ⟨g1, 0, none⟩) 144 144, .slice (some ⟨g2, 0, none⟩) 112 112, .slice (some ⟨g3, 0, none⟩) 24 24, .slice (some ⟨g4, 0, none⟩) 8 8]
  have hf := Fresh.alloc w (.cells #[.slice (some ⟨g1, 0, none⟩) 144 144, .slice (some ⟨g2, 0, none⟩) 112 112, .slice (some ⟨g3, 0, none⟩) 24 24, .slice (some ⟨g4, 0, none⟩) 8 8] T)
  obtain ⟨e1, e2⟩ := lits_rows LA h (some ⟨g1, 0, none⟩) (some ⟨g2, 0, none⟩) (some ⟨g3, 0, none⟩) (some ⟨g4, 0, none⟩)
  refine (concat_any w.heap.size 4 4 [(some ⟨g1, 0, none⟩, 144, 144, List.replicate 144 8), (some ⟨g2, 0, none⟩, 112, 112, List.replicate 112 9), (some ⟨g3, 0, none⟩, 24, 24, List.replicate 24 7), (some ⟨g4, 0, none⟩, 8, 8, List.replicate 8 8)] _ ?_ hb.inside ?_ rfl (by omega) (by rw [e2]; omega)).mono ?_
  · intro j r hr
    match j, hr with
    | 0, hr => injection hr with hr; subst hr; exact hb.cell rfl
    | 1, hr => injection hr with hr; subst hr; exact hb.cell rfl
    | 2, hr => injection hr with hr; subst hr; exact hb.cell rfl
    | 3, hr => injection hr with hr; subst hr; exact hb.cell rfl
  · intro r hr
    rcases List.mem_cons.1 hr with rfl | hr
    · exact (h1.fresh hf)
    rcases List.mem_cons.1 hr with rfl | hr
    · exact (h2.fresh hf)
    rcases List.mem_cons.1 hr with rfl | hr
    · exact (h3.fresh hf)
    rcases List.mem_cons.1 hr with rfl | hr
    · exact (h4.fresh hf)
    · cases hr
  · rintro e w' ⟨A, c, rfl, ho, hf2⟩
    rw [e1, e2] at ho
    rw [e2]
    exact ⟨A, c, rfl, own_low ho hf.size, hf.trans hf2⟩
set_option maxRecDepth 100000 in
set_option maxHeartbeats 8000000 in
theorem fixed_of (LA LD : List Nat) (hA : fixedLits = LA) (hD : List.replicate 30 5 = LD) (fA : Fit LA) (fD : Fit LD) (A : Option Addr) (n c : Nat) (l : List (Nat × Nat)) (base : Nat) (w : World) (hst : Own2 w base A n c l)
    (hok : ∀ s ∈ l, Ok s ∧ sy s < 288 ∧ (s.2 ≠ 0 → di s < 30)) (hn : n ≤ 16777217) :
    Calls Tryd.prog 10 #[.slice A n c] w fun e w' => ∃ A' c', e = .returned (.slice A' ((3 + (outs LA LD l).1 + 7) / 8) c') ∧ Own w' w.heap.size 5 A' ((3 + (outs LA LD l).1 + 7) / 8) c' ((low ((3 + (outs LA LD l).1 + 7) / 8) (3 + 8 * (outs LA LD l).2)).map bv) ∧ Fresh w w' := by
  have hla : LA.length = 288 := by rw [← hA]; decide +kernel
  have hld : LD.length = 30 := by rw [← hD]; decide +kernel
  have HROWS := Lib.hid hA
  have HDIST := Lib.hid (dist_row LD hD)
  have HFA := Lib.hid fA
  have HFD := Lib.hid fD
  have HOK := Lib.hid hok
  have HST := Lib.hid hst
  have HLA := Lib.hid hla
  have HLD := Lib.hid hld
  clear hA hD fA fD hok hst hla hld
  have HT0 : Hid (∀ W, Calls Tryd.prog 17 #[.int .i64 144, .int .i64 8] W (fun e w' => ∃ g, e = .returned (.slice (some ⟨g, 0, none⟩) 144 144) ∧ Rd w' w'.heap.size (some ⟨g, 0, none⟩) 144 ((List.replicate 144 8).map iv) ∧ Fresh W w')) := fun W => times_any 144 8 (by omega) W
  have HT1 : Hid (∀ W, Calls Tryd.prog 17 #[.int .i64 112, .int .i64 9] W (fun e w' => ∃ g, e = .returned (.slice (some ⟨g, 0, none⟩) 112 112) ∧ Rd w' w'.heap.size (some ⟨g, 0, none⟩) 112 ((List.replicate 112 9).map iv) ∧ Fresh W w')) := fun W => times_any 112 9 (by omega) W
  have HT2 : Hid (∀ W, Calls Tryd.prog 17 #[.int .i64 24, .int .i64 7] W (fun e w' => ∃ g, e = .returned (.slice (some ⟨g, 0, none⟩) 24 24) ∧ Rd w' w'.heap.size (some ⟨g, 0, none⟩) 24 ((List.replicate 24 7).map iv) ∧ Fresh W w')) := fun W => times_any 24 7 (by omega) W
  have HT3 : Hid (∀ W, Calls Tryd.prog 17 #[.int .i64 8, .int .i64 8] W (fun e w' => ∃ g, e = .returned (.slice (some ⟨g, 0, none⟩) 8 8) ∧ Rd w' w'.heap.size (some ⟨g, 0, none⟩) 8 ((List.replicate 8 8).map iv) ∧ Fresh W w')) := fun W => times_any 8 8 (by omega) W
  have HT4 : Hid (∀ W, Calls Tryd.prog 17 #[.int .i64 30, .int .i64 5] W (fun e w' => ∃ g, e = .returned (.slice (some ⟨g, 0, none⟩) 30 30) ∧ Rd w' w'.heap.size (some ⟨g, 0, none⟩) 30 ((List.replicate 30 5).map iv) ∧ Fresh W w')) := fun W => times_any 30 5 (by omega) W
  have HBEG : Hid (∀ W, Calls Tryd.prog 14 #[.int .i64 1] W fun e w' => ∃ g bl, e = .returned (ptr g) ∧ WtrAt w' g 3 3 bl ∧ Since W w' bl) := fun W => begun_any 1 (by omega) W
  go_enter Tryd.func10, Tryd.ntmps10
  go_wp2_with (first
    | (go_at_call 14; (with_reducible refine (HBEG.out _).mono ?_); rintro e w1 ⟨g, bl, rfl, hW, hS⟩; have HW := Lib.hid hW; have HS1 := Lib.hid hS; clear hW hS)
    | (go_at_call 17; (with_reducible refine (HT0.out _).mono ?_); rintro e w2 ⟨g1, rfl, hr1, hf1⟩; have HR1 := Lib.hid hr1; have HF1 := Lib.hid hf1; clear hr1 hf1)
    | (go_at_call 17; (with_reducible refine (HT1.out _).mono ?_); rintro e w3 ⟨g2, rfl, hr2, hf2⟩; have HR2 := Lib.hid hr2; have HF2 := Lib.hid hf2; clear hr2 hf2)
    | (go_at_call 17; (with_reducible refine (HT2.out _).mono ?_); rintro e w4 ⟨g3, rfl, hr3, hf3⟩; have HR3 := Lib.hid hr3; have HF3 := Lib.hid hf3; clear hr3 hf3)
    | (go_at_call 17; (with_reducible refine (HT3.out _).mono ?_); rintro e w5 ⟨g4, rfl, hr4, hf4⟩; have HR4 := Lib.hid hr4; have HF4 := Lib.hid hf4; clear hr4 hf4)
    | (go_at_call 16; have hcc := (concat_lits LA HROWS.out 31 g1 g2 g3 g4 w5 (((HR1.out.fresh HF2.out).fresh HF3.out).fresh HF4.out) ((HR2.out.fresh HF3.out).fresh HF4.out) (HR3.out.fresh HF4.out) HR4.out); (with_reducible refine hcc.mono ?_); clear hcc; rintro e w6 ⟨A6, c6, rfl, ho6, hf6⟩; have HO6 := Lib.hid ho6; have HF6 := Lib.hid hf6; clear ho6 hf6)
    | (go_at_call 15; have hnw := made_ok A6 288 c6 LA w6 w6.heap.size HO6.out.rd (Nat.le_refl _) (by omega) HFA.out.2 HFA.out.1; (with_reducible refine hnw.mono ?_); clear hnw; rintro e w7 ⟨gs, sbl, rfl, hC1, hS7⟩; have HC1 := Lib.hid hC1; have HS7 := Lib.hid hS7; clear hC1 hS7)
    | (go_at_call 17; (with_reducible refine (HT4.out _).mono ?_); rintro e w8 ⟨g8, rfl, hr8, hf8⟩; have HR8 := Lib.hid hr8; have HF8 := Lib.hid hf8; clear hr8 hf8)
    | (go_at_call 15; have hnw := made_ok (some ⟨g8, 0, none⟩) 30 30 LD w8 w8.heap.size (by have h := HR8.out; rw [HDIST.out] at h; exact h) (Nat.le_refl _) (by omega) HFD.out.2 HFD.out.1; (with_reducible refine hnw.mono ?_); clear hnw; rintro e w9 ⟨gd, dbl, rfl, hC2, hS9⟩; have HC2 := Lib.hid hC2; have HS9 := Lib.hid hS9; clear hC2 hS9)
    | (go_at_call 18; have F6 := ((((HF1.out.trans HF2.out).trans HF3.out).trans HF4.out).trans HF6.out); have F8 := (F6.trans HS7.out.1).trans HF8.out; have F9 := F8.trans HS9.out.1; have hin := HW.out.1.inside; have z6 := F6.size; have z8 := F8.size; have z9 := (HS1.out.1.trans F9).size; have hen := ended_any g gs gd 3 3 LA LD sbl dbl bl A n c l base w9 (HW.out.fresh F9) (HC1.out.fresh (HF8.out.trans HS9.out.1)) HC2.out (fun b hb h => by have h1 := hin b h; have h2 := HS7.out.2 b hb; omega) (fun b hb h => by have h1 := hin b h; have h2 := HS9.out.2 b hb; omega) (HST.out.fresh (HS1.out.1.trans F9)) (fun q hq h => by have h1 := HS1.out.2 q h; obtain ⟨_, cs, fr, h2⟩ := HST.out.block q hq; have h3 := (Array.getElem?_eq_some_iff.1 h2).1; omega) (fun s hs => by have h := HOK.out s hs; rw [HLA.out, HLD.out]; exact h) hn (by omega); (with_reducible refine hen.mono ?_); clear hen; rintro e w10 ⟨A', c', bl', rfl, ho, ht⟩))
  go_ret
  have F10 : Fresh w w10 := ((HS1.out.fresh (((((((HF1.out.trans HF2.out).trans HF3.out).trans HF4.out).trans HF6.out).trans HS7.out.1).trans HF8.out).trans HS9.out.1)).turn ht).1
  exact ⟨A', c', rfl, own_low ho (by omega), F10⟩
end Go.Proofs.YtcmeoappddpmcaaDoor.defp
