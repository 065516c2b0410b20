/-
  Layer 14: Put, First, All, Len. My own text.
-/
import Derived.Test.YtgbffkneidnmfaaAhoScan
namespace Go.Proofs.Ytgbffkneidnmfaa.ahop
open Go.RowKit Go.Maps Go.Proofs.Ytgbffkneidnmfaa.base Go.Proofs.Ytgbffkneidnmfaa.aho
set_option linter.unusedVariables false
theorem turn_but {S : List Nat} {g : Nat} {a b : World} (h : But g a b) (hg : g ∈ S) : Turn S S a b :=
  ⟨h.os, h.tape, h.output, h.size, fun k hk hS => h.block k hk fun e => by injection e with e; exact hS (e ▸ hg), fun _ h => .inl h⟩
theorem put_nil (v : Value) (w : World) : Calls Try.prog 13 #[.pointer none, v] w fun e w' => e = .returned (iv 0) ∧ w' = w := by
  go_enter Try.func13, Try.ntmps13
  go_wp2
  go_ret
  exact ⟨rfl, rfl⟩
theorem first_nil (w : World) : Calls Try.prog 16 #[.pointer none] w fun e w' => e = .returned (.slice none 0 0) ∧ w' = w := by
  go_enter Try.func16, Try.ntmps16
  go_wp2
  go_ret
  exact ⟨rfl, rfl⟩
theorem all_nil (w : World) : Calls Try.prog 17 #[.pointer none] w fun e w' => e = .returned (.bool false) ∧ w' = w := by
  go_enter Try.func17, Try.ntmps17
  go_wp2
  go_ret
  exact ⟨rfl, rfl⟩
theorem len_nil (w : World) : Calls Try.prog 18 #[.pointer none] w fun e w' => e = .returned (iv 0) ∧ w' = w := by
  go_enter Try.func18, Try.ntmps18
  go_wp2
  go_ret
  exact ⟨rfl, rfl⟩
section
variable {p g N n c : Nat} {W P : List Bs} {A : Option Addr} {T : List Sv} {t : Bs} {w : World}
theorem len_any (h : ScAt w p g N W P A n c T t) : Calls Try.prog 18 #[.pointer (some ⟨p, 0, none⟩)] w fun e w' => e = .returned (iv (t.length : Nat)) ∧ w' = w := by
  obtain ⟨a, hb, _⟩ := h.bk
  have c3 := hb.cell (i := 3) rfl
  clear hb h
  go_enter Try.func18, Try.ntmps18
  go_wp2
  go_ret
  exact ⟨rfl, rfl⟩
theorem cloneI_any (q m k : Nat) (xs : List Int) (hm : xs.length = m) (hm2 : m ≤ 100000) (V : World) (hb : Bk V q tInt (xs.map iv)) : Calls Try.prog 27 #[.slice (some ⟨q, 0, none⟩) m k] V fun e w' => ∃ A' c', e = .returned (.slice A' m c') ∧ Own w' V.heap.size tInt A' m c' (xs.map iv) ∧ Fresh V w' := by
  obtain ⟨i0, hi0, hz0, hz1, hz2⟩ := info_parts intInfo
  have hnil := fun (W : World) => run_slice_is_nil (P := Try.prog) W 34 3 (some ⟨q, 0, none⟩) m k Try.underlying34
  have hown := Own.made V tInt #[] 0 rfl (by unfold maxLen; omega)
  have hf : Fresh V (V.alloc (.cells #[] tInt)) := Fresh.alloc _ _
  have hrd : Rd (V.alloc (.cells #[] tInt)) V.heap.size (some ⟨q, 0, none⟩) m (xs.map iv) := ⟨by rw [List.length_map]; exact hm, fun _ => ⟨q, 0, rfl, hb.inside, fun j u hu => by rw [Nat.zero_add]; exact (hb.fresh hf).cell hu⟩⟩
  have HOWN := Lib.hid hown
  have HF := Lib.hid hf
  have HRD := Lib.hid hrd
  have hsz : V.heap.size ≤ (V.alloc (.cells #[] tInt)).heap.size := hf.size
  clear hown hf hrd hb hm
  go_enter Try.func27, Try.ntmps27
  go_wp2_with (at_builtin; refine wpList_append_rd _ rfl (.tmp 5) (.tmp 6) 34 rfl V.heap.size tInt i0 _ 8 Try.underlying34 hi0 hz0 hz1 hz2 rfl (some ⟨V.heap.size, 0, none⟩) 0 0 [] rfl HOWN.out V.heap.size (some ⟨q, 0, none⟩) m k (xs.map iv) rfl HRD.out (iv_one _) (by unfold maxLen; omega) (by omega) hsz ?_; intro A' c' w' h2 h3; have H2 := Lib.hid h2; have H3 := Lib.hid h3; clear h2 h3)
  go_ret
  have h2 := H2.out
  simp only [Nat.zero_add, List.nil_append] at h2 ⊢
  exact ⟨A', c', rfl, h2, Fresh.append HF.out HOWN.out (Nat.le_refl _) H3.out⟩
theorem first_any (h : ScAt w p g N W P A n c T t) : Calls Try.prog 16 #[.pointer (some ⟨p, 0, none⟩)] w fun e w' => ∃ A' c', e = .returned (.slice A' W.length c') ∧ Own w' w.heap.size tInt A' W.length c' ((fvs W t).map iv) ∧ Fresh w w' := by
  obtain ⟨a, hb, _⟩ := h.bk
  have c2 := hb.cell (i := 2) rfl
  have hm := h.many
  have hc := cloneI_any g W.length W.length (fvs W t) (by unfold fvs; rw [List.length_map]) (by omega) w h.fst
  have HC := Lib.hid hc
  clear hb h hc
  go_enter Try.func16, Try.ntmps16
  go_wp2_with (go_at_call 27; (with_reducible refine HC.out.mono ?_); rintro e w1 ⟨A', c', rfl, ho, hf⟩; have HO := Lib.hid ho; clear ho)
  go_ret
  exact ⟨A', c', rfl, HO.out, hf⟩
theorem indexI_any (q m k : Nat) (xs : List Int) (hm : xs.length = m) (hm2 : m ≤ 100000) (x : Int) (V : World) (hb : Bk V q tInt (xs.map iv)) : Calls Try.prog 34 #[.slice (some ⟨q, 0, none⟩) m k, iv x] V fun e w' => (∃ z : Int, e = .returned (iv z) ∧ decide (z ≥ 0) = xs.contains x) ∧ w' = V := by
  have HB := Lib.hid hb
  have HM := Lib.hid hm
  clear hb hm
  go_enter Try.func34, Try.ntmps34
  go_wp2
  go_loopw [8] (fun v wr => ∃ j : Nat, j ≤ m ∧ v = .int .i64 j ∧ Hid ((xs.take j).contains x = false) ∧ wr = V) (fun v _ => m - (intOf v).toNat)
  case atStart => exact ⟨0, Nat.zero_le _, rfl, rfl, rfl⟩
  case round =>
    obtain ⟨j, hj, rfl, hno, rfl⟩ := hrel
    by_cases hlt : j < m
    · obtain ⟨y, hy⟩ : ∃ y, xs[j]? = some y := ⟨_, List.getElem?_eq_getElem (by rw [HM.out]; exact hlt)⟩
      have hcy := HB.out.cell (i := j) (v := iv y) (by rw [List.getElem?_map, hy]; rfl)
      have htk : xs.take (j + 1) = xs.take j ++ [y] := by rw [List.take_add_one, hy]; rfl
      have hin : (xs.take (j + 1)).contains x = (x == y) := by rw [htk, List.contains_append, hno.out, Bool.false_or, Bool.eq_iff_iff]; simp
      have hmem : (xs.take (j + 1)).contains x = true → xs.contains x = true := fun h => by
        rw [List.contains_iff_mem] at h ⊢
        exact List.mem_of_mem_take h
      have HIN := Lib.hid hin
      have HMEM := Lib.hid hmem
      clear hy htk hin hmem hno
      cases hv : (x == y) with
      | true =>
        rw [hv] at HIN
        go_wp2
        go_ret
        exact ⟨⟨_, rfl, by rw [HMEM.out HIN.out, decide_eq_true_iff]; omega⟩, rfl⟩
      | false =>
        rw [hv] at HIN
        go_wp2
        go_roundw
        case rel => exact ⟨j + 1, by omega, by go_num, HIN.out, trivial⟩
        case measure => simp [intOf]; omega
    · have hjm : j = m := by omega
      subst hjm
      have h2 : xs.contains x = false := by
        have h := hno.out
        rwa [List.take_of_length_le (by rw [HM.out]; exact Nat.le_refl _)] at h
      clear hno
      go_wp2
      go_ret
      exact ⟨⟨_, rfl, by rw [h2]; rfl⟩, rfl⟩
theorem all_any (h : ScAt w p g N W P A n c T t) : Calls Try.prog 17 #[.pointer (some ⟨p, 0, none⟩)] w fun e w' => e = .returned (.bool (!(fvs W t).contains (-1))) ∧ w' = w := by
  obtain ⟨a, hb, _⟩ := h.bk
  have c2 := hb.cell (i := 2) rfl
  have hm := h.many
  have hco : Calls Try.prog 28 #[.slice (some ⟨g, 0, none⟩) W.length W.length, iv (-1)] w fun e w' => e = .returned (.bool ((fvs W t).contains (-1))) ∧ w' = w := by
    have hi := indexI_any g W.length W.length (fvs W t) (by unfold fvs; rw [List.length_map]) (by omega) (-1) w h.fst
    have HI := Lib.hid hi
    clear hi c2 hb h
    go_enter Try.func28, Try.ntmps28
    go_wp2_with (go_at_call 34; (refine HI.out.mono ?_); rintro e w1 ⟨⟨z, rfl, hz⟩, rfl⟩; have HZ := Lib.hid hz; clear hz)
    go_ret
    exact ⟨by rw [← HZ.out]; rfl, rfl⟩
  obtain ⟨C, hC⟩ : ∃ C, (fvs W t).contains (-1) = C := ⟨_, rfl⟩
  rw [hC] at hco ⊢
  have HC := Lib.hid hco
  clear hb h hco hC
  go_enter Try.func17, Try.ntmps17
  go_wp2_with (go_at_call 28; (refine HC.out.mono ?_); rintro e w1 ⟨rfl, rfl⟩)
  go_ret
  exact ⟨rfl, rfl⟩
set_option maxRecDepth 100000 in
set_option maxHeartbeats 4000000 in
theorem put_any (bA : Option Addr) (m bc : Nat) (b : Bs) (h : ScAt w p g N W P A n c T t) (hr : RdA w [p, g] bA m (b.map bv)) (hm : m ≤ 100000) (ht : t.length ≤ 1099511627776) :
    Calls Try.prog 13 #[.pointer (some ⟨p, 0, none⟩), .slice bA m bc] w fun e w' => ∃ R : Nat, e = .returned (iv (R : Nat)) ∧ R + cnt (fvs W (t ++ b)) = cnt (fvs W t) ∧ ScAt w' p g N W P A n c T (t ++ b) ∧ Turn [p, g] [p, g] w w' := by
  have hbm : b.length = m := by have := hr.1; rwa [List.length_map] at this
  have hcw : cnt (fvs W t) ≤ 8 := by
    have h1 : cnt (fvs W t) ≤ (fvs W t).length := List.count_le_length
    have h2 : (fvs W t).length = W.length := by unfold fvs; rw [List.length_map]
    have := h.many
    omega
  have HR := Lib.hid hr
  have HBM := Lib.hid hbm
  have HS := Lib.hid h
  clear hr hbm h
  go_enter Try.func13, Try.ntmps13
  go_wp2
  go_loopw [5, 12] (fun v u wr => ∃ (k q : Nat), v = iv (q : Nat) ∧ u = iv (k : Nat) ∧ k ≤ m ∧ Hid (q + cnt (fvs W (t ++ b.take k)) = cnt (fvs W t)) ∧ Hid (ScAt wr p g N W P A n c T (t ++ b.take k)) ∧ Hid (Turn [p, g] [p, g] w wr)) (fun _ u _ => m - (intOf u).toNat)
  case atStart => exact ⟨0, 0, rfl, rfl, Nat.zero_le _, Lib.hid (by simp), by simpa using HS, Lib.hid (Turn.refl _ _)⟩
  case round =>
    obtain ⟨k, q, rfl, rfl, hk, hq, hsc, htn⟩ := hrel
    by_cases hlt : k < m
    · obtain ⟨x, hx⟩ : ∃ x, b[k]? = some x := ⟨_, List.getElem?_eq_getElem (by rw [HBM.out]; exact hlt)⟩
      obtain ⟨wb, wo, hbA, hwb, hwS, hwc⟩ := (HR.out.turn htn.out).2 (by omega)
      subst hbA
      have hcx := hwc k (bv x) (by rw [List.getElem?_map, hx]; rfl)
      have htk : t ++ b.take (k + 1) = (t ++ b.take k) ++ [x] := by rw [List.take_add_one, hx, List.append_assoc]; rfl
      obtain ⟨u, hu⟩ : ∃ u, t ++ b.take k = u := ⟨_, rfl⟩
      have hul : u.length = t.length + k := by rw [← hu, List.length_append, List.length_take, HBM.out]; omega
      rw [hu] at hq hsc htk
      have hsc0 := hsc.out
      obtain ⟨a, hb, hrt⟩ := hsc0.bk
      obtain ⟨r, s, hch, hrt2, hs, hends⟩ := hsc0.ready.next hrt x
      have hne := hsc0.ne
      obtain ⟨h1, h2, h3⟩ := hsc0.inside
      obtain ⟨lp, lg⟩ := hsc0.low
      have hmany := hsc0.many
      obtain ⟨L, hL⟩ : ∃ L, u.length = L := ⟨_, rfl⟩
      rw [hL] at hb hul
      have hfd : Fresh wr wr.drew := Fresh.drew _
      have hbd := hb.fresh hfd
      have d0 := hbd.cell (i := 0) rfl
      have d1 := hbd.cell (i := 1) rfl
      have df1 := hbd.free 1
      have hnx := next_any P T A n c N x a r wr.drew (hsc0.sts.fresh h3 hfd) hsc0.len hsc0.few hch
      have hb1 := hb.put 1 (iv (r : Nat))
      have hb2 := (hb1.put 3 (iv ((L : Int) + 1))).fresh (Fresh.drew _)
      have e3 := (hb1.fresh (Fresh.drew _)).cell (i := 3) rfl
      have ef3 := (hb1.fresh (Fresh.drew _)).free 3
      have hw1 : IntKind.i64.wrap ((L : Int) + 1) = (L : Int) + 1 := IntWalk.i64_in _ (by omega)
      have HNX := Lib.hid hnx
      have HB2 := Lib.hid (show Bk _ p tScan [.slice A n c, iv (r : Nat), .slice (some ⟨g, 0, none⟩) W.length W.length, iv ((L : Int) + 1)] from hb2)
      have HT2 : Hid (Turn [p, g] [p, g] wr (((wr.setCell ⟨p, 1, none⟩ (iv (r : Nat))).setCell ⟨p, 3, none⟩ (iv ((L : Int) + 1))).drew)) := Lib.hid ((Turn.put _ _ (by simp)).trans ((Turn.put _ _ (by simp)).trans (Turn.fresh (Fresh.drew _))))
      have HG2 : Hid (Bk ((wr.setCell ⟨p, 1, none⟩ (iv (r : Nat))).setCell ⟨p, 3, none⟩ (iv ((L : Int) + 1))).drew g tInt ((fvs W u).map iv)) := Lib.hid (((hsc0.fst.apart (p := ⟨p, 1, none⟩) hne _).apart (p := ⟨p, 3, none⟩) hne _).fresh (Fresh.drew _))
      have HCH := Lib.hid hch
      have HRT2 := Lib.hid hrt2
      have HS2 := Lib.hid hs
      have HEN := Lib.hid hends
      have HTK := Lib.hid htk
      have HUL := Lib.hid hul
      have HLL := Lib.hid hL
      have HU := Lib.hid hu
      clear hul hwc hx htk hu hL hb hrt hch hrt2 hs hends hfd hbd hb1 hb2 hnx hsc0
      go_wp2
      go_region_law ((with_reducible refine ast_slot_ 26 ?_); go_simp; (refine HNX.out.mono ?_); rintro e w1 ⟨rfl, rfl⟩)
      all_goals
        go_upto_region 9 with (fail)
        generalize ((wr.setCell ⟨p, 1, none⟩ (iv (r : Nat))).setCell ⟨p, 3, none⟩ (iv ((L : Int) + 1))).drew = W2 at *
        have hfd2 : Fresh W2 W2.drew := Fresh.drew _
        have hb3 := HB2.out.fresh hfd2
        have hg3 := HG2.out.fresh hfd2
        have f0 := hb3.cell (i := 0) rfl
        have f1 := hb3.cell (i := 1) rfl
        have hst3 : StsAt W2.drew N A T := (hsc.out.sts.keep fun i hi => HT2.out.block i (by omega) (by simp; omega)).fresh (by have := HT2.out.size; omega) hfd2
        obtain ⟨sb, so, hA, hsb, s0, s1, s2⟩ := hst3.at_ HS2.out
        have hrn : r < n := by rw [hsc.out.len]; exact (List.getElem?_eq_some_iff.1 HS2.out).1
        obtain ⟨he1, he2, he3⟩ := hst3.end_ s (List.mem_of_getElem? HS2.out)
        have hstep : note ((L + 1 : Nat) : Int) s.ends (fvs W u) = fvs W (u ++ [x]) := by
          have := note_step HEN.out
          rw [HLL.out] at this
          exact this
        have hcn : cnt (fvs W (u ++ [x])) ≤ cnt (fvs W u) := by
          rcases note_cnt ((L + 1 : Nat) : Int) s.ends (fvs W u) with h4 | h4
          · rwa [hstep] at h4
          · omega
        obtain ⟨R, hR⟩ : ∃ R, R + cnt (fvs W (u ++ [x])) = cnt (fvs W u) := ⟨cnt (fvs W u) - cnt (fvs W (u ++ [x])), by omega⟩
        have hel : s.ends.length ≤ 100000 := by have := hsc.out.ready.few s (List.mem_of_getElem? HS2.out); omega
        have hnt := note_any p g s.ends s.ea s.ends.length s.ec N A n c r (fvs W u) W.length W.length (L + 1) W2.drew hb3 he1 lp lg hne [] (by rw [List.append_nil]; exact hg3) (by unfold fvs; rw [List.length_map]) (fun y hy => by
          obtain ⟨w', h5, _⟩ := (HEN.out y).1 hy
          exact (List.getElem?_eq_some_iff.1 h5).1) hel (by omega) R (by rw [hstep]; exact hR)
        rw [hstep, List.append_nil] at hnt
        have hqR : q + R ≤ 8 := by have := hq.out; omega
        have hw2 : IntKind.i64.wrap ((q : Int) + (R : Int)) = (q : Int) + (R : Int) := IntWalk.i64_in _ (by omega)
        have HNT := Lib.hid hnt
        have HRR := Lib.hid hR
        have HB3 := Lib.hid hb3
        subst hA
        clear hfd2 hb3 hg3 hst3 s0 s1 he1 he2 he3 hstep hcn hR hel hnt d0 d1 df1 e3 ef3
        go_region_law ((with_reducible refine ast_slot_ 49 ?_); go_simp; (refine HNT.out.mono ?_); rintro e w4 ⟨rfl, hg4, hbut4⟩; have HG4 := Lib.hid hg4; have HBUT4 := Lib.hid hbut4; clear hg4 hbut4)
        all_goals go_wp2
        all_goals
          have ht4 : Turn [p, g] [p, g] wr w4 := HT2.out.trans ((Turn.fresh (Fresh.drew W2)).trans (turn_but HBUT4.out (by simp)))
          have hp4 : Bk w4 p tScan [.slice (some ⟨sb, so, none⟩) n c, iv (r : Nat), .slice (some ⟨g, 0, none⟩) W.length W.length, iv ((L : Int) + 1)] := HB3.out.old (HBUT4.out.block p HB3.out.inside fun e => by injection e with e; exact hne e.symm)
          have hlen4 : (u ++ [x]).length = L + 1 := by rw [List.length_append, HLL.out]; rfl
          have hsc4 : ScAt w4 p g N W P (some ⟨sb, so, none⟩) n c T (u ++ [x]) := { hsc.out with bk := ⟨r, by rw [hlen4]; exact hp4, HRT2.out⟩, fst := HG4.out, sts := hsc.out.sts.keep fun i hi => ht4.block i (by omega) (by simp; omega) }
          have HSC4 := Lib.hid hsc4
          have HT4 := Lib.hid ht4
          clear ht4 hp4 hlen4 hsc4
          go_roundw
          case rel => exact ⟨k + 1, q + R, by go_num, by go_num, by omega, Lib.hid (by rw [HTK.out]; have h5 := hq.out; have h6 := HRR.out; omega), Lib.hid (by rw [HTK.out]; exact HSC4.out), Lib.hid (htn.out.trans HT4.out)⟩
          case measure => simp [intOf]; omega
    · have hkm : k = m := by omega
      subst hkm
      have htk : b.take k = b := List.take_of_length_le (by rw [HBM.out]; exact Nat.le_refl _)
      rw [htk] at hq hsc
      clear htk
      go_wp2
      go_ret
      exact ⟨q, rfl, hq.out, hsc.out, htn.out⟩
end
end Go.Proofs.Ytgbffkneidnmfaa.ahop
