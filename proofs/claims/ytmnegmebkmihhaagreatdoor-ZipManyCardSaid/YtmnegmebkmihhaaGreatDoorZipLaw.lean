/-
  What the laws on archives that are made take: wakes, great, twice. My own text.
-/
import Derived.Test.YtmnegmebkmihhaaGreatDoorZipMake
namespace Go.Proofs.YtmnegmebkmihhaaGreatDoor.zipp
open Go.RowKit Go.Maps Go.Proofs.YtmnegmebkmihhaaGreatDoor.base Go.Proofs.YtmnegmebkmihhaaGreatDoor.num Go.Proofs.YtmnegmebkmihhaaGreatDoor.recn Go.Proofs.YtmnegmebkmihhaaGreatDoor.recp Go.Proofs.YtmnegmebkmihhaaGreatDoor.nam Go.Proofs.YtmnegmebkmihhaaGreatDoor.namp Go.Proofs.YtmnegmebkmihhaaGreatDoor.zipn
set_option linter.unusedVariables false
theorem ok_a : (⟨[97], 2162688, []⟩ : Pl).Ok where
  rn := by intro r hr; rw [List.mem_singleton] at hr; subst hr; exact .inl (by omega)
  may := by decide +kernel
  mom := by
    show dosnum.Right ⟨1980 + (2162688 : Int) / 33554432, (2162688 : Int) / 2097152 % 16, (2162688 : Int) / 65536 % 32, (2162688 : Int) / 2048 % 32, (2162688 : Int) / 32 % 64, (2162688 : Int) % 32 * 2⟩
    refine ⟨?_, ?_, ?_, ?_, ?_, ?_, ?_, ?_, ?_, ?_, ?_, ?_⟩ <;> decide
  len := by simp
theorem arc_a : (arc [⟨[97], 2162688, []⟩]).length = 100 := by
  rw [arc_len]
  have : (encB [97] []).length = 1 := by decide +kernel
  simp only [List.map_cons, List.map_nil, List.sum_cons, List.sum_nil, this, List.length_nil, Nat.reduceMul, Nat.reduceAdd]
theorem itms_one (w : World) (i : Itm) (hd : Rd w w.heap.size i.A i.n (i.bs.map bv)) : ItmsAt (w.alloc (.cells (itmV i).toArray tItem)) (w.heap.size + 1) (some ⟨w.heap.size, 0, none⟩) 1 [i] := by
  have hb := Bk.made w tItem (itmV i).toArray
  rw [List.toList_toArray] at hb
  refine ⟨rfl, fun _ => ⟨w.heap.size, 0, rfl, by omega, fun j s hs => ?_⟩, fun s hs => ?_⟩
  · have h0 : j = 0 := by
      have := (List.getElem?_eq_some_iff.1 hs).1
      simp at this
      exact this
    subst h0
    injection hs with hs
    subst hs
    intro k v hv
    rw [Nat.zero_mul, Nat.zero_add]
    first | exact hb.cell hv | (rw [Nat.zero_add]; exact hb.cell hv)
  · rw [List.mem_singleton] at hs
    subst hs
    exact (hd.keep fun k hk => (Fresh.alloc w (.cells (itmV s).toArray tItem)).block k hk).up (by omega)
theorem wakes_any (w : World) (hU : Laid w) : Calls Tryz.prog 8 #[] w fun e w' => e = .returned (.bool true) ∧ Fresh w w' := by
  have h1 : Calls Tryz.prog 10 #[.slice none 0 0] w fun e w' => ∃ D d, e = .returned (.tuple #[.slice D 22 d, .int .i64 0]) ∧ Fresh w w' := by
    refine (make_any none 0 0 [] [] w w.heap.size ⟨rfl, fun h => absurd h (by omega), fun s hs => by cases hs⟩ (Nat.le_refl _) (by omega) rfl (fun j i x hi => by simp at hi) hU (by simp)).mono ?_
    rintro e w' ⟨D, m, d, rfl, hm, _, _, _, hf⟩
    rw [arc_len] at hm
    simp only [List.map_nil, List.sum_nil] at hm
    subst hm
    exact ⟨D, d, rfl, hf⟩
  have h2 : ∀ W, Fresh w W → Calls Tryz.prog 10 #[.slice (some ⟨W.heap.size, 0, none⟩) 1 1] (W.alloc (.cells #[.string ⟨#[97]⟩, .int .i64 2162688, .slice none 0 0, .int .i64 0, .bool false, .bool false] tItem)) fun e w' => ∃ D d, e = .returned (.tuple #[.slice D 100 d, .int .i64 0]) ∧ Fresh W w' := fun W hW => by
    have hi := itms_one W ⟨⟨#[97]⟩, 2162688, none, 0, 0, [], 0, false, false⟩ (Rd.nil _ _ _)
    refine (make_any (some ⟨W.heap.size, 0, none⟩) 1 1 [⟨⟨#[97]⟩, 2162688, none, 0, 0, [], 0, false, false⟩] [⟨[97], 2162688, []⟩] _ _ hi (by simp) (by omega) rfl ?_ (hU.fresh (hW.trans (Fresh.alloc _ _))) (by simp)).mono ?_
    · intro j i x hi hx
      have h0 : j = 0 := by
        have := (List.getElem?_eq_some_iff.1 hi).1
        simp at this
        exact this
      subst h0
      injection hi with hi
      injection hx with hx
      subst hi; subst hx
      exact ⟨by decide, rfl, rfl, rfl, rfl, rfl, ok_a⟩
    · rintro e w' ⟨D, m, d, rfl, hm, _, _, _, hf⟩
      rw [arc_a] at hm
      subst hm
      exact ⟨D, d, rfl, (Fresh.alloc _ _).trans hf⟩
  have H1 := Lib.hid h1
  have H2 := Lib.hid h2
  clear h1 h2 hU
  go_enter Tryz.func8, Tryz.ntmps8
  go_wp2_with (first
    | (go_at_call 10; ((with_reducible refine H1.out.mono ?_); rintro e w1 ⟨D1, d1, rfl, hf1⟩; have HF1 := Lib.hid hf1; clear hf1))
    | (go_at_call 10; ((with_reducible refine (H2.out _ HF1.out).mono ?_); rintro e w2 ⟨D2, d2, rfl, hf2⟩)))
  go_ret
  exact ⟨rfl, HF1.out.trans hf2⟩
/-- more than a law takes -/
def grtI (i : Itm) : Bool := decide (2000 < i.n) || decide (100 < i.s.size)
def grt (l : List Itm) : Bool := l.any grtI || decide (30 < l.length)
set_option maxRecDepth 100000 in
set_option maxHeartbeats 4000000 in
theorem great_any (A : Option Addr) (n c : Nat) (l : List Itm) (w : World) (B : Nat) (h : ItmsAt w B A n l) (hB : B ≤ w.heap.size) (hn : n ≤ maxLen) (hs : ∀ i ∈ l, i.n ≤ maxLen ∧ i.s.size ≤ maxLen) :
    Calls Tryz.prog 9 #[.slice A n c] w fun e w' => e = .returned (.bool (grt l)) ∧ Fresh w w' := by
  have HLN := Lib.hid h.1
  have HS := Lib.hid hs
  unfold maxLen at hn
  have hni : (n : Int) ≤ 9223372036854775807 := by omega
  clear hs
  go_enter Tryz.func9, Tryz.ntmps9
  go_wp2
  go_loopw [7] (fun i wr => ∃ j : Nat, j ≤ n ∧ i = .int .i64 j ∧ Hid ((l.take j).any grtI = false) ∧ Hid (Fresh w wr)) (fun i _ => n - (intOf i).toNat)
  case atStart => exact ⟨0, by omega, rfl, rfl, Lib.hid (Fresh.refl _)⟩
  case round =>
    obtain ⟨j, hj, rfl, HG, HF⟩ := hrel
    by_cases hlt : j < n
    · obtain ⟨bb, off, s, rfl, hbb, hss, hrow, hd⟩ := (h.below HF.out hB).at_ hlt
      have hsz := HS.out s (List.mem_of_getElem? hss)
      have hij : (j : Int) < (n : Int) := by omega
      have htk := num.take_snoc _ _ _ hss
      have hyes : grtI s = true → grt l = true := fun h => by
        unfold grt
        rw [List.any_eq_true.2 ⟨s, List.mem_of_getElem? hss, h⟩, Bool.true_or]
      have HTK := Lib.hid htk
      have HYES := Lib.hid hyes
      obtain ⟨nm, dt, sA, sn, sc, sbs, how, wd, ds⟩ := s
      simp only [itmV] at hrow
      unfold grtI at hyes
      simp only at hsz hyes
      have HROW := Lib.hid hrow
      unfold maxLen at hsz
      have hsz1 : (sn : Int) ≤ 9223372036854775807 := by omega
      have hsz2 : (nm.size : Int) ≤ 9223372036854775807 := by omega
      generalize hnz : nm.size = z at *
      have HNZ := Lib.hid hnz
      clear hrow hd hss htk hyes hsz hnz
      by_cases h1 : 2000 < sn
      · have t1 : decide ((sn : Int) > 2000) = true := by rw [decide_eq_true_eq]; omega
        have t2 : decide (2000 < (sn : Int)) = true := by rw [decide_eq_true_eq]; omega
        have hg : grt l = true := HYES.out (by unfold grtI; simp only; rw [decide_eq_true h1, Bool.true_or])
        have HGR := Lib.hid hg
        clear h1 hg
        go_wp2_with ((with_reducible (refine at_slot_ 10 ?_)); refine wpList_load_mid rfl tItem (.tmp 9) rfl bb (off + j * 6) rfl [.string nm, .int .i64 dt, .slice sA sn sc, .int .i64 how, .bool wd, .bool ds] _ HROW.out Tryz.underlying31 rfl size_item ?_)
        go_ret
        exact ⟨by rw [HGR.out]; rfl, HF.out.trans (Fresh.alloc _ _)⟩
      · have t1 : decide ((sn : Int) > 2000) = false := by rw [decide_eq_false_iff_not]; omega
        have t2 : decide (2000 < (sn : Int)) = false := by rw [decide_eq_false_iff_not]; omega
        by_cases h2 : 100 < z
        · have t3 : decide ((z : Int) > 100) = true := by rw [decide_eq_true_eq]; omega
          have t4 : decide (100 < (z : Int)) = true := by rw [decide_eq_true_eq]; omega
          have hg : grt l = true := HYES.out (by unfold grtI; simp only; rw [HNZ.out, decide_eq_true h2, Bool.or_true])
          have HGR := Lib.hid hg
          have hnz := HNZ.out
          clear h1 h2 hg
          go_wp2_with ((with_reducible (refine at_slot_ 10 ?_)); refine wpList_load_mid rfl tItem (.tmp 9) rfl bb (off + j * 6) rfl [.string nm, .int .i64 dt, .slice sA sn sc, .int .i64 how, .bool wd, .bool ds] _ HROW.out Tryz.underlying31 rfl size_item ?_)
          go_ret
          exact ⟨by rw [HGR.out]; rfl, HF.out.trans (Fresh.alloc _ _)⟩
        · have t3 : decide ((z : Int) > 100) = false := by rw [decide_eq_false_iff_not]; omega
          have t4 : decide (100 < (z : Int)) = false := by rw [decide_eq_false_iff_not]; omega
          have hg : grtI ⟨nm, dt, sA, sn, sc, sbs, how, wd, ds⟩ = false := by unfold grtI; simp only; rw [HNZ.out, decide_eq_false h1, decide_eq_false h2]; rfl
          have HGI := Lib.hid hg
          have hnz := HNZ.out
          clear h1 h2 hg
          go_wp2_with ((with_reducible (refine at_slot_ 10 ?_)); refine wpList_load_mid rfl tItem (.tmp 9) rfl bb (off + j * 6) rfl [.string nm, .int .i64 dt, .slice sA sn sc, .int .i64 how, .bool wd, .bool ds] _ HROW.out Tryz.underlying31 rfl size_item ?_)
          go_roundw
          case rel => exact ⟨j + 1, by omega, by go_num, Lib.hid (by rw [HTK.out, List.any_append, HG.out]; simp [HGI.out]), Lib.hid (HF.out.trans (Fresh.alloc _ _))⟩
          case measure => simp [intOf]; omega
    · have h0 : j = n := by omega
      subst h0
      have hg := HG.out
      rw [List.take_of_length_le (Nat.le_of_eq HLN.out)] at hg
      by_cases h30 : 30 < j
      · have t1 : decide ((j : Int) > 30) = true := by rw [decide_eq_true_eq]; omega
        have t2 : decide (30 < (j : Int)) = true := by rw [decide_eq_true_eq]; omega
        have hgr : grt l = true := by unfold grt; rw [HLN.out, decide_eq_true h30, Bool.or_true]
        have HGR := Lib.hid hgr
        clear hg hgr h30
        go_wp2
        go_ret
        exact ⟨by rw [HGR.out]; rfl, HF.out⟩
      · have t1 : decide ((j : Int) > 30) = false := by rw [decide_eq_false_iff_not]; omega
        have t2 : decide (30 < (j : Int)) = false := by rw [decide_eq_false_iff_not]; omega
        have hgr : grt l = false := by unfold grt; rw [HLN.out, decide_eq_false h30, hg]; rfl
        have HGR := Lib.hid hgr
        clear hg hgr h30
        go_wp2
        go_ret
        exact ⟨by rw [HGR.out]; rfl, HF.out⟩
end Go.Proofs.YtmnegmebkmihhaaGreatDoor.zipp
