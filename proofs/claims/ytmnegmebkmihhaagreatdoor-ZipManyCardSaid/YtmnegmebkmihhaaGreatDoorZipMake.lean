import Derived.Test.YtmnegmebkmihhaaGreatDoorMgMay
import Derived.Test.YtmnegmebkmihhaaGreatDoorZipEnd
/-
  zip's wrong and Make, of plain items. My own text.
-/
namespace Go.Proofs.YtmnegmebkmihhaaGreatDoor.zipp
open Go.RowKit Go.Maps Go.Proofs.YtmnegmebkmihhaaGreatDoor.base Go.Proofs.YtmnegmebkmihhaaGreatDoor.num Go.Proofs.YtmnegmebkmihhaaGreatDoor.recn Go.Proofs.YtmnegmebkmihhaaGreatDoor.recp Go.Proofs.YtmnegmebkmihhaaGreatDoor.nam Go.Proofs.YtmnegmebkmihhaaGreatDoor.namp Go.Proofs.YtmnegmebkmihhaaGreatDoor.zipn
set_option linter.unusedVariables false
theorem wrong_many (A : Option Addr) (n c : Nat) (w : World) (hn : 1000 < n) :
    Calls Tryz.prog 22 #[.slice A n c] w fun e w' => e = .returned (.int .i64 17) ∧ w = w' := by
  have t1 : decide ((n : Int) > 1000) = true := by rw [decide_eq_true_eq]; omega
  have t2 : decide (1000 < (n : Int)) = true := by rw [decide_eq_true_eq]; omega
  clear hn
  go_enter Tryz.func22, Tryz.ntmps22
  go_wp2
  go_ret
  exact ⟨rfl, rfl⟩
theorem wrong_any (A : Option Addr) (n c : Nat) (l : List Itm) (w : World) (B : Nat) (h : ItmsAt w B A n l) (hB : B ≤ w.heap.size) (hn : n ≤ 1000) (hp : ∀ i ∈ l, ∃ x, IsPl i x) (hU : Laid w) (b : Bool) (hb : b = true ↔ ¬ (l.map (·.s)).Nodup) :
    Calls Tryz.prog 22 #[.slice A n c] w fun e w' => e = .returned (.int .i64 (if b then 7 else 0)) ∧ Fresh w w' := by
  have ha := all_true A n c l w B h hB (by omega) hp hU
  have ht := fun W (hf : Fresh w W) => twice_any A n c l W B (h.below hf hB) (Nat.le_trans hB hf.size) (by omega) (fun i hi => by obtain ⟨x, hx⟩ := hp i hi; have := hx.size; omega) b hb
  have t1 : decide ((n : Int) > 1000) = false := by rw [decide_eq_false_iff_not]; omega
  have t2 : decide (1000 < (n : Int)) = false := by rw [decide_eq_false_iff_not]; omega
  have HA := Lib.hid ha
  have HT := Lib.hid ht
  clear ha ht hn hp hU h hb
  cases b with
  | false =>
    go_enter Tryz.func22, Tryz.ntmps22
    go_wp2_with (first
      | (go_at_call 48; ((with_reducible refine HA.out.mono ?_); rintro e w1 ⟨rfl, hf1⟩; have HF1 := Lib.hid hf1; clear hf1))
      | (go_at_call 49; ((with_reducible refine (HT.out _ HF1.out).mono ?_); rintro e w2 ⟨rfl, hf2⟩)))
    go_ret
    exact ⟨rfl, HF1.out.trans hf2⟩
  | true =>
    go_enter Tryz.func22, Tryz.ntmps22
    go_wp2_with (first
      | (go_at_call 48; ((with_reducible refine HA.out.mono ?_); rintro e w1 ⟨rfl, hf1⟩; have HF1 := Lib.hid hf1; clear hf1))
      | (go_at_call 49; ((with_reducible refine (HT.out _ HF1.out).mono ?_); rintro e w2 ⟨rfl, hf2⟩)))
    go_ret
    exact ⟨rfl, HF1.out.trans hf2⟩
theorem make_many (A : Option Addr) (n c : Nat) (w : World) (hn : 1000 < n) :
    Calls Tryz.prog 10 #[.slice A n c] w fun e w' => e = .returned (.tuple #[.slice none 0 0, .int .i64 17]) ∧ w = w' := by
  have h := wrong_many A n c w hn
  have H := Lib.hid h
  clear h hn
  go_enter Tryz.func10, Tryz.ntmps10
  go_wp2_with (go_at_call 22; ((with_reducible refine H.out.mono ?_); rintro e w1 ⟨rfl, rfl⟩))
  go_ret2
  exact ⟨rfl, rfl⟩
theorem make_twice (A : Option Addr) (n c : Nat) (l : List Itm) (w : World) (B : Nat) (h : ItmsAt w B A n l) (hB : B ≤ w.heap.size) (hn : n ≤ 1000) (hp : ∀ i ∈ l, ∃ x, IsPl i x) (hU : Laid w) (hd : ¬ (l.map (·.s)).Nodup) :
    Calls Tryz.prog 10 #[.slice A n c] w fun e w' => e = .returned (.tuple #[.slice none 0 0, .int .i64 7]) ∧ Fresh w w' := by
  have h1 := wrong_any A n c l w B h hB hn hp hU true (by simp [hd])
  rw [if_pos rfl] at h1
  have H := Lib.hid h1
  clear h1 hn hp hU h hd
  go_enter Tryz.func10, Tryz.ntmps10
  go_wp2_with (go_at_call 22; ((with_reducible refine H.out.mono ?_); rintro e w1 ⟨rfl, hf⟩))
  go_ret2
  exact ⟨rfl, hf⟩
set_option maxRecDepth 100000 in
set_option maxHeartbeats 8000000 in
/-- an archive of plain items -/
theorem make_any (A : Option Addr) (n c : Nat) (l : List Itm) (xs : List Pl) (w : World) (B : Nat) (h : ItmsAt w B A n l) (hB : B ≤ w.heap.size) (hn : n ≤ 1000) (hx : l.length = xs.length) (hp : ∀ (j : Nat) (i : Itm) (x : Pl), l[j]? = some i → xs[j]? = some x → IsPl i x) (hU : Laid w) (hd : (l.map (·.s)).Nodup) :
    Calls Tryz.prog 10 #[.slice A n c] w fun e w' => ∃ D m d, e = .returned (.tuple #[.slice D m d, .int .i64 0]) ∧ m = (arc xs).length ∧ m ≤ d ∧ d ≤ maxLen ∧ Rd w' w'.heap.size D m ((arc xs).map bv) ∧ Fresh w w' := by
  have hpe : ∀ i ∈ l, ∃ x, IsPl i x := fun i hi => by
    obtain ⟨j, hj⟩ := List.getElem?_of_mem hi
    have hjl := (List.getElem?_eq_some_iff.1 hj).1
    exact ⟨xs[j]'(by omega), hp j i _ hj (List.getElem?_eq_getElem (by omega))⟩
  have hok : ∀ x ∈ xs, x.Ok := fun x hx' => by
    obtain ⟨j, hj⟩ := List.getElem?_of_mem hx'
    have hjl := (List.getElem?_eq_some_iff.1 hj).1
    exact (hp j _ x (List.getElem?_eq_getElem (by omega)) hj).ok
  have hln := h.1
  have hwr := wrong_any A n c l w B h hB hn hpe hU false (by simp [hd])
  rw [if_neg (by decide)] at hwr
  have HWR := Lib.hid hwr
  have HP := Lib.hid hp
  have HOK := Lib.hid hok
  have HX := Lib.hid (show l.length = n ∧ xs.length = n from ⟨hln, by omega⟩)
  have HN := Lib.hid hn
  have hn4 : (n : Int) ≤ 1000 := by omega
  clear hwr hpe hp hok hd hx hln hn
  go_enter Tryz.func10, Tryz.ntmps10
  go_wp2_with (go_at_call 22; ((with_reducible refine HWR.out.mono ?_); rintro e w1 ⟨rfl, hf1⟩; have HF1 := Lib.hid hf1; clear hf1))
  have hb0 := Bk.made w1 tArc #[.slice none 0 0, .slice none 0 0, .int .i64 0, .bool false]
  have hf0 := Fresh.alloc w1 (.cells #[.slice none 0 0, .slice none 0 0, .int .i64 0, .bool false] tArc)
  have ha0 : ArcAt (w1.alloc (.cells #[.slice none 0 0, .slice none 0 0, .int .i64 0, .bool false] tArc)) w1.heap.size w1.heap.size (made (xs.take 0)).1 (made (xs.take 0)).2 0 :=
    ⟨none, 0, 0, none, 0, 0, ⟨hb0, Own.nil _ _ _, Own.nil _ _ _, fun q hq => by cases hq⟩⟩
  have HA0 := Lib.hid ha0
  have HF0 := Lib.hid hf0
  clear hb0 hf0 ha0
  go_loopw [16] (fun i wr => ∃ j : Nat, j ≤ n ∧ i = .int .i64 j ∧ Hid (ArcAt wr w1.heap.size w1.heap.size (made (xs.take j)).1 (made (xs.take j)).2 j) ∧ Hid (Fresh w1 wr)) (fun i _ => n - (intOf i).toNat)
  case atStart => exact ⟨0, by omega, rfl, HA0, HF0⟩
  case round =>
    obtain ⟨j, hj, rfl, HA, HF⟩ := hrel
    have hwr := HF1.out.trans HF.out
    by_cases hlt : j < n
    · obtain ⟨b, off, s, rfl, hb, hs, hrow, hdd⟩ := (h.below hwr hB).at_ hlt
      obtain ⟨x, hx⟩ : ∃ x, xs[j]? = some x := ⟨_, List.getElem?_eq_getElem (by have := HX.out.2; omega)⟩
      have hpl := HP.out j s x hs hx
      have hbd := made_bd (xs.take j) (fun y hy => HOK.out y (List.mem_of_mem_take hy))
      have hlj : (xs.take j).length ≤ 1000 := by rw [List.length_take]; have := HN.out; omega
      have hB1 : B ≤ w1.heap.size := Nat.le_trans hB HF1.out.size
      have hij : (j : Int) < (n : Int) := by omega
      have hadd := add_plain s x hpl (wr.alloc (.cells (itmV s).toArray tItem)) w1.heap.size w1.heap.size j _ _ (HA.out.fresh (Fresh.alloc _ _)) (Nat.le_refl _) (by have := HF.out.size; simp; omega) (((hdd.keep fun k hk => (Fresh.alloc wr (.cells (itmV s).toArray tItem)).block k (by have := HF.out.size; omega))).up hB1) (hU.fresh (hwr.trans (Fresh.alloc _ _))) (by have := Nat.mul_le_mul_right 65606 hlj; omega) (by have := Nat.mul_le_mul_right 86 hlj; omega) (by have := HN.out; omega)
      have hmk : made (xs.take (j + 1)) = zipn.step (made (xs.take j)) x := by rw [num.take_snoc _ _ _ hx, made_snoc]
      obtain ⟨nm, dt, sA, sn, sc, sbs, how, wd, ds⟩ := s
      simp only [itmV] at hadd hrow
      have hbk := Bk.made wr tItem #[.string nm, .int .i64 dt, .slice sA sn sc, .int .i64 how, .bool wd, .bool ds]
      have HADD := Lib.hid hadd
      have HROW := Lib.hid hrow
      have HBK := Lib.hid hbk
      have HMK := Lib.hid hmk
      clear hadd hrow hbk hmk hdd hs hx hpl hbd hlj hwr
      go_wp2_with (first
        | ((with_reducible (refine at_slot_ 19 ?_)); refine wpList_load_mid rfl tItem (.tmp 18) rfl b (off + j * 6) rfl [.string nm, .int .i64 dt, .slice sA sn sc, .int .i64 how, .bool wd, .bool ds] _ HROW.out Tryz.underlying31 rfl size_item ?_)
        | ((with_reducible (refine at_slot_ 20 ?_)); refine wpList_load_whole rfl tItem (.tmp 7) rfl wr.heap.size tItem [.string nm, .int .i64 dt, .slice sA sn sc, .int .i64 how, .bool wd, .bool ds] 6 rfl rfl HBK.out _ Tryz.underlying31 rfl size_item ?_)
        | (go_at_call 23; ((with_reducible refine HADD.out.mono ?_); rintro e w5 ⟨rfl, ha5, hb5⟩)))
      have hb5' : Fresh w1 w5 := Below.trans (HF.out.trans (Fresh.alloc wr (.cells #[.string nm, .int .i64 dt, .slice sA sn sc, .int .i64 how, .bool wd, .bool ds] tItem))) hb5
      go_roundw
      case rel => exact ⟨j + 1, by omega, by go_num, Lib.hid (by rw [HMK.out]; exact ha5), Lib.hid hb5'⟩
      case measure => simp [intOf]; omega
    · have h0 : j = n := by omega
      subst h0
      have hxl := HX.out.2
      have ha := HA.out
      rw [List.take_of_length_le (Nat.le_of_eq hxl)] at ha
      have hbd := made_bd xs HOK.out
      have hlj : xs.length ≤ 1000 := by have := HN.out; omega
      have hend := ended_plain wr w1.heap.size w1.heap.size j _ _ ha HF.out.size (by have := Nat.mul_le_mul_right 65606 hlj; omega) (by have := Nat.mul_le_mul_right 86 hlj; omega) (by have := HN.out; omega)
      have HEND := Lib.hid hend
      have harc : (made xs).1 ++ (made xs).2 ++ endP ⟨j, (made xs).2.length, (made xs).1.length, false⟩ = arc xs := by unfold arc; rw [hxl]
      have HARC := Lib.hid harc
      clear hend ha hbd hlj hwr harc
      go_wp2_with (go_at_call 24; ((with_reducible refine HEND.out.mono ?_); rintro e w6 ⟨D, m, d, rfl, hm, hmd, hdm, hr, hb6⟩; rw [HARC.out] at hm hr; have HM := Lib.hid hm; have HR := Lib.hid hr; clear hm hr))
      go_ret2
      exact ⟨D, m, d, rfl, HM.out, hmd, hdm, HR.out, HF1.out.trans (Below.trans HF.out hb6)⟩
end Go.Proofs.YtmnegmebkmihhaaGreatDoor.zipp
