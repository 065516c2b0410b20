/-
  The reference's Right, Bytes, Same of batches. My own text.
-/
import Derived.Test.YtcfijppfccfbdaaWalRef
import Derived.Test.YtcfijppfccfbdaaPagLeaf
namespace Go.Proofs.Ytcfijppfccfbdaa.walp
open Go.RowKit Go.Proofs.Ytcfijppfccfbdaa.base Go.Proofs.Ytcfijppfccfbdaa.num Go.Proofs.Ytcfijppfccfbdaa.word Go.Proofs.Ytcfijppfccfbdaa.waln
set_option linter.unusedVariables false

theorem right_all2 (l : List Wp) (h : ∀ p ∈ l, p.bs.length = p.n) : right (l.map Wp.pg) = (l.all (fun p => decide (p.n = 512)) && (decide (l.length ≤ 4096) && rise (-1) (nos l))) := by
  unfold right
  rw [nos_pg, List.length_map, List.all_map]
  congr 1
  rw [Bool.eq_iff_iff, List.all_eq_true, List.all_eq_true]
  constructor
  · intro q p hp
    have := q p hp
    simp only [Function.comp, Wp.pg, h p hp] at this
    exact this
  · intro q p hp
    have := q p hp
    simp only [Function.comp, Wp.pg, h p hp]
    exact this

set_option maxRecDepth 100000 in
theorem right_any (A : Option Addr) (n c : Nat) (l : List Wp) (w : World) (B : Nat) (h : WsAt w B A n l) (hB : B ≤ w.heap.size) (hn : n ≤ 9223372036854775807) (b : Bool) (hb : right (l.map Wp.pg) = b) :
    Calls Try.prog 9 #[.slice A n c] w fun e w' => e = .returned (.bool b) ∧ Fresh w w' := by
  rw [right_all2 l h.lens, h.1] at hb
  have HL := Lib.hid h.1
  have HRS := Lib.hid (fun (W : World) (hf : Fresh w W) => rising_any A n c l W B (h.below hf hB) (Nat.le_trans hB hf.size) hn _ rfl)
  generalize hR : rise (-1) (nos l) = R at *
  have HB := Lib.hid hb
  clear hb hR
  go_enter Try.func9, Try.ntmps9
  go_wp2
  go_loopw [3] (fun i wr => ∃ (k : Nat), k ≤ n ∧ i = .int .i64 k ∧ Hid (((l.drop k).all (fun p => decide (p.n = 512)) && (decide (n ≤ 4096) && R)) = b) ∧ Fresh w wr) (fun i _ => n - (intOf i).toNat)
  case atStart => exact ⟨0, by omega, rfl, HB, Fresh.refl _⟩
  case round =>
    obtain ⟨k, hk, rfl, hR, hfr⟩ := hrel
    by_cases hlt : k < n
    · obtain ⟨bb, off, s, rfl, hbb, hs, hrow, hrd, hok⟩ := (h.below hfr hB).at_ hlt
      have hR2 := hR.out
      rw [drop_at hs, List.all_cons] at hR2
      obtain ⟨hc0, hc1⟩ := range_two hrow
      have hcap := hok.cap
      unfold maxLen at hcap
      generalize s.no = no at *
      generalize s.n = sn at *
      generalize s.A = sA at *
      generalize s.c = sc at *
      clear hR hrow hrd hok hs hc0
      by_cases h5 : sn = 512
      · subst h5
        rw [decide_eq_true rfl, Bool.true_and] at hR2
        have HR2 := Lib.hid hR2
        clear hR2
        go_wp2
        go_roundw
        case rel => exact ⟨k + 1, by omega, by go_num, HR2, hfr⟩
        case measure => simp [intOf]; omega
      · rw [decide_eq_false h5, Bool.false_and, Bool.false_and] at hR2
        subst hR2
        have h5' : ((sn : Int) != 512) = true := by rw [bne_iff_ne]; omega
        clear h5
        go_wp2
        go_ret
        exact ⟨rfl, hfr⟩
    · have h0 : k = n := by omega
      subst h0
      have hR2 := hR.out
      rw [List.drop_of_length_le (by have := HL.out; omega), List.all_nil, Bool.true_and] at hR2
      by_cases h4 : k ≤ 4096
      · rw [decide_eq_true h4, Bool.true_and] at hR2
        subst hR2
        have h4' : (k : Int) ≤ 4096 := by omega
        clear hR HB h4
        have HQ := Lib.hid (HRS.out _ hfr)
        go_wp2_with (go_at_call 19; (refine HQ.out.mono ?_); rintro e w1 ⟨rfl, hf1⟩)
        go_ret
        exact ⟨rfl, hfr.trans hf1⟩
      · rw [decide_eq_false h4, Bool.false_and] at hR2
        subst hR2
        clear hR HB
        go_wp2
        go_ret
        exact ⟨rfl, hfr⟩

/-- a row that was written out is the call's own -/
theorem Own.litm (w : World) (cs : Array Value) (e : TypeId) (n : Nat) (hn : cs.size = n) (hm : n ≤ maxLen) : base.Own (w.alloc (.cells cs e)) w.heap.size e (some ⟨w.heap.size, 0, none⟩) n n cs.toList := by
  subst hn
  exact ⟨by simp, .inr ⟨w.heap.size, cs.size, cs, rfl, Nat.le_refl _, heap_alloc_new w _, Nat.le_refl _, hm, by simp, by rw [Nat.mul_one]; exact List.take_of_length_le (by simp)⟩⟩

set_option maxRecDepth 100000 in
theorem refBytes_any (A : Option Addr) (n c : Nat) (l : List Wp) (w : World) (h : WsAt w w.heap.size A n l) (hn : n ≤ 100) (hr : right (l.map Wp.pg) = true) (N : Nat) (hN : 12 + 516 * n = N) :
    Calls Try.prog 11 #[.slice A n c] w fun e w' => ∃ A' c', e = .returned (.slice A' N c') ∧ Fresh w w' ∧ base.Own w' w.heap.size tB A' N c' ((batch (l.map Wp.pg)).map bv) := by
  obtain ⟨i0, hi0, hz0, hz1, hz2⟩ := info_parts word.byte_info
  have hl := h.1
  have b4 : ∀ (a : Nat) (W : World), a < 4294967296 → Calls Try.prog 20 #[.int .i64 a, .int .i64 4] W fun e w' => ∃ A c, e = .returned (.slice A 4 c) ∧ Fresh W w' ∧ base.Own w' W.heap.size tB A 4 c ((low 4 a).map bv) := fun a W ha => by
    have := bytes_any a 4 W (WalkArith.wf_i64 ⟨by omega, by omega⟩)
    have h4 : word.wide 4 = 4 := by decide
    rw [h4, pagp.u64_nat a (by omega)] at this
    exact this
  have HB4 := Lib.hid b4
  have HNL := Lib.hid (fun W : World => b4 n W (by omega))
  have HH := Lib.hid (show head n = mk4 ++ low 4 n from rfl)
  have hbat : batch (l.map Wp.pg) = (head n ++ body (l.map Wp.pg)) ++ low 4 (crcnum.sum (head n ++ body (l.map Wp.pg))) := by
    show bat _ ++ _ = _
    unfold bat
    rw [List.length_map, hl]
  have HBAT := Lib.hid hbat
  have hslt := crcnum.sum_lt (head n ++ body (l.map Wp.pg))
  have HOK := Lib.hid (fun s (hs : s ∈ l) => nos_ok hr hs)
  have HL := Lib.hid hl
  have hN2 : N ≤ 65536 := by omega
  have HN := Lib.hid hN
  have HO0 := Lib.hid (Own.litm w #[.int .u8 105, .int .u8 113, .int .u8 106, .int .u8 49] tB 4 rfl (by unfold maxLen; omega))
  have HF0 := Lib.hid (Fresh.alloc w (.cells #[.int .u8 105, .int .u8 113, .int .u8 106, .int .u8 49] tB))
  clear hbat hl hN hr b4
  go_enter Try.func11, Try.ntmps11
  go_wp2_with (first
    | (go_at_call 20; (refine (HNL.out _).mono ?_); rintro e w5 ⟨A5, c5, rfl, hf5, ho5⟩; have HF5 := Lib.hid (HF0.out.trans hf5); have HO5 := Lib.hid (Own.fresh HO0.out hf5); have HR5 := Lib.hid ho5.rd; clear hf5 ho5)
    | ((with_reducible refine at_slot_ 10 ?_); refine wpList_append_rd _ rfl _ _ 23 rfl w.heap.size 5 i0 _ 1 Try.underlying23 hi0 hz0 hz1 hz2 rfl _ 4 4 _ rfl HO5.out _ A5 4 c5 _ rfl HR5.out (bv_one _) (by unfold maxLen; omega) (by omega) HF5.out.size ?_; intro A6 c6 w6 ho6 hg6; have hf6 : Fresh w w6 := HF5.out.append HO5.out (Nat.le_refl _) hg6; have HF6 := Lib.hid hf6; have HO6 := Lib.hid (show base.Own w6 w.heap.size tB A6 8 c6 ((head n).map bv) from by rw [HH.out, List.map_append]; exact ho6); clear hf6 ho6 hg6))
  go_loopw [3, 4] (fun v i wr => ∃ (k M cc : Nat) (AA : Option Addr), k ≤ n ∧ i = .int .i64 k ∧ Hid (M = 8 + 516 * k) ∧ v = .slice AA M cc ∧ Fresh w wr ∧ base.Own wr w.heap.size tB AA M cc ((head n ++ body ((l.take k).map Wp.pg)).map bv)) (fun _ i _ => n - (intOf i).toNat)
  case atStart => exact ⟨0, 8, c6, A6, by omega, rfl, rfl, rfl, HF6.out, by simpa [body] using HO6.out⟩
  case round =>
    obtain ⟨k, M, cc, AA, hk, rfl, hM, rfl, hfr, hown⟩ := hrel
    have hMb : M ≤ 100000 := by have := hM.out; omega
    by_cases hlt : k < n
    · obtain ⟨bb, off, s, rfl, hbb, hs, hrow, hrd, hok⟩ := (h.below hfr (Nat.le_refl _)).at_ hlt
      obtain ⟨hno, hlen⟩ := HOK.out s (List.mem_of_getElem? hs)
      have HBS := Lib.hid (body_snoc l k s hs)
      obtain ⟨hc0, hc1⟩ := range_two hrow
      obtain ⟨no, sA, sn, sc, sbs⟩ := s
      simp only at hno hlen hrd hc0 hc1
      obtain ⟨a, rfl⟩ := Int.eq_ofNat_of_zero_le hno.1
      have hsn := Rd.len8 hrd
      have hsn2 : sn = 512 := by omega
      subst hsn2
      have hu : u64 (a : Int) = a := by unfold u64; omega
      have HNA := Lib.hid (fun W : World => HB4.out a W (by omega))
      have HC := Lib.hid (show ∀ w', Below w.heap.size wr w' → w'.cell? ⟨bb, off + k * 2 + 1, none⟩ = some (.slice sA 512 sc) from fun w' hb => (hb.cell (p := ⟨bb, off + k * 2 + 1, none⟩) hbb).trans hc1)
      have HO0 := Lib.hid hown
      have HR0 := Lib.hid hrd
      have HFR := Lib.hid hfr
      clear hrow hs hok hrd hlen hsn hown hno hfr hc1
      go_wp2_with (first
        | (go_at_call 20; (refine (HNA.out _).mono ?_); rintro e w5 ⟨A5, c5, rfl, hf5, ho5⟩; have HFa := Lib.hid (HFR.out.trans hf5); have HOa := Lib.hid (Own.fresh HO0.out hf5); have HRa := Lib.hid ho5.rd; have HBa := Lib.hid (hf5.mono HFR.out.size); clear hf5 ho5)
        | ((with_reducible refine at_slot_ 24 ?_); refine wpList_append_rd _ rfl _ _ 23 rfl w.heap.size 5 i0 _ 1 Try.underlying23 hi0 hz0 hz1 hz2 rfl AA M cc _ rfl HOa.out _ A5 4 c5 _ rfl HRa.out (bv_one _) (by unfold maxLen; omega) (by omega) HFa.out.size ?_; intro A6 c6 w6 ho6 hg6; have hf6 : Fresh w w6 := HFa.out.append HOa.out (Nat.le_refl _) hg6; rw [← List.map_append] at ho6; have HFb := Lib.hid hf6; have HOb := Lib.hid ho6; have hbb6 : Below w.heap.size wr w6 := HBa.out.trans (below_of_grown hg6 HFa.out.size (fun q hq => (HOa.out.row q hq))); have hc2 := HC.out _ hbb6; have HSb := Lib.hid (HR0.out.below hbb6 (Nat.le_refl _)); clear hf6 ho6 hg6 hbb6)
        | ((with_reducible refine at_slot_ 31 ?_); refine wpList_append_rd _ rfl _ _ 23 rfl w.heap.size 5 i0 _ 1 Try.underlying23 hi0 hz0 hz1 hz2 rfl A6 (M + 4) c6 _ rfl HOb.out _ sA 512 sc _ rfl HSb.out (bv_one _) (by unfold maxLen; omega) (by omega) HFb.out.size ?_; intro A7 c7 w7 ho7 hg7; have hf7 : Fresh w w7 := HFb.out.append HOb.out (Nat.le_refl _) hg7; rw [← List.map_append] at ho7; have HFc := Lib.hid hf7; have HOc := Lib.hid ho7; clear hf7 ho7 hg7))
      go_roundw
      case rel =>
        refine ⟨k + 1, M + 4 + 512, c7, A7, by omega, by go_num, ?_, rfl, HFc.out, ?_⟩
        · show _ = _
          rw [hM.out]; omega
        · have := HBS.out
          simp only [hu] at this
          rw [this, ← List.append_assoc, ← List.append_assoc]
          exact HOc.out
      case measure => simp [intOf]; omega
    · have h0 : k = n := by omega
      subst h0
      rw [List.take_of_length_le (by have := HL.out; omega)] at hown
      have hM2 : M + 4 = N := by have := hM.out; have := HN.out; omega
      have HOF := Lib.hid (crc.of_is AA M cc _ _ wr _ hown.rd (by unfold maxLen; omega) rfl)
      generalize hS : crcnum.sum (head k ++ body (l.map Wp.pg)) = S at *
      have hS2 : IntKind.i64.wrap (S : Int) = (S : Int) := by rw [IntKind.wrap_i64]; omega
      have HBB := Lib.hid (fun W : World => HB4.out S W hslt)
      have HO := Lib.hid hown
      have HF := Lib.hid hfr
      have HM2 := Lib.hid hM2
      clear hown hfr hM2 hS hslt
      go_wp2_with (first
        | (go_at_call 21; (refine HOF.out.mono ?_); rintro e w7 ⟨rfl, rfl⟩)
        | (go_at_call 20; (refine (HBB.out _).mono ?_); rintro e w8 ⟨A8, c8, rfl, hf8, ho8⟩; have HF8 := Lib.hid (HF.out.trans hf8); have HO8 := Lib.hid (Own.fresh HO.out hf8); have HR8 := Lib.hid ho8.rd; clear hf8 ho8)
        | ((with_reducible refine at_slot_ 37 ?_); refine wpList_append_rd _ rfl _ _ 23 rfl w.heap.size 5 i0 _ 1 Try.underlying23 hi0 hz0 hz1 hz2 rfl AA M cc _ rfl HO8.out _ A8 4 c8 _ rfl HR8.out (bv_one _) (by unfold maxLen; omega) (by omega) HF8.out.size ?_; intro A9 c9 w9 ho9 hg9; have hf9 : Fresh w w9 := HF8.out.append HO8.out (Nat.le_refl _) hg9; rw [← List.map_append, ← HBAT.out] at ho9; have HF9 := Lib.hid hf9; have HO9 := Lib.hid ho9; clear hf9 ho9 hg9))
      go_ret
      refine ⟨A9, c9, ?_, HF9.out, ?_⟩
      · rw [← HM2.out]
        rfl
      · rw [← HM2.out]
        exact HO9.out
end Go.Proofs.Ytcfijppfccfbdaa.walp
