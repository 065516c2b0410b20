/-
  wal.Put. My own text.
-/
import Derived.Test.YtcfijppfccfbdaaWalMay
import Derived.Test.YtcfijppfccfbdaaApxStr
namespace Go.Proofs.Ytcfijppfccfbdaa.walp
open Go.RowKit Go.Proofs.Ytcfijppfccfbdaa.base Go.Proofs.Ytcfijppfccfbdaa.num Go.Proofs.Ytcfijppfccfbdaa.word Go.Proofs.Ytcfijppfccfbdaa.waln
set_option linter.unusedVariables false

theorem put_no (A : Option Addr) (n c : Nat) (l : List Wp) (w : World) (B : Nat) (h : WsAt w B A n l) (hB : B ≤ w.heap.size) (hr : right (l.map Wp.pg) = false) :
    Calls Try.prog 8 #[.slice A n c] w fun e w' => e = .returned (.tuple #[.slice none 0 0, .int .i64 1]) ∧ Fresh w w' := by
  have HM := Lib.hid (may_any A n c l w B h hB _ hr)
  clear h
  go_enter Try.func8, Try.ntmps8
  go_wp2_with (go_at_call 16; (refine HM.out.mono ?_); rintro e w1 ⟨rfl, hf1⟩)
  go_ret2
  exact ⟨rfl, hf1⟩

theorem mark_cells : Lib.strCells (⟨#[105, 113, 106, 49]⟩ : ByteArray) = mk4.map bv := by rfl
theorem grown_nil {w w1 : World} (h : w.grownBy w1 (Value.slice none 0 0).ownBlock) : Fresh w w1 := below_of_grown h (Nat.le_refl _) (fun k hk => by cases hk)
theorem nos_ok {l : List Wp} (h : right (l.map Wp.pg) = true) {s : Wp} (hs : s ∈ l) : (0 ≤ s.no ∧ s.no < 16777216) ∧ s.bs.length = 512 := by
  obtain ⟨h1, _, h3⟩ := right_all h
  exact ⟨rise_fit h3 s.no (List.mem_map.2 ⟨s.pg, List.mem_map.2 ⟨s, hs, rfl⟩, rfl⟩), h1 s.pg (List.mem_map.2 ⟨s, hs, rfl⟩)⟩
theorem body_snoc (l : List Wp) (k : Nat) (s : Wp) (hs : l[k]? = some s) : body ((l.take (k + 1)).map Wp.pg) = body ((l.take k).map Wp.pg) ++ (low 4 (u64 s.no) ++ s.bs) := by
  rw [take_snoc _ _ _ hs, List.map_append, body, List.flatMap_append]
  simp [cell, body, Wp.pg]

set_option maxRecDepth 100000 in
theorem put_ok (A : Option Addr) (n c : Nat) (l : List Wp) (w : World) (h : WsAt w w.heap.size A n l) (hn : n ≤ 100) (hr : right (l.map Wp.pg) = true) (N : Nat) (hN : 12 + 516 * n = N) :
    Calls Try.prog 8 #[.slice A n c] w fun e w' => ∃ A' c', e = .returned (.tuple #[.slice A' N c', .int .i64 0]) ∧ Fresh w w' ∧ Own w' w.heap.size tB A' N c' ((batch (l.map Wp.pg)).map bv) := by
  obtain ⟨i0, hi0, hz0, hz1, hz2⟩ := info_parts word.byte_info
  have hl := h.1
  have HM := Lib.hid (may_any A n c l w _ h (Nat.le_refl _) _ hr)
  have HS := Lib.hid (fun W : World => size_nat n n W (by omega) rfl (N : Int) (by omega))
  have HNL := Lib.hid (fun W : World => number_any (n : Int) n W (by omega) rfl)
  have HH := Lib.hid (show head n = mk4 ++ low 4 n from rfl)
  have hbat : batch (l.map Wp.pg) = (head n ++ body (l.map Wp.pg)) ++ low 4 (crcnum.sum (head n ++ body (l.map Wp.pg))) := by
    show bat _ ++ _ = _
    unfold bat
    rw [List.length_map, hl]
  have HBAT := Lib.hid hbat
  have hslt := crcnum.sum_lt (head n ++ body (l.map Wp.pg))
  have HOK := Lib.hid (fun s (hs : s ∈ l) => nos_ok hr hs)
  have HL := Lib.hid hl
  have hN2 : N ≤ 65536 := by omega
  have HN := Lib.hid hN
  clear hbat hl hN hr
  go_enter Try.func8, Try.ntmps8
  go_wp2_with (first
    | (go_at_call 16; (refine HM.out.mono ?_); rintro e w1 ⟨rfl, hf1⟩; have HF1 := Lib.hid hf1; clear hf1)
    | (go_at_call 12; (refine (HS.out _).mono ?_); rintro e w2 ⟨rfl, rfl⟩)
    | (at_make; refine wpList_make_own _ rfl _ _ 23 rfl w.heap.size 5 i0 _ 1 Try.underlying23 hi0 hz0 hz1 _ _ _ N rfl rfl rfl (by rw [hz2]; omega) (by unfold maxLen; omega) HF1.out.size ?_; intro w3 hown3 hg3; have hf3 := HF1.out.trans (grown_nil hg3); have HF3 := Lib.hid hf3; have HO3 := Lib.hid hown3; clear hf3 hown3 hg3)
    | ((with_reducible refine at_slot_ 15 ?_); refine wpList_append_str _ rfl _ _ 23 9 rfl w.heap.size 5 i0 Try.underlying23 Try.underlying9 hi0 hz0 hz1 hz2 _ 0 _ _ rfl HO3.out _ rfl 4 rfl _ mark_cells (by omega) HF3.out.size ?_; intro A4 c4 w4 ho4 hg4; have hf4 : Fresh w w4 := HF3.out.append HO3.out (Nat.le_refl _) hg4; rw [Nat.zero_add, List.nil_append] at ho4; have HF4 := Lib.hid hf4; have HO4 := Lib.hid ho4; clear hf4 ho4 hg4)
    | (go_at_call 17; (refine (HNL.out _).mono ?_); rintro e w5 ⟨A5, c5, rfl, hf5, hr5⟩; have HF5 := Lib.hid (HF4.out.trans hf5); have HO5 := Lib.hid (Own.fresh HO4.out hf5); have HR5 := Lib.hid hr5; clear hf5 hr5)
    | ((with_reducible refine at_slot_ 20 ?_); refine wpList_append_rd _ rfl _ _ 23 rfl w.heap.size 5 i0 _ 1 Try.underlying23 hi0 hz0 hz1 hz2 rfl A4 4 c4 _ rfl HO5.out _ A5 4 c5 _ rfl HR5.out (bv_one _) (by unfold maxLen; omega) (by omega) HF5.out.size ?_; intro A6 c6 w6 ho6 hg6; have hf6 : Fresh w w6 := HF5.out.append HO5.out (Nat.le_refl _) hg6; rw [← List.map_append, ← HH.out] at ho6; have HF6 := Lib.hid hf6; have HO6 := Lib.hid ho6; clear hf6 ho6 hg6))
  go_loopw [4, 23] (fun v i wr => ∃ (k M cc : Nat) (AA : Option Addr), k ≤ n ∧ i = .int .i64 k ∧ Hid (M = 8 + 516 * k) ∧ v = .slice AA M cc ∧ Fresh w wr ∧ Own wr w.heap.size tB AA M cc ((head n ++ body ((l.take k).map Wp.pg)).map bv)) (fun _ i _ => n - (intOf i).toNat)
  case atStart => exact ⟨0, 8, c6, A6, by omega, rfl, rfl, rfl, HF6.out, by simpa [body] using HO6.out⟩
  case round =>
    obtain ⟨k, M, cc, AA, hk, rfl, hM, rfl, hfr, hown⟩ := hrel
    have hMb : M ≤ 100000 := by have := hM.out; omega
    by_cases hlt : k < n
    · obtain ⟨bb, off, s, rfl, hbb, hs, hrow, hrd, hok⟩ := (h.below hfr (Nat.le_refl _)).at_ hlt
      obtain ⟨hno, hlen⟩ := HOK.out s (List.mem_of_getElem? hs)
      have HBS := Lib.hid (body_snoc l k s hs)
      obtain ⟨no, sA, sn, sc, sbs⟩ := s
      simp only at hno hlen hrd
      obtain ⟨a, rfl⟩ := Int.eq_ofNat_of_zero_le hno.1
      have hsn := Rd.len8 hrd
      have hsn2 : sn = 512 := by omega
      subst hsn2
      have hu : u64 (a : Int) = a := by unfold u64; omega
      have hRG : Hid (wr.rangeAt bb (off + k * 2) [.int .i64 a, .slice sA 512 sc]) := Lib.hid hrow
      have hij : (k : Int) < (n : Int) := by omega
      have hfA := Fresh.alloc wr (.cells #[.int .i64 a, .slice sA 512 sc] tWrite)
      have HBK := Lib.hid (Bk.made wr tWrite #[.int .i64 a, .slice sA 512 sc])
      have HNA := Lib.hid (fun W : World => number_any (a : Int) a W (by omega) rfl)
      have hF0 := hfr.trans hfA
      have HF0 := Lib.hid hF0
      have HO0 := Lib.hid (Own.fresh hown hfA)
      have HR0 := Lib.hid (hrd.below hfA hfr.size)
      have HFR := Lib.hid hfr
      clear hrow hs hok hrd hfA hlen hsn hown hno hF0 hfr
      go_wp2_with (first
        | ((with_reducible (refine at_slot_ 26 ?_)); refine wpList_load_mid rfl tWrite (.tmp 25) rfl bb (off + k * 2) rfl [.int .i64 a, .slice sA 512 sc] _ hRG.out Try.underlying27 rfl size_write ?_)
        | (go_at_call 17; (refine (HNA.out _).mono ?_); rintro e w5 ⟨A5, c5, rfl, hf5, hr5⟩; have HFa := Lib.hid (HF0.out.trans hf5); have HOa := Lib.hid (Own.fresh HO0.out hf5); have HRa := Lib.hid hr5; have HSa := Lib.hid (HR0.out.below hf5 HF0.out.size); have hbk := HBK.out.fresh hf5; have hc1 := hbk.cell (i := 1) rfl; have HBa := Lib.hid hbk; clear hf5 hr5 hbk)
        | ((with_reducible refine at_slot_ 31 ?_); refine wpList_append_rd _ rfl _ _ 23 rfl w.heap.size 5 i0 _ 1 Try.underlying23 hi0 hz0 hz1 hz2 rfl AA M cc _ rfl HOa.out _ A5 4 c5 _ rfl HRa.out (bv_one _) (by unfold maxLen; omega) (by omega) HFa.out.size ?_; intro A6 c6 w6 ho6 hg6; have hf6 : Fresh w w6 := HFa.out.append HOa.out (Nat.le_refl _) hg6; rw [← List.map_append] at ho6; have HFb := Lib.hid hf6; have HOb := Lib.hid ho6; have hbk6 := HBa.out.grown hg6 (HOa.out.ne_block HBa.out (by decide)); have hc2 := hbk6.cell (i := 1) rfl; have HSb := Lib.hid (HSa.out.below (B' := w.heap.size) (below_of_grown hg6 HFa.out.size (fun q hq => (HOa.out.row q hq))) (Nat.le_refl _)); clear hf6 ho6 hg6 hbk6)
        | ((with_reducible refine at_slot_ 35 ?_); refine wpList_append_rd _ rfl _ _ 23 rfl w.heap.size 5 i0 _ 1 Try.underlying23 hi0 hz0 hz1 hz2 rfl A6 (M + 4) c6 _ rfl HOb.out _ sA 512 sc _ rfl HSb.out (bv_one _) (by unfold maxLen; omega) (by omega) HFb.out.size ?_; intro A7 c7 w7 ho7 hg7; have hf7 : Fresh w w7 := HFb.out.append HOb.out (Nat.le_refl _) hg7; rw [← List.map_append] at ho7; have HFc := Lib.hid hf7; have HOc := Lib.hid ho7; clear hf7 ho7 hg7))
      go_roundw
      case rel =>
        refine ⟨k + 1, M + 4 + 512, c7, A7, by omega, by go_num, ?_, rfl, HFc.out, ?_⟩
        · show _ = _
          rw [hM.out]; omega
        · have := HBS.out
          simp only [hu] at this
          rw [this, ← List.append_assoc, ← List.append_assoc]
          exact HOc.out
      case measure => simp [intOf]; omega
    · have h0 : k = n := by omega
      subst h0
      rw [List.take_of_length_le (by have := HL.out; omega)] at hown
      have hM2 : M + 4 = N := by have := hM.out; have := HN.out; omega
      have HSU := Lib.hid (sum_any AA M cc _ wr _ _ hown.rd (Nat.le_refl _) (by omega) rfl)
      generalize hS : crcnum.sum (head k ++ body (l.map Wp.pg)) = S at *
      have HO := Lib.hid hown
      have HF := Lib.hid hfr
      have HM2 := Lib.hid hM2
      clear hown hfr hM2
      go_wp2_with (first
        | (go_at_call 18; (refine HSU.out.mono ?_); rintro e w8 ⟨A8, c8, rfl, hf8, hr8⟩; have HF8 := Lib.hid (HF.out.trans hf8); have HO8 := Lib.hid (Own.fresh HO.out hf8); have HR8 := Lib.hid hr8; clear hf8 hr8)
        | ((with_reducible refine at_slot_ 40 ?_); refine wpList_append_rd _ rfl _ _ 23 rfl w.heap.size 5 i0 _ 1 Try.underlying23 hi0 hz0 hz1 hz2 rfl AA M cc _ rfl HO8.out _ A8 4 c8 _ rfl HR8.out (bv_one _) (by unfold maxLen; omega) (by omega) HF8.out.size ?_; intro A9 c9 w9 ho9 hg9; have hf9 : Fresh w w9 := HF8.out.append HO8.out (Nat.le_refl _) hg9; rw [← List.map_append, ← HBAT.out] at ho9; have HF9 := Lib.hid hf9; have HO9 := Lib.hid ho9; clear hf9 ho9 hg9))
      go_ret2
      refine ⟨A9, c9, ?_, HF9.out, ?_⟩
      · rw [← HM2.out]
        rfl
      · rw [← HM2.out]
        exact HO9.out
end Go.Proofs.Ytcfijppfccfbdaa.walp
