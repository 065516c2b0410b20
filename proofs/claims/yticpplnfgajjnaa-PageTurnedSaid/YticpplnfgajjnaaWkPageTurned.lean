/-
  The walk of the law PageTurned. My own text.
-/
import Derived.Test.YticpplnfgajjnaaPagLaw
import Derived.Test.YticpplnfgajjnaaOpenTwo
import Derived.Laws.BitsAllLaws
namespace Go.Proofs.Yticpplnfgajjnaa.pageTurned
open Go.RowKit Go.Proofs.Yticpplnfgajjnaa.base Go.Proofs.Yticpplnfgajjnaa.num Go.Proofs.Yticpplnfgajjnaa.word Go.Proofs.Yticpplnfgajjnaa.pagn Go.Proofs.Yticpplnfgajjnaa.pagp
set_option linter.unusedVariables false
open Go.Proofs.Yticpplnfgajjnaa.crcnum (turn turn_ahead turn_length)

theorem u8_turn (x w j : Nat) (hx : x < 256) : bits .xor .u8 (x : Int) ((w : Int) / 2 ^ (8 * j) % 256) = ((x ^^^ (w / 256 ^ j % 256) : Nat) : Int) := by
  have e : (w : Int) / 2 ^ (8 * j) % 256 = ((w / 256 ^ j % 256 : Nat) : Int) := by
    have : (2 : Int) ^ (8 * j) = ((256 ^ j : Nat) : Int) := by rw [Int.pow_mul]; simp
    rw [this]; omega
  rw [e, u8_xor_nat _ _ hx (Nat.mod_lt _ (by omega))]
theorem bv_turn (x w j : Nat) (hx : x < 256) : bv (UInt8.ofNat (x ^^^ (w / 256 ^ j % 256))) = .int .u8 ((x ^^^ (w / 256 ^ j % 256) : Nat) : Int) := by
  rw [bv, crcnum.ofNat_toNat _ (Nat.xor_lt_two_pow (n := 8) hx (Nat.mod_lt _ (by omega)))]

set_option maxRecDepth 100000 in
set_option maxHeartbeats 1000000 in
theorem pageTurned_walk (a0 : Int) (A1 : Option Addr) (n1 c1 : Nat) (x1 : List UInt8) (a2 : Two) (w : World) (w0 : (Lit.int .u16 a0).wf = true) (b1 : InBytes w A1 n1 c1 x1) (w2 : Two32 a2) :
    Calls Try.prog 5 #[.int .u16 a0, .slice A1 n1 c1, .agg #[.int .u32 a2.p, .int .u32 a2.q]] w fun e w' => e = .returned (.bool true) ∧ Below w.heap.size w w' := by
  obtain ⟨P, Q⟩ := a2
  obtain ⟨wp, wq⟩ := w2
  simp only at wp wq ⊢
  have h0 : 0 ≤ a0 ∧ a0 ≤ 65535 := by simpa [Lit.wf, IntKind.min, IntKind.max, IntKind.signed, IntKind.bits] using w0
  have hp : 0 ≤ P ∧ P ≤ 4294967295 := by simpa [Lit.wf, IntKind.min, IntKind.max, IntKind.signed, IntKind.bits] using wp
  have hq : 0 ≤ Q ∧ Q ≤ 4294967295 := by simpa [Lit.wf, IntKind.min, IntKind.max, IntKind.signed, IntKind.bits] using wq
  obtain ⟨no, rfl⟩ := Int.eq_ofNat_of_zero_le h0.1
  obtain ⟨at_, rfl⟩ := Int.eq_ofNat_of_zero_le hp.1
  obtain ⟨by_, rfl⟩ := Int.eq_ofNat_of_zero_le hq.1
  obtain ⟨r1, hc1, hm1⟩ := b1
  unfold maxLen at hm1
  clear w0 wp wq
  have e0 : IntKind.i64.wrap (no : Int) = (no : Int) := by rw [IntKind.wrap_i64]; omega
  have e1 : IntKind.i64.wrap (at_ : Int) = (at_ : Int) := by rw [IntKind.wrap_i64]; omega
  have hbk := Bk.made w 34 #[.int .u32 at_, .int .u32 by_]
  have hfa := Fresh.alloc w (.cells #[.int .u32 at_, .int .u32 by_] 34)
  have HBK := Lib.hid hbk
  have HFA := Lib.hid hfa
  have hwk := fun W => wakes_any W
  have HWK := Lib.hid hwk
  have HR1 := Lib.hid r1
  clear hwk hbk hfa
  by_cases hz : by_ = 0
  · subst hz
    clear r1
    go_enter Try.func5, Try.ntmps5
    go_wp2_with (go_at_call 7; refine (HWK.out _).mono ?_; rintro e wA ⟨rfl, hfA⟩; have HF1 := Lib.hid (HFA.out.trans hfA); have hbA := HBK.out.fresh hfA; have c0 := hbA.cell (i := 0) rfl; have c1 := hbA.cell (i := 1) rfl; clear hfA hbA)
    go_region
    go_wp2
    go_ret
    exact ⟨rfl, HF1.out.trans (Fresh.drew _)⟩
  · have hzb : ((by_ : Int) == 0) = false := by rw [beq_eq_false_iff_ne]; omega
    by_cases hl : 508 < n1
    · have hs := fun W => seal_long no A1 n1 c1 W (WalkArith.wf_i64 ⟨by omega, by omega⟩) (fit_of no (by omega)) hl (by unfold maxLen; omega)
      have HS := Lib.hid hs
      have hd := Lib.hid (show decide (508 < (n1 : Int)) = true from decide_eq_true (by omega))
      clear r1 hs
      go_enter Try.func5, Try.ntmps5
      go_wp2_with (go_at_call 7; refine (HWK.out _).mono ?_; rintro e wA ⟨rfl, hfA⟩; have HF1 := Lib.hid (HFA.out.trans hfA); have hbA := HBK.out.fresh hfA; have c0 := hbA.cell (i := 0) rfl; have c1 := hbA.cell (i := 1) rfl; clear hfA hbA)
      go_region
      go_wp2_with (go_at_call 8; ((refine (HS.out _).mono ?_); rintro e w2 ⟨rfl, hf2⟩; have HF2 := Lib.hid ((HF1.out.trans (Fresh.drew _)).trans hf2); clear hf2))
      go_ret
      exact ⟨congrArg (fun v => Ending.returned (.bool v)) hd.out, HF2.out⟩
    · have hlx : x1.length = n1 := by have := r1.1; rwa [List.length_map] at this
      have hfl := fill_length x1 (by omega)
      have hs := fun (W : World) (h : Rd W W.heap.size A1 n1 (x1.map bv)) => seal_ok no A1 n1 c1 x1 W (by omega) h (by omega)
      obtain ⟨k, hk, hk2⟩ : ∃ k : Nat, (at_ : Int) % 509 = (k : Int) ∧ k + 4 ≤ 512 := ⟨at_ % 509, by omega, by omega⟩
      have hpl := page_length no (fill x1) hfl
      have htp := told_page no (fill x1)
      generalize page no (fill x1) = pg at *
      have htl : (turn pg k by_ 4).length = 512 := by rw [turn_length, hpl]
      have hne : ¬ (turn pg k by_ 4 = page no ((turn pg k by_ 4).take 508)) := fun e => told_turn no pg k by_ (by omega) (by omega) hz (by rw [(page_iff no _ htl).1 e, htp])
      have ho := fun (W : World) (h : Rd W W.heap.size (some ⟨0, 0, none⟩) 512 ((turn pg k by_ 4).map bv)) => True
      have hop := fun (W : World) (g c : Nat) (h : Rd W W.heap.size (some ⟨g, 0, none⟩) 512 ((turn pg k by_ 4).map bv)) => open_512 no (some ⟨g, 0, none⟩) c _ W (by omega) h
      simp only [if_neg hne] at hop
      have HS := Lib.hid hs
      have HOP := Lib.hid hop
      have HPL := Lib.hid hpl
      have HTL := Lib.hid htl
      clear ho r1 hs hlx hfl hpl htp htl hne hop hz
      go_enter Try.func5, Try.ntmps5
      go_wp2_with (go_at_call 7; refine (HWK.out _).mono ?_; rintro e wA ⟨rfl, hfA⟩; have HF1 := Lib.hid (HFA.out.trans hfA); have hbA := HBK.out.fresh hfA; have c0 := hbA.cell (i := 0) rfl; have c1 := hbA.cell (i := 1) rfl; clear hfA hbA)
      go_region
      clear c0 c1
      go_wp2_with (go_at_call 8; ((refine (HS.out _ (HR1.out.fresh (HF1.out.trans (Fresh.drew _)))).mono ?_); rintro e w2 ⟨g, rfl, hg, hf2, hb2⟩; have HF2 := Lib.hid ((HF1.out.trans (Fresh.drew _)).trans hf2); have HG := Lib.hid (Nat.le_trans (HF1.out.trans (Fresh.drew _)).size hg); have HB2 := Lib.hid hb2; clear hf2 hg hb2))
      rw [hk]
      clear hk
      go_loopw [38] (fun i wr => ∃ j : Nat, j ≤ 4 ∧ i = .int .i64 j ∧ Bk wr g tSheet ((turn pg k by_ j).map bv) ∧ Fresh w wr) (fun i _ => 4 - (intOf i).toNat)
      case atStart => exact ⟨0, by omega, rfl, HB2.out, HF2.out⟩
      case round =>
        obtain ⟨j, hj, rfl, hb, hf⟩ := hrel
        by_cases hlt : j < 4
        · have hx : pg[k + j]? = some (pg.getD (k + j) 0) := by
            rw [List.getD_eq_getElem?_getD, List.getElem?_eq_getElem (by have := HPL.out; omega)]; rfl
          have hxt : (turn pg k by_ j)[k + j]? = some (pg.getD (k + j) 0) := by rw [turn_ahead _ _ _ _ _ (by omega)]; exact hx
          have hcx : wr.cell? ⟨g, k + j, none⟩ = some (.int .u8 ((pg.getD (k + j) 0).toNat : Nat)) := hb.cell (by rw [List.getElem?_map, hxt]; rfl)
          have hfz := hb.free (k + j)
          have hxb := (pg.getD (k + j) 0).toNat_lt
          have hso := hb.put (k + j) (bv (UInt8.ofNat ((pg.getD (k + j) 0).toNat ^^^ (by_ / 256 ^ j % 256))))
          rw [← List.map_set, bv_turn _ _ _ hxb] at hso
          generalize hX : pg.getD (k + j) 0 = X at *
          have e1 := u8_turn X.toNat by_ j hxb
          have HX := Lib.hid hX
          have HSO := Lib.hid hso
          have HB := Lib.hid hb
          clear hX hso hb hx hxt
          go_wp2
          go_region
          go_wp2
          go_roundw
          case rel => exact ⟨j + 1, by omega, by go_num, by rw [turn, HX.out]; exact HSO.out, (hf.but HG.out (But.put _ _)).trans (Fresh.drew _)⟩
          case measure => simp [intOf]; omega
        · have h4 : j = 4 := by omega
          subst h4
          have HB := Lib.hid hb
          clear hb
          go_wp2_with (go_at_call 10; ((refine (HOP.out wr g 512 ((bk_rd' HB.out HTL.out).up HB.out.inside)).mono ?_); rintro e w5 ⟨hf5, rfl⟩))
          go_ret
          exact ⟨rfl, hf.trans hf5⟩
end Go.Proofs.Yticpplnfgajjnaa.pageTurned
