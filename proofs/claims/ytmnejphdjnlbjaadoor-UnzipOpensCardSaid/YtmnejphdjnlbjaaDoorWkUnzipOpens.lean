/-
  The walk of the law UnzipOpens. My own text.
-/
import Derived.Test.YtmnejphdjnlbjaaDoorUnzWak
import Derived.Test.YtmnejphdjnlbjaaDoorUnzRop
import Derived.Test.YtmnejphdjnlbjaaDoorOpen
import Derived.Laws.StructEq
namespace Go.Proofs.YtmnejphdjnlbjaaDoor.unzipOpens
open Go.RowKit Go.Proofs.YtmnejphdjnlbjaaDoor.base Go.Proofs.YtmnejphdjnlbjaaDoor.namp Go.Proofs.YtmnejphdjnlbjaaDoor.unz Go.Proofs.YtmnejphdjnlbjaaDoor.unzp
set_option linter.unusedVariables false
theorem eq_file (s : ByteArray) (a b c d e f : Int) (W : World) : (Op.equalIn 10000 tFile (.agg #[.string s, iv a, iv b, .int .u32 c, iv d, iv e, iv f]) (.agg #[.string s, iv a, iv b, .int .u32 c, iv d, iv e, iv f])).run Tryd.prog W = .ok true W := by
  have u3 := Tryd.underlying3
  have a3 := Tryd.isAgg3
  have z3 := Tryd.sizeOf3
  have u4 := Tryd.underlying9
  have a4 := Tryd.isAgg9
  have z4 := Tryd.sizeOf9
  have u5 := Tryd.underlying32
  have a5 := Tryd.isAgg32
  have z5 := Tryd.sizeOf32
  have hS : Tryd.prog.underlying tFile = some (.struct (Tryd.prog.fieldsOf tFile)) := by kernel_rfl
  have hp : Tryd.prog.stoodInHeld tFile = false := by kernel_rfl
  rw [show (10000 : Nat) = 9999 + 1 from rfl, run_equalIn_agg W 9999 tFile _ _ hS hp]
  simp only [Program.fieldsOf, Tryd.underlying34]
  go_simp
theorem guard_file (op : BinOp) (x y : Operand) (s : ByteArray) (a b c d e f : Int) (W : World) : (eqGuard op tFile x y (.agg #[.string s, iv a, iv b, .int .u32 c, iv d, iv e, iv f]) (.agg #[.string s, iv a, iv b, .int .u32 c, iv d, iv e, iv f])).run Tryd.prog W = .ok () W := run_eqGuard_agg W op _ x y _ _ (by kernel_rfl)
set_option maxRecDepth 100000 in
set_option maxHeartbeats 16000000 in
theorem unzipOpens_walk (A0 : Option Addr) (n0 c0 : Nat) (x0 : List UInt8) (w : World) (b0 : InBytes w A0 n0 c0 x0) (hU : Laid w) :
    Calls Tryd.prog 3 #[.slice A0 n0 c0] w fun e w' => e = .returned (.bool true) ∧ Below w.heap.size w w' := by
  obtain ⟨i0, hi0, hz0, hz1, hz2⟩ := info_parts byteInfo
  obtain ⟨hr, hc, hcm⟩ := b0
  have HW := Lib.hid (unzp.wakes_any w hU)
  by_cases hbig : 5000 < n0
  · have t1 : decide ((n0 : Int) > 5000) = true := by rw [decide_eq_true_iff]; omega
    have t2 : decide (5000 < (n0 : Int)) = true := by rw [decide_eq_true_iff]; omega
    clear hr hc hcm hbig hU
    go_enter Tryd.func3, Tryd.ntmps3
    go_wp2_with (go_at_call 5; ((with_reducible refine HW.out.mono ?_); rintro e w1 ⟨rfl, hf1⟩))
    go_ret
    exact ⟨rfl, hf1⟩
  have t1 : decide ((n0 : Int) > 5000) = false := by rw [decide_eq_false_iff_not]; omega
  have t2 : decide (5000 < (n0 : Int)) = false := by rw [decide_eq_false_iff_not]; omega
  have hnb : n0 ≤ 5000 := by omega
  have hop := fun (W : World) (A : Option Addr) (c : Nat) (h : Rd W W.heap.size A n0 (x0.map bv)) (hcc : n0 ≤ c) (hm : c ≤ maxLen) (hl : Laid W) => open_any A n0 c x0 W _ h (Nat.le_refl _) hcc hm (by omega) hl
  have hrop := fun (W : World) (hf : Fresh w W) => refOpen_any A0 n0 c0 x0 W w.heap.size (hr.below hf (Nat.le_refl _)) hf.size hc hcm (by omega)
  have hsame := fun (W : World) (A : Option Addr) (c : Nat) (h : Rd W W.heap.size A n0 (x0.map bv)) (hf : Fresh w W) => same_gen A A0 n0 n0 c c0 x0 x0 W _ w.heap.size h (hr.below hf (Nat.le_refl _)) (by omega) (by omega) true (by simp)
  have HU := Lib.hid hU
  have HR := Lib.hid hr
  have HSM := Lib.hid hsame
  have HNB := Lib.hid hnb
  cases hres : opn x0 with
  | error k =>
    have hopk : ∀ (W : World) (A : Option Addr) (c : Nat), Rd W W.heap.size A n0 (x0.map bv) → n0 ≤ c → c ≤ maxLen → Laid W → Calls Tryd.prog 6 #[.slice A n0 c] W fun e w' => Fresh W w' ∧ e = .returned (.tuple #[.slice none 0 0, .int .i64 (k : Nat)]) := fun W A c h1 h2 h3 h4 => hop W A c h1 h2 h3 h4 _ hres
    have hropk : ∀ W, Fresh w W → Calls Tryd.prog 7 #[.slice A0 n0 c0] W fun e w' => Fresh W w' ∧ e = .returned (.agg #[.slice none 0 0, iv (k : Nat)]) := fun W hf => hrop W hf _ hres
    have HOP := Lib.hid hopk
    have HROP := Lib.hid hropk
    have tk : ((k : Int) != (k : Int)) = false := by simp
    clear hop hrop hsame hopk hropk hr hc hcm hbig hU hnb hres
    go_enter Tryd.func3, Tryd.ntmps3
    go_wp2_with (first
      | (go_at_call 5; ((with_reducible refine HW.out.mono ?_); rintro e w1 ⟨rfl, hf1⟩; have HF1 := Lib.hid hf1; clear hf1))
      | (at_builtin; refine wpList_append_rd _ rfl _ _ 22 rfl w1.heap.size 5 i0 _ 1 Tryd.underlying22 hi0 hz0 hz1 hz2 rfl (some ⟨w1.heap.size, 0, none⟩) 0 0 [] rfl (Own.made w1 5 #[] 0 rfl (Nat.zero_le _)) w.heap.size A0 n0 c0 (x0.map bv) rfl ((HR.out.below HF1.out (Nat.le_refl _)).below (Fresh.alloc w1 (.cells #[] 5)) HF1.out.size) (bv_one _) (by have := HNB.out; unfold maxLen; omega) (by have := HNB.out; omega) (by simp) ?_; intro A2 c2 w2 ho2 hg2; have HX2 := Lib.hid (Fresh.append (Fresh.alloc w1 (.cells #[] 5)) (Own.made w1 5 #[] 0 rfl (Nat.zero_le _)) (Nat.le_refl _) hg2); have HF2 := Lib.hid (Fresh.trans HF1.out HX2.out); have hcap2 := ho2.cap; have hrd2 : Rd w2 w2.heap.size A2 n0 (x0.map bv) := (by have h := Own.rd ho2; rwa [Nat.zero_add, List.nil_append] at h); have HO2 := Lib.hid hrd2; have HC2 : RowKit.Hid (n0 ≤ c2 ∧ c2 ≤ maxLen) := (by rw [Nat.zero_add] at hcap2; exact hcap2); clear ho2 hg2 hrd2 hcap2)
      | (go_at_call 6; ((with_reducible refine (HOP.out w2 A2 c2 HO2.out HC2.out.1 HC2.out.2 (HU.out.fresh HF2.out)).mono ?_); rintro e w3 ⟨hf3, rfl⟩; have HF3 := Lib.hid (HF2.out.trans hf3); have HO3 := Lib.hid (HO2.out.fresh hf3); clear hf3))
      | (go_at_call 7; ((with_reducible refine (HROP.out w3 HF3.out).mono ?_); rintro e w4 ⟨hf4, rfl⟩; have hal4 := hf4.trans (Fresh.alloc w4 (.cells #[.slice none 0 0, iv (k : Nat)] tOpened)); have HF4 := Lib.hid (HF3.out.trans hal4); have HS4 := Lib.hid (HSM.out _ A2 c2 (HO3.out.fresh hal4) HF4.out); clear hf4 hal4))
      | (go_at_call 8; ((with_reducible refine HS4.out.mono ?_); rintro e w5 ⟨rfl, hf5⟩; have HF5 := Lib.hid (HF4.out.trans hf5); clear hf5)))
    go_loopw [43] (fun vi wr => vi = .int .i64 0 ∧ Hid (Fresh w wr)) (fun _ _ => 0)
    case atStart => exact ⟨rfl, HF5⟩
    case round =>
      obtain ⟨rfl, HF⟩ := hrel
      go_wp2
      go_ret
      exact ⟨rfl, HF.out⟩
  | ok fs =>
    obtain ⟨L, hL⟩ : ∃ L, fs.length = L := ⟨_, rfl⟩
    have hopk : ∀ (W : World) (A : Option Addr) (c : Nat), Rd W W.heap.size A n0 (x0.map bv) → n0 ≤ c → c ≤ maxLen → Laid W → Calls Tryd.prog 6 #[.slice A n0 c] W fun e w' => Fresh W w' ∧ ∃ A c, e = .returned (.tuple #[.slice A L c, .int .i64 0]) ∧ OwnK w' W.heap.size tFile 7 A L c fileV fs := fun W A c h1 h2 h3 h4 => by rw [← hL]; exact hop W A c h1 h2 h3 h4 _ hres
    have hropk : ∀ W, Fresh w W → Calls Tryd.prog 7 #[.slice A0 n0 c0] W fun e w' => Fresh W w' ∧ ∃ A c, e = .returned (.agg #[.slice A L c, iv 0]) ∧ OwnK w' W.heap.size tFile 7 A L c fileV fs := fun W hf => by rw [← hL]; exact hrop W hf _ hres
    have HOP := Lib.hid hopk
    have HROP := Lib.hid hropk
    have HL := Lib.hid hL
    have tL : ((L : Int) != (L : Int)) = false := by simp
    clear hop hrop hsame hopk hropk hr hc hcm hbig hU hnb hres hL
    go_enter Tryd.func3, Tryd.ntmps3
    go_wp2_with (first
      | (go_at_call 5; ((with_reducible refine HW.out.mono ?_); rintro e w1 ⟨rfl, hf1⟩; have HF1 := Lib.hid hf1; clear hf1))
      | (at_builtin; refine wpList_append_rd _ rfl _ _ 22 rfl w1.heap.size 5 i0 _ 1 Tryd.underlying22 hi0 hz0 hz1 hz2 rfl (some ⟨w1.heap.size, 0, none⟩) 0 0 [] rfl (Own.made w1 5 #[] 0 rfl (Nat.zero_le _)) w.heap.size A0 n0 c0 (x0.map bv) rfl ((HR.out.below HF1.out (Nat.le_refl _)).below (Fresh.alloc w1 (.cells #[] 5)) HF1.out.size) (bv_one _) (by have := HNB.out; unfold maxLen; omega) (by have := HNB.out; omega) (by simp) ?_; intro A2 c2 w2 ho2 hg2; have HX2 := Lib.hid (Fresh.append (Fresh.alloc w1 (.cells #[] 5)) (Own.made w1 5 #[] 0 rfl (Nat.zero_le _)) (Nat.le_refl _) hg2); have HF2 := Lib.hid (Fresh.trans HF1.out HX2.out); have hcap2 := ho2.cap; have hrd2 : Rd w2 w2.heap.size A2 n0 (x0.map bv) := (by have h := Own.rd ho2; rwa [Nat.zero_add, List.nil_append] at h); have HO2 := Lib.hid hrd2; have HC2 : RowKit.Hid (n0 ≤ c2 ∧ c2 ≤ maxLen) := (by rw [Nat.zero_add] at hcap2; exact hcap2); clear ho2 hg2 hrd2 hcap2)
      | (go_at_call 6; ((with_reducible refine (HOP.out w2 A2 c2 HO2.out HC2.out.1 HC2.out.2 (HU.out.fresh HF2.out)).mono ?_); rintro e w3 ⟨hf3, A3, c3, rfl, ho3⟩; have HF3 := Lib.hid (HF2.out.trans hf3); have HO3 := Lib.hid (HO2.out.fresh hf3); have HP3 := Lib.hid ho3; clear hf3 ho3))
      | (go_at_call 7; ((with_reducible refine (HROP.out w3 HF3.out).mono ?_); rintro e w4 ⟨hf4, A4, c4, rfl, ho4⟩; have hfa := Fresh.alloc w4 (.cells #[.slice A4 L c4, iv 0] tOpened); have hal4 := hf4.trans hfa; have HF4 := Lib.hid (HF3.out.trans hal4); have HP4 := Lib.hid (HP3.out.fresh hal4); have HQ4 := Lib.hid (ho4.fresh hfa); have HB4 := Lib.hid (Bk.made w4 tOpened #[.slice A4 L c4, iv 0]); have HS4 := Lib.hid (HSM.out _ A2 c2 (HO3.out.fresh hal4) HF4.out); clear hf4 hal4 hfa ho4))
      | (go_at_call 8; ((with_reducible refine HS4.out.mono ?_); rintro e w5 ⟨rfl, hf5⟩; have HF5 := Lib.hid (HF4.out.trans hf5); have HP5 := Lib.hid (HP4.out.fresh hf5); have HQ5 := Lib.hid (HQ4.out.fresh hf5); have HB5 := Lib.hid (HB4.out.fresh hf5); clear hf5)))
    have hb0 := HB5.out.cell (i := 0) rfl
    have hcp := HP5.out.cap
    have hLm : L ≤ maxLen := Nat.le_trans hcp.1 hcp.2
    unfold maxLen at hLm
    clear hcp
    go_loopw [43] (fun vi wr => ∃ (k q : Nat), vi = .int .i64 (k : Nat) ∧ k ≤ L ∧ wr = w5.drewN q) (fun vi _ => L - (intOf vi).toNat)
    case atStart => exact ⟨0, 0, rfl, Nat.zero_le _, rfl⟩
    case round =>
      obtain ⟨k, q, rfl, hk, rfl⟩ := hrel
      by_cases hlt : k < L
      · have hkl : k < fs.length := by rw [HL.out]; exact hlt
        have hgk : fs[k]? = some fs[k] := List.getElem?_eq_getElem hkl
        obtain ⟨g, rfl, _, _, hl⟩ := HP5.out.at_ fileV_len (by omega) hgk
        obtain ⟨h, rfl, _, _, hrr⟩ := HQ5.out.at_ fileV_len (by omega) hgk
        generalize fs[k] = f at *
        obtain ⟨t, me, dt, cr, cs, si, a⟩ := f
        simp only [fileV] at hl hrr
        generalize (⟨t.toArray⟩ : ByteArray) = s at *
        have ti : decide ((k : Int) < (L : Int)) = true := by rw [decide_eq_true_iff]; omega
        have m0 := hl 0 _ rfl
        have q0 := hrr 0 _ rfl
        have m1 := hl 1 _ rfl
        have q1 := hrr 1 _ rfl
        have m2 := hl 2 _ rfl
        have q2 := hrr 2 _ rfl
        have m3 := hl 3 _ rfl
        have q3 := hrr 3 _ rfl
        have m4 := hl 4 _ rfl
        have q4 := hrr 4 _ rfl
        have m5 := hl 5 _ rfl
        have q5 := hrr 5 _ rfl
        have m6 := hl 6 _ rfl
        have q6 := hrr 6 _ rfl
        rw [Nat.add_zero] at m0 q0
        have heq := fun V => eq_file s me dt cr cs si a V
        have hgd := fun V x y => guard_file .neq x y s me dt cr cs si a V
        clear hl hrr hgk hkl
        go_wp2
        go_quiet (fail)
        go_wp2
        go_roundw
        case rel => exact ⟨k + 1, _, by go_num, by omega, rfl⟩
        case measure => simp [intOf]; omega
      · obtain rfl : k = L := by omega
        have ti : decide ((k : Int) < (k : Int)) = false := by simp
        clear hlt
        go_wp2
        go_ret
        exact ⟨rfl, HF5.out.trans (Fresh.drewN _ _)⟩
end Go.Proofs.YtmnejphdjnlbjaaDoor.unzipOpens
