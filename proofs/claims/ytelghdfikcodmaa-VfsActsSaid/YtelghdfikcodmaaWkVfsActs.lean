/-
  The walk of the law VfsActs. My own text.
-/
import Derived.Test.YtelghdfikcodmaaVfsGreat
import Derived.Deep.RegionHeld3
namespace Go.Proofs.Ytelghdfikcodmaa.vfsActs
open Go.RowKit Go.Maps Go.Proofs.Ytelghdfikcodmaa.base Go.Proofs.Ytelghdfikcodmaa.vfsnum Go.Proofs.Ytelghdfikcodmaa.vfs Go.Proofs.Ytelghdfikcodmaa.vref Go.Proofs.Ytelghdfikcodmaa.vacts
set_option linter.unusedVariables false

abbrev tAct : TypeId := 32
/-- both stores, and the round's variable at block v -/
structure Both (w0 w : World) (f x : Nat) (a : Fs) (fl xl : List Nat) : Prop where
  fs : FsAt w f a fl
  rf : RefAt w x a xl
  ap : ∀ b ∈ fl, b ∉ xl
  f0 : Fresh w0 w
  f1 : ∀ b ∈ fl, w0.heap.size ≤ b
  x1 : ∀ b ∈ xl, w0.heap.size ≤ b
theorem Both.fresh {w0 w w' : World} {f x : Nat} {a : Fs} {fl xl : List Nat} (h : Both w0 w f x a fl xl) (k : Fresh w w') : Both w0 w' f x a fl xl := ⟨h.fs.fresh k, h.rf.fresh k, h.ap, h.f0.trans k, h.f1, h.x1⟩
/-- the store went on, what is told of it not yet -/
structure Mid (w0 w : World) (f x : Nat) (a b : Fs) (fl xl : List Nat) : Prop where
  fs : FsAt w f b fl
  rf : RefAt w x a xl
  ap : ∀ b ∈ fl, b ∉ xl
  f0 : Fresh w0 w
  f1 : ∀ b ∈ fl, w0.heap.size ≤ b
  x1 : ∀ b ∈ xl, w0.heap.size ≤ b
theorem Both.mid {w0 w w' : World} {f x : Nat} {a b : Fs} {fl xl fl' : List Nat} (h : Both w0 w f x a fl xl) (hF : FsAt w' f b fl') (hT : Turn fl fl' w w') : Mid w0 w' f x a b fl' xl :=
  ⟨hF, h.rf.turn hT fun y hy hf => h.ap y hf hy, fun y hy hx => by
    rcases hT.sub y hy with h1 | h1
    · exact h.ap y h1 hx
    · have := h.rf.inside y hx; omega, hT.new h.f0 h.f1, hT.new_sub h.f0 h.f1, h.x1⟩
theorem Mid.both {w0 w w' : World} {f x : Nat} {a b : Fs} {fl xl xl' : List Nat} (h : Mid w0 w f x a b fl xl) (hF : RefAt w' x b xl') (hT : Turn xl xl' w w') : Both w0 w' f x b fl xl' :=
  ⟨h.fs.turn hT h.ap, hF, fun y hy hx => by
    obtain ⟨mb, gs, rfl, hg⟩ := h.fs
    rcases hT.sub y hx with h1 | h1
    · exact h.ap y hy h1
    · have := hg.inside y hy; omega, hT.new h.f0 h.x1, h.f1, hT.new_sub h.f0 h.x1⟩

set_option maxRecDepth 100000 in
set_option maxHeartbeats 8000000 in
theorem vfsActs_walk (a0 : Int) (A1 : Option Addr) (n1 c1 : Nat) (l1 : List VAct) (w : World) (w0 : (Lit.int .i64 a0).wf = true) (b1 : InVActs w A1 n1 c1 l1) :
    Calls Try.prog 3 #[.int .i64 a0, .slice A1 n1 c1] w fun e w' => e = .returned (.bool true) ∧ Below w.heap.size w w' := by
  have hcm := b1.1.2.2.1
  have hnc := b1.1.2.1
  unfold maxLen at hcm
  have hz : -9223372036854775808 ≤ a0 ∧ a0 ≤ 9223372036854775807 := by simpa [Lit.wf, IntKind.min, IntKind.max, IntKind.signed, IntKind.bits] using w0
  have HB := Lib.hid b1
  clear w0 b1
  go_enter Try.func3, Try.ntmps3
  go_upto_region 3 with (go_at_call 9; refine (wakes_any _).mono ?_; rintro e wA ⟨rfl, hfA⟩)
  have hgr := great_any wA A1 n1 c1 l1 ⟨HB.out.1.keep hfA, fun x hx => by
    obtain ⟨h1, h2, h3, h4, h5, h6⟩ := HB.out.2 x hx
    exact ⟨h1, h2, h3, h4, h5, ⟨h6.1.fresh hfA, h6.2⟩⟩⟩
  have HGR := Lib.hid hgr
  clear hgr
  go_wp2_with (go_at_call 10; refine HGR.out.mono ?_; rintro e wG ⟨b, rfl, hfG, hgb⟩; cases b)
  · have hsm := hgb (by trivial)
    have hn80 := hsm.1
    have HSM := Lib.hid hsm.2
    have hfwG := hfA.trans hfG
    clear hsm hgb
    go_wp2_with (first
      | (go_at_call 11; refine (New_any a0 wG hz.1 hz.2).mono ?_; rintro e w1 ⟨f, fl, rfl, hF1, hf1, hfl1⟩)
      | (go_at_call 12; refine (new_r a0 w1 hz.1 hz.2).mono ?_; rintro e w2 ⟨x, xl, rfl, hX2, hf2, hxl2⟩))
    have hB2 : Both wG w2 f x ⟨[], (max 1 (min a0 65536)).toNat, 0, -1, false⟩ fl xl := ⟨hF1.fresh hf2, hX2, fun b hb hx => by have := hF1.inside b hb; have := hxl2 b hx; omega, hf1.trans hf2, hfl1, fun b hb => Nat.le_trans hf1.size (hxl2 b hb)⟩
    have hok0 := new_ok (max 1 (min a0 65536)).toNat (by omega)
    go_loopw [19] (fun i wr => ∃ (j : Nat) (a : Fs) (fl xl : List Nat), j ≤ n1 ∧ i = .int .i64 j ∧ Both wG wr f x a fl xl ∧ FsOk a ∧ a.stamp ≤ j ∧ a.files.length ≤ j) (fun i _ => n1 - (intOf i).toNat)
    case atStart => exact ⟨0, _, fl, xl, Nat.zero_le _, rfl, hB2, hok0, Nat.le_refl _, Nat.le_refl _⟩
    case round =>
      obtain ⟨j, a, fl, xl, hj, rfl, hBo, hok, hst, hfn⟩ := hrel
      by_cases hlt : j < n1
      · obtain ⟨b, off, y, hA, hy, hr⟩ := elem_at (HB.out.1.keep (hfwG.trans hBo.f0)) hlt
        subst hA
        have hym := List.mem_of_getElem? hy
        obtain ⟨q1, q2, q3, q4, q5, q6⟩ := HB.out.2 y hym
        have hy1000 := HSM.out y hym
        have hk : -9223372036854775808 ≤ y.kind ∧ y.kind ≤ 9223372036854775807 := by simpa [Lit.wf, IntKind.min, IntKind.max, IntKind.signed, IntKind.bits] using q1
        have hn : -9223372036854775808 ≤ y.n ∧ y.n ≤ 9223372036854775807 := by simpa [Lit.wf, IntKind.min, IntKind.max, IntKind.signed, IntKind.bits] using q2
        have hvok : VOk y := ⟨hn.1, hn.2, hk.1, hk.2, q3, q4, q5, by omega, q6.2.1, q6.2.2⟩
        have hrd : RdA wr fl y.at_ y.len (y.bs.map bv) := RdA.of_rd (B := wG.heap.size) ((q6.1.fresh hfwG).below hBo.f0 (Nat.le_refl _)) hBo.f0.size hBo.f1
        have hrx : RdA wr xl y.at_ y.len (y.bs.map bv) := RdA.of_rd (B := wG.heap.size) ((q6.1.fresh hfwG).below hBo.f0 (Nat.le_refl _)) hBo.f0.size hBo.x1
        have q7 := q6.1
        clear hy hym q1 q2 q3 q4 q5 q6 hk hn
        have hst2 : a.stamp < 4611686018427387904 := by omega
        have hfl2 : a.files.length ≤ 1048576 := by omega
        have hok2 := actF_ok (x := y) hok hvok
        have hgw := actF_grew a y
        obtain ⟨kd, n, nm, to_, xA, xn, xc, xb, kp⟩ := y
        simp only [VAct.cells] at hr
        have HR := Lib.hid hr
        have HVOK := Lib.hid hvok
        have HGW := Lib.hid hgw
        have HOK2 := Lib.hid hok2
        obtain ⟨v, hv⟩ : ∃ v, wr.heap.size = v := ⟨_, rfl⟩
        obtain ⟨w1, hw1⟩ : ∃ w1, wr.alloc (.cells #[.int .i64 kd, .int .i64 n, .string nm, .string to_, .slice xA xn xc, .int .u64 kp] tAct) = w1 := ⟨_, rfl⟩
        have hbk := Bk.made wr tAct #[.int .i64 kd, .int .i64 n, .string nm, .string to_, .slice xA xn xc, .int .u64 kp]
        have hf1 : Fresh wr w1 := by rw [← hw1]; exact Fresh.alloc _ _
        rw [hw1, hv] at hbk
        have hvf : v ∉ fl := fun h => by have := hBo.fs.inside v h; omega
        have hvx : v ∉ xl := fun h => by have := hBo.rf.inside v h; omega
        have hB1 := hBo.fresh hf1
        have hrd1 := hrd.turn (Turn.fresh (S := fl) hf1)
        have hrx1 := hrx.turn (Turn.fresh (S := xl) hf1)
        have hvin := hbk.inside
        have HBK := Lib.hid hbk
        have HB1 := Lib.hid hB1
        obtain ⟨R, hR⟩ : ∃ R, actF a ⟨kd, n, nm, to_, xA, xn, xc, xb, kp⟩ = R := ⟨_, rfl⟩
        have HRR := Lib.hid hR
        have HOK3 := Lib.hid (show FsOk R.2 by rw [← hR]; exact hok2)
        have hgw3 : Grew a R.2 := by rw [← hR]; exact hgw
        have HFL3 := Lib.hid (show R.2.files.length ≤ 1048576 by have := hgw3.2; omega)
        have HGW3 := Lib.hid hgw3
        have hdo := do_any w1.drew f a fl ⟨kd, n, nm, to_, xA, xn, xc, xb, kp⟩ (hB1.fs.fresh (Fresh.drew w1)) hok hst2 hfl2 hvok (hrd1.turn (Turn.fresh (S := fl) (Fresh.drew w1)))
        rw [hR] at hdo
        have HDO := Lib.hid hdo
        have htold : ∀ w2 fl2, Mid wG w2 f x a R.2 fl2 xl → Turn fl fl2 w1.drew w2 → Calls Try.prog 14 #[.pointer (some ⟨x, 0, none⟩), .agg (VAct.cells ⟨kd, n, nm, to_, xA, xn, xc, xb, kp⟩).toArray] w2 (RDid w2 x xl R) := fun w2 fl2 hM hT => by
          rw [← hR]
          refine told_any w2 x a xl _ hM.rf hok hst2 hfl2 hvok ?_
          exact RdA.of_rd (B := wG.heap.size) ((q7.fresh hfwG).below hM.f0 (Nat.le_refl _)) hM.f0.size hM.x1
        have HTOLD := Lib.hid htold
        have hcc0 : w1.cell? ⟨v, 0, none⟩ = some (.int .i64 kd) := hbk.cell rfl
        have hcc1 : w1.cell? ⟨v, 1, none⟩ = some (.int .i64 n) := hbk.cell rfl
        have hcc2 : w1.cell? ⟨v, 2, none⟩ = some (.string nm) := hbk.cell rfl
        have hcc3 : w1.cell? ⟨v, 3, none⟩ = some (.string to_) := hbk.cell rfl
        have hcc4 : w1.cell? ⟨v, 4, none⟩ = some (.slice xA xn xc) := hbk.cell rfl
        have hcc5 : w1.cell? ⟨v, 5, none⟩ = some (.int .u64 kp) := hbk.cell rfl
        clear hr hvok hgw hgw3 hok2 hbk hB1 hR hdo htold hrd hrx hrd1 hrx1
        go_upto_region 9 with ((with_reducible (refine at_slot_ 22 ?_)); refine wpList_load_mid rfl tAct (.tmp 21) rfl b (off + j * 6) rfl _ _ HR.out Try.underlying32 rfl vactInfo ?_)
        go_region_held3 (fun w' => w'.cell? ⟨v, 0, none⟩ = some (.int .i64 kd) ∧ w'.cell? ⟨v, 1, none⟩ = some (.int .i64 n) ∧ w'.cell? ⟨v, 2, none⟩ = some (.string nm) ∧ w'.cell? ⟨v, 3, none⟩ = some (.string to_) ∧ w'.cell? ⟨v, 4, none⟩ = some (.slice xA xn xc) ∧ w'.cell? ⟨v, 5, none⟩ = some (.int .u64 kp))
          (first | exact ⟨hcc0, hcc1, hcc2, hcc3, hcc4, hcc5⟩ | exact HC2.out | exact HC3.out | exact HC4.out)
          (first
            | (go_at_call 13; (refine HDO.out.mono ?_); rintro e w2 ⟨rfl, fl2, hF2, hT2⟩; have hM2 := (HB1.out.fresh (Fresh.drew w1)).mid hF2 hT2; have hbk2 := Bk.old (HBK.out.fresh (Fresh.drew w1)) (hT2.block v hvin hvf); have HC2 := Lib.hid (show w2.cell? ⟨v, 0, none⟩ = some (.int .i64 kd) ∧ w2.cell? ⟨v, 1, none⟩ = some (.int .i64 n) ∧ w2.cell? ⟨v, 2, none⟩ = some (.string nm) ∧ w2.cell? ⟨v, 3, none⟩ = some (.string to_) ∧ w2.cell? ⟨v, 4, none⟩ = some (.slice xA xn xc) ∧ w2.cell? ⟨v, 5, none⟩ = some (.int .u64 kp) from ⟨hbk2.cell rfl, hbk2.cell rfl, hbk2.cell rfl, hbk2.cell rfl, hbk2.cell rfl, hbk2.cell rfl⟩))
            | (go_at_call 14; (refine (HTOLD.out w2 fl2 hM2 hT2).mono ?_); rintro e w3 ⟨rfl, xl3, hX3, hT3⟩; have hB3 := hM2.both hX3 hT3; have hbk3 := hbk2.old (hT3.block v hbk2.inside hvx); have HC3 := Lib.hid (show w3.cell? ⟨v, 0, none⟩ = some (.int .i64 kd) ∧ w3.cell? ⟨v, 1, none⟩ = some (.int .i64 n) ∧ w3.cell? ⟨v, 2, none⟩ = some (.string nm) ∧ w3.cell? ⟨v, 3, none⟩ = some (.string to_) ∧ w3.cell? ⟨v, 4, none⟩ = some (.slice xA xn xc) ∧ w3.cell? ⟨v, 5, none⟩ = some (.int .u64 kp) from ⟨hbk3.cell rfl, hbk3.cell rfl, hbk3.cell rfl, hbk3.cell rfl, hbk3.cell rfl, hbk3.cell rfl⟩))
            | (go_at_call 15; (refine (same_any w3 f x R.2 fl2 xl3 hB3.fs hB3.rf HOK3.out HFL3.out).mono ?_); rintro e w4 ⟨rfl, hf4⟩; have hB4 := hB3.fresh hf4; have hbk4 := hbk3.fresh hf4; have HC4 := Lib.hid (show w4.cell? ⟨v, 0, none⟩ = some (.int .i64 kd) ∧ w4.cell? ⟨v, 1, none⟩ = some (.int .i64 n) ∧ w4.cell? ⟨v, 2, none⟩ = some (.string nm) ∧ w4.cell? ⟨v, 3, none⟩ = some (.string to_) ∧ w4.cell? ⟨v, 4, none⟩ = some (.slice xA xn xc) ∧ w4.cell? ⟨v, 5, none⟩ = some (.int .u64 kp) from ⟨hbk4.cell rfl, hbk4.cell rfl, hbk4.cell rfl, hbk4.cell rfl, hbk4.cell rfl, hbk4.cell rfl⟩)))
        have hg3 := HGW3.out
        have HOKR := HOK3.out
        go_wp2
        go_roundw
        case rel => exact ⟨j + 1, R.2, fl2, xl3, by omega, by go_num, hB4, HOKR, by have := hg3.1; omega, by have := hg3.2; omega⟩
        case measure => simp [intOf]; omega
      · go_wp2
        go_ret
        exact ⟨rfl, hfwG.trans hBo.f0⟩
  · go_wp2
    go_ret
    exact ⟨rfl, hfA.trans hfG⟩
end Go.Proofs.Ytelghdfikcodmaa.vfsActs
