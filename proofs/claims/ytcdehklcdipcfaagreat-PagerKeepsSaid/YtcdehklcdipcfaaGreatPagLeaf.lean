import Derived.Test.YtcdehklcdipcfaaGreatMgCr
import Derived.Test.YtcdehklcdipcfaaGreatMgNm
import Derived.Test.YtcdehklcdipcfaaGreatMgVa
import Derived.Test.YtcdehklcdipcfaaGreatMgLf
import Derived.Test.YtcdehklcdipcfaaGreatTurn
import Derived.Laws.Cover3
import Derived.ChangeKeysEq
import Derived.Laws.StructEq
import Derived.Deep.RegionLaw
import Derived.Deep.RegionHeld3
/-
  page's small functions: may, a sheet's sum; ref15.Fits. My own text.
-/
namespace Go.Proofs.YtcdehklcdipcfaaGreat.pagp
open Go.RowKit Go.Proofs.YtcdehklcdipcfaaGreat.base Go.Proofs.YtcdehklcdipcfaaGreat.num Go.Proofs.YtcdehklcdipcfaaGreat.word Go.Proofs.YtcdehklcdipcfaaGreat.pagn
set_option linter.unusedVariables false

abbrev tSheet : TypeId := 153
abbrev tInt : TypeId := 3
def sheetV (cs : List UInt8) : Value := .agg (cs.map bv).toArray
def zs : List UInt8 := List.replicate 512 0
theorem sheetZero (w : World) : (zeroValue tSheet).run Tryz.prog w = .ok (sheetV zs) w := by kernel_rfl
theorem size_sheet : (Tryz.prog.info? tSheet).map (·.size) = some 512 := by kernel_rfl
theorem size_byte : (Tryz.prog.info? 5).map (·.size) = some 1 := by kernel_rfl
theorem st_slot_ {P : Program} {ops : Array Oper} {a : Act} {w : World} {K : Act → World → Prop} {Q : Exit → Act → World → Prop} {E : Prop} {t : TypeId} (d : Nat) {op : Op} {ps : String} {af gd} (h : if Region.wanted (⟨some d, op, t, ps, af, gd⟩ : Oper) (yielded ops a.tmps) = true then Oper.wp P ⟨some d, op, t, ps, af, gd⟩ a w K Q else E) :
    if Region.wanted (⟨some d, op, t, ps, af, gd⟩ : Oper) (yielded ops a.tmps) = true then Oper.wp P ⟨some d, op, t, ps, af, gd⟩ a w K Q else E := h

/-- may a number be a page's? -/
def fit (z : Int) : Bool := decide (0 ≤ z ∧ z < 16777216)
theorem fits3 (z : Int) : word.fits (word.wide 3) [z] = fit z := by
  have : word.wide 3 = 3 := by decide
  rw [this]
  simp [word.fits, fit]
theorem one_wf {z : Int} (h : (Lit.int .i64 z).wf = true) : ∀ y ∈ [z], (Lit.int .i64 y).wf = true := by
  intro y hy
  rw [List.mem_singleton] at hy
  subst hy
  exact h
theorem may_any (z : Int) (w : World) (hz : (Lit.int .i64 z).wf = true) : Calls Tryz.prog 125 #[.int .i64 z] w fun e w' => e = .returned (.bool (fit z)) ∧ Fresh w w' := by
  have hf := one_wf hz
  have hr := Rd.lit w #[.int .i64 z] tInt
  have hb := fits3 z
  generalize fit z = b at *
  have HH := Lib.hid (show ∀ A n c, A = some ⟨w.heap.size, 0, none⟩ → n = 1 → Calls Tryz.prog 121 #[.int .i64 3, .slice A n c] (w.alloc (.cells #[.int .i64 z] tInt)) fun e w' => e = .returned (.bool b) ∧ _ = w' from fun A n c hA hn => by subst hA; subst hn; exact word.fits_is _ 1 c [z] 3 _ _ b hr (by unfold maxLen; omega) hf hb)
  clear hb hr hf
  go_enter Tryz.func125, Tryz.ntmps125
  go_wp2_with (go_at_call 121; refine (HH.out _ _ _ rfl rfl).mono ?_; rintro e w' ⟨rfl, rfl⟩)
  go_ret
  exact ⟨rfl, Fresh.alloc _ _⟩

theorem u64_nat (a : Nat) (h : a < 9223372036854775808) : u64 (a : Int) = a := by unfold u64; omega
theorem put4 (W : World) (no g : Nat) (hn : no < 4294967296) (hg : g = W.heap.size) : Calls Tryz.prog 57 #[.slice none 0 0, .int .i64 4, .slice (some ⟨g, 0, none⟩) 1 1] (W.alloc (.cells #[.int .i64 no] tInt)) fun e w' =>
    ∃ A' c', e = .returned (.slice A' 4 c') ∧ Fresh W w' ∧ Rd w' w'.heap.size A' 4 ((low 4 no).map bv) := by
  subst hg
  refine (put_is none 0 0 [] 4 _ 1 1 [(no : Int)] _ 0 (W.heap.size + 1) 4 (low 4 no) (Rd.nil _ _ _) (Nat.zero_le _) (Rd.lit W #[.int .i64 no] tInt) (by simp) (one_wf (WalkArith.wf_i64 ⟨by omega, by omega⟩)) (by omega) (by omega) (by decide) ?_).mono ?_
  · have : word.wide 4 = 4 := by decide
    rw [this]
    simp [puts, u64_nat no (by omega)]
  · rintro e w' ⟨A', c', rfl, hf, ho⟩
    exact ⟨A', c', rfl, (Fresh.alloc _ _).trans hf, ho.rd⟩

theorem bk_rd {w : World} {g : Nat} {t : TypeId} {xs : List UInt8} (h : Bk w g t (xs.map bv)) (off n : Nat) (hn : off + n ≤ xs.length) : Rd w (g + 1) (some ⟨g, off, none⟩) n (((xs.drop off).take n).map bv) := by
  refine ⟨by rw [List.length_map, List.length_take, List.length_drop]; omega, fun _ => ⟨g, off, rfl, by omega, fun j u hu => h.cell ?_⟩⟩
  rw [List.map_take, List.map_drop, List.getElem?_take] at hu
  split at hu
  · rwa [List.getElem?_drop] at hu
  · cases hu

theorem bk_rd' {w : World} {g n : Nat} {t : TypeId} {xs : List UInt8} (h : Bk w g t (xs.map bv)) (hn : xs.length = n) : Rd w (g + 1) (some ⟨g, 0, none⟩) n (xs.map bv) := by
  have := bk_rd h 0 n (by omega)
  rwa [List.drop_zero, List.take_of_length_le (by omega)] at this

theorem Rd.src {w : World} {B n : Nat} {A : Option Addr} {xs : List UInt8} (h : Rd w B A (n + 1) (xs.map bv)) : ∃ ad, A = some ad ∧ ∀ j v, (xs.map bv)[j]? = some v → w.cell? (ad.add j) = some v := by
  obtain ⟨b, off, rfl, hb, hc⟩ := h.2 (by omega)
  exact ⟨_, rfl, fun j v hv => by rw [Addr.add_mid]; exact hc j v hv⟩

theorem Rd.src' {w : World} {B n : Nat} {A : Option Addr} {xs : List UInt8} (h : Rd w B A n (xs.map bv)) (hn : 0 < n) : ∃ ad, A = some ad ∧ ∀ j v, (xs.map bv)[j]? = some v → w.cell? (ad.add j) = some v := by
  obtain ⟨b, off, rfl, hb, hc⟩ := h.2 hn
  exact ⟨_, rfl, fun j v hv => by rw [Addr.add_mid]; exact hc j v hv⟩

/-- copy into a block that is known whole, as one step of a region that draws -/
theorem step_copy_blk {P : Program} {ops : Array Oper} {o : Oper} {a : Act} {w : World} {K : Act → World → Prop} {Q : Exit → Act → World → Prop} {E : Prop} (hgd : o.guard = none) (d s : Operand) (dT sT : TypeId)
    (ho : o.op = .call { callee := .builtin .copy, args := #[d, s], argTypes := #[dT, sT] }) (elem : TypeId) (hu : P.underlying dT = some (.slice elem)) (hsz : (P.info? elem).map (·.size) = some 1)
    (g off dLen dCap : Nat) (A : Option Addr) (sLen sCap : Nat) (hd : a.eval d = .slice (some ⟨g, off, none⟩) dLen dCap) (hs : a.eval s = .slice A sLen sCap)
    (cur : List Value) (t : TypeId) (hg : Bk w g t cur) (vs : List Value) (k : Nat) (hk : vs.length = k) (hn : vs.length = Nat.min sLen dLen)
    (hsrc : ∃ ad, A = some ad ∧ ∀ j v, vs[j]? = some v → w.cell? (ad.add j) = some v) (hfit : off + vs.length ≤ cur.length) (h1 : ∀ v ∈ vs, v.oneCell' = true)
    (h : ∀ w', Bk w' g t (splice cur off vs) → But g w w' → K (a.put o.dst (.int .i64 (k : Nat))) w') :
    if Region.wanted o (yielded ops a.tmps) = true then Oper.wp P o a w K Q else E := by
  have hw : Region.wanted o (yielded ops a.tmps) = true := by simp [Region.wanted, hgd]
  rw [if_pos hw]
  subst hk
  obtain ⟨ad, rfl, hc⟩ := hsrc
  have hg' : w.heap[g]? = some (.cells cur.toArray t (0, 0)) := hg
  have hrun := run_copy_row (P := P) w dT sT o.type elem g off dLen dCap ad sLen sCap cur.toArray t vs hu hsz hg' hn hc (by simpa using hfit) h1
  unfold Oper.wp
  simp [execOp, ho, resolve, invoke, builtin, hd, hs, hrun, Result.andThen]
  have h2 := hg.row (cur.toArray.toList.take off ++ (vs ++ cur.toArray.toList.drop (off + vs.length))).toArray
  exact h _ (by simpa [splice] using h2) (But.setRow w _)

theorem bv_ones (xs : List UInt8) : ∀ v ∈ xs.map bv, v.oneCell' = true := fun v hv => by
  obtain ⟨x, _, rfl⟩ := List.mem_map.1 hv
  rfl

set_option maxRecDepth 100000 in
theorem sealed_any (cs : List UInt8) (no : Nat) (w : World) (hcs : cs.length = 512) (hno : no < 16777216) :
    Calls Tryz.prog 126 #[sheetV cs, .int .i64 no] w fun e w' => e = .returned (sheetV (page no (cs.take 508))) ∧ Fresh w w' := by
  have hb0 := Bk.made w tSheet (cs.map bv).toArray
  have hz := sheetZero
  have hp : page no (cs.take 508) = cs.take 508 ++ low 4 (crcnum.sum (low 4 no ++ cs.take 508)) := rfl
  have hs := crcnum.sum_lt (low 4 no ++ cs.take 508)
  generalize hS : crcnum.sum (low 4 no ++ cs.take 508) = S at *
  have HP := Lib.hid hp
  have HS := Lib.hid hS
  generalize page no (cs.take 508) = pg at *
  rw [List.toList_toArray] at hb0
  have HCS := Lib.hid hcs
  unfold sheetV at hz
  unfold sheetV
  generalize hX : (cs.map bv).toArray = X at *
  generalize hZZ : (zs.map bv).toArray = Z at *
  have hb1 := (hb0.alloc (.cells Z tSheet))
  have hb2 := Bk.made (w.alloc (.cells X tSheet)) tSheet Z
  rw [World.size_alloc] at hb2
  have hF := (Fresh.alloc w (.cells X tSheet)).trans (Fresh.alloc _ (.cells Z tSheet))
  have hlt : w.heap.size + 2 = ((w.alloc (.cells X tSheet)).alloc (.cells Z tSheet)).heap.size := by simp
  clear hS hp hcs hb0
  go_enter Tryz.func126, Tryz.ntmps126
  go_wp2
  generalize (w.alloc (Obj.cells X tSheet)).alloc (Obj.cells Z tSheet) = V at *
  obtain ⟨g, hg⟩ : ∃ g, w.heap.size = g := ⟨_, rfl⟩
  rw [hg] at hb1 hb2 hlt
  rw [hg]
  have pu := put4 V.drew no V.heap.size (by omega) rfl
  have HPU := Lib.hid (show Calls Tryz.prog 57 #[.slice none 0 0, .int .i64 4, .slice (some ⟨V.heap.size, 0, none⟩) 1 1] (V.alloc (.cells #[.int .i64 no] tInt)).drew fun e w' =>
    ∃ A' c', e = .returned (.slice A' 4 c') ∧ Fresh V w' ∧ Rd w' w'.heap.size A' 4 ((low 4 no).map bv) from pu.mono fun e w' ⟨A', c', h1, h2, h3⟩ => ⟨A', c', h1, (Fresh.drew V).trans h2, h3⟩)
  have of_ := fun (W : World) (A : Option Addr) (c : Nat) (hA : Rd W W.heap.size A 4 ((low 4 no).map bv)) (hW : Bk W g tSheet (cs.map bv)) =>
    crc.of_two A (some ⟨g, 0, none⟩) 4 508 c 512 (low 4 no) (cs.take 508) W W.heap.size S hA ((bk_rd hW 0 508 (by rw [HCS.out]; omega)).up hW.inside) (Nat.le_refl _) (by omega) (by omega) HS.out W.heap.size rfl
  have HOF := Lib.hid of_
  have HB1 := Lib.hid hb1
  have HB2 := Lib.hid hb2
  have HFF := Lib.hid hF
  have HLT := Lib.hid hlt
  have hgb : (g : Nat) < V.heap.size := hb1.inside
  clear pu of_ hb1 hb2 hF hlt
  go_region_law (first
    | ((with_reducible refine st_slot_ 8 ?_); go_simp; (refine HPU.out.mono ?_); rintro e w4 ⟨A4, c4, rfl, hf4, hr4⟩; have HF4 := Lib.hid hf4; have HR4 := Lib.hid hr4; clear hf4 hr4)
    | ((with_reducible refine st_slot_ 11 ?_); go_simp; (refine (HOF.out w4 A4 c4 HR4.out (HB1.out.fresh HF4.out)).mono ?_); rintro e w5 ⟨rfl, hf5⟩; have HF5 := Lib.hid ((HF4.out.trans (Fresh.alloc _ _)).trans hf5); clear hf5))
  go_wp2
  have pu := put4 w5.drew S w5.heap.size hs rfl
  have HPU2 := Lib.hid (show Calls Tryz.prog 57 #[.slice none 0 0, .int .i64 4, .slice (some ⟨w5.heap.size, 0, none⟩) 1 1] (w5.alloc (.cells #[.int .i64 S] tInt)).drew fun e w' =>
    ∃ A' c', e = .returned (.slice A' 4 c') ∧ Fresh w5 w' ∧ Rd w' w'.heap.size A' 4 ((low 4 S).map bv) from pu.mono fun e w' ⟨A', c', h1, h2, h3⟩ => ⟨A', c', h1, (Fresh.drew w5).trans h2, h3⟩)
  have hZl : Z.toList.length = 512 := by rw [← hZZ, List.toList_toArray, List.length_map]; rfl
  have hsp : splice (cs.map bv) 508 ((low 4 S).map bv) = pg.map bv := by
    rw [HP.out, splice, List.map_append, List.length_map, low_length, List.map_take, List.drop_of_length_le (by rw [List.length_map, HCS.out]; omega), List.append_nil]
  have hpl : (pg.map bv).length = 512 := by rw [List.length_map, HP.out, List.length_append, low_length, List.length_take, HCS.out]; rfl
  have hsp2 : splice Z.toList 0 (pg.map bv) = pg.map bv := by
    rw [splice, List.take_zero, List.nil_append, List.drop_of_length_le (by rw [hpl, hZl]; omega), List.append_nil]
  have HSP := Lib.hid hsp
  have HSP2 := Lib.hid hsp2
  have HPL := Lib.hid hpl
  have HZL := Lib.hid hZl
  have hS2 : IntKind.i64.wrap (S : Int) = (S : Int) := by rw [IntKind.wrap_i64]; omega
  clear pu hsp hsp2 hpl hZl hs
  go_region_law (first
    | ((with_reducible refine st_slot_ 16 ?_); go_simp; (refine HPU2.out.mono ?_); rintro e w6 ⟨A6, c6, rfl, hf6, hr6⟩; have HF6 := Lib.hid (HF5.out.trans hf6); have HR6 := Lib.hid hr6; clear hf6 hr6)
    | ((with_reducible refine st_slot_ 17 ?_); (refine step_copy_blk (by rfl) (.tmp 12) (.tmp 16) 32 32 (by rfl) 5 Tryz.underlying32 size_byte g 508 4 4 A6 4 c6 (by rfl) (by rfl) (cs.map bv) tSheet (HB1.out.fresh HF6.out) ((low 4 S).map bv) 4 (by rw [List.length_map, low_length]) (by rw [List.length_map, low_length]; rfl) (Rd.src HR6.out) (by rw [List.length_map, List.length_map, low_length, HCS.out]; omega) (bv_ones _) ?_); intro w7 hg7 hb7; rw [HSP.out] at hg7; have HG7 := Lib.hid hg7; have HB7 := Lib.hid hb7; clear hg7 hb7))
  have hr7 : Bk w7 (g + 1) tSheet Z.toList := Bk.grown (HB2.out.fresh HF6.out) HB7.out (fun e => by injection e; omega)
  have hF7 : Fresh w w7 := (HFF.out.trans HF6.out).but (by omega) HB7.out
  have HR7 := Lib.hid hr7
  have HF7 := Lib.hid hF7
  clear hr7 hF7
  go_wp2_with (first
    | ((with_reducible refine at_slot_ 18 ?_); refine wpList_load_row (o := ⟨some 18, _, _, _, _, _⟩) rfl tSheet (.tmp 2) rfl g rfl tSheet (pg.map bv).toArray (0, 0) _ HG7.out Tryz.underlying153 rfl (by rw [size_sheet, List.size_toArray, HPL.out]) ?_)
    | ((with_reducible refine at_store_ 4 18 ?_); refine wpList_store_blk rfl tSheet (.tmp 4) (.tmp 18) rfl (g + 1) 0 tSheet Z.toList (pg.map bv) rfl rfl HR7.out (by rw [HPL.out, HZL.out]; omega) (bv_ones _) (by rw [size_sheet, HPL.out]) ?_; intro w8 hg8 hb8; rw [HSP2.out] at hg8))
  exact bodyPost_ret (results_cell_row (p := 4) (by kernel_rfl) _ _ (g + 1) tSheet (pg.map bv).toArray (0, 0) _ rfl hg8 Tryz.underlying153 rfl (by rw [size_sheet, List.size_toArray, HPL.out])) rfl ⟨rfl, HF7.out.but (by omega) hb8⟩
end Go.Proofs.YtcdehklcdipcfaaGreat.pagp
