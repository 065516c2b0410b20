/-
  page.Seal and page.Open. My own text.
-/
import Derived.Test.YtcdehklcdipcfaaGreatPagLeaf
namespace Go.Proofs.YtcdehklcdipcfaaGreat.pagp
open Go.RowKit Go.Proofs.YtcdehklcdipcfaaGreat.base Go.Proofs.YtcdehklcdipcfaaGreat.num Go.Proofs.YtcdehklcdipcfaaGreat.word Go.Proofs.YtcdehklcdipcfaaGreat.pagn
set_option linter.unusedVariables false

theorem plain_byte : Tryz.prog.plainKey 5 = true := by kernel_rfl
theorem part_bv (xs : List UInt8) (i : Nat) (x : UInt8) (h : xs[i]? = some x) (W : World) : (part 5 (xs.map bv).toArray i).run Tryz.prog W = .ok (bv x) W :=
  run_part_plain W plain_byte (by rw [List.getElem?_toArray, List.getElem?_map, h]; rfl)
theorem eq_bv (x y : UInt8) (d : Nat) (W : World) : (Op.equalIn (d + 1) 5 (bv x) (bv y)).run Tryz.prog W = .ok (x == y) W := by
  have u := Tryz.underlying5
  rw [bv, bv, run_equalIn_int W d 5 .u8 .u8 _ _ u]
  have hb : ((x.toNat : Int) == (y.toNat : Int)) = (x == y) := by
    rw [Bool.eq_iff_iff, beq_iff_eq, beq_iff_eq]
    exact ⟨fun h => UInt8.toNat_inj.1 (by omega), fun h => by rw [h]⟩
  rw [hb]
theorem items_bv (xs ys : List UInt8) (d : Nat) (W : World) : ∀ (is : List Nat), (∀ i ∈ is, i < xs.length ∧ i < ys.length) →
    (Op.eqItems (d + 1) 5 1 (xs.map bv).toArray (ys.map bv).toArray is).run Tryz.prog W = .ok (is.all fun i => xs[i]? == ys[i]?) W
  | [], _ => by simp [Op.eqItems]
  | i :: is, h => by
    have hi := h i (List.mem_cons_self ..)
    have e1 : xs[i]? = some xs[i] := List.getElem?_eq_getElem hi.1
    have e2 : ys[i]? = some ys[i] := List.getElem?_eq_getElem hi.2
    have ih := items_bv xs ys d W is fun j hj => h j (List.mem_cons_of_mem _ hj)
    have p1 : (part 5 (xs.map bv).toArray (i * 1)).run Tryz.prog W = .ok (bv xs[i]) W := by rw [Nat.mul_one]; exact part_bv xs i _ e1 W
    have p2 : (part 5 (ys.map bv).toArray (i * 1)).run Tryz.prog W = .ok (bv ys[i]) W := by rw [Nat.mul_one]; exact part_bv ys i _ e2 W
    simp only [Op.eqItems, Sem.run_bind, p1, p2, Result.andThen_ok, eq_bv, List.all_cons, e1, e2]
    by_cases hb : xs[i] = ys[i]
    · simp [hb, ih]
    · simp [hb]
theorem all_eq (xs ys : List UInt8) (n : Nat) (hx : xs.length = n) (hy : ys.length = n) : ((List.range n).all fun i => xs[i]? == ys[i]?) = decide (xs = ys) := by
  rw [Bool.eq_iff_iff, List.all_eq_true, decide_eq_true_iff]
  constructor
  · intro h
    apply List.ext_getElem?
    intro i
    by_cases hi : i < n
    · have := h i (List.mem_range.2 hi)
      simpa using this
    · rw [List.getElem?_eq_none (by omega), List.getElem?_eq_none (by omega)]
  · rintro rfl i _
    simp
theorem eq_sheet (xs ys : List UInt8) (hx : xs.length = 512) (hy : ys.length = 512) (W : World) : (Op.equalIn 10000 tSheet (sheetV xs) (sheetV ys)).run Tryz.prog W = .ok (decide (xs = ys)) W := by
  obtain ⟨i0, hi0, hz0, hz1, hz2⟩ := info_parts byte_info
  have hce : Tryz.prog.cellsOf 5 = 1 := by kernel_rfl
  unfold sheetV
  rw [show (10000 : Nat) = 9998 + 1 + 1 from rfl, run_equalIn_array W (9998 + 1) _ _ (n := 512) (e := 5) (by kernel_rfl) hi0, hce, items_bv xs ys 9998 W (List.range 512) (fun i hi => by rw [List.mem_range] at hi; omega), all_eq xs ys 512 hx hy]
theorem guard_sheet (x y : Operand) (xs ys : List UInt8) (W : World) : (eqGuard .neq tSheet x y (sheetV xs) (sheetV ys)).run Tryz.prog W = .ok () W := run_eqGuard_agg W _ _ x y _ _ (by kernel_rfl)

theorem seal_arg (z : Int) (A : Option Addr) (n c : Nat) (w : World) (hz : (Lit.int .i64 z).wf = true) (hf : fit z = false) :
    Calls Tryz.prog 105 #[.int .i64 z, .slice A n c] w fun e w' => e = .returned (.tuple #[.slice none 0 0, .int .i64 1]) ∧ Fresh w w' := by
  have hm := may_any z w hz
  rw [hf] at hm
  clear hf
  go_enter Tryz.func105, Tryz.ntmps105
  go_wp2_with (go_at_call 125; refine hm.mono ?_; rintro e w1 ⟨rfl, hf1⟩)
  go_ret2
  exact ⟨rfl, hf1⟩
theorem seal_long (z : Int) (A : Option Addr) (n c : Nat) (w : World) (hz : (Lit.int .i64 z).wf = true) (hf : fit z = true) (hn : 508 < n) (hm : n ≤ maxLen) :
    Calls Tryz.prog 105 #[.int .i64 z, .slice A n c] w fun e w' => e = .returned (.tuple #[.slice none 0 0, .int .i64 10]) ∧ Fresh w w' := by
  have hm := may_any z w hz
  rw [hf] at hm
  clear hf
  go_enter Tryz.func105, Tryz.ntmps105
  go_wp2_with (go_at_call 125; refine hm.mono ?_; rintro e w1 ⟨rfl, hf1⟩)
  go_ret2
  exact ⟨rfl, hf1⟩

theorem fill_take (bs : List UInt8) (h : bs.length ≤ 508) : (bs ++ List.replicate (512 - bs.length) 0).take 508 = fill bs := by
  rw [List.take_append, List.take_of_length_le h, List.take_replicate, fill]
  congr 2
  omega

set_option maxRecDepth 100000 in
theorem seal_ok (no : Nat) (A : Option Addr) (n c : Nat) (bs : List UInt8) (w : World) (hno : no < 16777216) (hr : Rd w w.heap.size A n (bs.map bv)) (hn : n ≤ 508) :
    Calls Tryz.prog 105 #[.int .i64 no, .slice A n c] w fun e w' => ∃ g, e = .returned (.tuple #[.slice (some ⟨g, 0, none⟩) 512 512, .int .i64 0]) ∧ w.heap.size ≤ g ∧ Fresh w w' ∧ Bk w' g tSheet ((page no (fill bs)).map bv) := by
  have hm := may_any no w (WalkArith.wf_i64 ⟨by omega, by omega⟩)
  have hfit : fit no = true := by simp [fit]; omega
  rw [hfit] at hm
  have hl : bs.length = n := by have := hr.1; rwa [List.length_map] at this
  obtain ⟨cs, hcs⟩ : ∃ cs, bs ++ List.replicate (512 - n) 0 = cs := ⟨_, rfl⟩
  have hct : cs.take 508 = fill bs := by rw [← hcs, ← hl]; exact fill_take bs (by omega)
  have hcl : cs.length = 512 := by rw [← hcs, List.length_append, List.length_replicate]; omega
  have hsl := fun W => sealed_any cs no W hcl hno
  rw [hct] at hsl
  have hpl := page_length no (fill bs) (fill_length bs (by omega))
  generalize page no (fill bs) = pg at *
  have hz := sheetZero
  have hsp : splice (zs.map bv) 0 (bs.map bv) = cs.map bv := by
    rw [← hcs, splice, List.take_zero, List.nil_append, List.length_map, List.map_append, Nat.zero_add, hl, ← List.map_drop, zs, List.drop_replicate]
  have hzl : (zs.map bv).length = 512 := by rw [List.length_map]; rfl
  unfold sheetV at hz hsl
  generalize zs.map bv = Z at *
  have HSL := Lib.hid hsl
  have HSP := Lib.hid hsp
  have HZL := Lib.hid hzl
  have HL := Lib.hid hl
  have HCL := Lib.hid hcl
  have HPL := Lib.hid hpl
  clear hfit hcs hct hcl hsl hsp hzl hl hpl hno
  go_enter Tryz.func105, Tryz.ntmps105
  go_wp2_with (first
    | (go_at_call 125; refine hm.mono ?_; rintro e w1 ⟨rfl, hf1⟩; clear hm; have HF1 := Lib.hid hf1; have HR1 := Lib.hid (hr.fresh hf1); have HLE := Lib.hid hf1.size; clear hf1)
    | ((with_reducible refine at_slot_ 15 ?_); refine wpList_copy_splice rfl (.tmp 13) (.tmp 14) 32 32 rfl 5 Tryz.underlying32 size_byte (some ⟨w1.heap.size, 0, none⟩) A 512 512 n c rfl rfl w1.heap.size 0 Z tSheet (Bk.made w1 tSheet Z.toArray) (bs.map bv) (by rw [List.length_map, HL.out]; exact (Nat.min_eq_left (by omega)).symm) (fun hp => ⟨rfl, Rd.src' ((hr.fresh HF1.out).alloc (Nat.le_refl _) _) (by rw [List.length_map, HL.out] at hp; exact hp)⟩) (by rw [List.length_map, HL.out, HZL.out]; omega) (bv_ones _) w1.heap.size w1 (Fresh.alloc _ _) (Nat.le_refl _) ?_; intro w2 hg2 hf2; rw [HSP.out] at hg2)
    | ((with_reducible refine at_slot_ 16 ?_); refine wpList_load_row (o := ⟨some 16, _, _, _, _, _⟩) rfl tSheet (.tmp 6) rfl w1.heap.size rfl tSheet (cs.map bv).toArray (0, 0) _ hg2.out Tryz.underlying153 rfl (by rw [size_sheet, List.size_toArray, List.length_map, HCL.out]) ?_)
    | (go_at_call 126; refine (HSL.out _).mono ?_; rintro e w3 ⟨rfl, hf3⟩; have hg3 := Bk.fresh (show Bk w2 w1.heap.size tSheet (cs.map bv) from hg2.out) hf3)
    | ((with_reducible refine at_store_ 6 18 ?_); refine wpList_store_blk rfl tSheet (.tmp 6) (.tmp 18) rfl w1.heap.size 0 tSheet (cs.map bv) (pg.map bv) rfl rfl hg3 (by rw [List.length_map, List.length_map, HPL.out, HCL.out]; omega) (bv_ones _) (by rw [size_sheet, List.length_map, HPL.out]) ?_; intro w4 hg4 hb4))
  go_ret2
  have hs4 : splice (cs.map bv) 0 (pg.map bv) = pg.map bv := by
    rw [splice, List.take_zero, List.nil_append, List.drop_of_length_le (by rw [List.length_map, List.length_map, HCL.out, HPL.out]; omega), List.append_nil]
  rw [hs4] at hg4
  exact ⟨_, rfl, HLE.out, ((HF1.out.trans hf2).trans hf3).but HLE.out hb4, hg4⟩

theorem Bk.range {w : World} {g : Nat} {t : TypeId} {cs : List Value} (h : Bk w g t cs) : w.rangeAt g 0 cs := fun j v hv => by rw [Nat.zero_add]; exact h.cell hv
theorem open_arg (z : Int) (A : Option Addr) (n c : Nat) (w : World) (hz : (Lit.int .i64 z).wf = true) (hf : fit z = false) :
    Calls Tryz.prog 139 #[.int .i64 z, .slice A n c] w fun e w' => e = .returned (.tuple #[.slice none 0 0, .int .i64 1]) ∧ Fresh w w' := by
  have hm := may_any z w hz
  rw [hf] at hm
  clear hf
  go_enter Tryz.func139, Tryz.ntmps139
  go_wp2_with (go_at_call 125; refine hm.mono ?_; rintro e w1 ⟨rfl, hf1⟩)
  go_ret2
  exact ⟨rfl, hf1⟩
theorem open_size (z : Int) (A : Option Addr) (n c : Nat) (w : World) (hz : (Lit.int .i64 z).wf = true) (hf : fit z = true) (hn : n ≠ 512) (hm : n ≤ maxLen) :
    Calls Tryz.prog 139 #[.int .i64 z, .slice A n c] w fun e w' => e = .returned (.tuple #[.slice none 0 0, .int .i64 14]) ∧ Fresh w w' := by
  have hm := may_any z w hz
  rw [hf] at hm
  clear hf
  have hb : (((n : Nat) : Int) != 512) = true := by rw [bne_iff_ne]; omega
  go_enter Tryz.func139, Tryz.ntmps139
  go_wp2_with (go_at_call 125; refine hm.mono ?_; rintro e w1 ⟨rfl, hf1⟩)
  go_ret2
  exact ⟨rfl, hf1⟩

set_option maxRecDepth 100000 in
theorem open_512 (no : Nat) (A : Option Addr) (c : Nat) (xs : List UInt8) (w : World) (hno : no < 16777216) (hr : Rd w w.heap.size A 512 (xs.map bv)) :
    Calls Tryz.prog 139 #[.int .i64 no, .slice A 512 c] w fun e w' => Fresh w w' ∧ if xs = page no (xs.take 508) then ∃ g, e = .returned (.tuple #[.slice (some ⟨g, 0, none⟩) 508 508, .int .i64 0]) ∧ w.heap.size ≤ g ∧ Bk w' g tSheet (xs.map bv) else e = .returned (.tuple #[.slice none 0 0, .int .i64 5]) := by
  have hm := may_any no w (WalkArith.wf_i64 ⟨by omega, by omega⟩)
  have hfit : fit no = true := by simp [fit]; omega
  rw [hfit] at hm
  have hl : xs.length = 512 := by have := hr.1; rwa [List.length_map] at this
  have hsl := fun W => sealed_any xs no W hl hno
  have hpl := page_length no (xs.take 508) (by rw [List.length_take, hl]; rfl)
  generalize page no (xs.take 508) = pg at *
  have hz := sheetZero
  have heq := fun W => eq_sheet xs pg hl hpl W
  have hgd := fun W x y => guard_sheet x y xs pg W
  have hzl : (zs.map bv).toArray.size = (xs.map bv).length := by rw [List.size_toArray, List.length_map, List.length_map, hl]; rfl
  unfold sheetV at hz hsl heq hgd
  generalize (zs.map bv).toArray = Z at *
  obtain ⟨b, off, rfl, hb, hcell⟩ := hr.2 (by omega)
  have hsa := fun W => run_arrayAt (P := Tryz.prog) (w := W) tSheet 5 512 (some ⟨b, off, none⟩) 512 c (by kernel_rfl) (Nat.le_refl _)
  have hu := Tryz.underlying153
  have hsz : (Tryz.prog.info? tSheet).map (·.size) = some (xs.map bv).length := by rw [size_sheet, List.length_map, hl]
  have hXl : (xs.map bv).length = 512 := by rw [List.length_map, hl]
  have hcm : ∀ w1, Fresh w w1 → w1.rangeAt b off (xs.map bv) := fun w1 hf j v hv => (World.cell?_of_block (hf.block b hb)).trans (hcell j v hv)
  have hone := bv_ones xs
  generalize hP : (pg.map bv).toArray = P at *
  by_cases hd : xs = pg
  · rw [decide_eq_true hd] at heq
    simp only [if_pos hd]
    clear hd hP hpl
    generalize hX : xs.map bv = X at *
    have HSL := Lib.hid hsl
    have HCM := Lib.hid hcm
    have HZL := Lib.hid hzl
    have HONE := Lib.hid hone
    have HXL := Lib.hid hXl
    have HSZ := Lib.hid hsz
    clear hfit hsl hl hr hcell hcm hzl hX hone hXl hno
    go_enter Tryz.func139, Tryz.ntmps139
    go_wp2_with (first
      | (go_at_call 125; refine hm.mono ?_; rintro e w1 ⟨rfl, hf1⟩; clear hm; have HF1 := Lib.hid hf1; have HLE := Lib.hid hf1.size; clear hf1)
      | ((with_reducible refine at_slot_ 15 ?_); refine wpList_load_mid rfl tSheet (.tmp 14) rfl b off rfl X _ (HCM.out _ HF1.out) hu rfl hsz ?_)
      | ((with_reducible refine at_store_ 6 15 ?_); refine wpList_store_new rfl tSheet (.tmp 6) (.tmp 15) rfl w1.heap.size X rfl rfl w1 Z tSheet rfl rfl HZL.out HONE.out hsz ?_; intro w2 hb2 hf2 hlt2; have HB2 := Lib.hid hb2; have HF2 := Lib.hid (HF1.out.trans hf2); clear hb2 hf2))
    obtain ⟨g, hg⟩ : ∃ g, w1.heap.size = g := ⟨_, rfl⟩
    rw [hg]
    rw [hg] at HB2 hlt2 HLE
    have hk2 : w2.drew.rangeAt g 0 X := Bk.range (HB2.out.fresh (Fresh.drew w2))
    refine wp_region_held_drew (S := fun w' => w'.rangeAt g 0 X) (by kernel_rfl) hk2 (fun hHeld => ?_)
    refine wpAnyH_take (i := 0) (oi := ⟨some 16, _, _, _, _, _⟩) (v := .agg X.toArray) rfl (by decide +kernel) (by decide +kernel) (by decide +kernel) (fun _ _ _ h => h) (yieldsIf_load_mid (by rfl) tSheet (.tmp 6) rfl g 0 rfl X _ (fun w hw => hw) hu (by rfl) hsz) (by assumption) ?_
    simp only [Act.put, List.setIfInBounds_toArray, List.set_cons_zero, List.set_cons_succ]
    refine wpAnyH_take (i := 1) (oi := ⟨some 17, _, _, _, _, _⟩) (v := .agg X.toArray) rfl (by decide +kernel) (by decide +kernel) (by decide +kernel) (fun _ _ _ h => h) (yieldsIf_load_mid (by rfl) tSheet (.tmp 6) rfl g 0 rfl X _ (fun w hw => hw) hu (by rfl) hsz) (by assumption) ?_
    simp only [Act.put, List.setIfInBounds_toArray, List.set_cons_zero, List.set_cons_succ]
    refine wpAnyH_take (i := 2) (oi := ⟨some 18, _, _, _, _, _⟩) (v := .int .i64 no) rfl (by decide +kernel) (by decide +kernel) (by decide +kernel) (fun _ _ _ h => h) (Or.inl ⟨by rfl, fun w' hw' => by go_simp⟩) (by assumption) ?_
    simp only [Act.put, List.setIfInBounds_toArray, List.set_cons_zero, List.set_cons_succ]
    refine wpAnyH_ready (rs := [3]) (by decide +kernel) (by simp) (AllReadyH.cons rfl (fun K hK => ?_) AllReadyH.nil)
    go_simp
    refine (HSL.out _).mono ?_
    rintro e w3 ⟨rfl, hf3⟩
    have HF3 := Lib.hid ((Fresh.drew w2).trans hf3)
    have HK3 := Lib.hid (Bk.range (HB2.out.fresh HF3.out))
    clear hf3
    refine hK.out _ _ HK3.out (fun hHeld3 => ?_)
    refine wpAnyH_ready (rs := [4]) (by decide +kernel) (by simp) (AllReadyH.cons rfl (fun K hK => ?_) AllReadyH.nil)
    go_simp
    refine hK.out _ _ HK3.out (fun hHeld4 => ?_)
    refine wpAnyH_done (by decide +kernel) ?_ _
    go_wp2
    go_ret2
    exact ⟨HF2.out.trans HF3.out, g, rfl, HLE.out, HB2.out.fresh HF3.out⟩
  · rw [decide_eq_false hd] at heq
    simp only [if_neg hd]
    clear hd hP hpl
    generalize hX : xs.map bv = X at *
    have HSL := Lib.hid hsl
    have HCM := Lib.hid hcm
    have HZL := Lib.hid hzl
    have HONE := Lib.hid hone
    have HXL := Lib.hid hXl
    have HSZ := Lib.hid hsz
    clear hfit hsl hl hr hcell hcm hzl hX hone hXl hno
    go_enter Tryz.func139, Tryz.ntmps139
    go_wp2_with (first
      | (go_at_call 125; refine hm.mono ?_; rintro e w1 ⟨rfl, hf1⟩; clear hm; have HF1 := Lib.hid hf1; have HLE := Lib.hid hf1.size; clear hf1)
      | ((with_reducible refine at_slot_ 15 ?_); refine wpList_load_mid rfl tSheet (.tmp 14) rfl b off rfl X _ (HCM.out _ HF1.out) hu rfl hsz ?_)
      | ((with_reducible refine at_store_ 6 15 ?_); refine wpList_store_new rfl tSheet (.tmp 6) (.tmp 15) rfl w1.heap.size X rfl rfl w1 Z tSheet rfl rfl HZL.out HONE.out hsz ?_; intro w2 hb2 hf2 hlt2; have HB2 := Lib.hid hb2; have HF2 := Lib.hid (HF1.out.trans hf2); clear hb2 hf2))
    obtain ⟨g, hg⟩ : ∃ g, w1.heap.size = g := ⟨_, rfl⟩
    rw [hg]
    rw [hg] at HB2 hlt2 HLE
    have hk2 : w2.drew.rangeAt g 0 X := Bk.range (HB2.out.fresh (Fresh.drew w2))
    refine wp_region_held_drew (S := fun w' => w'.rangeAt g 0 X) (by kernel_rfl) hk2 (fun hHeld => ?_)
    refine wpAnyH_take (i := 0) (oi := ⟨some 16, _, _, _, _, _⟩) (v := .agg X.toArray) rfl (by decide +kernel) (by decide +kernel) (by decide +kernel) (fun _ _ _ h => h) (yieldsIf_load_mid (by rfl) tSheet (.tmp 6) rfl g 0 rfl X _ (fun w hw => hw) hu (by rfl) hsz) (by assumption) ?_
    simp only [Act.put, List.setIfInBounds_toArray, List.set_cons_zero, List.set_cons_succ]
    refine wpAnyH_take (i := 1) (oi := ⟨some 17, _, _, _, _, _⟩) (v := .agg X.toArray) rfl (by decide +kernel) (by decide +kernel) (by decide +kernel) (fun _ _ _ h => h) (yieldsIf_load_mid (by rfl) tSheet (.tmp 6) rfl g 0 rfl X _ (fun w hw => hw) hu (by rfl) hsz) (by assumption) ?_
    simp only [Act.put, List.setIfInBounds_toArray, List.set_cons_zero, List.set_cons_succ]
    refine wpAnyH_take (i := 2) (oi := ⟨some 18, _, _, _, _, _⟩) (v := .int .i64 no) rfl (by decide +kernel) (by decide +kernel) (by decide +kernel) (fun _ _ _ h => h) (Or.inl ⟨by rfl, fun w' hw' => by go_simp⟩) (by assumption) ?_
    simp only [Act.put, List.setIfInBounds_toArray, List.set_cons_zero, List.set_cons_succ]
    refine wpAnyH_ready (rs := [3]) (by decide +kernel) (by simp) (AllReadyH.cons rfl (fun K hK => ?_) AllReadyH.nil)
    go_simp
    refine (HSL.out _).mono ?_
    rintro e w3 ⟨rfl, hf3⟩
    have HF3 := Lib.hid ((Fresh.drew w2).trans hf3)
    have HK3 := Lib.hid (Bk.range (HB2.out.fresh HF3.out))
    clear hf3
    refine hK.out _ _ HK3.out (fun hHeld3 => ?_)
    refine wpAnyH_ready (rs := [4]) (by decide +kernel) (by simp) (AllReadyH.cons rfl (fun K hK => ?_) AllReadyH.nil)
    go_simp
    refine hK.out _ _ HK3.out (fun hHeld4 => ?_)
    refine wpAnyH_done (by decide +kernel) ?_ _
    go_wp2
    go_ret2
    exact ⟨HF2.out.trans HF3.out, rfl⟩
end Go.Proofs.YtcdehklcdipcfaaGreat.pagp
