import Derived.Test.YtppgceighgpgoaaGreatDoorDefParts
/-
  counts. My own text.
-/
namespace Go.Proofs.YtppgceighgpgoaaGreatDoor.defp
open Go.RowKit Go.Maps Go.Proofs.YtppgceighgpgoaaGreatDoor.base Go.Proofs.YtppgceighgpgoaaGreatDoor.num Go.Proofs.YtppgceighgpgoaaGreatDoor.bitnum Go.Proofs.YtppgceighgpgoaaGreatDoor.bitp Go.Proofs.YtppgceighgpgoaaGreatDoor.huffnum Go.Proofs.YtppgceighgpgoaaGreatDoor.huffp
set_option linter.unusedVariables false
/-- how often each number comes -/
def tal {α : Type} (f : α → Option Nat) (nn : Nat) (l : List α) : List Nat := (List.range nn).map fun x => l.countP fun s => decide (f s = some x)
theorem tal_len {α : Type} (f : α → Option Nat) (nn : Nat) (l : List α) : (tal f nn l).length = nn := by simp [tal]
theorem tal_nil {α : Type} (f : α → Option Nat) (nn : Nat) : tal f nn [] = List.replicate nn 0 := by
  unfold tal
  refine List.ext_getElem? fun i => ?_
  by_cases h : i < nn
  · rw [List.getElem?_map, List.getElem?_range h, List.getElem?_replicate, if_pos h]
    rfl
  · rw [List.getElem?_eq_none (by simp; omega), List.getElem?_eq_none (by simp; omega)]
theorem tal_get {α : Type} (f : α → Option Nat) {nn y : Nat} (l : List α) (h : y < nn) : (tal f nn l)[y]? = some (l.countP fun s => decide (f s = some y)) := by
  unfold tal
  rw [List.getElem?_map, List.getElem?_range h]
  rfl
theorem tal_some {α : Type} (f : α → Option Nat) {nn y : Nat} (l : List α) (s : α) (hf : f s = some y) (h : y < nn) : (tal f nn l).set y ((l.countP fun s => decide (f s = some y)) + 1) = tal f nn (l ++ [s]) := by
  refine List.ext_getElem? fun i => ?_
  rw [List.getElem?_set, tal_len]
  by_cases hi : i < nn
  · rw [tal_get f (l ++ [s]) hi, List.countP_append, List.countP_cons, List.countP_nil]
    by_cases e : y = i
    · subst e
      rw [if_pos rfl, if_pos hi]
      simp [hf]
    · rw [if_neg e, tal_get f l hi]
      simp [hf, e]
  · have h1 : (tal f nn (l ++ [s]))[i]? = none := List.getElem?_eq_none (by rw [tal_len]; omega)
    have h2 : (tal f nn l)[i]? = none := List.getElem?_eq_none (by rw [tal_len]; omega)
    rw [h1, h2]
    by_cases e : y = i
    · subst e; omega
    · rw [if_neg e]
theorem tal_none {α : Type} (f : α → Option Nat) (nn : Nat) (l : List α) (s : α) (hf : f s = none) : tal f nn (l ++ [s]) = tal f nn l := by
  unfold tal
  refine List.map_congr_left fun x _ => ?_
  rw [List.countP_append, List.countP_cons, List.countP_nil, hf]
  simp
theorem nv_set (l : List Nat) (i x : Nat) : (nv l).set i (iv (x : Int)) = nv (l.set i x) := by unfold nv; rw [List.map_set]
/-- a step's symbol, its distance -/
def fS (s : Nat × Nat) : Option Nat := some (sy s)
def fD (s : Nat × Nat) : Option Nat := if s.2 = 0 then none else some (di s)
theorem zero_286 (W : World) : (zeroValue 66).run Tryz.prog W = .ok (.agg (Array.replicate 286 (.int .i64 0))) W := by kernel_rfl
theorem zero_30 (W : World) : (zeroValue 67).run Tryz.prog W = .ok (.agg (Array.replicate 30 (.int .i64 0))) W := by kernel_rfl
theorem nv_zero (k : Nat) : (Array.replicate k (Value.int .i64 0)).toList = nv (List.replicate k 0) := by
  unfold nv
  rw [Array.toList_replicate, List.map_replicate]
  rfl
abbrev t286 : TypeId := 66
abbrev t30 : TypeId := 67
theorem any_load {P : Program} {ops : Array Oper} {o : Oper} {a : Act} {w : World} {K : Act → World → Prop} {Q : Exit → Act → World → Prop} {E : Prop} (hgd : o.guard = none) (ty : TypeId) (x : Operand) (ho : o.op = .load ty x)
    (g : Nat) (hx : a.eval x = .pointer (some ⟨g, 0, none⟩)) (t : TypeId) (cs : List Value) (d : TypeDesc) (hg : Bk w g t cs)
    (hu : P.underlying ty = some d) (hd : (match d with | .struct _ | .array _ _ => true | _ => false) = true) (m : Nat) (hi : (P.info? ty).map (·.size) = some m) (hm : cs.length = m)
    (h : K (a.put o.dst (.agg cs.toArray)) w) : if Region.wanted o (yielded ops a.tmps) = true then Oper.wp P o a w K Q else E := by
  have hw : Region.wanted o (yielded ops a.tmps) = true := by simp [Region.wanted, hgd]
  rw [if_pos hw]
  exact wp_load_row ty x ho g hx t cs.toArray (0, 0) d hg hu hd (by rw [hi]; simp [hm]) h
theorem any_store {P : Program} {ops : Array Oper} {o : Oper} {a : Act} {w : World} {K : Act → World → Prop} {Q : Exit → Act → World → Prop} {E : Prop} (hgd : o.guard = none) (ty : TypeId) (x y : Operand) (ho : o.op = .store ty x y)
    (g : Nat) (cs : List Value) (hx : a.eval x = .pointer (some ⟨g, 0, none⟩)) (hy : a.eval y = .agg cs.toArray) (t : TypeId) (old : List Value) (hg : Bk w g t old) (m : Nat) (hi : (P.info? ty).map (·.size) = some m) (hm : cs.length = m) (hmo : old.length = m)
    (h1 : ∀ v ∈ cs, v.oneCell' = true) (h : K (a.put o.dst undef) (w.setRow g cs.toArray)) : if Region.wanted o (yielded ops a.tmps) = true then Oper.wp P o a w K Q else E := by
  have hw : Region.wanted o (yielded ops a.tmps) = true := by simp [Region.wanted, hgd]
  rw [if_pos hw]
  exact wp_store_row ty x y ho g cs.toArray hx hy t old.toArray hg (by rw [hi]; simp [hm]) (by simp [hm, hmo]) (by rw [Array.all_eq_true_iff_forall_mem]; intro v hv; exact h1 v (by simpa using hv)) h
theorem results_two {P : Program} {fn : Func} {p u : Tmp} {ty tz : TypeId} (h : fn.results = #[.cell p ty, .cell u tz]) (tmps : Array Value) (w : World) (g g' : Nat) (t t' : TypeId) (cs cs' : List Value) (d d' : TypeDesc)
    (hp : tmps.getD p undef = .pointer (some ⟨g, 0, none⟩)) (hg : Bk w g t cs) (hp' : tmps.getD u undef = .pointer (some ⟨g', 0, none⟩)) (hg' : Bk w g' t' cs')
    (hu : P.underlying ty = some d) (hd : (match d with | .struct _ | .array _ _ => true | _ => false) = true) (hi : (P.info? ty).map (·.size) = some cs.length)
    (hu' : P.underlying tz = some d') (hd' : (match d' with | .struct _ | .array _ _ => true | _ => false) = true) (hi' : (P.info? tz).map (·.size) = some cs'.length) :
    (results fn tmps).run P w = .ok (.tuple #[.agg cs.toArray, .agg cs'.toArray]) w := by
  have e1 : tmps[p]?.getD undef = .pointer (some ⟨g, 0, none⟩) := by simpa using hp
  have e2 : tmps[u]?.getD undef = .pointer (some ⟨g', 0, none⟩) := by simpa using hp'
  have r1 := run_loadVar_row (P := P) w g t ty cs.toArray (0, 0) d hg hu hd (by simpa using hi)
  have r2 := run_loadVar_row (P := P) w g' t' tz cs'.toArray (0, 0) d' hg' hu' hd' (by simpa using hi')
  simp [results, h, e1, e2, asAddr, r1, r2]
theorem size_286 : (Tryz.prog.info? t286).map (·.size) = some 286 := by kernel_rfl
theorem size_30 : (Tryz.prog.info? t30).map (·.size) = some 30 := by kernel_rfl
theorem nv_one (l : List Nat) : ∀ v ∈ nv l, v.oneCell' = true := fun v hv => by
  obtain ⟨x, _, rfl⟩ := List.mem_map.1 hv
  rfl
theorem four (w : World) (X Y : Array Value) (S T : TypeId) : Bk ((((w.alloc (.cells X S)).alloc (.cells Y T)).alloc (.cells X S)).alloc (.cells Y T)) w.heap.size S X.toList ∧ Bk ((((w.alloc (.cells X S)).alloc (.cells Y T)).alloc (.cells X S)).alloc (.cells Y T)) (w.heap.size + 1) T Y.toList ∧ Bk ((((w.alloc (.cells X S)).alloc (.cells Y T)).alloc (.cells X S)).alloc (.cells Y T)) (w.heap.size + 1 + 1) S X.toList ∧ Bk ((((w.alloc (.cells X S)).alloc (.cells Y T)).alloc (.cells X S)).alloc (.cells Y T)) (w.heap.size + 1 + 1 + 1) T Y.toList ∧ Fresh w ((((w.alloc (.cells X S)).alloc (.cells Y T)).alloc (.cells X S)).alloc (.cells Y T)) := by
  have h0 := Bk.made w S X
  have h1 := Bk.made (w.alloc (.cells X S)) T Y
  have h2 := Bk.made ((w.alloc (.cells X S)).alloc (.cells Y T)) S X
  have h3 := Bk.made (((w.alloc (.cells X S)).alloc (.cells Y T)).alloc (.cells X S)) T Y
  have e1 : (w.alloc (.cells X S)).heap.size = w.heap.size + 1 := by simp
  have e2 : ((w.alloc (.cells X S)).alloc (.cells Y T)).heap.size = w.heap.size + 1 + 1 := by simp
  have e3 : (((w.alloc (.cells X S)).alloc (.cells Y T)).alloc (.cells X S)).heap.size = w.heap.size + 1 + 1 + 1 := by simp
  rw [e1] at h1
  rw [e2] at h2
  rw [e3] at h3
  exact ⟨((h0.alloc _).alloc _).alloc _, (h1.alloc _).alloc _, h2.alloc _, h3, (((Fresh.alloc _ _).trans (Fresh.alloc _ _)).trans (Fresh.alloc _ _)).trans (Fresh.alloc _ _)⟩
/-- a code of the end alone would be short: another symbol is counted, too -/
def lc (l : List (Nat × Nat)) : List (Nat × Nat) := if l.length = 1 then l ++ [(0, 0)] else l
set_option maxRecDepth 100000 in
set_option maxHeartbeats 4000000 in
theorem counts_gen (X Y : List Value) (A : Option Addr) (n c base : Nat) (l : List (Nat × Nat)) (w : World) (hst : Own2 w base A n c l) (hok : ∀ s ∈ l, Ok s ∧ sy s < 286 ∧ (s.2 ≠ 0 → di s < 30)) (hn2 : n ≤ 16777217) (hX : nv (tal fS 286 (lc l)) = X) (hY : nv (tal fD 30 (lc l)) = Y) :
    Calls Tryz.prog 28 #[.slice A n c] w fun e w' => e = .returned (.tuple #[.agg X.toArray, .agg Y.toArray]) ∧ Fresh w w' := by
  have HX := Lib.hid hX
  have HY := Lib.hid hY
  clear hX hY
  have hl := hst.len
  have HST := Lib.hid hst
  have HOK := Lib.hid hok
  have HL := Lib.hid hl
  clear hst hok hl
  have hz := zero_286
  have hy := zero_30
  go_enter Tryz.func28, Tryz.ntmps28
  go_wp2
  obtain ⟨b0, b1, b2, b3, hf⟩ := four w (Array.replicate 286 (.int .i64 0)) (Array.replicate 30 (.int .i64 0)) t286 t30
  rw [nv_zero] at b0 b1 b2 b3
  have B0 := Lib.hid b0
  have B1 := Lib.hid b1
  have B2 := Lib.hid b2
  have B3 := Lib.hid b3
  have HF0 := Lib.hid hf
  clear b0 b1 b2 b3 hf hz hy
  go_loopw [16] (fun vi wr => ∃ (i : Nat), vi = .int .i64 i ∧ i ≤ n ∧ Hid (Bk wr w.heap.size t286 (nv (List.replicate 286 0))) ∧ Hid (Bk wr (w.heap.size + 1) t30 (nv (List.replicate 30 0))) ∧ Hid (Bk wr (w.heap.size + 1 + 1) t286 (nv (tal fS 286 (l.take i)))) ∧ Hid (Bk wr (w.heap.size + 1 + 1 + 1) t30 (nv (tal fD 30 (l.take i)))) ∧ Hid (Fresh w wr)) (fun vi _ => n - (intOf vi).toNat)
  case atStart => exact ⟨0, rfl, Nat.zero_le _, B0, B1, Lib.hid (by rw [List.take_zero, tal_nil]; exact B2.out), Lib.hid (by rw [List.take_zero, tal_nil]; exact B3.out), HF0⟩
  case round =>
    obtain ⟨i, rfl, hi, C0, C1, C2, C3, HF⟩ := hrel
    by_cases hlt : i < n
    · have hil : (i : Int) < (n : Int) := by omega
      obtain ⟨s, hs⟩ : ∃ s, l[i]? = some s := ⟨_, List.getElem?_eq_getElem (by rw [HL.out]; exact hlt)⟩
      obtain ⟨g, rfl, hrange⟩ := Own2.at_ (Own2.fresh HST.out HF.out) hs
      obtain ⟨o1, o2, o3⟩ := HOK.out s (List.mem_of_getElem? hs)
      have ht : l.take (i + 1) = l.take i ++ [s] := by rw [List.take_add_one, hs]; rfl
      have hcnt : (l.take i).length ≤ 16777217 := by rw [List.length_take]; omega
      obtain ⟨cS, hcS⟩ : ∃ cS, (l.take i).countP (fun s' => decide (fS s' = some (sy s))) = cS := ⟨_, rfl⟩
      have hcSb : cS ≤ 16777217 := by rw [← hcS]; exact Nat.le_trans List.countP_le_length hcnt
      have hgS := tal_get fS (l.take i) o2
      rw [hcS] at hgS
      have hsS := tal_some fS (l.take i) s rfl o2
      rw [hcS, ← ht] at hsS
      have hsym := fun W => symbol_any s o1 W
      obtain ⟨x, y⟩ := s
      simp only [scell] at hrange
      have HR := Lib.hid hrange
      have HSYM : Hid (∀ W, Calls Tryz.prog 43 #[.agg #[.int .u16 x, .int .u16 y]] W fun e w' => e = .returned (.tuple #[.int .i64 (sy (x, y) : Nat), .int .i64 (syN (x, y) : Nat), .int .i64 (syV (x, y) : Nat)]) ∧ Fresh W w') := hsym
      clear hsym hrange
      obtain ⟨S, hS⟩ : ∃ S, sy (x, y) = S := ⟨_, rfl⟩
      rw [hS] at hgS hsS o2 HSYM
      have S286 : (S : Int) < 286 := by omega
      have HGS := Lib.hid hgS
      have HSS := Lib.hid hsS
      have hzS : 0 ≤ cS := Nat.zero_le _
      have hbA := Bk.made wr tStep #[.int .u16 (x : Nat), .int .u16 (y : Nat)]
      have HBA := Lib.hid hbA
      have HFA := Lib.hid (Fresh.alloc wr (.cells #[.int .u16 (x : Nat), .int .u16 (y : Nat)] tStep))
      have hwr : w.heap.size + 1 + 1 + 1 < wr.heap.size := C3.out.inside
      clear hgS hsS hbA hcS hS
      by_cases hy0 : y = 0
      · subst hy0
        have HT := Lib.hid (tal_none fD 30 (l.take i) (x, 0) rfl)
        rw [← ht] at HT
        clear hs o1 o3 ht hcnt
        go_wp2_with (first
          | ((with_reducible (refine at_slot_ 19 ?_)); refine wpList_load_mid rfl 54 (.tmp 18) rfl g (i * 2) rfl _ _ HR.out Tryz.underlying54 rfl stepSize ?_)
          | (go_at_call 43; go_loud (refine (HSYM.out _).mono ?_); rintro e w2 ⟨rfl, hf2⟩; have HF2 := Lib.hid (HFA.out.trans hf2); have hcl : w2.cell? ⟨w.heap.size + 1 + 1, S, none⟩ = some (.int .i64 (cS : Nat)) := ((C2.out.fresh HFA.out).fresh hf2).cell (by unfold nv; rw [List.getElem?_map, HGS.out]; rfl); have hfz := ((C2.out.fresh HFA.out).fresh hf2).free S; have hk1 : (w2.setCell ⟨w.heap.size + 1 + 1, S, none⟩ (.int .i64 ((cS : Int) + 1))).cell? ⟨wr.heap.size, 1, none⟩ = some (.int .u16 0) := ((HBA.out.fresh hf2).apart (by show wr.heap.size ≠ w.heap.size + 1 + 1; omega) _).cell rfl; have hput := ((C2.out.fresh HFA.out).fresh hf2).put S (iv ((cS + 1 : Nat) : Int)); rw [nv_set, HSS.out] at hput; have HPUT := Lib.hid hput; clear hf2 hput))
        refine ⟨⟨i + 1, rfl, hlt, Lib.hid (((C0.out.fresh HF2.out)).apart (by show w.heap.size ≠ w.heap.size + 1 + 1; omega) _), Lib.hid (((C1.out.fresh HF2.out)).apart (by show w.heap.size + 1 ≠ w.heap.size + 1 + 1; omega) _), HPUT, Lib.hid (by rw [HT.out]; exact ((C3.out.fresh HF2.out)).apart (by show w.heap.size + 1 + 1 + 1 ≠ w.heap.size + 1 + 1; omega) _), Lib.hid ((HF.out.trans HF2.out).but (by omega) (But.put _ _))⟩, ?_⟩
        show n - ((i : Int) + 1).toNat < n - ((i : Int)).toNat
        omega
      · have hy1 : 1 ≤ y ∧ y ≤ 32768 := by rcases o1 with h | h <;> simp only at h <;> omega
        have o3' := o3 hy0
        obtain ⟨cD, hcD⟩ : ∃ cD, (l.take i).countP (fun s' => decide (fD s' = some (di (x, y)))) = cD := ⟨_, rfl⟩
        have hcDb : cD ≤ 16777217 := by rw [← hcD]; exact Nat.le_trans List.countP_le_length hcnt
        have hgD := tal_get fD (l.take i) o3'
        rw [hcD] at hgD
        have hsD := tal_some fD (l.take i) (x, y) (if_neg hy0) o3'
        rw [hcD, ← ht] at hsD
        have HDIS : Hid (∀ W, Calls Tryz.prog 44 #[.agg #[.int .u16 x, .int .u16 y]] W fun e w' => e = .returned (.tuple #[.int .i64 (di (x, y) : Nat), .int .i64 (diN (x, y) : Nat), .int .i64 (diV (x, y) : Nat)]) ∧ Fresh W w') := fun W => distance_any (x, y) hy1 W
        obtain ⟨D, hD⟩ : ∃ D, di (x, y) = D := ⟨_, rfl⟩
        rw [hD] at hgD hsD o3' HDIS
        have D30 : (D : Int) < 30 := by omega
        have yi : (0 : Int) < (y : Int) := by omega
        have HGD := Lib.hid hgD
        have HSD := Lib.hid hsD
        have hzD : 0 ≤ cD := Nat.zero_le _
        clear hs o1 o3 ht hcnt hgD hsD hcD hD hy0
        go_wp2_with (first
          | ((with_reducible (refine at_slot_ 19 ?_)); refine wpList_load_mid rfl 54 (.tmp 18) rfl g (i * 2) rfl _ _ HR.out Tryz.underlying54 rfl stepSize ?_)
          | (go_at_call 43; go_loud (refine (HSYM.out _).mono ?_); rintro e w2 ⟨rfl, hf2⟩; have HF2 := Lib.hid (HFA.out.trans hf2); have hcl : w2.cell? ⟨w.heap.size + 1 + 1, S, none⟩ = some (.int .i64 (cS : Nat)) := ((C2.out.fresh HFA.out).fresh hf2).cell (by unfold nv; rw [List.getElem?_map, HGS.out]; rfl); have hfz := ((C2.out.fresh HFA.out).fresh hf2).free S; have hba2 := (HBA.out.fresh hf2).apart (p := ⟨w.heap.size + 1 + 1, S, none⟩) (by show wr.heap.size ≠ w.heap.size + 1 + 1; omega) (.int .i64 ((cS : Int) + 1)); have hk0 := hba2.cell (i := 0) rfl; have hk1 := hba2.cell (i := 1) rfl; have hput := ((C2.out.fresh HFA.out).fresh hf2).put S (iv ((cS + 1 : Nat) : Int)); rw [nv_set, HSS.out] at hput; have HPUT := Lib.hid hput; have HC3 := Lib.hid ((C3.out.fresh HF2.out).apart (p := ⟨w.heap.size + 1 + 1, S, none⟩) (by show w.heap.size + 1 + 1 + 1 ≠ w.heap.size + 1 + 1; omega) (.int .i64 ((cS : Int) + 1))); clear hf2 hput hba2)
          | (go_at_call 44; go_loud (refine (HDIS.out _).mono ?_); rintro e w3 ⟨rfl, hf3⟩; have HF3 := Lib.hid hf3; have hcd : w3.cell? ⟨w.heap.size + 1 + 1 + 1, D, none⟩ = some (.int .i64 (cD : Nat)) := (HC3.out.fresh hf3).cell (by unfold nv; rw [List.getElem?_map, HGD.out]; rfl); have hfd := (HC3.out.fresh hf3).free D; have hpud := (HC3.out.fresh hf3).put D (iv ((cD + 1 : Nat) : Int)); rw [nv_set, HSD.out] at hpud; have HPUD := Lib.hid hpud; clear hf3 hpud))
        refine ⟨⟨i + 1, rfl, hlt, Lib.hid ((((C0.out.fresh HF2.out).apart (p := ⟨w.heap.size + 1 + 1, S, none⟩) (by show w.heap.size ≠ w.heap.size + 1 + 1; omega) (.int .i64 ((cS : Int) + 1))).fresh HF3.out).apart (by show w.heap.size ≠ w.heap.size + 1 + 1 + 1; omega) _), Lib.hid ((((C1.out.fresh HF2.out).apart (p := ⟨w.heap.size + 1 + 1, S, none⟩) (by show w.heap.size + 1 ≠ w.heap.size + 1 + 1; omega) (.int .i64 ((cS : Int) + 1))).fresh HF3.out).apart (by show w.heap.size + 1 ≠ w.heap.size + 1 + 1 + 1; omega) _), Lib.hid ((HPUT.out.fresh HF3.out).apart (by show w.heap.size + 1 + 1 ≠ w.heap.size + 1 + 1 + 1; omega) _), HPUD, Lib.hid (((HF.out.trans HF2.out).but (g := w.heap.size + 1 + 1) (by omega) (But.put _ _)).trans HF3.out |>.but (g := w.heap.size + 1 + 1 + 1) (by omega) (But.put _ _))⟩, ?_⟩
        show n - ((i : Int) + 1).toNat < n - ((i : Int)).toNat
        omega
    · have hin : i = n := by omega
      subst hin
      have e : l.take i = l := List.take_of_length_le (by have := HL.out; omega)
      rw [e] at C2 C3
      clear e B0 B1 B2 B3
      by_cases h1 : i = 1
      · have n1 : (i : Int) = 1 := by omega
        have elc : lc l = l ++ [(0, 0)] := by unfold lc; rw [HL.out, if_pos h1]
        obtain ⟨cS, hcS⟩ : ∃ cS, l.countP (fun s' => decide (fS s' = some 0)) = cS := ⟨_, rfl⟩
        have hcSb : cS ≤ 1 := by rw [← hcS]; exact Nat.le_trans List.countP_le_length (by rw [HL.out]; omega)
        have hgS := tal_get fS l (y := 0) (nn := 286) (by omega)
        rw [hcS] at hgS
        have hsS := tal_some fS l (nn := 286) (0, 0) (y := 0) rfl (by omega)
        rw [hcS, ← elc] at hsS
        have hdD := tal_none fD 30 l (0, 0) rfl
        rw [← elc] at hdD
        have hcl : wr.cell? ⟨w.heap.size + 1 + 1, 0, none⟩ = some (.int .i64 (cS : Nat)) := C2.out.cell (by unfold nv; rw [List.getElem?_map, hgS]; rfl)
        have hfz := C2.out.free 0
        have hput := C2.out.put 0 (iv ((cS + 1 : Nat) : Int))
        rw [nv_set, hsS] at hput
        have HPUT := Lib.hid hput
        have HDD := Lib.hid hdD
        clear hput hdD hsS hgS hcS elc h1
        go_wp2
        obtain ⟨wz, hwz⟩ : ∃ wz, wr.setCell ⟨w.heap.size + 1 + 1, 0, none⟩ (.int .i64 ((cS : Int) + 1)) = wz := ⟨_, rfl⟩
        rw [hwz]
        have hX := HX.out
        have hY := HY.out
        rw [HDD.out] at hY
        have C0 : Hid (Bk wz w.heap.size t286 (nv (List.replicate 286 0))) := by rw [← hwz]; exact C0.out.apart (by show w.heap.size ≠ w.heap.size + 1 + 1; omega) _
        have C1 : Hid (Bk wz (w.heap.size + 1) t30 (nv (List.replicate 30 0))) := by rw [← hwz]; exact C1.out.apart (by show w.heap.size + 1 ≠ w.heap.size + 1 + 1; omega) _
        have C3 : Hid (Bk wz (w.heap.size + 1 + 1 + 1) t30 (nv (tal fD 30 l))) := by rw [← hwz]; exact C3.out.apart (by show w.heap.size + 1 + 1 + 1 ≠ w.heap.size + 1 + 1; omega) _
        have C2 : Hid (Bk wz (w.heap.size + 1 + 1) t286 (nv (tal fS 286 (lc l)))) := by rw [← hwz]; exact HPUT.out
        have HF : Hid (Fresh w wz) := by rw [← hwz]; exact HF.out.but (by omega) (But.put _ _)
        clear hwz HPUT hcl hfz
        obtain ⟨Z, hZ⟩ : ∃ Z, nv (List.replicate 286 0) = Z := ⟨_, rfl⟩
        obtain ⟨V, hV⟩ : ∃ V, nv (List.replicate 30 0) = V := ⟨_, rfl⟩
        have lX : X.length = 286 := by rw [← hX, List.length_map, tal_len]
        have lY : Y.length = 30 := by rw [← hY, List.length_map, tal_len]
        have lZ : Z.length = 286 := by rw [← hZ, List.length_map, List.length_replicate]
        have lV : V.length = 30 := by rw [← hV, List.length_map, List.length_replicate]
        have oX : ∀ v ∈ X, v.oneCell' = true := by rw [← hX]; exact nv_one _
        have oY : ∀ v ∈ Y, v.oneCell' = true := by rw [← hY]; exact nv_one _
        have c0 := C0.out.fresh (Fresh.drew wz)
        have c1 := C1.out.fresh (Fresh.drew wz)
        have c2 := C2.out.fresh (Fresh.drew wz)
        have c3 := C3.out.fresh (Fresh.drew wz)
        rw [hX] at c2
        rw [hY] at c3
        rw [hZ] at c0
        rw [hV] at c1
        have HC0 := Lib.hid c0
        have HC1 := Lib.hid c1
        have HC2 := Lib.hid c2
        have HC3 := Lib.hid c3
        have OX := Lib.hid oX
        have OY := Lib.hid oY
        clear hX hY hZ hV c0 c1 c2 c3 oX oY C0 C1 C2 C3
        refine wp_region_any (by kernel_rfl) ?_
        change wpAny _ _ _ _ _ _ _ (World.drew wz)
        have hb1 : But w.heap.size wz.drew (wz.drew.setRow w.heap.size X.toArray) := But.row _ _ _
        have hd1 : Bk (wz.drew.setRow w.heap.size X.toArray) (w.heap.size + 1) t30 V := HC1.out.old (hb1.block _ HC1.out.inside (by intro e; injection e with e; omega))
        have hd3 : Bk (wz.drew.setRow w.heap.size X.toArray) (w.heap.size + 1 + 1 + 1) t30 Y := HC3.out.old (hb1.block _ HC3.out.inside (by intro e; injection e with e; omega))
        have hd0 : Bk (wz.drew.setRow w.heap.size X.toArray) w.heap.size t286 X := HC0.out.row X.toArray
        have hb2 : But (w.heap.size + 1) (wz.drew.setRow w.heap.size X.toArray) ((wz.drew.setRow w.heap.size X.toArray).setRow (w.heap.size + 1) Y.toArray) := But.row _ _ _
        have he0 : Bk ((wz.drew.setRow w.heap.size X.toArray).setRow (w.heap.size + 1) Y.toArray) w.heap.size t286 X := hd0.old (hb2.block _ hd0.inside (by intro e; injection e with e; omega))
        have he1 : Bk ((wz.drew.setRow w.heap.size X.toArray).setRow (w.heap.size + 1) Y.toArray) (w.heap.size + 1) t30 Y := hd1.row Y.toArray
        have hff : Fresh w ((wz.drew.setRow w.heap.size X.toArray).setRow (w.heap.size + 1) Y.toArray) := ((HF.out.trans (Fresh.drew _)).but (Nat.le_refl _) hb1).but (Nat.le_succ _) hb2
        have HD1 := Lib.hid hd1
        have HD3 := Lib.hid hd3
        have HE0 := Lib.hid he0
        have HE1 := Lib.hid he1
        have HFF := Lib.hid hff
        clear hb1 hd1 hd3 hd0 hb2 he0 he1 hff
        refine wpAny_ready (rs := [0, 1]) (by kernel_rfl) (by simp) ?_
        refine AllReady.cons rfl (fun K hK => any_load rfl t286 (.tmp 4) rfl (w.heap.size + 1 + 1) rfl t286 X _ HC2.out Tryz.underlying66 rfl 286 size_286 lX (hK _ _ ?_)) (AllReady.cons rfl (fun K hK => any_load rfl t30 (.tmp 5) rfl (w.heap.size + 1 + 1 + 1) rfl t30 Y _ HC3.out Tryz.underlying67 rfl 30 size_30 lY (hK _ _ ?_)) AllReady.nil)
        · refine wpAny_ready (rs := [1, 2]) (by kernel_rfl) (by simp) ?_
          refine AllReady.cons rfl (fun K hK => any_load rfl t30 (.tmp 5) rfl (w.heap.size + 1 + 1 + 1) rfl t30 Y _ HC3.out Tryz.underlying67 rfl 30 size_30 lY (hK _ _ ?_)) (AllReady.cons rfl (fun K hK => any_store rfl t286 (.tmp 2) (.tmp 53) rfl w.heap.size X rfl rfl t286 Z HC0.out 286 size_286 lX lZ OX.out (hK _ _ ?_)) AllReady.nil)
          · refine wpAny_ready (rs := [2]) (by kernel_rfl) (by simp) ?_
            refine AllReady.cons rfl (fun K hK => any_store rfl t286 (.tmp 2) (.tmp 53) rfl w.heap.size X rfl rfl t286 Z HC0.out 286 size_286 lX lZ OX.out (hK _ _ ?_)) AllReady.nil
            refine wpAny_ready (rs := [3]) (by kernel_rfl) (by simp) ?_
            refine AllReady.cons rfl (fun K hK => any_store rfl t30 (.tmp 3) (.tmp 54) rfl (w.heap.size + 1) Y rfl rfl t30 V HD1.out 30 size_30 lY lV OY.out (hK _ _ ?_)) AllReady.nil
            refine wpAny_done (by kernel_rfl) ?_ _
            go_wp2
            exact bodyPost_ret (results_two (p := 2) (u := 3) (by kernel_rfl) _ _ w.heap.size (w.heap.size + 1) t286 t30 X Y _ _ rfl HE0.out rfl HE1.out Tryz.underlying66 rfl (by rw [lX]; exact size_286) Tryz.underlying67 rfl (by rw [lY]; exact size_30)) rfl ⟨rfl, HFF.out⟩
          · refine wpAny_ready (rs := [1]) (by kernel_rfl) (by simp) ?_
            refine AllReady.cons rfl (fun K hK => any_load rfl t30 (.tmp 5) rfl (w.heap.size + 1 + 1 + 1) rfl t30 Y _ HD3.out Tryz.underlying67 rfl 30 size_30 lY (hK _ _ ?_)) AllReady.nil
            refine wpAny_ready (rs := [3]) (by kernel_rfl) (by simp) ?_
            refine AllReady.cons rfl (fun K hK => any_store rfl t30 (.tmp 3) (.tmp 54) rfl (w.heap.size + 1) Y rfl rfl t30 V HD1.out 30 size_30 lY lV OY.out (hK _ _ ?_)) AllReady.nil
            refine wpAny_done (by kernel_rfl) ?_ _
            go_wp2
            exact bodyPost_ret (results_two (p := 2) (u := 3) (by kernel_rfl) _ _ w.heap.size (w.heap.size + 1) t286 t30 X Y _ _ rfl HE0.out rfl HE1.out Tryz.underlying66 rfl (by rw [lX]; exact size_286) Tryz.underlying67 rfl (by rw [lY]; exact size_30)) rfl ⟨rfl, HFF.out⟩
        · refine wpAny_ready (rs := [0]) (by kernel_rfl) (by simp) ?_
          refine AllReady.cons rfl (fun K hK => any_load rfl t286 (.tmp 4) rfl (w.heap.size + 1 + 1) rfl t286 X _ HC2.out Tryz.underlying66 rfl 286 size_286 lX (hK _ _ ?_)) AllReady.nil
          refine wpAny_ready (rs := [2]) (by kernel_rfl) (by simp) ?_
          refine AllReady.cons rfl (fun K hK => any_store rfl t286 (.tmp 2) (.tmp 53) rfl w.heap.size X rfl rfl t286 Z HC0.out 286 size_286 lX lZ OX.out (hK _ _ ?_)) AllReady.nil
          refine wpAny_ready (rs := [3]) (by kernel_rfl) (by simp) ?_
          refine AllReady.cons rfl (fun K hK => any_store rfl t30 (.tmp 3) (.tmp 54) rfl (w.heap.size + 1) Y rfl rfl t30 V HD1.out 30 size_30 lY lV OY.out (hK _ _ ?_)) AllReady.nil
          refine wpAny_done (by kernel_rfl) ?_ _
          go_wp2
          exact bodyPost_ret (results_two (p := 2) (u := 3) (by kernel_rfl) _ _ w.heap.size (w.heap.size + 1) t286 t30 X Y _ _ rfl HE0.out rfl HE1.out Tryz.underlying66 rfl (by rw [lX]; exact size_286) Tryz.underlying67 rfl (by rw [lY]; exact size_30)) rfl ⟨rfl, HFF.out⟩
      · have n1 : ¬ (i : Int) = 1 := by omega
        have elc : lc l = l := by unfold lc; rw [HL.out, if_neg h1]
        go_wp2
        rename World => wz
        have hX := HX.out
        have hY := HY.out
        rw [elc] at hX hY
        obtain ⟨Z, hZ⟩ : ∃ Z, nv (List.replicate 286 0) = Z := ⟨_, rfl⟩
        obtain ⟨V, hV⟩ : ∃ V, nv (List.replicate 30 0) = V := ⟨_, rfl⟩
        have lX : X.length = 286 := by rw [← hX, List.length_map, tal_len]
        have lY : Y.length = 30 := by rw [← hY, List.length_map, tal_len]
        have lZ : Z.length = 286 := by rw [← hZ, List.length_map, List.length_replicate]
        have lV : V.length = 30 := by rw [← hV, List.length_map, List.length_replicate]
        have oX : ∀ v ∈ X, v.oneCell' = true := by rw [← hX]; exact nv_one _
        have oY : ∀ v ∈ Y, v.oneCell' = true := by rw [← hY]; exact nv_one _
        have c0 := C0.out.fresh (Fresh.drew wz)
        have c1 := C1.out.fresh (Fresh.drew wz)
        have c2 := C2.out.fresh (Fresh.drew wz)
        have c3 := C3.out.fresh (Fresh.drew wz)
        rw [hX] at c2
        rw [hY] at c3
        rw [hZ] at c0
        rw [hV] at c1
        have HC0 := Lib.hid c0
        have HC1 := Lib.hid c1
        have HC2 := Lib.hid c2
        have HC3 := Lib.hid c3
        have OX := Lib.hid oX
        have OY := Lib.hid oY
        clear hX hY hZ hV c0 c1 c2 c3 oX oY C0 C1 C2 C3
        refine wp_region_any (by kernel_rfl) ?_
        change wpAny _ _ _ _ _ _ _ (World.drew wz)
        have hb1 : But w.heap.size wz.drew (wz.drew.setRow w.heap.size X.toArray) := But.row _ _ _
        have hd1 : Bk (wz.drew.setRow w.heap.size X.toArray) (w.heap.size + 1) t30 V := HC1.out.old (hb1.block _ HC1.out.inside (by intro e; injection e with e; omega))
        have hd3 : Bk (wz.drew.setRow w.heap.size X.toArray) (w.heap.size + 1 + 1 + 1) t30 Y := HC3.out.old (hb1.block _ HC3.out.inside (by intro e; injection e with e; omega))
        have hd0 : Bk (wz.drew.setRow w.heap.size X.toArray) w.heap.size t286 X := HC0.out.row X.toArray
        have hb2 : But (w.heap.size + 1) (wz.drew.setRow w.heap.size X.toArray) ((wz.drew.setRow w.heap.size X.toArray).setRow (w.heap.size + 1) Y.toArray) := But.row _ _ _
        have he0 : Bk ((wz.drew.setRow w.heap.size X.toArray).setRow (w.heap.size + 1) Y.toArray) w.heap.size t286 X := hd0.old (hb2.block _ hd0.inside (by intro e; injection e with e; omega))
        have he1 : Bk ((wz.drew.setRow w.heap.size X.toArray).setRow (w.heap.size + 1) Y.toArray) (w.heap.size + 1) t30 Y := hd1.row Y.toArray
        have hff : Fresh w ((wz.drew.setRow w.heap.size X.toArray).setRow (w.heap.size + 1) Y.toArray) := ((HF.out.trans (Fresh.drew _)).but (Nat.le_refl _) hb1).but (Nat.le_succ _) hb2
        have HD1 := Lib.hid hd1
        have HD3 := Lib.hid hd3
        have HE0 := Lib.hid he0
        have HE1 := Lib.hid he1
        have HFF := Lib.hid hff
        clear hb1 hd1 hd3 hd0 hb2 he0 he1 hff
        refine wpAny_ready (rs := [0, 1]) (by kernel_rfl) (by simp) ?_
        refine AllReady.cons rfl (fun K hK => any_load rfl t286 (.tmp 4) rfl (w.heap.size + 1 + 1) rfl t286 X _ HC2.out Tryz.underlying66 rfl 286 size_286 lX (hK _ _ ?_)) (AllReady.cons rfl (fun K hK => any_load rfl t30 (.tmp 5) rfl (w.heap.size + 1 + 1 + 1) rfl t30 Y _ HC3.out Tryz.underlying67 rfl 30 size_30 lY (hK _ _ ?_)) AllReady.nil)
        · refine wpAny_ready (rs := [1, 2]) (by kernel_rfl) (by simp) ?_
          refine AllReady.cons rfl (fun K hK => any_load rfl t30 (.tmp 5) rfl (w.heap.size + 1 + 1 + 1) rfl t30 Y _ HC3.out Tryz.underlying67 rfl 30 size_30 lY (hK _ _ ?_)) (AllReady.cons rfl (fun K hK => any_store rfl t286 (.tmp 2) (.tmp 53) rfl w.heap.size X rfl rfl t286 Z HC0.out 286 size_286 lX lZ OX.out (hK _ _ ?_)) AllReady.nil)
          · refine wpAny_ready (rs := [2]) (by kernel_rfl) (by simp) ?_
            refine AllReady.cons rfl (fun K hK => any_store rfl t286 (.tmp 2) (.tmp 53) rfl w.heap.size X rfl rfl t286 Z HC0.out 286 size_286 lX lZ OX.out (hK _ _ ?_)) AllReady.nil
            refine wpAny_ready (rs := [3]) (by kernel_rfl) (by simp) ?_
            refine AllReady.cons rfl (fun K hK => any_store rfl t30 (.tmp 3) (.tmp 54) rfl (w.heap.size + 1) Y rfl rfl t30 V HD1.out 30 size_30 lY lV OY.out (hK _ _ ?_)) AllReady.nil
            refine wpAny_done (by kernel_rfl) ?_ _
            go_wp2
            exact bodyPost_ret (results_two (p := 2) (u := 3) (by kernel_rfl) _ _ w.heap.size (w.heap.size + 1) t286 t30 X Y _ _ rfl HE0.out rfl HE1.out Tryz.underlying66 rfl (by rw [lX]; exact size_286) Tryz.underlying67 rfl (by rw [lY]; exact size_30)) rfl ⟨rfl, HFF.out⟩
          · refine wpAny_ready (rs := [1]) (by kernel_rfl) (by simp) ?_
            refine AllReady.cons rfl (fun K hK => any_load rfl t30 (.tmp 5) rfl (w.heap.size + 1 + 1 + 1) rfl t30 Y _ HD3.out Tryz.underlying67 rfl 30 size_30 lY (hK _ _ ?_)) AllReady.nil
            refine wpAny_ready (rs := [3]) (by kernel_rfl) (by simp) ?_
            refine AllReady.cons rfl (fun K hK => any_store rfl t30 (.tmp 3) (.tmp 54) rfl (w.heap.size + 1) Y rfl rfl t30 V HD1.out 30 size_30 lY lV OY.out (hK _ _ ?_)) AllReady.nil
            refine wpAny_done (by kernel_rfl) ?_ _
            go_wp2
            exact bodyPost_ret (results_two (p := 2) (u := 3) (by kernel_rfl) _ _ w.heap.size (w.heap.size + 1) t286 t30 X Y _ _ rfl HE0.out rfl HE1.out Tryz.underlying66 rfl (by rw [lX]; exact size_286) Tryz.underlying67 rfl (by rw [lY]; exact size_30)) rfl ⟨rfl, HFF.out⟩
        · refine wpAny_ready (rs := [0]) (by kernel_rfl) (by simp) ?_
          refine AllReady.cons rfl (fun K hK => any_load rfl t286 (.tmp 4) rfl (w.heap.size + 1 + 1) rfl t286 X _ HC2.out Tryz.underlying66 rfl 286 size_286 lX (hK _ _ ?_)) AllReady.nil
          refine wpAny_ready (rs := [2]) (by kernel_rfl) (by simp) ?_
          refine AllReady.cons rfl (fun K hK => any_store rfl t286 (.tmp 2) (.tmp 53) rfl w.heap.size X rfl rfl t286 Z HC0.out 286 size_286 lX lZ OX.out (hK _ _ ?_)) AllReady.nil
          refine wpAny_ready (rs := [3]) (by kernel_rfl) (by simp) ?_
          refine AllReady.cons rfl (fun K hK => any_store rfl t30 (.tmp 3) (.tmp 54) rfl (w.heap.size + 1) Y rfl rfl t30 V HD1.out 30 size_30 lY lV OY.out (hK _ _ ?_)) AllReady.nil
          refine wpAny_done (by kernel_rfl) ?_ _
          go_wp2
          exact bodyPost_ret (results_two (p := 2) (u := 3) (by kernel_rfl) _ _ w.heap.size (w.heap.size + 1) t286 t30 X Y _ _ rfl HE0.out rfl HE1.out Tryz.underlying66 rfl (by rw [lX]; exact size_286) Tryz.underlying67 rfl (by rw [lY]; exact size_30)) rfl ⟨rfl, HFF.out⟩
end Go.Proofs.YtppgceighgpgoaaGreatDoor.defp
