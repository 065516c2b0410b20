import Derived.Test.YtcmeoappddpmcaaDoorDefDyn
/-
  dynamic, walked. My own text.
-/
namespace Go.Proofs.YtcmeoappddpmcaaDoor.defp
open Go.RowKit Go.Maps Go.Proofs.YtcmeoappddpmcaaDoor.base Go.Proofs.YtcmeoappddpmcaaDoor.num Go.Proofs.YtcmeoappddpmcaaDoor.bitnum Go.Proofs.YtcmeoappddpmcaaDoor.bitp Go.Proofs.YtcmeoappddpmcaaDoor.huffnum Go.Proofs.YtcmeoappddpmcaaDoor.huffp Go.Proofs.YtcmeoappddpmcaaDoor.infp
set_option linter.unusedVariables false
/-- what a block of kind 2 has ahead of the steps -/
def dynI (nS nD : Nat) (T : List Nat) (j : Nat) (ps : List Pt) : List (Nat × Nat) := [(5, nS - 257), (5, nD - 1)] ++ tellI T j ps
/-- the two codes, and what tells them -/
structure Told (l : List (Nat × Nat)) (TS TD : List Nat) (nS nD : Nat) (T : List Nat) (j : Nat) (ps : List Pt) : Prop where
  s1 : 257 ≤ nS
  s2 : nS ≤ 286
  d1 : 1 ≤ nD
  d2 : nD ≤ 30
  ls : TS.length = nS
  ld : TD.length = nD
  fs : Fit TS
  fd : Fit TD
  us : ∀ s ∈ lc l, 1 ≤ TS.getD (sy s) 0 ∧ sy s < nS
  ud : ∀ s ∈ lc l, s.2 ≠ 0 → 1 ≤ TD.getD (di s) 0 ∧ di s < nD
  pa : Pa (TS ++ TD) (nS + nD) ps
  j4 : 4 ≤ j
  j19 : j ≤ 19
  lt : T.length = 19
  ft : Fit T
  t7 : ∀ x ∈ T, x ≤ 7
  tp : ∀ p ∈ ps, 1 ≤ T.getD p.1 0
  tz : ∀ i s, j ≤ i → infnum.order[i]? = some s → T.getD s 0 = 0
  fullS : Full fS 286 (lc l) TS
  fullD : Full fD 30 (lc l) TD
  fullT : Full fP 19 ps T
  cst : Cost (TS ++ TD) (nS + nD) ps
theorem splice_all (Z X : List Value) (h : Z.length = X.length) : splice Z 0 X = X := by
  unfold splice
  rw [List.take_zero, List.nil_append, List.drop_of_length_le (by omega), List.append_nil]
theorem lengths_z {α : Type} (f : α → Option Nat) (nn : Nat) (l : List α) (G cc : Nat) (w : World) (R : List Value) (hR : nv (tal f nn l) = R) (hr : Rd w w.heap.size (some ⟨G, 0, none⟩) nn R) (h1 : nn ≤ 320) (h2 : nn ≤ cc) (h3 : cc ≤ maxLen) (hfew : nn ≤ 2 ^ 15) (hl : l.length ≤ 16777217) :
    Calls Tryd.prog 23 #[.slice (some ⟨G, 0, none⟩) nn cc, .int .i64 15] w fun e w' => ∃ (L : Nat) (T : List Nat), e = .returned (.slice (some ⟨L, 0, none⟩) nn nn) ∧ w.heap.size ≤ L ∧ Bk w' L 3 (nv T) ∧ Fresh w w' ∧ T.length = nn ∧ Fit T ∧ (∀ s ∈ l, ∀ y, f s = some y → y < nn → 1 ≤ T.getD y 0) ∧ Full f nn l T := by
  rw [← hR] at hr
  refine (lengths_of f nn l G 0 cc w hr h1 h2 h3 15 (by omega) (by omega) hfew hl).mono ?_
  rintro e w' ⟨L, T, rfl, hL, hb, hf, ht, hfit, _, hp⟩
  exact ⟨L, T, rfl, hL, hb, hf, ht, hfit, hp⟩
theorem trimmed_z (L n least : Nat) (z : Int) (hz : z = (least : Int)) (T : List Nat) (w : World) (hb : Bk w L 3 (nv T)) (hT : T.length = n) (hl : 1 ≤ least) (hn : least ≤ n) (hn2 : n ≤ 1000) :
    Calls Tryd.prog 22 #[.slice (some ⟨L, 0, none⟩) n n, .int .i64 z] w fun e w' => ∃ k : Nat, e = .returned (.slice (some ⟨L, 0, none⟩) k n) ∧ least ≤ k ∧ k ≤ n ∧ (∀ i, k ≤ i → i < n → T.getD i 0 = 0) ∧ Fresh w w' := by
  subst hz
  exact trimmed_any (some ⟨L, 0, none⟩) n n w.heap.size least T w (Bk.row0 hb (by rw [List.length_map, hT])) (Nat.le_refl _) hl hn hn2 (Nat.le_refl _)
theorem take_getD (T : List Nat) (k i : Nat) : (T.take k).getD i 0 = if i < k then T.getD i 0 else 0 := by
  rw [List.getD_eq_getElem?_getD, List.getElem?_take]
  split
  · rw [List.getD_eq_getElem?_getD]
  · rfl
/-- each symbol that comes has a code -/
theorem told_codes {l : List (Nat × Nat)} {n nS nD : Nat} {T1 T2 : List Nat} (hok : ∀ s ∈ l, Ok s ∧ sy s < 286 ∧ (s.2 ≠ 0 → di s < 30)) (hl : l.length = n) (p1 : ∀ s ∈ lc l, ∀ y, fS s = some y → y < 286 → 1 ≤ T1.getD y 0) (p2 : ∀ s ∈ lc l, ∀ y, fD s = some y → y < 30 → 1 ≤ T2.getD y 0)
    (h1 : T1.length = 286) (h2 : T2.length = 30) (z1 : ∀ i, nS ≤ i → i < 286 → T1.getD i 0 = 0) (z2 : ∀ i, nD ≤ i → i < 30 → T2.getD i 0 = 0) (hs : nS ≤ 286) (hd : nD ≤ 30) : ∀ s ∈ lc l, (sy s < nS ∧ 1 ≤ T1.getD (sy s) 0) ∧ (s.2 ≠ 0 → di s < nD ∧ 1 ≤ T2.getD (di s) 0) := fun s hin => by
  have o : sy s < 286 ∧ (s.2 ≠ 0 → di s < 30) := by
    unfold lc at hin
    split at hin
    · rcases List.mem_append.1 hin with h | h
      · exact (hok s h).2
      · rw [List.mem_singleton] at h
        subst h
        exact ⟨by decide, fun h => absurd rfl h⟩
    · exact (hok s hin).2
  obtain ⟨o2, o3⟩ := o
  refine ⟨?_, fun h0 => ?_⟩
  · have h := p1 s hin (sy s) rfl o2
    rcases Nat.lt_or_ge (sy s) nS with h3 | h3
    · exact ⟨h3, h⟩
    · rw [z1 _ h3 o2] at h; omega
  · have h := p2 s hin (di s) (if_neg h0) (o3 h0)
    rcases Nat.lt_or_ge (di s) nD with h3 | h3
    · exact ⟨h3, h⟩
    · rw [z2 _ h3 (o3 h0)] at h; omega
theorem lc_sub {l : List (Nat × Nat)} {s : Nat × Nat} (h : s ∈ l) : s ∈ lc l := by unfold lc; split; exact List.mem_append_left _ h; exact h
theorem cat_len (B : Nat) (l : List (Nat × Nat)) (h : ∀ x ∈ l, x.1 ≤ B) : (cat l).1 ≤ B * l.length := by
  have hgen : ∀ (l : List (Nat × Nat)) (a : Nat × Nat), (∀ x ∈ l, x.1 ≤ B) → (l.foldl (fun a x => (a.1 + x.1, a.2 + 2 ^ a.1 * x.2)) a).1 ≤ a.1 + B * l.length := by
    intro l
    induction l with
    | nil => intro a _; exact Nat.le_refl _
    | cons x r ih =>
      intro a h
      have h1 := ih (a.1 + x.1, a.2 + 2 ^ a.1 * x.2) fun y hy => h y (List.mem_cons_of_mem _ hy)
      have h2 := h x List.mem_cons_self
      rw [List.foldl_cons, List.length_cons, Nat.mul_add]
      simp only at h1
      omega
  have := hgen l (0, 0) h
  simpa [cat] using this
theorem cat_from (l : List (Nat × Nat)) : ∀ p q, l.foldl (fun a x => (a.1 + x.1, a.2 + 2 ^ a.1 * x.2)) (p, q) = (p + (cat l).1, q + 2 ^ p * (cat l).2) := by
  induction l with
  | nil => intro p q; simp [cat]
  | cons x r ih =>
    intro p q
    have e : cat (x :: r) = (x.1 + (cat r).1, x.2 + 2 ^ x.1 * (cat r).2) := by
      show (x :: r).foldl (fun a x => (a.1 + x.1, a.2 + 2 ^ a.1 * x.2)) (0, 0) = _
      rw [List.foldl_cons, ih]
      simp
    rw [List.foldl_cons, ih, e]
    simp only [Nat.mul_add, Nat.pow_add, Nat.mul_assoc, Nat.add_assoc]
theorem cat_append (a b : List (Nat × Nat)) : cat (a ++ b) = ((cat a).1 + (cat b).1, (cat a).2 + 2 ^ (cat a).1 * (cat b).2) := by
  unfold cat
  rw [List.foldl_append]
  exact cat_from b _ _
theorem dyn_1 (nS nD : Nat) (T : List Nat) (j : Nat) (ps : List Pt) : 3 + (cat (dynI nS nD T j ps)).1 = 3 + 5 + 5 + (cat (tellI T j ps)).1 := by
  unfold dynI
  rw [cat_append]
  show 3 + (0 + 5 + 5 + _) = _
  omega
theorem dyn_2 (nS nD : Nat) (T : List Nat) (j : Nat) (ps : List Pt) : 5 + 2 ^ 3 * (cat (dynI nS nD T j ps)).2 = 5 + 2 ^ 3 * (nS - 257) + 2 ^ (3 + 5) * (nD - 1) + 2 ^ (3 + 5 + 5) * (cat (tellI T j ps)).2 := by
  unfold dynI
  rw [cat_append]
  have e : cat [(5, nS - 257), (5, nD - 1)] = (10, (nS - 257) + 32 * (nD - 1)) := by
    unfold cat
    simp
  rw [e]
  simp only [Nat.mul_add, ← Nat.mul_assoc]
  omega
theorem partI_len (T : List Nat) (ps : List Pt) : (ps.flatMap (partI T)).length = 2 * ps.length := by
  induction ps with
  | nil => rfl
  | cons a r ih =>
    rw [List.flatMap_cons, List.length_append, ih, List.length_cons]
    show 2 + _ = _
    omega
theorem tell_few {T : List Nat} {j nS nD : Nat} {ps : List Pt} {T1 T2 : List Nat} (hpa : Pa (T1.take nS ++ T2.take nD) (nS + nD) ps) (hT : T.length = 19) (hj : j ≤ 19) (f1 : Fit T1) (f2 : Fit T2) (hs : nS ≤ 286) (hd : nD ≤ 30) : (cat (tellI T j ps)).1 ≤ 100000 := by
  have h15 : ∀ x ∈ T1.take nS ++ T2.take nD, x ≤ 15 := fun x hx => by
    rcases List.mem_append.1 hx with h | h
    · exact f1.2 x (List.mem_of_mem_take h)
    · exact f2.2 x (List.mem_of_mem_take h)
  have heach := hpa.each h15
  have hle := hpa.le
  have hb : ∀ x ∈ tellI T j ps, x.1 ≤ 15 := fun x hx => by
    unfold tellI headI at hx
    rcases List.mem_append.1 hx with h | h
    · rcases List.mem_cons.1 h with rfl | h
      · show 4 ≤ 15; omega
      · obtain ⟨s, _, rfl⟩ := List.mem_map.1 h
        show 3 ≤ 15; omega
    · obtain ⟨p, hp, h⟩ := List.mem_flatMap.1 h
      unfold partI at h
      rcases List.mem_cons.1 h with rfl | h
      · exact Fs_le T p.1
      · rw [List.mem_singleton] at h
        subst h
        have := (heach p hp).2.1
        show p.2.1 ≤ 15
        omega
  have h1 := cat_len 15 (tellI T j ps) hb
  have h2 : (tellI T j ps).length ≤ 20 + 2 * ps.length := by
    unfold tellI headI
    rw [List.length_append, List.length_cons, List.length_map, List.length_take]
    have := partI_len T ps
    omega
  have h3 : ps.length ≤ 316 := by omega
  omega
theorem sum_zero (f : Nat → Nat) (h0 : f 0 = 0) : ∀ l : List Nat, (∀ x ∈ l, x = 0) → (l.map f).sum = 0
  | [], _ => rfl
  | a :: r, h => by
    rw [List.map_cons, List.sum_cons, sum_zero f h0 r fun x hx => h x (List.mem_cons_of_mem _ hx), h a List.mem_cons_self, h0]
/-- what is cut off is 0 -/
theorem full_take {α : Type} {f : α → Option Nat} {nn k : Nat} {l : List α} {T : List Nat} (h : Full f nn l T) (hT : T.length = nn) (hk : k ≤ nn) (hz : ∀ i, k ≤ i → i < nn → T.getD i 0 = 0) : Full f nn l (T.take k) := by
  refine ⟨fun y hy hno => ?_, fun s hs t ht y z h1 h2 h3 h4 hne => ?_⟩
  · rw [take_getD]
    split
    · exact h.1 y hy hno
    · rfl
  · have h5 := h.2 s hs t ht y z h1 h2 h3 h4 hne
    rw [lenp.tx_sum _ 15 (Nat.le_refl _)] at h5 ⊢
    rw [← h5]
    have e : T = T.take k ++ T.drop k := (List.take_append_drop k T).symm
    rw [e, List.map_append, List.sum_append, ← e, sum_zero _ rfl (T.drop k) fun x hx => ?_, Nat.add_zero]
    obtain ⟨i, hi, rfl⟩ := List.getElem_of_mem hx
    rw [List.length_drop] at hi
    have := hz (k + i) (by omega) (by omega)
    rw [List.getElem_drop]
    rw [List.getD_eq_getElem?_getD, List.getElem?_eq_getElem (by omega)] at this
    exact this
set_option maxRecDepth 100000 in
set_option maxHeartbeats 4000000 in
theorem dynamic_any (A : Option Addr) (n c base : Nat) (l : List (Nat × Nat)) (w : World) (hst : Own2 w base A n c l) (hok : ∀ s ∈ l, Ok s ∧ sy s < 286 ∧ (s.2 ≠ 0 → di s < 30)) (hn : n ≤ 16777216) (hO : OrdD w) (hg : 0 < w.heap.size) :
    Calls Tryd.prog 12 #[.slice A n c] w fun e w' => ∃ (TS TD : List Nat) (nS nD : Nat) (T : List Nat) (j : Nat) (ps : List Pt) (A' : Option Addr) (c' : Nat), Told l TS TD nS nD T j ps ∧ e = .returned (.slice A' ((3 + (cat (dynI nS nD T j ps)).1 + (outs TS TD l).1 + 7) / 8) c') ∧ Own w' w.heap.size 5 A' ((3 + (cat (dynI nS nD T j ps)).1 + (outs TS TD l).1 + 7) / 8) c' ((low ((3 + (cat (dynI nS nD T j ps)).1 + (outs TS TD l).1 + 7) / 8) (5 + 2 ^ 3 * (cat (dynI nS nD T j ps)).2 + 2 ^ (3 + (cat (dynI nS nD T j ps)).1) * (outs TS TD l).2)).map bv) ∧ Fresh w w' := by
  have hl := hst.len
  have hlc : (lc l).length ≤ 16777217 := by
    unfold lc
    by_cases h : l.length = 1
    · rw [if_pos h, List.length_append, h]; decide
    · rw [if_neg h]; omega
  obtain ⟨X, hX⟩ : ∃ X, nv (tal fS 286 (lc l)) = X := ⟨_, rfl⟩
  obtain ⟨Y, hY⟩ : ∃ Y, nv (tal fD 30 (lc l)) = Y := ⟨_, rfl⟩
  have HCNT : Hid (∀ W, Fresh w W → Calls Tryd.prog 21 #[.slice A n c] W fun e w' => e = .returned (.tuple #[.agg X.toArray, .agg Y.toArray]) ∧ Fresh W w') := fun W k => counts_gen X Y A n c base l W (hst.fresh k) hok (by omega) hX hY
  have lX : X.length = 286 := by rw [← hX, List.length_map, tal_len]
  have lY : Y.length = 30 := by rw [← hY, List.length_map, tal_len]
  have oX : ∀ v ∈ X, v.oneCell' = true := by rw [← hX]; exact nv_one _
  have oY : ∀ v ∈ Y, v.oneCell' = true := by rw [← hY]; exact nv_one _
  have HX := Lib.hid hX
  have HY := Lib.hid hY
  have OX := Lib.hid oX
  have OY := Lib.hid oY
  have LX := Lib.hid lX
  have LY := Lib.hid lY
  have HOK := Lib.hid hok
  have HST := Lib.hid hst
  have HL := Lib.hid hl
  have HLC := Lib.hid hlc
  have HO := Lib.hid hO
  have HBEG : Hid (∀ W, Calls Tryd.prog 14 #[.int .i64 2] W fun e w' => ∃ g bl, e = .returned (ptr g) ∧ WtrAt w' g 5 3 bl ∧ Since W w' bl) := fun W => begun_any 2 (by omega) W
  have hz := zero_286
  have hy := zero_30
  clear hX hY oX oY lX lY hok hst hl hlc hO
  go_enter Tryd.func12, Tryd.ntmps12
  go_wp2_with (first
    | (go_at_call 14; (with_reducible refine (HBEG.out _).mono ?_); rintro e w1 ⟨gw, bl, rfl, hW, hS⟩; have HW1 := Lib.hid hW; have HS1 := Lib.hid hS; have HF1 := Lib.hid hS.1; clear hW hS)
    | (go_at_call 21; (with_reducible refine (HCNT.out _ HF1.out).mono ?_); rintro e w2 ⟨rfl, hf2⟩; have HF2 := Lib.hid hf2; clear hf2; obtain ⟨k0, k1, kf⟩ := two w2 (Array.replicate 286 (.int .i64 0)) (Array.replicate 30 (.int .i64 0)) t286 t30; have K0 := Lib.hid k0; have K1 := Lib.hid k1; have KF := Lib.hid kf; clear k0 k1 kf)
    | ((with_reducible (refine at_store_ 4 16 ?_)); refine wpList_store_blk rfl t286 (.tmp 4) (.tmp 16) rfl w2.heap.size 0 t286 _ X rfl rfl K0.out (by simp [LX.out]) OX.out (by rw [size_286, LX.out]) ?_; intro w3 hb3 hbut3; rw [splice_all _ _ (by simp [LX.out])] at hb3; have k13 := K1.out.old (hbut3.block _ K1.out.inside (by intro e; injection e with e; omega)); have HB3 := Lib.hid hb3; have K13 := Lib.hid k13; have HF3 := Lib.hid (KF.out.but (Nat.le_refl _) hbut3); clear hb3 hbut3 k13)
    | ((with_reducible (refine at_store_ 5 17 ?_)); refine wpList_store_blk rfl t30 (.tmp 5) (.tmp 17) rfl (w2.heap.size + 1) 0 t30 _ Y rfl rfl K13.out (by simp [LY.out]) OY.out (by rw [size_30, LY.out]) ?_; intro w4 hb4 hbut4; rw [splice_all _ _ (by simp [LY.out])] at hb4; have k34 := HB3.out.old (hbut4.block _ HB3.out.inside (by intro e; injection e with e; omega)); have HB4 := Lib.hid hb4; have K34 := Lib.hid k34; have HF4 := Lib.hid (HF3.out.but (Nat.le_succ _) hbut4); clear hb4 hbut4 k34; have hle := lengths_z fS 286 (lc l) w2.heap.size 286 w4 X HX.out (Bk.row0 K34.out LX.out) (by omega) (Nat.le_refl _) (by unfold maxLen; omega) (by decide) HLC.out; have HLE := Lib.hid hle; clear hle)
    | (go_at_call 23; (with_reducible refine HLE.out.mono ?_); rintro e w5 ⟨L1, T1, rfl, hL1, hb1, hf5, hT1, hfit1, hp1, hful1⟩; have HFU1 := Lib.hid hful1; clear hful1; have htr := trimmed_z L1 286 257 257 rfl T1 w5 hb1 hT1 (by omega) (by omega) (by omega); have HTR1 := Lib.hid htr; clear htr; have HB1 := Lib.hid hb1; have HF5 := Lib.hid hf5; have HT1 := Lib.hid hT1; have HFI1 := Lib.hid hfit1; have HP1 := Lib.hid hp1; clear hb1 hf5 hT1 hfit1 hp1)
    | (go_at_call 22; (with_reducible refine HTR1.out.mono ?_); rintro e w6 ⟨nS, rfl, hs1, hs2, hs3, hf6⟩; have HS3 := Lib.hid hs3; have HF6 := Lib.hid hf6; clear hs3 hf6; have hle := lengths_z fD 30 (lc l) (w2.heap.size + 1) 30 w6 Y HY.out (Bk.row0 ((HB4.out.fresh HF5.out).fresh HF6.out) LY.out) (by omega) (Nat.le_refl _) (by unfold maxLen; omega) (by decide) HLC.out; have HLD := Lib.hid hle; clear hle)
    | (go_at_call 23; (with_reducible refine HLD.out.mono ?_); rintro e w7 ⟨L2, T2, rfl, hL2, hb2, hf7, hT2, hfit2, hp2, hful2⟩; have HFU2 := Lib.hid hful2; clear hful2; have htr := trimmed_z L2 30 1 1 rfl T2 w7 hb2 hT2 (by omega) (by omega) (by omega); have HTR2 := Lib.hid htr; have HB2 := Lib.hid hb2; have HF7 := Lib.hid hf7; have HT2 := Lib.hid hT2; have HFI2 := Lib.hid hfit2; have HP2 := Lib.hid hp2; clear htr hb2 hf7 hT2 hfit2 hp2)
    | (go_at_call 22; (with_reducible refine HTR2.out.mono ?_); rintro e w8 ⟨nD, rfl, hd1, hd2, hd3, hf8⟩; have HD3 := Lib.hid hd3; have HF8 := Lib.hid hf8; clear hd3 hf8; have f18 := ((((HF2.out.trans HF4.out).trans HF5.out).trans HF6.out).trans HF7.out).trans HF8.out; have HS8 := Lib.hid (HS1.out.fresh f18); have hin := HW1.out.1.inside; have z2 := HF2.out.size; have z4 := HF4.out.size; have z5 := HF5.out.size; have z6 := HF6.out.size; have HL1 := Lib.hid (show L1 ∉ bl from fun h => by have := hin L1 h; omega); have HL2 := Lib.hid (show L2 ∉ bl from fun h => by have := hin L2 h; omega); have HB18 := Lib.hid (((HB1.out.fresh HF6.out).fresh HF7.out).fresh HF8.out); have HB28 := Lib.hid (HB2.out.fresh HF8.out); have HP5 := Lib.hid (put_any gw 5 3 5 (nS - 257) 5 ((nS : Int) - 257) bl w8 (HW1.out.fresh f18) (by omega) rfl (by unfold u64; omega)); clear f18 hin)
    | (go_at_call 24; (with_reducible refine HP5.out.mono ?_); rintro e w9 ⟨rfl, bl9, hW9, hT9⟩; have HS9 := Lib.hid (HS8.out.turn hT9); have HB19 := Lib.hid (HB18.out.old (hT9.block L1 HB18.out.inside HL1.out)); have HB29 := Lib.hid (HB28.out.old (hT9.block L2 HB28.out.inside HL2.out)); have HN1 := Lib.hid (hT9.apart HB18.out.inside HL1.out); have HN2 := Lib.hid (hT9.apart HB28.out.inside HL2.out); have HP6 := Lib.hid (put_any gw (5 + 2 ^ 3 * (nS - 257)) (3 + 5) 5 (nD - 1) 5 ((nD : Int) - 1) bl9 w9 hW9 (by omega) rfl (by unfold u64; omega)); clear hW9 hT9)
    | (go_at_call 24; (with_reducible refine HP6.out.mono ?_); rintro e w10 ⟨rfl, bl10, hW10, hT10⟩; have HW10 := Lib.hid hW10; have HS10 := Lib.hid (HS9.out.turn hT10); have HB110 := Lib.hid (HB19.out.old (hT10.block L1 HB19.out.inside HN1.out)); have HB210 := Lib.hid (HB29.out.old (hT10.block L2 HB29.out.inside HN2.out)); have HM1 := Lib.hid (hT10.apart HB19.out.inside HN1.out); have HM2 := Lib.hid (hT10.apart HB29.out.inside HN2.out); have HCC := Lib.hid (concat_two L1 L2 nS nD 286 30 (T1.take nS) (T2.take nD) 31 w10 (nv_cut HB110.out HT1.out hs2) (nv_cut HB210.out HT2.out hd2) (by omega)); clear hW10 hT10)
    | (go_at_call 16; (with_reducible refine HCC.out.mono ?_); rintro e w11 ⟨A11, c11, rfl, ho11, hf11⟩; have HS11 := Lib.hid (HS10.out.fresh hf11); have HB111 := Lib.hid (HB110.out.fresh hf11); have HB211 := Lib.hid (HB210.out.fresh hf11); have hcap := ho11.cap; have HWL := Lib.hid (writeLengths_any gw (5 + 2 ^ 3 * (nS - 257) + 2 ^ (3 + 5) * (nD - 1)) (3 + 5 + 5) bl10 A11 (nS + nD) c11 w11.heap.size (T1.take nS ++ T2.take nD) w11 (HW10.out.fresh hf11) (by omega) ho11.rd (Nat.le_refl _) (by omega) (by omega) hcap.1 hcap.2 (fun x hx => by rcases List.mem_append.1 hx with h | h; exact HFI1.out.2 x (List.mem_of_mem_take h); exact HFI2.out.2 x (List.mem_of_mem_take h)) (HO.out.keep (HS11.out.1.block _ hg)) (by have := HS11.out.1.size; omega) (fun h => by have := HS10.out.2 _ h; omega)); clear ho11 hf11 hcap)
    | (go_at_call 25; (with_reducible refine HWL.out.mono ?_); rintro e w12 ⟨rfl, T, j, ps, bl12, hpa, hcst, hj4, hj19, hT, hfT, hT7, hTp, hTf, hTz, hW12, hT12⟩; have HTF := Lib.hid hTf; have HCST := Lib.hid hcst; clear hTf hcst; have HPA := Lib.hid hpa; have HTL := Lib.hid hT; have HFT := Lib.hid hfT; have HT7 := Lib.hid hT7; have HTP := Lib.hid hTp; have HTZ := Lib.hid hTz; have HW12 := Lib.hid hW12; have HS12 := Lib.hid (HS11.out.turn hT12); have HB112 := Lib.hid (HB111.out.old (hT12.block L1 HB111.out.inside HM1.out)); have HB212 := Lib.hid (HB211.out.old (hT12.block L2 HB211.out.inside HM2.out)); have HNS := Lib.hid (made_ok (some ⟨L1, 0, none⟩) nS 286 (T1.take nS) w12 w12.heap.size (nv_cut HB112.out HT1.out hs2) (Nat.le_refl _) (by omega) (fit_take HFI1.out nS).2 (fit_take HFI1.out nS).1); clear hpa hT hfT hT7 hTp hTz hW12 hT12)
    | (go_at_call 15; (with_reducible refine HNS.out.mono ?_); rintro e w13 ⟨gs, sbl, rfl, hC13, hS13⟩; have HC13 := Lib.hid hC13; have HS13 := Lib.hid hS13; have HF13 := Lib.hid hS13.1; have HND := Lib.hid (made_ok (some ⟨L2, 0, none⟩) nD 30 (T2.take nD) w13 w13.heap.size (nv_cut (HB212.out.fresh HF13.out) HT2.out hd2) (Nat.le_refl _) (by omega) (fit_take HFI2.out nD).2 (fit_take HFI2.out nD).1); clear hC13 hS13)
    | (go_at_call 15; (with_reducible refine HND.out.mono ?_); rintro e w14 ⟨gd, dbl, rfl, hC14, hS14⟩; have HC14 := Lib.hid hC14; have HS14 := Lib.hid hS14; have HF14 := Lib.hid hS14.1; have TS := told_codes HOK.out HL.out HP1.out HP2.out HT1.out HT2.out HS3.out HD3.out hs2 hd2; have HTS := Lib.hid TS; have hin := HW12.out.1.inside; have z13 := HF13.out.size; have hend := ended_any gw gs gd _ _ (T1.take nS) (T2.take nD) sbl dbl bl12 A n c l base w14 ((HW12.out.fresh HF13.out).fresh HF14.out) (HC13.out.fresh HF14.out) HC14.out (fun b hb h => by have h1 := hin b h; have h2 := HS13.out.2 b hb; omega) (fun b hb h => by have h1 := hin b h; have h2 := HS14.out.2 b hb; omega) (HST.out.fresh ((HS12.out.1.trans HF13.out).trans HF14.out)) (fun q hq h => by have h1 := HS12.out.2 q h; obtain ⟨_, cs, fr, h2⟩ := HST.out.block q hq; have h3 := (Array.getElem?_eq_some_iff.1 h2).1; omega) (fun s hs => by obtain ⟨o1, _, _⟩ := HOK.out s hs; obtain ⟨q1, q2⟩ := HTS.out s (lc_sub hs); exact ⟨o1, by have := q1.1; rw [List.length_take, HT1.out]; omega, fun h => by have := (q2 h).1; rw [List.length_take, HT2.out]; omega⟩) (by omega) (by have := tell_few (T := T) (j := j) HPA.out HTL.out hj19 HFI1.out HFI2.out hs2 hd2; omega); have HEND := Lib.hid hend; clear hend TS hC14 hS14 hin)
    | (go_at_call 18; (with_reducible refine HEND.out.mono ?_); rintro e w15 ⟨A', c', bl15, rfl, ho, ht⟩))
  go_ret
  refine ⟨T1.take nS, T2.take nD, nS, nD, T, j, ps, A', c', ?_, ?_, ?_, ?_⟩
  · exact
    { s1 := hs1, s2 := hs2, d1 := hd1, d2 := hd2, ls := by rw [List.length_take, HT1.out]; omega, ld := by rw [List.length_take, HT2.out]; omega, fs := fit_take HFI1.out nS, fd := fit_take HFI2.out nD
      us := fun s hs => by
        obtain ⟨q1, _⟩ := HTS.out s hs
        rw [take_getD, if_pos q1.1]
        exact ⟨q1.2, q1.1⟩
      ud := fun s hs h => by
        obtain ⟨_, q2⟩ := HTS.out s hs
        obtain ⟨r1, r2⟩ := q2 h
        rw [take_getD, if_pos r1]
        exact ⟨r2, r1⟩
      pa := HPA.out, j4 := hj4, j19 := hj19, lt := HTL.out, ft := HFT.out, t7 := HT7.out, tp := HTP.out, tz := HTZ.out, fullS := full_take HFU1.out HT1.out hs2 HS3.out, fullD := full_take HFU2.out HT2.out hd2 HD3.out, fullT := HTF.out, cst := HCST.out }
  · rw [dyn_1]
    rfl
  · rw [dyn_1, dyn_2]
    exact own_low ho (by have := ((HS12.out.1.trans HF13.out).trans HF14.out).size; omega)
  · exact ((((HS12.out.fresh HF13.out).fresh HF14.out)).turn ht).1
end Go.Proofs.YtcmeoappddpmcaaDoor.defp
