import Derived.Test.YtppgceighgpgoaaGreatDoorDefCount
import Derived.Test.YtppgceighgpgoaaGreatDoorMgLnE
/- Several of my own texts, one behind the other. -/
/-
  writeLengths: what it leans on, what it writes. My own text.
-/
namespace Go.Proofs.YtppgceighgpgoaaGreatDoor.defp
open Go.RowKit Go.Maps Go.Proofs.YtppgceighgpgoaaGreatDoor.base Go.Proofs.YtppgceighgpgoaaGreatDoor.num Go.Proofs.YtppgceighgpgoaaGreatDoor.bitnum Go.Proofs.YtppgceighgpgoaaGreatDoor.bitp Go.Proofs.YtppgceighgpgoaaGreatDoor.huffnum Go.Proofs.YtppgceighgpgoaaGreatDoor.huffp Go.Proofs.YtppgceighgpgoaaGreatDoor.infp
set_option linter.unusedVariables false
/-- numbers of so many bits, one behind the other -/
def cat (l : List (Nat × Nat)) : Nat × Nat := l.foldl (fun a x => (a.1 + x.1, a.2 + 2 ^ a.1 * x.2)) (0, 0)
theorem cat_snoc (l : List (Nat × Nat)) (x : Nat × Nat) : cat (l ++ [x]) = ((cat l).1 + x.1, (cat l).2 + 2 ^ (cat l).1 * x.2) := by
  unfold cat
  rw [List.foldl_append]
  rfl
theorem cat_step (N m k y : Nat) (l : List (Nat × Nat)) : N + 2 ^ m * (cat l).2 + 2 ^ (m + (cat l).1) * y = N + 2 ^ m * (cat (l ++ [(k, y)])).2 ∧ m + (cat l).1 + k = m + (cat (l ++ [(k, y)])).1 := by
  rw [cat_snoc]
  simp only [Nat.mul_add, Nat.pow_add, Nat.mul_assoc, Nat.add_assoc]
  exact ⟨trivial, trivial⟩
/-- the order in which the lengths of the code of lengths are told -/
def OrdD (w : World) : Prop := ∀ j s, infnum.order[j]? = some s → w.cell? ⟨0, j, none⟩ = some (iv (s : Nat))
theorem OrdD.keep {w w' : World} (h : OrdD w) (hk : w'.heap[0]? = w.heap[0]?) : OrdD w' := fun j s hj => (World.cell?_of_block hk).trans (h j s hj)
theorem pcells_at : ∀ (l : List Pt) (i : Nat) (s : Pt), l[i]? = some s → ∀ (j : Nat) (v : Value), (pcell s)[j]? = some v → (pcells l)[i * 3 + j]? = some v
  | [], i, s, h, _, _, _ => by simp at h
  | a :: r, 0, s, h, j, v, hj => by
    simp only [List.getElem?_cons_zero, Option.some.injEq] at h
    subst h
    have hl : j < (pcell a).length := (List.getElem?_eq_some_iff.1 hj).1
    rw [Nat.zero_mul, Nat.zero_add]
    show (pcell a ++ pcells r)[j]? = _
    rw [List.getElem?_append_left hl]
    exact hj
  | a :: r, i + 1, s, h, j, v, hj => by
    rw [List.getElem?_cons_succ] at h
    have ih := pcells_at r i s h j v hj
    show (pcell a ++ pcells r)[(i + 1) * 3 + j]? = _
    rw [List.getElem?_append_right (by show 3 ≤ _; omega), show (i + 1) * 3 + j - (pcell a).length = i * 3 + j by show _ - 3 = _; omega]
    exact ih
theorem Own3.at_ {w : World} {base n c : Nat} {A : Option Addr} {l : List Pt} (h : Own3 w base A n c l) {i : Nat} {s : Pt} (hs : l[i]? = some s) :
    ∃ g, A = some ⟨g, 0, none⟩ ∧ base ≤ g ∧ g < w.heap.size ∧ w.rangeAt g (i * 3) (pcell s) := by
  have hl := h.len
  have hi : i < n := by rw [← hl]; exact (List.getElem?_eq_some_iff.1 hs).1
  rcases h.2 with ⟨_, hn⟩ | ⟨g, cap, cur, hv, hb, hg, h1, h2, h3, h4⟩
  · omega
  · injection hv with hA _ _
    refine ⟨g, hA, hb, (Array.getElem?_eq_some_iff.1 hg).1, fun j v hj => ?_⟩
    have hc := pcells_at l i s hs j v hj
    rw [← h4, List.getElem?_take] at hc
    split at hc
    · rw [cell_of_row w g (i * 3 + j) _ _ (0, 0) hg]
      rw [← hc]
      simp
    · cases hc
theorem partSize : (Tryz.prog.info? tPart).map (·.size) = some 3 := by kernel_rfl
theorem zero_19 (W : World) : (zeroValue 110).run Tryz.prog W = .ok (.agg (Array.replicate 19 (.int .i64 0))) W := by kernel_rfl
abbrev t19 : TypeId := 110
/-- a part's symbol -/
def fP (p : Pt) : Option Nat := some p.1
theorem tal_ints {α : Type} (f : α → Option Nat) (nn : Nat) (l : List α) : nv (tal f nn l) = ((tal f nn l).map fun x : Nat => (x : Int)).map iv := by
  unfold nv
  rw [List.map_map]
  rfl
theorem tal_most {α : Type} (f : α → Option Nat) (nn : Nat) (l : List α) (h : l.length ≤ 16777217) : ∀ x ∈ (tal f nn l).map (fun x : Nat => (x : Int)), x ≤ lennum.mostInt := fun x hx => by
  obtain ⟨y, hy, rfl⟩ := List.mem_map.1 hx
  unfold tal at hy
  obtain ⟨z, _, rfl⟩ := List.mem_map.1 hy
  have : l.countP (fun s => decide (f s = some z)) ≤ l.length := List.countP_le_length
  unfold lennum.mostInt
  omega
theorem tal_pos {α : Type} (f : α → Option Nat) (nn : Nat) (l : List α) {s : α} {y : Nat} (hs : s ∈ l) (hf : f s = some y) (hy : y < nn) : 0 < ((tal f nn l).map (fun x : Nat => (x : Int))).getD y 0 := by
  rw [List.getD_eq_getElem?_getD, List.getElem?_map, tal_get f l hy]
  have : 0 < l.countP fun s => decide (f s = some y) := List.countP_pos_iff.2 ⟨s, hs, by simp [hf]⟩
  show (0 : Int) < ((l.countP fun s => decide (f s = some y) : Nat) : Int)
  omega
theorem tal_none0 {α : Type} (f : α → Option Nat) (nn : Nat) (l : List α) {y : Nat} (hy : y < nn) (h : ∀ s ∈ l, f s ≠ some y) : ¬ 0 < ((tal f nn l).map (fun x : Nat => (x : Int))).getD y 0 := by
  rw [List.getD_eq_getElem?_getD, List.getElem?_map, tal_get f l hy]
  have : l.countP (fun s => decide (f s = some y)) = 0 := List.countP_eq_zero.2 fun s hs => by simpa using h s hs
  rw [this]
  decide
/-- what Lengths makes of such a row of counts, besides -/
def Full {α : Type} (f : α → Option Nat) (nn : Nat) (l : List α) (T : List Nat) : Prop :=
  (∀ y, y < nn → (∀ s ∈ l, f s ≠ some y) → T.getD y 0 = 0) ∧ (∀ s ∈ l, ∀ t ∈ l, ∀ y z, f s = some y → f t = some z → y < nn → z < nn → y ≠ z → tx T 15 = 32768) ∧ ∀ s ∈ l, ∀ y, f s = some y → y < nn → (∀ t ∈ l, ∀ z, f t = some z → z < nn → z = y) → T.getD y 0 = 1
/-- the lengths that Lengths gives out for such a row of counts -/
def Lens {α : Type} (f : α → Option Nat) (nn most : Nat) (l : List α) (T : List Nat) : Prop := lenp.LenU ((tal f nn l).map fun x : Nat => (x : Int)) nn most T
theorem Lens.uniq {α : Type} {f : α → Option Nat} {nn most : Nat} {l : List α} {T T' : List Nat} (h : Lens f nn most l T) (h' : Lens f nn most l T') : T = T' :=
  lenp.LenU.uniq (by rw [List.length_map, tal_len]) h h'
theorem lengths_of {α : Type} (f : α → Option Nat) (nn : Nat) (l : List α) (G off cc : Nat) (w : World) (hr : Rd w w.heap.size (some ⟨G, off, none⟩) nn (nv (tal f nn l))) (h1 : nn ≤ 320) (h2 : nn ≤ cc) (h3 : cc ≤ maxLen) (most : Nat) (hm1 : 1 ≤ most) (hm2 : most ≤ 15) (hfew : nn ≤ 2 ^ most) (hl : l.length ≤ 16777217) :
    Calls Tryz.prog 30 #[.slice (some ⟨G, off, none⟩) nn cc, .int .i64 most] w fun e w' => ∃ (L : Nat) (T : List Nat), e = .returned (.slice (some ⟨L, 0, none⟩) nn nn) ∧ w.heap.size ≤ L ∧ Bk w' L 3 (nv T) ∧ Fresh w w' ∧ T.length = nn ∧ Fit T ∧ (∀ x ∈ T, x ≤ most) ∧ (∀ s ∈ l, ∀ y, f s = some y → y < nn → 1 ≤ T.getD y 0) ∧ Full f nn l T ∧ Lens f nn most l T := by
  rw [tal_ints] at hr
  refine (lenp.lengths_any _ nn cc _ w.heap.size w hr h1 h2 h3 (Nat.le_refl _) most hm1 hm2 (Nat.le_trans (lenp.picks_len _ _) hfew) (tal_most f nn l hl)).mono ?_
  rintro e w' ⟨L, T, rfl, hL, hb, hf, ht, hfit, hm, hp, hz, hfull, hone, hun⟩
  exact ⟨L, T, rfl, hL, hb, hf, ht, hfit, hm, fun s hs y hy hlt => hp y hlt (tal_pos f nn l hs hy hlt), ⟨fun y hy h => hz y hy (tal_none0 f nn l hy h), fun s hs t ht y z h1 h2 h3 h4 hne => hfull y z h3 h4 (tal_pos f nn l hs h1 h3) (tal_pos f nn l ht h2 h4) hne, fun s hs y hy hlt hal => hone y hlt (tal_pos f nn l hs hy hlt) fun z hz hne => tal_none0 f nn l hz fun t ht e => hne (hal t ht z e hz)⟩, hun⟩
end Go.Proofs.YtppgceighgpgoaaGreatDoor.defp
/-
  writeLengths. My own text.
-/
namespace Go.Proofs.YtppgceighgpgoaaGreatDoor.defp
open Go.RowKit Go.Maps Go.Proofs.YtppgceighgpgoaaGreatDoor.base Go.Proofs.YtppgceighgpgoaaGreatDoor.num Go.Proofs.YtppgceighgpgoaaGreatDoor.bitnum Go.Proofs.YtppgceighgpgoaaGreatDoor.bitp Go.Proofs.YtppgceighgpgoaaGreatDoor.huffnum Go.Proofs.YtppgceighgpgoaaGreatDoor.huffp Go.Proofs.YtppgceighgpgoaaGreatDoor.infp
set_option linter.unusedVariables false
/-- what tells the lengths: how many, the lengths of the code of lengths, the parts -/
def headI (T : List Nat) (j : Nat) : List (Nat × Nat) := (4, j - 4) :: (infnum.order.take j).map fun s => (3, T.getD s 0)
def partI (T : List Nat) (p : Pt) : List (Nat × Nat) := [((Fs T 16 0 p.1).1, rev (Fs T 16 0 p.1).1 (u64 ((Fs T 16 0 p.1).2 : Int))), (p.2.1, p.2.2)]
/-- the first i of them -/
def headK (T : List Nat) (j i : Nat) : List (Nat × Nat) := (4, j - 4) :: (infnum.order.take i).map fun s => (3, T.getD s 0)
theorem headK_next (T : List Nat) (j i s : Nat) (h : infnum.order[i]? = some s) : headK T j (i + 1) = headK T j i ++ [(3, T.getD s 0)] := by
  unfold headK
  rw [List.take_add_one, h, List.map_append]
  rfl
theorem headK_none (T : List Nat) (j : Nat) : cat (headK T j 0) = (4, j - 4) := by
  unfold headK cat
  simp
def tellI (T : List Nat) (j : Nat) (ps : List Pt) : List (Nat × Nat) := headI T j ++ ps.flatMap (partI T)
theorem u64_small (x k : Nat) (hk : k ≤ 7) (h : x < 2 ^ k) : u64 (x : Int) = x := by
  have : 2 ^ k ≤ 2 ^ 7 := Nat.pow_le_pow_right (by omega) hk
  unfold u64
  omega
theorem ord_len : infnum.order.length = 19 := by decide
theorem ord_lt : ∀ s ∈ infnum.order, s < 19 := by decide
/-- where the lengths of the code of lengths end -/
def Hd (T : List Nat) (j : Nat) : Prop := j = 4 ∨ ∃ s, infnum.order[j - 1]? = some s ∧ T.getD s 0 ≠ 0
theorem Hd.uniq {T : List Nat} {j j' : Nat} (h : Hd T j) (h' : Hd T j') (h4 : 4 ≤ j) (h4' : 4 ≤ j') (hz : ∀ i s, j ≤ i → infnum.order[i]? = some s → T.getD s 0 = 0) (hz' : ∀ i s, j' ≤ i → infnum.order[i]? = some s → T.getD s 0 = 0) : j = j' := by
  rcases Nat.lt_trichotomy j j' with c | c | c
  · rcases h' with h' | ⟨s, hs, hn⟩
    · omega
    · exact absurd (hz _ s (by omega) hs) hn
  · exact c
  · rcases h with h | ⟨s, hs, hn⟩
    · omega
    · exact absurd (hz' _ s (by omega) hs) hn
set_option maxRecDepth 100000 in
set_option maxHeartbeats 4000000 in
theorem writeLengths_any (gw N m : Nat) (bl : List Nat) (A : Option Addr) (n c B : Nat) (ls : List Nat) (w : World) (hW : WtrAt w gw N m bl) (hm : m ≤ 1000000) (hr : Rd w B A n (nv ls)) (hB : B ≤ w.heap.size) (hn1 : 1 ≤ n) (hn2 : n ≤ 320) (hc : n ≤ c) (hcm : c ≤ maxLen) (h15 : ∀ x ∈ ls, x ≤ 15)
    (hO : OrdD w) (hg : 0 < w.heap.size) (hgb : 0 ∉ bl) :
    Calls Tryz.prog 32 #[ptr gw, .slice A n c] w fun e w' => e = .returned (.tuple #[]) ∧ ∃ (T : List Nat) (j : Nat) (ps : List Pt) (bl' : List Nat), Pa ls n ps ∧ Cost ls n ps ∧ 4 ≤ j ∧ j ≤ 19 ∧ T.length = 19 ∧ Fit T ∧ (∀ x ∈ T, x ≤ 7) ∧ (∀ p ∈ ps, 1 ≤ T.getD p.1 0) ∧ Full fP 19 ps T ∧ (∀ i s, j ≤ i → infnum.order[i]? = some s → T.getD s 0 = 0) ∧ WtrAt w' gw (N + 2 ^ m * (cat (tellI T j ps)).2) (m + (cat (tellI T j ps)).1) bl' ∧ Turn bl bl' w w' ∧ Lens fP 19 7 ps T ∧ Pd ls n n ps ∧ Hd T j := by
  have hl : ls.length = n := by have := hr.1; rwa [List.length_map] at this
  have hpo := partsOf_any A n c B ls w hr hB (by omega) hc hcm h15
  have HPO := Lib.hid hpo
  have HW := Lib.hid hW
  have H15 := Lib.hid h15
  have HO := Lib.hid hO
  have HL := Lib.hid hl
  have hz := zero_19
  have hin := hW.1.inside
  have HIN := Lib.hid hin
  have HGB := Lib.hid hgb
  clear hpo hW h15 hO hl hr hB hc hcm hin hgb
  go_enter Tryz.func32, Tryz.ntmps32
  go_wp2_with (go_at_call 51; (refine HPO.out.mono ?_); rintro e w1 ⟨A3, c3, ps, rfl, hpa, ho3, hf1, hcost, hpd⟩; have HCST := Lib.hid hcost; have HPD := Lib.hid hpd; clear hcost hpd; have HPA := Lib.hid hpa; have HO3 := Lib.hid ho3; have HF1 := Lib.hid hf1; clear hpa ho3 hf1)
  obtain ⟨k, hk⟩ : ∃ k, ps.length = k := ⟨_, rfl⟩
  have hk2 : k ≤ 320 := by have := HPA.out.le; omega
  have HK := Lib.hid hk
  rw [hk]
  have hbC : Bk (w1.alloc (.cells (Array.replicate 19 (.int .i64 0)) t19)) w1.heap.size t19 (nv (tal fP 19 (ps.take 0))) := by
    have h := Bk.made w1 t19 (Array.replicate 19 (.int .i64 0))
    rw [nv_zero, ← tal_nil fP 19] at h
    rw [List.take_zero]
    exact h
  have HBC := Lib.hid hbC
  clear hk hbC hz
  go_loopw [19] (fun vi wr => ∃ (i : Nat), vi = .int .i64 i ∧ i ≤ k ∧ Hid (Bk wr w1.heap.size t19 (nv (tal fP 19 (ps.take i)))) ∧ Hid (Fresh w1 wr)) (fun vi _ => k - (intOf vi).toNat)
  case atStart => exact ⟨0, rfl, Nat.zero_le _, HBC, Lib.hid (Fresh.alloc _ _)⟩
  case round =>
    obtain ⟨i, rfl, hi, HC, HF⟩ := hrel
    by_cases hlt : i < k
    · have hil : (i : Int) < (k : Int) := by omega
      obtain ⟨p, hp⟩ : ∃ p, ps[i]? = some p := ⟨_, List.getElem?_eq_getElem (by rw [HK.out]; exact hlt)⟩
      have ho3 := HO3.out
      rw [HK.out] at ho3
      obtain ⟨g, rfl, hg1, hg2, hrange⟩ := Own3.at_ (Own3.fresh ho3 HF.out) hp
      obtain ⟨p18, _, _⟩ := HPA.out.each H15.out p (List.mem_of_getElem? hp)
      have ht : ps.take (i + 1) = ps.take i ++ [p] := by rw [List.take_add_one, hp]; rfl
      obtain ⟨cS, hcS⟩ : ∃ cS, (ps.take i).countP (fun s' => decide (fP s' = some p.1)) = cS := ⟨_, rfl⟩
      have hcSb : cS ≤ 320 := by rw [← hcS]; exact Nat.le_trans List.countP_le_length (by rw [List.length_take, HK.out]; omega)
      have hgS := tal_get fP (ps.take i) (y := p.1) (nn := 19) (by omega)
      rw [hcS] at hgS
      have hsS := tal_some fP (ps.take i) (nn := 19) p (y := p.1) rfl (by omega)
      rw [hcS, ← ht] at hsS
      obtain ⟨p1, p2, p3⟩ := p
      simp only [pcell] at hrange
      simp only at p18 hgS hsS
      have HR := Lib.hid hrange
      have HGS := Lib.hid hgS
      have HSS := Lib.hid hsS
      have hwr : w1.heap.size < wr.heap.size := HC.out.inside
      have hcl : wr.cell? ⟨w1.heap.size, p1, none⟩ = some (.int .i64 (cS : Nat)) := HC.out.cell (by unfold nv; rw [List.getElem?_map, HGS.out]; rfl)
      have hfz := HC.out.free p1
      have hput := HC.out.put p1 (iv ((cS + 1 : Nat) : Int))
      rw [nv_set, HSS.out] at hput
      have HPUT := Lib.hid hput
      have p19 : (p1 : Int) < 19 := by omega
      clear hp hrange ht hcS hgS hsS hput ho3
      go_wp2_with (first
        | ((with_reducible (refine at_slot_ 22 ?_)); refine wpList_load_mid rfl tPart (.tmp 21) rfl g (i * 3) rfl _ _ HR.out Tryz.underlying112 rfl partSize ?_))
      refine ⟨⟨i + 1, rfl, hlt, Lib.hid (HPUT.out.alloc _), Lib.hid ((HF.out.but (Nat.le_refl _) (But.put _ _)).trans (Fresh.alloc _ _))⟩, ?_⟩
      show k - ((i : Int) + 1).toNat < k - ((i : Int)).toNat
      omega
    · have hin : i = k := by omega
      subst hin
      have e : ps.take i = ps := List.take_of_length_le (by have := HK.out; omega)
      have hC := HC.out
      rw [e] at hC
      have HC2 := Lib.hid hC
      have hle := lengths_of fP 19 ps w1.heap.size 0 19 wr (Bk.row0 hC (by rw [List.length_map, tal_len])) (by omega) (Nat.le_refl _) (by unfold maxLen; omega) 7 (by omega) (by omega) (by omega) (by rw [HK.out]; omega)
      have HLE := Lib.hid hle
      clear e hC hle HC HBC
      go_wp2_with (go_at_call 30; (refine HLE.out.mono ?_); rintro e w2 ⟨L, T, rfl, hL, hb, hf2, hT, hfit, h7, hpos, hful, hlens⟩; have HFUL := Lib.hid hful; have HLEN := Lib.hid hlens; clear hful hlens; have HBT := Lib.hid hb; have HF2 := Lib.hid (HF.out.trans hf2); have HT := Lib.hid hT; have HFIT := Lib.hid hfit; have H7 := Lib.hid h7; have HPOS := Lib.hid hpos; clear hb hf2 hT hfit h7 hpos)
      have hord : ∀ W, Fresh w2 W → OrdD W := fun W k => HO.out.keep (((HF1.out.trans HF2.out).trans k).block _ hg)
      have HORD := Lib.hid hord
      clear hord
      go_loopw [9] (fun t wr => ∃ (j : Nat), t = .int .i64 j ∧ 4 ≤ j ∧ j ≤ 19 ∧ Hid (∀ i s, j ≤ i → infnum.order[i]? = some s → T.getD s 0 = 0) ∧ Hid (Fresh w2 wr)) (fun t _ => (intOf t).toNat)
      case atStart => exact ⟨19, rfl, by omega, Nat.le_refl _, Lib.hid (fun i s h1 h2 => absurd (List.getElem?_eq_some_iff.1 h2).1 (by rw [ord_len]; omega)), Lib.hid (Fresh.refl _)⟩
      case round =>
        rename World => wo
        obtain ⟨j, rfl, hj4, hj19, HZ, HFO⟩ := hrel
        by_cases hlj : 4 < j
        · obtain ⟨q, hq⟩ : ∃ q, q + 1 = j := ⟨j - 1, by omega⟩
          have hjl : (4 : Int) < (j : Int) := by omega
          have hjq : (j : Int) - 1 = (q : Int) := by omega
          have qn : (q : Int) < 19 := by omega
          obtain ⟨s, hs⟩ : ∃ s, infnum.order[q]? = some s := ⟨_, List.getElem?_eq_getElem (by rw [ord_len]; omega)⟩
          have hs19 := ord_lt s (List.mem_of_getElem? hs)
          have ks : wo.cell? ⟨0, q, none⟩ = some (.int .i64 (s : Nat)) := HORD.out wo HFO.out q s hs
          have kt : wo.cell? ⟨L, s, none⟩ = some (.int .i64 (T.getD s 0 : Nat)) := (HBT.out.fresh HFO.out).cell (by unfold nv; rw [List.getElem?_map, List.getD_eq_getElem?_getD, List.getElem?_eq_getElem (by rw [HT.out]; omega)]; rfl)
          have s19 : (s : Int) < 19 := by omega
          by_cases hz : T.getD s 0 = 0
          · rw [hz] at kt
            have hz1 : ∀ i s, q ≤ i → infnum.order[i]? = some s → T.getD s 0 = 0 := fun i s' h1 h2 => by
              rcases Nat.lt_or_ge q i with h | h
              · exact HZ.out i s' (by omega) h2
              · obtain rfl : i = q := by omega
                rw [hs] at h2
                injection h2 with h2
                rw [← h2]
                exact hz
            have HZ1 := Lib.hid hz1
            clear hz1 hz hs
            go_wp2
            refine ⟨⟨q, rfl, by omega, by omega, HZ1, HFO⟩, ?_⟩
            show ((q : Int)).toNat < ((j : Int)).toNat
            omega
          have huv' : ¬ ((T.getD s 0 : Nat) : Int) = 0 := fun h => hz (by omega)
          have HJ : Hid (Hd T j) := Lib.hid (.inr ⟨s, by rw [show j - 1 = q from by omega]; exact hs, hz⟩)
          clear hz
          generalize T.getD s 0 = v at kt huv'
          have hfo := HFO.out
          have HWO := Lib.hid (HW.out.fresh (((HF1.out.trans HF2.out).trans HFO.out)))
          have HP4 := Lib.hid (put_any gw N m 4 (j - 4) 4 ((j : Int) - 4) bl wo HWO.out (by omega) rfl (by unfold u64; omega))
          go_wp2_with (go_at_call 31; (with_reducible refine HP4.out.mono ?_); rintro e w3 ⟨rfl, bl3, hW3, hT3⟩; have HW3 := Lib.hid hW3; have HT3 := Lib.hid hT3; clear hW3 hT3)
          have hstart := cat_step N m 4 (j - 4) []
          go_loopw [51] (fun vi wr => ∃ (t NN mm : Nat) (blr : List Nat), vi = .int .i64 t ∧ t ≤ j ∧ mm ≤ m + 4 + 3 * t ∧ Hid (NN = N + 2 ^ m * (cat (headK T j t)).2) ∧ Hid (mm = m + (cat (headK T j t)).1) ∧ Hid (WtrAt wr gw NN mm blr) ∧ Hid (Turn bl blr wo wr)) (fun vi _ => j - (intOf vi).toNat)
          case atStart => exact ⟨0, N + 2 ^ m * (j - 4), m + 4, bl3, rfl, Nat.zero_le _, by omega, Lib.hid (by rw [headK_none]), Lib.hid (by rw [headK_none]), HW3, HT3⟩
          case round =>
            obtain ⟨t, NN, mm, blr, rfl, htj, hmm, HNN, HMM, HWR, HTR⟩ := hrel
            have hLb : L ∉ bl := fun h => by have h1 := HIN.out L h; have h2 := HF1.out.size; have h3 := HF.out.size; omega
            have hzs : 0 < wo.heap.size := by have h2 := ((HF1.out.trans HF2.out).trans HFO.out).size; omega
            have hLs : L < wo.heap.size := (HBT.out.fresh HFO.out).inside
            by_cases hlt2 : t < j
            · have htl : (t : Int) < (j : Int) := by omega
              obtain ⟨s, hs⟩ : ∃ s, infnum.order[t]? = some s := ⟨_, List.getElem?_eq_getElem (by rw [ord_len]; omega)⟩
              have hs19 := ord_lt s (List.mem_of_getElem? hs)
              have ks : wr.cell? ⟨0, t, none⟩ = some (.int .i64 (s : Nat)) := ((HORD.out wo HFO.out).keep (HTR.out.block _ hzs HGB.out)) t s hs
              have kt : wr.cell? ⟨L, s, none⟩ = some (.int .i64 (T.getD s 0 : Nat)) := ((HBT.out.fresh HFO.out).old (HTR.out.block L hLs hLb)).cell (by unfold nv; rw [List.getElem?_map, List.getD_eq_getElem?_getD, List.getElem?_eq_getElem (by rw [HT.out]; omega)]; rfl)
              have s19 : (s : Int) < 19 := by omega
              have hv7 : T.getD s 0 ≤ 7 := by
                rw [List.getD_eq_getElem?_getD, List.getElem?_eq_getElem (by rw [HT.out]; omega)]
                exact H7.out _ (List.getElem_mem _)
              have hne := headK_next T j t s hs
              obtain ⟨v, hv⟩ : ∃ v, T.getD s 0 = v := ⟨_, rfl⟩
              rw [hv] at kt hv7 hne
              obtain ⟨c1, c2⟩ := cat_step N m 3 v (headK T j t)
              rw [← hne, ← HMM.out, ← HNN.out] at c1
              rw [← hne, ← HMM.out] at c2
              have C1 := Lib.hid c1
              have C2 := Lib.hid c2
              have HP3 := Lib.hid (put_any gw NN mm 3 v 3 (v : Int) blr wr HWR.out (by omega) rfl (by unfold u64; omega))
              clear hs hne hv c1 c2
              go_wp2_with (go_at_call 31; (with_reducible refine HP3.out.mono ?_); rintro e w4 ⟨rfl, bl4, hW4, hT4⟩; have HW4 := Lib.hid hW4; have HT4 := Lib.hid hT4; clear hW4 hT4)
              refine ⟨⟨t + 1, NN + 2 ^ mm * v, mm + 3, bl4, rfl, hlt2, by omega, C1, C2, HW4, Lib.hid (HTR.out.trans HT4.out)⟩, ?_⟩
              show j - ((t : Int) + 1).toNat < j - ((t : Int)).toNat
              omega
            · have hin : t = j := by omega
              subst hin
              rename World => wp
              have hmd := Lib.hid (made_ok (some ⟨L, 0, none⟩) 19 19 T wp wp.heap.size (Bk.row0 ((HBT.out.fresh HFO.out).old (HTR.out.block L hLs hLb)) (by rw [List.length_map, HT.out])) (Nat.le_refl _) (by omega) HFIT.out.2 HFIT.out.1)
              go_wp2_with (go_at_call 24; (with_reducible refine hmd.out.mono ?_); rintro e w6 ⟨gc, cbl, rfl, hC, hS⟩; have HC6 := Lib.hid hC; have HS6 := Lib.hid hS; clear hC hS)
              have hnb : ∀ g, (Value.slice A3 i c3).ownBlock = some g → ∃ cs fr, w1.heap[g]? = some (.cells cs tPart fr) ∧ w.heap.size ≤ g := fun g hg => by
                have ho3 := HO3.out
                rw [HK.out] at ho3
                obtain ⟨h1, cs, fr, h2⟩ := ho3.block g hg
                exact ⟨cs, fr, h2, h1⟩
              have ho1 : Own3 w1 w.heap.size A3 i c3 ps := by have ho3 := HO3.out; rwa [HK.out] at ho3
              have hoo := ho1.fresh (HF2.out.trans HFO.out)
              have hgo : ∀ g, (Value.slice A3 i c3).ownBlock = some g → g < wo.heap.size ∧ g ∉ bl := fun g hg => by
                obtain ⟨_, cs, fr, h2⟩ := hoo.block g hg
                obtain ⟨_, _, _, h3⟩ := hnb g hg
                exact ⟨(Array.getElem?_eq_some_iff.1 h2).1, fun h => by have := HIN.out g h; omega⟩
              have ho6 := (hoo.keep fun g hg => HTR.out.block g (hgo g hg).1 (hgo g hg).2).fresh HS6.out.1
              have hg6 : ∀ g, (Value.slice A3 i c3).ownBlock = some g → g < w6.heap.size ∧ g ∉ blr := fun g hg => by
                obtain ⟨_, cs, fr, h2⟩ := ho6.block g hg
                exact ⟨(Array.getElem?_eq_some_iff.1 h2).1, HTR.out.apart (hgo g hg).1 (hgo g hg).2⟩
              have hrow : ∀ (W : World) (bl' : List Nat), Turn blr bl' w6 W → Own3 W w.heap.size A3 i c3 ps := fun W bl' k => ho6.keep fun g hg => k.block g (hg6 g hg).1 (hg6 g hg).2
              have hcb : ∀ b ∈ cbl, b ∉ blr := fun b hb h => by have h1 := HS6.out.2 b hb; have h2 := HWR.out.1.inside b h; omega
              have HROW := Lib.hid hrow
              have HCB := Lib.hid hcb
              have HW6 := Lib.hid (HWR.out.fresh HS6.out.1)
              clear hnb ho1 hoo hgo ho6 hg6 hrow hcb
              go_loopw [70] (fun vi wr => ∃ (u N2 m2 : Nat) (bl2 : List Nat), vi = .int .i64 u ∧ u ≤ i ∧ m2 ≤ m + 100 + 22 * u ∧ Hid (N2 = N + 2 ^ m * (cat (headK T t t ++ (ps.take u).flatMap (partI T))).2) ∧ Hid (m2 = m + (cat (headK T t t ++ (ps.take u).flatMap (partI T))).1) ∧ Hid (WtrAt wr gw N2 m2 bl2) ∧ Hid (Turn blr bl2 w6 wr)) (fun vi _ => i - (intOf vi).toNat)
              case atStart => exact ⟨0, NN, mm, blr, rfl, Nat.zero_le _, by omega, Lib.hid (by rw [List.take_zero, List.flatMap_nil, List.append_nil]; exact HNN.out), Lib.hid (by rw [List.take_zero, List.flatMap_nil, List.append_nil]; exact HMM.out), HW6, Lib.hid (Turn.refl _ _)⟩
              case round =>
                obtain ⟨u, N2, m2, bl2, rfl, hui, hm2, HN2, HM2, HW2, HT2⟩ := hrel
                by_cases hlt3 : u < i
                · have hul : (u : Int) < (i : Int) := by omega
                  obtain ⟨p, hp⟩ : ∃ p, ps[u]? = some p := ⟨_, List.getElem?_eq_getElem (by rw [HK.out]; exact hlt3)⟩
                  obtain ⟨g, rfl, _, _, hrange⟩ := Own3.at_ (HROW.out wr _ HT2.out) hp
                  obtain ⟨p18, p27, p3b⟩ := HPA.out.each H15.out p (List.mem_of_getElem? hp)
                  have ht : ps.take (u + 1) = ps.take u ++ [p] := by rw [List.take_add_one, hp]; rfl
                  have hitems : headK T t t ++ (ps.take (u + 1)).flatMap (partI T) = (headK T t t ++ (ps.take u).flatMap (partI T)) ++ partI T p := by
                    rw [ht, List.flatMap_append, ← List.append_assoc]
                    simp
                  obtain ⟨a, b, hab⟩ : ∃ a b, Fs T 16 0 p.1 = (a, b) := ⟨_, _, rfl⟩
                  have ha : a ≤ 15 := by have := Fs_le T p.1; rw [hab] at this; exact this
                  obtain ⟨Y, hY⟩ : ∃ Y, rev a (u64 (b : Int)) = Y := ⟨_, rfl⟩
                  have hpi : partI T p = [(a, Y)] ++ [(p.2.1, p.2.2)] := by unfold partI; rw [hab, hY]; rfl
                  rw [hpi, ← List.append_assoc] at hitems
                  obtain ⟨c1, c2⟩ := cat_step N m a Y (headK T t t ++ (ps.take u).flatMap (partI T))
                  obtain ⟨d1, d2⟩ := cat_step N m p.2.1 p.2.2 ((headK T t t ++ (ps.take u).flatMap (partI T)) ++ [(a, Y)])
                  rw [← HM2.out, ← HN2.out] at c1
                  rw [← HM2.out] at c2
                  rw [← hitems, ← c1, ← c2] at d1
                  rw [← hitems, ← c2] at d2
                  obtain ⟨p1, p2, p3⟩ := p
                  simp only [pcell] at hrange
                  simp only at p18 p27 p3b d1 d2 hab
                  have D1 := Lib.hid d1
                  have D2 := Lib.hid d2
                  have HR := Lib.hid hrange
                  have HAB := Lib.hid hab
                  have HY := Lib.hid hY
                  have HP3B := Lib.hid p3b
                  obtain ⟨v0, hv0⟩ : ∃ v0, wr.heap.size = v0 := ⟨_, rfl⟩
                  have hvb := Bk.made wr tPart #[.int .i64 (p1 : Nat), .int .i64 (p2 : Nat), .int .i64 (p3 : Nat)]
                  rw [hv0] at hvb
                  have hvbl : v0 ∉ bl2 := fun h => by have := HW2.out.1.inside v0 h; omega
                  have HVB := Lib.hid hvb
                  have HVBL := Lib.hid hvbl
                  have HFA := Lib.hid (Fresh.alloc wr (.cells #[.int .i64 (p1 : Nat), .int .i64 (p2 : Nat), .int .i64 (p3 : Nat)] tPart))
                  have HCA := Lib.hid ((HC6.out.turn HT2.out HCB.out).fresh HFA.out)
                  clear hp hrange ht hitems hab hY hpi c1 c2 d1 d2 p3b hvb hvbl
                  go_wp2_with (first
                    | ((with_reducible (refine at_slot_ 73 ?_)); refine wpList_load_mid rfl tPart (.tmp 72) rfl g (u * 3) rfl _ _ HR.out Tryz.underlying112 rfl partSize ?_)
                    | (go_at_call 53; (refine (code_in gc T cbl p1 a b _ HCA.out (by rw [HT.out]; omega) HAB.out).mono ?_); rintro e w7 ⟨rfl, hf7⟩; have HF7 := Lib.hid (HFA.out.trans hf7); have HVB7 := Lib.hid (HVB.out.fresh hf7); clear hf7)
                    | (go_at_call 52; (refine (code_any gw N2 m2 a Y a b bl2 _ (HW2.out.fresh HF7.out) (by omega) (held_nat a (by omega)) HY.out).mono ?_); rintro e w8 ⟨rfl, bl8, hW8, hT8⟩; have HW8 := Lib.hid hW8; have HT8 := Lib.hid hT8; have hb8 := HVB7.out.old (hT8.block v0 HVB7.out.inside HVBL.out); have hk1 := hb8.cell (i := 1) rfl; have hk2 := hb8.cell (i := 2) rfl; clear hW8 hT8 hb8)
                    | (go_at_call 31; (refine (put_any gw (N2 + 2 ^ m2 * Y) (m2 + a) p2 p3 p2 p3 bl8 _ HW8.out (by omega) (held_nat p2 (by omega)) (by rw [u64_small p3 p2 p27 HP3B.out]; exact Nat.mod_eq_of_lt HP3B.out)).mono ?_); rintro e w9 ⟨rfl, bl9, hW9, hT9⟩; have HW9 := Lib.hid hW9; have HT9 := Lib.hid hT9; clear hW9 hT9))
                  refine ⟨⟨u + 1, N2 + 2 ^ m2 * Y + 2 ^ (m2 + a) * p3, m2 + a + p2, bl9, rfl, hlt3, by omega, D1, D2, HW9, Lib.hid (((HT2.out.trans (Turn.fresh HF7.out)).trans HT8.out).trans HT9.out)⟩, ?_⟩
                  show i - ((u : Int) + 1).toNat < i - ((u : Int)).toNat
                  omega
                · have hin : u = i := by omega
                  subst hin
                  have e : ps.take u = ps := List.take_of_length_le (by rw [HK.out]; exact Nat.le_refl _)
                  rw [e] at HN2 HM2
                  go_wp2
                  go_end0
                  refine ⟨rfl, T, t, ps, bl2, HPA.out, HCST.out, hj4, hj19, HT.out, HFIT.out, H7.out, ?_, HFUL.out, HZ.out, ?_, ?_, HLEN.out, HPD.out, HJ.out⟩
                  · intro p hp
                    exact HPOS.out p hp p.1 rfl (by have := (HPA.out.each H15.out p hp).1; omega)
                  · have hw := HW2.out
                    rw [HN2.out, HM2.out] at hw
                    exact hw
                  · exact ((((Turn.fresh ((HF1.out.trans HF2.out).trans HFO.out)).trans HTR.out).trans (Turn.fresh HS6.out.1)).trans HT2.out)
        · have hjl : ¬ (4 : Int) < (j : Int) := by omega
          have HJ : Hid (Hd T j) := Lib.hid (.inl (by omega))
          have hfo := HFO.out
          have HWO := Lib.hid (HW.out.fresh (((HF1.out.trans HF2.out).trans HFO.out)))
          have HP4 := Lib.hid (put_any gw N m 4 (j - 4) 4 ((j : Int) - 4) bl wo HWO.out (by omega) rfl (by unfold u64; omega))
          go_wp2_with (go_at_call 31; (with_reducible refine HP4.out.mono ?_); rintro e w3 ⟨rfl, bl3, hW3, hT3⟩; have HW3 := Lib.hid hW3; have HT3 := Lib.hid hT3; clear hW3 hT3)
          have hstart := cat_step N m 4 (j - 4) []
          go_loopw [51] (fun vi wr => ∃ (t NN mm : Nat) (blr : List Nat), vi = .int .i64 t ∧ t ≤ j ∧ mm ≤ m + 4 + 3 * t ∧ Hid (NN = N + 2 ^ m * (cat (headK T j t)).2) ∧ Hid (mm = m + (cat (headK T j t)).1) ∧ Hid (WtrAt wr gw NN mm blr) ∧ Hid (Turn bl blr wo wr)) (fun vi _ => j - (intOf vi).toNat)
          case atStart => exact ⟨0, N + 2 ^ m * (j - 4), m + 4, bl3, rfl, Nat.zero_le _, by omega, Lib.hid (by rw [headK_none]), Lib.hid (by rw [headK_none]), HW3, HT3⟩
          case round =>
            obtain ⟨t, NN, mm, blr, rfl, htj, hmm, HNN, HMM, HWR, HTR⟩ := hrel
            have hLb : L ∉ bl := fun h => by have h1 := HIN.out L h; have h2 := HF1.out.size; have h3 := HF.out.size; omega
            have hzs : 0 < wo.heap.size := by have h2 := ((HF1.out.trans HF2.out).trans HFO.out).size; omega
            have hLs : L < wo.heap.size := (HBT.out.fresh HFO.out).inside
            by_cases hlt2 : t < j
            · have htl : (t : Int) < (j : Int) := by omega
              obtain ⟨s, hs⟩ : ∃ s, infnum.order[t]? = some s := ⟨_, List.getElem?_eq_getElem (by rw [ord_len]; omega)⟩
              have hs19 := ord_lt s (List.mem_of_getElem? hs)
              have ks : wr.cell? ⟨0, t, none⟩ = some (.int .i64 (s : Nat)) := ((HORD.out wo HFO.out).keep (HTR.out.block _ hzs HGB.out)) t s hs
              have kt : wr.cell? ⟨L, s, none⟩ = some (.int .i64 (T.getD s 0 : Nat)) := ((HBT.out.fresh HFO.out).old (HTR.out.block L hLs hLb)).cell (by unfold nv; rw [List.getElem?_map, List.getD_eq_getElem?_getD, List.getElem?_eq_getElem (by rw [HT.out]; omega)]; rfl)
              have s19 : (s : Int) < 19 := by omega
              have hv7 : T.getD s 0 ≤ 7 := by
                rw [List.getD_eq_getElem?_getD, List.getElem?_eq_getElem (by rw [HT.out]; omega)]
                exact H7.out _ (List.getElem_mem _)
              have hne := headK_next T j t s hs
              obtain ⟨v, hv⟩ : ∃ v, T.getD s 0 = v := ⟨_, rfl⟩
              rw [hv] at kt hv7 hne
              obtain ⟨c1, c2⟩ := cat_step N m 3 v (headK T j t)
              rw [← hne, ← HMM.out, ← HNN.out] at c1
              rw [← hne, ← HMM.out] at c2
              have C1 := Lib.hid c1
              have C2 := Lib.hid c2
              have HP3 := Lib.hid (put_any gw NN mm 3 v 3 (v : Int) blr wr HWR.out (by omega) rfl (by unfold u64; omega))
              clear hs hne hv c1 c2
              go_wp2_with (go_at_call 31; (with_reducible refine HP3.out.mono ?_); rintro e w4 ⟨rfl, bl4, hW4, hT4⟩; have HW4 := Lib.hid hW4; have HT4 := Lib.hid hT4; clear hW4 hT4)
              refine ⟨⟨t + 1, NN + 2 ^ mm * v, mm + 3, bl4, rfl, hlt2, by omega, C1, C2, HW4, Lib.hid (HTR.out.trans HT4.out)⟩, ?_⟩
              show j - ((t : Int) + 1).toNat < j - ((t : Int)).toNat
              omega
            · have hin : t = j := by omega
              subst hin
              rename World => wp
              have hmd := Lib.hid (made_ok (some ⟨L, 0, none⟩) 19 19 T wp wp.heap.size (Bk.row0 ((HBT.out.fresh HFO.out).old (HTR.out.block L hLs hLb)) (by rw [List.length_map, HT.out])) (Nat.le_refl _) (by omega) HFIT.out.2 HFIT.out.1)
              go_wp2_with (go_at_call 24; (with_reducible refine hmd.out.mono ?_); rintro e w6 ⟨gc, cbl, rfl, hC, hS⟩; have HC6 := Lib.hid hC; have HS6 := Lib.hid hS; clear hC hS)
              have hnb : ∀ g, (Value.slice A3 i c3).ownBlock = some g → ∃ cs fr, w1.heap[g]? = some (.cells cs tPart fr) ∧ w.heap.size ≤ g := fun g hg => by
                have ho3 := HO3.out
                rw [HK.out] at ho3
                obtain ⟨h1, cs, fr, h2⟩ := ho3.block g hg
                exact ⟨cs, fr, h2, h1⟩
              have ho1 : Own3 w1 w.heap.size A3 i c3 ps := by have ho3 := HO3.out; rwa [HK.out] at ho3
              have hoo := ho1.fresh (HF2.out.trans HFO.out)
              have hgo : ∀ g, (Value.slice A3 i c3).ownBlock = some g → g < wo.heap.size ∧ g ∉ bl := fun g hg => by
                obtain ⟨_, cs, fr, h2⟩ := hoo.block g hg
                obtain ⟨_, _, _, h3⟩ := hnb g hg
                exact ⟨(Array.getElem?_eq_some_iff.1 h2).1, fun h => by have := HIN.out g h; omega⟩
              have ho6 := (hoo.keep fun g hg => HTR.out.block g (hgo g hg).1 (hgo g hg).2).fresh HS6.out.1
              have hg6 : ∀ g, (Value.slice A3 i c3).ownBlock = some g → g < w6.heap.size ∧ g ∉ blr := fun g hg => by
                obtain ⟨_, cs, fr, h2⟩ := ho6.block g hg
                exact ⟨(Array.getElem?_eq_some_iff.1 h2).1, HTR.out.apart (hgo g hg).1 (hgo g hg).2⟩
              have hrow : ∀ (W : World) (bl' : List Nat), Turn blr bl' w6 W → Own3 W w.heap.size A3 i c3 ps := fun W bl' k => ho6.keep fun g hg => k.block g (hg6 g hg).1 (hg6 g hg).2
              have hcb : ∀ b ∈ cbl, b ∉ blr := fun b hb h => by have h1 := HS6.out.2 b hb; have h2 := HWR.out.1.inside b h; omega
              have HROW := Lib.hid hrow
              have HCB := Lib.hid hcb
              have HW6 := Lib.hid (HWR.out.fresh HS6.out.1)
              clear hnb ho1 hoo hgo ho6 hg6 hrow hcb
              go_loopw [70] (fun vi wr => ∃ (u N2 m2 : Nat) (bl2 : List Nat), vi = .int .i64 u ∧ u ≤ i ∧ m2 ≤ m + 100 + 22 * u ∧ Hid (N2 = N + 2 ^ m * (cat (headK T t t ++ (ps.take u).flatMap (partI T))).2) ∧ Hid (m2 = m + (cat (headK T t t ++ (ps.take u).flatMap (partI T))).1) ∧ Hid (WtrAt wr gw N2 m2 bl2) ∧ Hid (Turn blr bl2 w6 wr)) (fun vi _ => i - (intOf vi).toNat)
              case atStart => exact ⟨0, NN, mm, blr, rfl, Nat.zero_le _, by omega, Lib.hid (by rw [List.take_zero, List.flatMap_nil, List.append_nil]; exact HNN.out), Lib.hid (by rw [List.take_zero, List.flatMap_nil, List.append_nil]; exact HMM.out), HW6, Lib.hid (Turn.refl _ _)⟩
              case round =>
                obtain ⟨u, N2, m2, bl2, rfl, hui, hm2, HN2, HM2, HW2, HT2⟩ := hrel
                by_cases hlt3 : u < i
                · have hul : (u : Int) < (i : Int) := by omega
                  obtain ⟨p, hp⟩ : ∃ p, ps[u]? = some p := ⟨_, List.getElem?_eq_getElem (by rw [HK.out]; exact hlt3)⟩
                  obtain ⟨g, rfl, _, _, hrange⟩ := Own3.at_ (HROW.out wr _ HT2.out) hp
                  obtain ⟨p18, p27, p3b⟩ := HPA.out.each H15.out p (List.mem_of_getElem? hp)
                  have ht : ps.take (u + 1) = ps.take u ++ [p] := by rw [List.take_add_one, hp]; rfl
                  have hitems : headK T t t ++ (ps.take (u + 1)).flatMap (partI T) = (headK T t t ++ (ps.take u).flatMap (partI T)) ++ partI T p := by
                    rw [ht, List.flatMap_append, ← List.append_assoc]
                    simp
                  obtain ⟨a, b, hab⟩ : ∃ a b, Fs T 16 0 p.1 = (a, b) := ⟨_, _, rfl⟩
                  have ha : a ≤ 15 := by have := Fs_le T p.1; rw [hab] at this; exact this
                  obtain ⟨Y, hY⟩ : ∃ Y, rev a (u64 (b : Int)) = Y := ⟨_, rfl⟩
                  have hpi : partI T p = [(a, Y)] ++ [(p.2.1, p.2.2)] := by unfold partI; rw [hab, hY]; rfl
                  rw [hpi, ← List.append_assoc] at hitems
                  obtain ⟨c1, c2⟩ := cat_step N m a Y (headK T t t ++ (ps.take u).flatMap (partI T))
                  obtain ⟨d1, d2⟩ := cat_step N m p.2.1 p.2.2 ((headK T t t ++ (ps.take u).flatMap (partI T)) ++ [(a, Y)])
                  rw [← HM2.out, ← HN2.out] at c1
                  rw [← HM2.out] at c2
                  rw [← hitems, ← c1, ← c2] at d1
                  rw [← hitems, ← c2] at d2
                  obtain ⟨p1, p2, p3⟩ := p
                  simp only [pcell] at hrange
                  simp only at p18 p27 p3b d1 d2 hab
                  have D1 := Lib.hid d1
                  have D2 := Lib.hid d2
                  have HR := Lib.hid hrange
                  have HAB := Lib.hid hab
                  have HY := Lib.hid hY
                  have HP3B := Lib.hid p3b
                  obtain ⟨v0, hv0⟩ : ∃ v0, wr.heap.size = v0 := ⟨_, rfl⟩
                  have hvb := Bk.made wr tPart #[.int .i64 (p1 : Nat), .int .i64 (p2 : Nat), .int .i64 (p3 : Nat)]
                  rw [hv0] at hvb
                  have hvbl : v0 ∉ bl2 := fun h => by have := HW2.out.1.inside v0 h; omega
                  have HVB := Lib.hid hvb
                  have HVBL := Lib.hid hvbl
                  have HFA := Lib.hid (Fresh.alloc wr (.cells #[.int .i64 (p1 : Nat), .int .i64 (p2 : Nat), .int .i64 (p3 : Nat)] tPart))
                  have HCA := Lib.hid ((HC6.out.turn HT2.out HCB.out).fresh HFA.out)
                  clear hp hrange ht hitems hab hY hpi c1 c2 d1 d2 p3b hvb hvbl
                  go_wp2_with (first
                    | ((with_reducible (refine at_slot_ 73 ?_)); refine wpList_load_mid rfl tPart (.tmp 72) rfl g (u * 3) rfl _ _ HR.out Tryz.underlying112 rfl partSize ?_)
                    | (go_at_call 53; (refine (code_in gc T cbl p1 a b _ HCA.out (by rw [HT.out]; omega) HAB.out).mono ?_); rintro e w7 ⟨rfl, hf7⟩; have HF7 := Lib.hid (HFA.out.trans hf7); have HVB7 := Lib.hid (HVB.out.fresh hf7); clear hf7)
                    | (go_at_call 52; (refine (code_any gw N2 m2 a Y a b bl2 _ (HW2.out.fresh HF7.out) (by omega) (held_nat a (by omega)) HY.out).mono ?_); rintro e w8 ⟨rfl, bl8, hW8, hT8⟩; have HW8 := Lib.hid hW8; have HT8 := Lib.hid hT8; have hb8 := HVB7.out.old (hT8.block v0 HVB7.out.inside HVBL.out); have hk1 := hb8.cell (i := 1) rfl; have hk2 := hb8.cell (i := 2) rfl; clear hW8 hT8 hb8)
                    | (go_at_call 31; (refine (put_any gw (N2 + 2 ^ m2 * Y) (m2 + a) p2 p3 p2 p3 bl8 _ HW8.out (by omega) (held_nat p2 (by omega)) (by rw [u64_small p3 p2 p27 HP3B.out]; exact Nat.mod_eq_of_lt HP3B.out)).mono ?_); rintro e w9 ⟨rfl, bl9, hW9, hT9⟩; have HW9 := Lib.hid hW9; have HT9 := Lib.hid hT9; clear hW9 hT9))
                  refine ⟨⟨u + 1, N2 + 2 ^ m2 * Y + 2 ^ (m2 + a) * p3, m2 + a + p2, bl9, rfl, hlt3, by omega, D1, D2, HW9, Lib.hid (((HT2.out.trans (Turn.fresh HF7.out)).trans HT8.out).trans HT9.out)⟩, ?_⟩
                  show i - ((u : Int) + 1).toNat < i - ((u : Int)).toNat
                  omega
                · have hin : u = i := by omega
                  subst hin
                  have e : ps.take u = ps := List.take_of_length_le (by rw [HK.out]; exact Nat.le_refl _)
                  rw [e] at HN2 HM2
                  go_wp2
                  go_end0
                  refine ⟨rfl, T, t, ps, bl2, HPA.out, HCST.out, hj4, hj19, HT.out, HFIT.out, H7.out, ?_, HFUL.out, HZ.out, ?_, ?_, HLEN.out, HPD.out, HJ.out⟩
                  · intro p hp
                    exact HPOS.out p hp p.1 rfl (by have := (HPA.out.each H15.out p hp).1; omega)
                  · have hw := HW2.out
                    rw [HN2.out, HM2.out] at hw
                    exact hw
                  · exact ((((Turn.fresh ((HF1.out.trans HF2.out).trans HFO.out)).trans HTR.out).trans (Turn.fresh HS6.out.1)).trans HT2.out)
end Go.Proofs.YtppgceighgpgoaaGreatDoor.defp
/-
  dynamic. My own text.
-/
namespace Go.Proofs.YtppgceighgpgoaaGreatDoor.defp
open Go.RowKit Go.Maps Go.Proofs.YtppgceighgpgoaaGreatDoor.base Go.Proofs.YtppgceighgpgoaaGreatDoor.num Go.Proofs.YtppgceighgpgoaaGreatDoor.bitnum Go.Proofs.YtppgceighgpgoaaGreatDoor.bitp Go.Proofs.YtppgceighgpgoaaGreatDoor.huffnum Go.Proofs.YtppgceighgpgoaaGreatDoor.huffp Go.Proofs.YtppgceighgpgoaaGreatDoor.infp
set_option linter.unusedVariables false
theorem fit_take {T : List Nat} (h : Fit T) (k : Nat) : Fit (T.take k) := by
  refine ⟨?_, fun x hx => h.2 x (List.mem_of_mem_take hx)⟩
  have h1 := h.1
  rw [lenp.tx_sum _ 15 (Nat.le_refl _)] at h1 ⊢
  have e : T = T.take k ++ T.drop k := (List.take_append_drop k T).symm
  rw [e, List.map_append, List.sum_append] at h1
  omega
theorem two (w : World) (X Y : Array Value) (S T : TypeId) : Bk ((w.alloc (.cells X S)).alloc (.cells Y T)) w.heap.size S X.toList ∧ Bk ((w.alloc (.cells X S)).alloc (.cells Y T)) (w.heap.size + 1) T Y.toList ∧ Fresh w ((w.alloc (.cells X S)).alloc (.cells Y T)) := by
  have h0 := Bk.made w S X
  have h1 := Bk.made (w.alloc (.cells X S)) T Y
  have e1 : (w.alloc (.cells X S)).heap.size = w.heap.size + 1 := by simp
  rw [e1] at h1
  exact ⟨h0.alloc _, h1, (Fresh.alloc _ _).trans (Fresh.alloc _ _)⟩
theorem nv_cut {w : World} {L n k : Nat} {t : TypeId} {T : List Nat} (h : Bk w L t (nv T)) (hT : T.length = n) (hk : k ≤ n) : Rd w w.heap.size (some ⟨L, 0, none⟩) k (nv (T.take k)) := by
  refine ⟨by rw [List.length_map, List.length_take]; omega, fun _ => ⟨L, 0, rfl, h.inside, fun j u hu => ?_⟩⟩
  rw [Nat.zero_add]
  refine h.cell ?_
  rw [show nv (T.take k) = (nv T).take k from List.map_take .., List.getElem?_take] at hu
  split at hu
  · exact hu
  · cases hu
theorem ints_nv (T : List Nat) : (T.map fun x : Nat => (x : Int)).map iv = nv T := by
  unfold nv
  rw [List.map_map]
  rfl
/-- the two codes' lengths, one behind the other -/
theorem concat_two (g1 g2 n1 n2 c1 c2 : Nat) (S D : List Nat) (T : TypeId) (w : World) (h1 : Rd w w.heap.size (some ⟨g1, 0, none⟩) n1 (nv S)) (h2 : Rd w w.heap.size (some ⟨g2, 0, none⟩) n2 (nv D)) (hn : n1 + n2 ≤ 1000) :
    Calls Tryz.prog 25 #[.slice (some ⟨w.heap.size, 0, none⟩) 2 2] (w.alloc (.cells #[.slice (some ⟨g1, 0, none⟩) n1 c1, .slice (some ⟨g2, 0, none⟩) n2 c2] T)) fun e w' => ∃ A c, e = .returned (.slice A (n1 + n2) c) ∧ Own w' w.heap.size 3 A (n1 + n2) c (nv (S ++ D)) ∧ Fresh w w' := by
  have hb := Bk.made w T #[.slice (some ⟨g1, 0, none⟩) n1 c1, .slice (some ⟨g2, 0, none⟩) n2 c2]
  have hf := Fresh.alloc w (.cells #[.slice (some ⟨g1, 0, none⟩) n1 c1, .slice (some ⟨g2, 0, none⟩) n2 c2] T)
  have l1 : S.length = n1 := by have := h1.1; rwa [List.length_map] at this
  have l2 : D.length = n2 := by have := h2.1; rwa [List.length_map] at this
  have e1 : catI [(some ⟨g1, 0, none⟩, n1, c1, S.map fun x : Nat => (x : Int)), (some ⟨g2, 0, none⟩, n2, c2, D.map fun x : Nat => (x : Int))] = (S ++ D).map fun x : Nat => (x : Int) := by
    unfold catI
    simp
  have e2 : ((S ++ D).map fun x : Nat => (x : Int)).length = n1 + n2 := by rw [List.length_map, List.length_append]; omega
  refine (concat_any w.heap.size 2 2 [(some ⟨g1, 0, none⟩, n1, c1, S.map fun x : Nat => (x : Int)), (some ⟨g2, 0, none⟩, n2, c2, D.map fun x : Nat => (x : Int))] _ ?_ hb.inside ?_ rfl (by omega) (by rw [e1, e2]; exact hn)).mono ?_
  · intro j r hr
    match j, hr with
    | 0, hr => injection hr with hr; subst hr; exact hb.cell rfl
    | 1, hr => injection hr with hr; subst hr; exact hb.cell rfl
  · intro r hr
    rcases List.mem_cons.1 hr with rfl | hr
    · show Rd _ _ _ _ ((S.map fun x : Nat => (x : Int)).map iv)
      rw [ints_nv]
      exact h1.fresh hf
    rcases List.mem_cons.1 hr with rfl | hr
    · show Rd _ _ _ _ ((D.map fun x : Nat => (x : Int)).map iv)
      rw [ints_nv]
      exact h2.fresh hf
    · cases hr
  · rintro e w' ⟨A, c, rfl, ho, hf2⟩
    rw [e1, e2, ints_nv] at ho
    rw [e1, e2]
    exact ⟨A, c, rfl, own_low ho hf.size, hf.trans hf2⟩
end Go.Proofs.YtppgceighgpgoaaGreatDoor.defp
/-
  dynamic, walked. My own text.
-/
namespace Go.Proofs.YtppgceighgpgoaaGreatDoor.defp
open Go.RowKit Go.Maps Go.Proofs.YtppgceighgpgoaaGreatDoor.base Go.Proofs.YtppgceighgpgoaaGreatDoor.num Go.Proofs.YtppgceighgpgoaaGreatDoor.bitnum Go.Proofs.YtppgceighgpgoaaGreatDoor.bitp Go.Proofs.YtppgceighgpgoaaGreatDoor.huffnum Go.Proofs.YtppgceighgpgoaaGreatDoor.huffp Go.Proofs.YtppgceighgpgoaaGreatDoor.infp
set_option linter.unusedVariables false
/-- what a block of kind 2 has ahead of the steps -/
def dynI (nS nD : Nat) (T : List Nat) (j : Nat) (ps : List Pt) : List (Nat × Nat) := [(5, nS - 257), (5, nD - 1)] ++ tellI T j ps
/-- lengths, cut where they end -/
def Cut {α : Type} (f : α → Option Nat) (nn least : Nat) (l : List α) (TS : List Nat) (k : Nat) : Prop :=
  ∃ T1, Lens f nn 15 l T1 ∧ TS = T1.take k ∧ (∀ i, k ≤ i → i < nn → T1.getD i 0 = 0) ∧ (k = least ∨ T1.getD (k - 1) 0 ≠ 0) ∧ least ≤ k ∧ k ≤ nn
theorem Cut.uniq {α : Type} {f : α → Option Nat} {nn least : Nat} {l : List α} {TS TS' : List Nat} {k k' : Nat} (h : Cut f nn least l TS k) (h' : Cut f nn least l TS' k') (h1 : 1 ≤ least) : k = k' ∧ TS = TS' := by
  obtain ⟨T1, hl, rfl, hz, he, ha, hb⟩ := h
  obtain ⟨T2, hl', rfl, hz', he', ha', hb'⟩ := h'
  obtain rfl := hl.uniq hl'
  have e : k = k' := by
    rcases Nat.lt_trichotomy k k' with c | c | c
    · rcases he' with he' | he'
      · omega
      · exact absurd (hz (k' - 1) (by omega) (by omega)) he'
    · exact c
    · rcases he with he | he
      · omega
      · exact absurd (hz' (k - 1) (by omega) (by omega)) he
  subst e
  exact ⟨rfl, rfl⟩
/-- the two codes, and what tells them -/
structure Told (l : List (Nat × Nat)) (TS TD : List Nat) (nS nD : Nat) (T : List Nat) (j : Nat) (ps : List Pt) : Prop where
  s1 : 257 ≤ nS
  s2 : nS ≤ 286
  d1 : 1 ≤ nD
  d2 : nD ≤ 30
  ls : TS.length = nS
  ld : TD.length = nD
  fs : Fit TS
  fd : Fit TD
  us : ∀ s ∈ lc l, 1 ≤ TS.getD (sy s) 0 ∧ sy s < nS
  ud : ∀ s ∈ lc l, s.2 ≠ 0 → 1 ≤ TD.getD (di s) 0 ∧ di s < nD
  pa : Pa (TS ++ TD) (nS + nD) ps
  j4 : 4 ≤ j
  j19 : j ≤ 19
  lt : T.length = 19
  ft : Fit T
  t7 : ∀ x ∈ T, x ≤ 7
  tp : ∀ p ∈ ps, 1 ≤ T.getD p.1 0
  tz : ∀ i s, j ≤ i → infnum.order[i]? = some s → T.getD s 0 = 0
  fullS : Full fS 286 (lc l) TS
  fullD : Full fD 30 (lc l) TD
  fullT : Full fP 19 ps T
  cst : Cost (TS ++ TD) (nS + nD) ps
  uS : Cut fS 286 257 (lc l) TS nS
  uD : Cut fD 30 1 (lc l) TD nD
  uP : Pd (TS ++ TD) (nS + nD) (nS + nD) ps
  uT : Lens fP 19 7 ps T
  uJ : Hd T j
/-- the steps tell which -/
theorem Told.uniq {l : List (Nat × Nat)} {TS TD TS' TD' : List Nat} {nS nD nS' nD' : Nat} {T T' : List Nat} {j j' : Nat} {ps ps' : List Pt} (h : Told l TS TD nS nD T j ps) (h' : Told l TS' TD' nS' nD' T' j' ps') : TS = TS' ∧ TD = TD' ∧ nS = nS' ∧ nD = nD' ∧ T = T' ∧ j = j' ∧ ps = ps' := by
  obtain ⟨e1, e2⟩ := h.uS.uniq h'.uS (by omega)
  obtain ⟨e3, e4⟩ := h.uD.uniq h'.uD (by omega)
  subst e1; subst e2; subst e3; subst e4
  obtain rfl := h.uP.uniq h'.uP
  obtain rfl := h.uT.uniq h'.uT
  exact ⟨rfl, rfl, rfl, rfl, rfl, h.uJ.uniq h'.uJ h.j4 h'.j4 h.tz h'.tz, rfl⟩
theorem splice_all (Z X : List Value) (h : Z.length = X.length) : splice Z 0 X = X := by
  unfold splice
  rw [List.take_zero, List.nil_append, List.drop_of_length_le (by omega), List.append_nil]
theorem lengths_z {α : Type} (f : α → Option Nat) (nn : Nat) (l : List α) (G cc : Nat) (w : World) (R : List Value) (hR : nv (tal f nn l) = R) (hr : Rd w w.heap.size (some ⟨G, 0, none⟩) nn R) (h1 : nn ≤ 320) (h2 : nn ≤ cc) (h3 : cc ≤ maxLen) (hfew : nn ≤ 2 ^ 15) (hl : l.length ≤ 16777217) :
    Calls Tryz.prog 30 #[.slice (some ⟨G, 0, none⟩) nn cc, .int .i64 15] w fun e w' => ∃ (L : Nat) (T : List Nat), e = .returned (.slice (some ⟨L, 0, none⟩) nn nn) ∧ w.heap.size ≤ L ∧ Bk w' L 3 (nv T) ∧ Fresh w w' ∧ T.length = nn ∧ Fit T ∧ (∀ s ∈ l, ∀ y, f s = some y → y < nn → 1 ≤ T.getD y 0) ∧ Full f nn l T ∧ Lens f nn 15 l T := by
  rw [← hR] at hr
  refine (lengths_of f nn l G 0 cc w hr h1 h2 h3 15 (by omega) (by omega) hfew hl).mono ?_
  rintro e w' ⟨L, T, rfl, hL, hb, hf, ht, hfit, _, hp⟩
  exact ⟨L, T, rfl, hL, hb, hf, ht, hfit, hp⟩
theorem trimmed_z (L n least : Nat) (z : Int) (hz : z = (least : Int)) (T : List Nat) (w : World) (hb : Bk w L 3 (nv T)) (hT : T.length = n) (hl : 1 ≤ least) (hn : least ≤ n) (hn2 : n ≤ 1000) :
    Calls Tryz.prog 29 #[.slice (some ⟨L, 0, none⟩) n n, .int .i64 z] w fun e w' => ∃ k : Nat, e = .returned (.slice (some ⟨L, 0, none⟩) k n) ∧ least ≤ k ∧ k ≤ n ∧ (∀ i, k ≤ i → i < n → T.getD i 0 = 0) ∧ Fresh w w' ∧ (k = least ∨ T.getD (k - 1) 0 ≠ 0) := by
  subst hz
  exact trimmed_any (some ⟨L, 0, none⟩) n n w.heap.size least T w (Bk.row0 hb (by rw [List.length_map, hT])) (Nat.le_refl _) hl hn hn2 (Nat.le_refl _)
theorem take_getD (T : List Nat) (k i : Nat) : (T.take k).getD i 0 = if i < k then T.getD i 0 else 0 := by
  rw [List.getD_eq_getElem?_getD, List.getElem?_take]
  split
  · rw [List.getD_eq_getElem?_getD]
  · rfl
/-- each symbol that comes has a code -/
theorem told_codes {l : List (Nat × Nat)} {n nS nD : Nat} {T1 T2 : List Nat} (hok : ∀ s ∈ l, Ok s ∧ sy s < 286 ∧ (s.2 ≠ 0 → di s < 30)) (hl : l.length = n) (p1 : ∀ s ∈ lc l, ∀ y, fS s = some y → y < 286 → 1 ≤ T1.getD y 0) (p2 : ∀ s ∈ lc l, ∀ y, fD s = some y → y < 30 → 1 ≤ T2.getD y 0)
    (h1 : T1.length = 286) (h2 : T2.length = 30) (z1 : ∀ i, nS ≤ i → i < 286 → T1.getD i 0 = 0) (z2 : ∀ i, nD ≤ i → i < 30 → T2.getD i 0 = 0) (hs : nS ≤ 286) (hd : nD ≤ 30) : ∀ s ∈ lc l, (sy s < nS ∧ 1 ≤ T1.getD (sy s) 0) ∧ (s.2 ≠ 0 → di s < nD ∧ 1 ≤ T2.getD (di s) 0) := fun s hin => by
  have o : sy s < 286 ∧ (s.2 ≠ 0 → di s < 30) := by
    unfold lc at hin
    split at hin
    · rcases List.mem_append.1 hin with h | h
      · exact (hok s h).2
      · rw [List.mem_singleton] at h
        subst h
        exact ⟨by decide, fun h => absurd rfl h⟩
    · exact (hok s hin).2
  obtain ⟨o2, o3⟩ := o
  refine ⟨?_, fun h0 => ?_⟩
  · have h := p1 s hin (sy s) rfl o2
    rcases Nat.lt_or_ge (sy s) nS with h3 | h3
    · exact ⟨h3, h⟩
    · rw [z1 _ h3 o2] at h; omega
  · have h := p2 s hin (di s) (if_neg h0) (o3 h0)
    rcases Nat.lt_or_ge (di s) nD with h3 | h3
    · exact ⟨h3, h⟩
    · rw [z2 _ h3 (o3 h0)] at h; omega
theorem lc_sub {l : List (Nat × Nat)} {s : Nat × Nat} (h : s ∈ l) : s ∈ lc l := by unfold lc; split; exact List.mem_append_left _ h; exact h
theorem cat_len (B : Nat) (l : List (Nat × Nat)) (h : ∀ x ∈ l, x.1 ≤ B) : (cat l).1 ≤ B * l.length := by
  have hgen : ∀ (l : List (Nat × Nat)) (a : Nat × Nat), (∀ x ∈ l, x.1 ≤ B) → (l.foldl (fun a x => (a.1 + x.1, a.2 + 2 ^ a.1 * x.2)) a).1 ≤ a.1 + B * l.length := by
    intro l
    induction l with
    | nil => intro a _; exact Nat.le_refl _
    | cons x r ih =>
      intro a h
      have h1 := ih (a.1 + x.1, a.2 + 2 ^ a.1 * x.2) fun y hy => h y (List.mem_cons_of_mem _ hy)
      have h2 := h x List.mem_cons_self
      rw [List.foldl_cons, List.length_cons, Nat.mul_add]
      simp only at h1
      omega
  have := hgen l (0, 0) h
  simpa [cat] using this
theorem cat_from (l : List (Nat × Nat)) : ∀ p q, l.foldl (fun a x => (a.1 + x.1, a.2 + 2 ^ a.1 * x.2)) (p, q) = (p + (cat l).1, q + 2 ^ p * (cat l).2) := by
  induction l with
  | nil => intro p q; simp [cat]
  | cons x r ih =>
    intro p q
    have e : cat (x :: r) = (x.1 + (cat r).1, x.2 + 2 ^ x.1 * (cat r).2) := by
      show (x :: r).foldl (fun a x => (a.1 + x.1, a.2 + 2 ^ a.1 * x.2)) (0, 0) = _
      rw [List.foldl_cons, ih]
      simp
    rw [List.foldl_cons, ih, e]
    simp only [Nat.mul_add, Nat.pow_add, Nat.mul_assoc, Nat.add_assoc]
theorem cat_append (a b : List (Nat × Nat)) : cat (a ++ b) = ((cat a).1 + (cat b).1, (cat a).2 + 2 ^ (cat a).1 * (cat b).2) := by
  unfold cat
  rw [List.foldl_append]
  exact cat_from b _ _
theorem dyn_1 (nS nD : Nat) (T : List Nat) (j : Nat) (ps : List Pt) : 3 + (cat (dynI nS nD T j ps)).1 = 3 + 5 + 5 + (cat (tellI T j ps)).1 := by
  unfold dynI
  rw [cat_append]
  show 3 + (0 + 5 + 5 + _) = _
  omega
theorem dyn_2 (nS nD : Nat) (T : List Nat) (j : Nat) (ps : List Pt) : 5 + 2 ^ 3 * (cat (dynI nS nD T j ps)).2 = 5 + 2 ^ 3 * (nS - 257) + 2 ^ (3 + 5) * (nD - 1) + 2 ^ (3 + 5 + 5) * (cat (tellI T j ps)).2 := by
  unfold dynI
  rw [cat_append]
  have e : cat [(5, nS - 257), (5, nD - 1)] = (10, (nS - 257) + 32 * (nD - 1)) := by
    unfold cat
    simp
  rw [e]
  simp only [Nat.mul_add, ← Nat.mul_assoc]
  omega
theorem partI_len (T : List Nat) (ps : List Pt) : (ps.flatMap (partI T)).length = 2 * ps.length := by
  induction ps with
  | nil => rfl
  | cons a r ih =>
    rw [List.flatMap_cons, List.length_append, ih, List.length_cons]
    show 2 + _ = _
    omega
theorem tell_few {T : List Nat} {j nS nD : Nat} {ps : List Pt} {T1 T2 : List Nat} (hpa : Pa (T1.take nS ++ T2.take nD) (nS + nD) ps) (hT : T.length = 19) (hj : j ≤ 19) (f1 : Fit T1) (f2 : Fit T2) (hs : nS ≤ 286) (hd : nD ≤ 30) : (cat (tellI T j ps)).1 ≤ 100000 := by
  have h15 : ∀ x ∈ T1.take nS ++ T2.take nD, x ≤ 15 := fun x hx => by
    rcases List.mem_append.1 hx with h | h
    · exact f1.2 x (List.mem_of_mem_take h)
    · exact f2.2 x (List.mem_of_mem_take h)
  have heach := hpa.each h15
  have hle := hpa.le
  have hb : ∀ x ∈ tellI T j ps, x.1 ≤ 15 := fun x hx => by
    unfold tellI headI at hx
    rcases List.mem_append.1 hx with h | h
    · rcases List.mem_cons.1 h with rfl | h
      · show 4 ≤ 15; omega
      · obtain ⟨s, _, rfl⟩ := List.mem_map.1 h
        show 3 ≤ 15; omega
    · obtain ⟨p, hp, h⟩ := List.mem_flatMap.1 h
      unfold partI at h
      rcases List.mem_cons.1 h with rfl | h
      · exact Fs_le T p.1
      · rw [List.mem_singleton] at h
        subst h
        have := (heach p hp).2.1
        show p.2.1 ≤ 15
        omega
  have h1 := cat_len 15 (tellI T j ps) hb
  have h2 : (tellI T j ps).length ≤ 20 + 2 * ps.length := by
    unfold tellI headI
    rw [List.length_append, List.length_cons, List.length_map, List.length_take]
    have := partI_len T ps
    omega
  have h3 : ps.length ≤ 316 := by omega
  omega
theorem sum_zero (f : Nat → Nat) (h0 : f 0 = 0) : ∀ l : List Nat, (∀ x ∈ l, x = 0) → (l.map f).sum = 0
  | [], _ => rfl
  | a :: r, h => by
    rw [List.map_cons, List.sum_cons, sum_zero f h0 r fun x hx => h x (List.mem_cons_of_mem _ hx), h a List.mem_cons_self, h0]
/-- what is cut off is 0 -/
theorem full_take {α : Type} {f : α → Option Nat} {nn k : Nat} {l : List α} {T : List Nat} (h : Full f nn l T) (hT : T.length = nn) (hk : k ≤ nn) (hz : ∀ i, k ≤ i → i < nn → T.getD i 0 = 0) : Full f nn l (T.take k) := by
  refine ⟨fun y hy hno => ?_, fun s hs t ht y z h1 h2 h3 h4 hne => ?_, fun s hs y h1 h2 h3 => ?_⟩
  · rw [take_getD]
    split
    · exact h.1 y hy hno
    · rfl
  · have h5 := h.2.1 s hs t ht y z h1 h2 h3 h4 hne
    rw [lenp.tx_sum _ 15 (Nat.le_refl _)] at h5 ⊢
    rw [← h5]
    have e : T = T.take k ++ T.drop k := (List.take_append_drop k T).symm
    rw [e, List.map_append, List.sum_append, ← e, sum_zero _ rfl (T.drop k) fun x hx => ?_, Nat.add_zero]
    obtain ⟨i, hi, rfl⟩ := List.getElem_of_mem hx
    rw [List.length_drop] at hi
    have := hz (k + i) (by omega) (by omega)
    rw [List.getElem_drop]
    rw [List.getD_eq_getElem?_getD, List.getElem?_eq_getElem (by omega)] at this
    exact this
  · have h5 := h.2.2 s hs y h1 h2 h3
    rw [take_getD]
    split
    · exact h5
    · have := hz y (by omega) h2
      omega
set_option maxRecDepth 100000 in
set_option maxHeartbeats 4000000 in
theorem dynamic_any (A : Option Addr) (n c base : Nat) (l : List (Nat × Nat)) (w : World) (hst : Own2 w base A n c l) (hok : ∀ s ∈ l, Ok s ∧ sy s < 286 ∧ (s.2 ≠ 0 → di s < 30)) (hn : n ≤ 16777216) (hO : OrdD w) (hg : 0 < w.heap.size) :
    Calls Tryz.prog 13 #[.slice A n c] w fun e w' => ∃ (TS TD : List Nat) (nS nD : Nat) (T : List Nat) (j : Nat) (ps : List Pt) (A' : Option Addr) (c' : Nat), Told l TS TD nS nD T j ps ∧ e = .returned (.slice A' ((3 + (cat (dynI nS nD T j ps)).1 + (outs TS TD l).1 + 7) / 8) c') ∧ Own w' w.heap.size 5 A' ((3 + (cat (dynI nS nD T j ps)).1 + (outs TS TD l).1 + 7) / 8) c' ((low ((3 + (cat (dynI nS nD T j ps)).1 + (outs TS TD l).1 + 7) / 8) (5 + 2 ^ 3 * (cat (dynI nS nD T j ps)).2 + 2 ^ (3 + (cat (dynI nS nD T j ps)).1) * (outs TS TD l).2)).map bv) ∧ Fresh w w' := by
  have hl := hst.len
  have hlc : (lc l).length ≤ 16777217 := by
    unfold lc
    by_cases h : l.length = 1
    · rw [if_pos h, List.length_append, h]; decide
    · rw [if_neg h]; omega
  obtain ⟨X, hX⟩ : ∃ X, nv (tal fS 286 (lc l)) = X := ⟨_, rfl⟩
  obtain ⟨Y, hY⟩ : ∃ Y, nv (tal fD 30 (lc l)) = Y := ⟨_, rfl⟩
  have HCNT : Hid (∀ W, Fresh w W → Calls Tryz.prog 28 #[.slice A n c] W fun e w' => e = .returned (.tuple #[.agg X.toArray, .agg Y.toArray]) ∧ Fresh W w') := fun W k => counts_gen X Y A n c base l W (hst.fresh k) hok (by omega) hX hY
  have lX : X.length = 286 := by rw [← hX, List.length_map, tal_len]
  have lY : Y.length = 30 := by rw [← hY, List.length_map, tal_len]
  have oX : ∀ v ∈ X, v.oneCell' = true := by rw [← hX]; exact nv_one _
  have oY : ∀ v ∈ Y, v.oneCell' = true := by rw [← hY]; exact nv_one _
  have HX := Lib.hid hX
  have HY := Lib.hid hY
  have OX := Lib.hid oX
  have OY := Lib.hid oY
  have LX := Lib.hid lX
  have LY := Lib.hid lY
  have HOK := Lib.hid hok
  have HST := Lib.hid hst
  have HL := Lib.hid hl
  have HLC := Lib.hid hlc
  have HO := Lib.hid hO
  have HBEG : Hid (∀ W, Calls Tryz.prog 23 #[.int .i64 2] W fun e w' => ∃ g bl, e = .returned (ptr g) ∧ WtrAt w' g 5 3 bl ∧ Since W w' bl) := fun W => begun_any 2 (by omega) W
  have hz := zero_286
  have hy := zero_30
  clear hX hY oX oY lX lY hok hst hl hlc hO
  go_enter Tryz.func13, Tryz.ntmps13
  go_wp2_with (first
    | (go_at_call 23; (with_reducible refine (HBEG.out _).mono ?_); rintro e w1 ⟨gw, bl, rfl, hW, hS⟩; have HW1 := Lib.hid hW; have HS1 := Lib.hid hS; have HF1 := Lib.hid hS.1; clear hW hS)
    | (go_at_call 28; (with_reducible refine (HCNT.out _ HF1.out).mono ?_); rintro e w2 ⟨rfl, hf2⟩; have HF2 := Lib.hid hf2; clear hf2; obtain ⟨k0, k1, kf⟩ := two w2 (Array.replicate 286 (.int .i64 0)) (Array.replicate 30 (.int .i64 0)) t286 t30; have K0 := Lib.hid k0; have K1 := Lib.hid k1; have KF := Lib.hid kf; clear k0 k1 kf)
    | ((with_reducible (refine at_store_ 4 16 ?_)); refine wpList_store_blk rfl t286 (.tmp 4) (.tmp 16) rfl w2.heap.size 0 t286 _ X rfl rfl K0.out (by simp [LX.out]) OX.out (by rw [size_286, LX.out]) ?_; intro w3 hb3 hbut3; rw [splice_all _ _ (by simp [LX.out])] at hb3; have k13 := K1.out.old (hbut3.block _ K1.out.inside (by intro e; injection e with e; omega)); have HB3 := Lib.hid hb3; have K13 := Lib.hid k13; have HF3 := Lib.hid (KF.out.but (Nat.le_refl _) hbut3); clear hb3 hbut3 k13)
    | ((with_reducible (refine at_store_ 5 17 ?_)); refine wpList_store_blk rfl t30 (.tmp 5) (.tmp 17) rfl (w2.heap.size + 1) 0 t30 _ Y rfl rfl K13.out (by simp [LY.out]) OY.out (by rw [size_30, LY.out]) ?_; intro w4 hb4 hbut4; rw [splice_all _ _ (by simp [LY.out])] at hb4; have k34 := HB3.out.old (hbut4.block _ HB3.out.inside (by intro e; injection e with e; omega)); have HB4 := Lib.hid hb4; have K34 := Lib.hid k34; have HF4 := Lib.hid (HF3.out.but (Nat.le_succ _) hbut4); clear hb4 hbut4 k34; have hle := lengths_z fS 286 (lc l) w2.heap.size 286 w4 X HX.out (Bk.row0 K34.out LX.out) (by omega) (Nat.le_refl _) (by unfold maxLen; omega) (by decide) HLC.out; have HLE := Lib.hid hle; clear hle)
    | (go_at_call 30; (with_reducible refine HLE.out.mono ?_); rintro e w5 ⟨L1, T1, rfl, hL1, hb1, hf5, hT1, hfit1, hp1, hful1, hle1⟩; have HFU1 := Lib.hid hful1; have HLE1 := Lib.hid hle1; clear hful1 hle1; have htr := trimmed_z L1 286 257 257 rfl T1 w5 hb1 hT1 (by omega) (by omega) (by omega); have HTR1 := Lib.hid htr; clear htr; have HB1 := Lib.hid hb1; have HF5 := Lib.hid hf5; have HT1 := Lib.hid hT1; have HFI1 := Lib.hid hfit1; have HP1 := Lib.hid hp1; clear hb1 hf5 hT1 hfit1 hp1)
    | (go_at_call 29; (with_reducible refine HTR1.out.mono ?_); rintro e w6 ⟨nS, rfl, hs1, hs2, hs3, hf6, hta⟩; have HTA := Lib.hid hta; clear hta; have HS3 := Lib.hid hs3; have HF6 := Lib.hid hf6; clear hs3 hf6; have hle := lengths_z fD 30 (lc l) (w2.heap.size + 1) 30 w6 Y HY.out (Bk.row0 ((HB4.out.fresh HF5.out).fresh HF6.out) LY.out) (by omega) (Nat.le_refl _) (by unfold maxLen; omega) (by decide) HLC.out; have HLD := Lib.hid hle; clear hle)
    | (go_at_call 30; (with_reducible refine HLD.out.mono ?_); rintro e w7 ⟨L2, T2, rfl, hL2, hb2, hf7, hT2, hfit2, hp2, hful2, hle2⟩; have HFU2 := Lib.hid hful2; have HLE2 := Lib.hid hle2; clear hful2 hle2; have htr := trimmed_z L2 30 1 1 rfl T2 w7 hb2 hT2 (by omega) (by omega) (by omega); have HTR2 := Lib.hid htr; have HB2 := Lib.hid hb2; have HF7 := Lib.hid hf7; have HT2 := Lib.hid hT2; have HFI2 := Lib.hid hfit2; have HP2 := Lib.hid hp2; clear htr hb2 hf7 hT2 hfit2 hp2)
    | (go_at_call 29; (with_reducible refine HTR2.out.mono ?_); rintro e w8 ⟨nD, rfl, hd1, hd2, hd3, hf8, htb⟩; have HTB := Lib.hid htb; clear htb; have HD3 := Lib.hid hd3; have HF8 := Lib.hid hf8; clear hd3 hf8; have f18 := ((((HF2.out.trans HF4.out).trans HF5.out).trans HF6.out).trans HF7.out).trans HF8.out; have HS8 := Lib.hid (HS1.out.fresh f18); have hin := HW1.out.1.inside; have z2 := HF2.out.size; have z4 := HF4.out.size; have z5 := HF5.out.size; have z6 := HF6.out.size; have HL1 := Lib.hid (show L1 ∉ bl from fun h => by have := hin L1 h; omega); have HL2 := Lib.hid (show L2 ∉ bl from fun h => by have := hin L2 h; omega); have HB18 := Lib.hid (((HB1.out.fresh HF6.out).fresh HF7.out).fresh HF8.out); have HB28 := Lib.hid (HB2.out.fresh HF8.out); have HP5 := Lib.hid (put_any gw 5 3 5 (nS - 257) 5 ((nS : Int) - 257) bl w8 (HW1.out.fresh f18) (by omega) rfl (by unfold u64; omega)); clear f18 hin)
    | (go_at_call 31; (with_reducible refine HP5.out.mono ?_); rintro e w9 ⟨rfl, bl9, hW9, hT9⟩; have HS9 := Lib.hid (HS8.out.turn hT9); have HB19 := Lib.hid (HB18.out.old (hT9.block L1 HB18.out.inside HL1.out)); have HB29 := Lib.hid (HB28.out.old (hT9.block L2 HB28.out.inside HL2.out)); have HN1 := Lib.hid (hT9.apart HB18.out.inside HL1.out); have HN2 := Lib.hid (hT9.apart HB28.out.inside HL2.out); have HP6 := Lib.hid (put_any gw (5 + 2 ^ 3 * (nS - 257)) (3 + 5) 5 (nD - 1) 5 ((nD : Int) - 1) bl9 w9 hW9 (by omega) rfl (by unfold u64; omega)); clear hW9 hT9)
    | (go_at_call 31; (with_reducible refine HP6.out.mono ?_); rintro e w10 ⟨rfl, bl10, hW10, hT10⟩; have HW10 := Lib.hid hW10; have HS10 := Lib.hid (HS9.out.turn hT10); have HB110 := Lib.hid (HB19.out.old (hT10.block L1 HB19.out.inside HN1.out)); have HB210 := Lib.hid (HB29.out.old (hT10.block L2 HB29.out.inside HN2.out)); have HM1 := Lib.hid (hT10.apart HB19.out.inside HN1.out); have HM2 := Lib.hid (hT10.apart HB29.out.inside HN2.out); have HCC := Lib.hid (concat_two L1 L2 nS nD 286 30 (T1.take nS) (T2.take nD) 62 w10 (nv_cut HB110.out HT1.out hs2) (nv_cut HB210.out HT2.out hd2) (by omega)); clear hW10 hT10)
    | (go_at_call 25; (with_reducible refine HCC.out.mono ?_); rintro e w11 ⟨A11, c11, rfl, ho11, hf11⟩; have HS11 := Lib.hid (HS10.out.fresh hf11); have HB111 := Lib.hid (HB110.out.fresh hf11); have HB211 := Lib.hid (HB210.out.fresh hf11); have hcap := ho11.cap; have HWL := Lib.hid (writeLengths_any gw (5 + 2 ^ 3 * (nS - 257) + 2 ^ (3 + 5) * (nD - 1)) (3 + 5 + 5) bl10 A11 (nS + nD) c11 w11.heap.size (T1.take nS ++ T2.take nD) w11 (HW10.out.fresh hf11) (by omega) ho11.rd (Nat.le_refl _) (by omega) (by omega) hcap.1 hcap.2 (fun x hx => by rcases List.mem_append.1 hx with h | h; exact HFI1.out.2 x (List.mem_of_mem_take h); exact HFI2.out.2 x (List.mem_of_mem_take h)) (HO.out.keep (HS11.out.1.block _ hg)) (by have := HS11.out.1.size; omega) (fun h => by have := HS10.out.2 _ h; omega)); clear ho11 hf11 hcap)
    | (go_at_call 32; (with_reducible refine HWL.out.mono ?_); rintro e w12 ⟨rfl, T, j, ps, bl12, hpa, hcst, hj4, hj19, hT, hfT, hT7, hTp, hTf, hTz, hW12, hT12, hlT, hpd, hjd⟩; have HLT := Lib.hid hlT; have HPD := Lib.hid hpd; have HJD := Lib.hid hjd; clear hlT hpd hjd; have HTF := Lib.hid hTf; have HCST := Lib.hid hcst; clear hTf hcst; have HPA := Lib.hid hpa; have HTL := Lib.hid hT; have HFT := Lib.hid hfT; have HT7 := Lib.hid hT7; have HTP := Lib.hid hTp; have HTZ := Lib.hid hTz; have HW12 := Lib.hid hW12; have HS12 := Lib.hid (HS11.out.turn hT12); have HB112 := Lib.hid (HB111.out.old (hT12.block L1 HB111.out.inside HM1.out)); have HB212 := Lib.hid (HB211.out.old (hT12.block L2 HB211.out.inside HM2.out)); have HNS := Lib.hid (made_ok (some ⟨L1, 0, none⟩) nS 286 (T1.take nS) w12 w12.heap.size (nv_cut HB112.out HT1.out hs2) (Nat.le_refl _) (by omega) (fit_take HFI1.out nS).2 (fit_take HFI1.out nS).1); clear hpa hT hfT hT7 hTp hTz hW12 hT12)
    | (go_at_call 24; (with_reducible refine HNS.out.mono ?_); rintro e w13 ⟨gs, sbl, rfl, hC13, hS13⟩; have HC13 := Lib.hid hC13; have HS13 := Lib.hid hS13; have HF13 := Lib.hid hS13.1; have HND := Lib.hid (made_ok (some ⟨L2, 0, none⟩) nD 30 (T2.take nD) w13 w13.heap.size (nv_cut (HB212.out.fresh HF13.out) HT2.out hd2) (Nat.le_refl _) (by omega) (fit_take HFI2.out nD).2 (fit_take HFI2.out nD).1); clear hC13 hS13)
    | (go_at_call 24; (with_reducible refine HND.out.mono ?_); rintro e w14 ⟨gd, dbl, rfl, hC14, hS14⟩; have HC14 := Lib.hid hC14; have HS14 := Lib.hid hS14; have HF14 := Lib.hid hS14.1; have TS := told_codes HOK.out HL.out HP1.out HP2.out HT1.out HT2.out HS3.out HD3.out hs2 hd2; have HTS := Lib.hid TS; have hin := HW12.out.1.inside; have z13 := HF13.out.size; have hend := ended_any gw gs gd _ _ (T1.take nS) (T2.take nD) sbl dbl bl12 A n c l base w14 ((HW12.out.fresh HF13.out).fresh HF14.out) (HC13.out.fresh HF14.out) HC14.out (fun b hb h => by have h1 := hin b h; have h2 := HS13.out.2 b hb; omega) (fun b hb h => by have h1 := hin b h; have h2 := HS14.out.2 b hb; omega) (HST.out.fresh ((HS12.out.1.trans HF13.out).trans HF14.out)) (fun q hq h => by have h1 := HS12.out.2 q h; obtain ⟨_, cs, fr, h2⟩ := HST.out.block q hq; have h3 := (Array.getElem?_eq_some_iff.1 h2).1; omega) (fun s hs => by obtain ⟨o1, _, _⟩ := HOK.out s hs; obtain ⟨q1, q2⟩ := HTS.out s (lc_sub hs); exact ⟨o1, by have := q1.1; rw [List.length_take, HT1.out]; omega, fun h => by have := (q2 h).1; rw [List.length_take, HT2.out]; omega⟩) (by omega) (by have := tell_few (T := T) (j := j) HPA.out HTL.out hj19 HFI1.out HFI2.out hs2 hd2; omega); have HEND := Lib.hid hend; clear hend TS hC14 hS14 hin)
    | (go_at_call 27; (with_reducible refine HEND.out.mono ?_); rintro e w15 ⟨A', c', bl15, rfl, ho, ht⟩))
  go_ret
  refine ⟨T1.take nS, T2.take nD, nS, nD, T, j, ps, A', c', ?_, ?_, ?_, ?_⟩
  · exact
    { s1 := hs1, s2 := hs2, d1 := hd1, d2 := hd2, ls := by rw [List.length_take, HT1.out]; omega, ld := by rw [List.length_take, HT2.out]; omega, fs := fit_take HFI1.out nS, fd := fit_take HFI2.out nD
      us := fun s hs => by
        obtain ⟨q1, _⟩ := HTS.out s hs
        rw [take_getD, if_pos q1.1]
        exact ⟨q1.2, q1.1⟩
      ud := fun s hs h => by
        obtain ⟨_, q2⟩ := HTS.out s hs
        obtain ⟨r1, r2⟩ := q2 h
        rw [take_getD, if_pos r1]
        exact ⟨r2, r1⟩
      pa := HPA.out, j4 := hj4, j19 := hj19, lt := HTL.out, ft := HFT.out, t7 := HT7.out, tp := HTP.out, tz := HTZ.out, fullS := full_take HFU1.out HT1.out hs2 HS3.out, fullD := full_take HFU2.out HT2.out hd2 HD3.out, fullT := HTF.out, cst := HCST.out, uS := ⟨T1, HLE1.out, rfl, HS3.out, HTA.out, hs1, hs2⟩, uD := ⟨T2, HLE2.out, rfl, HD3.out, HTB.out, hd1, hd2⟩, uP := HPD.out, uT := HLT.out, uJ := HJD.out }
  · rw [dyn_1]
    rfl
  · rw [dyn_1, dyn_2]
    exact own_low ho (by have := ((HS12.out.1.trans HF13.out).trans HF14.out).size; omega)
  · exact ((((HS12.out.fresh HF13.out).fresh HF14.out)).turn ht).1
end Go.Proofs.YtppgceighgpgoaaGreatDoor.defp
/-
  Pack by the fixed codes, and by codes of its own; the bound for Fixed. My own text.
-/
namespace Go.Proofs.YtppgceighgpgoaaGreatDoor.defp
open Go.RowKit Go.Maps Go.Proofs.YtppgceighgpgoaaGreatDoor.base Go.Proofs.YtppgceighgpgoaaGreatDoor.num Go.Proofs.YtppgceighgpgoaaGreatDoor.bitnum Go.Proofs.YtppgceighgpgoaaGreatDoor.bitp Go.Proofs.YtppgceighgpgoaaGreatDoor.huffnum Go.Proofs.YtppgceighgpgoaaGreatDoor.huffp Go.Proofs.YtppgceighgpgoaaGreatDoor.infnum Go.Proofs.YtppgceighgpgoaaGreatDoor.infp
set_option linter.unusedVariables false
/-- the codes of a block of kind 1 -/
def fixD : List Nat := List.replicate 30 5
theorem fit_fixD : Fit fixD := ⟨by decide +kernel, by decide +kernel⟩
/-- how many bytes, and which number -/
def bytesF (l : List (Nat × Nat)) : Nat := (3 + (outs fixedLits fixD (l ++ [(256, 0)])).1 + 7) / 8
def numF (l : List (Nat × Nat)) : Nat := 3 + 8 * (outs fixedLits fixD (l ++ [(256, 0)])).2
theorem pack_fixed (A : Option Addr) (n c : Nat) (b : List UInt8) (w : World) (B : Nat) (hr : Rd w B A n (b.map bv)) (hB : B ≤ w.heap.size) (hn : n ≤ 16777216) :
    Calls Tryz.prog 6 #[.slice A n c, .int .i64 1] w fun e w' => ∃ (A1 : Option Addr) (c1 : Nat) (l : List (Nat × Nat)), e = .returned (.tuple #[.slice A1 (bytesF l) c1, .int .i64 0]) ∧ St b n l ∧ Own w' w.heap.size 5 A1 (bytesF l) c1 ((low (bytesF l) (numF l)).map bv) ∧ Fresh w w' := by
  have hst := stepsOf_any A n c b w B hr hB hn
  have HST := Lib.hid hst
  clear hst hr
  go_enter Tryz.func6, Tryz.ntmps6
  go_wp2_with (first
    | (go_at_call 10; (with_reducible refine HST.out.mono ?_); rintro e w1 ⟨A1, c1, l, rfl, hs, ho, hf⟩; have HS := Lib.hid hs; have HF := Lib.hid hf; have hfew := hs.few; have hfx := fixed_of fixedLits fixD rfl rfl fit_lits fit_fixD A1 (l.length + 1) c1 (l ++ [(256, 0)]) w.heap.size w1 ho (fun s h => ⟨(hs.ok s h).1, by have := (hs.ok s h).2.1; omega, (hs.ok s h).2.2⟩) (by omega); have HFX := Lib.hid hfx; clear hs ho hf hfx)
    | (go_at_call 12; (with_reducible refine HFX.out.mono ?_); rintro e w2 ⟨A2, c2, rfl, ho2, hf2⟩))
  go_ret2
  exact ⟨A2, c2, l, rfl, HS.out, own_low ho2 HF.out.size, HF.out.trans hf2⟩
theorem lits_nine : ∀ k, fixedLits.getD k 0 ≤ 9 := fun k => by
  rw [List.getD_eq_getElem?_getD]
  cases h : fixedLits[k]? with
  | none => exact Nat.zero_le _
  | some v =>
    have : ∀ x ∈ fixedLits, x ≤ 9 := by decide +kernel
    exact this v (List.mem_of_getElem? h)
theorem fixD_five : ∀ k, fixD.getD k 0 ≤ 5 := fun k => by
  rw [List.getD_eq_getElem?_getD]
  cases h : fixD[k]? with
  | none => exact Nat.zero_le _
  | some v =>
    have : ∀ x ∈ fixD, x ≤ 5 := by decide +kernel
    exact this v (List.mem_of_getElem? h)
/-- no more than nine bits for a byte, and ten more -/
theorem bytesF_few {b : List UInt8} {n : Nat} {l : List (Nat × Nat)} (h : St b n l) : bytesF l ≤ (9 * n + 10 + 7) / 8 := by
  unfold bytesF
  rw [outs_snoc]
  have h1 := outs_few fixedLits fixD lits_nine (by decide +kernel) fixD_five h
  have h2 : (out fixedLits fixD (256, 0)).1 ≤ 7 := by decide +kernel
  show (3 + (_ + _) + 7) / 8 ≤ _
  omega
/-- a block of kind 2 of these steps, as bytes, and as a number -/
def bytesD (l : List (Nat × Nat)) (TS TD : List Nat) (nS nD : Nat) (T : List Nat) (j : Nat) (ps : List Pt) : Nat := (3 + (cat (dynI nS nD T j ps)).1 + (outs TS TD l).1 + 7) / 8
def numD (l : List (Nat × Nat)) (TS TD : List Nat) (nS nD : Nat) (T : List Nat) (j : Nat) (ps : List Pt) : Nat := 5 + 2 ^ 3 * (cat (dynI nS nD T j ps)).2 + 2 ^ (3 + (cat (dynI nS nD T j ps)).1) * (outs TS TD l).2
theorem pack_dynamic (A : Option Addr) (n c : Nat) (b : List UInt8) (w : World) (B : Nat) (hr : Rd w B A n (b.map bv)) (hB : B ≤ w.heap.size) (hn : n ≤ 16777215) (hO : OrdD w) (hg : 0 < w.heap.size) :
    Calls Tryz.prog 6 #[.slice A n c, .int .i64 2] w fun e w' => ∃ (A1 : Option Addr) (c1 : Nat) (l : List (Nat × Nat)) (TS TD : List Nat) (nS nD : Nat) (T : List Nat) (j : Nat) (ps : List Pt), e = .returned (.tuple #[.slice A1 (bytesD (l ++ [(256, 0)]) TS TD nS nD T j ps) c1, .int .i64 0]) ∧ St b n l ∧ Told (l ++ [(256, 0)]) TS TD nS nD T j ps ∧ Own w' w.heap.size 5 A1 (bytesD (l ++ [(256, 0)]) TS TD nS nD T j ps) c1 ((low (bytesD (l ++ [(256, 0)]) TS TD nS nD T j ps) (numD (l ++ [(256, 0)]) TS TD nS nD T j ps)).map bv) ∧ Fresh w w' := by
  have hst := stepsOf_any A n c b w B hr hB (by omega)
  have HST := Lib.hid hst
  have HO := Lib.hid hO
  clear hst hr hO
  go_enter Tryz.func6, Tryz.ntmps6
  go_wp2_with (first
    | (go_at_call 10; (with_reducible refine HST.out.mono ?_); rintro e w1 ⟨A1, c1, l, rfl, hs, ho, hf⟩; have HS := Lib.hid hs; have HF := Lib.hid hf; have hfew := hs.few; have hfx := dynamic_any A1 (l.length + 1) c1 w.heap.size (l ++ [(256, 0)]) w1 ho (fun s h => ⟨(hs.ok s h).1, by have := (hs.ok s h).2.1; omega, (hs.ok s h).2.2⟩) (by omega) (HO.out.keep (hf.block _ hg)) (by have := hf.size; omega); have HFX := Lib.hid hfx; clear hs ho hf hfx)
    | (go_at_call 13; (with_reducible refine HFX.out.mono ?_); rintro e w2 ⟨TS, TD, nS, nD, T, j, ps, A2, c2, htold, rfl, ho2, hf2⟩))
  go_ret2
  exact ⟨A2, c2, l, TS, TD, nS, nD, T, j, ps, rfl, HS.out, htold, own_low ho2 HF.out.size, HF.out.trans hf2⟩
end Go.Proofs.YtppgceighgpgoaaGreatDoor.defp
