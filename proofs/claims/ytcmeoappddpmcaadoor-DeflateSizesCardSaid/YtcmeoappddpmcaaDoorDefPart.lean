import Derived.Test.YtcmeoappddpmcaaDoorDefAgain
/-
  Parts that tell lengths: what they stand for; rows of parts. My own text.
-/
namespace Go.Proofs.YtcmeoappddpmcaaDoor.defp
open Go.RowKit Go.Maps Go.Proofs.YtcmeoappddpmcaaDoor.base Go.Proofs.YtcmeoappddpmcaaDoor.num Go.Proofs.YtcmeoappddpmcaaDoor.bitnum Go.Proofs.YtcmeoappddpmcaaDoor.bitp Go.Proofs.YtcmeoappddpmcaaDoor.huffnum Go.Proofs.YtcmeoappddpmcaaDoor.huffp
set_option linter.unusedVariables false
/-- the parts tell the first i lengths -/
inductive Pa (ls : List Nat) : Nat → List Pt → Prop where
  | nil : Pa ls 0 []
  | one {i : Nat} {ps : List Pt} : Pa ls i ps → i < ls.length → Pa ls (i + 1) (ps ++ [(ls.getD i 0, 0, 0)])
  | rep {i q : Nat} {ps : List Pt} : Pa ls i ps → 0 < i → q < 4 → i + (q + 3) ≤ ls.length → (∀ j, j < q + 3 → ls.getD (i + j) 0 = ls.getD (i - 1) 0) → Pa ls (i + (q + 3)) (ps ++ [(16, 2, q)])
  | few {i q : Nat} {ps : List Pt} : Pa ls i ps → q < 8 → i + (q + 3) ≤ ls.length → (∀ j, j < q + 3 → ls.getD (i + j) 0 = 0) → Pa ls (i + (q + 3)) (ps ++ [(17, 3, q)])
  | many {i q : Nat} {ps : List Pt} : Pa ls i ps → q < 128 → i + (q + 11) ≤ ls.length → (∀ j, j < q + 11 → ls.getD (i + j) 0 = 0) → Pa ls (i + (q + 11)) (ps ++ [(18, 7, q)])
theorem Pa.le {ls : List Nat} {i : Nat} {ps : List Pt} (h : Pa ls i ps) : i ≤ ls.length ∧ ps.length ≤ i := by
  induction h with
  | nil => simp
  | one h hi ih => simp; omega
  | rep h _ _ h2 _ ih => simp; omega
  | few h _ h2 _ ih => simp; omega
  | many h _ h2 _ ih => simp; omega
theorem Pa.each {ls : List Nat} (h15 : ∀ x ∈ ls, x ≤ 15) {i : Nat} {ps : List Pt} (h : Pa ls i ps) : ∀ p ∈ ps, p.1 ≤ 18 ∧ p.2.1 ≤ 7 ∧ p.2.2 < 2 ^ p.2.1 := by
  induction h with
  | nil => intro p hp; cases hp
  | one h hi ih =>
    rename_i k l
    intro p hp
    rcases List.mem_append.1 hp with hp | hp
    · exact ih p hp
    · rw [List.mem_singleton] at hp
      subst hp
      have : ls.getD k 0 ≤ 15 := by
        rw [List.getD_eq_getElem?_getD, List.getElem?_eq_getElem hi]
        exact h15 _ (List.getElem_mem _)
      exact ⟨by show ls.getD k 0 ≤ 18; omega, by simp, by simp⟩
  | rep h _ hq _ _ ih =>
    intro p hp
    rcases List.mem_append.1 hp with hp | hp
    · exact ih p hp
    · rw [List.mem_singleton] at hp
      subst hp
      exact ⟨by simp, by simp, hq⟩
  | few h hq _ _ ih =>
    intro p hp
    rcases List.mem_append.1 hp with hp | hp
    · exact ih p hp
    · rw [List.mem_singleton] at hp
      subst hp
      exact ⟨by simp, by simp, hq⟩
  | many h hq _ _ ih =>
    intro p hp
    rcases List.mem_append.1 hp with hp | hp
    · exact ih p hp
    · rw [List.mem_singleton] at hp
      subst hp
      exact ⟨by simp, by simp, hq⟩
theorem Pa_again {ls : List Nat} {i v s : Nat} {ps : List Pt} (h : Pa ls i ps) (hs : 1 ≤ s) (hl : i + s ≤ ls.length) (hv : ∀ j, j < s → ls.getD (i + j) 0 = v) (hp : v = 0 ∨ (0 < i ∧ ls.getD (i - 1) 0 = v)) :
    Pa ls (i + (againP v s).2) (ps ++ [(againP v s).1]) ∧ 1 ≤ (againP v s).2 ∧ (againP v s).2 ≤ s := by
  unfold againP
  by_cases c1 : s < 3
  · rw [if_pos c1]
    have h0 := hv 0 (by omega)
    rw [Nat.add_zero] at h0
    refine ⟨?_, Nat.le_refl _, hs⟩
    have := Pa.one h (by omega)
    rwa [h0] at this
  rw [if_neg c1]
  by_cases c2 : 0 < v
  · rw [if_pos c2]
    obtain ⟨q, hq⟩ : ∃ q, min s 6 = q + 3 := ⟨min s 6 - 3, by omega⟩
    rw [hq, Nat.add_sub_cancel]
    rcases hp with hp | ⟨hp1, hp2⟩
    · omega
    exact ⟨Pa.rep h hp1 (by omega) (by omega) (fun j hj => by rw [hp2]; exact hv j (by omega)), by show 1 ≤ q + 3; omega, by show q + 3 ≤ s; omega⟩
  rw [if_neg c2]
  have v0 : v = 0 := by omega
  subst v0
  by_cases c3 : s < 11
  · rw [if_pos c3]
    obtain ⟨q, rfl⟩ : ∃ q, s = q + 3 := ⟨s - 3, by omega⟩
    rw [Nat.add_sub_cancel]
    exact ⟨Pa.few h (by omega) hl hv, hs, Nat.le_refl _⟩
  rw [if_neg c3]
  obtain ⟨q, hq⟩ : ∃ q, min s 138 = q + 11 := ⟨min s 138 - 11, by omega⟩
  rw [hq, Nat.add_sub_cancel]
  exact ⟨Pa.many h (by omega) (by omega) (fun j hj => hv j (by omega)), by show 1 ≤ q + 11; omega, by show q + 11 ≤ s; omega⟩
/-! how many bits parts have at the most, if the code of lengths has no code of more than seven -/
def cost (ps : List Pt) : Nat := (ps.map fun p => 7 + p.2.1).sum
theorem cost_snoc (ps : List Pt) (p : Pt) : cost (ps ++ [p]) = cost ps + (7 + p.2.1) := by simp [cost]
def phi0 (s : Nat) : Nat := if s = 0 then 0 else 14 * ((s - 1) / 138) + if (s - 1) % 138 < 2 then 7 * ((s - 1) % 138 + 1) else 14
def phi (v s : Nat) : Nat := if 0 < v then 7 * s else phi0 s
theorem phi_again (v s : Nat) (hs : 1 ≤ s) : 7 + (againP v s).1.2.1 + phi v (s - (againP v s).2) ≤ phi v s := by
  unfold againP phi
  by_cases c2 : 0 < v
  · simp only [c2, if_true]
    by_cases c1 : s < 3
    · rw [if_pos c1]
      show 7 + 0 + 7 * (s - 1) ≤ 7 * s
      omega
    · rw [if_neg c1]
      show 7 + 2 + 7 * (s - min s 6) ≤ 7 * s
      omega
  · simp only [c2, if_false]
    unfold phi0
    by_cases c1 : s < 3
    · rw [if_pos c1]
      show 7 + 0 + (if s - 1 = 0 then 0 else 14 * ((s - 1 - 1) / 138) + if (s - 1 - 1) % 138 < 2 then 7 * ((s - 1 - 1) % 138 + 1) else 14) ≤ _
      rcases (by omega : s = 1 ∨ s = 2) with rfl | rfl <;> decide
    rw [if_neg c1]
    by_cases c3 : s < 11
    · rw [if_pos c3]
      show 7 + 3 + (if s - s = 0 then 0 else _) ≤ _
      rw [if_pos (Nat.sub_self s), if_neg (by omega : ¬ s = 0), if_neg (by omega)]
      omega
    rw [if_neg c3]
    show 7 + 7 + (if s - min s 138 = 0 then 0 else _) ≤ _
    by_cases c4 : s ≤ 138
    · rw [Nat.min_eq_left c4, if_pos (Nat.sub_self s), if_neg (by omega : ¬ s = 0), if_neg (by omega)]
      omega
    · have e0 : min s 138 = 138 := by omega
      rw [e0]
      show 7 + 7 + (if s - 138 = 0 then 0 else (14 * ((s - 138 - 1) / 138) + if (s - 138 - 1) % 138 < 2 then 7 * ((s - 138 - 1) % 138 + 1) else 14)) ≤ _
      rw [if_neg (by omega : ¬ s - 138 = 0), if_neg (by omega : ¬ s = 0)]
      have e1 : (s - 1) / 138 = (s - 138 - 1) / 138 + 1 := by omega
      have e2 : (s - 1) % 138 = (s - 138 - 1) % 138 := by omega
      rw [e1, e2]
      omega
theorem phi_few (k : Nat) : 138 * phi0 k ≤ 14 * k + 1932 := by
  unfold phi0
  split
  · omega
  · split <;> omega
/-- how many of the first i lengths aren't 0 -/
def nzc (ls : List Nat) (i : Nat) : Nat := (ls.take i).countP fun x => decide (0 < x)
theorem nzc_run {ls : List Nat} {i v : Nat} : ∀ k, i + k ≤ ls.length → (∀ t, i ≤ t → t < i + k → ls.getD t 0 = v) → nzc ls (i + k) = nzc ls i + if 0 < v then k else 0
  | 0, _, _ => by simp
  | k + 1, hl, h => by
    have ih := nzc_run k (by omega) fun t h1 h2 => h t h1 (by omega)
    have hx := h (i + k) (by omega) (by omega)
    rw [List.getD_eq_getElem?_getD, List.getElem?_eq_getElem (by omega)] at hx
    have hx2 : ls[i + k]'(by omega) = v := hx
    rw [← Nat.add_assoc]
    unfold nzc at ih ⊢
    rw [List.take_add_one, List.getElem?_eq_getElem (by omega), List.countP_append, ih, hx2]
    show _ + [v].countP _ = _
    rw [List.countP_cons, List.countP_nil]
    by_cases c : 0 < v
    · simp [c]; omega
    · simp [c]
/-- what the parts of the first i lengths have cost, where a run ends there -/
def Cost (ls : List Nat) (i : Nat) (ps : List Pt) : Prop := ∃ R, 138 * cost ps ≤ 966 * nzc ls i + 14 * (i - nzc ls i) + 1932 * R ∧ R ≤ nzc ls i + 1 ∧ (i < ls.length → ls.getD i 0 = 0 → R ≤ nzc ls i) ∧ nzc ls i ≤ i
theorem Cost.nil (ls : List Nat) : Cost ls 0 [] := ⟨0, by simp [cost], by omega, fun _ _ => Nat.zero_le _, by unfold nzc; simp⟩
theorem Cost.run {ls : List Nat} {i k v : Nat} {ps ps' : List Pt} (h : Cost ls i ps) (hk : 1 ≤ k) (hl : i + k ≤ ls.length) (hv : ∀ t, i ≤ t → t < i + k → ls.getD t 0 = v) (hne : i + k < ls.length → ls.getD (i + k) 0 ≠ v) (hc : cost ps' ≤ cost ps + phi v k) : Cost ls (i + k) ps' := by
  obtain ⟨R, h1, h2, h3, h4⟩ := h
  have hn := nzc_run k hl hv
  have hi := hv i (Nat.le_refl _) (by omega)
  by_cases c : 0 < v
  · rw [if_pos c] at hn
    unfold phi at hc
    rw [if_pos c] at hc
    refine ⟨R, ?_, by omega, fun _ _ => by omega, by omega⟩
    rw [hn]
    have : i + k - (nzc ls i + k) = i - nzc ls i := by omega
    rw [this]
    omega
  · rw [if_neg c, Nat.add_zero] at hn
    unfold phi at hc
    rw [if_neg c] at hc
    have hp := phi_few k
    have hv0 : v = 0 := by omega
    have := h3 (by omega) (by rw [hi]; exact hv0)
    refine ⟨R + 1, ?_, by omega, fun h5 h6 => absurd (h6.trans hv0.symm) (hne h5), by omega⟩
    rw [hn]
    have : i + k - nzc ls i = (i - nzc ls i) + k := by omega
    rw [this]
    omega
/-! rows of parts -/
abbrev tParts : TypeId := 88
def pcells (l : List Pt) : List Value := l.flatMap pcell
theorem pcells_snoc (l : List Pt) (s : Pt) : pcells (l ++ [s]) = pcells l ++ pcell s := by simp [pcells]
theorem pcells_len (l : List Pt) : (pcells l).length = l.length * 3 := by
  induction l with
  | nil => rfl
  | cons a r ih =>
    have : pcells (a :: r) = pcell a ++ pcells r := rfl
    rw [this, List.length_append, ih, List.length_cons]
    show 3 + _ = _
    omega
theorem partInfo : (Tryd.prog.info? tPart).map (fun i => (i.zero, i.size, i.bytes)) = some (some (.agg #[.int .i64 0, .int .i64 0, .int .i64 0]), 3, 24) := by kernel_rfl
abbrev Own3 (w : World) (base : Nat) (A : Option Addr) (n c : Nat) (l : List Pt) : Prop := w.ownsRow base tPart 3 (.slice A n c) n (pcells l)
theorem Own3.nil (w : World) (base : Nat) : Own3 w base none 0 0 [] := World.ownsRow_nil _ _ _ _
section
variable {w w' : World} {base n c : Nat} {A : Option Addr} {l : List Pt}
theorem Own3.len (h : Own3 w base A n c l) : l.length = n := by
  have h1 := h.1
  rw [pcells_len] at h1
  omega
theorem Own3.keep (h : Own3 w base A n c l) (hk : ∀ g, (Value.slice A n c).ownBlock = some g → w'.heap[g]? = w.heap[g]?) : Own3 w' base A n c l := by
  refine ⟨h.1, ?_⟩
  rcases h.2 with h2 | ⟨g, cap, cur, hv, hb, hg, r⟩
  · exact .inl h2
  · exact .inr ⟨g, cap, cur, hv, hb, (hk g (by rw [hv]; rfl)).trans hg, r⟩
theorem Own3.block (h : Own3 w base A n c l) : ∀ g, (Value.slice A n c).ownBlock = some g → base ≤ g ∧ ∃ cs fr, w.heap[g]? = some (.cells cs tPart fr) := fun g hg => by
  rcases h.2 with ⟨h2, _⟩ | ⟨q, cap, cur, hv, hb, hq, r⟩
  · rw [h2] at hg; cases hg
  · rw [hv] at hg
    injection hg with hg
    subst hg
    exact ⟨hb, _, _, hq⟩
theorem Own3.fresh (h : Own3 w base A n c l) (k : Fresh w w') : Own3 w' base A n c l := h.keep fun g hg => by
  obtain ⟨_, cs, fr, hq⟩ := h.block g hg
  exact k.block g (Array.getElem?_eq_some_iff.1 hq).1
theorem Own3.cap (h : Own3 w base A n c l) : n ≤ c ∧ c ≤ maxLen := by
  rcases h.2 with ⟨hv, hn⟩ | ⟨g, cap, cur, hv, _, _, h1, h2, _⟩
  · injection hv with _ h3 h4
    subst h4; subst h3; unfold maxLen; omega
  · injection hv with _ _ h4
    subst h4
    exact ⟨h1, h2⟩
theorem Own3.append (h : Own3 w base A n c l) {a : World} (hf : Fresh a w) (hb : a.heap.size ≤ base) (hg : w.grownBy w' (Value.slice A n c).ownBlock) : Fresh a w' :=
  Below.grown hf hg hf.size fun k hk => Nat.le_trans hb (h.block k hk).1
end
theorem wpList_append_part (w : World) {ops : Array Oper} {rest : List Oper} {o : Oper} {a : Act} {Q : Exit → Act → World → Prop} (hgd : o.guard = none) (s x : Operand)
    (ho : o.op = .call { callee := .builtin .append, args := #[s, x], argTypes := #[tParts, tParts] })
    (base : Nat) (A : Option Addr) (n c : Nat) (l : List Pt) (hs : a.eval s = .slice A n c) (hown : Own3 w base A n c l)
    (g : Nat) (p : Pt) (hx : a.eval x = .slice (some ⟨g, 0, none⟩) 1 1) (hg : Bk w g tPart (pcell p)) (h63 : n ≤ 1099511627776) (hbase : base ≤ w.heap.size)
    (h : ∀ A' c' w', Own3 w' base A' (n + 1) c' (l ++ [p]) → w.grownBy w' (Value.slice A n c).ownBlock → wpList Tryd.prog ops Q rest (a.put o.dst (.slice A' (n + 1) c')) w') : wpList Tryd.prog ops Q (o :: rest) a w := by
  obtain ⟨i, hi, hz, hsize, hby⟩ := info_parts partInfo
  refine wpList_plain hgd fun _ hK => ?_
  have hcells : ∀ j u, (pcell p)[j]? = some u → w.cell? ((⟨g, 0, none⟩ : Addr).add j) = some u := fun j u hu => by
    have hadd : (⟨g, 0, none⟩ : Addr).add j = ⟨g, 0 + j, none⟩ := by unfold Addr.add; split <;> simp_all
    rw [hadd, Nat.zero_add]
    exact hg.cell hu
  have h1 : ∀ u ∈ pcell p, u.oneCell' = true := fun u hu => by
    rcases List.mem_cons.1 hu with rfl | hu
    · rfl
    rcases List.mem_cons.1 hu with rfl | hu
    · rfl
    · rw [List.mem_singleton] at hu; subst hu; rfl
  obtain ⟨v', w', hrun, h2, h3, _, h5⟩ := run_append_own_at (P := Tryd.prog) w base tParts o.type tPart i _ 3 24 Tryd.underlying88 hi hz hsize hby rfl (by omega) (.slice A n c) n (pcells l) hown ⟨g, 0, none⟩ 1 1 (pcell p) rfl hcells h1 (by unfold maxLen; omega) (by omega) hbase
  rw [← pcells_snoc] at h2
  have hform : ∃ A' c', v' = .slice A' (n + 1) c' := by
    rcases h2.2 with ⟨hv, hn⟩ | ⟨g, cap, cur, hv, _⟩
    · omega
    · exact ⟨_, cap, hv⟩
  obtain ⟨A', c', rfl⟩ := hform
  unfold Oper.wp execOp
  simp only [ho, resolve, invoke, builtin, Sem.run_bind, Sem.run_pure, Result.andThen_ok, List.map_toArray, List.map_cons, List.map_nil, hs, hx, hrun]
  exact hK _ _ (h A' c' w' h2 h3)
end Go.Proofs.YtcmeoappddpmcaaDoor.defp
