import Derived.Test.YtppgceighgpgoaaGreatDoorDefBack4
import Derived.Test.YtppgceighgpgoaaGreatDoorMgDyn
import Derived.Test.YtppgceighgpgoaaGreatDoorMgPart
/- Several of my own texts, one behind the other. -/
/-
  What deflate.Pack makes by the fixed codes, and by codes of its own, is unpacked to the bytes. Plain mathematics, over no program. My own text.
-/
namespace Go.Proofs.YtppgceighgpgoaaGreatDoor.defp
open Go.Proofs.YtppgceighgpgoaaGreatDoor.num Go.Proofs.YtppgceighgpgoaaGreatDoor.bitnum Go.Proofs.YtppgceighgpgoaaGreatDoor.huffnum Go.Proofs.YtppgceighgpgoaaGreatDoor.huffp Go.Proofs.YtppgceighgpgoaaGreatDoor.infnum Go.Proofs.YtppgceighgpgoaaGreatDoor.infp
set_option linter.unusedVariables false
theorem u64_nat (n : Nat) (h : n < 18446744073709551616) : u64 (n : Int) = n := by unfold u64; omega
/-- the code as Go holds it -/
theorem code_is {a : List Nat} (ha : Fit a) {k : Nat} (h1 : 1 ≤ a.getD k 0) : Fs a 16 0 k = (a.getD k 0, cd a k (a.getD k 0)) ∧ codeB a k = ((Fs a 16 0 k).1, rev (Fs a 16 0 k).1 (u64 ((Fs a 16 0 k).2 : Int))) ∧ a.getD k 0 ≤ 15 := by
  have hg := get_of h1
  have h15 := ha.2 _ (List.mem_of_getElem? hg)
  have hF : Fs a 16 0 k = (a.getD k 0, cd a k (a.getD k 0)) := by
    unfold Fs
    rw [hg]
    simp only
    rw [if_pos ⟨h1, .inl (by omega)⟩]
  have hc : cd a k (a.getD k 0) < 2 ^ a.getD k 0 := Nat.lt_of_lt_of_le (huffnum.cd_lt hg h1) (nx_le ha.1 h15)
  have hp : 2 ^ a.getD k 0 ≤ 2 ^ 15 := Nat.pow_le_pow_right (by omega) h15
  refine ⟨hF, ?_, h15⟩
  rw [hF]
  simp only
  rw [u64_nat _ (by omega)]
  rfl
theorem Has.of {a b : List Nat} (ha : Fit a) (hb : Fit b) {s : Nat × Nat} (h1 : 1 ≤ a.getD (sy s) 0) (h2 : s.2 ≠ 0 → 1 ≤ b.getD (di s) 0) : Has a b s := ⟨h1, (code_is ha h1).2.2, fun h => ⟨h2 h, (code_is hb (h2 h)).2.2⟩⟩
theorem out_bits {a b : List Nat} (ha : Fit a) (hb : Fit b) {s : Nat × Nat} (h : Has a b s) : out a b s = bits_ (stepB a b s) := by
  obtain ⟨h1, _, h2⟩ := h
  unfold out out1 stepB
  rw [(code_is ha h1).2.1]
  by_cases h0 : s.2 = 0
  · simp [h0, bits_]
  · rw [(code_is hb (h2 h0).1).2.1]
    simp only [if_neg h0, bits_]
    simp only [Nat.add_zero, Nat.mul_zero, Nat.pow_add, Nat.mul_add, Nat.mul_assoc, Nat.add_assoc]
theorem outs_bits {a b : List Nat} (ha : Fit a) (hb : Fit b) : ∀ l : List (Nat × Nat), (∀ s ∈ l, Has a b s) → outs a b l = bits_ (stepsB a b l)
  | [], _ => rfl
  | s :: r, h => by
    rw [outs, outs_bits ha hb r fun t ht => h t (by simp [ht]), out_bits ha hb (h s (by simp))]
    show _ = bits_ (stepB a b s ++ stepsB a b r)
    rw [bits_append]
theorem bits_lt : ∀ l : List (Nat × Nat), (∀ x ∈ l, x.2 < 2 ^ x.1) → (bits_ l).2 < 2 ^ (bits_ l).1
  | [], _ => by decide
  | x :: r, h => join_lt (h x (by simp)) (bits_lt r fun y hy => h y (by simp [hy]))
theorem stepB_lt (a b : List Nat) (s : Nat × Nat) : ∀ x ∈ stepB a b s, x.2 < 2 ^ x.1 := by
  intro x hx
  unfold stepB codeB at hx
  rcases List.mem_cons.1 hx with rfl | hx
  · exact rev_lt _ _
  rcases List.mem_cons.1 hx with rfl | hx
  · show syV s < 2 ^ syN s
    unfold syV syN
    split
    · decide
    · split
      · decide
      · exact Nat.mod_lt _ (Nat.pow_pos (by omega))
  split at hx
  · cases hx
  rcases List.mem_cons.1 hx with rfl | hx
  · exact rev_lt _ _
  rw [List.mem_singleton] at hx
  subst hx
  exact Nat.mod_lt _ (Nat.pow_pos (by omega))
theorem stepsB_lt (a b : List Nat) (l : List (Nat × Nat)) : (bits_ (stepsB a b l)).2 < 2 ^ (bits_ (stepsB a b l)).1 := bits_lt _ fun x hx => by
  obtain ⟨s, _, hs⟩ := List.mem_flatMap.1 hx
  exact stepB_lt a b s x hs
theorem flat_same {α β : Type} (f g : α → List β) : ∀ l : List α, (∀ s ∈ l, f s = g s) → l.flatMap f = l.flatMap g
  | [], _ => rfl
  | a :: r, h => by rw [List.flatMap_cons, List.flatMap_cons, h a (by simp), flat_same f g r fun s hs => h s (by simp [hs])]
theorem fit_lits_ : Fit fixedLits := ⟨by decide +kernel, by decide +kernel⟩
theorem fit_dist_ : Fit fixedDist := ⟨by decide +kernel, by decide +kernel⟩
theorem dist_same : ∀ k : Fin 30, codeB fixD k.1 = codeB fixedDist k.1 := by decide +kernel
theorem step_fixed {s : Nat × Nat} (h : s.2 ≠ 0 → di s < 30) : stepB fixedLits fixD s = stepB fixedLits fixedDist s := by
  unfold stepB
  by_cases h0 : s.2 = 0
  · simp [h0]
  · rw [dist_same ⟨di s, h h0⟩]
theorem lits_all : ∀ k : Fin 286, 1 ≤ fixedLits.getD k.1 0 := by decide +kernel
theorem dist_all : ∀ k : Fin 30, 1 ≤ fixD.getD k.1 0 ∧ 1 ≤ fixedDist.getD k.1 0 := by decide +kernel
/-- the bytes that hold a number of so many bits -/
theorem num_held {n v k : Nat} (hv : v < 2 ^ n) (hk : k = (n + 7) / 8) : num (low k v) = v := by
  rw [num_low, ← pow256]
  refine Nat.mod_eq_of_lt (Nat.lt_of_lt_of_le hv (Nat.pow_le_pow_right (by omega) (by omega)))
/-- what is packed by the fixed codes is unpacked to what it was; all of it is needed -/
theorem back_fixed {b : List UInt8} {n : Nat} {l : List (Nat × Nat)} (hs : St b n l) (hn : n = b.length) (hok : ∀ s ∈ l ++ [(256, 0)], sy s < 286 ∧ (s.2 ≠ 0 → di s < 30)) : Unp (low (bytesF l) (numF l)) b (bytesF l) := by
  have hA : ∀ s ∈ l ++ [(256, 0)], Has fixedLits fixD s := fun s h => Has.of fit_lits_ ⟨by decide +kernel, by decide +kernel⟩ (lits_all ⟨_, (hok s h).1⟩) fun h0 => (dist_all ⟨_, (hok s h).2 h0⟩).1
  have hH : ∀ s ∈ l, Has fixedLits fixedDist s := fun s h => Has.of fit_lits_ fit_dist_ (lits_all ⟨_, (hok s (by simp [h])).1⟩) fun h0 => (dist_all ⟨_, (hok s (by simp [h])).2 h0⟩).2
  have hO : outs fixedLits fixD (l ++ [(256, 0)]) = bits_ (stepsB fixedLits fixedDist (l ++ [(256, 0)])) := by
    rw [outs_bits fit_lits_ ⟨by decide +kernel, by decide +kernel⟩ _ hA]
    unfold stepsB
    rw [flat_same _ _ _ fun s h => step_fixed (hok s h).2]
  have hv := stepsB_lt fixedLits fixedDist (l ++ [(256, 0)])
  have hl : (low (bytesF l) (numF l)).length = bytesF l := low_length _ _
  have hN : num (low (bytesF l) (numF l)) = 3 + 2 ^ 3 * (bits_ (stepsB fixedLits fixedDist (l ++ [(256, 0)]))).2 := by
    unfold bytesF numF
    rw [hO]
    exact num_held (n := 3 + (bits_ (stepsB fixedLits fixedDist (l ++ [(256, 0)]))).1) (join_lt (n := 3) (v := 3) (by decide) hv) rfl
  have := unp_fixed (bs := low (bytesF l) (numF l)) hs.fits hH hN hv (by rw [hl]; unfold bytesF; rw [hO])
  rw [hl, hs.play.1, hn, List.take_length] at this
  exact this
end Go.Proofs.YtppgceighgpgoaaGreatDoor.defp
/-
  What deflate.Pack makes by codes of its own is unpacked to the bytes. Plain mathematics, over no program. My own text.
-/
namespace Go.Proofs.YtppgceighgpgoaaGreatDoor.defp
open Go.Proofs.YtppgceighgpgoaaGreatDoor.num Go.Proofs.YtppgceighgpgoaaGreatDoor.bitnum Go.Proofs.YtppgceighgpgoaaGreatDoor.huffnum Go.Proofs.YtppgceighgpgoaaGreatDoor.huffp Go.Proofs.YtppgceighgpgoaaGreatDoor.infnum Go.Proofs.YtppgceighgpgoaaGreatDoor.infp
set_option linter.unusedVariables false
theorem part_is {T : List Nat} (hT : Fit T) {p : Pt} (h : 1 ≤ T.getD p.1 0) : partI T p = partB T p := by
  unfold partI partB
  have h2 := (code_is hT h).2.1
  unfold codeB at h2
  rw [← h2]
theorem dyn_is {nS nD j : Nat} {T : List Nat} {ps : List Pt} (hT : Fit T) (hp : ∀ p ∈ ps, 1 ≤ T.getD p.1 0) : cat (dynI nS nD T j ps) = bits_ (codesB nS nD j T ps) := by
  unfold cat
  rw [cat_bits]
  unfold dynI tellI headI codesB
  rw [flat_same _ _ ps fun p h => part_is hT (hp p h)]
  rfl
/-- what is packed by codes of its own is unpacked to what it was; all of it is needed -/
theorem back_own {b : List UInt8} {n nS nD j : Nat} {l : List (Nat × Nat)} {TS TD T : List Nat} {ps : List Pt} (hs : St b n l) (hn : n = b.length) (s1 : 257 ≤ nS) (s2 : nS ≤ 286) (d1 : 1 ≤ nD) (d2 : nD ≤ 30) (ls : TS.length = nS) (ld : TD.length = nD) (fs : Fit TS) (fd : Fit TD)
    (us : ∀ s ∈ l ++ [(256, 0)], 1 ≤ TS.getD (sy s) 0) (ud : ∀ s ∈ l ++ [(256, 0)], s.2 ≠ 0 → 1 ≤ TD.getD (di s) 0) (pa : Pa (TS ++ TD) (nS + nD) ps) (j4 : 4 ≤ j) (j19 : j ≤ 19) (lt : T.length = 19) (ft : Fit T) (t7 : ∀ x ∈ T, x ≤ 7) (tp : ∀ p ∈ ps, 1 ≤ T.getD p.1 0)
    (tz : ∀ i s, j ≤ i → infnum.order[i]? = some s → T.getD s 0 = 0) (hmT : mayBe T false = true) (hmS : mayBe TS false = true) (hmD : mayBe TD true = true) :
    Unp (low (bytesD (l ++ [(256, 0)]) TS TD nS nD T j ps) (numD (l ++ [(256, 0)]) TS TD nS nD T j ps)) b (bytesD (l ++ [(256, 0)]) TS TD nS nD T j ps) := by
  have hA : ∀ s ∈ l ++ [(256, 0)], Has TS TD s := fun s h => Has.of fs fd (us s h) (ud s h)
  have h256 : 1 ≤ TS.getD 256 0 := us (256, 0) (by simp)
  have hO := outs_bits fs fd _ hA
  have hD := dyn_is (nS := nS) (nD := nD) (j := j) ft tp
  have hlen : (TS ++ TD).length = nS + nD := by rw [List.length_append, ls, ld]
  have h15 : ∀ x ∈ TS ++ TD, x ≤ 15 := fun x hx => (List.mem_append.1 hx).elim (fs.2 x) (fd.2 x)
  have hR := pa.rp h15
  rw [← hlen, List.take_length] at hR
  have hT7 : ∀ s, T.getD s 0 < 8 := fun s => by
    rw [List.getD_eq_getElem?_getD]
    cases h : T[s]? with
    | none => decide
    | some x => have := t7 x (List.mem_of_getElem? h); show x < 8; omega
  have e1 : (TS ++ TD).take nS = TS := by rw [← ls, List.take_left']; rfl
  have e2 : (TS ++ TD).drop nS = TD := by rw [← ls, List.drop_left']; rfl
  have e3 : (TS ++ TD).getD 256 0 = TS.getD 256 0 := by rw [List.getD_eq_getElem?_getD, List.getElem?_append_left (by omega), List.getD_eq_getElem?_getD]
  have hC := Says.codes (a := TS ++ TD) ⟨s1, s2⟩ ⟨d1, d2⟩ ⟨j4, j19⟩ lt hT7 tz hmT hR tp hlen (by rw [e3]; omega) (by rw [e1]; exact hmS) (by rw [e2]; exact hmD)
  rw [e1, e2] at hC
  have hv := stepsB_lt TS TD (l ++ [(256, 0)])
  have hl : (low (bytesD (l ++ [(256, 0)]) TS TD nS nD T j ps) (numD (l ++ [(256, 0)]) TS TD nS nD T j ps)).length = bytesD (l ++ [(256, 0)]) TS TD nS nD T j ps := low_length _ _
  have hN : num (low (bytesD (l ++ [(256, 0)]) TS TD nS nD T j ps) (numD (l ++ [(256, 0)]) TS TD nS nD T j ps)) = 5 + 2 ^ 3 * (bits_ (codesB nS nD j T ps ++ stepsB TS TD (l ++ [(256, 0)]))).2 := by
    unfold bytesD numD
    rw [hO, hD, bits_append]
    have h1 := join_lt (n := 3) (v := 5) (by decide) (join_lt hC.1 hv)
    have h2 : 5 + 2 ^ 3 * (bits_ (codesB nS nD j T ps)).2 + 2 ^ (3 + (bits_ (codesB nS nD j T ps)).1) * (bits_ (stepsB TS TD (l ++ [(256, 0)]))).2 = 5 + 2 ^ 3 * ((bits_ (codesB nS nD j T ps)).2 + 2 ^ (bits_ (codesB nS nD j T ps)).1 * (bits_ (stepsB TS TD (l ++ [(256, 0)]))).2) := by
      rw [Nat.pow_add, Nat.mul_add, Nat.mul_assoc, Nat.add_assoc]
    rw [h2]
    exact num_held h1 (by rw [← Nat.add_assoc 3])
  have := unp_own (bs := low (bytesD (l ++ [(256, 0)]) TS TD nS nD T j ps) (numD (l ++ [(256, 0)]) TS TD nS nD T j ps)) (C := codesB nS nD j T ps) hs.fits (fun s h => hA s (by simp [h])) fs.1 fd.1 ⟨h256, (code_is fs h256).2.2⟩ hC hN hv (by rw [hl]; unfold bytesD; rw [hO, hD, bits_append, Nat.add_assoc 3])
  rw [hl, hs.play.1, hn, List.take_length] at this
  exact this
end Go.Proofs.YtppgceighgpgoaaGreatDoor.defp
/-
  Lengths that huff.Lengths makes of counts may be told. Plain mathematics, over no program. My own text.
-/
namespace Go.Proofs.YtppgceighgpgoaaGreatDoor.defp
open Go.Proofs.YtppgceighgpgoaaGreatDoor.num Go.Proofs.YtppgceighgpgoaaGreatDoor.bitnum Go.Proofs.YtppgceighgpgoaaGreatDoor.huffnum Go.Proofs.YtppgceighgpgoaaGreatDoor.huffp Go.Proofs.YtppgceighgpgoaaGreatDoor.infnum Go.Proofs.YtppgceighgpgoaaGreatDoor.infp
set_option linter.unusedVariables false
theorem sum_none : ∀ T : List Nat, (∀ i, T.getD i 0 = 0) → T.sum = 0
  | [], _ => rfl
  | a :: r, h => by
    have h0 := h 0
    have hr := sum_none r fun i => by have := h (i + 1); simpa using this
    simp at h0
    rw [List.sum_cons, hr, h0]
theorem sum_alone : ∀ (T : List Nat) (y : Nat), (∀ i, i ≠ y → T.getD i 0 = 0) → T.sum = T.getD y 0
  | [], y, _ => by simp
  | a :: r, 0, h => by
    have hr := sum_none r fun i => by have := h (i + 1) (by omega); simpa using this
    rw [List.sum_cons, hr]
    simp
  | a :: r, y + 1, h => by
    have h0 := h 0 (by omega)
    have hr := sum_alone r y fun i hi => by have := h (i + 1) (by omega); simpa using this
    simp at h0
    rw [List.sum_cons, hr, h0]
    simp
/-- a code of what comes: of none, of one alone (one bit), or whole -/
theorem may_of {α : Type} (f : α → Option Nat) (nn : Nat) (l : List α) (T : List Nat) (hf : Fit T) (hT : T.length ≤ nn) (h0 : ∀ y, y < nn → (∀ s ∈ l, f s ≠ some y) → T.getD y 0 = 0)
    (h2 : ∀ s ∈ l, ∀ t ∈ l, ∀ y z, f s = some y → f t = some z → y < nn → z < nn → y ≠ z → tx T 15 = 32768) (h1 : ∀ s ∈ l, ∀ y, f s = some y → y < nn → (∀ t ∈ l, ∀ z, f t = some z → z < nn → z = y) → T.getD y 0 = 1)
    (none : Bool) (hn : none = true ∨ ∃ s ∈ l, ∃ y, f s = some y ∧ y < nn) : mayBe T none = true := by
  have hout : ∀ i, nn ≤ i → T.getD i 0 = 0 := fun i hi => by rw [List.getD_eq_getElem?_getD, List.getElem?_eq_none (by omega)]; rfl
  unfold mayBe
  by_cases hx : ∃ s ∈ l, ∃ y, f s = some y ∧ y < nn
  · obtain ⟨s, hs, y, hy, hlt⟩ := hx
    by_cases ha : ∀ t ∈ l, ∀ z, f t = some z → z < nn → z = y
    · have hsum : T.sum = 1 := by
        rw [sum_alone T y fun i hi => ?_, h1 s hs y hy hlt ha]
        rcases Nat.lt_or_ge i nn with h | h
        · exact h0 i h fun t ht e => hi (ha t ht i e h)
        · exact hout i h
      simp [hf.1, hsum]
    · have : ∃ t ∈ l, ∃ z, f t = some z ∧ z < nn ∧ z ≠ y := Classical.byContradiction fun hno => ha fun t ht z hz hzl => Classical.byContradiction fun hne => hno ⟨t, ht, z, hz, hzl, hne⟩
      obtain ⟨t, ht, z, hz, hzl, hne⟩ := this
      have := h2 t ht s hs z y hz hy hzl hlt hne
      simp [this]
  · have hnone : none = true := hn.elim id fun h => absurd h hx
    have hsum : T.sum = 0 := sum_none T fun i => by
      rcases Nat.lt_or_ge i nn with h | h
      · exact h0 i h fun t ht e => hx ⟨t, ht, i, e, h⟩
      · exact hout i h
    simp [hf.1, hsum, hnone]
end Go.Proofs.YtppgceighgpgoaaGreatDoor.defp
/-
  What is packed in any way is unpacked to what it was: the parts of stage 7 put together. My own text.
-/
namespace Go.Proofs.YtppgceighgpgoaaGreatDoor.defp
open Go.RowKit Go.Proofs.YtppgceighgpgoaaGreatDoor.base Go.Proofs.YtppgceighgpgoaaGreatDoor.num Go.Proofs.YtppgceighgpgoaaGreatDoor.bitnum Go.Proofs.YtppgceighgpgoaaGreatDoor.bitp Go.Proofs.YtppgceighgpgoaaGreatDoor.huffnum Go.Proofs.YtppgceighgpgoaaGreatDoor.infnum
set_option linter.unusedVariables false
theorem lc_has {l : List (Nat × Nat)} {s : Nat × Nat} (h : s ∈ l) : s ∈ lc l := by
  unfold lc
  split
  · exact List.mem_append_left _ h
  · exact h
theorem Pa.some {ls : List Nat} {i : Nat} {ps : List Pt} (h : Pa ls i ps) (h0 : 0 < i) : ∃ p, p ∈ ps := by
  cases h with
  | nil => omega
  | one _ _ => exact ⟨_, List.mem_append_right _ (List.mem_singleton.2 rfl)⟩
  | rep _ _ _ _ _ => exact ⟨_, List.mem_append_right _ (List.mem_singleton.2 rfl)⟩
  | few _ _ _ _ => exact ⟨_, List.mem_append_right _ (List.mem_singleton.2 rfl)⟩
  | many _ _ _ _ => exact ⟨_, List.mem_append_right _ (List.mem_singleton.2 rfl)⟩
/-- what is packed by codes of its own -/
theorem told_back {b : List UInt8} {n nS nD j : Nat} {l : List (Nat × Nat)} {TS TD T : List Nat} {ps : List Pt} (hs : St b n l) (hn : n = b.length) (ht : Told (l ++ [(256, 0)]) TS TD nS nD T j ps) :
    Unp (low (bytesD (l ++ [(256, 0)]) TS TD nS nD T j ps) (numD (l ++ [(256, 0)]) TS TD nS nD T j ps)) b (bytesD (l ++ [(256, 0)]) TS TD nS nD T j ps) := by
  have h15 : ∀ x ∈ TS ++ TD, x ≤ 15 := fun x hx => (List.mem_append.1 hx).elim (ht.fs.2 x) (ht.fd.2 x)
  refine back_own hs hn ht.s1 ht.s2 ht.d1 ht.d2 ht.ls ht.ld ht.fs ht.fd (fun s h => (ht.us s (lc_has h)).1) (fun s h h0 => (ht.ud s (lc_has h) h0).1) ht.pa ht.j4 ht.j19 ht.lt ht.ft ht.t7 ht.tp ht.tz ?_ ?_ ?_
  · obtain ⟨p, hp⟩ := ht.pa.some (by have := ht.s1; omega)
    exact may_of fP 19 ps T ht.ft (Nat.le_of_eq ht.lt) ht.fullT.1 ht.fullT.2.1 ht.fullT.2.2 false (.inr ⟨p, hp, p.1, rfl, by have := (ht.pa.each h15 p hp).1; omega⟩)
  · exact may_of fS 286 _ TS ht.fs (by rw [ht.ls]; exact ht.s2) ht.fullS.1 ht.fullS.2.1 ht.fullS.2.2 false (.inr ⟨(256, 0), lc_has (by simp), 256, rfl, by omega⟩)
  · exact may_of fD 30 _ TD ht.fd (by rw [ht.ld]; exact ht.d2) ht.fullD.1 ht.fullD.2.1 ht.fullD.2.2 true (.inl rfl)
/-- what is packed by the fixed codes -/
theorem fixed_back {b : List UInt8} {n : Nat} {l : List (Nat × Nat)} (hs : St b n l) (hn : n = b.length) : Unp (low (bytesF l) (numF l)) b (bytesF l) :=
  back_fixed hs hn fun s h => ⟨by have := (hs.ok s h).2.1; omega, (hs.ok s h).2.2⟩
/-- what is only stored -/
theorem stored_back {b : List UInt8} (h : b.length ≤ 65535) : Unp (infnum.stored true b) b (infnum.stored true b).length := by
  have := blocks_unp (l := [b]) (by simp) (fun x hx => by rw [List.mem_singleton] at hx; subst hx; omega)
  simpa [blocks] using this
end Go.Proofs.YtppgceighgpgoaaGreatDoor.defp
/-
  Where bytes at the end are missing, unpacking tells just that. Plain mathematics, over no program. My own text.
-/
namespace Go.Proofs.YtppgceighgpgoaaGreatDoor.infnum
open Go.Proofs.YtppgceighgpgoaaGreatDoor.num Go.Proofs.YtppgceighgpgoaaGreatDoor.bitnum Go.Proofs.YtppgceighgpgoaaGreatDoor.huffnum
set_option linter.unusedVariables false

/-- a part that is told of more bits than there are (whole bytes of them) tells that they end -/
def Sh {α : Type} (f : Part α) : Prop := ∀ U T p a q, f U T p = .ok (a, q) → ∀ U' k, p ≤ 8 * k → 8 * k < q → U % 2 ^ (8 * k) = U' % 2 ^ (8 * k) → f U' (8 * k) p = .error 3
section
variable {α β : Type}
theorem Sh.give (a : α) : Sh (give a) := fun U T p b q h U' k h1 h2 _ => by
  injection h with h
  injection h with e1 e2
  omega
theorem Sh.fail (e : Nat) : Sh (fail (α := α) e) := fun U T p b q h => by cases h
theorem Sh.also {f : Part α} {g : α → Part β} (hl : Loc f) (hf : Sh f) (hg : ∀ a, Sh (g a)) : Sh (also f g) := fun U T p b q h U' k h1 h2 hs => by
  unfold infnum.also at h
  cases hfe : f U T p with
  | error e => rw [hfe] at h; cases h
  | ok x =>
    obtain ⟨a, m⟩ := x
    rw [hfe] at h
    unfold infnum.also
    rcases Nat.lt_or_ge (8 * k) m with hm | hm
    · rw [hf _ _ _ _ _ hfe U' k h1 hm hs]
    · rw [(hl _ _ _ _ _ hfe).2 U' (8 * k) hm (same_low hs hm)]
      exact hg a _ _ _ _ _ h U' k hm h2 hs
theorem Sh.ite {f g : Part α} {c : Prop} [Decidable c] (hf : Sh f) (hg : Sh g) : Sh (if c then f else g) := by split <;> assumption
theorem Sh.align : Sh align := fun U T p b q h U' k h1 h2 _ => by
  injection h with h
  injection h with e1 e2
  omega
theorem Sh.take (n : Nat) : Sh (take n) := fun U T p b q h U' k h1 h2 _ => by
  unfold infnum.take at h
  split at h
  · injection h with h
    injection h with e1 e2
    unfold infnum.take
    rw [if_neg (by omega)]
  · cases h
theorem same_top {t t' m c : Nat} (hc : c ≤ m) (hm : m ≤ 15) (h : t' = t / 2 ^ (15 - m) * 2 ^ (15 - m)) : t' / 2 ^ (15 - c) = t / 2 ^ (15 - c) := by
  obtain ⟨d, hd⟩ : ∃ d, 15 - c = (15 - m) + d := ⟨m - c, by omega⟩
  have hp : 0 < 2 ^ (15 - m) := Nat.pow_pos (by omega)
  rw [hd, Nat.pow_add]
  generalize 2 ^ (15 - m) = P at *
  rw [← Nat.div_div_eq_div_mul, ← Nat.div_div_eq_div_mul, h, Nat.mul_div_cancel _ hp]
set_option maxRecDepth 100000 in
theorem Sh.sym (ls : List Nat) : Sh (sym ls) := fun U T p b q h U' k h1 h2 hs => by
  unfold infnum.sym at h
  simp only at h
  split at h
  · cases h
  · rename_i hd
    split at h
    · cases h
    · rename_i hm
      obtain ⟨hn1, hn15, hlo, hhi⟩ := lev_of (Nat.not_le.1 hd)
      injection h with h
      injection h with e1 e2
      generalize hn : lev ls (rev 15 (U / 2 ^ p % 2 ^ min 15 (T - p))) = n at *
      subst e2
      obtain ⟨m, hm'⟩ : ∃ m, 8 * k - p = m := ⟨_, rfl⟩
      have hmn : m < n := by omega
      have hmin : min 15 (8 * k - p) = m := by omega
      have ht := rev_top (U / 2 ^ p % 2 ^ min 15 (T - p)) m (15 - m)
      rw [show m + (15 - m) = 15 by omega, rev_mod (U / 2 ^ p) (k := m) (m := min 15 (T - p)) (by omega)] at ht
      have hr : rev m (U / 2 ^ p) = rev m (U' / 2 ^ p) := (rev_inj _ _ m).2 (same_cut hs (by omega))
      have hlow := rev_low (A := U' / 2 ^ p % 2 ^ m) (m := m) (Nat.mod_lt _ (Nat.pow_pos (by omega))) (15 - m)
      rw [show m + (15 - m) = 15 by omega, rev_mod (U' / 2 ^ p) (Nat.le_refl m), ← hr, ← ht] at hlow
      unfold infnum.sym
      simp only
      rw [hmin]
      generalize rev 15 (U' / 2 ^ p % 2 ^ m) = t' at *
      generalize rev 15 (U / 2 ^ p % 2 ^ min 15 (T - p)) = t at *
      have hle : t' ≤ t := by rw [hlow]; exact Nat.div_mul_le_self _ _
      rw [if_neg (by omega)]
      obtain ⟨a1, a15, alo, ahi⟩ := lev_of (ls := ls) (t := t') (by omega)
      generalize lev ls t' = c at *
      rcases Nat.lt_or_ge m c with hc | hc
      · rw [if_pos hc]
      · exfalso
        have hcn := tx_le ls (m := c) (n := n - 1) (by omega) (by omega)
        have hp : 0 < 2 ^ (15 - c) := Nat.pow_pos (by omega)
        have hsame : t' / 2 ^ (15 - c) = t / 2 ^ (15 - c) := same_top hc (by omega) hlow
        unfold tx at ahi
        rw [← Nat.div_lt_iff_lt_mul hp, hsame, Nat.div_lt_iff_lt_mul hp] at ahi
        have : t < tx ls c := ahi
        omega
theorem Sh.times {f : Part α} (hl : Loc f) (hf : Sh f) : ∀ n, Sh (times f n)
  | 0 => Sh.give _
  | n + 1 => Sh.also hl hf fun a => Sh.also (Loc.times hl n) (Sh.times hl hf n) fun l => Sh.give _
end
theorem Sh.rep (c : List Nat) (n : Nat) : ∀ f l, Sh (rep c n f l)
  | 0, l => Sh.fail _
  | f + 1, l => by
    unfold infnum.rep
    refine Sh.ite (Sh.fail _) (Sh.ite (Sh.give _) (Sh.also (Loc.sym c) (Sh.sym c) fun k => Sh.ite ?_ (Sh.ite ?_ (Sh.ite ?_ ?_))))
    · cases l.getLast? with
      | none => exact Sh.fail _
      | some v => exact Sh.also (Loc.take 2) (Sh.take 2) fun t => Sh.rep c n f _
    · exact Sh.also (Loc.take 3) (Sh.take 3) fun t => Sh.rep c n f _
    · exact Sh.also (Loc.take 7) (Sh.take 7) fun t => Sh.rep c n f _
    · exact Sh.rep c n f _
theorem Sh.codes : Sh codes :=
  Sh.also (Loc.take 5) (Sh.take 5) fun n => Sh.also (Loc.take 5) (Sh.take 5) fun d => Sh.also (Loc.take 4) (Sh.take 4) fun k =>
    Sh.ite (Sh.fail _) (Sh.also (Loc.times (Loc.take 3) _) (Sh.times (Loc.take 3) (Sh.take 3) _) fun l =>
      Sh.ite (Sh.fail _) (Sh.also (Loc.rep _ _ _ _) (Sh.rep _ _ _ _) fun a => Sh.ite (Sh.fail _) (Sh.give _)))
theorem Sh.one (s : At) : Sh (one s) := by
  obtain ⟨ph, last, out⟩ := s
  cases ph with
  | head =>
    exact Sh.ite (Sh.fail _) (Sh.also (Loc.take 1) (Sh.take 1) fun l => Sh.also (Loc.take 2) (Sh.take 2) fun k =>
      Sh.ite (Sh.also Loc.align Sh.align fun _ => Sh.also (Loc.take 16) (Sh.take 16) fun n => Sh.also (Loc.take 16) (Sh.take 16) fun t => Sh.ite (Sh.give _) (Sh.fail _))
        (Sh.ite (Sh.give _) (Sh.ite (Sh.also Loc.codes Sh.codes fun c => Sh.give _) (Sh.fail _))))
  | raw n =>
    cases n with
    | zero => exact Sh.give _
    | succ n => exact Sh.also (Loc.take 8) (Sh.take 8) fun v => Sh.give _
  | sy a b =>
    exact Sh.also (Loc.sym a) (Sh.sym a) fun k => Sh.ite (Sh.give _) (Sh.ite (Sh.give _) (Sh.ite (Sh.fail _)
      (Sh.also (Loc.take _) (Sh.take _) fun e => Sh.also (Loc.sym b) (Sh.sym b) fun d => Sh.ite (Sh.fail _) (Sh.also (Loc.take _) (Sh.take _) fun g => Sh.ite (Sh.fail _) (Sh.give _)))))
/-- on the way to a place beyond, the bytes that there are end -/
theorem Steps.short {U T U' k : Nat} {x y : At × Nat} (h : Steps U T x y) (hx : x.2 ≤ 8 * k) (hy : 8 * k < y.2) (hs : U % 2 ^ (8 * k) = U' % 2 ^ (8 * k)) : ∃ s p, Steps U' (8 * k) x (s, p) ∧ ¬ Fin s ∧ infnum.one s U' (8 * k) p = .error 3 ∧ s.out.length ≤ y.1.out.length := by
  induction h with
  | refl x => omega
  | @more s s' p q y h r ih =>
    rcases Nat.lt_or_ge (8 * k) q with hq | hq
    · refine ⟨s, p, .refl _, fun hf => ?_, Sh.one s _ _ _ _ _ h U' k hx hq hs, out_le (Steps.more h r)⟩
      have := hf.stuck (Steps.one h)
      injection this with e1 e2
      have hx' : p ≤ 8 * k := hx
      omega
    · obtain ⟨s2, p2, h1, h2, h3, h4⟩ := ih hq hy
      exact ⟨s2, p2, .more ((Loc.one s _ _ _ _ _ h).2 U' (8 * k) hq (same_low hs hq)) h1, h2, h3, h4⟩
/-- all of the bytes that are needed: one less, and unpacking tells that they end -/
theorem Unp.short {b x : List UInt8} {n k most : Nat} (h : Unp b x n) (hk : k < n) (hm : x.length ≤ most) : Tells (b.take k) most (.bad 3) := by
  have hle := h.le
  obtain ⟨s, p, hs, hf, rfl, rfl, hp⟩ := h
  have hlen : (b.take k).length = k := by rw [List.length_take]; omega
  have hnum : num b % 2 ^ (8 * k) = num (b.take k) % 2 ^ (8 * k) := by
    rw [num_cut_take b k (by omega), ← pow256, Nat.mod_mod]
  obtain ⟨s2, p2, h1, h2, h3, h4⟩ := hs.short (k := k) (Nat.zero_le _) (by show 8 * k < p; omega) hnum
  refine ⟨s2, p2, by rw [hlen]; exact h1, h2, by rw [hlen]; exact h3, ?_⟩
  exact Nat.le_trans h4 hm
end Go.Proofs.YtppgceighgpgoaaGreatDoor.infnum
