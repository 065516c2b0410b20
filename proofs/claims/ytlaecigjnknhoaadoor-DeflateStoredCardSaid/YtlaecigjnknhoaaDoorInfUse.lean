/-
  The contracts of useLengths, takeCodes. My own text.
-/
import Derived.Test.YtlaecigjnknhoaaDoorInfReps
namespace Go.Proofs.YtlaecigjnknhoaaDoor.infp
open Go.RowKit Go.Proofs.YtlaecigjnknhoaaDoor.base Go.Proofs.YtlaecigjnknhoaaDoor.num Go.Proofs.YtlaecigjnknhoaaDoor.bitnum Go.Proofs.YtlaecigjnknhoaaDoor.bitp Go.Proofs.YtlaecigjnknhoaaDoor.huffnum Go.Proofs.YtlaecigjnknhoaaDoor.huffp Go.Proofs.YtlaecigjnknhoaaDoor.infnum
set_option linter.unusedVariables false

/-- two codes that come next, or an error -/
def UseIs (w : World) (g : Nat) (v : V) (q : Nat) (bs : List UInt8) (p : Nat) (rl : List Nat) (r : Except Nat ((List Nat × List Nat) × Nat)) (e : Ending) (w' : World) : Prop :=
  match r with
  | .ok (x, p') => e = .returned (.int .i64 0) ∧ ∃ s d sbl dbl, CodeAt w' s x.1 sbl ∧ CodeAt w' d x.2 dbl ∧ Fit x.1 ∧ Fit x.2 ∧ SrcIs w g { v with next := 2, sy := ptr s, di := ptr d } q bs p' rl w'
  | .error k => e = .returned (.int .i64 (k : Nat)) ∧ ∃ p', p ≤ p' ∧ SrcIs w g v q bs p' rl w'
section
variable {w : World} {g q p : Nat} {v : V} {bs : List UInt8} {rl : List Nat}
theorem UseIs.ok {x : List Nat × List Nat} {p' : Nat} {e : Ending} {w' : World} (h : UseIs w g v q bs p rl (.ok (x, p')) e w') : e = .returned (.int .i64 0) ∧ ∃ s d sbl dbl, CodeAt w' s x.1 sbl ∧ CodeAt w' d x.2 dbl ∧ Fit x.1 ∧ Fit x.2 ∧ SrcIs w g { v with next := 2, sy := ptr s, di := ptr d } q bs p' rl w' := h
theorem UseIs.no {k : Nat} {e : Ending} {w' : World} (h : UseIs w g v q bs p rl (.error k) e w') : e = .returned (.int .i64 (k : Nat)) ∧ ∃ p', p ≤ p' ∧ SrcIs w g v q bs p' rl w' := h
set_option maxHeartbeats 4000000 in
set_option maxRecDepth 100000 in
theorem useLengths_any (h : Src w g v q bs p rl) (A1 A2 : Option Addr) (n1 n2 c1 c2 : Nat) (x y : List Nat) (B : Nat) (hr1 : Rd w B A1 n1 (nv x)) (hr2 : Rd w B A2 n2 (nv y)) (hB : B ≤ w.heap.size) (h257 : 257 ≤ n1) (hn1 : n1 ≤ 320) (hn2 : n2 ≤ 320) (hx15 : ∀ z ∈ x, z ≤ 15) (hy15 : ∀ z ∈ y, z ≤ 15)
    {r : Except Nat ((List Nat × List Nat) × Nat)} (hr : (if x.getD 256 0 = 0 ∨ mayBe x false = false ∨ mayBe y true = false then .error 12 else .ok ((x, y), p)) = r) :
    Calls Tryd.prog 85 #[ptr g, .slice A1 n1 c1, .slice A2 n2 c2] w (UseIs w g v q bs p rl r) := by
  obtain ⟨b, off, z, rfl, hb, hz, hcz⟩ := hr1.at_ (enc := fun x : Nat => iv (x : Int)) (k := 256) (by omega)
  have hzd : x.getD 256 0 = z := by rw [List.getD_eq_getElem?_getD, hz]; rfl
  have hco1 := codeOf_any (some ⟨b, off, none⟩) n1 c1 x false w B hr1 hB hn1 hx15 1 rfl
  have hi257 : (257 : Int) ≤ (n1 : Int) := by omega
  rw [hzd] at hr
  have HR2 := Lib.hid hr2
  have HZ := Lib.hid hz
  clear hr1 hr2 hz hzd
  by_cases hz0 : z = 0
  · rw [if_pos (Or.inl hz0)] at hr
    subst hr; subst hz0
    clear hco1
    go_enter Tryd.func85, Tryd.ntmps85
    go_wp2
    go_ret
    exact ⟨rfl, p, Nat.le_refl _, h.same⟩
  · have hzi : ¬ (z : Int) = 0 := by omega
    by_cases hm1 : mayBe x false = false
    · rw [if_pos (Or.inr (Or.inl hm1))] at hr
      subst hr
      have hc2 := CodeOfIs.no hco1 hm1
      clear hco1 hm1 hz0
      go_enter Tryd.func85, Tryd.ntmps85
      go_wp2_with (go_at_call 103; refine hc2.mono ?_; rintro e w1 ⟨rfl, hf⟩)
      go_ret
      exact ⟨rfl, p, Nat.le_refl _, h.freshIs hf⟩
    · have hc2 := CodeOfIs.yes hco1 hm1
      have hf1 := mayBe_fit hx15 hm1
      have HF1 := Lib.hid hf1
      clear hco1 hf1
      by_cases hm2 : mayBe y true = false
      · rw [if_pos (Or.inr (Or.inr hm2))] at hr
        subst hr
        have hlet : ∀ w1, Fresh w w1 → Calls Tryd.prog 103 #[.slice A2 n2 c2, .int .i64 0] w1 fun e w' => e = .returned (.tuple #[.pointer none, .int .i64 12]) ∧ Fresh w1 w' := fun w1 hf =>
          CodeOfIs.no (codeOf_any A2 n2 c2 y true w1 B (HR2.out.below hf hB) (Nat.le_trans hB hf.size) hn2 hy15 0 rfl) hm2
        have HLET := Lib.hid hlet
        clear hlet hm2 hm1 hz0
        go_enter Tryd.func85, Tryd.ntmps85
        go_wp2_with (first
          | (go_at_call 103; (with_reducible refine hc3.mono ?_); rintro e w2 ⟨rfl, hf2⟩)
          | (go_at_call 103; refine hc2.mono ?_; rintro e w1 ⟨s, sbl, rfl, hCs, hSs⟩; have hc3 := HLET.out w1 hSs.1))
        go_ret
        exact ⟨rfl, p, Nat.le_refl _, h.freshIs (hSs.1.trans hf2)⟩
      · rw [if_neg (fun h' => h'.elim hz0 fun h' => h'.elim hm1 hm2)] at hr
        subst hr
        have hf2 := mayBe_fit hy15 hm2
        have HF2 := Lib.hid hf2
        have hlet : ∀ w1, Fresh w w1 → Calls Tryd.prog 103 #[.slice A2 n2 c2, .int .i64 0] w1 (MadeIs w1 y) := fun w1 hf =>
          CodeOfIs.yes (codeOf_any A2 n2 c2 y true w1 B (HR2.out.below hf hB) (Nat.le_trans hB hf.size) hn2 hy15 0 rfl) hm2
        have HLET := Lib.hid hlet
        clear hlet hm2 hm1 hz0 hf2
        go_enter Tryd.func85, Tryd.ntmps85
        go_wp2_with (first
          | (go_at_call 103; (with_reducible refine hc3.mono ?_); rintro e w2 ⟨d, dbl, rfl, hCd, hSd⟩; have hi2 := (h.inf.fresh hSs.1).fresh hSd.1; have h10 : w2.cell? ⟨g, 10, none⟩ = some v.sy := hi2.cell rfl; have h11 : w2.cell? ⟨g, 11, none⟩ = some v.di := hi2.cell rfl; have h5 : w2.cell? ⟨g, 5, none⟩ = some (iv v.next) := hi2.cell rfl; have z10 := hi2.free 10; have z11 := hi2.free 11; have z5 := hi2.free 5)
          | (go_at_call 103; refine hc2.mono ?_; rintro e w1 ⟨s, sbl, rfl, hCs, hSs⟩; have hc3 := HLET.out w1 hSs.1))
        go_ret
        exact ⟨rfl, s, d, sbl, dbl, code_use (hCs.fresh hSd.1) hi2 _ _, code_use hCd hi2 _ _, HF1.out, HF2.out, SrcIs.then (h.freshIs (hSs.1.trans hSd.1)) fun rl' h' => h'.use (ptr s) (ptr d)⟩
theorem takeLengths_ok {N : Nat} {l : List Nat} {p' : Nat} {e : Ending} {w' : World} (h : ListIs w g v q bs p rl (.ok (l, p')) e w') (hl : l.length = N) : ∃ A c, e = .returned (.tuple #[.slice A N c, .int .i64 0]) ∧ Own w' w.heap.size tInt A N c (nv l) ∧ (∀ x ∈ l, x ≤ 15) ∧ SrcIs w g v q bs p' rl w' := by
  subst hl
  exact h
theorem Rd.pre {w : World} {B n m : Nat} {A : Option Addr} {xs : List Value} (h : Rd w B A n xs) (hm : m ≤ n) : Rd w B A m (xs.take m) := by
  refine ⟨by rw [List.length_take, h.1]; omega, fun hn => ?_⟩
  obtain ⟨b, off, e, hb, hc⟩ := h.2 (by omega)
  refine ⟨b, off, e, hb, fun j u hu => ?_⟩
  rw [List.getElem?_take] at hu
  split at hu
  · exact hc j u hu
  · cases hu
theorem Rd.suf {w : World} {B n lo : Nat} {A : Option Addr} {xs : List Value} (h : Rd w B A n xs) (hm : lo ≤ n) : Rd w B (A.map (·.add lo)) (n - lo) (xs.drop lo) := by
  refine ⟨by rw [List.length_drop, h.1], fun hn => ?_⟩
  obtain ⟨b, off, rfl, hb, hc⟩ := h.2 (by omega)
  refine ⟨b, off + lo, ?_, hb, fun j u hu => ?_⟩
  · simp only [Option.map_some, Option.some.injEq]
    unfold Addr.add
    split
    · subst lo; rfl
    · rfl
  · rw [List.getElem?_drop] at hu
    have := hc _ u hu
    rwa [← Nat.add_assoc] at this
theorem rep_len {c : List Nat} {n : Nat} : ∀ {f : Nat} {l m : List Nat} {U T p p' : Nat}, rep c n f l U T p = .ok (m, p') → m.length = n := by
  intro f
  induction f with
  | zero => intro l m U T p p' h; cases h
  | succ f ih =>
    intro l m U T p p' h
    rw [rep_succ] at h
    split at h
    · cases h
    · split at h
      · rename_i h2
        injection h with h
        injection h with h _
        rw [← h]; exact h2.symm
      · obtain ⟨k, p1, _, h⟩ := also_of h
        split at h
        · cases hg : l.getLast? with
          | none => rw [hg] at h; cases h
          | some v =>
            rw [hg] at h
            obtain ⟨t, p2, _, h⟩ := also_of h; exact ih h
        · split at h
          · obtain ⟨t, p2, _, h⟩ := also_of h; exact ih h
          · split at h
            · obtain ⟨t, p2, _, h⟩ := also_of h; exact ih h
            · exact ih h
theorem lens_of {k U T p p' : Nat} {ls : List Nat} (h : lensP k U T p = .ok (ls, p')) : ls.length = 19 := by
  unfold lensP at h
  obtain ⟨l, m, _, h⟩ := also_of h
  split at h
  · cases h
  · injection h with h
    injection h with h _
    rw [← h, laid_len]
set_option maxHeartbeats 8000000 in
set_option maxRecDepth 100000 in
theorem takeCodes_any (h : Src w g v q bs p rl) (hO : Ord w) (hg : 1 < g) (hrl : ∀ b ∈ rl, 1 < b) {r : Except Nat ((List Nat × List Nat) × Nat)} (hr : codes (num bs) (8 * bs.length) p = r) :
    Calls Tryd.prog 55 #[ptr g] w (UseIs w g v q bs p rl r) := by
  have hc := h.bits2
  have hw0 : 1 < w.heap.size := Nat.lt_trans hg h.inf.inside
  rw [codes_is] at hr
  cases ht : take 14 (num bs) (8 * bs.length) p with
  | error e1 =>
    rw [also_no ht] at hr
    have he := take_err ht
    subst he; subst hr
    have hb := bits_take_no q bs p rl 14 3 w h.rdr h.le h.sm (by omega) ht
    go_enter Tryd.func55, Tryd.ntmps55
    go_wp2_with (go_at_call 52; refine hb.mono ?_; rintro e w1 ⟨rfl, hR⟩)
    go_ret
    exact ⟨rfl, p, Nat.le_refl _, h.moved hR h.le⟩
  | ok x =>
    obtain ⟨x, p1⟩ := x
    rw [also_ok ht] at hr
    obtain ⟨hx, hp1, hle1⟩ := take_lt ht
    have hb := bits_take_ok q bs p rl 14 x p1 w h.rdr h.sm (by omega) ht
    obtain ⟨a, ha⟩ : ∃ a, x % 32 = a := ⟨_, rfl⟩
    obtain ⟨x5, hx5⟩ : ∃ x5, x / 32 = x5 := ⟨_, rfl⟩
    obtain ⟨d, hd⟩ : ∃ d, x5 % 32 = d := ⟨_, rfl⟩
    obtain ⟨k, hk⟩ : ∃ k, x / 1024 = k := ⟨_, rfl⟩
    rw [hx5, ha, hd, hk] at hr
    have e1 : bits .and .i64 (x : Int) 31 = (a : Int) := by
      have := and_mask (x : Int) 5 (by omega)
      rw [u64_nat x (by omega)] at this
      rw [← ha]; exact this
    have e2 : bits .and .i64 (x5 : Int) 31 = (d : Int) := by
      have := and_mask (x5 : Int) 5 (by omega)
      rw [u64_nat x5 (by omega)] at this
      rw [← hd]; exact this
    have e3 : (x : Int) / 32 = (x5 : Int) := by omega
    have e4 : (x : Int) / 1024 = (k : Int) := by omega
    have ha31 : a ≤ 31 := by omega
    have hd31 : d ≤ 31 := by omega
    have hk15 : k ≤ 15 := by omega
    have hpp : p ≤ p1 := by omega
    clear ha hx5 hd hk hx hp1 ht
    by_cases hmany : 286 < a + 257 ∨ 30 < d + 1
    · rw [if_pos hmany] at hr
      change Except.error 12 = r at hr
      subst hr
      have hway : (a : Int) + 257 > 286 ∨ (¬ (a : Int) + 257 > 286 ∧ (d : Int) + 1 > 30) := by omega
      clear hmany
      rcases hway with h1 | ⟨h1, h2⟩
      all_goals
        go_enter Tryd.func55, Tryd.ntmps55
        go_wp2_with (go_at_call 52; refine hb.mono ?_; rintro e w1 ⟨rfl, hR⟩)
        go_ret
        exact ⟨rfl, p1, hpp, h.moved hR hle1⟩
    · rw [if_neg hmany] at hr
      have h1 : ¬ (a : Int) + 257 > 286 := by omega
      have h2 : ¬ (d : Int) + 1 > 30 := by omega
      have ha29 : a ≤ 29 := by omega
      have hd29 : d ≤ 29 := by omega
      clear hmany
      cases hl : lensP (k + 4) (num bs) (8 * bs.length) p1 with
      | error e5 =>
        rw [also_no hl] at hr
        subst hr
        have hne : ¬ (e5 : Int) = 0 := by rcases (infnum.Good.lens (k + 4)).ev _ _ _ _ hl with h | h <;> omega
        have hlc : ∀ w1 rl1, Src w1 g v q bs p1 rl1 → Turn (g :: rl) (g :: rl1) w w1 → Calls Tryd.prog 83 #[ptr g, .int .i64 ((k : Int) + 4)] w1 (CodeIs w1 g v q bs p1 rl1 (.error e5)) := fun w1 rl1 hS1 hT1 =>
          takeLengthsCode_any hS1 (hO.keep (hT1.block 1 hw0 (fun hx => by
            rcases List.mem_cons.1 hx with e | hx
            · omega
            · have := hrl 1 hx; omega))) hg (fun b hb' => by
              rcases hT1.sub b (List.mem_cons_of_mem _ hb') with h' | h'
              · rcases List.mem_cons.1 h' with e | h'
                · omega
                · exact hrl b h'
              · omega) (k + 4) (by omega) hl
        have HLC := Lib.hid hlc
        clear hlc
        go_enter Tryd.func55, Tryd.ntmps55
        go_wp2_with (first
          | (go_at_call 52; refine hb.mono ?_; rintro e w1 ⟨rfl, hR⟩; obtain ⟨rl1, hS1, hT1⟩ := h.moved hR hle1)
          | (go_at_call 83; refine (HLC.out w1 rl1 hS1 hT1).mono ?_; rintro e w2 ⟨rfl, p2, hp12, rl2, hS2, hT2⟩))
        go_ret
        exact ⟨rfl, p2, by omega, rl2, hS2, hT1.trans hT2⟩
      | ok y =>
        obtain ⟨ls, p2⟩ := y
        rw [also_ok hl] at hr
        have hls := lens_of hl
        obtain ⟨S, hS⟩ : ∃ S, a + 257 = S := ⟨_, rfl⟩
        obtain ⟨D, hD⟩ : ∃ D, d + 1 = D := ⟨_, rfl⟩
        obtain ⟨N, hN⟩ : ∃ N, S + D = N := ⟨_, rfl⟩
        rw [hS, hD, hN] at hr
        have i1 : (a : Int) + 257 = (S : Int) := by omega
        have i2 : (d : Int) + 1 = (D : Int) := by omega
        have i3 : (S : Int) + (D : Int) = (N : Int) := by omega
        have j1 : ¬ (S : Int) > 286 := by omega
        have j2 : ¬ (D : Int) > 30 := by omega
        have hS257 : 257 ≤ S := by omega
        have hS286 : S ≤ 286 := by omega
        have hD30 : D ≤ 30 := by omega
        have hN320 : N ≤ 320 := by omega
        have hlp := ((infnum.Good.lens (k + 4)).loc _ _ _ _ _ hl).1
        have hlc : ∀ w1 rl1, Src w1 g v q bs p1 rl1 → Turn (g :: rl) (g :: rl1) w w1 → Calls Tryd.prog 83 #[ptr g, .int .i64 ((k : Int) + 4)] w1 (CodeIs w1 g v q bs p1 rl1 (.ok (ls, p2))) := fun w1 rl1 hS1 hT1 =>
          takeLengthsCode_any hS1 (hO.keep (hT1.block 1 hw0 (fun hx => by
            rcases List.mem_cons.1 hx with e | hx
            · omega
            · have := hrl 1 hx; omega))) hg (fun b hb' => by
              rcases hT1.sub b (List.mem_cons_of_mem _ hb') with h' | h'
              · rcases List.mem_cons.1 h' with e | h'
                · omega
                · exact hrl b h'
              · omega) (k + 4) (by omega) hl
        have HLC := Lib.hid hlc
        have HSN := Lib.hid hN
        clear hlc h1 h2 hS hD hN hl
        cases hrp : rep ls N (N + 1) [] (num bs) (8 * bs.length) p2 with
        | error e6 =>
          rw [also_no hrp] at hr
          subst hr
          have hne : ¬ (e6 : Int) = 0 := by rcases (infnum.Good.rep ls N (N + 1) []).ev _ _ _ _ hrp with h | h <;> omega
          go_enter Tryd.func55, Tryd.ntmps55
          go_wp2_with (first
          | (go_at_call 52; refine hb.mono ?_; rintro e w1 ⟨rfl, hR⟩; obtain ⟨rl1, hS1, hT1⟩ := h.moved hR hle1)
          | (go_at_call 83; refine (HLC.out w1 rl1 hS1 hT1).mono ?_; rintro e w2 ⟨c, cbl, rfl, hC2, hF2, rl2, hS2, hT2⟩)
          | (go_at_call 84; refine (takeLengths_any hS2 hC2 hF2 hls N hN320 hrp).mono ?_; rintro e w3 ⟨rfl, p3, hp23, rl3, hS3, hT3⟩))
          go_ret
          exact ⟨rfl, p3, by omega, rl3, hS3, (hT1.trans hT2).trans hT3⟩
        | ok z =>
          obtain ⟨l, p3⟩ := z
          rw [also_ok hrp] at hr
          have hll := rep_len hrp
          have hrpl := ((infnum.Good.rep ls N (N + 1) []).loc _ _ _ _ _ hrp).1
          have hboth : bothP S D l (num bs) (8 * bs.length) p3 = if (l.take S).getD 256 0 = 0 ∨ mayBe (l.take S) false = false ∨ mayBe (l.drop S) true = false then .error 12 else .ok ((l.take S, l.drop S), p3) := by
            have e : (l.take S).getD 256 0 = l.getD 256 0 := by
              rw [List.getD_eq_getElem?_getD, List.getD_eq_getElem?_getD, List.getElem?_take, if_pos (by omega)]
            rw [e]
            unfold bothP
            split <;> rfl
          rw [hboth] at hr
          have HRR := Lib.hid hr
          have HLL := Lib.hid hll
          clear hr hboth hll
          go_enter Tryd.func55, Tryd.ntmps55
          go_wp2_with (first
          | (go_at_call 52; refine hb.mono ?_; rintro e w1 ⟨rfl, hR⟩; obtain ⟨rl1, hS1, hT1⟩ := h.moved hR hle1)
          | (go_at_call 83; refine (HLC.out w1 rl1 hS1 hT1).mono ?_; rintro e w2 ⟨c, cbl, rfl, hC2, hF2, rl2, hS2, hT2⟩)
          | (go_at_call 84; refine (takeLengths_any hS2 hC2 hF2 hls N hN320 hrp).mono ?_; rintro e w3 hL; obtain ⟨A, c3, rfl, hO3, h15, rl3, hS3, hT3⟩ := takeLengths_ok hL HLL.out; have hcap := hO3.cap))
          have hSN : S ≤ N := by have := HSN.out; omega
          have hSNi : (S : Int) ≤ (N : Int) := by omega
          have hcN := hcap.1
          have hcM := hcap.2
          have hcS : ¬ c3 = S := by have := HSN.out; omega
          have hr1 : Rd w3 w3.heap.size A S (nv (l.take S)) := by
            have := Rd.pre hO3.rd hSN
            rwa [nv, ← List.map_take] at this
          have hr2 : Rd w3 w3.heap.size (A.map (·.add S)) (N - S) (nv (l.drop S)) := by
            have := Rd.suf hO3.rd hSN
            rwa [nv, ← List.map_drop] at this
          have hx15 : ∀ z ∈ l.take S, z ≤ 15 := fun z hz => h15 z (List.mem_of_mem_take hz)
          have hy15 : ∀ z ∈ l.drop S, z ≤ 15 := fun z hz => h15 z (List.mem_of_mem_drop hz)
          have hul : ∀ w4, Fresh w3 w4 → Calls Tryd.prog 85 #[ptr g, .slice A S c3, .slice (A.map (·.add S)) (N - S) (c3 - S)] w4 (UseIs w4 g v q bs p3 rl3 r) := fun w4 hf =>
            useLengths_any (hS3.fresh hf) A (A.map (·.add S)) S (N - S) c3 (c3 - S) (l.take S) (l.drop S) w3.heap.size (hr1.below hf (Nat.le_refl _)) (hr2.below hf (Nat.le_refl _)) hf.size hS257 (by omega) (by omega) hx15 hy15 HRR.out
          have HUL := Lib.hid hul
          have HO3 := Lib.hid hO3
          clear hul hr1 hr2 hx15 hy15 h15 hO3 hcap
          have HT := Lib.hid (((hT1.trans hT2).trans hT3).trans (Turn.fresh (Fresh.drew w3)))
          rcases r with e7 | ⟨z, p4⟩
          · go_region_with (go_at_call 85; refine (HUL.out _ (Fresh.drew _)).mono ?_; rintro e w5 hU; obtain ⟨rfl, p5, hp5, rl5, hS5, hT5⟩ := hU.no)
            all_goals
              go_wp2
              go_ret
              exact ⟨rfl, p5, by omega, rl5, hS5, HT.out.trans hT5⟩
          · go_region_with (go_at_call 85; refine (HUL.out _ (Fresh.drew _)).mono ?_; rintro e w5 hU; obtain ⟨rfl, s, d, sbl, dbl, hCs, hCd, hFs, hFd, rl5, hS5, hT5⟩ := hU.ok)
            all_goals
              go_wp2
              go_ret
              exact ⟨rfl, s, d, sbl, dbl, hCs, hCd, hFs, hFd, rl5, hS5, HT.out.trans hT5⟩
end
end Go.Proofs.YtlaecigjnknhoaaDoor.infp
