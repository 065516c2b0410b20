import Derived.Test.YtfpicifjjedlaaaGreatDoorMgTrn
import Derived.Test.YtfpicifjjedlaaaGreatDoorMgHRf
import Derived.Test.YtfpicifjjedlaaaGreatDoorMgRdr
import Derived.Test.YtfpicifjjedlaaaGreatDoorMgNum
import Derived.BigQuiet
import Derived.Deep.RegionLaw
import Derived.Deep.DeepCutAuto
import Derived.Deep.RegionHeld3
/- Several of my own texts, one behind the other. -/
/-
  Layer 6's reference: its state; take. My own text.
-/
namespace Go.Proofs.YtfpicifjjedlaaaGreatDoor.refp
open Go.RowKit Go.Proofs.YtfpicifjjedlaaaGreatDoor.base Go.Proofs.YtfpicifjjedlaaaGreatDoor.num Go.Proofs.YtfpicifjjedlaaaGreatDoor.bitnum Go.Proofs.YtfpicifjjedlaaaGreatDoor.bitp Go.Proofs.YtfpicifjjedlaaaGreatDoor.huffnum Go.Proofs.YtfpicifjjedlaaaGreatDoor.infnum
set_option linter.unusedVariables false
abbrev tState : TypeId := 47
abbrev tB : TypeId := 5
abbrev tI : TypeId := 3
abbrev pg (g : Nat) : Value := .pointer (some ⟨g, 0, none⟩)
abbrev vn (l : List Nat) : List Value := l.map fun x : Nat => iv (x : Int)
/-- of what was there only states and rows of bytes have turned -/
def KeepX (W W' : World) : Prop := W.heap.size ≤ W'.heap.size ∧ ∀ t, t ≠ tState → t ≠ tB → KeepT t W W'
theorem KeepX.refl (W : World) : KeepX W W := ⟨Nat.le_refl _, fun t _ _ => KeepT.refl t W⟩
theorem KeepX.trans {a b c : World} (h : KeepX a b) (k : KeepX b c) : KeepX a c := ⟨Nat.le_trans h.1 k.1, fun t h1 h2 => (h.2 t h1 h2).trans (k.2 t h1 h2)⟩
theorem KeepX.fresh {a b : World} (h : Fresh a b) : KeepX a b := ⟨h.size, fun t _ _ => KeepT.fresh h⟩
theorem KeepX.but {a b : World} {g : Nat} {cs : List Value} (h : But g a b) (hb : Bk a g tState cs) : KeepX a b := ⟨h.size, fun t h1 _ => KeepT.but h hb (fun e => h1 e.symm)⟩
theorem KeepX.bk {a b : World} {g : Nat} {t : TypeId} {cs : List Value} (h : KeepX a b) (h1 : t ≠ tState) (h2 : t ≠ tB) (hb : Bk a g t cs) : Bk b g t cs := h.2 t h1 h2 _ _ _ hb
/-- T bits of U, in a row that lies below block g -/
def BitsAt (W : World) (g : Nat) (A : Option Addr) (T U : Nat) : Prop := RdT W tI A (vn (lb T U)) ∧ Rd W g A T (vn (lb T U))
theorem BitsAt.block {W W' : World} {g T U : Nat} {A : Option Addr} (h : BitsAt W g A T U) (hk : ∀ b, b < g → W'.heap[b]? = W.heap[b]?) : BitsAt W' g A T U := by
  refine ⟨fun hne => ?_, h.2.keep hk⟩
  obtain ⟨b, off, cs, fr, h1, h2, h3⟩ := h.1 hne
  have h0 : 0 < T := by
    rcases Nat.eq_zero_or_pos T with h | h
    · subst h; exact absurd rfl hne
    · exact h
  obtain ⟨b', off', h4, h5, _⟩ := h.2.2 h0
  rw [h1] at h4
  injection h4 with h4
  injection h4 with e1 _ _
  subst e1
  exact ⟨b, off, cs, fr, h1, (hk b h5).trans h2, h3⟩
theorem BitsAt.fresh {W W' : World} {g T U : Nat} {A : Option Addr} (h : BitsAt W g A T U) (hf : Fresh W W') (hg : g ≤ W.heap.size) : BitsAt W' g A T U := h.block fun b hb => hf.block b (by omega)
theorem BitsAt.but {W W' : World} {g T U : Nat} {A : Option Addr} (h : BitsAt W g A T U) (hf : But g W W') (hg : g ≤ W.heap.size) : BitsAt W' g A T U := h.block fun b hb => hf.block b (by omega) fun e => by injection e; omega
/-- the state at block g: T bits of U, p of them taken, out came out -/
structure StAt (w0 : World) (g U T p : Nat) (out : List UInt8) (W : World) : Prop where
  ex : ∃ (A : Option Addr) (cA m : Nat) (O : Option Addr) (cO : Nat), m = out.length ∧ Bk W g tState [.slice A T cA, iv (p : Nat), .slice O m cO, iv 0] ∧ BitsAt W g A T U ∧ T ≤ cA ∧ cA ≤ maxLen ∧ Own W w0.heap.size tB O m cO (out.map bv)
  lo : w0.heap.size ≤ g
  fr : Fresh w0 W
section
variable {w0 W V : World} {g U T p q : Nat} {out : List UInt8}
theorem StAt.fresh (h : StAt w0 g U T p out W) (hf : Fresh W V) : StAt w0 g U T p out V := by
  obtain ⟨A, cA, m, O, cO, h1, h2, h3, h4, h5, h6⟩ := h.ex
  exact ⟨⟨A, cA, m, O, cO, h1, h2.fresh hf, h3.fresh hf (Nat.le_of_lt h2.inside), h4, h5, h6.fresh hf⟩, h.lo, h.fr.trans hf⟩
/-- on to q -/
theorem StAt.at_ (h : StAt w0 g U T p out W) (q : Nat) : StAt w0 g U T q out (W.setCell ⟨g, 1, none⟩ (iv (q : Nat))) ∧ KeepX W (W.setCell ⟨g, 1, none⟩ (iv (q : Nat))) := by
  obtain ⟨A, cA, m, O, cO, h1, h2, h3, h4, h5, h6⟩ := h.ex
  have hb := But.put (g := g) (i := 1) W (iv (q : Nat))
  exact ⟨⟨⟨A, cA, m, O, cO, h1, h2.put 1 _, h3.but hb (Nat.le_of_lt h2.inside), h4, h5, h6.but hb (h6.ne_block h2 (by decide))⟩, h.lo, Fresh.but h.fr h.lo hb⟩, KeepX.but hb h2⟩
theorem take_of {n v q : Nat} (h : take n U T p = .ok (v, q)) : p + n ≤ T ∧ v = U / 2 ^ p % 2 ^ n ∧ q = p + n := by
  unfold infnum.take at h
  split at h
  · rename_i h1
    injection h with h
    injection h with h2 h3
    exact ⟨h1, h2.symm, h3.symm⟩
  · cases h
end
/-- the reference's Codes of these lengths -/
def CodeR (W : World) (ls : List Nat) (v : Value) : Prop := ∃ (L : Nat) (R : Nat → huffp.Sl) (F : Nat), v = .agg #[.slice (some ⟨L, 0, none⟩) ls.length ls.length, .int .i64 (F : Nat)] ∧ huffp.Bits W L ls R 16 0
theorem CodeR.keep {W V : World} {ls : List Nat} {v : Value} (h : CodeR W ls v) (k : KeepX W V) : CodeR V ls v := by
  obtain ⟨L, R, F, rfl, hb⟩ := h
  refine ⟨L, R, F, rfl, ⟨k.bk (by decide) (by decide) hb.rows, fun i m a b c => ?_, hb.rest⟩⟩
  obtain ⟨hl, b0, ha, hbk⟩ := hb.done i m a b c
  exact ⟨hl, b0, ha, k.bk (by decide) (by decide) hbk⟩
theorem CodeR.fresh {W V : World} {ls : List Nat} {v : Value} (h : CodeR W ls v) (k : Fresh W V) : CodeR V ls v := h.keep (KeepX.fresh k)
theorem sym_of {ls : List Nat} {U T p s q : Nat} (hf : tx ls 15 ≤ 32768) (h15 : ∀ x ∈ ls, x ≤ 15) (h : sym ls U T p = .ok (s, q)) :
    ∃ many t k, many = min 15 (T - p) ∧ Nxt ls many (U / 2 ^ p) t ∧ 1 ≤ k ∧ k ≤ 15 ∧ tx ls (k - 1) ≤ t ∧ t < tx ls k ∧ k ≤ many ∧ (syms ls k)[(t - tx ls (k - 1)) / 2 ^ (15 - k)]? = some s ∧ q = p + k := by
  unfold sym at h
  simp only at h
  obtain ⟨t, ht⟩ : ∃ t, rev 15 (U / 2 ^ p % 2 ^ min 15 (T - p)) = t := ⟨_, rfl⟩
  rw [ht] at h
  split at h
  · cases h
  · rename_i hd
    split at h
    · cases h
    · rename_i hm
      obtain ⟨h1, hk15, hlo, hhi⟩ := lev_of (Nat.not_le.1 hd)
      injection h with h
      injection h with e1 e2
      have hN : Nxt ls (min 15 (T - p)) (U / 2 ^ p) t := ⟨Nat.min_le_left _ _, ht.symm, hf, h15⟩
      obtain ⟨s0, hg, _⟩ := hN.comes h1 hk15 hlo hhi (Nat.not_lt.1 hm)
      refine ⟨_, t, lev ls t, rfl, hN, h1, hk15, hlo, hhi, Nat.not_lt.1 hm, ?_, e2.symm⟩
      rw [hg] at e1 ⊢
      simp at e1
      rw [e1]
theorem vn_cut {T U p n : Nat} (h : p + n ≤ T) : ((vn (lb T U)).drop p).take n = vn (lb n (U / 2 ^ p)) := by
  rw [vn, ← List.map_drop, ← List.map_take, lb_cut h]
theorem lb_size {W : World} {T U : Nat} {A : Option Addr} (h : RdT W tI A (vn (lb T U))) : Rd W W.heap.size A T (vn (lb T U)) := by
  have h1 := h.rd
  rwa [List.length_map, lb_len] at h1
set_option maxRecDepth 100000 in
theorem take_any (w0 : World) (g U T p n v q : Nat) (out : List UInt8) (w : World) (hs : StAt w0 g U T p out w) (hn : n ≤ 16) (hT : T ≤ 4294967296) (h : take n U T p = .ok (v, q)) :
    Calls Tryz.prog 19 #[pg g, .int .i64 (n : Nat)] w fun e w' => e = .returned (.int .i64 (v : Nat)) ∧ StAt w0 g U T q out w' ∧ KeepX w w' := by
  obtain ⟨h1, rfl, rfl⟩ := take_of h
  have hfin := fun V (hV : Fresh w V) => (hs.fresh hV).at_ (p + n)
  obtain ⟨A, cA, m, O, cO, hm, hb, hrd, hc1, hc2, hown⟩ := hs.ex
  have hrd0 := lb_size hrd.1
  have t1 : decide ((p : Int) + (n : Int) > (T : Int)) = false := by rw [decide_eq_false_iff_not]; omega
  have t2 : decide ((T : Int) < (p : Int) + (n : Int)) = false := by rw [decide_eq_false_iff_not]; omega
  have ea : IntKind.i64.wrap ((p : Int) + (n : Int)) = (p : Int) + (n : Int) := by rw [IntWalk.i64_in _ (by unfold maxLen at hc2; omega)]
  have f1 : ∀ V, Fresh w V → V.frozen? ⟨g, 1, none⟩ = false := fun V hV => (hb.fresh hV).free 1
  have kk : ∀ V, Fresh w V → V.cell? ⟨g, 0, none⟩ = some (.slice A T cA) ∧ V.cell? ⟨g, 1, none⟩ = some (iv (p : Nat)) := fun V hV => ⟨(hb.fresh hV).cell (i := 0) rfl, (hb.fresh hV).cell (i := 1) rfl⟩
  have p1 : (0 : Int) ≤ (p : Int) := by omega
  have p2 : (p : Int) ≤ (p : Int) + (n : Int) := by omega
  have p3 : (p : Int) + (n : Int) ≤ (cA : Int) := by omega
  have p4 : ((p : Int) + (n : Int)).toNat = p + n := by omega
  have p5 : p + n - p = n := by omega
  have k0 := hb.cell (i := 0) rfl
  have k1 := hb.cell (i := 1) rfl
  have f0 := hb.free 1
  have k3 := hb.cell (i := 3) rfl
  have HFIN := Lib.hid hfin
  have hcap : T ≤ cA := hc1
  unfold maxLen at hc2
  obtain ⟨D, hD, hDr⟩ : ∃ D, (n = 0 ∨ D = A.map (·.add p)) ∧ (n = 0 ∨ Rd w w.heap.size D n (vn (lb n (U / 2 ^ p)))) := by
    have hcut := hrd0.cut (lo := p) (hi := p + n) (cap := cA) (by omega) h1 hc1
    rw [show p + n - p = n by omega, vn_cut h1] at hcut
    by_cases h0 : n = 0
    · exact ⟨none, .inl h0, .inl h0⟩
    · rw [if_neg (by omega)] at hcut
      exact ⟨_, .inr rfl, .inr hcut⟩
  have hnum : ∀ (D' : Option Addr) (c : Nat) (V : World), Fresh w V → (n = 0 ∨ D' = D) → Calls Tryz.prog 41 #[.slice D' n c] V fun e w' => e = .returned (.int .i64 (U / 2 ^ p % 2 ^ n : Nat)) ∧ w' = V := fun D' c V hV hD' => by
    refine (Number_any D' n c (U / 2 ^ p) V w.heap.size ?_ (by omega)).mono fun _ _ ⟨h1, h2⟩ => ⟨h1, h2.symm⟩
    by_cases h0 : n = 0
    · subst h0; exact Rd.nil _ _ _
    · rcases hD' with h | h
      · exact absurd h h0
      · subst h
        rcases hDr with h | h
        · exact absurd h h0
        · exact h.below hV (Nat.le_refl _)
  have HNUM := Lib.hid hnum
  obtain ⟨Z, hZ⟩ : ∃ Z : Nat, U / 2 ^ p % 2 ^ n = Z := ⟨_, rfl⟩
  rw [hZ] at HNUM ⊢
  clear hnum hDr hfin hs hb hrd hrd0 hown hm h hZ
  by_cases h0 : n = 0
  · have H0 := Lib.hid h0
    clear h0 hD
    by_cases hce : cA = p
    · subst hce
      go_enter Tryz.func19, Tryz.ntmps19
      go_wp2
      go_quiet (fail)
      obtain ⟨w1, hw1⟩ : ∃ w1, w.drewN nq = w1 := ⟨_, rfl⟩
      have hF1 : Fresh w w1 := hw1 ▸ Fresh.drewN _ _
      rw [hw1]
      have HF1 := Lib.hid hF1
      clear k0 k1 f0 k3 hw1
      obtain ⟨k0, k1⟩ := kk w1 hF1
      have f0 := f1 w1 hF1
      clear f1 kk hF1
      go_wp2
      go_quiet (with_reducible exact Calls.quiet_of_same (HNUM.out _ _ _ (HF1.out.trans (Fresh.drewN _ _)) (.inl H0.out)))
      go_wp2
      go_ret
      exact ⟨rfl, (HFIN.out _ (HF1.out.trans (Fresh.drewN _ _))).1, (KeepX.fresh (HF1.out.trans (Fresh.drewN _ _))).trans (HFIN.out _ (HF1.out.trans (Fresh.drewN _ _))).2⟩
    · have hne : ¬ cA = p := hce
      clear hce
      go_enter Tryz.func19, Tryz.ntmps19
      go_wp2
      go_quiet (fail)
      obtain ⟨w1, hw1⟩ : ∃ w1, w.drewN nq = w1 := ⟨_, rfl⟩
      have hF1 : Fresh w w1 := hw1 ▸ Fresh.drewN _ _
      rw [hw1]
      have HF1 := Lib.hid hF1
      clear k0 k1 f0 k3 hw1
      obtain ⟨k0, k1⟩ := kk w1 hF1
      have f0 := f1 w1 hF1
      clear f1 kk hF1
      go_wp2
      go_quiet (with_reducible exact Calls.quiet_of_same (HNUM.out _ _ _ (HF1.out.trans (Fresh.drewN _ _)) (.inl H0.out)))
      go_wp2
      go_ret
      exact ⟨rfl, (HFIN.out _ (HF1.out.trans (Fresh.drewN _ _))).1, (KeepX.fresh (HF1.out.trans (Fresh.drewN _ _))).trans (HFIN.out _ (HF1.out.trans (Fresh.drewN _ _))).2⟩
  · have hne : ¬ cA = p := by omega
    have hDe : D = A.map (·.add p) := hD.resolve_left h0
    subst hDe
    go_enter Tryz.func19, Tryz.ntmps19
    go_wp2
    go_quiet (fail)
    obtain ⟨w1, hw1⟩ : ∃ w1, w.drewN nq = w1 := ⟨_, rfl⟩
    have hF1 : Fresh w w1 := hw1 ▸ Fresh.drewN _ _
    rw [hw1]
    have HF1 := Lib.hid hF1
    clear k0 k1 f0 k3 hw1
    obtain ⟨k0, k1⟩ := kk w1 hF1
    have f0 := f1 w1 hF1
    clear f1 kk hF1
    go_wp2
    go_quiet (with_reducible exact Calls.quiet_of_same (HNUM.out _ _ _ (HF1.out.trans (Fresh.drewN _ _)) (.inr rfl)))
    go_wp2
    go_ret
    exact ⟨rfl, (HFIN.out _ (HF1.out.trans (Fresh.drewN _ _))).1, (KeepX.fresh (HF1.out.trans (Fresh.drewN _ _))).trans (HFIN.out _ (HF1.out.trans (Fresh.drewN _ _))).2⟩
end Go.Proofs.YtfpicifjjedlaaaGreatDoor.refp
/-
  Layer 6's reference: next. My own text.
-/
namespace Go.Proofs.YtfpicifjjedlaaaGreatDoor.refp
open Go.RowKit Go.Proofs.YtfpicifjjedlaaaGreatDoor.base Go.Proofs.YtfpicifjjedlaaaGreatDoor.num Go.Proofs.YtfpicifjjedlaaaGreatDoor.bitnum Go.Proofs.YtfpicifjjedlaaaGreatDoor.bitp Go.Proofs.YtfpicifjjedlaaaGreatDoor.huffnum Go.Proofs.YtfpicifjjedlaaaGreatDoor.infnum
set_option linter.unusedVariables false
abbrev tGot : TypeId := 133
abbrev tCodes : TypeId := 91
/-- the error is none, again -/
theorem StAt.err {w0 W : World} {g U T p : Nat} {out : List UInt8} (h : StAt w0 g U T p out W) : StAt w0 g U T p out (W.setCell ⟨g, 3, none⟩ (iv 0)) ∧ KeepX W (W.setCell ⟨g, 3, none⟩ (iv 0)) := by
  obtain ⟨A, cA, m, O, cO, h1, h2, h3, h4, h5, h6⟩ := h.ex
  have hb := But.put (g := g) (i := 3) W (iv 0)
  exact ⟨⟨⟨A, cA, m, O, cO, h1, h2.put 3 _, h3.but hb (Nat.le_of_lt h2.inside), h4, h5, h6.but hb (h6.ne_block h2 (by decide))⟩, h.lo, Fresh.but h.fr h.lo hb⟩, KeepX.but hb h2⟩
theorem StAt.cells {w0 W : World} {g U T p : Nat} {out : List UInt8} (h : StAt w0 g U T p out W) : W.cell? ⟨g, 1, none⟩ = some (iv (p : Nat)) ∧ (∃ v, W.cell? ⟨g, 3, none⟩ = some v) ∧ (∀ i, W.frozen? ⟨g, i, none⟩ = false) ∧ (∀ gb cs, Bk W gb tGot cs → gb ≠ g) := by
  obtain ⟨A, cA, m, O, cO, h1, h2, _⟩ := h.ex
  refine ⟨h2.cell (i := 1) rfl, ⟨_, h2.cell (i := 3) rfl⟩, fun i => h2.free i, fun gb cs hb e => ?_⟩
  subst e
  have e1 : W.heap[gb]? = _ := hb
  have e2 : W.heap[gb]? = _ := h2
  rw [e1] at e2
  injection e2 with e2
  injection e2 with _ e2
  exact absurd e2 (by decide)
theorem rst_slot_ {P : Program} {ops : Array Oper} {a : Act} {w : World} {K : Act → World → Prop} {Q : Exit → Act → World → Prop} {E : Prop} {t : TypeId} (d : Nat) {op : Op} {ps : String} {af gd} (h : if Region.wanted (⟨some d, op, t, ps, af, gd⟩ : Oper) (yielded ops a.tmps) = true then Oper.wp P ⟨some d, op, t, ps, af, gd⟩ a w K Q else E) :
    if Region.wanted (⟨some d, op, t, ps, af, gd⟩ : Oper) (yielded ops a.tmps) = true then Oper.wp P ⟨some d, op, t, ps, af, gd⟩ a w K Q else E := h
set_option maxHeartbeats 4000000 in
set_option maxRecDepth 100000 in
theorem next_any (w0 : World) (g U T p s q : Nat) (out : List UInt8) (w : World) (hs : StAt w0 g U T p out w) (ls : List Nat) (vc : Value) (hc : CodeR w ls vc) (hf : tx ls 15 ≤ 32768) (h15 : ∀ x ∈ ls, x ≤ 15) (hn : ls.length ≤ 320) (hT : T ≤ 4294967296) (h : sym ls U T p = .ok (s, q)) :
    Calls Tryz.prog 43 #[pg g, vc] w fun e w' => e = .returned (.int .i64 (s : Nat)) ∧ StAt w0 g U T q out w' ∧ KeepX w w' := by
  obtain ⟨many, t, k, hmany, hN, h1, hk15, hlo, hhi, hle, hsy, rfl⟩ := sym_of hf h15 h
  obtain ⟨L, R, F, rfl, hbits⟩ := hc
  obtain ⟨n, hln⟩ : ∃ n, ls.length = n := ⟨_, rfl⟩
  rw [hln] at hn ⊢
  have hpT : p < T := by omega
  obtain ⟨A, cA, m, O, cO, hm, hb, hrd, hc1, hc2, hown⟩ := hs.ex
  obtain ⟨tt, hto⟩ : ∃ tt, p + many = tt := ⟨_, rfl⟩
  have hrd0 := lb_size hrd.1
  have hcut := hrd0.cut (lo := p) (hi := tt) (cap := cA) (by omega) (by omega) hc1
  rw [if_neg (by omega), show tt - p = many by omega, vn_cut (by omega)] at hcut
  have hnext : ∀ V c, Fresh w V → Calls Tryz.prog 77 #[.agg #[.slice (some ⟨L, 0, none⟩) n n, .int .i64 (F : Nat)], .slice (A.map (·.add p)) many c] V fun e w' => e = .returned (.agg #[.int .i64 (s : Nat), .int .i64 (k : Nat), .int .i64 0]) ∧ Fresh V w' := fun V c hV =>
    huffp.refNext_ok L n F ls R _ many c (U / 2 ^ p) many t V w.heap.size (hbits.fresh hV) (hcut.below hV (Nat.le_refl _)) hV.size (by omega) hln (by omega) h15 (by omega) hN h1 hk15 hlo hhi hle hsy
  have hbx := Bk.made w tCodes #[.slice (some ⟨L, 0, none⟩) n n, .int .i64 (F : Nat)]
  have hfx := Fresh.alloc w (.cells #[.slice (some ⟨L, 0, none⟩) n n, .int .i64 (F : Nat)] tCodes)
  have p0 : (0 : Int) ≤ (p : Int) := by omega
  have p5 : tt - p = many := by omega
  have hne : ¬ cA = p := by omega
  have HNEXT := Lib.hid hnext
  have HS := Lib.hid hs
  have kk : ∀ V, Fresh (w.alloc (.cells #[.slice (some ⟨L, 0, none⟩) n n, .int .i64 (F : Nat)] tCodes)) V → V.cell? ⟨g, 0, none⟩ = some (.slice A T cA) ∧ V.cell? ⟨g, 1, none⟩ = some (iv (p : Nat)) ∧ V.cell? ⟨w.heap.size, 0, none⟩ = some (.slice (some ⟨L, 0, none⟩) n n) ∧ V.cell? ⟨w.heap.size, 1, none⟩ = some (.int .i64 (F : Nat)) := fun V hV => ⟨(hb.fresh (hfx.trans hV)).cell (i := 0) rfl, (hb.fresh (hfx.trans hV)).cell (i := 1) rfl, (hbx.fresh hV).cell (i := 0) rfl, (hbx.fresh hV).cell (i := 1) rfl⟩
  have k3 := (hb.fresh hfx).cell (i := 3) rfl
  have hgi : g < w.heap.size := hb.inside
  have HKK := Lib.hid kk
  have HFX := Lib.hid hfx
  obtain ⟨k0, k1, k4, k5⟩ := kk _ (Fresh.refl _)
  have HMANY := Lib.hid hmany
  unfold maxLen at hc2
  clear hnext hs hb hrd hrd0 hcut hown hm h hN hlo hhi hsy hbits hbx hfx kk hmany
  have ea : IntKind.i64.wrap ((p : Int) + 15) = (p : Int) + 15 := by rw [IntWalk.i64_in _ (by omega)]
  by_cases hbig : p + 15 > T
  · obtain rfl : T = tt := by have := HMANY.out; omega
    have t1 : decide ((p : Int) + 15 > (T : Int)) = true := by rw [decide_eq_true_iff]; omega
    have t2 : decide ((T : Int) < (p : Int) + 15) = true := by rw [decide_eq_true_iff]; omega
    have p2 : (p : Int) ≤ (T : Int) := by omega
    have p3 : (T : Int) ≤ (cA : Int) := by omega
    have p4 : ((T : Int)).toNat = T := by omega
    clear hbig hto
    go_enter Tryz.func43, Tryz.ntmps43
    go_upto_region 6 with (fail)
    go_cut [6] (fun v wx => ∃ gb, v = pg gb ∧ Bk wx gb tGot [.int .i64 (s : Nat), .int .i64 (k : Nat), .int .i64 0] ∧ Fresh w wx)
    case first =>
      have hz := Bk.made (w.alloc (.cells #[.slice (some ⟨L, 0, none⟩) n n, .int .i64 (F : Nat)] tCodes)) tGot #[.int .i64 0, .int .i64 0, .int .i64 0]
      have hzs : (w.alloc (.cells #[.slice (some ⟨L, 0, none⟩) n n, .int .i64 (F : Nat)] tCodes)).heap.size = w.heap.size + 1 := by simp
      rw [hzs] at hz
      have HZ := Lib.hid hz
      clear hz hzs
      go_region_held3 (fun V => V.cell? ⟨g, 0, none⟩ = some (.slice A T cA) ∧ V.cell? ⟨g, 1, none⟩ = some (iv (p : Nat)) ∧ V.cell? ⟨w.heap.size, 0, none⟩ = some (.slice (some ⟨L, 0, none⟩) n n) ∧ V.cell? ⟨w.heap.size, 1, none⟩ = some (.int .i64 (F : Nat))) (first | exact HKK.out _ (Fresh.drew _) | exact HKK.out _ ((Fresh.alloc _ _).trans (Fresh.drew _)) | exact HKK.out _ HF9.out | exact HKK.out _ (HF9.out.trans (Fresh.alloc _ _)) | exact HKK.out _ (HF9.out.trans (Fresh.drew _)) | exact HKK.out _ (HF9.out.trans ((Fresh.alloc _ _).trans (Fresh.drew _))) | exact HKK.out _ (((HF9.out.but (g := w.heap.size + 1) (by simp) (But.put _ _)).but (g := w.heap.size + 1) (by simp) (But.put _ _)).but (g := w.heap.size + 1) (by simp) (But.put _ _)) | exact HKK.out _ ((((HF9.out.trans (Fresh.alloc _ _)).but (g := w9.heap.size) HF9.out.size (But.put _ _)).but (g := w9.heap.size) HF9.out.size (But.put _ _)).but (g := w9.heap.size) HF9.out.size (But.put _ _)) | go_keep)
        (first
        | (go_at_call 77; (with_reducible refine (HNEXT.out _ _ (HFX.out.trans (Fresh.drew _))).mono ?_); rintro e w9 ⟨rfl, hf9⟩; have HF9 := Lib.hid ((Fresh.drew (w.alloc (.cells #[.slice (some ⟨L, 0, none⟩) n n, .int .i64 (F : Nat)] tCodes))).trans hf9); clear hf9)
        | (go_at_call 77; (with_reducible refine (HNEXT.out _ _ (HFX.out.trans ((Fresh.alloc _ _).trans (Fresh.drew _)))).mono ?_); rintro e w9 ⟨rfl, hf9⟩; have hz9 := (HZ.out.fresh (Fresh.drew _)).fresh hf9; have z0 := hz9.cell (i := 0) rfl; have z1 := hz9.cell (i := 1) rfl; have z2 := hz9.cell (i := 2) rfl; have y0 := hz9.free 0; have y1 := hz9.free 1; have y2 := hz9.free 2; have HZ9 := Lib.hid hz9; have HF9 := Lib.hid (((Fresh.alloc (w.alloc (.cells #[.slice (some ⟨L, 0, none⟩) n n, .int .i64 (F : Nat)] tCodes)) (.cells #[.int .i64 0, .int .i64 0, .int .i64 0] tGot)).trans (Fresh.drew _)).trans hf9); clear hf9 hz9))
      all_goals try go_wp2
      all_goals go_meet
      all_goals
        first
          | exact ⟨_, rfl, Bk.made w9 tGot #[.int .i64 (s : Nat), .int .i64 (k : Nat), .int .i64 0], (HFX.out.trans HF9.out).trans (Fresh.alloc _ _)⟩
          | exact ⟨_, rfl, ((HZ9.out.put 0 _).put 1 _).put 2 _, (((HFX.out.trans HF9.out).but (g := w.heap.size + 1) (by omega) (But.put _ _)).but (g := w.heap.size + 1) (by omega) (But.put _ _)).but (g := w.heap.size + 1) (by omega) (But.put _ _)⟩
          | exact ⟨_, rfl, (((Bk.made w9 tGot #[.int .i64 0, .int .i64 0, .int .i64 0]).put 0 _).put 1 _).put 2 _, ((((HFX.out.trans HF9.out).trans (Fresh.alloc _ _)).but (g := w9.heap.size) ((HFX.out.trans HF9.out).size) (But.put _ _)).but (g := w9.heap.size) ((HFX.out.trans HF9.out).size) (But.put _ _)).but (g := w9.heap.size) ((HFX.out.trans HF9.out).size) (But.put _ _)⟩
    case rest =>
      rename World => wx
      obtain ⟨gb, rfl, hgb, hfw⟩ := hcut
      have hst := HS.out.fresh hfw
      obtain ⟨c1, ⟨v3, c3⟩, cf, cn⟩ := hst.cells
      have f3 := cf 3
      have hng := cn gb _ hgb
      have d2 := hgb.cell (i := 2) rfl
      obtain ⟨hst2, hkx2⟩ := hst.err
      have hgb2 := hgb.apart (p := ⟨g, 3, none⟩) hng (iv 0)
      have HST2 := Lib.hid hst2
      have HKX2 := Lib.hid ((KeepX.fresh hfw).trans hkx2)
      have HGB2 := Lib.hid hgb2
      clear hst hst2 hkx2 hgb hgb2 hfw cf cn c1 k0 k1 k3 k4 k5
      go_upto_region 8 with (fail)
      clear c3 f3 d2
      generalize wx.setCell ⟨g, 3, none⟩ (.int .i64 0) = w2 at *
      obtain ⟨c1, _, cf, _⟩ := HST2.out.cells
      have f1 := cf 1
      have d1 := HGB2.out.cell (i := 1) rfl
      have eb : IntKind.i64.wrap ((p : Int) + (k : Int)) = (p : Int) + (k : Int) := by rw [IntWalk.i64_in _ (by omega)]
      go_region
      obtain ⟨hst3, hkx3⟩ := HST2.out.at_ (p + k)
      have d0 : (w2.setCell ⟨g, 1, none⟩ (.int .i64 ((p : Int) + (k : Int)))).drew.cell? ⟨gb, 0, none⟩ = some (.int .i64 (s : Nat)) := ((HGB2.out.apart (p := ⟨g, 1, none⟩) hng (iv ((p + k : Nat) : Int))).fresh (Fresh.drew _)).cell (i := 0) rfl
      have HST3 := Lib.hid (hst3.fresh (Fresh.drew _))
      have HKX3 := Lib.hid ((HKX2.out.trans hkx3).trans (KeepX.fresh (Fresh.drew _)))
      clear hst3 hkx3 c1 cf f1 d1
      go_wp2
      go_ret
      exact ⟨rfl, HST3.out, HKX3.out⟩
  · obtain rfl : tt = p + 15 := by have := HMANY.out; omega
    have t1 : decide ((p : Int) + 15 > (T : Int)) = false := by rw [decide_eq_false_iff_not]; omega
    have t2 : decide ((T : Int) < (p : Int) + 15) = false := by rw [decide_eq_false_iff_not]; omega
    have p2 : (p : Int) ≤ (p : Int) + 15 := by omega
    have p3 : (p : Int) + 15 ≤ (cA : Int) := by omega
    have p4 : ((p : Int) + 15).toNat = p + 15 := by omega
    clear hbig hto
    go_enter Tryz.func43, Tryz.ntmps43
    go_upto_region 6 with (fail)
    go_cut [6] (fun v wx => ∃ gb, v = pg gb ∧ Bk wx gb tGot [.int .i64 (s : Nat), .int .i64 (k : Nat), .int .i64 0] ∧ Fresh w wx)
    case first =>
      have hz := Bk.made (w.alloc (.cells #[.slice (some ⟨L, 0, none⟩) n n, .int .i64 (F : Nat)] tCodes)) tGot #[.int .i64 0, .int .i64 0, .int .i64 0]
      have hzs : (w.alloc (.cells #[.slice (some ⟨L, 0, none⟩) n n, .int .i64 (F : Nat)] tCodes)).heap.size = w.heap.size + 1 := by simp
      rw [hzs] at hz
      have HZ := Lib.hid hz
      clear hz hzs
      go_region_held3 (fun V => V.cell? ⟨g, 0, none⟩ = some (.slice A T cA) ∧ V.cell? ⟨g, 1, none⟩ = some (iv (p : Nat)) ∧ V.cell? ⟨w.heap.size, 0, none⟩ = some (.slice (some ⟨L, 0, none⟩) n n) ∧ V.cell? ⟨w.heap.size, 1, none⟩ = some (.int .i64 (F : Nat))) (first | exact HKK.out _ (Fresh.drew _) | exact HKK.out _ ((Fresh.alloc _ _).trans (Fresh.drew _)) | exact HKK.out _ HF9.out | exact HKK.out _ (HF9.out.trans (Fresh.alloc _ _)) | exact HKK.out _ (HF9.out.trans (Fresh.drew _)) | exact HKK.out _ (HF9.out.trans ((Fresh.alloc _ _).trans (Fresh.drew _))) | exact HKK.out _ (((HF9.out.but (g := w.heap.size + 1) (by simp) (But.put _ _)).but (g := w.heap.size + 1) (by simp) (But.put _ _)).but (g := w.heap.size + 1) (by simp) (But.put _ _)) | exact HKK.out _ ((((HF9.out.trans (Fresh.alloc _ _)).but (g := w9.heap.size) HF9.out.size (But.put _ _)).but (g := w9.heap.size) HF9.out.size (But.put _ _)).but (g := w9.heap.size) HF9.out.size (But.put _ _)) | go_keep)
        (first
        | (go_at_call 77; (with_reducible refine (HNEXT.out _ _ (HFX.out.trans (Fresh.drew _))).mono ?_); rintro e w9 ⟨rfl, hf9⟩; have HF9 := Lib.hid ((Fresh.drew (w.alloc (.cells #[.slice (some ⟨L, 0, none⟩) n n, .int .i64 (F : Nat)] tCodes))).trans hf9); clear hf9)
        | (go_at_call 77; (with_reducible refine (HNEXT.out _ _ (HFX.out.trans ((Fresh.alloc _ _).trans (Fresh.drew _)))).mono ?_); rintro e w9 ⟨rfl, hf9⟩; have hz9 := (HZ.out.fresh (Fresh.drew _)).fresh hf9; have z0 := hz9.cell (i := 0) rfl; have z1 := hz9.cell (i := 1) rfl; have z2 := hz9.cell (i := 2) rfl; have y0 := hz9.free 0; have y1 := hz9.free 1; have y2 := hz9.free 2; have HZ9 := Lib.hid hz9; have HF9 := Lib.hid (((Fresh.alloc (w.alloc (.cells #[.slice (some ⟨L, 0, none⟩) n n, .int .i64 (F : Nat)] tCodes)) (.cells #[.int .i64 0, .int .i64 0, .int .i64 0] tGot)).trans (Fresh.drew _)).trans hf9); clear hf9 hz9))
      all_goals try go_wp2
      all_goals go_meet
      all_goals
        first
          | exact ⟨_, rfl, Bk.made w9 tGot #[.int .i64 (s : Nat), .int .i64 (k : Nat), .int .i64 0], (HFX.out.trans HF9.out).trans (Fresh.alloc _ _)⟩
          | exact ⟨_, rfl, ((HZ9.out.put 0 _).put 1 _).put 2 _, (((HFX.out.trans HF9.out).but (g := w.heap.size + 1) (by omega) (But.put _ _)).but (g := w.heap.size + 1) (by omega) (But.put _ _)).but (g := w.heap.size + 1) (by omega) (But.put _ _)⟩
          | exact ⟨_, rfl, (((Bk.made w9 tGot #[.int .i64 0, .int .i64 0, .int .i64 0]).put 0 _).put 1 _).put 2 _, ((((HFX.out.trans HF9.out).trans (Fresh.alloc _ _)).but (g := w9.heap.size) ((HFX.out.trans HF9.out).size) (But.put _ _)).but (g := w9.heap.size) ((HFX.out.trans HF9.out).size) (But.put _ _)).but (g := w9.heap.size) ((HFX.out.trans HF9.out).size) (But.put _ _)⟩
    case rest =>
      rename World => wx
      obtain ⟨gb, rfl, hgb, hfw⟩ := hcut
      have hst := HS.out.fresh hfw
      obtain ⟨c1, ⟨v3, c3⟩, cf, cn⟩ := hst.cells
      have f3 := cf 3
      have hng := cn gb _ hgb
      have d2 := hgb.cell (i := 2) rfl
      obtain ⟨hst2, hkx2⟩ := hst.err
      have hgb2 := hgb.apart (p := ⟨g, 3, none⟩) hng (iv 0)
      have HST2 := Lib.hid hst2
      have HKX2 := Lib.hid ((KeepX.fresh hfw).trans hkx2)
      have HGB2 := Lib.hid hgb2
      clear hst hst2 hkx2 hgb hgb2 hfw cf cn c1 k0 k1 k3 k4 k5
      go_upto_region 8 with (fail)
      clear c3 f3 d2
      generalize wx.setCell ⟨g, 3, none⟩ (.int .i64 0) = w2 at *
      obtain ⟨c1, _, cf, _⟩ := HST2.out.cells
      have f1 := cf 1
      have d1 := HGB2.out.cell (i := 1) rfl
      have eb : IntKind.i64.wrap ((p : Int) + (k : Int)) = (p : Int) + (k : Int) := by rw [IntWalk.i64_in _ (by omega)]
      go_region
      obtain ⟨hst3, hkx3⟩ := HST2.out.at_ (p + k)
      have d0 : (w2.setCell ⟨g, 1, none⟩ (.int .i64 ((p : Int) + (k : Int)))).drew.cell? ⟨gb, 0, none⟩ = some (.int .i64 (s : Nat)) := ((HGB2.out.apart (p := ⟨g, 1, none⟩) hng (iv ((p + k : Nat) : Int))).fresh (Fresh.drew _)).cell (i := 0) rfl
      have HST3 := Lib.hid (hst3.fresh (Fresh.drew _))
      have HKX3 := Lib.hid ((HKX2.out.trans hkx3).trans (KeepX.fresh (Fresh.drew _)))
      clear hst3 hkx3 c1 cf f1 d1
      go_wp2
      go_ret
      exact ⟨rfl, HST3.out, HKX3.out⟩
end Go.Proofs.YtfpicifjjedlaaaGreatDoor.refp
/-
  Layer 6's reference: long, far, sum, may, the fixed codes. My own text.
-/
namespace Go.Proofs.YtfpicifjjedlaaaGreatDoor.refp
open Go.RowKit Go.Proofs.YtfpicifjjedlaaaGreatDoor.base Go.Proofs.YtfpicifjjedlaaaGreatDoor.num Go.Proofs.YtfpicifjjedlaaaGreatDoor.bitnum Go.Proofs.YtfpicifjjedlaaaGreatDoor.bitp Go.Proofs.YtfpicifjjedlaaaGreatDoor.huffnum Go.Proofs.YtfpicifjjedlaaaGreatDoor.infnum
set_option linter.unusedVariables false
theorem vn_get {l : List Nat} {k : Nat} (h : k < l.length) : (vn l)[k]? = some (iv ((l.getD k 0 : Nat) : Int)) := by
  rw [vn, List.getElem?_map, List.getElem?_eq_getElem h, List.getD_eq_getElem?_getD, List.getElem?_eq_getElem h]
  rfl
theorem longMore_le : ∀ k : _root_.Fin 29, longMore.getD k.1 0 ≤ 5 := by decide
theorem longBase_le : ∀ k : _root_.Fin 29, longBase.getD k.1 0 ≤ 258 := by decide
theorem farBase_le : ∀ k : _root_.Fin 30, farBase.getD k.1 0 ≤ 24577 := by decide
set_option maxHeartbeats 4000000 in
set_option maxRecDepth 100000 in
theorem long_any (w0 : World) (g U T p e q kk : Nat) (out : List UInt8) (w : World) (hs : StAt w0 g U T p out w) (hk : kk < 29) (hT : T ≤ 4294967296) (h : take (longMore.getD kk 0) U T p = .ok (e, q)) :
    Calls Tryz.prog 44 #[pg g, .int .i64 (kk : Nat)] w fun e' w' => e' = .returned (.int .i64 ((longBase.getD kk 0 + e : Nat) : Int)) ∧ StAt w0 g U T q out w' ∧ KeepX w w' := by
  have hm := longMore_le ⟨kk, hk⟩
  have hl := longBase_le ⟨kk, hk⟩
  simp only at hm hl
  have c1 : (#[.int .i64 3, .int .i64 4, .int .i64 5, .int .i64 6, .int .i64 7, .int .i64 8, .int .i64 9, .int .i64 10, .int .i64 11, .int .i64 13, .int .i64 15, .int .i64 17, .int .i64 19, .int .i64 23, .int .i64 27, .int .i64 31, .int .i64 35, .int .i64 43, .int .i64 51, .int .i64 59, .int .i64 67, .int .i64 83, .int .i64 99, .int .i64 115, .int .i64 131, .int .i64 163, .int .i64 195, .int .i64 227, .int .i64 258].toList)[kk]? = some (iv ((longBase.getD kk 0 : Nat) : Int)) := vn_get (l := longBase) hk
  have c2 : (#[.int .i64 0, .int .i64 0, .int .i64 0, .int .i64 0, .int .i64 0, .int .i64 0, .int .i64 0, .int .i64 0, .int .i64 1, .int .i64 1, .int .i64 1, .int .i64 1, .int .i64 2, .int .i64 2, .int .i64 2, .int .i64 2, .int .i64 3, .int .i64 3, .int .i64 3, .int .i64 3, .int .i64 4, .int .i64 4, .int .i64 4, .int .i64 4, .int .i64 5, .int .i64 5, .int .i64 5, .int .i64 5, .int .i64 0].toList)[kk]? = some (iv ((longMore.getD kk 0 : Nat) : Int)) := vn_get (l := longMore) hk
  have he : e < 65536 := by
    obtain ⟨_, rfl, _⟩ := take_of h
    have := Nat.mod_lt (U / 2 ^ p) (y := 2 ^ longMore.getD kk 0) (Nat.pow_pos (by omega))
    have := Nat.pow_le_pow_right (n := 2) (by omega) hm
    omega
  have b1 := (Bk.made w tI #[.int .i64 3, .int .i64 4, .int .i64 5, .int .i64 6, .int .i64 7, .int .i64 8, .int .i64 9, .int .i64 10, .int .i64 11, .int .i64 13, .int .i64 15, .int .i64 17, .int .i64 19, .int .i64 23, .int .i64 27, .int .i64 31, .int .i64 35, .int .i64 43, .int .i64 51, .int .i64 59, .int .i64 67, .int .i64 83, .int .i64 99, .int .i64 115, .int .i64 131, .int .i64 163, .int .i64 195, .int .i64 227, .int .i64 258]).alloc (.cells #[.int .i64 0, .int .i64 0, .int .i64 0, .int .i64 0, .int .i64 0, .int .i64 0, .int .i64 0, .int .i64 0, .int .i64 1, .int .i64 1, .int .i64 1, .int .i64 1, .int .i64 2, .int .i64 2, .int .i64 2, .int .i64 2, .int .i64 3, .int .i64 3, .int .i64 3, .int .i64 3, .int .i64 4, .int .i64 4, .int .i64 4, .int .i64 4, .int .i64 5, .int .i64 5, .int .i64 5, .int .i64 5, .int .i64 0] tI)
  have b2 := Bk.made (w.alloc (.cells #[.int .i64 3, .int .i64 4, .int .i64 5, .int .i64 6, .int .i64 7, .int .i64 8, .int .i64 9, .int .i64 10, .int .i64 11, .int .i64 13, .int .i64 15, .int .i64 17, .int .i64 19, .int .i64 23, .int .i64 27, .int .i64 31, .int .i64 35, .int .i64 43, .int .i64 51, .int .i64 59, .int .i64 67, .int .i64 83, .int .i64 99, .int .i64 115, .int .i64 131, .int .i64 163, .int .i64 195, .int .i64 227, .int .i64 258] tI)) tI #[.int .i64 0, .int .i64 0, .int .i64 0, .int .i64 0, .int .i64 0, .int .i64 0, .int .i64 0, .int .i64 0, .int .i64 1, .int .i64 1, .int .i64 1, .int .i64 1, .int .i64 2, .int .i64 2, .int .i64 2, .int .i64 2, .int .i64 3, .int .i64 3, .int .i64 3, .int .i64 3, .int .i64 4, .int .i64 4, .int .i64 4, .int .i64 4, .int .i64 5, .int .i64 5, .int .i64 5, .int .i64 5, .int .i64 0]
  have hsz : (w.alloc (.cells #[.int .i64 3, .int .i64 4, .int .i64 5, .int .i64 6, .int .i64 7, .int .i64 8, .int .i64 9, .int .i64 10, .int .i64 11, .int .i64 13, .int .i64 15, .int .i64 17, .int .i64 19, .int .i64 23, .int .i64 27, .int .i64 31, .int .i64 35, .int .i64 43, .int .i64 51, .int .i64 59, .int .i64 67, .int .i64 83, .int .i64 99, .int .i64 115, .int .i64 131, .int .i64 163, .int .i64 195, .int .i64 227, .int .i64 258] tI)).heap.size = w.heap.size + 1 := by simp
  rw [hsz] at b2
  have hf := (Fresh.alloc w (.cells #[.int .i64 3, .int .i64 4, .int .i64 5, .int .i64 6, .int .i64 7, .int .i64 8, .int .i64 9, .int .i64 10, .int .i64 11, .int .i64 13, .int .i64 15, .int .i64 17, .int .i64 19, .int .i64 23, .int .i64 27, .int .i64 31, .int .i64 35, .int .i64 43, .int .i64 51, .int .i64 59, .int .i64 67, .int .i64 83, .int .i64 99, .int .i64 115, .int .i64 131, .int .i64 163, .int .i64 195, .int .i64 227, .int .i64 258] tI)).trans (Fresh.alloc _ (.cells #[.int .i64 0, .int .i64 0, .int .i64 0, .int .i64 0, .int .i64 0, .int .i64 0, .int .i64 0, .int .i64 0, .int .i64 1, .int .i64 1, .int .i64 1, .int .i64 1, .int .i64 2, .int .i64 2, .int .i64 2, .int .i64 2, .int .i64 3, .int .i64 3, .int .i64 3, .int .i64 3, .int .i64 4, .int .i64 4, .int .i64 4, .int .i64 4, .int .i64 5, .int .i64 5, .int .i64 5, .int .i64 5, .int .i64 0] tI))
  obtain ⟨X, hX⟩ : ∃ X, (w.alloc (.cells #[.int .i64 3, .int .i64 4, .int .i64 5, .int .i64 6, .int .i64 7, .int .i64 8, .int .i64 9, .int .i64 10, .int .i64 11, .int .i64 13, .int .i64 15, .int .i64 17, .int .i64 19, .int .i64 23, .int .i64 27, .int .i64 31, .int .i64 35, .int .i64 43, .int .i64 51, .int .i64 59, .int .i64 67, .int .i64 83, .int .i64 99, .int .i64 115, .int .i64 131, .int .i64 163, .int .i64 195, .int .i64 227, .int .i64 258] tI)).alloc (.cells #[.int .i64 0, .int .i64 0, .int .i64 0, .int .i64 0, .int .i64 0, .int .i64 0, .int .i64 0, .int .i64 0, .int .i64 1, .int .i64 1, .int .i64 1, .int .i64 1, .int .i64 2, .int .i64 2, .int .i64 2, .int .i64 2, .int .i64 3, .int .i64 3, .int .i64 3, .int .i64 3, .int .i64 4, .int .i64 4, .int .i64 4, .int .i64 4, .int .i64 5, .int .i64 5, .int .i64 5, .int .i64 5, .int .i64 0] tI) = X := ⟨_, rfl⟩
  rw [hX] at b1 b2 hf
  have hcc : ∀ V, KeepX X V → V.cell? ⟨w.heap.size, kk, none⟩ = some (iv ((longBase.getD kk 0 : Nat) : Int)) ∧ V.cell? ⟨w.heap.size + 1, kk, none⟩ = some (iv ((longMore.getD kk 0 : Nat) : Int)) := fun V hV => ⟨(hV.bk (by decide) (by decide) b1).cell c1, (hV.bk (by decide) (by decide) b2).cell c2⟩
  have htk : ∀ V, Fresh X V → Calls Tryz.prog 19 #[pg g, .int .i64 ((longMore.getD kk 0 : Nat) : Int)] V fun e' w' => e' = .returned (.int .i64 (e : Nat)) ∧ StAt w0 g U T q out w' ∧ KeepX V w' := fun V hV => take_any w0 g U T p _ e q out V (hs.fresh (hf.trans hV)) (by omega) hT h
  obtain ⟨lb, hlb⟩ : ∃ x, longBase.getD kk 0 = x := ⟨_, rfl⟩
  obtain ⟨lm, hlm⟩ : ∃ x, longMore.getD kk 0 = x := ⟨_, rfl⟩
  rw [hlb] at hcc hl ⊢
  rw [hlm] at hcc htk
  have HCC := Lib.hid hcc
  have HTK := Lib.hid htk
  have HF := Lib.hid hf
  have HX := Lib.hid hX
  have ek : (kk : Int) < 29 := by omega
  have ek0 : (0 : Int) ≤ (kk : Int) := by omega
  have ea : IntKind.i64.wrap ((lb : Int) + (e : Int)) = (lb : Int) + (e : Int) := by rw [IntWalk.i64_in _ (by omega)]
  clear b1 b2 hf hX hcc htk c1 c2 hsz hlb hlm hs h hm
  go_enter Tryz.func44, Tryz.ntmps44
  go_upto_region 3 with (fail)
  rw [HX.out]
  go_region_held3 (fun V => V.cell? ⟨w.heap.size, kk, none⟩ = some (iv (lb : Nat)) ∧ V.cell? ⟨w.heap.size + 1, kk, none⟩ = some (iv (lm : Nat))) (first | exact HCC.out _ (KeepX.fresh (Fresh.drew _)) | exact HCC.out _ HK9.out)
    (first
    | (go_at_call 19; (with_reducible refine (HTK.out _ (Fresh.drew _)).mono ?_); rintro e9 w9 ⟨rfl, hst9, hk9⟩; have HK9 := Lib.hid ((KeepX.fresh (Fresh.drew X)).trans hk9); have HST9 := Lib.hid hst9; clear hst9 hk9))
  all_goals
    go_wp2
    go_ret
    exact ⟨rfl, HST9.out, (KeepX.fresh HF.out).trans HK9.out⟩
theorem farMore_le : ∀ k : _root_.Fin 30, farMore k.1 ≤ 13 := by decide
set_option maxHeartbeats 4000000 in
set_option maxRecDepth 100000 in
theorem far_any (w0 : World) (g U T p e q kk : Nat) (out : List UInt8) (w : World) (hs : StAt w0 g U T p out w) (hk : kk < 30) (hT : T ≤ 4294967296) (h : take (farMore kk) U T p = .ok (e, q)) :
    Calls Tryz.prog 45 #[pg g, .int .i64 (kk : Nat)] w fun e' w' => e' = .returned (.int .i64 ((farBase.getD kk 0 + e : Nat) : Int)) ∧ StAt w0 g U T q out w' ∧ KeepX w w' := by
  have hm := farMore_le ⟨kk, hk⟩
  have hl := farBase_le ⟨kk, hk⟩
  simp only at hm hl
  have c1 : (#[.int .i64 1, .int .i64 2, .int .i64 3, .int .i64 4, .int .i64 5, .int .i64 7, .int .i64 9, .int .i64 13, .int .i64 17, .int .i64 25, .int .i64 33, .int .i64 49, .int .i64 65, .int .i64 97, .int .i64 129, .int .i64 193, .int .i64 257, .int .i64 385, .int .i64 513, .int .i64 769, .int .i64 1025, .int .i64 1537, .int .i64 2049, .int .i64 3073, .int .i64 4097, .int .i64 6145, .int .i64 8193, .int .i64 12289, .int .i64 16385, .int .i64 24577].toList)[kk]? = some (iv ((farBase.getD kk 0 : Nat) : Int)) := vn_get (l := farBase) hk
  have he : e < 65536 := by
    obtain ⟨_, rfl, _⟩ := take_of h
    have := Nat.mod_lt (U / 2 ^ p) (y := 2 ^ farMore kk) (Nat.pow_pos (by omega))
    have := Nat.pow_le_pow_right (n := 2) (by omega) hm
    omega
  have b1 := Bk.made w tI #[.int .i64 1, .int .i64 2, .int .i64 3, .int .i64 4, .int .i64 5, .int .i64 7, .int .i64 9, .int .i64 13, .int .i64 17, .int .i64 25, .int .i64 33, .int .i64 49, .int .i64 65, .int .i64 97, .int .i64 129, .int .i64 193, .int .i64 257, .int .i64 385, .int .i64 513, .int .i64 769, .int .i64 1025, .int .i64 1537, .int .i64 2049, .int .i64 3073, .int .i64 4097, .int .i64 6145, .int .i64 8193, .int .i64 12289, .int .i64 16385, .int .i64 24577]
  have hf := Fresh.alloc w (.cells #[.int .i64 1, .int .i64 2, .int .i64 3, .int .i64 4, .int .i64 5, .int .i64 7, .int .i64 9, .int .i64 13, .int .i64 17, .int .i64 25, .int .i64 33, .int .i64 49, .int .i64 65, .int .i64 97, .int .i64 129, .int .i64 193, .int .i64 257, .int .i64 385, .int .i64 513, .int .i64 769, .int .i64 1025, .int .i64 1537, .int .i64 2049, .int .i64 3073, .int .i64 4097, .int .i64 6145, .int .i64 8193, .int .i64 12289, .int .i64 16385, .int .i64 24577] tI)
  obtain ⟨X, hX⟩ : ∃ X, w.alloc (.cells #[.int .i64 1, .int .i64 2, .int .i64 3, .int .i64 4, .int .i64 5, .int .i64 7, .int .i64 9, .int .i64 13, .int .i64 17, .int .i64 25, .int .i64 33, .int .i64 49, .int .i64 65, .int .i64 97, .int .i64 129, .int .i64 193, .int .i64 257, .int .i64 385, .int .i64 513, .int .i64 769, .int .i64 1025, .int .i64 1537, .int .i64 2049, .int .i64 3073, .int .i64 4097, .int .i64 6145, .int .i64 8193, .int .i64 12289, .int .i64 16385, .int .i64 24577] tI) = X := ⟨_, rfl⟩
  rw [hX] at b1 hf
  have hcc : ∀ V, KeepX X V → V.cell? ⟨w.heap.size, kk, none⟩ = some (iv ((farBase.getD kk 0 : Nat) : Int)) := fun V hV => (hV.bk (by decide) (by decide) b1).cell c1
  have htk : ∀ V, Fresh X V → Calls Tryz.prog 19 #[pg g, .int .i64 ((farMore kk : Nat) : Int)] V fun e' w' => e' = .returned (.int .i64 (e : Nat)) ∧ StAt w0 g U T q out w' ∧ KeepX V w' := fun V hV => take_any w0 g U T p _ e q out V (hs.fresh (hf.trans hV)) (by omega) hT h
  obtain ⟨lb, hlb⟩ : ∃ x, farBase.getD kk 0 = x := ⟨_, rfl⟩
  obtain ⟨lm, hlm⟩ : ∃ x, farMore kk = x := ⟨_, rfl⟩
  rw [hlb] at hcc hl ⊢
  rw [hlm] at htk
  unfold farMore at hlm
  have HLM := Lib.hid hlm
  have HCC := Lib.hid hcc
  have HTK := Lib.hid htk
  have HF := Lib.hid hf
  have HX := Lib.hid hX
  have ek : (kk : Int) < 30 := by omega
  have ek0 : (0 : Int) ≤ (kk : Int) := by omega
  have ea : IntKind.i64.wrap ((lb : Int) + (e : Int)) = (lb : Int) + (e : Int) := by rw [IntWalk.i64_in _ (by omega)]
  clear b1 hf hX hcc htk c1 hlb hlm hs h hm
  go_enter Tryz.func45, Tryz.ntmps45
  by_cases h4 : 4 ≤ kk
  · have hlm := HLM.out
    rw [if_pos h4] at hlm
    have p1 : decide ((kk : Int) ≥ 4) = true := by rw [decide_eq_true_iff]; omega
    have p2 : decide (4 ≤ (kk : Int)) = true := by rw [decide_eq_true_iff]; omega
    go_upto_region 5 with (fail)
    rw [HX.out]
    have e2 : (kk : Int) / 2 - 1 = (lm : Int) := by omega
    try rw [e2]
    go_region_held3 (fun V => V.cell? ⟨w.heap.size, kk, none⟩ = some (iv (lb : Nat))) (first | exact HCC.out _ (KeepX.fresh (Fresh.drew _)) | exact HCC.out _ HK9.out)
      (first
      | (go_at_call 19; (with_reducible refine (HTK.out _ (Fresh.drew _)).mono ?_); rintro e9 w9 ⟨rfl, hst9, hk9⟩; have HK9 := Lib.hid ((KeepX.fresh (Fresh.drew _)).trans hk9); have HST9 := Lib.hid hst9; clear hst9 hk9))
    all_goals
      go_wp2
      go_ret
      exact ⟨rfl, HST9.out, (KeepX.fresh HF.out).trans HK9.out⟩
  · have hlm := HLM.out
    rw [if_neg h4] at hlm
    have p1 : decide ((kk : Int) ≥ 4) = false := by rw [decide_eq_false_iff_not]; omega
    have p2 : decide (4 ≤ (kk : Int)) = false := by rw [decide_eq_false_iff_not]; omega
    subst hlm
    have htk0 : ∀ V, Fresh X V → Calls Tryz.prog 19 #[pg g, .int .i64 0] V fun e' w' => e' = .returned (.int .i64 (e : Nat)) ∧ StAt w0 g U T q out w' ∧ KeepX V w' := HTK.out
    have HTK := Lib.hid htk0
    clear htk0
    go_upto_region 5 with (fail)
    rw [HX.out]
    go_region_held3 (fun V => V.cell? ⟨w.heap.size, kk, none⟩ = some (iv (lb : Nat))) (first | exact HCC.out _ (KeepX.fresh (Fresh.drew _)) | exact HCC.out _ HK9.out)
      (first
      | (go_at_call 19; (with_reducible refine (HTK.out _ (Fresh.drew _)).mono ?_); rintro e9 w9 ⟨rfl, hst9, hk9⟩; have HK9 := Lib.hid ((KeepX.fresh (Fresh.drew _)).trans hk9); have HST9 := Lib.hid hst9; clear hst9 hk9))
    all_goals
      go_wp2
      go_ret
      exact ⟨rfl, HST9.out, (KeepX.fresh HF.out).trans HK9.out⟩
theorem sum_more {ls : List Nat} {j x : Nat} (h : ls[j]? = some x) : (ls.take (j + 1)).sum = (ls.take j).sum + x := by
  rw [List.take_add_one, h]
  simp
theorem sum_le {ls : List Nat} (h : ∀ x ∈ ls, x ≤ 15) : ls.sum ≤ 15 * ls.length := by
  induction ls with
  | nil => simp
  | cons a l ih =>
    have h1 := h a (by simp)
    have h2 := ih fun x hx => h x (List.mem_cons_of_mem _ hx)
    rw [List.sum_cons, List.length_cons]
    omega
set_option maxRecDepth 100000 in
theorem sum_any (A : Option Addr) (n c B : Nat) (ls : List Nat) (w : World) (hr : Rd w B A n (vn ls)) (hn : n ≤ 320) (h15 : ∀ x ∈ ls, x ≤ 15) :
    Calls Tryz.prog 78 #[.slice A n c] w fun e w' => e = .returned (.int .i64 ((ls.sum : Nat) : Int)) ∧ Fresh w w' := by
  have hl : ls.length = n := by have := hr.1; rwa [List.length_map] at this
  have hle : ∀ j, (ls.take j).sum ≤ 4800 := fun j => by
    have h1 := sum_le (ls := ls.take j) fun x hx => h15 x (List.mem_of_mem_take hx)
    rw [List.length_take] at h1
    omega
  have HLE := Lib.hid hle
  have H15 := Lib.hid h15
  have HL := Lib.hid hl
  clear hle h15 hl
  go_enter Tryz.func78, Tryz.ntmps78
  go_wp2
  go_loopw [3, 4] (fun v i wr => ∃ (j s : Nat), j ≤ n ∧ i = .int .i64 (j : Nat) ∧ v = .int .i64 (s : Nat) ∧ Hid (s = (ls.take j).sum) ∧ s ≤ 4800 ∧ wr = w) (fun _ i _ => n - (intOf i).toNat)
  case atStart => exact ⟨0, 0, Nat.zero_le _, rfl, rfl, rfl, by omega, rfl⟩
  case round =>
    obtain ⟨j, s, hj, rfl, rfl, hs, hs4, rfl⟩ := hrel
    by_cases hlt : j < n
    · obtain ⟨b, off, x, rfl, hb, hx, hcx⟩ := hr.at_ hlt
      have h15 := H15.out x (List.mem_of_getElem? hx)
      have hs2 : Hid (s + x = (ls.take (j + 1)).sum) := by show _ = _; rw [sum_more hx, ← hs.out]
      have hs5 : s + x ≤ 4800 := by rw [hs2.out]; exact HLE.out _
      have p1 : (j : Int) < (n : Int) := by omega
      clear hx hr
      go_wp2
      go_roundw
      case rel => exact ⟨j + 1, s + x, by omega, by go_num, by go_num, hs2, hs5, by first | rfl | trivial⟩
      case measure => simp [intOf]; omega
    · obtain rfl : j = n := by omega
      have he : s = ls.sum := by rw [hs.out, List.take_of_length_le (by rw [HL.out]; exact Nat.le_refl _)]
      subst he
      go_wp2
      go_ret
      exact ⟨rfl, Fresh.refl _⟩
end Go.Proofs.YtfpicifjjedlaaaGreatDoor.refp
/-
  Layer 6's reference: may; the fixed codes' lengths. My own text.
-/
namespace Go.Proofs.YtfpicifjjedlaaaGreatDoor.refp
open Go.RowKit Go.Proofs.YtfpicifjjedlaaaGreatDoor.base Go.Proofs.YtfpicifjjedlaaaGreatDoor.num Go.Proofs.YtfpicifjjedlaaaGreatDoor.bitnum Go.Proofs.YtfpicifjjedlaaaGreatDoor.bitp Go.Proofs.YtfpicifjjedlaaaGreatDoor.huffnum Go.Proofs.YtfpicifjjedlaaaGreatDoor.infnum
set_option linter.unusedVariables false
theorem fill_field (A : Option Addr) (m : Nat) (F : Int) (W : World) : (Instr.field tCodes (.agg #[.slice A m m, .int .i64 F]) 1).run Tryz.prog W = .ok (.int .i64 F) W := by
  simp [Instr.field, run_underlying Tryz.underlying91, asAgg, part, sizeOf, typeInfo]
theorem vn_zs (ls : List Nat) : vn ls = (ls.map fun x : Nat => (x : Int)).map iv := by rw [List.map_map]; rfl
theorem zs_ls (ls : List Nat) : (ls.map fun x : Nat => (x : Int)).map Int.toNat = ls := by
  rw [List.map_map]
  exact List.map_id'' (fun x => by simp) ls
/-- the reference's New of lengths that are no more than may be -/
theorem newR_any (A : Option Addr) (n c B : Nat) (ls : List Nat) (w : World) (hr : Rd w B A n (vn ls)) (hB : B ≤ w.heap.size) (hn : n ≤ 320) (h15 : ∀ x ∈ ls, x ≤ 15) (ht : tx ls 15 ≤ 32768) :
    Calls Tryz.prog 42 #[.slice A n c] w fun e w' => ∃ (L : Nat), e = .returned (.agg #[.slice (some ⟨L, 0, none⟩) ls.length ls.length, .int .i64 ((if tx ls 15 < 32768 then 1 else 0 : Nat) : Int)]) ∧ CodeR w' ls (.agg #[.slice (some ⟨L, 0, none⟩) ls.length ls.length, .int .i64 ((if tx ls 15 < 32768 then 1 else 0 : Nat) : Int)]) ∧ Fresh w w' := by
  rw [vn_zs] at hr
  refine (huffp.refNew_any A n c _ ls w B hr hB hn (fun z hz => ?_) (zs_ls ls)).mono ?_
  · obtain ⟨x, hx, rfl⟩ := List.mem_map.1 hz
    have := h15 x hx
    omega
  · rintro e w' ⟨hf, ⟨h, _⟩ | ⟨_, A1, L, R, F, he, hF, hat⟩⟩
    · omega
    · obtain ⟨rfl, hall⟩ := hat
      subst hF
      exact ⟨L, he, ⟨L, R, _, rfl, hall⟩, hf⟩
set_option maxRecDepth 100000 in
theorem may_any (A : Option Addr) (n c B : Nat) (ls : List Nat) (none : Bool) (w : World) (hr : Rd w B A n (vn ls)) (hB : B ≤ w.heap.size) (hn : n ≤ 320) (h15 : ∀ x ∈ ls, x ≤ 15) (hm : mayBe ls none = true) :
    Calls Tryz.prog 46 #[.slice A n c, .bool none] w fun e w' => e = .returned (.bool true) ∧ Fresh w w' := by
  unfold mayBe at hm
  rw [Bool.and_eq_true, decide_eq_true_iff] at hm
  obtain ⟨ht, hm⟩ := hm
  have hnew := newR_any A n c B ls w hr hB hn h15 ht
  have hsum := fun V (hV : Fresh w V) => sum_any A n c B ls V (hr.below hV hB) hn h15
  have hfd := fill_field
  obtain ⟨m, hml⟩ : ∃ m, ls.length = m := ⟨_, rfl⟩
  obtain ⟨S, hS⟩ : ∃ S, ls.sum = S := ⟨_, rfl⟩
  rw [hml] at hnew
  rw [hS] at hsum hm
  have HSUM := Lib.hid hsum
  by_cases h0 : tx ls 15 = 32768
  · rw [if_neg (by omega)] at hnew
    have HNEW := Lib.hid hnew
    clear hnew hsum hm hr h15 h0 hml hS ht
    go_enter Tryz.func46, Tryz.ntmps46
    go_wp2_with (go_at_call 42; (with_reducible refine HNEW.out.mono ?_); rintro e w1 ⟨L, rfl, _, hf1⟩; have hfd1 := hfd (some ⟨L, 0, Option.none⟩) m 0 w1; have HF1 := Lib.hid hf1; clear hf1)
    go_ret
    exact ⟨rfl, HF1.out⟩
  · rw [if_pos (by omega)] at hnew
    have hm2 : S = 1 ∨ (none = true ∧ S = 0) := by simpa [h0] using hm
    have HNEW := Lib.hid hnew
    clear hnew hsum hm hr h15 h0 hml hS ht
    rcases hm2 with rfl | ⟨rfl, rfl⟩
    · go_enter Tryz.func46, Tryz.ntmps46
      go_wp2_with (first
        | (go_at_call 42; (with_reducible refine HNEW.out.mono ?_); rintro e w1 ⟨L, rfl, _, hf1⟩; have hfd1 := hfd (some ⟨L, 0, Option.none⟩) m 1 w1; have HF1 := Lib.hid hf1; clear hf1)
        | (go_at_call 78; (with_reducible refine (HSUM.out w1 HF1.out).mono ?_); rintro e w2 ⟨rfl, hf2⟩; have HF2 := Lib.hid (HF1.out.trans hf2); clear hf2))
      go_ret
      exact ⟨rfl, HF2.out⟩
    · go_enter Tryz.func46, Tryz.ntmps46
      go_wp2_with (first
        | (go_at_call 42; (with_reducible refine HNEW.out.mono ?_); rintro e w1 ⟨L, rfl, _, hf1⟩; have hfd1 := hfd (some ⟨L, 0, Option.none⟩) m 1 w1; have HF1 := Lib.hid hf1; clear hf1)
        | (go_at_call 78; (with_reducible refine (HSUM.out w1 HF1.out).mono ?_); rintro e w2 ⟨rfl, hf2⟩; have HF2 := Lib.hid (HF1.out.trans hf2); clear hf2)
        | (go_at_call 78; (with_reducible refine (HSUM.out w2 HF2.out).mono ?_); rintro e w3 ⟨rfl, hf3⟩; have HF3 := Lib.hid (HF2.out.trans hf3); clear hf3))
      go_ret
      exact ⟨rfl, HF3.out⟩
set_option maxRecDepth 100000 in
theorem fixedDist_any (w : World) : Calls Tryz.prog 23 #[] w fun e w' => ∃ A c, e = .returned (.slice A 32 c) ∧ Own w' w.heap.size tI A 32 c (vn fixedDist) ∧ Fresh w w' := by
  obtain ⟨i0, hi0, hz0, hz1, hz2⟩ := info_parts info_int
  go_enter Tryz.func23, Tryz.ntmps23
  go_wp2
  go_loopw [1, 2] (fun v i wr => ∃ (j c : Nat) (A : Option Addr), j ≤ 32 ∧ i = .int .i64 (j : Nat) ∧ v = .slice A j c ∧ Own wr w.heap.size tI A j c (vn (fixedDist.take j)) ∧ Fresh w wr) (fun _ i _ => 32 - (intOf i).toNat)
  case atStart => exact ⟨0, 0, none, Nat.zero_le _, rfl, rfl, Own.nil _ _ _, Fresh.refl _⟩
  case round =>
    obtain ⟨j, c, A, hj, rfl, rfl, hown, hfr⟩ := hrel
    have HO := Lib.hid hown
    have HF := Lib.hid hfr
    have hsz := hfr.size
    clear hown hfr
    by_cases hlt : j < 32
    · have p1 : (j : Int) < 32 := by omega
      have hx : fixedDist[j]? = some 5 := by unfold fixedDist; rw [List.getElem?_replicate, if_pos hlt]
      have hst : vn (fixedDist.take j) ++ [.int .i64 5] = vn (fixedDist.take (j + 1)) := by
        rw [List.take_add_one, hx, vn, vn, List.map_append]
        rfl
      have HST := Lib.hid hst
      clear hst hx
      go_wp2_with ((with_reducible refine at_slot_ 9 ?_); refine wpList_append_rd _ rfl (.tmp 7) (.tmp 8) 44 rfl w.heap.size tI i0 _ 8 Tryz.underlying44 hi0 hz0 hz1 hz2 rfl A j c _ rfl (Own.fresh HO.out (Fresh.alloc _ _)) (wr.heap.size + 1) (some ⟨wr.heap.size, 0, none⟩) 1 1 [.int .i64 5] rfl (Rd.lit wr #[.int .i64 5] tI) (one_one _ _) (by unfold maxLen; omega) (by omega) (by simp; omega) ?_; intro A3 c3 w3 hown3 hg3; have hf3 := (HF.out.trans (Fresh.alloc _ _)).append (Own.fresh HO.out (Fresh.alloc _ _)) (Nat.le_refl _) hg3; rw [HST.out] at hown3; have HO3 := Lib.hid hown3; have HF3 := Lib.hid hf3; clear hown3 hg3 hf3)
      go_roundw
      case rel => exact ⟨j + 1, c3, A3, by omega, by go_num, rfl, HO3.out, HF3.out⟩
      case measure => simp [intOf]; omega
    · obtain rfl : j = 32 := by omega
      have ho := HO.out
      rw [show fixedDist.take 32 = fixedDist from List.take_of_length_le (by decide)] at ho
      have HO2 := Lib.hid ho
      clear ho
      go_wp2
      go_ret
      exact ⟨A, c, rfl, HO2.out, HF.out⟩
set_option maxRecDepth 100000 in
theorem fixedLits_any (w : World) : Calls Tryz.prog 22 #[] w fun e w' => ∃ A c, e = .returned (.slice A 288 c) ∧ Own w' w.heap.size tI A 288 c (vn fixedLits) ∧ Fresh w w' := by
  obtain ⟨i0, hi0, hz0, hz1, hz2⟩ := info_parts info_int
  go_enter Tryz.func22, Tryz.ntmps22
  go_wp2
  go_loopw [1, 2] (fun v i wr => ∃ (j c : Nat) (A : Option Addr), j ≤ 288 ∧ i = .int .i64 (j : Nat) ∧ v = .slice A j c ∧ Own wr w.heap.size tI A j c (vn (fixedLits.take j)) ∧ Fresh w wr) (fun _ i _ => 288 - (intOf i).toNat)
  case atStart => exact ⟨0, 0, none, Nat.zero_le _, rfl, rfl, Own.nil _ _ _, Fresh.refl _⟩
  case round =>
    obtain ⟨j, c, A, hj, rfl, rfl, hown, hfr⟩ := hrel
    have HO := Lib.hid hown
    have HF := Lib.hid hfr
    have hsz := hfr.size
    clear hown hfr
    by_cases hlt : j < 288
    · have p1 : (j : Int) < 288 := by omega
      have hx0 : fixedLits[j]? = some (if 144 ≤ j ∧ j < 256 then 9 else if 256 ≤ j ∧ j < 280 then 7 else 8) := by unfold fixedLits; rw [List.getElem?_map, List.getElem?_range hlt]; rfl
      by_cases h1 : 144 ≤ j
      · by_cases h2 : j < 256
        · have hx : fixedLits[j]? = some 9 := by rw [hx0, if_pos ⟨h1, h2⟩]
          have t1 : decide ((j : Int) ≥ 144) = true := by rw [decide_eq_true_iff]; omega
          have t2 : decide (144 ≤ (j : Int)) = true := by rw [decide_eq_true_iff]; omega
          have t3 : decide ((j : Int) < 256) = true := by rw [decide_eq_true_iff]; omega
          have t4 : decide ((j : Int) ≥ 256) = false := by rw [decide_eq_false_iff_not]; omega
          have t5 : decide (256 ≤ (j : Int)) = false := by rw [decide_eq_false_iff_not]; omega
          clear hx0 h1 h2
          have hst : vn (fixedLits.take j) ++ [.int .i64 9] = vn (fixedLits.take (j + 1)) := by
            rw [List.take_add_one, hx, vn, vn, List.map_append]
            rfl
          have HST := Lib.hid hst
          clear hst hx
          go_wp2_with ((with_reducible refine at_slot_ 23 ?_); refine wpList_append_rd _ rfl (.tmp 20) (.tmp 22) 44 rfl w.heap.size tI i0 _ 8 Tryz.underlying44 hi0 hz0 hz1 hz2 rfl A j c _ rfl (Own.fresh HO.out (Fresh.alloc _ _)) (wr.heap.size + 1) (some ⟨wr.heap.size, 0, none⟩) 1 1 [.int .i64 9] rfl (Rd.lit wr #[.int .i64 9] tI) (one_one _ _) (by unfold maxLen; omega) (by omega) (by simp; omega) ?_; intro A3 c3 w3 hown3 hg3; have hf3 := (HF.out.trans (Fresh.alloc _ _)).append (Own.fresh HO.out (Fresh.alloc _ _)) (Nat.le_refl _) hg3; rw [HST.out] at hown3; have HO3 := Lib.hid hown3; have HF3 := Lib.hid hf3; clear hown3 hg3 hf3)
          go_roundw
          case rel => exact ⟨j + 1, c3, A3, by omega, by go_num, rfl, HO3.out, HF3.out⟩
          case measure => simp [intOf]; omega
        · by_cases h3 : j < 280
          · have hx : fixedLits[j]? = some 7 := by rw [hx0, if_neg (by omega), if_pos ⟨by omega, h3⟩]
            have t1 : decide ((j : Int) ≥ 144) = true := by rw [decide_eq_true_iff]; omega
            have t2 : decide (144 ≤ (j : Int)) = true := by rw [decide_eq_true_iff]; omega
            have t3 : decide ((j : Int) < 256) = false := by rw [decide_eq_false_iff_not]; omega
            have t4 : decide ((j : Int) ≥ 256) = true := by rw [decide_eq_true_iff]; omega
            have t5 : decide (256 ≤ (j : Int)) = true := by rw [decide_eq_true_iff]; omega
            have t6 : decide ((j : Int) < 280) = true := by rw [decide_eq_true_iff]; omega
            clear hx0 h1 h2 h3
            have hst : vn (fixedLits.take j) ++ [.int .i64 7] = vn (fixedLits.take (j + 1)) := by
              rw [List.take_add_one, hx, vn, vn, List.map_append]
              rfl
            have HST := Lib.hid hst
            clear hst hx
            go_wp2_with ((with_reducible refine at_slot_ 23 ?_); refine wpList_append_rd _ rfl (.tmp 20) (.tmp 22) 44 rfl w.heap.size tI i0 _ 8 Tryz.underlying44 hi0 hz0 hz1 hz2 rfl A j c _ rfl (Own.fresh HO.out (Fresh.alloc _ _)) (wr.heap.size + 1) (some ⟨wr.heap.size, 0, none⟩) 1 1 [.int .i64 7] rfl (Rd.lit wr #[.int .i64 7] tI) (one_one _ _) (by unfold maxLen; omega) (by omega) (by simp; omega) ?_; intro A3 c3 w3 hown3 hg3; have hf3 := (HF.out.trans (Fresh.alloc _ _)).append (Own.fresh HO.out (Fresh.alloc _ _)) (Nat.le_refl _) hg3; rw [HST.out] at hown3; have HO3 := Lib.hid hown3; have HF3 := Lib.hid hf3; clear hown3 hg3 hf3)
            go_roundw
            case rel => exact ⟨j + 1, c3, A3, by omega, by go_num, rfl, HO3.out, HF3.out⟩
            case measure => simp [intOf]; omega
          · have hx : fixedLits[j]? = some 8 := by rw [hx0, if_neg (by omega), if_neg (by omega)]
            have t1 : decide ((j : Int) ≥ 144) = true := by rw [decide_eq_true_iff]; omega
            have t2 : decide (144 ≤ (j : Int)) = true := by rw [decide_eq_true_iff]; omega
            have t3 : decide ((j : Int) < 256) = false := by rw [decide_eq_false_iff_not]; omega
            have t4 : decide ((j : Int) ≥ 256) = true := by rw [decide_eq_true_iff]; omega
            have t5 : decide (256 ≤ (j : Int)) = true := by rw [decide_eq_true_iff]; omega
            have t6 : decide ((j : Int) < 280) = false := by rw [decide_eq_false_iff_not]; omega
            clear hx0 h1 h2 h3
            have hst : vn (fixedLits.take j) ++ [.int .i64 8] = vn (fixedLits.take (j + 1)) := by
              rw [List.take_add_one, hx, vn, vn, List.map_append]
              rfl
            have HST := Lib.hid hst
            clear hst hx
            go_wp2_with ((with_reducible refine at_slot_ 23 ?_); refine wpList_append_rd _ rfl (.tmp 20) (.tmp 22) 44 rfl w.heap.size tI i0 _ 8 Tryz.underlying44 hi0 hz0 hz1 hz2 rfl A j c _ rfl (Own.fresh HO.out (Fresh.alloc _ _)) (wr.heap.size + 1) (some ⟨wr.heap.size, 0, none⟩) 1 1 [.int .i64 8] rfl (Rd.lit wr #[.int .i64 8] tI) (one_one _ _) (by unfold maxLen; omega) (by omega) (by simp; omega) ?_; intro A3 c3 w3 hown3 hg3; have hf3 := (HF.out.trans (Fresh.alloc _ _)).append (Own.fresh HO.out (Fresh.alloc _ _)) (Nat.le_refl _) hg3; rw [HST.out] at hown3; have HO3 := Lib.hid hown3; have HF3 := Lib.hid hf3; clear hown3 hg3 hf3)
            go_roundw
            case rel => exact ⟨j + 1, c3, A3, by omega, by go_num, rfl, HO3.out, HF3.out⟩
            case measure => simp [intOf]; omega
      · have hx : fixedLits[j]? = some 8 := by rw [hx0, if_neg (by omega), if_neg (by omega)]
        have t1 : decide ((j : Int) ≥ 144) = false := by rw [decide_eq_false_iff_not]; omega
        have t2 : decide (144 ≤ (j : Int)) = false := by rw [decide_eq_false_iff_not]; omega
        have t4 : decide ((j : Int) ≥ 256) = false := by rw [decide_eq_false_iff_not]; omega
        have t5 : decide (256 ≤ (j : Int)) = false := by rw [decide_eq_false_iff_not]; omega
        clear hx0 h1
        have hst : vn (fixedLits.take j) ++ [.int .i64 8] = vn (fixedLits.take (j + 1)) := by
          rw [List.take_add_one, hx, vn, vn, List.map_append]
          rfl
        have HST := Lib.hid hst
        clear hst hx
        go_wp2_with ((with_reducible refine at_slot_ 23 ?_); refine wpList_append_rd _ rfl (.tmp 20) (.tmp 22) 44 rfl w.heap.size tI i0 _ 8 Tryz.underlying44 hi0 hz0 hz1 hz2 rfl A j c _ rfl (Own.fresh HO.out (Fresh.alloc _ _)) (wr.heap.size + 1) (some ⟨wr.heap.size, 0, none⟩) 1 1 [.int .i64 8] rfl (Rd.lit wr #[.int .i64 8] tI) (one_one _ _) (by unfold maxLen; omega) (by omega) (by simp; omega) ?_; intro A3 c3 w3 hown3 hg3; have hf3 := (HF.out.trans (Fresh.alloc _ _)).append (Own.fresh HO.out (Fresh.alloc _ _)) (Nat.le_refl _) hg3; rw [HST.out] at hown3; have HO3 := Lib.hid hown3; have HF3 := Lib.hid hf3; clear hown3 hg3 hf3)
        go_roundw
        case rel => exact ⟨j + 1, c3, A3, by omega, by go_num, rfl, HO3.out, HF3.out⟩
        case measure => simp [intOf]; omega
    · obtain rfl : j = 288 := by omega
      have ho := HO.out
      rw [show fixedLits.take 288 = fixedLits from List.take_of_length_le (by decide)] at ho
      have HO2 := Lib.hid ho
      clear ho
      go_wp2
      go_ret
      exact ⟨A, c, rfl, HO2.out, HF.out⟩
end Go.Proofs.YtfpicifjjedlaaaGreatDoor.refp
