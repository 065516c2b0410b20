import Derived.Test.YtppgceighgpgoaaGreatDoorMgBse
import Derived.Test.YtppgceighgpgoaaGreatDoorDefStored
import Derived.Maps.Keyed
import Derived.WideKeyPair
/-
  What came ahead: the finder's map, its calls. My own text.
-/
namespace Go.Proofs.YtppgceighgpgoaaGreatDoor.defp
open Go.RowKit Go.Maps Go.Proofs.YtppgceighgpgoaaGreatDoor.base Go.Proofs.YtppgceighgpgoaaGreatDoor.num Go.Proofs.YtppgceighgpgoaaGreatDoor.bitnum Go.Proofs.YtppgceighgpgoaaGreatDoor.bitp Go.Proofs.YtppgceighgpgoaaGreatDoor.infp
set_option linter.unusedVariables false

/-! three bytes as a key -/
abbrev tThree : TypeId := 83
abbrev tMap : TypeId := 47
abbrev tFind : TypeId := 49
theorem arr3 : WideMaps.ArrKey Tryz.prog tThree 5 3 := ⟨Tryz.underlying83, by kernel_rfl, by kernel_rfl, by kernel_rfl⟩
theorem keyed3 : Keyed Tryz.prog tThree := Keyed.of_law arr3.law
theorem types_some : ∃ m, Tryz.prog.types.size = m + 1 := ⟨Tryz.prog.types.size - 1, by
  have h : 0 < Tryz.prog.types.size := of_decide_eq_true (by kernel_rfl)
  omega⟩
/-- three bytes -/
structure K3 where
  x : UInt8
  y : UInt8
  z : UInt8
deriving DecidableEq
def K3.val (k : K3) : Value := .agg #[bv k.x, bv k.y, bv k.z]
theorem wf_bv (x : UInt8) : (Lit.int .u8 (x.toNat : Int)).wf = true := by
  have := x.toNat_lt
  simp [Lit.wf, IntKind.min, IntKind.max, IntKind.signed, IntKind.bits]
  omega
theorem key3 (k : K3) : keyOf Tryz.prog tThree k.val = some (.string (keyBytes [.int .u8 (k.x.toNat : Int), .int .u8 (k.y.toNat : Int), .int .u8 (k.z.toNat : Int)])) := by
  have A := arr3
  have hkt := A.keyType types_some
  obtain ⟨m, hm⟩ := types_some
  have he : Tryz.prog.underlying 5 = some (.int .u8) := Tryz.underlying5
  unfold keyOf
  simp only [A.hu]
  rw [if_pos (by simp [hkt, Value.formed, A.hu, A.size, K3.val]), hm]
  unfold Program.keyLits
  simp only [A.hu, Value.cells, K3.val]
  rw [if_pos (by rw [A.size]; rfl), show List.range 3 = [0, 1, 2] from rfl, List.mapM_cons, List.mapM_cons, List.mapM_cons, List.mapM_nil]
  simp [A.one, Program.keyLits, he, bv, wf_bv]
theorem K3.val_inj {a b : K3} (h : a.val = b.val) : a = b := by
  obtain ⟨a1, a2, a3⟩ := a
  obtain ⟨b1, b2, b3⟩ := b
  have inj : ∀ {x y : UInt8}, bv x = bv y → x = y := fun {x y} h => by
    unfold bv at h
    injection h with _ h
    exact UInt8.toNat_inj.1 (by omega)
  simp only [K3.val, Value.agg.injEq] at h
  have h' := congrArg Array.toList h
  simp only [List.cons.injEq, and_true] at h'
  rw [inj h'.1, inj h'.2.1, inj h'.2.2]

/-! where three bytes came last, within 32768 -/
def at3 (b : List UInt8) (p : Nat) : K3 := ⟨b.getD p 0, b.getD (p + 1) 0, b.getD (p + 2) 0⟩
/-- the last place ahead of i with these three bytes -/
def IsLast (b : List UInt8) (i : Nat) (k : K3) (p : Nat) : Prop := p < i ∧ p + 3 ≤ b.length ∧ at3 b p = k ∧ i ≤ p + 32768 ∧ ∀ q, p < q → q < i → q + 3 ≤ b.length → at3 b q ≠ k
theorem IsLast.uniq {b : List UInt8} {i p q : Nat} {k : K3} (h : IsLast b i k p) (h' : IsLast b i k q) : p = q := by
  rcases Nat.lt_trichotomy p q with e | e | e
  · exact absurd h'.2.2.1 (h.2.2.2.2 q e h'.1 h'.2.1)
  · exact e
  · exact absurd h.2.2.1 (h'.2.2.2.2 p e h.1 h.2.1)
/-- the map holds just these -/
def Holds (b : List UInt8) (i : Nat) (kv : List (Value × Value)) : Prop :=
  (∀ x ∈ kv, ∃ k p, x = (K3.val k, iv (p : Nat)) ∧ IsLast b i k p) ∧ ∀ k p, IsLast b i k p → (K3.val k, iv (p : Nat)) ∈ kv
theorem Holds.start (b : List UInt8) : Holds b 0 [] := ⟨fun x hx => (by cases hx), fun k p h => absurd h.1 (Nat.not_lt_zero _)⟩
theorem Holds.miss {b : List UInt8} {i : Nat} {kv : List (Value × Value)} (h : Holds b i kv) {k : K3} (hk : ∀ p, ¬ IsLast b i k p) : ∀ x ∈ kv, x.1 ≠ K3.val k := fun x hx e => by
  obtain ⟨k', p, rfl, hp⟩ := h.1 x hx
  have := K3.val_inj e
  subst this
  exact hk p hp

/-- a finder: the bytes b; the map at block m has where three bytes came last, ahead of i -/
structure FindAt (w : World) (f B : Nat) (A : Option Addr) (n c : Nat) (b : List UInt8) (m i : Nat) : Prop where
  cells : Bk w f tFind [.slice A n c, .map (some m)]
  rd : Rd w B A n (b.map bv)
  big : n ≤ 16777216
  map : ∃ kv, MapOf Tryz.prog tThree w m kv ∧ (i + 2 ≤ n → Holds b i kv)
  fB : B ≤ f
  mB : B ≤ m
  fm : f ≠ m
section
variable {w w' : World} {f B n c m i : Nat} {A : Option Addr} {b : List UInt8}
theorem FindAt.len (h : FindAt w f B A n c b m i) : b.length = n := by have := h.rd.1; rwa [List.length_map] at this
theorem FindAt.fresh (h : FindAt w f B A n c b m i) (k : Fresh w w') : FindAt w' f B A n c b m i := by
  obtain ⟨kv, h1, h2⟩ := h.map
  exact { h with cells := h.cells.fresh k, rd := h.rd.keep fun q hq => k.block q (by have := h.cells.inside; have := h.fB; omega), map := ⟨kv, h1.old (k.block m h1.inside), h2⟩ }
theorem cell_get {xs : List UInt8} (h : Rd w B A n (xs.map bv)) {j : Nat} (hj : j < n) : ∃ q off, A = some ⟨q, off, none⟩ ∧ q < B ∧ w.cell? ⟨q, off + j, none⟩ = some (bv (xs.getD j 0)) := by
  obtain ⟨q, off, e, hq, hc⟩ := h.2 (by omega)
  have hl := h.1
  rw [List.length_map] at hl
  refine ⟨q, off, e, hq, hc j _ ?_⟩
  rw [List.getElem?_map, List.getElem?_eq_getElem (by omega)]
  simp [List.getD, List.getElem?_eq_getElem (show j < xs.length by omega)]
set_option maxRecDepth 100000 in
theorem whole_any (h : FindAt w f B A n c b m i) (a : Nat) (ha : a ≤ 33554432) : Calls Tryz.prog 35 #[.pointer (some ⟨f, 0, none⟩), .int .i64 a] w fun e w' => e = .returned (.bool (decide (a + 3 ≤ n))) ∧ Fresh w w' := by
  have h0 : w.cell? ⟨f, 0, none⟩ = some (.slice A n c) := h.cells.cell rfl
  have hn := h.big
  clear h
  go_enter Tryz.func35, Tryz.ntmps35
  go_wp2
  go_ret
  have e : decide ((a : Int) + 3 ≤ (n : Int)) = decide (a + 3 ≤ n) := by
    by_cases h : a + 3 ≤ n
    · rw [decide_eq_true h, decide_eq_true (by omega)]
    · rw [decide_eq_false h, decide_eq_false (by omega)]
  exact ⟨congrArg (fun t => Ending.returned (Value.bool t)) e, Fresh.refl _⟩
set_option maxRecDepth 100000 in
set_option maxHeartbeats 4000000 in
theorem three_raw (hcs : Bk w f tFind [.slice A n c, .map (some m)]) (hrd : Rd w B A n (b.map bv)) (hn : n ≤ 16777216) (hfB : B ≤ f) (a : Nat) (ha : a + 3 ≤ n) : Calls Tryz.prog 36 #[.pointer (some ⟨f, 0, none⟩), .int .i64 a] w fun e w' => e = .returned (K3.val (at3 b a)) ∧ Fresh w w' := by
  have h0 : w.cell? ⟨f, 0, none⟩ = some (.slice A n c) := hcs.cell rfl
  obtain ⟨q, off, rfl, hq, hc0⟩ := cell_get hrd (j := a) (by omega)
  obtain ⟨q', off', e', hq', hc1⟩ := cell_get hrd (j := a + 1) (by omega)
  injection e' with e'
  injection e' with e1 e2 _
  subst e1; subst e2
  obtain ⟨q', off', e', hq', hc2⟩ := cell_get hrd (j := a + 2) (by omega)
  injection e' with e'
  injection e' with e1 e2 _
  subst e1; subst e2
  unfold at3
  generalize b.getD a 0 = x0 at *
  generalize b.getD (a + 1) 0 = y0 at *
  generalize b.getD (a + 2) 0 = z0 at *
  have hfw := hcs.inside
  have hBw : B ≤ w.heap.size := by omega
  clear hcs hrd
  go_enter Tryz.func36, Tryz.ntmps36
  go_wp2
  have hf := Fresh.alloc w (.cells #[.int .u8 0, .int .u8 0, .int .u8 0] tThree)
  have hB := Bk.made w tThree #[.int .u8 0, .int .u8 0, .int .u8 0]
  have hqw : q < w.heap.size := Nat.lt_of_lt_of_le hq hBw
  have k0 := (World.cell?_of_block (a := ⟨f, 0, none⟩) (hf.block f hfw)).trans h0
  have k1 := (World.cell?_of_block (a := ⟨q, off + a, none⟩) (hf.block q hqw)).trans hc0
  have k2 := (World.cell?_of_block (a := ⟨q, off + (a + 1), none⟩) (hf.block q hqw)).trans hc1
  have k3 := (World.cell?_of_block (a := ⟨q, off + (a + 2), none⟩) (hf.block q hqw)).trans hc2
  clear h0 hc0 hc1 hc2
  generalize w.alloc (.cells #[.int .u8 0, .int .u8 0, .int .u8 0] tThree) = W at *
  have HB := Lib.hid hB
  clear hB
  obtain ⟨a1, ha1⟩ : ∃ a1, a + 1 = a1 := ⟨_, rfl⟩
  obtain ⟨a2, ha2⟩ : ∃ a2, a + 2 = a2 := ⟨_, rfl⟩
  rw [ha1] at k2
  rw [ha2] at k3
  have e1 : IntKind.i64.wrap ((a : Int) + 1) = (a1 : Int) := by rw [IntWalk.i64_in _ (by omega)]; omega
  have e2 : IntKind.i64.wrap ((a : Int) + 2) = (a2 : Int) := by rw [IntWalk.i64_in _ (by omega)]; omega
  have i0 : (a : Int) < (n : Int) := by omega
  have i1 : (a1 : Int) < (n : Int) := by omega
  have i2 : (a2 : Int) < (n : Int) := by omega
  have j0 : (0 : Int) ≤ (a : Int) := by omega
  have j1 : (0 : Int) ≤ (a1 : Int) := by omega
  have j2 : (0 : Int) ≤ (a2 : Int) := by omega
  refine wp_region_still_tail 24 (by kernel_rfl) (by kernel_rfl) ?_
  simp only [List.take_succ_cons, List.take_zero, List.drop_succ_cons, List.drop_zero]
  repeat still_step
  refine wpStill_nil ?_
  have hbw : Bk W.drew w.heap.size tThree #[Value.int .u8 0, .int .u8 0, .int .u8 0].toList := HB.out.fresh (Fresh.drew W)
  have r0 : (W.drew.setRow w.heap.size #[bv x0, bv y0, bv z0]).heap[w.heap.size]? = some (.cells #[bv x0, bv y0, bv z0] tThree (0, 0)) := hbw.row _
  have R0 := Lib.hid r0
  have HBW := Lib.hid hbw
  have HF := Lib.hid hf
  clear r0 hbw HB k0 k1 k2 k3 hf
  go_wp2_with (refine wpList_store_row (o := ⟨none, _, _, _, _, _⟩) rfl tThree (.tmp 4) (.tmp 28) rfl w.heap.size #[bv x0, bv y0, bv z0] rfl rfl tThree _ HBW.out (by kernel_rfl) (by simp) (by kernel_rfl) ?_)
  exact bodyPost_ret (results_cell_row (p := 4) (by kernel_rfl) _ _ w.heap.size tThree #[bv x0, bv y0, bv z0] (0, 0) _ rfl R0.out Tryz.underlying83 rfl (by kernel_rfl)) rfl ⟨rfl, ((HF.out.trans (Fresh.drew W)).but (Nat.le_refl _) (But.row _ _ _))⟩
theorem three_any (h : FindAt w f B A n c b m i) (a : Nat) (ha : a + 3 ≤ n) : Calls Tryz.prog 36 #[.pointer (some ⟨f, 0, none⟩), .int .i64 a] w fun e w' => e = .returned (K3.val (at3 b a)) ∧ Fresh w w' := three_raw h.cells h.rd h.big h.fB a ha
end
end Go.Proofs.YtppgceighgpgoaaGreatDoor.defp
