import Derived.Test.YtlaecigjnknhoaaDoorInfRest
/-
  New, Put onto a new unpacker; an unpacker between calls, apart from other rows. My own text.
-/
namespace Go.Proofs.YtlaecigjnknhoaaDoor.infp
open Go.RowKit Go.Proofs.YtlaecigjnknhoaaDoor.base Go.Proofs.YtlaecigjnknhoaaDoor.num Go.Proofs.YtlaecigjnknhoaaDoor.bitnum Go.Proofs.YtlaecigjnknhoaaDoor.bitp Go.Proofs.YtlaecigjnknhoaaDoor.huffnum Go.Proofs.YtlaecigjnknhoaaDoor.huffp Go.Proofs.YtlaecigjnknhoaaDoor.infnum
set_option linter.unusedVariables false

/-- an unpacker without input -/
def v0 : V := ⟨.slice none 0 0, 0, .pointer none, .slice none 0 0, 0, 0, false, 0, 0, 0, .pointer none, .pointer none, .pointer none, .pointer none, 0, false⟩
theorem new_any (w : World) : Calls Tryd.prog 21 #[] w fun e w' => e = .returned (ptr w.heap.size) ∧ InfAt w' w.heap.size v0 ∧ Fresh w w' := by
  go_enter Tryd.func21, Tryd.ntmps21
  go_wp2
  go_ret
  exact ⟨rfl, Bk.made w tInf _, Fresh.alloc _ _⟩
section
variable {S0 : List Nat} {w0 w w' : World} {g o p k P M : Nat} {v : V} {b H H0 : List UInt8} {rl wl : List Nat} {s : At}
theorem Own.rowAt {base n c : Nat} {A : Option Addr} {xs : List UInt8} (h : Own w base 5 A n c (xs.map bv)) : RowAt w (blkOf (.slice A n c)) A n c xs := by
  have hl : xs.length = n := by have := h.1; simpa using this
  obtain ⟨h1, h2⟩ := h.cap
  refine ⟨hl, h1, h2, fun hn => ?_⟩
  obtain ⟨q, cap, hv, hb, hlt⟩ := World.ownsRow.form h hn
  injection hv with hA _ _
  subst hA
  refine ⟨0, rfl, hlt, fun j x hx => ?_⟩
  have := World.ownsRow.cells h (g := q) rfl j (bv x) (by rw [List.getElem?_map, hx]; rfl)
  have hadd : (⟨q, 0, none⟩ : Addr).add j = ⟨q, 0 + j, none⟩ := by unfold Addr.add; split <;> simp_all
  rwa [hadd] at this
/-- the block of a row that is the call's own: none, or one that is new -/
theorem Own.blk {base n c : Nat} {A : Option Addr} {e : TypeId} {xs : List Value} (h : Own w base e A n c xs) : blkOf (.slice A n c) = 0 ∨ (base ≤ blkOf (.slice A n c) ∧ blkOf (.slice A n c) < w.heap.size ∧ (Value.slice A n c).ownBlock = some (blkOf (.slice A n c))) := by
  rcases h.2 with ⟨hv, hn⟩ | ⟨q, cap, cur, hv, hb, hg, r⟩
  · injection hv with hA _ _
    subst hA
    exact .inl rfl
  · injection hv with hA _ _
    subst hA
    exact .inr ⟨hb, (Array.getElem?_eq_some_iff.1 hg).1, rfl⟩
set_option maxRecDepth 100000 in
theorem put_src (g : Nat) (v : V) (w : World) (A : Option Addr) (n c B : Nat) (bs : List UInt8) (hb : InfAt w g v) (hv : v.rest = .slice none 0 0) (hr : Rd w B A n (bs.map bv)) (hn : n ≤ 16777216) :
    Calls Tryd.prog 22 #[ptr g, .slice A n c] w fun e w' => e = .returned (.tuple #[]) ∧
      ∃ A1 c1, InfAt w' g { v with rest := .slice A1 n c1 } ∧ Own w' w.heap.size 5 A1 n c1 (bs.map bv) ∧ Turn [g] [g] w w' := by
  obtain ⟨i0, hi0, hz0, hz1, hz2⟩ := info_parts info_byte
  have h0 : w.cell? ⟨g, 0, none⟩ = some (.slice none 0 0) := by rw [← hv]; exact hb.cell rfl
  have hf0 := hb.free 0
  have hin := hb.inside
  have HB := Lib.hid hb
  have HR := Lib.hid hr
  have hz : (0 : Nat) + n = n := by omega
  clear hb hr
  go_enter Tryd.func22, Tryd.ntmps22
  go_wp2_with (first
    | (at_builtin; go_loud (refine wpList_append_rdx _ rfl _ _ 22 rfl w.heap.size 5 i0 _ 1 Tryd.underlying22 hi0 hz0 hz1 hz2 rfl none 0 0 [] rfl (Own.nil _ _ _) B A n c (bs.map bv) rfl HR.out (bv_one bs) (by unfold maxLen; omega) (by omega) (Nat.le_refl _) ?_); intro A1 c1 w1 ho1 hg1 hw1; rw [hz] at ho1 hw1 ⊢; have hb1 := HB.out.grown hg1 (by simp [Value.ownBlock]); have hf1 := hb1.free 0; have hc0 : w1.cell? ⟨g, 0, none⟩ = some (.slice none 0 0) := (by rw [← hv]; exact hb1.cell rfl)))
  go_end0
  rw [List.nil_append] at ho1
  have hne1 := ho1.ne_block hb1 (by decide)
  refine ⟨rfl, A1, c1, hb1.put 0 _, ho1.but (But.put _ _) hne1, ?_⟩
  exact (Turn.of_grown hg1 (by simp [Value.ownBlock])).trans (Turn.but (But.put _ _) (by simp))
set_option maxRecDepth 100000 in
/-- bytes handed in to a new unpacker -/
theorem put_new (g : Nat) (w : World) (A : Option Addr) (n c B : Nat) (bs : List UInt8) (hb : InfAt w g v0) (hr : Rd w B A n (bs.map bv)) (hn : n ≤ 16777216) :
    Calls Tryd.prog 12 #[ptr g, .slice A n c] w fun e w' => e = .returned (.tuple #[]) ∧
      ∃ A1 c1, InfAt w' g { v0 with rest := .slice A1 n c1 } ∧ Own w' w.heap.size 5 A1 n c1 (bs.map bv) ∧ Turn [g] [g] w w' := by
  have h5 : w.cell? ⟨g, 5, none⟩ = some (iv (0 : Nat)) := hb.cell rfl
  have hp := put_src g v0 w A n c B bs hb rfl hr hn
  have HP := Lib.hid hp
  clear hb hr hp
  go_enter Tryd.func12, Tryd.ntmps12
  go_wp2_with (go_at_call 22; refine HP.out.mono ?_; rintro e w2 ⟨rfl, A1, c1, hi, ho, hT⟩)
  go_end0
  exact ⟨rfl, A1, c1, hi, ho, hT⟩
/-- an unpacker between calls, its blocks from N on; apart from the blocks R -/
def LiveX (w : World) (g : Nat) (b : List UInt8) (v : V) (H : List UInt8) (R : List Nat) (N : Nat) : Prop :=
  1 < N ∧ ∃ S, Live S w w g b v H ∧ (∀ x ∈ S, N ≤ x) ∧ ∀ x ∈ R, x ∉ S ∧ 1 < x ∧ x < w.heap.size ∧ x ≠ blkOf v.rest
/-- an unpacker that has its input -/
theorem LiveX.begin_ {A : Option Addr} {n c N : Nat} {bs : List UInt8} (hi : InfAt w' g { v0 with rest := .slice A n c }) (ho : Own w' w.heap.size 5 A n c (bs.map bv)) (hT : Turn [g] [g] w w') (hg : g < w.heap.size) (hgN : N ≤ g) (hN : 1 < N) (hO : Ord w) (hn : bs.length ≤ 16777216) :
    LiveX w' g bs { v0 with rest := .slice A n c } [] [] N := by
  have hg0 : 1 < g := by omega
  have hl : bs.length = n := by have := ho.1; simpa using this
  have hk : blkOf (.slice A n c) ≠ g ∧ blkOf (.slice A n c) < w'.heap.size := by
    have := hi.inside
    rcases Own.blk ho with h | ⟨h1, h2, _⟩
    · rw [h]; omega
    · omega
  refine ⟨hN, [g], .inr (.inl ⟨0, 0, blkOf (.slice A n c), [], [], infnum.start, ⟨⟨hi, ⟨A, n, c, rfl, Own.rowAt ho⟩, hn, Nat.zero_le _, .inl ⟨rfl, rfl, rfl⟩, Nat.le_refl _, WinAt.nil _, rfl, by simp, by simp, hk.1, by simp, rfl⟩, .inl rfl, ?_, hg0, by simp, by simp, hk.2, Turn.refl _ _, .refl _, hi.cell rfl, ⟨_, hi.cell rfl, rfl⟩⟩, .inl ⟨rfl, rfl⟩⟩), by simpa using hgN, fun x hx => by cases hx⟩
  exact hO.keep (hT.block _ (Nat.lt_trans hg0 hg) (by rw [List.mem_singleton]; omega))
end
end Go.Proofs.YtlaecigjnknhoaaDoor.infp
