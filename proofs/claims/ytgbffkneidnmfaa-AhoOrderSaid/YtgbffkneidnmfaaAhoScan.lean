/-
  Layer 14: Scan, Put, First, All, Len. My own text.
-/
import Derived.Test.YtgbffkneidnmfaaAhoUse
namespace Go.Proofs.Ytgbffkneidnmfaa.ahop
open Go.RowKit Go.Maps Go.Proofs.Ytgbffkneidnmfaa.base Go.Proofs.Ytgbffkneidnmfaa.aho
set_option linter.unusedVariables false
/-- the first places as values -/
def fvs (W : List Bs) (t : Bs) : List Int := W.map fun x => fv x t
/-- a scan in memory: p its cells, g the first places; what it has seen is t -/
structure ScAt (w : World) (p g N : Nat) (W P : List Bs) (A : Option Addr) (n c : Nat) (T : List Sv) (t : Bs) : Prop where
  bk : ∃ a : Nat, Bk w p tScan [.slice A n c, iv (a : Nat), .slice (some ⟨g, 0, none⟩) W.length W.length, iv (t.length : Nat)] ∧ Rt P a t
  fst : Bk w g tInt ((fvs W t).map iv)
  sts : StsAt w N A T
  ready : Ready W P T
  len : n = T.length
  few : n ≤ 100000
  many : 1 ≤ W.length ∧ W.length ≤ 8
  low : N ≤ p ∧ N ≤ g
  ne : g ≠ p
section
variable {w w' : World} {p g N n c : Nat} {W P : List Bs} {A : Option Addr} {T : List Sv} {t : Bs}
theorem ScAt.inside (h : ScAt w p g N W P A n c T t) : p < w.heap.size ∧ g < w.heap.size ∧ N ≤ w.heap.size := by
  obtain ⟨a, hb, _⟩ := h.bk
  have h1 := hb.inside
  have h2 := h.low.1
  exact ⟨h1, h.fst.inside, by omega⟩
theorem ScAt.keep (h : ScAt w p g N W P A n c T t) (hk : ∀ k, k < w.heap.size → k < N ∨ k = p ∨ k = g → w'.heap[k]? = w.heap[k]?) : ScAt w' p g N W P A n c T t := by
  obtain ⟨h1, h2, h3⟩ := h.inside
  obtain ⟨a, hb, hr⟩ := h.bk
  exact { h with bk := ⟨a, hb.old (hk p h1 (.inr (.inl rfl))), hr⟩, fst := h.fst.old (hk g h2 (.inr (.inr rfl))), sts := h.sts.keep fun k hl => hk k (by omega) (.inl hl) }
theorem ScAt.fresh (h : ScAt w p g N W P A n c T t) (k : Fresh w w') : ScAt w' p g N W P A n c T t := h.keep fun i hi _ => k.block i hi
/-- another scan has turned -/
theorem ScAt.turn {p' g' : Nat} (h : ScAt w p g N W P A n c T t) (k : Turn [p', g'] [p', g'] w w') (h1 : N ≤ p') (h2 : N ≤ g') (h3 : p ≠ p') (h4 : p ≠ g') (h5 : g ≠ p') (h6 : g ≠ g') : ScAt w' p g N W P A n c T t := h.keep fun i hi hc => k.block i hi (by
  simp only [List.mem_cons, List.not_mem_nil, or_false, not_or]
  rcases hc with hc | rfl | rfl
  · omega
  · exact ⟨h3, h4⟩
  · exact ⟨h5, h6⟩)
end
theorem fvs_nil {W : List Bs} (h : ∀ x ∈ W, x ≠ []) : fvs W [] = List.replicate W.length (-1) := by
  unfold fvs
  induction W with
  | nil => rfl
  | cons a r ih =>
    rw [List.map_cons, fv_nil (h a (by simp)), ih fun x hx => h x (by simp [hx])]
    rfl
theorem scan_nil (w : World) : Calls Try.prog 12 #[.pointer none] w fun e w' => e = .returned (.pointer none) ∧ w' = w := by
  go_enter Try.func12, Try.ntmps12
  go_wp2
  go_ret
  exact ⟨rfl, rfl⟩
theorem scan_any (q N : Nat) (W P : List Bs) (A : Option Addr) (n c : Nat) (T : List Sv) (w : World) (h : WdAt w q N W P A n c T) :
    Calls Try.prog 12 #[.pointer (some ⟨q, 0, none⟩)] w fun e w' => ∃ p g, e = .returned (.pointer (some ⟨p, 0, none⟩)) ∧ ScAt w' p g N W P A n c T [] ∧ w.heap.size ≤ p ∧ w.heap.size ≤ g ∧ Fresh w w' := by
  obtain ⟨k, hk⟩ : ∃ k, W.length = k := ⟨_, rfl⟩
  have hb := h.bk
  have hm := h.many
  rw [hk] at hb hm
  have hf1 : Fresh w w.drew := Fresh.drew _
  have hf2 : Fresh w (w.alloc (.cells #[iv (-1)] tInt)).drew := (Fresh.alloc _ _).trans (Fresh.drew _)
  have a0 := (hb.fresh hf1).cell (i := 0) rfl
  have a1 := (hb.fresh hf1).cell (i := 1) rfl
  have b0 := (hb.fresh hf2).cell (i := 0) rfl
  have b1 := (hb.fresh hf2).cell (i := 1) rfl
  have hrep := repeat_any w.heap.size k (-1) (w.alloc (.cells #[iv (-1)] tInt)).drew ((Bk.made w tInt #[iv (-1)]).fresh (Fresh.drew _)) (by omega)
  have hfin : ∀ (g : Nat) (w1 : World), Bk w1 g tInt (List.replicate k (iv (-1))) → (w.alloc (.cells #[iv (-1)] tInt)).drew.heap.size ≤ g → Fresh (w.alloc (.cells #[iv (-1)] tInt)).drew w1 → ScAt (w1.alloc (.cells #[.slice A n c, .int .i64 0, .slice (some ⟨g, 0, none⟩) k k, .int .i64 0] tScan)) w1.heap.size g N W P A n c T [] ∧ w.heap.size ≤ w1.heap.size ∧ w.heap.size ≤ g ∧ Fresh w (w1.alloc (.cells #[.slice A n c, .int .i64 0, .slice (some ⟨g, 0, none⟩) k k, .int .i64 0] tScan)) := fun g w1 hg hgs hf => by
    have hfw := hf2.trans hf
    have hq := h.bk.inside
    have hl := h.low
    have h0 := hf2.size
    have h3 := hf.size
    have hg2 := hg.inside
    refine ⟨?_, by omega, by omega, hfw.trans (Fresh.alloc _ _)⟩
    exact { bk := ⟨0, by rw [hk]; exact Bk.made w1 tScan _, Rt.nil h.ready.trie⟩, fst := by rw [fvs_nil h.ne, hk, List.map_replicate]; exact hg.alloc _, sts := (h.sts.fresh (by omega) hfw).fresh (by omega) (Fresh.alloc _ _), ready := h.ready, len := h.len, few := h.few, many := h.many, low := ⟨by omega, by omega⟩, ne := by omega }
  have HREP := Lib.hid hrep
  have HFIN := Lib.hid hfin
  have HB := Lib.hid hb
  have HF2 := Lib.hid hf2
  clear hrep hfin hb hf1 hf2 h hk
  go_enter Try.func12, Try.ntmps12
  go_wp2
  go_region_law ((with_reducible refine ast_slot_ 14 ?_); go_simp; (refine HREP.out.mono ?_); rintro e w1 ⟨g, rfl, hg, hgs, hf⟩; have c0 := (HB.out.fresh (HF2.out.trans hf)).cell (i := 0) rfl; have HG := Lib.hid hg; have HGS := Lib.hid hgs; have HF := Lib.hid hf; clear hg hgs hf)
  all_goals go_wp2
  all_goals go_ret
  all_goals exact ⟨_, g, rfl, (HFIN.out g w1 HG.out HGS.out HF.out)⟩
end Go.Proofs.Ytgbffkneidnmfaa.ahop
