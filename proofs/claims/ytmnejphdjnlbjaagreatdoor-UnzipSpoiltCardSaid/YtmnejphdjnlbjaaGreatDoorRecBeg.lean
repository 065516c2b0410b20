/-
  record's begins, get, ones: my own text.
-/
import Derived.Test.YtmnejphdjnlbjaaGreatDoorTurn
import Derived.Test.YtmnejphdjnlbjaaGreatDoorRecNum
import Derived.Test.YtmnejphdjnlbjaaGreatDoorGets
import Derived.Laws.Cover3
import Derived.Laws.IdiomStrings
import Derived.ChangeKeysEq
import Derived.Laws.StructEq
import Derived.Deep.RegionLaw
import Derived.Deep.RegionHeld3
namespace Go.Proofs.YtmnejphdjnlbjaaGreatDoor.recp
open Go.RowKit Go.Proofs.YtmnejphdjnlbjaaGreatDoor.base Go.Proofs.YtmnejphdjnlbjaaGreatDoor.num Go.Proofs.YtmnejphdjnlbjaaGreatDoor.word Go.Proofs.YtmnejphdjnlbjaaGreatDoor.recn
set_option linter.unusedVariables false
abbrev ptr (g : Nat) : Value := .pointer (some ⟨g, 0, none⟩)
abbrev ptrA (p : Addr) : Value := .pointer (some p)
abbrev tFour : TypeId := 118

theorem eq_four (x0 x1 x2 x3 m0 m1 m2 m3 : UInt8) (V : World) : (Op.equalIn 10000 tFour (.agg #[bv x0, bv x1, bv x2, bv x3]) (.agg #[bv m0, bv m1, bv m2, bv m3])).run Tryz.prog V = .ok ([x0, x1, x2, x3] == [m0, m1, m2, m3]) V := by
  obtain ⟨i0, hi0, hz0, hz1, hz2⟩ := info_parts byte_info
  have u := Tryz.underlying5
  have a3 := Tryz.isAgg5
  have z3 := Tryz.sizeOf5
  have hce : Tryz.prog.cellsOf 5 = 1 := by kernel_rfl
  rw [show (10000 : Nat) = 9999 + 1 from rfl, run_equalIn_array V 9999 _ _ (n := 4) (e := 5) (by kernel_rfl) hi0, hce]
  have hr4 : List.range 4 = [0, 1, 2, 3] := rfl
  rw [hr4]
  simp only [Op.eqItems]
  go_simp
  have iff := fun (x y : UInt8) => show ((x.toNat : Int) = (y.toNat : Int)) ↔ x = y from ⟨fun h => UInt8.toNat_inj.1 (by omega), fun h => by rw [h]⟩
  simp only [iff]
  by_cases h0 : x0 = m0 <;> simp [h0]
  by_cases h1 : x1 = m1 <;> simp [h1]
  by_cases h2 : x2 = m2 <;> simp [h2]
  by_cases h3 : x3 = m3 <;> simp [h3]
set_option maxHeartbeats 1000000 in
theorem begins_any (A : Option Addr) (n c : Nat) (xs : List UInt8) (s : ByteArray) (ms : List UInt8) (w : World) (B : Nat) (hr : Rd w B A n (xs.map bv)) (hB : B ≤ w.heap.size) (h4 : 4 ≤ n) (hn : n ≤ maxLen) (hs : s.data.toList = ms) (hm : ms.length = 4) :
    Calls Tryz.prog 36 #[.slice A n c, .string s] w fun e w' => e = .returned (.bool (xs.take 4 == ms)) ∧ Fresh w w' := by
  obtain ⟨b, off, x0, rfl, hb, hx0, hc0⟩ := hr.at_ (k := 0) (by omega)
  obtain ⟨b', off', x1, e1, hb1, hx1, hc1⟩ := hr.at_ (k := 1) (by omega)
  injection e1 with e1; injection e1 with e1 e2 _; subst e1; subst e2
  obtain ⟨b', off', x2, e1, hb1, hx2, hc2⟩ := hr.at_ (k := 2) (by omega)
  injection e1 with e1; injection e1 with e1 e2 _; subst e1; subst e2
  obtain ⟨b', off', x3, e1, hb1, hx3, hc3⟩ := hr.at_ (k := 3) (by omega)
  injection e1 with e1; injection e1 with e1 e2 _; subst e1; subst e2
  have hsa := fun W => run_arrayAt (P := Tryz.prog) (w := W) tFour 5 4 (some ⟨b, off, none⟩) n c (by kernel_rfl) h4
  have hcv := fun W => run_bytes_of_string (P := Tryz.prog) W 9 22 5 s Tryz.underlying9 Tryz.underlying22 Tryz.underlying5
  have hsz : s.size = 4 := by have := congrArg List.length hs; rw [hm] at this; simpa using this
  rw [hsz] at hcv
  have hbw : b < w.heap.size := by omega
  rw [Nat.add_zero] at hc0
  obtain ⟨m0, m1, m2, m3, rfl⟩ : ∃ m0 m1 m2 m3, ms = [m0, m1, m2, m3] := by
    match ms, hm with
    | [m0, m1, m2, m3], _ => exact ⟨m0, m1, m2, m3, rfl⟩
  have hrow : ∀ (W : World) (q : Nat) (fr : Nat × Nat) (i : Nat) (m : UInt8), [m0, m1, m2, m3][i]? = some m → (W.alloc (.cells (bytesRow s q) 5 fr)).cell? ⟨W.heap.size, i, none⟩ = some (bv m) := by
    intro W q fr i m hi
    have hj : i < s.data.size := by
      have h1 := (List.getElem?_eq_some_iff.1 hi).1
      rw [← hs, Array.length_toList] at h1
      exact h1
    rw [cell_of_row (W.alloc (.cells (bytesRow s q) 5 fr)) W.heap.size i _ _ fr (heap_alloc_new W _), bytesRow_at s _ i hj]
    rw [← hs, Array.getElem?_toList, Array.getElem?_eq_getElem hj] at hi
    injection hi with hi
    rw [hi]
  have r0 := fun W q fr => hrow W q fr 0 m0 rfl
  have r1 := fun W q fr => hrow W q fr 1 m1 rfl
  have r2 := fun W q fr => hrow W q fr 2 m2 rfl
  have r3 := fun W q fr => hrow W q fr 3 m3 rfl
  have hsa2 := fun W g c => run_arrayAt (P := Tryz.prog) (w := W) tFour 5 4 (some ⟨g, 0, none⟩) 4 c (by kernel_rfl) (Nat.le_refl _)
  have heq := fun V => eq_four x0 x1 x2 x3 m0 m1 m2 m3 V
  have hres : (xs.take 4 == [m0, m1, m2, m3]) = ([x0, x1, x2, x3] == [m0, m1, m2, m3]) := by
    congr 1
    match xs, hx0, hx1, hx2, hx3 with
    | a :: b :: c :: d :: r, hx0, hx1, hx2, hx3 => simp at hx0 hx1 hx2 hx3; subst hx0; subst hx1; subst hx2; subst hx3; rfl
  rw [hres]
  clear hres
  obtain ⟨R, hR⟩ : ∃ R, ([x0, x1, x2, x3] == [m0, m1, m2, m3]) = R := ⟨_, rfl⟩
  rw [hR] at heq ⊢
  clear hR
  clear hrow hs hsz hm hr hx0 hx1 hx2 hx3
  go_enter Tryz.func36, Tryz.ntmps36
  go_wp2
  go_region
  all_goals (go_wp2; go_ret)
  all_goals exact ⟨rfl, ((Fresh.alloc _ _).trans (Fresh.drew _)).trans (Fresh.drew _)⟩
end Go.Proofs.YtmnejphdjnlbjaaGreatDoor.recp
