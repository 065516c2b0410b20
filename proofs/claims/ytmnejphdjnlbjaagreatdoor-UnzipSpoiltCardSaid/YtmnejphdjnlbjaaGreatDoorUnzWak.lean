/-
  What the laws of layer 11 ask first: a tail of nothing, and bytes that are none. My own text.
-/
import Derived.Test.YtmnejphdjnlbjaaGreatDoorUnzOpen
import Derived.Lib.AppendZeros
import Derived.Lib.SmallJoins
namespace Go.Proofs.YtmnejphdjnlbjaaGreatDoor.unzp
open Go.RowKit Go.Proofs.YtmnejphdjnlbjaaGreatDoor.base Go.Proofs.YtmnejphdjnlbjaaGreatDoor.nam Go.Proofs.YtmnejphdjnlbjaaGreatDoor.namp Go.Proofs.YtmnejphdjnlbjaaGreatDoor.recn Go.Proofs.YtmnejphdjnlbjaaGreatDoor.recp Go.Proofs.YtmnejphdjnlbjaaGreatDoor.unz
set_option linter.unusedVariables false
/-- append(x, make([]T, n)...), behind what there is no room -/
theorem run_append_grow_zeros {P : Program} (w : World) (t tn ty e : TypeId) (i : TypeInfo) (z : Value) (k kn : IntKind) (ht : P.underlying t = some (.slice e)) (htn : P.underlying tn = some (.int kn)) (hi : P.info? e = some i) (hz : i.zero = some z)
    (b : Addr) (sLen sCap : Nat) (olds : List Value) (hlo : olds.length = sLen * i.size) (holds : ∀ j v, olds[j]? = some v → w.cell? (b.add j) = some v)
    (n : Nat) (h0 : 0 < n) (hs : 0 < i.size) (hg : sCap < sLen + n) (h63 : ((sLen + n : Nat) : Int) ≤ 9223372036854775807) (hfit : Builtin.nextslicecap (sLen + n) sCap * i.bytes ≤ 281474976710656) (h48 : n * i.bytes ≤ 281474976710656) :
    (Builtin.append_ #[t, tn] ty #[.slice (some b) sLen sCap, .int k n]).run P w =
      .ok (.slice (some ⟨w.heap.size, 0, none⟩) (sLen + n) (grownCap w (sLen + n) sCap e))
        (w.drew.alloc (.cells (olds.toArray ++ Builtin.zeroCells z.cells n ++ Builtin.zeroCells z.cells (grownCap w (sLen + n) sCap e - (sLen + n))) e)) := by
  have hn0 : n ≠ 0 := by omega
  have hn : ¬ (sLen + n ≤ sCap) := by omega
  have hw : IntKind.i64.wrap (n : Int) = n := by rw [IntKind.wrap_i64]; omega
  have h63' : ¬ (9223372036854775807 < ((sLen : Int) + (n : Int))) := by omega
  have h48' : ¬ (281474976710656 < Builtin.nextslicecap (sLen + n) sCap * i.bytes) := by omega
  have h48i : ¬ (281474976710656 < (n : Int) * (i.bytes : Int)) := by
    rw [← Int.natCast_mul]
    omega
  have hneg : ¬ ((n : Int) < 0) := by omega
  have hns : ¬ (n * i.size = 0) := Nat.mul_ne_zero hn0 (by omega)
  have hfo := run_firstCells_some (P := P) w.drew i.size sLen b sLen sCap olds hlo (by simpa using holds)
  simp [Builtin.append_, run_underlying ht, run_underlying htn, sizeOf, typeInfo, zeroValue, hi, hz, asInt, asIntOf, hw, hn, hneg, hns, h63', h48', h48i, Question.forced, hfo, newRow, grownCap]
def tailL : List UInt8 := [80, 75, 5, 6, 0, 0, 0, 0, 0, 0, 0, 0, 0, 0, 0, 0, 0, 0, 0, 0, 0, 0]
theorem find_tail : find tailL = some ⟨0, 0, 0, false⟩ := by kernel_rfl
theorem find_pk : find [80, 75] = none := by kernel_rfl
theorem opn_tail : opn tailL = .ok [] := by unfold opn; rw [find_tail]; rfl
theorem opn_pk : opn [80, 75] = .error 4 := by unfold opn; rw [find_pk]
theorem byteInfo : (Tryz.prog.info? 5).map (fun i => (i.zero, i.size, i.bytes)) = some (some (.int .u8 0), 1, 1) := by kernel_rfl
theorem row_tail (R : Array Value) : (#[.int .u8 80, .int .u8 75, .int .u8 5, .int .u8 6] : Array Value) ++ Builtin.zeroCells (Value.int .u8 0).cells 18 ++ R = (tailL.map bv).toArray ++ R := by
  congr 1
  kernel_rfl
set_option maxRecDepth 100000 in
theorem wakes_any (w : World) (hU : Laid w) : Calls Tryz.prog 5 #[] w fun e w' => e = .returned (.bool true) ∧ Fresh w w' := by
  obtain ⟨i0, hi0, hz0, hz1, hz2⟩ := info_parts byteInfo
  have hcv := Joins.run_convert_bytes_const_at (P := Tryz.prog) w 22 5 #[.int .u8 80, .int .u8 75, .int .u8 5, .int .u8 6] 4 4 w.heap.size rfl Tryz.underlying22 Tryz.underlying5
  have hrun := fun ty => run_append_grow_zeros (P := Tryz.prog) (w.alloc (.cells #[.int .u8 80, .int .u8 75, .int .u8 5, .int .u8 6] 5 (4, 5))) 22 3 ty 5 i0 _ .i64 .i64 Tryz.underlying22 Tryz.underlying3 hi0 hz0 ⟨w.heap.size, 0, none⟩ 4 4 [.int .u8 80, .int .u8 75, .int .u8 5, .int .u8 6] (by rw [hz1]; rfl) (fun j v hj => by
    have hadd : (⟨w.heap.size, 0, none⟩ : Addr).add j = ⟨w.heap.size, 0 + j, none⟩ := by unfold Addr.add; split <;> simp_all
    rw [hadd, Nat.zero_add, cell_of_row _ w.heap.size j _ _ _ (heap_alloc_new w (.cells #[.int .u8 80, .int .u8 75, .int .u8 5, .int .u8 6] 5 (4, 5)))]
    simpa using hj) 18 (by omega) (by omega) (by omega) (by omega) (growslice_fits (by omega) (by omega)) (by omega)
  have hcap : 22 ≤ grownCap (w.alloc (.cells #[.int .u8 80, .int .u8 75, .int .u8 5, .int .u8 6] 5 (4, 5))) (4 + 18) 4 5 := grownCap_ge _ _ _ _
  have hcm : grownCap (w.alloc (.cells #[.int .u8 80, .int .u8 75, .int .u8 5, .int .u8 6] 5 (4, 5))) (4 + 18) 4 5 ≤ maxLen := grownCap_le_maxLen _ _ _ _ (by unfold maxLen; omega)
  generalize grownCap (w.alloc (.cells #[.int .u8 80, .int .u8 75, .int .u8 5, .int .u8 6] 5 (4, 5))) (4 + 18) 4 5 = C at *
  have hrun2 : ∀ ty, (Builtin.append_ #[22, 3] ty #[.slice (some ⟨w.heap.size, 0, none⟩) 4 4, .int .i64 18]).run Tryz.prog (w.alloc (.cells #[.int .u8 80, .int .u8 75, .int .u8 5, .int .u8 6] 5 (4, 5))) = .ok (.slice (some ⟨w.heap.size + 1, 0, none⟩) 22 C) ((w.alloc (.cells #[.int .u8 80, .int .u8 75, .int .u8 5, .int .u8 6] 5 (4, 5))).drew.alloc (.cells ((tailL.map bv).toArray ++ Builtin.zeroCells (Value.int .u8 0).cells (C - 22)) 5)) := fun ty => by
    have h := hrun ty
    rw [show ([.int .u8 80, .int .u8 75, .int .u8 5, .int .u8 6] : List Value).toArray = #[.int .u8 80, .int .u8 75, .int .u8 5, .int .u8 6] from rfl, row_tail] at h
    have e : (w.alloc (.cells #[.int .u8 80, .int .u8 75, .int .u8 5, .int .u8 6] 5 (4, 5))).heap.size = w.heap.size + 1 := by simp
    rw [e] at h
    exact h
  have hf2 : Fresh w ((w.alloc (.cells #[.int .u8 80, .int .u8 75, .int .u8 5, .int .u8 6] 5 (4, 5))).drew.alloc (.cells ((tailL.map bv).toArray ++ Builtin.zeroCells (Value.int .u8 0).cells (C - 22)) 5)) := ((Fresh.alloc _ _).trans (Fresh.drew _)).trans (Fresh.alloc _ _)
  have hr2 : Rd ((w.alloc (.cells #[.int .u8 80, .int .u8 75, .int .u8 5, .int .u8 6] 5 (4, 5))).drew.alloc (.cells ((tailL.map bv).toArray ++ Builtin.zeroCells (Value.int .u8 0).cells (C - 22)) 5)) (w.heap.size + 2) (some ⟨w.heap.size + 1, 0, none⟩) 22 (tailL.map bv) := by
    refine ⟨rfl, fun _ => ⟨w.heap.size + 1, 0, rfl, by omega, fun j u hu => ?_⟩⟩
    have hj : j < 22 := (List.getElem?_eq_some_iff.1 hu).1
    have e : (w.alloc (.cells #[.int .u8 80, .int .u8 75, .int .u8 5, .int .u8 6] 5 (4, 5))).drew.heap.size = w.heap.size + 1 := by simp
    have hnew := heap_alloc_new (w.alloc (.cells #[.int .u8 80, .int .u8 75, .int .u8 5, .int .u8 6] 5 (4, 5))).drew (.cells ((tailL.map bv).toArray ++ Builtin.zeroCells (Value.int .u8 0).cells (C - 22)) 5)
    rw [e] at hnew
    rw [Nat.zero_add, cell_of_row _ (w.heap.size + 1) j _ _ (0, 0) hnew, Array.getElem?_append_left (by rw [List.size_toArray, List.length_map]; exact hj)]
    simpa using hu
  have hsz2 : w.heap.size + 2 ≤ ((w.alloc (.cells #[.int .u8 80, .int .u8 75, .int .u8 5, .int .u8 6] 5 (4, 5))).drew.alloc (.cells ((tailL.map bv).toArray ++ Builtin.zeroCells (Value.int .u8 0).cells (C - 22)) 5)).heap.size := by simp
  obtain ⟨W2, hW2⟩ : ∃ W2, ((w.alloc (.cells #[.int .u8 80, .int .u8 75, .int .u8 5, .int .u8 6] 5 (4, 5))).drew.alloc (.cells ((tailL.map bv).toArray ++ Builtin.zeroCells (Value.int .u8 0).cells (C - 22)) 5)) = W2 := ⟨_, rfl⟩
  rw [hW2] at hrun2 hf2 hr2 hsz2
  have hopen := open_any (some ⟨w.heap.size + 1, 0, none⟩) 22 C tailL _ _ hr2 hsz2 hcap hcm (by omega) (hU.fresh hf2) _ opn_tail
  have hopen' : Calls Tryz.prog 6 #[.slice (some ⟨w.heap.size + 1, 0, none⟩) 22 C] W2 fun e w' => ∃ A c, e = .returned (.tuple #[.slice A 0 c, .int .i64 0]) ∧ Fresh W2 w' := hopen.mono fun e w' h => by
    obtain ⟨h1, A, c, h2, _⟩ := h
    exact ⟨A, c, h2, h1⟩
  have hpk : ∀ W : World, Fresh w W → Calls Tryz.prog 6 #[.slice (some ⟨W.heap.size, 0, none⟩) 2 2] (W.alloc (.cells #[.int .u8 80, .int .u8 75] 5 (2, 3))) fun e w' => e = .returned (.tuple #[.slice none 0 0, .int .i64 4]) ∧ Fresh (W.alloc (.cells #[.int .u8 80, .int .u8 75] 5 (2, 3))) w' := fun W hf => by
    have h := open_any (some ⟨W.heap.size, 0, none⟩) 2 2 [80, 75] (W.alloc (.cells #[.int .u8 80, .int .u8 75] 5 (2, 3))) (W.heap.size + 1) (Rd.mark W #[.int .u8 80, .int .u8 75] 5 (2, 3)) (by simp) (Nat.le_refl _) (by unfold maxLen; omega) (by omega) (hU.fresh (hf.trans (Fresh.alloc _ _))) _ opn_pk
    exact h.mono fun e w' h => ⟨h.2, h.1⟩
  have HRUN := Lib.hid hrun2
  have HF2 := Lib.hid hf2
  have HOP := Lib.hid hopen'
  have HPK := Lib.hid hpk
  clear hrun hW2 hrun2 hf2 hr2 hsz2 hopen hopen' hpk hU hcap hcm
  go_enter Tryz.func5, Tryz.ntmps5
  go_upto_region 2 with (first
    | (at_builtin; refine Lib.wpList_append_run _ rfl _ _ _ _ rfl _ _ rfl rfl _ _ (HRUN.out _) ?_)
    | (go_at_call 6; ((with_reducible refine HOP.out.mono ?_); rintro e w3 ⟨A3, c3, rfl, hf3⟩; have HF3 := Lib.hid (HF2.out.trans hf3); clear hf3)))
  clear hcv
  have hcv := Joins.run_convert_bytes_const_at (P := Tryz.prog) w3 22 5 #[.int .u8 80, .int .u8 75] 2 2 w3.heap.size rfl Tryz.underlying22 Tryz.underlying5
  go_wp2_with (go_at_call 6; ((with_reducible refine (HPK.out w3 HF3.out).mono ?_); rintro e w4 ⟨rfl, hf4⟩))
  go_ret
  exact ⟨rfl, HF3.out.trans ((Fresh.alloc _ _).trans hf4)⟩
end Go.Proofs.YtmnejphdjnlbjaaGreatDoor.unzp
