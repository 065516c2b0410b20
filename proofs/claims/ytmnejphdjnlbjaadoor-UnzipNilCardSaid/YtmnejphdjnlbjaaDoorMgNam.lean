import Derived.Test.YtmnejphdjnlbjaaDoorNamNum
import Derived.Test.YtmnejphdjnlbjaaDoorMgRow
import Derived.Test.YtmnejphdjnlbjaaDoorChecked
import Derived.Test.YtmnejphdjnlbjaaDoorNamPage
import Derived.Deep.RegionLaw
import Derived.Deep.RegionHeld3
import Derived.Deep.AppendLies
import Derived.Test.YtmnejphdjnlbjaaDoorBlk
import Derived.Maps.OwnSet
import Derived.Maps.RangeWalk
import Derived.Lib.OthersKept
import Derived.BigQuiet
import Derived.Deep.QuietTactic
import Derived.Test.YtmnejphdjnlbjaaDoorUnzNum
/- Several of my own texts, one behind the other. -/
/-
  Layer 9's reference: utf, Page, next. My own text.
-/
namespace Go.Proofs.YtmnejphdjnlbjaaDoor.namp
open Go.RowKit Go.Proofs.YtmnejphdjnlbjaaDoor.base Go.Proofs.YtmnejphdjnlbjaaDoor.nam
set_option linter.unusedVariables false

theorem own_lit (w : World) (e : TypeId) (cs : Array Value) (n : Nat) (hn : cs.size = n) (hm : n ≤ maxLen) (xs : List Value) (hx : cs.toList = xs) : Own (w.alloc (.cells cs e)) w.heap.size e (some ⟨w.heap.size, 0, none⟩) n n xs := by
  subst hx
  exact World.ownsRow_lit w cs n (Nat.le_refl _) hm (by omega)
theorem w8 (z : Int) (n : Nat) (h : z = (n : Int)) (hn : n < 256) : IntKind.u8.wrap z = (n : Int) := by subst h; simp [IntKind.wrap, IntKind.signed, IntKind.bits]; omega
theorem bvN (n : Nat) (h : n < 256) : Value.int .u8 (n : Int) = bv (UInt8.ofNat n) := by rw [bv, nat_u8 n h]
set_option maxHeartbeats 1000000 in
theorem utf_any (r : Nat) (hr : r < 2097152) (w : World) :
    Calls Tryd.prog 58 #[.int .i64 (r : Nat)] w fun e w' => ∃ A c, e = .returned (.slice A (wid r) c) ∧ Fresh w w' ∧ Own w' w.heap.size 5 A (wid r) c ((en r).map bv) := by
  obtain ⟨z, hz⟩ : ∃ z : Int, (r : Int) = z := ⟨_, rfl⟩
  rw [hz]
  have hz0 : 0 ≤ z := by omega
  have q1 : z.tdiv 64 = z / 64 := Int.tdiv_eq_ediv_of_nonneg hz0
  have q2 : z.tmod 64 = z % 64 := Int.tmod_eq_emod_of_nonneg hz0
  have q3 : z.tdiv 4096 = z / 4096 := Int.tdiv_eq_ediv_of_nonneg hz0
  have q4 : z.tdiv 262144 = z / 262144 := Int.tdiv_eq_ediv_of_nonneg hz0
  have q5 : (z / 64).tmod 64 = z / 64 % 64 := Int.tmod_eq_emod_of_nonneg (by omega)
  have q6 : (z / 4096).tmod 64 = z / 4096 % 64 := Int.tmod_eq_emod_of_nonneg (by omega)
  by_cases h1 : r < 128
  · have t1 : decide (z < 128) = true := by rw [decide_eq_true_iff]; omega
    have e1 : IntKind.u8.wrap z = z := by rw [w8 z r hz.symm (by omega)]; exact hz
    have hw : wid r = 1 := by rw [wid, if_pos h1]
    have he : (en r).map bv = [.int .u8 z] := by rw [en, if_pos h1, ← hz]; simp only [List.map_cons, List.map_nil]; rw [bvN r (by omega)]
    have b1 : z ≤ 2097152 := by omega
    rw [hw, he]
    clear hr hz h1 he hw
    go_enter Tryd.func58, Tryd.ntmps58
    go_wp2
    go_ret
    exact ⟨_, _, rfl, Fresh.alloc _ _, own_lit w 5 #[.int .u8 z] 1 rfl (by unfold maxLen; omega) _ rfl⟩
  have t1 : decide (z < 128) = false := by rw [decide_eq_false_iff_not]; omega
  by_cases h2 : r < 2048
  · have t2 : decide (z < 2048) = true := by rw [decide_eq_true_iff]; omega
    have e1 : IntKind.u8.wrap (192 + z / 64) = 192 + z / 64 := by rw [w8 _ (192 + r / 64) (by omega) (by omega)]; omega
    have e2 : IntKind.u8.wrap (128 + z % 64) = 128 + z % 64 := by rw [w8 _ (128 + r % 64) (by omega) (by omega)]; omega
    have hw : wid r = 2 := by rw [wid, if_neg h1, if_pos h2]
    have he : (en r).map bv = [.int .u8 (192 + z / 64), .int .u8 (128 + z % 64)] := by
      rw [en, if_neg h1, if_pos h2]
      simp only [List.map_cons, List.map_nil]
      rw [← bvN _ (show 192 + r / 64 < 256 by omega), ← bvN _ (show 128 + r % 64 < 256 by omega), show ((192 + r / 64 : Nat) : Int) = 192 + z / 64 by omega, show ((128 + r % 64 : Nat) : Int) = 128 + z % 64 by omega]
    have b1 : z ≤ 2097152 := by omega
    rw [hw, he]
    clear hr hz h1 h2 he hw
    go_enter Tryd.func58, Tryd.ntmps58
    go_wp2
    go_ret
    exact ⟨_, _, rfl, Fresh.alloc _ _, own_lit w 5 #[.int .u8 (192 + z / 64), .int .u8 (128 + z % 64)] 2 rfl (by unfold maxLen; omega) _ rfl⟩
  have t2 : decide (z < 2048) = false := by rw [decide_eq_false_iff_not]; omega
  by_cases h3 : r < 65536
  · have t3 : decide (z < 65536) = true := by rw [decide_eq_true_iff]; omega
    have e1 : IntKind.u8.wrap (224 + z / 4096) = 224 + z / 4096 := by rw [w8 _ (224 + r / 4096) (by omega) (by omega)]; omega
    have e2 : IntKind.u8.wrap (128 + z / 64 % 64) = 128 + z / 64 % 64 := by rw [w8 _ (128 + r / 64 % 64) (by omega) (by omega)]; omega
    have e3 : IntKind.u8.wrap (128 + z % 64) = 128 + z % 64 := by rw [w8 _ (128 + r % 64) (by omega) (by omega)]; omega
    have hw : wid r = 3 := by rw [wid, if_neg h1, if_neg h2, if_pos h3]
    have he : (en r).map bv = [.int .u8 (224 + z / 4096), .int .u8 (128 + z / 64 % 64), .int .u8 (128 + z % 64)] := by
      rw [en, if_neg h1, if_neg h2, if_pos h3]
      simp only [List.map_cons, List.map_nil]
      rw [← bvN _ (show 224 + r / 4096 < 256 by omega), ← bvN _ (show 128 + r / 64 % 64 < 256 by omega), ← bvN _ (show 128 + r % 64 < 256 by omega), show ((224 + r / 4096 : Nat) : Int) = 224 + z / 4096 by omega, show ((128 + r / 64 % 64 : Nat) : Int) = 128 + z / 64 % 64 by omega, show ((128 + r % 64 : Nat) : Int) = 128 + z % 64 by omega]
    have b1 : z ≤ 2097152 := by omega
    rw [hw, he]
    clear hr hz h1 h2 h3 he hw
    go_enter Tryd.func58, Tryd.ntmps58
    go_wp2
    go_ret
    exact ⟨_, _, rfl, Fresh.alloc _ _, own_lit w 5 #[.int .u8 (224 + z / 4096), .int .u8 (128 + z / 64 % 64), .int .u8 (128 + z % 64)] 3 rfl (by unfold maxLen; omega) _ rfl⟩
  have t3 : decide (z < 65536) = false := by rw [decide_eq_false_iff_not]; omega
  · have e1 : IntKind.u8.wrap (240 + z / 262144) = 240 + z / 262144 := by rw [w8 _ (240 + r / 262144) (by omega) (by omega)]; omega
    have e2 : IntKind.u8.wrap (128 + z / 4096 % 64) = 128 + z / 4096 % 64 := by rw [w8 _ (128 + r / 4096 % 64) (by omega) (by omega)]; omega
    have e3 : IntKind.u8.wrap (128 + z / 64 % 64) = 128 + z / 64 % 64 := by rw [w8 _ (128 + r / 64 % 64) (by omega) (by omega)]; omega
    have e4 : IntKind.u8.wrap (128 + z % 64) = 128 + z % 64 := by rw [w8 _ (128 + r % 64) (by omega) (by omega)]; omega
    have hw : wid r = 4 := by rw [wid, if_neg h1, if_neg h2, if_neg h3]
    have he : (en r).map bv = [.int .u8 (240 + z / 262144), .int .u8 (128 + z / 4096 % 64), .int .u8 (128 + z / 64 % 64), .int .u8 (128 + z % 64)] := by
      rw [en, if_neg h1, if_neg h2, if_neg h3]
      simp only [List.map_cons, List.map_nil]
      rw [← bvN _ (show 240 + r / 262144 < 256 by omega), ← bvN _ (show 128 + r / 4096 % 64 < 256 by omega), ← bvN _ (show 128 + r / 64 % 64 < 256 by omega), ← bvN _ (show 128 + r % 64 < 256 by omega), show ((240 + r / 262144 : Nat) : Int) = 240 + z / 262144 by omega, show ((128 + r / 4096 % 64 : Nat) : Int) = 128 + z / 4096 % 64 by omega, show ((128 + r / 64 % 64 : Nat) : Int) = 128 + z / 64 % 64 by omega, show ((128 + r % 64 : Nat) : Int) = 128 + z % 64 by omega]
    have b1 : z ≤ 2097152 := by omega
    rw [hw, he]
    clear hr hz h1 h2 h3 he hw
    go_enter Tryd.func58, Tryd.ntmps58
    go_wp2
    go_ret
    exact ⟨_, _, rfl, Fresh.alloc _ _, own_lit w 5 #[.int .u8 (240 + z / 262144), .int .u8 (128 + z / 4096 % 64), .int .u8 (128 + z / 64 % 64), .int .u8 (128 + z % 64)] 4 rfl (by unfold maxLen; omega) _ rfl⟩

theorem info_int : (Tryd.prog.info? 3).map (fun i => (i.zero, i.size, i.bytes)) = some (some (.int .i64 0), 1, 8) := by kernel_rfl
/-- the page, as ints -/
def pageV : List Value := upperL.map fun r : Nat => iv r
theorem ivs_one (l : List Int) (xs : List Value) (hx : l.map (Value.int .i64) = xs) : ∀ u ∈ xs, u.oneCell' = true := by
  subst hx
  intro u hu
  obtain ⟨x, _, rfl⟩ := List.mem_map.1 hu
  rfl
theorem rd_lit (w : World) (cs : Array Value) (e : TypeId) (n : Nat) (hn : cs.size = n) (xs : List Value) (hx : cs.toList = xs) : Rd (w.alloc (.cells cs e)) (w.heap.size + 1) (some ⟨w.heap.size, 0, none⟩) n xs := by
  subst hn
  subst hx
  exact Rd.lit w cs e
set_option maxHeartbeats 4000000 in
set_option maxRecDepth 100000 in
theorem page_any (w : World) : Calls Tryd.prog 57 #[] w fun e w' => ∃ A c, e = .returned (.slice A 128 c) ∧ Fresh w w' ∧ Own w' w.heap.size 3 A 128 c pageV := by
  obtain ⟨i0, hi0, hz0, hz1, hz2⟩ := info_parts info_int
  have hf0 := Fresh.refl w
  have ho0 := Own.nil w w.heap.size 3
  go_enter Tryd.func57, Tryd.ntmps57
  go_wp2_with (first
    | ((with_reducible refine at_slot_ 4 ?_); refine wpList_append_rd _ rfl _ _ 88 rfl w.heap.size 3 i0 _ 8 Tryd.underlying88 hi0 hz0 hz1 hz2 rfl none 0 0 _ rfl (Own.fresh ho0 (Fresh.alloc _ _)) (w.heap.size + 1) (some ⟨w.heap.size, 0, none⟩) 16 16 [.int .i64 199, .int .i64 252, .int .i64 233, .int .i64 226, .int .i64 228, .int .i64 224, .int .i64 229, .int .i64 231, .int .i64 234, .int .i64 235, .int .i64 232, .int .i64 239, .int .i64 238, .int .i64 236, .int .i64 196, .int .i64 197] rfl (rd_lit w #[.int .i64 199, .int .i64 252, .int .i64 233, .int .i64 226, .int .i64 228, .int .i64 224, .int .i64 229, .int .i64 231, .int .i64 234, .int .i64 235, .int .i64 232, .int .i64 239, .int .i64 238, .int .i64 236, .int .i64 196, .int .i64 197] 3 16 rfl _ rfl) (ivs_one [199, 252, 233, 226, 228, 224, 229, 231, 234, 235, 232, 239, 238, 236, 196, 197] _ rfl) (by unfold maxLen; omega) (by omega) (by have := hf0.size; simp <;> omega) ?_; intro A1 c1 w1 ho1 hg1; have hf1 := (hf0.trans (Fresh.alloc _ _)).append (Own.fresh ho0 (Fresh.alloc _ _)) (Nat.le_refl _) hg1)
    | ((with_reducible refine at_slot_ 7 ?_); refine wpList_append_rd _ rfl _ _ 88 rfl w.heap.size 3 i0 _ 8 Tryd.underlying88 hi0 hz0 hz1 hz2 rfl A1 16 c1 _ rfl (Own.fresh ho1 (Fresh.alloc _ _)) (w1.heap.size + 1) (some ⟨w1.heap.size, 0, none⟩) 16 16 [.int .i64 201, .int .i64 230, .int .i64 198, .int .i64 244, .int .i64 246, .int .i64 242, .int .i64 251, .int .i64 249, .int .i64 255, .int .i64 214, .int .i64 220, .int .i64 162, .int .i64 163, .int .i64 165, .int .i64 8359, .int .i64 402] rfl (rd_lit w1 #[.int .i64 201, .int .i64 230, .int .i64 198, .int .i64 244, .int .i64 246, .int .i64 242, .int .i64 251, .int .i64 249, .int .i64 255, .int .i64 214, .int .i64 220, .int .i64 162, .int .i64 163, .int .i64 165, .int .i64 8359, .int .i64 402] 3 16 rfl _ rfl) (ivs_one [201, 230, 198, 244, 246, 242, 251, 249, 255, 214, 220, 162, 163, 165, 8359, 402] _ rfl) (by unfold maxLen; omega) (by omega) (by have := hf1.size; simp <;> omega) ?_; intro A2 c2 w2 ho2 hg2; have hf2 := (hf1.trans (Fresh.alloc _ _)).append (Own.fresh ho1 (Fresh.alloc _ _)) (Nat.le_refl _) hg2)
    | ((with_reducible refine at_slot_ 10 ?_); refine wpList_append_rd _ rfl _ _ 88 rfl w.heap.size 3 i0 _ 8 Tryd.underlying88 hi0 hz0 hz1 hz2 rfl A2 32 c2 _ rfl (Own.fresh ho2 (Fresh.alloc _ _)) (w2.heap.size + 1) (some ⟨w2.heap.size, 0, none⟩) 16 16 [.int .i64 225, .int .i64 237, .int .i64 243, .int .i64 250, .int .i64 241, .int .i64 209, .int .i64 170, .int .i64 186, .int .i64 191, .int .i64 8976, .int .i64 172, .int .i64 189, .int .i64 188, .int .i64 161, .int .i64 171, .int .i64 187] rfl (rd_lit w2 #[.int .i64 225, .int .i64 237, .int .i64 243, .int .i64 250, .int .i64 241, .int .i64 209, .int .i64 170, .int .i64 186, .int .i64 191, .int .i64 8976, .int .i64 172, .int .i64 189, .int .i64 188, .int .i64 161, .int .i64 171, .int .i64 187] 3 16 rfl _ rfl) (ivs_one [225, 237, 243, 250, 241, 209, 170, 186, 191, 8976, 172, 189, 188, 161, 171, 187] _ rfl) (by unfold maxLen; omega) (by omega) (by have := hf2.size; simp <;> omega) ?_; intro A3 c3 w3 ho3 hg3; have hf3 := (hf2.trans (Fresh.alloc _ _)).append (Own.fresh ho2 (Fresh.alloc _ _)) (Nat.le_refl _) hg3)
    | ((with_reducible refine at_slot_ 13 ?_); refine wpList_append_rd _ rfl _ _ 88 rfl w.heap.size 3 i0 _ 8 Tryd.underlying88 hi0 hz0 hz1 hz2 rfl A3 48 c3 _ rfl (Own.fresh ho3 (Fresh.alloc _ _)) (w3.heap.size + 1) (some ⟨w3.heap.size, 0, none⟩) 16 16 [.int .i64 9617, .int .i64 9618, .int .i64 9619, .int .i64 9474, .int .i64 9508, .int .i64 9569, .int .i64 9570, .int .i64 9558, .int .i64 9557, .int .i64 9571, .int .i64 9553, .int .i64 9559, .int .i64 9565, .int .i64 9564, .int .i64 9563, .int .i64 9488] rfl (rd_lit w3 #[.int .i64 9617, .int .i64 9618, .int .i64 9619, .int .i64 9474, .int .i64 9508, .int .i64 9569, .int .i64 9570, .int .i64 9558, .int .i64 9557, .int .i64 9571, .int .i64 9553, .int .i64 9559, .int .i64 9565, .int .i64 9564, .int .i64 9563, .int .i64 9488] 3 16 rfl _ rfl) (ivs_one [9617, 9618, 9619, 9474, 9508, 9569, 9570, 9558, 9557, 9571, 9553, 9559, 9565, 9564, 9563, 9488] _ rfl) (by unfold maxLen; omega) (by omega) (by have := hf3.size; simp <;> omega) ?_; intro A4 c4 w4 ho4 hg4; have hf4 := (hf3.trans (Fresh.alloc _ _)).append (Own.fresh ho3 (Fresh.alloc _ _)) (Nat.le_refl _) hg4)
    | ((with_reducible refine at_slot_ 16 ?_); refine wpList_append_rd _ rfl _ _ 88 rfl w.heap.size 3 i0 _ 8 Tryd.underlying88 hi0 hz0 hz1 hz2 rfl A4 64 c4 _ rfl (Own.fresh ho4 (Fresh.alloc _ _)) (w4.heap.size + 1) (some ⟨w4.heap.size, 0, none⟩) 16 16 [.int .i64 9492, .int .i64 9524, .int .i64 9516, .int .i64 9500, .int .i64 9472, .int .i64 9532, .int .i64 9566, .int .i64 9567, .int .i64 9562, .int .i64 9556, .int .i64 9577, .int .i64 9574, .int .i64 9568, .int .i64 9552, .int .i64 9580, .int .i64 9575] rfl (rd_lit w4 #[.int .i64 9492, .int .i64 9524, .int .i64 9516, .int .i64 9500, .int .i64 9472, .int .i64 9532, .int .i64 9566, .int .i64 9567, .int .i64 9562, .int .i64 9556, .int .i64 9577, .int .i64 9574, .int .i64 9568, .int .i64 9552, .int .i64 9580, .int .i64 9575] 3 16 rfl _ rfl) (ivs_one [9492, 9524, 9516, 9500, 9472, 9532, 9566, 9567, 9562, 9556, 9577, 9574, 9568, 9552, 9580, 9575] _ rfl) (by unfold maxLen; omega) (by omega) (by have := hf4.size; simp <;> omega) ?_; intro A5 c5 w5 ho5 hg5; have hf5 := (hf4.trans (Fresh.alloc _ _)).append (Own.fresh ho4 (Fresh.alloc _ _)) (Nat.le_refl _) hg5)
    | ((with_reducible refine at_slot_ 19 ?_); refine wpList_append_rd _ rfl _ _ 88 rfl w.heap.size 3 i0 _ 8 Tryd.underlying88 hi0 hz0 hz1 hz2 rfl A5 80 c5 _ rfl (Own.fresh ho5 (Fresh.alloc _ _)) (w5.heap.size + 1) (some ⟨w5.heap.size, 0, none⟩) 16 16 [.int .i64 9576, .int .i64 9572, .int .i64 9573, .int .i64 9561, .int .i64 9560, .int .i64 9554, .int .i64 9555, .int .i64 9579, .int .i64 9578, .int .i64 9496, .int .i64 9484, .int .i64 9608, .int .i64 9604, .int .i64 9612, .int .i64 9616, .int .i64 9600] rfl (rd_lit w5 #[.int .i64 9576, .int .i64 9572, .int .i64 9573, .int .i64 9561, .int .i64 9560, .int .i64 9554, .int .i64 9555, .int .i64 9579, .int .i64 9578, .int .i64 9496, .int .i64 9484, .int .i64 9608, .int .i64 9604, .int .i64 9612, .int .i64 9616, .int .i64 9600] 3 16 rfl _ rfl) (ivs_one [9576, 9572, 9573, 9561, 9560, 9554, 9555, 9579, 9578, 9496, 9484, 9608, 9604, 9612, 9616, 9600] _ rfl) (by unfold maxLen; omega) (by omega) (by have := hf5.size; simp <;> omega) ?_; intro A6 c6 w6 ho6 hg6; have hf6 := (hf5.trans (Fresh.alloc _ _)).append (Own.fresh ho5 (Fresh.alloc _ _)) (Nat.le_refl _) hg6)
    | ((with_reducible refine at_slot_ 22 ?_); refine wpList_append_rd _ rfl _ _ 88 rfl w.heap.size 3 i0 _ 8 Tryd.underlying88 hi0 hz0 hz1 hz2 rfl A6 96 c6 _ rfl (Own.fresh ho6 (Fresh.alloc _ _)) (w6.heap.size + 1) (some ⟨w6.heap.size, 0, none⟩) 16 16 [.int .i64 945, .int .i64 223, .int .i64 915, .int .i64 960, .int .i64 931, .int .i64 963, .int .i64 181, .int .i64 964, .int .i64 934, .int .i64 920, .int .i64 937, .int .i64 948, .int .i64 8734, .int .i64 966, .int .i64 949, .int .i64 8745] rfl (rd_lit w6 #[.int .i64 945, .int .i64 223, .int .i64 915, .int .i64 960, .int .i64 931, .int .i64 963, .int .i64 181, .int .i64 964, .int .i64 934, .int .i64 920, .int .i64 937, .int .i64 948, .int .i64 8734, .int .i64 966, .int .i64 949, .int .i64 8745] 3 16 rfl _ rfl) (ivs_one [945, 223, 915, 960, 931, 963, 181, 964, 934, 920, 937, 948, 8734, 966, 949, 8745] _ rfl) (by unfold maxLen; omega) (by omega) (by have := hf6.size; simp <;> omega) ?_; intro A7 c7 w7 ho7 hg7; have hf7 := (hf6.trans (Fresh.alloc _ _)).append (Own.fresh ho6 (Fresh.alloc _ _)) (Nat.le_refl _) hg7)
    | ((with_reducible refine at_slot_ 25 ?_); refine wpList_append_rd _ rfl _ _ 88 rfl w.heap.size 3 i0 _ 8 Tryd.underlying88 hi0 hz0 hz1 hz2 rfl A7 112 c7 _ rfl (Own.fresh ho7 (Fresh.alloc _ _)) (w7.heap.size + 1) (some ⟨w7.heap.size, 0, none⟩) 16 16 [.int .i64 8801, .int .i64 177, .int .i64 8805, .int .i64 8804, .int .i64 8992, .int .i64 8993, .int .i64 247, .int .i64 8776, .int .i64 176, .int .i64 8729, .int .i64 183, .int .i64 8730, .int .i64 8319, .int .i64 178, .int .i64 9632, .int .i64 160] rfl (rd_lit w7 #[.int .i64 8801, .int .i64 177, .int .i64 8805, .int .i64 8804, .int .i64 8992, .int .i64 8993, .int .i64 247, .int .i64 8776, .int .i64 176, .int .i64 8729, .int .i64 183, .int .i64 8730, .int .i64 8319, .int .i64 178, .int .i64 9632, .int .i64 160] 3 16 rfl _ rfl) (ivs_one [8801, 177, 8805, 8804, 8992, 8993, 247, 8776, 176, 8729, 183, 8730, 8319, 178, 9632, 160] _ rfl) (by unfold maxLen; omega) (by omega) (by have := hf7.size; simp <;> omega) ?_; intro A8 c8 w8 ho8 hg8; have hf8 := (hf7.trans (Fresh.alloc _ _)).append (Own.fresh ho7 (Fresh.alloc _ _)) (Nat.le_refl _) hg8))
  go_ret
  exact ⟨A8, c8, rfl, hf8, ho8⟩
end Go.Proofs.YtmnejphdjnlbjaaDoor.namp
/-
  Layer 9's reference: next. My own text (by a generator of mine).
-/
namespace Go.Proofs.YtmnejphdjnlbjaaDoor.namp
open Go.RowKit Go.Proofs.YtmnejphdjnlbjaaDoor.base Go.Proofs.YtmnejphdjnlbjaaDoor.nam
set_option linter.unusedVariables false

/-- what next tells: the rune at the head, or -1 -/
def nxI (t : List UInt8) : Int := if dcd t = (65533, 1) then -1 else ((dcd t).1 : Nat)
theorem nxI_good {r : Nat} (h : Rn r) (t : List UInt8) : nxI (en r ++ t) = (r : Nat) := by rw [nxI, if_neg (dcd_ok h t), dcd_good h]
theorem nxI_bad {t : List UInt8} (h : Bad t) : nxI t = -1 := by rw [nxI, if_pos h.2]
def ct (t : List UInt8) (q : Nat) : Prop := 128 ≤ (t.getD q 0).toNat ∧ (t.getD q 0).toNat ≤ 191
theorem wid2 (R : Nat) : wid R = 2 ↔ 128 ≤ R ∧ R < 2048 := by
  unfold wid
  repeat' split
  all_goals omega
theorem wid3 (R : Nat) : wid R = 3 ↔ 2048 ≤ R ∧ R < 65536 := by
  unfold wid
  repeat' split
  all_goals omega
theorem wid4 (R : Nat) : wid R = 4 ↔ 65536 ≤ R := by
  unfold wid
  repeat' split
  all_goals omega
/-- may R, out of K bytes, be a rune -/
def okN (K R : Nat) : Prop := wid R = K ∧ (R < 55296 ∨ 57343 < R) ∧ R ≤ 1114111
/-- what a byte brings -/
def cv (t : List UInt8) (q : Nat) : Nat := (t.getD q 0).toNat - 128
/-- the number after j more bytes -/
def accs (t : List UInt8) (a : Nat) : Nat → Nat
  | 0 => a
  | j + 1 => 64 * accs t a j + cv t (j + 1)
theorem accs_lt (t : List UInt8) (a : Nat) : ∀ j, (∀ q, q < j → ct t (q + 1)) → accs t a j < (a + 1) * 64 ^ j
  | 0, _ => by simp [accs]
  | j + 1, h => by
    have h1 := accs_lt t a j (fun q hq => h q (by omega))
    have h2 := h j (by omega)
    unfold ct at h2
    have h3 : cv t (j + 1) ≤ 63 := by unfold cv; omega
    rw [accs, Nat.pow_succ, ← Nat.mul_assoc]
    omega
theorem dcd_num (t : List UInt8) : dcd t = Lib.decodeN t.length (t.getD 0 0).toNat (t.getD 1 0).toNat (t.getD 2 0).toNat (t.getD 3 0).toNat := rfl
theorem nxI_pair {t : List UInt8} {r k : Nat} (h : dcd t = (r, k)) (hk : 1 < k) : nxI t = (r : Nat) := by
  rw [nxI, if_neg (fun e => ?_), h]
  rw [h] at e
  injection e
  omega
theorem nxI_err {t : List UInt8} (h : dcd t = (65533, 1)) : nxI t = -1 := by rw [nxI, if_pos h]
theorem nxI_one (t : List UInt8) (h : (t.getD 0 0).toNat < 128) : nxI t = ((t.getD 0 0).toNat : Nat) := by
  have : dcd t = ((t.getD 0 0).toNat, 1) := by rw [dcd_num, Lib.decodeN, if_pos h]
  rw [nxI, if_neg (fun e => ?_), this]
  rw [this] at e
  injection e
  omega
theorem nxI_head (t : List UInt8) (h : (128 ≤ (t.getD 0 0).toNat ∧ (t.getD 0 0).toNat < 194) ∨ 244 < (t.getD 0 0).toNat) : nxI t = -1 := by
  refine nxI_err ?_
  rw [dcd_num]
  have h0 := (t.getD 0 0).toNat_lt
  generalize (t.getD 0 0).toNat = b0 at *
  generalize (t.getD 1 0).toNat = b1 at *
  generalize (t.getD 2 0).toNat = b2 at *
  generalize (t.getD 3 0).toNat = b3 at *
  unfold Lib.decodeN
  rw [if_neg (by omega)]
  split
  · rw [if_neg (by omega)]
  · split
    · exfalso; omega
    · split
      · rw [if_neg (by omega)]
      · rfl

/-! size 2 -/
theorem nx2_short (t : List UInt8) (h : 194 ≤ (t.getD 0 0).toNat ∧ (t.getD 0 0).toNat ≤ 223) (hl : t.length < 2) : nxI t = -1 := by
  refine nxI_err ?_
  rw [dcd_num]
  generalize (t.getD 0 0).toNat = b0 at *
  generalize (t.getD 1 0).toNat = b1 at *
  generalize (t.getD 2 0).toNat = b2 at *
  generalize (t.getD 3 0).toNat = b3 at *
  unfold Lib.decodeN
  rw [if_neg (by omega)]
  split
  · exfalso; omega
  · split
    · exfalso; omega
    · split
      · exfalso; omega
      · rfl
theorem nx2_cont (t : List UInt8) (h : 194 ≤ (t.getD 0 0).toNat ∧ (t.getD 0 0).toNat ≤ 223) (j : Nat) (hj : 1 ≤ j ∧ j < 2) (hc : ¬ ct t j) : nxI t = -1 := by
  refine nxI_err ?_
  rw [dcd_num]
  have hb1 := (t.getD 1 0).toNat_lt
  have hb2 := (t.getD 2 0).toNat_lt
  have hb3 := (t.getD 3 0).toNat_lt
  have hcase : ¬ (ct t 1) := by
    intro hh
    have hjj : j = 1 := by omega
    subst hjj; exact hc hh
  unfold ct at hcase
  clear hc
  generalize (t.getD 0 0).toNat = b0 at *
  generalize (t.getD 1 0).toNat = b1 at *
  generalize (t.getD 2 0).toNat = b2 at *
  generalize (t.getD 3 0).toNat = b3 at *
  unfold Lib.decodeN
  rw [if_neg (by omega)]
  split
  · exfalso; omega
  · split
    · exfalso; omega
    · split
      · exfalso; omega
      · rfl
theorem nx2_whole (t : List UInt8) (h : 194 ≤ (t.getD 0 0).toNat ∧ (t.getD 0 0).toNat ≤ 223) (hl : 2 ≤ t.length) (hc : ∀ q, q < 1 → ct t (q + 1)) (a k R : Nat) (ha : a = (t.getD 0 0).toNat - 192) (hk : k = 1) (hR : R = accs t a k) :
    (okN 2 R → nxI t = (R : Nat)) ∧ (¬ okN 2 R → nxI t = -1) := by
  have c1 := hc 0 (by omega)
  unfold ct at c1
  subst hk
  replace hR : R = 64 * a + ((t.getD 1 0).toNat - 128) := hR
  obtain ⟨b0, g0⟩ : ∃ b, (t.getD 0 0).toNat = b := ⟨_, rfl⟩
  rw [g0] at h ha
  obtain ⟨b1, g1⟩ : ∃ b, (t.getD 1 0).toNat = b := ⟨_, rfl⟩
  rw [g1] at c1 hR
  obtain ⟨b2, g2⟩ : ∃ b, (t.getD 2 0).toNat = b := ⟨_, rfl⟩
  obtain ⟨b3, g3⟩ : ∃ b, (t.getD 3 0).toNat = b := ⟨_, rfl⟩
  have hdn : (okN 2 R → Lib.decodeN t.length b0 b1 b2 b3 = (R, 2)) ∧ (¬ okN 2 R → Lib.decodeN t.length b0 b1 b2 b3 = (65533, 1)) := by
    unfold okN
    unfold Lib.decodeN
    rw [if_neg (by omega)]
    rw [if_pos (by omega), show b0 % 32 * 64 + b1 % 64 = R by omega]
    rw [wid2]
    split
    · exact ⟨fun _ => rfl, fun h => by exfalso; omega⟩
    · exact ⟨fun h => by exfalso; omega, fun _ => rfl⟩
  refine ⟨fun hok => nxI_pair (k := 2) (by rw [dcd_num]; simp only [g0, g1, g2, g3]; exact hdn.1 hok) (by omega), fun hok => nxI_err (by rw [dcd_num]; simp only [g0, g1, g2, g3]; exact hdn.2 hok)⟩

/-! size 3 -/
theorem nx3_short (t : List UInt8) (h : 224 ≤ (t.getD 0 0).toNat ∧ (t.getD 0 0).toNat ≤ 239) (hl : t.length < 3) : nxI t = -1 := by
  refine nxI_err ?_
  rw [dcd_num]
  generalize (t.getD 0 0).toNat = b0 at *
  generalize (t.getD 1 0).toNat = b1 at *
  generalize (t.getD 2 0).toNat = b2 at *
  generalize (t.getD 3 0).toNat = b3 at *
  unfold Lib.decodeN
  rw [if_neg (by omega)]
  split
  · exfalso; omega
  · split
    · exfalso; omega
    · split
      · exfalso; omega
      · rfl
theorem nx3_cont (t : List UInt8) (h : 224 ≤ (t.getD 0 0).toNat ∧ (t.getD 0 0).toNat ≤ 239) (j : Nat) (hj : 1 ≤ j ∧ j < 3) (hc : ¬ ct t j) : nxI t = -1 := by
  refine nxI_err ?_
  rw [dcd_num]
  have hb1 := (t.getD 1 0).toNat_lt
  have hb2 := (t.getD 2 0).toNat_lt
  have hb3 := (t.getD 3 0).toNat_lt
  have hcase : ¬ (ct t 1 ∧ ct t 2) := by
    intro hh
    have hjj : j = 1 ∨ j = 2 := by omega
    rcases hjj with rfl | rfl
    · exact hc hh.1
    · exact hc hh.2
  unfold ct at hcase
  clear hc
  generalize (t.getD 0 0).toNat = b0 at *
  generalize (t.getD 1 0).toNat = b1 at *
  generalize (t.getD 2 0).toNat = b2 at *
  generalize (t.getD 3 0).toNat = b3 at *
  unfold Lib.decodeN
  rw [if_neg (by omega)]
  split
  · exfalso; omega
  · split
    · exfalso; omega
    · split
      · exfalso; omega
      · rfl
theorem nx3_whole (t : List UInt8) (h : 224 ≤ (t.getD 0 0).toNat ∧ (t.getD 0 0).toNat ≤ 239) (hl : 3 ≤ t.length) (hc : ∀ q, q < 2 → ct t (q + 1)) (a k R : Nat) (ha : a = (t.getD 0 0).toNat - 224) (hk : k = 2) (hR : R = accs t a k) :
    (okN 3 R → nxI t = (R : Nat)) ∧ (¬ okN 3 R → nxI t = -1) := by
  have c1 := hc 0 (by omega)
  have c2 := hc 1 (by omega)
  unfold ct at c1 c2
  subst hk
  replace hR : R = 64 * (64 * a + ((t.getD 1 0).toNat - 128)) + ((t.getD 2 0).toNat - 128) := hR
  obtain ⟨b0, g0⟩ : ∃ b, (t.getD 0 0).toNat = b := ⟨_, rfl⟩
  rw [g0] at h ha
  obtain ⟨b1, g1⟩ : ∃ b, (t.getD 1 0).toNat = b := ⟨_, rfl⟩
  rw [g1] at c1 hR
  obtain ⟨b2, g2⟩ : ∃ b, (t.getD 2 0).toNat = b := ⟨_, rfl⟩
  rw [g2] at c2 hR
  obtain ⟨b3, g3⟩ : ∃ b, (t.getD 3 0).toNat = b := ⟨_, rfl⟩
  have hdn : (okN 3 R → Lib.decodeN t.length b0 b1 b2 b3 = (R, 3)) ∧ (¬ okN 3 R → Lib.decodeN t.length b0 b1 b2 b3 = (65533, 1)) := by
    unfold okN
    unfold Lib.decodeN
    rw [if_neg (by omega)]
    rw [if_neg (by omega), if_pos (by omega), show b0 % 16 * 4096 + b1 % 64 * 64 + b2 % 64 = R by omega]
    rw [wid3]
    split
    · exact ⟨fun _ => rfl, fun h => by exfalso; omega⟩
    · exact ⟨fun h => by exfalso; omega, fun _ => rfl⟩
  refine ⟨fun hok => nxI_pair (k := 3) (by rw [dcd_num]; simp only [g0, g1, g2, g3]; exact hdn.1 hok) (by omega), fun hok => nxI_err (by rw [dcd_num]; simp only [g0, g1, g2, g3]; exact hdn.2 hok)⟩

/-! size 4 -/
theorem nx4_short (t : List UInt8) (h : 240 ≤ (t.getD 0 0).toNat ∧ (t.getD 0 0).toNat ≤ 244) (hl : t.length < 4) : nxI t = -1 := by
  refine nxI_err ?_
  rw [dcd_num]
  generalize (t.getD 0 0).toNat = b0 at *
  generalize (t.getD 1 0).toNat = b1 at *
  generalize (t.getD 2 0).toNat = b2 at *
  generalize (t.getD 3 0).toNat = b3 at *
  unfold Lib.decodeN
  rw [if_neg (by omega)]
  split
  · exfalso; omega
  · split
    · exfalso; omega
    · split
      · exfalso; omega
      · rfl
theorem nx4_cont (t : List UInt8) (h : 240 ≤ (t.getD 0 0).toNat ∧ (t.getD 0 0).toNat ≤ 244) (j : Nat) (hj : 1 ≤ j ∧ j < 4) (hc : ¬ ct t j) : nxI t = -1 := by
  refine nxI_err ?_
  rw [dcd_num]
  have hb1 := (t.getD 1 0).toNat_lt
  have hb2 := (t.getD 2 0).toNat_lt
  have hb3 := (t.getD 3 0).toNat_lt
  have hcase : ¬ (ct t 1 ∧ ct t 2 ∧ ct t 3) := by
    intro hh
    have hjj : j = 1 ∨ j = 2 ∨ j = 3 := by omega
    rcases hjj with rfl | rfl | rfl
    · exact hc hh.1
    · exact hc hh.2.1
    · exact hc hh.2.2
  unfold ct at hcase
  clear hc
  generalize (t.getD 0 0).toNat = b0 at *
  generalize (t.getD 1 0).toNat = b1 at *
  generalize (t.getD 2 0).toNat = b2 at *
  generalize (t.getD 3 0).toNat = b3 at *
  unfold Lib.decodeN
  rw [if_neg (by omega)]
  split
  · exfalso; omega
  · split
    · exfalso; omega
    · split
      · exfalso; omega
      · rfl
theorem nx4_whole (t : List UInt8) (h : 240 ≤ (t.getD 0 0).toNat ∧ (t.getD 0 0).toNat ≤ 244) (hl : 4 ≤ t.length) (hc : ∀ q, q < 3 → ct t (q + 1)) (a k R : Nat) (ha : a = (t.getD 0 0).toNat - 240) (hk : k = 3) (hR : R = accs t a k) :
    (okN 4 R → nxI t = (R : Nat)) ∧ (¬ okN 4 R → nxI t = -1) := by
  have c1 := hc 0 (by omega)
  have c2 := hc 1 (by omega)
  have c3 := hc 2 (by omega)
  unfold ct at c1 c2 c3
  subst hk
  replace hR : R = 64 * (64 * (64 * a + ((t.getD 1 0).toNat - 128)) + ((t.getD 2 0).toNat - 128)) + ((t.getD 3 0).toNat - 128) := hR
  obtain ⟨b0, g0⟩ : ∃ b, (t.getD 0 0).toNat = b := ⟨_, rfl⟩
  rw [g0] at h ha
  obtain ⟨b1, g1⟩ : ∃ b, (t.getD 1 0).toNat = b := ⟨_, rfl⟩
  rw [g1] at c1 hR
  obtain ⟨b2, g2⟩ : ∃ b, (t.getD 2 0).toNat = b := ⟨_, rfl⟩
  rw [g2] at c2 hR
  obtain ⟨b3, g3⟩ : ∃ b, (t.getD 3 0).toNat = b := ⟨_, rfl⟩
  rw [g3] at c3 hR
  have hdn : (okN 4 R → Lib.decodeN t.length b0 b1 b2 b3 = (R, 4)) ∧ (¬ okN 4 R → Lib.decodeN t.length b0 b1 b2 b3 = (65533, 1)) := by
    unfold okN
    unfold Lib.decodeN
    rw [if_neg (by omega)]
    rw [if_neg (by omega), if_neg (by omega), if_pos (by omega), show b0 % 8 * 262144 + b1 % 64 * 4096 + b2 % 64 * 64 + b3 % 64 = R by omega]
    rw [wid4]
    split
    · exact ⟨fun _ => rfl, fun h => by exfalso; omega⟩
    · exact ⟨fun h => by exfalso; omega, fun _ => rfl⟩
  refine ⟨fun hok => nxI_pair (k := 4) (by rw [dcd_num]; simp only [g0, g1, g2, g3]; exact hdn.1 hok) (by omega), fun hok => nxI_err (by rw [dcd_num]; simp only [g0, g1, g2, g3]; exact hdn.2 hok)⟩
end Go.Proofs.YtmnejphdjnlbjaaDoor.namp
/-
  Layer 9's reference: next, walked. My own text (by a generator of mine).
-/
namespace Go.Proofs.YtmnejphdjnlbjaaDoor.namp
open Go.RowKit Go.Proofs.YtmnejphdjnlbjaaDoor.base Go.Proofs.YtmnejphdjnlbjaaDoor.nam
set_option linter.unusedVariables false
theorem getD_of {t : List UInt8} {k : Nat} {x : UInt8} (h : t[k]? = some x) : t.getD k 0 = x := by rw [List.getD_eq_getElem?_getD, h]; rfl
theorem accs_succ (t : List UInt8) (a j : Nat) : accs t a (j + 1) = 64 * accs t a j + cv t (j + 1) := by rw [accs]
theorem cv_of {t : List UInt8} {q : Nat} {y : UInt8} (h : t.getD q 0 = y) : cv t q = y.toNat - 128 := by subst h; rfl
theorem ret_int {a b : Int} (h : a = b) : Ending.returned (Value.int .i64 a) = Ending.returned (Value.int .i64 b) := by rw [h]
theorem ct_step {t : List UInt8} {j : Nat} (h : ∀ q, q < j → ct t (q + 1)) (k : ct t (j + 1)) : ∀ q, q < j + 1 → ct t (q + 1) := by
  intro q hq
  by_cases e : q = j
  · subst e; exact k
  · exact h q (by omega)

theorem next_one (A : Option Addr) (n c : Nat) (t : List UInt8) (w : World) (B : Nat) (hr : Rd w B A n (t.map bv)) (hB : B ≤ w.heap.size) (hn : 1 ≤ n) (hh : (t.getD 0 0).toNat < 128) : Calls Tryd.prog 70 #[.slice A n c] w fun e w' => e = .returned (.int .i64 (nxI t)) ∧ Fresh w w' := by
  rw [nxI_one t hh]
  obtain ⟨b, off, x, rfl, hb, hx, hc0⟩ := hr.at_ (k := 0) (by omega)
  rw [Nat.add_zero] at hc0
  have hx0 := getD_of hx
  rw [hx0] at hh
  obtain ⟨z, hz⟩ : ∃ z : Int, (x.toNat : Int) = z := ⟨_, rfl⟩
  have hc1 : w.cell? ⟨b, off, none⟩ = some (.int .u8 z) := by rw [hc0, bv, hz]
  rw [hx0, hz]
  have t0 : decide (z < 128) = true := by rw [decide_eq_true_iff]; omega
  have zb : 0 ≤ z := by omega
  have zc : z ≤ 255 := by omega
  clear hr hx hc0 hx0 hz hh
  go_enter Tryd.func70, Tryd.ntmps70
  go_wp2
  go_ret
  exact ⟨rfl, Fresh.refl _⟩

set_option maxHeartbeats 1000000 in
theorem next_head_a (A : Option Addr) (n c : Nat) (t : List UInt8) (w : World) (B : Nat) (hr : Rd w B A n (t.map bv)) (hB : B ≤ w.heap.size) (hn : 1 ≤ n) (hh : 128 ≤ (t.getD 0 0).toNat ∧ (t.getD 0 0).toNat ≤ 193) : Calls Tryd.prog 70 #[.slice A n c] w fun e w' => e = .returned (.int .i64 (nxI t)) ∧ Fresh w w' := by
  rw [nxI_head t (by omega)]
  obtain ⟨b, off, x, rfl, hb, hx, hc0⟩ := hr.at_ (k := 0) (by omega)
  rw [Nat.add_zero] at hc0
  have hx0 := getD_of hx
  rw [hx0] at hh
  obtain ⟨z, hz⟩ : ∃ z : Int, (x.toNat : Int) = z := ⟨_, rfl⟩
  have hc1 : w.cell? ⟨b, off, none⟩ = some (.int .u8 z) := by rw [hc0, bv, hz]
  have t0 : decide (z < 128) = false := by rw [decide_eq_false_iff_not]; omega
  have g0 : decide (z ≥ 194) = false := by rw [decide_eq_false_iff_not]; omega
  have h0 : decide (194 ≤ z) = false := by rw [decide_eq_false_iff_not]; omega
  have g1 : decide (z ≤ 223) = true := by rw [decide_eq_true_iff]; omega
  have g2 : decide (z ≥ 224) = false := by rw [decide_eq_false_iff_not]; omega
  have h2 : decide (224 ≤ z) = false := by rw [decide_eq_false_iff_not]; omega
  have g3 : decide (z ≤ 239) = true := by rw [decide_eq_true_iff]; omega
  have g4 : decide (z ≥ 240) = false := by rw [decide_eq_false_iff_not]; omega
  have h4 : decide (240 ≤ z) = false := by rw [decide_eq_false_iff_not]; omega
  have g5 : decide (z ≤ 244) = true := by rw [decide_eq_true_iff]; omega
  have zb : 0 ≤ z := by omega
  have zc : z ≤ 255 := by omega
  clear hr hx hc0 hx0 hz hh
  go_enter Tryd.func70, Tryd.ntmps70
  go_wp2
  go_ret
  exact ⟨rfl, Fresh.refl _⟩

set_option maxHeartbeats 1000000 in
theorem next_head_b (A : Option Addr) (n c : Nat) (t : List UInt8) (w : World) (B : Nat) (hr : Rd w B A n (t.map bv)) (hB : B ≤ w.heap.size) (hn : 1 ≤ n) (hh : 245 ≤ (t.getD 0 0).toNat ∧ (t.getD 0 0).toNat ≤ 255) : Calls Tryd.prog 70 #[.slice A n c] w fun e w' => e = .returned (.int .i64 (nxI t)) ∧ Fresh w w' := by
  rw [nxI_head t (by omega)]
  obtain ⟨b, off, x, rfl, hb, hx, hc0⟩ := hr.at_ (k := 0) (by omega)
  rw [Nat.add_zero] at hc0
  have hx0 := getD_of hx
  rw [hx0] at hh
  obtain ⟨z, hz⟩ : ∃ z : Int, (x.toNat : Int) = z := ⟨_, rfl⟩
  have hc1 : w.cell? ⟨b, off, none⟩ = some (.int .u8 z) := by rw [hc0, bv, hz]
  have t0 : decide (z < 128) = false := by rw [decide_eq_false_iff_not]; omega
  have g0 : decide (z ≥ 194) = true := by rw [decide_eq_true_iff]; omega
  have h0 : decide (194 ≤ z) = true := by rw [decide_eq_true_iff]; omega
  have g1 : decide (z ≤ 223) = false := by rw [decide_eq_false_iff_not]; omega
  have g2 : decide (z ≥ 224) = true := by rw [decide_eq_true_iff]; omega
  have h2 : decide (224 ≤ z) = true := by rw [decide_eq_true_iff]; omega
  have g3 : decide (z ≤ 239) = false := by rw [decide_eq_false_iff_not]; omega
  have g4 : decide (z ≥ 240) = true := by rw [decide_eq_true_iff]; omega
  have h4 : decide (240 ≤ z) = true := by rw [decide_eq_true_iff]; omega
  have g5 : decide (z ≤ 244) = false := by rw [decide_eq_false_iff_not]; omega
  have zb : 0 ≤ z := by omega
  have zc : z ≤ 255 := by omega
  clear hr hx hc0 hx0 hz hh
  go_enter Tryd.func70, Tryd.ntmps70
  go_wp2
  go_ret
  exact ⟨rfl, Fresh.refl _⟩

set_option maxHeartbeats 4000000 in
theorem next_2 (A : Option Addr) (n c : Nat) (t : List UInt8) (w : World) (B : Nat) (hr : Rd w B A n (t.map bv)) (hB : B ≤ w.heap.size) (hn : 1 ≤ n) (hh : 194 ≤ (t.getD 0 0).toNat ∧ (t.getD 0 0).toNat ≤ 223) : Calls Tryd.prog 70 #[.slice A n c] w fun e w' => e = .returned (.int .i64 (nxI t)) ∧ Fresh w w' := by
  have hl : t.length = n := by have := hr.1; rwa [List.length_map] at this
  have HH := Lib.hid hh
  by_cases hsh : n < 2
  · rw [nx2_short t hh (by omega)]
    obtain ⟨b, off, x, rfl, hb, hx, hc0⟩ := hr.at_ (k := 0) (by omega)
    rw [Nat.add_zero] at hc0
    have hx0 := getD_of hx
    rw [hx0] at hh
    obtain ⟨z, hz⟩ : ∃ z : Int, (x.toNat : Int) = z := ⟨_, rfl⟩
    have hc1 : w.cell? ⟨b, off, none⟩ = some (.int .u8 z) := by rw [hc0, bv, hz]
    have t0 : decide (z < 128) = false := by rw [decide_eq_false_iff_not]; omega
    have g0 : decide (z ≥ 194) = true := by rw [decide_eq_true_iff]; omega
    have h0 : decide (194 ≤ z) = true := by rw [decide_eq_true_iff]; omega
    have g1 : decide (z ≤ 223) = true := by rw [decide_eq_true_iff]; omega
    have g2 : decide (z ≥ 224) = false := by rw [decide_eq_false_iff_not]; omega
    have h2 : decide (224 ≤ z) = false := by rw [decide_eq_false_iff_not]; omega
    have g3 : decide (z ≤ 239) = true := by rw [decide_eq_true_iff]; omega
    have g4 : decide (z ≥ 240) = false := by rw [decide_eq_false_iff_not]; omega
    have h4 : decide (240 ≤ z) = false := by rw [decide_eq_false_iff_not]; omega
    have g5 : decide (z ≤ 244) = true := by rw [decide_eq_true_iff]; omega
    have tn : decide ((n : Int) < 2) = true := by rw [decide_eq_true_iff]; omega
    have zb : 0 ≤ z := by omega
    have zc : z ≤ 255 := by have := x.toNat_lt; omega
    clear hr hx hc0 hx0 hz hh hl hsh
    go_enter Tryd.func70, Tryd.ntmps70
    go_wp2
    go_ret
    exact ⟨rfl, Fresh.refl _⟩
  have hwh := fun hc R hR => nx2_whole t hh (by omega) hc _ 1 R rfl rfl hR
  have hct := fun j h1 h2 => nx2_cont t hh j h1 h2
  obtain ⟨b, off, x, rfl, hb, hx, hc0⟩ := hr.at_ (k := 0) (by omega)
  rw [Nat.add_zero] at hc0
  have hx0 := getD_of hx
  rw [hx0] at hh
  obtain ⟨z, hz⟩ : ∃ z : Int, (x.toNat : Int) = z := ⟨_, rfl⟩
  have hc1 : w.cell? ⟨b, off, none⟩ = some (.int .u8 z) := by rw [hc0, bv, hz]
  rw [hx0] at hwh
  have t0 : decide (z < 128) = false := by rw [decide_eq_false_iff_not]; omega
  have g0 : decide (z ≥ 194) = true := by rw [decide_eq_true_iff]; omega
  have h0 : decide (194 ≤ z) = true := by rw [decide_eq_true_iff]; omega
  have g1 : decide (z ≤ 223) = true := by rw [decide_eq_true_iff]; omega
  have g2 : decide (z ≥ 224) = false := by rw [decide_eq_false_iff_not]; omega
  have h2 : decide (224 ≤ z) = false := by rw [decide_eq_false_iff_not]; omega
  have g3 : decide (z ≤ 239) = true := by rw [decide_eq_true_iff]; omega
  have g4 : decide (z ≥ 240) = false := by rw [decide_eq_false_iff_not]; omega
  have h4 : decide (240 ≤ z) = false := by rw [decide_eq_false_iff_not]; omega
  have g5 : decide (z ≤ 244) = true := by rw [decide_eq_true_iff]; omega
  have tn : decide ((n : Int) < 2) = false := by rw [decide_eq_false_iff_not]; omega
  have zb : 0 ≤ z := by omega
  have zc : z ≤ 255 := by have := x.toNat_lt; omega
  obtain ⟨a, ha⟩ : ∃ a, x.toNat - 192 = a := ⟨_, rfl⟩
  rw [ha] at hwh
  have haz : z - 192 = (a : Int) := by omega
  have haz2 : a ≤ 31 := by omega
  have HW := Lib.hid hwh
  have HCT := Lib.hid hct
  have HR := Lib.hid hr
  have hnk : 2 ≤ n := by omega
  have HNK := Lib.hid hnk
  clear hr hx hc0 hx0 hz hh hwh hct ha hsh hnk
  go_enter Tryd.func70, Tryd.ntmps70
  go_wp2
  go_loopw [5, 6] (fun r i wr => ∃ (j R : Nat), j ≤ 1 ∧ i = .int .i64 ((j + 1 : Nat) : Int) ∧ r = .int .i64 R ∧ Hid (R = accs t a j) ∧ Hid (∀ q, q < j → ct t (q + 1)) ∧ wr = w) (fun _ i _ => 2 - (intOf i).toNat)
  case atStart => exact ⟨0, a, by omega, rfl, rfl, rfl, fun q hq => by omega, rfl⟩
  case round =>
    obtain ⟨j, R, hj, rfl, rfl, hR, hcs, rfl⟩ := hrel
    have hRb : R ≤ 1310719 := by
      have h1 := accs_lt t a j hcs.out
      rw [← hR.out] at h1
      have h2 : (64 : Nat) ^ j ≤ 64 ^ 1 := Nat.pow_le_pow_right (by omega) hj
      have h3 := Nat.mul_le_mul_left (a + 1) h2
      have h4 : (a + 1) * 64 ^ 1 ≤ 1310720 := by omega
      omega
    obtain ⟨m, hm⟩ : ∃ m, j + 1 = m := ⟨_, rfl⟩
    rw [hm]
    by_cases hjk : j < 1
    · obtain ⟨b', off', y, e', hb', hy, hcy⟩ := HR.out.at_ (k := j + 1) (by have := HNK.out; omega)
      injection e' with e'
      injection e' with e1 e2 _
      subst e1
      subst e2
      have hyd := getD_of hy
      obtain ⟨v, hv⟩ : ∃ v : Int, (y.toNat : Int) = v := ⟨_, rfl⟩
      rw [bv, hv] at hcy
      have hmn : m < n := by have := HNK.out; omega
      have hmb : m ≤ 2 := by omega
      have tm : decide ((m : Int) < 2) = true := by rw [decide_eq_true_iff]; omega
      have vb : 0 ≤ v := by omega
      have vc : v ≤ 255 := by have := y.toNat_lt; omega
      rw [hm] at hcy
      by_cases c1 : v < 128
      · have s1 : decide (v < 128) = true := by rw [decide_eq_true_iff]; omega
        have hres := HCT.out m (by omega) (fun h => by unfold ct at h; rw [← hm, hyd] at h; omega)
        have HRES := Lib.hid hres
        clear hjk hj hy hyd hv hm c1 hres hRb
        go_wp2
        go_ret
        exact ⟨by rw [HRES.out]; rfl, Fresh.refl _⟩
      have s1 : decide (v < 128) = false := by rw [decide_eq_false_iff_not]; omega
      by_cases c2 : 191 < v
      · have s2 : decide (v > 191) = true := by rw [decide_eq_true_iff]; omega
        have s3 : decide (191 < v) = true := by rw [decide_eq_true_iff]; omega
        have hres := HCT.out m (by omega) (fun h => by unfold ct at h; rw [← hm, hyd] at h; omega)
        have HRES := Lib.hid hres
        clear hjk hj hy hyd hv hm c1 c2 hres hRb
        go_wp2
        go_ret
        exact ⟨by rw [HRES.out]; rfl, Fresh.refl _⟩
      have s2 : decide (v > 191) = false := by rw [decide_eq_false_iff_not]; omega
      have s3 : decide (191 < v) = false := by rw [decide_eq_false_iff_not]; omega
      have hcv := cv_of hyd
      have hst : Hid (64 * R + (y.toNat - 128) = accs t a (j + 1)) := (by rw [accs_succ, hcv, hR.out] : 64 * R + (y.toNat - 128) = accs t a (j + 1))
      have hval : 64 * (R : Int) + v - 128 = ((64 * R + (y.toNat - 128) : Nat) : Int) := by omega
      have hcc : Hid (∀ q, q < j + 1 → ct t (q + 1)) := ct_step hcs.out (by unfold ct; rw [hyd]; omega)
      have HV := Lib.hid hval
      have HM := Lib.hid hm
      have HJK := Lib.hid hjk
      clear hjk hy hyd hv hm c1 c2 hcv hval
      go_wp2
      have hm := HM.out
      have hjk := HJK.out
      go_roundw
      case rel => exact ⟨j + 1, 64 * R + (y.toNat - 128), by omega, by rw [hm]; go_num, by rw [HV.out], hst, hcc, trivial⟩
      case measure => simp [intOf] <;> omega
    · obtain rfl : j = 1 := by omega
      have hw2 := HW.out hcs.out R hR.out
      have tm : decide ((m : Int) < 2) = false := by rw [decide_eq_false_iff_not]; omega
      have hut := utf_any R (by omega) wr
      obtain ⟨W, hW⟩ : ∃ W, wid R = W := ⟨_, rfl⟩
      rw [hW] at hut
      have hW4 := wid_bd R
      rw [hW] at hW4
      obtain ⟨hWa, hWb⟩ := hW4
      unfold okN at hw2
      rw [hW] at hw2
      have HUT := Lib.hid hut
      obtain ⟨Z, hZ⟩ : ∃ Z : Int, (R : Int) = Z := ⟨_, rfl⟩
      rw [hZ] at HUT hw2 ⊢
      clear hut hW hjk hj hcs hR hm
      by_cases k1 : W = 2
      · have u1 : ((W : Int) != 2) = false := by rw [bne_eq_false_iff_eq]; omega
        by_cases k2 : 55296 ≤ R ∧ R ≤ 57343
        · have hres := hw2.2 (by omega)
          have p1 : decide (Z ≥ 55296) = true := by rw [decide_eq_true_iff]; omega
          have p2 : decide (55296 ≤ Z) = true := by rw [decide_eq_true_iff]; omega
          have p3 : decide (Z ≤ 57343) = true := by rw [decide_eq_true_iff]; omega
          have HRES := Lib.hid hres
          clear hw2 k1 k2 hRb hres hZ
          go_wp2_with (go_at_call 58; (refine HUT.out.mono ?_); rintro e w1 ⟨A1, c1, rfl, hf1, ho1⟩)
          go_ret
          exact ⟨by rw [HRES.out]; rfl, hf1⟩
        · have pp : (decide (55296 ≤ Z) = true ∧ decide (Z ≥ 55296) = true ∧ decide (Z ≤ 57343) = false) ∨ (decide (55296 ≤ Z) = false ∧ decide (Z ≥ 55296) = false) := by
            by_cases q : 55296 ≤ Z
            · exact Or.inl ⟨decide_eq_true q, decide_eq_true q, decide_eq_false (by omega)⟩
            · exact Or.inr ⟨decide_eq_false q, decide_eq_false q⟩
          by_cases k3 : 1114111 < R
          · have hres := hw2.2 (by omega)
            have p4 : decide (Z > 1114111) = true := by rw [decide_eq_true_iff]; omega
            have p5 : decide (1114111 < Z) = true := by rw [decide_eq_true_iff]; omega
            have HRES := Lib.hid hres
            clear hw2 k1 k2 k3 hRb hres hZ
            rcases pp with ⟨p1, p2, p3⟩ | ⟨p1, p2⟩
            all_goals
              go_wp2_with (go_at_call 58; (refine HUT.out.mono ?_); rintro e w1 ⟨A1, c1, rfl, hf1, ho1⟩)
              go_ret
              exact ⟨by rw [HRES.out]; rfl, hf1⟩
          · have hres := hw2.1 ⟨k1, by omega, by omega⟩
            have p4 : decide (Z > 1114111) = false := by rw [decide_eq_false_iff_not]; omega
            have p5 : decide (1114111 < Z) = false := by rw [decide_eq_false_iff_not]; omega
            have HRES := Lib.hid hres
            clear hw2 k1 k2 k3 hRb hres hZ
            rcases pp with ⟨p1, p2, p3⟩ | ⟨p1, p2⟩
            all_goals
              go_wp2_with (go_at_call 58; (refine HUT.out.mono ?_); rintro e w1 ⟨A1, c1, rfl, hf1, ho1⟩)
              go_ret
              exact ⟨by rw [HRES.out]; rfl, hf1⟩
      · have u1 : ((W : Int) != 2) = true := by rw [bne_iff_ne]; omega
        have hres := hw2.2 (fun h => k1 h.1)
        have HRES := Lib.hid hres
        clear hw2 k1 hRb hres hZ
        go_wp2_with (go_at_call 58; (refine HUT.out.mono ?_); rintro e w1 ⟨A1, c1, rfl, hf1, ho1⟩)
        go_ret
        exact ⟨by rw [HRES.out]; rfl, hf1⟩

set_option maxHeartbeats 4000000 in
theorem next_3 (A : Option Addr) (n c : Nat) (t : List UInt8) (w : World) (B : Nat) (hr : Rd w B A n (t.map bv)) (hB : B ≤ w.heap.size) (hn : 1 ≤ n) (hh : 224 ≤ (t.getD 0 0).toNat ∧ (t.getD 0 0).toNat ≤ 239) : Calls Tryd.prog 70 #[.slice A n c] w fun e w' => e = .returned (.int .i64 (nxI t)) ∧ Fresh w w' := by
  have hl : t.length = n := by have := hr.1; rwa [List.length_map] at this
  have HH := Lib.hid hh
  by_cases hsh : n < 3
  · rw [nx3_short t hh (by omega)]
    obtain ⟨b, off, x, rfl, hb, hx, hc0⟩ := hr.at_ (k := 0) (by omega)
    rw [Nat.add_zero] at hc0
    have hx0 := getD_of hx
    rw [hx0] at hh
    obtain ⟨z, hz⟩ : ∃ z : Int, (x.toNat : Int) = z := ⟨_, rfl⟩
    have hc1 : w.cell? ⟨b, off, none⟩ = some (.int .u8 z) := by rw [hc0, bv, hz]
    have t0 : decide (z < 128) = false := by rw [decide_eq_false_iff_not]; omega
    have g0 : decide (z ≥ 194) = true := by rw [decide_eq_true_iff]; omega
    have h0 : decide (194 ≤ z) = true := by rw [decide_eq_true_iff]; omega
    have g1 : decide (z ≤ 223) = false := by rw [decide_eq_false_iff_not]; omega
    have g2 : decide (z ≥ 224) = true := by rw [decide_eq_true_iff]; omega
    have h2 : decide (224 ≤ z) = true := by rw [decide_eq_true_iff]; omega
    have g3 : decide (z ≤ 239) = true := by rw [decide_eq_true_iff]; omega
    have g4 : decide (z ≥ 240) = false := by rw [decide_eq_false_iff_not]; omega
    have h4 : decide (240 ≤ z) = false := by rw [decide_eq_false_iff_not]; omega
    have g5 : decide (z ≤ 244) = true := by rw [decide_eq_true_iff]; omega
    have tn : decide ((n : Int) < 3) = true := by rw [decide_eq_true_iff]; omega
    have zb : 0 ≤ z := by omega
    have zc : z ≤ 255 := by have := x.toNat_lt; omega
    clear hr hx hc0 hx0 hz hh hl hsh
    go_enter Tryd.func70, Tryd.ntmps70
    go_wp2
    go_ret
    exact ⟨rfl, Fresh.refl _⟩
  have hwh := fun hc R hR => nx3_whole t hh (by omega) hc _ 2 R rfl rfl hR
  have hct := fun j h1 h2 => nx3_cont t hh j h1 h2
  obtain ⟨b, off, x, rfl, hb, hx, hc0⟩ := hr.at_ (k := 0) (by omega)
  rw [Nat.add_zero] at hc0
  have hx0 := getD_of hx
  rw [hx0] at hh
  obtain ⟨z, hz⟩ : ∃ z : Int, (x.toNat : Int) = z := ⟨_, rfl⟩
  have hc1 : w.cell? ⟨b, off, none⟩ = some (.int .u8 z) := by rw [hc0, bv, hz]
  rw [hx0] at hwh
  have t0 : decide (z < 128) = false := by rw [decide_eq_false_iff_not]; omega
  have g0 : decide (z ≥ 194) = true := by rw [decide_eq_true_iff]; omega
  have h0 : decide (194 ≤ z) = true := by rw [decide_eq_true_iff]; omega
  have g1 : decide (z ≤ 223) = false := by rw [decide_eq_false_iff_not]; omega
  have g2 : decide (z ≥ 224) = true := by rw [decide_eq_true_iff]; omega
  have h2 : decide (224 ≤ z) = true := by rw [decide_eq_true_iff]; omega
  have g3 : decide (z ≤ 239) = true := by rw [decide_eq_true_iff]; omega
  have g4 : decide (z ≥ 240) = false := by rw [decide_eq_false_iff_not]; omega
  have h4 : decide (240 ≤ z) = false := by rw [decide_eq_false_iff_not]; omega
  have g5 : decide (z ≤ 244) = true := by rw [decide_eq_true_iff]; omega
  have tn : decide ((n : Int) < 3) = false := by rw [decide_eq_false_iff_not]; omega
  have zb : 0 ≤ z := by omega
  have zc : z ≤ 255 := by have := x.toNat_lt; omega
  obtain ⟨a, ha⟩ : ∃ a, x.toNat - 224 = a := ⟨_, rfl⟩
  rw [ha] at hwh
  have haz : z - 224 = (a : Int) := by omega
  have haz2 : a ≤ 15 := by omega
  have HW := Lib.hid hwh
  have HCT := Lib.hid hct
  have HR := Lib.hid hr
  have hnk : 3 ≤ n := by omega
  have HNK := Lib.hid hnk
  clear hr hx hc0 hx0 hz hh hwh hct ha hsh hnk
  go_enter Tryd.func70, Tryd.ntmps70
  go_wp2
  go_loopw [5, 6] (fun r i wr => ∃ (j R : Nat), j ≤ 2 ∧ i = .int .i64 ((j + 1 : Nat) : Int) ∧ r = .int .i64 R ∧ Hid (R = accs t a j) ∧ Hid (∀ q, q < j → ct t (q + 1)) ∧ wr = w) (fun _ i _ => 3 - (intOf i).toNat)
  case atStart => exact ⟨0, a, by omega, rfl, rfl, rfl, fun q hq => by omega, rfl⟩
  case round =>
    obtain ⟨j, R, hj, rfl, rfl, hR, hcs, rfl⟩ := hrel
    have hRb : R ≤ 1310719 := by
      have h1 := accs_lt t a j hcs.out
      rw [← hR.out] at h1
      have h2 : (64 : Nat) ^ j ≤ 64 ^ 2 := Nat.pow_le_pow_right (by omega) hj
      have h3 := Nat.mul_le_mul_left (a + 1) h2
      have h4 : (a + 1) * 64 ^ 2 ≤ 1310720 := by omega
      omega
    obtain ⟨m, hm⟩ : ∃ m, j + 1 = m := ⟨_, rfl⟩
    rw [hm]
    by_cases hjk : j < 2
    · obtain ⟨b', off', y, e', hb', hy, hcy⟩ := HR.out.at_ (k := j + 1) (by have := HNK.out; omega)
      injection e' with e'
      injection e' with e1 e2 _
      subst e1
      subst e2
      have hyd := getD_of hy
      obtain ⟨v, hv⟩ : ∃ v : Int, (y.toNat : Int) = v := ⟨_, rfl⟩
      rw [bv, hv] at hcy
      have hmn : m < n := by have := HNK.out; omega
      have hmb : m ≤ 3 := by omega
      have tm : decide ((m : Int) < 3) = true := by rw [decide_eq_true_iff]; omega
      have vb : 0 ≤ v := by omega
      have vc : v ≤ 255 := by have := y.toNat_lt; omega
      rw [hm] at hcy
      by_cases c1 : v < 128
      · have s1 : decide (v < 128) = true := by rw [decide_eq_true_iff]; omega
        have hres := HCT.out m (by omega) (fun h => by unfold ct at h; rw [← hm, hyd] at h; omega)
        have HRES := Lib.hid hres
        clear hjk hj hy hyd hv hm c1 hres hRb
        go_wp2
        go_ret
        exact ⟨by rw [HRES.out]; rfl, Fresh.refl _⟩
      have s1 : decide (v < 128) = false := by rw [decide_eq_false_iff_not]; omega
      by_cases c2 : 191 < v
      · have s2 : decide (v > 191) = true := by rw [decide_eq_true_iff]; omega
        have s3 : decide (191 < v) = true := by rw [decide_eq_true_iff]; omega
        have hres := HCT.out m (by omega) (fun h => by unfold ct at h; rw [← hm, hyd] at h; omega)
        have HRES := Lib.hid hres
        clear hjk hj hy hyd hv hm c1 c2 hres hRb
        go_wp2
        go_ret
        exact ⟨by rw [HRES.out]; rfl, Fresh.refl _⟩
      have s2 : decide (v > 191) = false := by rw [decide_eq_false_iff_not]; omega
      have s3 : decide (191 < v) = false := by rw [decide_eq_false_iff_not]; omega
      have hcv := cv_of hyd
      have hst : Hid (64 * R + (y.toNat - 128) = accs t a (j + 1)) := (by rw [accs_succ, hcv, hR.out] : 64 * R + (y.toNat - 128) = accs t a (j + 1))
      have hval : 64 * (R : Int) + v - 128 = ((64 * R + (y.toNat - 128) : Nat) : Int) := by omega
      have hcc : Hid (∀ q, q < j + 1 → ct t (q + 1)) := ct_step hcs.out (by unfold ct; rw [hyd]; omega)
      have HV := Lib.hid hval
      have HM := Lib.hid hm
      have HJK := Lib.hid hjk
      clear hjk hy hyd hv hm c1 c2 hcv hval
      go_wp2
      have hm := HM.out
      have hjk := HJK.out
      go_roundw
      case rel => exact ⟨j + 1, 64 * R + (y.toNat - 128), by omega, by rw [hm]; go_num, by rw [HV.out], hst, hcc, trivial⟩
      case measure => simp [intOf] <;> omega
    · obtain rfl : j = 2 := by omega
      have hw2 := HW.out hcs.out R hR.out
      have tm : decide ((m : Int) < 3) = false := by rw [decide_eq_false_iff_not]; omega
      have hut := utf_any R (by omega) wr
      obtain ⟨W, hW⟩ : ∃ W, wid R = W := ⟨_, rfl⟩
      rw [hW] at hut
      have hW4 := wid_bd R
      rw [hW] at hW4
      obtain ⟨hWa, hWb⟩ := hW4
      unfold okN at hw2
      rw [hW] at hw2
      have HUT := Lib.hid hut
      obtain ⟨Z, hZ⟩ : ∃ Z : Int, (R : Int) = Z := ⟨_, rfl⟩
      rw [hZ] at HUT hw2 ⊢
      clear hut hW hjk hj hcs hR hm
      by_cases k1 : W = 3
      · have u1 : ((W : Int) != 3) = false := by rw [bne_eq_false_iff_eq]; omega
        by_cases k2 : 55296 ≤ R ∧ R ≤ 57343
        · have hres := hw2.2 (by omega)
          have p1 : decide (Z ≥ 55296) = true := by rw [decide_eq_true_iff]; omega
          have p2 : decide (55296 ≤ Z) = true := by rw [decide_eq_true_iff]; omega
          have p3 : decide (Z ≤ 57343) = true := by rw [decide_eq_true_iff]; omega
          have HRES := Lib.hid hres
          clear hw2 k1 k2 hRb hres hZ
          go_wp2_with (go_at_call 58; (refine HUT.out.mono ?_); rintro e w1 ⟨A1, c1, rfl, hf1, ho1⟩)
          go_ret
          exact ⟨by rw [HRES.out]; rfl, hf1⟩
        · have pp : (decide (55296 ≤ Z) = true ∧ decide (Z ≥ 55296) = true ∧ decide (Z ≤ 57343) = false) ∨ (decide (55296 ≤ Z) = false ∧ decide (Z ≥ 55296) = false) := by
            by_cases q : 55296 ≤ Z
            · exact Or.inl ⟨decide_eq_true q, decide_eq_true q, decide_eq_false (by omega)⟩
            · exact Or.inr ⟨decide_eq_false q, decide_eq_false q⟩
          by_cases k3 : 1114111 < R
          · have hres := hw2.2 (by omega)
            have p4 : decide (Z > 1114111) = true := by rw [decide_eq_true_iff]; omega
            have p5 : decide (1114111 < Z) = true := by rw [decide_eq_true_iff]; omega
            have HRES := Lib.hid hres
            clear hw2 k1 k2 k3 hRb hres hZ
            rcases pp with ⟨p1, p2, p3⟩ | ⟨p1, p2⟩
            all_goals
              go_wp2_with (go_at_call 58; (refine HUT.out.mono ?_); rintro e w1 ⟨A1, c1, rfl, hf1, ho1⟩)
              go_ret
              exact ⟨by rw [HRES.out]; rfl, hf1⟩
          · have hres := hw2.1 ⟨k1, by omega, by omega⟩
            have p4 : decide (Z > 1114111) = false := by rw [decide_eq_false_iff_not]; omega
            have p5 : decide (1114111 < Z) = false := by rw [decide_eq_false_iff_not]; omega
            have HRES := Lib.hid hres
            clear hw2 k1 k2 k3 hRb hres hZ
            rcases pp with ⟨p1, p2, p3⟩ | ⟨p1, p2⟩
            all_goals
              go_wp2_with (go_at_call 58; (refine HUT.out.mono ?_); rintro e w1 ⟨A1, c1, rfl, hf1, ho1⟩)
              go_ret
              exact ⟨by rw [HRES.out]; rfl, hf1⟩
      · have u1 : ((W : Int) != 3) = true := by rw [bne_iff_ne]; omega
        have hres := hw2.2 (fun h => k1 h.1)
        have HRES := Lib.hid hres
        clear hw2 k1 hRb hres hZ
        go_wp2_with (go_at_call 58; (refine HUT.out.mono ?_); rintro e w1 ⟨A1, c1, rfl, hf1, ho1⟩)
        go_ret
        exact ⟨by rw [HRES.out]; rfl, hf1⟩

set_option maxHeartbeats 4000000 in
theorem next_4 (A : Option Addr) (n c : Nat) (t : List UInt8) (w : World) (B : Nat) (hr : Rd w B A n (t.map bv)) (hB : B ≤ w.heap.size) (hn : 1 ≤ n) (hh : 240 ≤ (t.getD 0 0).toNat ∧ (t.getD 0 0).toNat ≤ 244) : Calls Tryd.prog 70 #[.slice A n c] w fun e w' => e = .returned (.int .i64 (nxI t)) ∧ Fresh w w' := by
  have hl : t.length = n := by have := hr.1; rwa [List.length_map] at this
  have HH := Lib.hid hh
  by_cases hsh : n < 4
  · rw [nx4_short t hh (by omega)]
    obtain ⟨b, off, x, rfl, hb, hx, hc0⟩ := hr.at_ (k := 0) (by omega)
    rw [Nat.add_zero] at hc0
    have hx0 := getD_of hx
    rw [hx0] at hh
    obtain ⟨z, hz⟩ : ∃ z : Int, (x.toNat : Int) = z := ⟨_, rfl⟩
    have hc1 : w.cell? ⟨b, off, none⟩ = some (.int .u8 z) := by rw [hc0, bv, hz]
    have t0 : decide (z < 128) = false := by rw [decide_eq_false_iff_not]; omega
    have g0 : decide (z ≥ 194) = true := by rw [decide_eq_true_iff]; omega
    have h0 : decide (194 ≤ z) = true := by rw [decide_eq_true_iff]; omega
    have g1 : decide (z ≤ 223) = false := by rw [decide_eq_false_iff_not]; omega
    have g2 : decide (z ≥ 224) = true := by rw [decide_eq_true_iff]; omega
    have h2 : decide (224 ≤ z) = true := by rw [decide_eq_true_iff]; omega
    have g3 : decide (z ≤ 239) = false := by rw [decide_eq_false_iff_not]; omega
    have g4 : decide (z ≥ 240) = true := by rw [decide_eq_true_iff]; omega
    have h4 : decide (240 ≤ z) = true := by rw [decide_eq_true_iff]; omega
    have g5 : decide (z ≤ 244) = true := by rw [decide_eq_true_iff]; omega
    have tn : decide ((n : Int) < 4) = true := by rw [decide_eq_true_iff]; omega
    have zb : 0 ≤ z := by omega
    have zc : z ≤ 255 := by have := x.toNat_lt; omega
    clear hr hx hc0 hx0 hz hh hl hsh
    go_enter Tryd.func70, Tryd.ntmps70
    go_wp2
    go_ret
    exact ⟨rfl, Fresh.refl _⟩
  have hwh := fun hc R hR => nx4_whole t hh (by omega) hc _ 3 R rfl rfl hR
  have hct := fun j h1 h2 => nx4_cont t hh j h1 h2
  obtain ⟨b, off, x, rfl, hb, hx, hc0⟩ := hr.at_ (k := 0) (by omega)
  rw [Nat.add_zero] at hc0
  have hx0 := getD_of hx
  rw [hx0] at hh
  obtain ⟨z, hz⟩ : ∃ z : Int, (x.toNat : Int) = z := ⟨_, rfl⟩
  have hc1 : w.cell? ⟨b, off, none⟩ = some (.int .u8 z) := by rw [hc0, bv, hz]
  rw [hx0] at hwh
  have t0 : decide (z < 128) = false := by rw [decide_eq_false_iff_not]; omega
  have g0 : decide (z ≥ 194) = true := by rw [decide_eq_true_iff]; omega
  have h0 : decide (194 ≤ z) = true := by rw [decide_eq_true_iff]; omega
  have g1 : decide (z ≤ 223) = false := by rw [decide_eq_false_iff_not]; omega
  have g2 : decide (z ≥ 224) = true := by rw [decide_eq_true_iff]; omega
  have h2 : decide (224 ≤ z) = true := by rw [decide_eq_true_iff]; omega
  have g3 : decide (z ≤ 239) = false := by rw [decide_eq_false_iff_not]; omega
  have g4 : decide (z ≥ 240) = true := by rw [decide_eq_true_iff]; omega
  have h4 : decide (240 ≤ z) = true := by rw [decide_eq_true_iff]; omega
  have g5 : decide (z ≤ 244) = true := by rw [decide_eq_true_iff]; omega
  have tn : decide ((n : Int) < 4) = false := by rw [decide_eq_false_iff_not]; omega
  have zb : 0 ≤ z := by omega
  have zc : z ≤ 255 := by have := x.toNat_lt; omega
  obtain ⟨a, ha⟩ : ∃ a, x.toNat - 240 = a := ⟨_, rfl⟩
  rw [ha] at hwh
  have haz : z - 240 = (a : Int) := by omega
  have haz2 : a ≤ 4 := by omega
  have HW := Lib.hid hwh
  have HCT := Lib.hid hct
  have HR := Lib.hid hr
  have hnk : 4 ≤ n := by omega
  have HNK := Lib.hid hnk
  clear hr hx hc0 hx0 hz hh hwh hct ha hsh hnk
  go_enter Tryd.func70, Tryd.ntmps70
  go_wp2
  go_loopw [5, 6] (fun r i wr => ∃ (j R : Nat), j ≤ 3 ∧ i = .int .i64 ((j + 1 : Nat) : Int) ∧ r = .int .i64 R ∧ Hid (R = accs t a j) ∧ Hid (∀ q, q < j → ct t (q + 1)) ∧ wr = w) (fun _ i _ => 4 - (intOf i).toNat)
  case atStart => exact ⟨0, a, by omega, rfl, rfl, rfl, fun q hq => by omega, rfl⟩
  case round =>
    obtain ⟨j, R, hj, rfl, rfl, hR, hcs, rfl⟩ := hrel
    have hRb : R ≤ 1310719 := by
      have h1 := accs_lt t a j hcs.out
      rw [← hR.out] at h1
      have h2 : (64 : Nat) ^ j ≤ 64 ^ 3 := Nat.pow_le_pow_right (by omega) hj
      have h3 := Nat.mul_le_mul_left (a + 1) h2
      have h4 : (a + 1) * 64 ^ 3 ≤ 1310720 := by omega
      omega
    obtain ⟨m, hm⟩ : ∃ m, j + 1 = m := ⟨_, rfl⟩
    rw [hm]
    by_cases hjk : j < 3
    · obtain ⟨b', off', y, e', hb', hy, hcy⟩ := HR.out.at_ (k := j + 1) (by have := HNK.out; omega)
      injection e' with e'
      injection e' with e1 e2 _
      subst e1
      subst e2
      have hyd := getD_of hy
      obtain ⟨v, hv⟩ : ∃ v : Int, (y.toNat : Int) = v := ⟨_, rfl⟩
      rw [bv, hv] at hcy
      have hmn : m < n := by have := HNK.out; omega
      have hmb : m ≤ 4 := by omega
      have tm : decide ((m : Int) < 4) = true := by rw [decide_eq_true_iff]; omega
      have vb : 0 ≤ v := by omega
      have vc : v ≤ 255 := by have := y.toNat_lt; omega
      rw [hm] at hcy
      by_cases c1 : v < 128
      · have s1 : decide (v < 128) = true := by rw [decide_eq_true_iff]; omega
        have hres := HCT.out m (by omega) (fun h => by unfold ct at h; rw [← hm, hyd] at h; omega)
        have HRES := Lib.hid hres
        clear hjk hj hy hyd hv hm c1 hres hRb
        go_wp2
        go_ret
        exact ⟨by rw [HRES.out]; rfl, Fresh.refl _⟩
      have s1 : decide (v < 128) = false := by rw [decide_eq_false_iff_not]; omega
      by_cases c2 : 191 < v
      · have s2 : decide (v > 191) = true := by rw [decide_eq_true_iff]; omega
        have s3 : decide (191 < v) = true := by rw [decide_eq_true_iff]; omega
        have hres := HCT.out m (by omega) (fun h => by unfold ct at h; rw [← hm, hyd] at h; omega)
        have HRES := Lib.hid hres
        clear hjk hj hy hyd hv hm c1 c2 hres hRb
        go_wp2
        go_ret
        exact ⟨by rw [HRES.out]; rfl, Fresh.refl _⟩
      have s2 : decide (v > 191) = false := by rw [decide_eq_false_iff_not]; omega
      have s3 : decide (191 < v) = false := by rw [decide_eq_false_iff_not]; omega
      have hcv := cv_of hyd
      have hst : Hid (64 * R + (y.toNat - 128) = accs t a (j + 1)) := (by rw [accs_succ, hcv, hR.out] : 64 * R + (y.toNat - 128) = accs t a (j + 1))
      have hval : 64 * (R : Int) + v - 128 = ((64 * R + (y.toNat - 128) : Nat) : Int) := by omega
      have hcc : Hid (∀ q, q < j + 1 → ct t (q + 1)) := ct_step hcs.out (by unfold ct; rw [hyd]; omega)
      have HV := Lib.hid hval
      have HM := Lib.hid hm
      have HJK := Lib.hid hjk
      clear hjk hy hyd hv hm c1 c2 hcv hval
      go_wp2
      have hm := HM.out
      have hjk := HJK.out
      go_roundw
      case rel => exact ⟨j + 1, 64 * R + (y.toNat - 128), by omega, by rw [hm]; go_num, by rw [HV.out], hst, hcc, trivial⟩
      case measure => simp [intOf] <;> omega
    · obtain rfl : j = 3 := by omega
      have hw2 := HW.out hcs.out R hR.out
      have tm : decide ((m : Int) < 4) = false := by rw [decide_eq_false_iff_not]; omega
      have hut := utf_any R (by omega) wr
      obtain ⟨W, hW⟩ : ∃ W, wid R = W := ⟨_, rfl⟩
      rw [hW] at hut
      have hW4 := wid_bd R
      rw [hW] at hW4
      obtain ⟨hWa, hWb⟩ := hW4
      unfold okN at hw2
      rw [hW] at hw2
      have HUT := Lib.hid hut
      obtain ⟨Z, hZ⟩ : ∃ Z : Int, (R : Int) = Z := ⟨_, rfl⟩
      rw [hZ] at HUT hw2 ⊢
      clear hut hW hjk hj hcs hR hm
      by_cases k1 : W = 4
      · have u1 : ((W : Int) != 4) = false := by rw [bne_eq_false_iff_eq]; omega
        by_cases k2 : 55296 ≤ R ∧ R ≤ 57343
        · have hres := hw2.2 (by omega)
          have p1 : decide (Z ≥ 55296) = true := by rw [decide_eq_true_iff]; omega
          have p2 : decide (55296 ≤ Z) = true := by rw [decide_eq_true_iff]; omega
          have p3 : decide (Z ≤ 57343) = true := by rw [decide_eq_true_iff]; omega
          have HRES := Lib.hid hres
          clear hw2 k1 k2 hRb hres hZ
          go_wp2_with (go_at_call 58; (refine HUT.out.mono ?_); rintro e w1 ⟨A1, c1, rfl, hf1, ho1⟩)
          go_ret
          exact ⟨by rw [HRES.out]; rfl, hf1⟩
        · have pp : (decide (55296 ≤ Z) = true ∧ decide (Z ≥ 55296) = true ∧ decide (Z ≤ 57343) = false) ∨ (decide (55296 ≤ Z) = false ∧ decide (Z ≥ 55296) = false) := by
            by_cases q : 55296 ≤ Z
            · exact Or.inl ⟨decide_eq_true q, decide_eq_true q, decide_eq_false (by omega)⟩
            · exact Or.inr ⟨decide_eq_false q, decide_eq_false q⟩
          by_cases k3 : 1114111 < R
          · have hres := hw2.2 (by omega)
            have p4 : decide (Z > 1114111) = true := by rw [decide_eq_true_iff]; omega
            have p5 : decide (1114111 < Z) = true := by rw [decide_eq_true_iff]; omega
            have HRES := Lib.hid hres
            clear hw2 k1 k2 k3 hRb hres hZ
            rcases pp with ⟨p1, p2, p3⟩ | ⟨p1, p2⟩
            all_goals
              go_wp2_with (go_at_call 58; (refine HUT.out.mono ?_); rintro e w1 ⟨A1, c1, rfl, hf1, ho1⟩)
              go_ret
              exact ⟨by rw [HRES.out]; rfl, hf1⟩
          · have hres := hw2.1 ⟨k1, by omega, by omega⟩
            have p4 : decide (Z > 1114111) = false := by rw [decide_eq_false_iff_not]; omega
            have p5 : decide (1114111 < Z) = false := by rw [decide_eq_false_iff_not]; omega
            have HRES := Lib.hid hres
            clear hw2 k1 k2 k3 hRb hres hZ
            rcases pp with ⟨p1, p2, p3⟩ | ⟨p1, p2⟩
            all_goals
              go_wp2_with (go_at_call 58; (refine HUT.out.mono ?_); rintro e w1 ⟨A1, c1, rfl, hf1, ho1⟩)
              go_ret
              exact ⟨by rw [HRES.out]; rfl, hf1⟩
      · have u1 : ((W : Int) != 4) = true := by rw [bne_iff_ne]; omega
        have hres := hw2.2 (fun h => k1 h.1)
        have HRES := Lib.hid hres
        clear hw2 k1 hRb hres hZ
        go_wp2_with (go_at_call 58; (refine HUT.out.mono ?_); rintro e w1 ⟨A1, c1, rfl, hf1, ho1⟩)
        go_ret
        exact ⟨by rw [HRES.out]; rfl, hf1⟩

theorem next_any (A : Option Addr) (n c : Nat) (t : List UInt8) (w : World) (B : Nat) (hr : Rd w B A n (t.map bv)) (hB : B ≤ w.heap.size) (hn : 1 ≤ n) : Calls Tryd.prog 70 #[.slice A n c] w fun e w' => e = .returned (.int .i64 (nxI t)) ∧ Fresh w w' := by
  have hb := (t.getD 0 0).toNat_lt
  by_cases h1 : (t.getD 0 0).toNat < 128
  · exact next_one A n c t w B hr hB hn h1
  by_cases h2 : (t.getD 0 0).toNat ≤ 193
  · exact next_head_a A n c t w B hr hB hn (by omega)
  by_cases h3 : (t.getD 0 0).toNat ≤ 223
  · exact next_2 A n c t w B hr hB hn (by omega)
  by_cases h4 : (t.getD 0 0).toNat ≤ 239
  · exact next_3 A n c t w B hr hB hn (by omega)
  by_cases h5 : (t.getD 0 0).toNat ≤ 244
  · exact next_4 A n c t w B hr hB hn (by omega)
  · exact next_head_b A n c t w B hr hB hn (by omega)
end Go.Proofs.YtmnejphdjnlbjaaDoor.namp
/-
  Layer 9's reference: Read. My own text.
-/
namespace Go.Proofs.YtmnejphdjnlbjaaDoor.namp
open Go.RowKit Go.Proofs.YtmnejphdjnlbjaaDoor.base Go.Proofs.YtmnejphdjnlbjaaDoor.nam
set_option linter.unusedVariables false

abbrev tRunes : TypeId := 113
abbrev rv (l : List Nat) : List Value := l.map fun x : Nat => iv (x : Int)
/-- what Read tells of a text that begins with these runes, and then with what is none -/
def ReadIs (rs : List Nat) (u : List UInt8) (w : World) (e : Ending) (w' : World) : Prop :=
  ∃ A m c, e = .returned (.agg #[.slice A m c, .bool (decide (u = []))]) ∧ Fresh w w' ∧ m ≤ c ∧ (u = [] → m = rs.length ∧ Rd w' w'.heap.size A m (rv rs))
theorem Own.low9 {w : World} {base base' : Nat} {e : TypeId} {A : Option Addr} {n c : Nat} {xs : List Value} (h : Own w base e A n c xs) (hb : base' ≤ base) : Own w base' e A n c xs :=
  ⟨h.1, h.2.imp id fun ⟨g, cap, cur, h1, h2, h3⟩ => ⟨g, cap, cur, h1, Nat.le_trans hb h2, h3⟩⟩
theorem readIs_bad {rs : List Nat} {u : List UInt8} {w w' : World} (hu : Bad u) (hf : Fresh w w') : ReadIs rs u w (.returned (.agg #[.slice none 0 0, .bool false])) w' :=
  ⟨none, 0, 0, by rw [decide_eq_false hu.1], hf, Nat.le_refl _, fun h => absurd h hu.1⟩
theorem readIs_ok {rs : List Nat} {u : List UInt8} {w w' : World} {A : Option Addr} {m c : Nat} (hu : u = []) (hf : Fresh w w') (hmc : m ≤ c) (hm : m = rs.length) (hr : Rd w' w'.heap.size A m (rv rs)) : ReadIs rs u w (.returned (.agg #[.slice A m c, .bool true])) w' :=
  ⟨A, m, c, by rw [decide_eq_true hu], hf, hmc, fun _ => ⟨hm, hr⟩⟩
set_option maxHeartbeats 4000000 in
set_option maxRecDepth 100000 in
theorem read_any (A : Option Addr) (n c : Nat) (t : List UInt8) (rs : List Nat) (u : List UInt8) (ht : t = tx rs ++ u) (hrn : ∀ r ∈ rs, Rn r) (hu : u = [] ∨ Bad u) (w : World) (B : Nat) (hr : Rd w B A n (t.map bv)) (hB : B ≤ w.heap.size) (hm : n ≤ 4294967296) (hc : n ≤ c) (hcm : c ≤ maxLen) :
    Calls Tryd.prog 56 #[.slice A n c] w (ReadIs rs u w) := by
  obtain ⟨i0, hi0, hz0, hz1, hz2⟩ := info_parts info_int
  have hl : t.length = n := by have := hr.1; rwa [List.length_map] at this
  have hcm2 : c ≤ 9223372036854775807 := by unfold maxLen at hcm; omega
  have b1 := Bk.made w tRunes #[.slice none 0 0, .bool false]
  have b2 := b1.alloc (.cells #[.slice none 0 0, .bool true] tRunes)
  have b3 := Bk.made (w.alloc (.cells #[.slice none 0 0, .bool false] tRunes)) tRunes #[.slice none 0 0, .bool true]
  have hs1 : (w.alloc (.cells #[.slice none 0 0, .bool false] tRunes)).heap.size = w.heap.size + 1 := by simp
  rw [hs1] at b3
  have HL := Lib.hid hl
  have HT := Lib.hid ht
  have HRN := Lib.hid hrn
  have HU := Lib.hid hu
  have HR := Lib.hid hr
  clear hl ht hrn hu hr hcm b1 hs1
  go_enter Tryd.func56, Tryd.ntmps56
  go_wp2
  have hf0 : Fresh w ((w.alloc (.cells #[.slice none 0 0, .bool false] tRunes)).alloc (.cells #[.slice none 0 0, .bool true] tRunes)) := (Fresh.alloc w _).trans (Fresh.alloc _ _)
  go_loopw [4] (fun v wr => ∃ (done rest : List Nat) (P k c1 : Nat) (A1 : Option Addr), Hid (rs = done ++ rest) ∧ v = .int .i64 P ∧ Hid (P = (tx done).length) ∧ Hid (k = done.length) ∧ k ≤ n ∧ P ≤ n ∧ Bk wr w.heap.size tRunes [.slice none 0 0, .bool false] ∧ Bk wr (w.heap.size + 1) tRunes [.slice A1 k c1, .bool true] ∧ Own wr (w.heap.size + 2) 3 A1 k c1 (rv done) ∧ Fresh w wr) (fun v _ => n - (intOf v).toNat)
  case atStart => exact ⟨[], rs, 0, 0, 0, none, rfl, rfl, rfl, rfl, by omega, by omega, b2, b3, Own.nil _ _ _, hf0⟩
  case round =>
    obtain ⟨done, rest, P, k, c1, A1, hdr, rfl, hP, hk, hkn, hPn, hb1, hb2, hown, hfr⟩ := hrel
    clear b2 b3 hf0
    have hsz := hb2.inside
    by_cases hlt : P < n
    · obtain ⟨b, off, x, e0, hbB, hx, hcx⟩ := HR.out.at_ hlt
      subst e0
      have hcut := (HR.out.below (w' := wr) hfr hB).cut (lo := P) (hi := n) (cap := c) (by omega) (Nat.le_refl _) hc
      rw [if_neg (show ¬ c = P by omega)] at hcut
      have hne : ¬ c = P := by omega
      have hcut2 : Rd wr B (some ⟨b, off + P, none⟩) (n - P) ((t.drop P).map bv) := by
        rw [Option.map_some, Addr.add_mid] at hcut
        rwa [← List.map_drop, List.take_of_length_le (by rw [List.length_map, List.length_drop, HL.out]; exact Nat.le_refl _)] at hcut
      have hnx := fun cc => next_any _ (n - P) cc (t.drop P) wr B hcut2 (by have := hfr.size; omega) (by omega)
      have hdrop : t.drop P = tx rest ++ u := by
        have h1 := HT.out
        rw [hdr.out, tx_append, List.append_assoc] at h1
        rw [h1, hP.out, List.drop_left]
      rw [hdrop] at hnx
      have HB1 := Lib.hid hb1
      have HB2 := Lib.hid hb2
      have HO := Lib.hid hown
      have HF := Lib.hid hfr
      clear hx hcx hcut hcut2 hb1 hb2 hown hfr
      cases rest with
      | nil =>
        have hub : Bad u := by
          rcases HU.out with h | h
          · exfalso
            have h1 := congrArg List.length hdrop
            rw [List.length_drop, HL.out, h] at h1
            simp at h1
            omega
          · exact h
        have hres : nxI (tx [] ++ u) = -1 := nxI_bad hub
        rw [hres] at hnx
        have HNX := Lib.hid hnx
        have HUB := Lib.hid hub
        clear hnx hres hub hdrop
        go_wp2_with (first
          | (go_at_call 70; (refine (HNX.out _).mono ?_); rintro e w1 ⟨rfl, hf1⟩)
          | ((with_reducible refine at_store_ 2 17 ?_); refine wpList_store_blk rfl _ _ _ rfl w.heap.size 0 tRunes _ [.slice none 0 0, .bool false] rfl rfl (HB1.out.fresh hf1) (by simp) (by intro v hv; simp at hv; rcases hv with rfl | rfl <;> rfl) (by kernel_rfl) ?_; intro w2 hb3 hbut2))
        have hb4 : w2.heap[w.heap.size]? = some (.cells #[.slice none 0 0, .bool false] tRunes (0, 0)) := hb3
        refine bodyPost_ret (results_cell_row (p := 2) (by kernel_rfl) _ _ w.heap.size tRunes #[.slice none 0 0, .bool false] (0, 0) _ rfl hb4 Tryd.underlying113 rfl (by kernel_rfl)) rfl ?_
        exact readIs_bad HUB.out (Fresh.but (HF.out.trans hf1) (Nat.le_refl _) hbut2)
      | cons r rest =>
        have hrr : Rn r := HRN.out r (by rw [hdr.out]; simp)
        have hres : nxI (tx (r :: rest) ++ u) = (r : Nat) := by rw [tx_cons, List.append_assoc]; exact nxI_good hrr _
        rw [hres] at hnx
        have hrl := hrr.le
        have hut := fun W => utf_any r (by omega) W
        have hPW : P + wid r ≤ n := by
          have h1 := congrArg List.length hdrop
          rw [List.length_drop, HL.out, tx_cons, List.append_assoc, List.length_append, en_len] at h1
          omega
        obtain ⟨W, hW⟩ : ∃ W, wid r = W := ⟨_, rfl⟩
        have hW1 := (wid_bd r).1
        rw [hW] at hut hPW hW1
        have HNX := Lib.hid hnx
        have HUT := Lib.hid hut
        have HWD := Lib.hid hW
        have hr0 : ¬ (r : Int) < 0 := by omega
        clear hnx hres hdrop hut hW hrr
        go_wp2_with (first
          | (go_at_call 70; (refine (HNX.out _).mono ?_); rintro e w1 ⟨rfl, hf1⟩; have hb3 := HB2.out.fresh hf1; have k1 := hb3.cell (i := 0) rfl; have HB3 := Lib.hid hb3; have HF1 := Lib.hid hf1; clear hb3 hf1)
          | (at_builtin; refine wpList_append_rd _ rfl _ _ 88 rfl (w.heap.size + 2) 3 i0 _ 8 Tryd.underlying88 hi0 hz0 hz1 hz2 rfl A1 k c1 _ rfl (Own.fresh (Own.fresh HO.out HF1.out) (Fresh.alloc _ _)) (w1.heap.size + 1) (some ⟨w1.heap.size, 0, none⟩) 1 1 [.int .i64 (r : Nat)] rfl (Rd.lit w1 #[.int .i64 (r : Nat)] 3) (one_one _ _) (by unfold maxLen; omega) (by omega) (by have := HB3.out.inside; simp; omega) ?_; intro A3 c3 w3 hown3 hg3; have hne3 := Own.ne_block (Own.fresh (Own.fresh HO.out HF1.out) (Fresh.alloc w1 (.cells #[.int .i64 (r : Nat)] 3))) (HB3.out.alloc (.cells #[.int .i64 (r : Nat)] 3)) (by decide); have hb5 := (HB3.out.alloc (.cells #[.int .i64 (r : Nat)] 3)).grown hg3 hne3; have k3 := hb5.cell (i := 0) rfl; have f3 := hb5.free 0; have HB5 := Lib.hid hb5; have HO3 := Lib.hid hown3; have HG3 := Lib.hid hg3; have HN3 := Lib.hid hne3; clear hb5 hown3 hg3 hne3)
          | (go_at_call 58; (refine (HUT.out _).mono ?_); rintro e w5 ⟨A5, c5, rfl, hf5, ho5⟩))
        have e0 : Below (w.heap.size + 2) wr w3 := ((HF1.out.mono (by omega)).alloc (by have := HF1.out.size; omega) (.cells #[.int .i64 (r : Nat)] 3)).grown HG3.out (by have := HF1.out.size; simp; omega) (Own.row HO.out)
        have e1 : Fresh w w3 := Below.trans HF.out (e0.mono (by omega))
        have e2 : Fresh w (w3.setCell ⟨w.heap.size + 1, 0, none⟩ (.slice A3 (k + 1) c3)) := e1.but (by omega) (But.put (g := w.heap.size + 1) (i := 0) w3 _)
        have e3 : Fresh w w5 := e2.trans hf5
        have g1 : Bk w3 w.heap.size tRunes [.slice none 0 0, .bool false] := HB1.out.below e0 (by omega)
        have g2 := (g1.apart (p := ⟨w.heap.size + 1, 0, none⟩) (by simp) (.slice A3 (k + 1) c3)).fresh hf5
        have g3 := (HB5.out.put 0 (.slice A3 (k + 1) c3)).fresh hf5
        have g4 := (Own.fresh (HO3.out.but (But.put (g := w.heap.size + 1) (i := 0) w3 (.slice A3 (k + 1) c3)) (Own.ne_block HO3.out HB5.out (by decide))) hf5)
        have hlist : rv done ++ [Value.int .i64 (r : Nat)] = rv (done ++ [r]) := by simp [rv]
        rw [hlist] at g4
        have hkk : k + 1 ≤ n := by
          have h1 := tx_le (done ++ [r])
          have h2 : (tx (done ++ [r])).length = P + W := by rw [tx_snoc, List.length_append, en_len, ← hP.out, HWD.out]
          have h3 : (done ++ [r]).length = k + 1 := by rw [List.length_append, ← hk.out]; rfl
          omega
        go_roundw
        case rel => exact ⟨done ++ [r], rest, P + W, k + 1, c3, A3, by have := hdr.out; show _ = _; rw [this]; simp, by go_num, by show _ = _; rw [tx_snoc, List.length_append, en_len, ← hP.out, HWD.out], by have := hk.out; show _ = _; simp; omega, hkk, hPW, g2, g3, g4, e3⟩
        case measure => simp [intOf]; omega
    · have hrest : rest = [] ∧ u = [] := by
        have h1 := congrArg List.length HT.out
        rw [HL.out, hdr.out, tx_append, List.append_assoc, List.length_append, List.length_append, ← hP.out] at h1
        have h2 := tx_le rest
        exact ⟨List.eq_nil_of_length_eq_zero (by omega), List.eq_nil_of_length_eq_zero (by omega)⟩
      obtain ⟨rfl, hu0⟩ := hrest
      have hrd : rs = done := by have := hdr.out; rwa [List.append_nil] at this
      subst hrd
      have HB1 := Lib.hid hb1
      have HB2 := Lib.hid hb2
      have HO := Lib.hid hown
      have HF := Lib.hid hfr
      have HU0 := Lib.hid hu0
      clear hb1 hb2 hown hfr hu0
      go_wp2_with (first
        | ((with_reducible refine at_slot_ 29 ?_); refine wpList_load_blk rfl tRunes _ rfl (w.heap.size + 1) 0 2 tRunes [.slice A1 k c1, .bool true] rfl HB2.out (by simp) _ Tryd.underlying113 rfl (by kernel_rfl) ?_)
        | ((with_reducible refine at_store_ 2 29 ?_); refine wpList_store_blk rfl _ _ _ rfl w.heap.size 0 tRunes _ [.slice A1 k c1, .bool true] rfl rfl HB1.out (by simp) (by intro v hv; simp at hv; rcases hv with rfl | rfl <;> rfl) (by kernel_rfl) ?_; intro w2 hb3 hbut2))
      have hb4 : w2.heap[w.heap.size]? = some (.cells #[.slice A1 k c1, .bool true] tRunes (0, 0)) := hb3
      refine bodyPost_ret (results_cell_row (p := 2) (by kernel_rfl) _ _ w.heap.size tRunes #[.slice A1 k c1, .bool true] (0, 0) _ rfl hb4 Tryd.underlying113 rfl (by kernel_rfl)) rfl ?_
      have hob : Own w2 (w.heap.size + 2) 3 A1 k c1 (rv rs) := HO.out.but hbut2 (Own.ne_block HO.out HB1.out (by decide))
      have hfin : ReadIs rs u w (.returned (.agg #[.slice A1 k c1, .bool true])) w2 := readIs_ok HU0.out (Fresh.but HF.out (Nat.le_refl _) hbut2) hob.cap.1 hk.out hob.rd
      exact hfin
end Go.Proofs.YtmnejphdjnlbjaaDoor.namp
/-
  Layer 9's reference: Decode, Encode, May. My own text.
-/
namespace Go.Proofs.YtmnejphdjnlbjaaDoor.namp
open Go.RowKit Go.Proofs.YtmnejphdjnlbjaaDoor.base Go.Proofs.YtmnejphdjnlbjaaDoor.nam
set_option linter.unusedVariables false

abbrev tName : TypeId := 91
theorem info_byte9 : (Tryd.prog.info? 5).map (fun i => (i.zero, i.size, i.bytes)) = some (some (.int .u8 0), 1, 1) := by kernel_rfl
/-- what the reference's Decode and Encode tell: bytes, and a sign -/
def NameIs (bs : List UInt8) (is : Bool) (w : World) (e : Ending) (w' : World) : Prop :=
  ∃ A m c, e = .returned (.agg #[.slice A m c, .bool is]) ∧ m = bs.length ∧ Fresh w w' ∧ Rd w' w'.heap.size A m (bs.map bv) ∧ m ≤ c ∧ c ≤ maxLen
theorem page_at {w : World} {B : Nat} {A : Option Addr} (h : Rd w B A 128 pageV) {j : Nat} (hj : j < 128) : ∃ b off, A = some ⟨b, off, none⟩ ∧ b < B ∧ w.cell? ⟨b, off + j, none⟩ = some (iv (pageR (128 + j) : Nat)) := by
  obtain ⟨b, off, e, hb, hc⟩ := h.2 (by omega)
  refine ⟨b, off, e, hb, hc j _ ?_⟩
  have hj2 : j < upperL.length := by rw [upper_len]; omega
  rw [pageV, List.getElem?_map, List.getElem?_eq_getElem hj2, pageR, if_neg (by omega), show 128 + j - 128 = j by omega, List.getD_eq_getElem?_getD, List.getElem?_eq_getElem hj2]
  rfl
theorem st_slot_ {P : Program} {ops : Array Oper} {a : Act} {w : World} {K : Act → World → Prop} {Q : Exit → Act → World → Prop} {E : Prop} {t : TypeId} (d : Nat) {op : Op} {ps : String} {af gd} (h : if Region.wanted (⟨some d, op, t, ps, af, gd⟩ : Oper) (yielded ops a.tmps) = true then Oper.wp P ⟨some d, op, t, ps, af, gd⟩ a w K Q else E) :
    if Region.wanted (⟨some d, op, t, ps, af, gd⟩ : Oper) (yielded ops a.tmps) = true then Oper.wp P ⟨some d, op, t, ps, af, gd⟩ a w K Q else E := h
theorem utf_row (R : Nat) (hR : R < 2097152) (w : World) :
    Calls Tryd.prog 58 #[.int .i64 (R : Nat)] w fun e w' => ∃ b5 c5, e = .returned (.slice (some ⟨b5, 0, none⟩) (wid R) c5) ∧ Fresh w w' ∧ Own w' w.heap.size 5 (some ⟨b5, 0, none⟩) (wid R) c5 ((en R).map bv) := by
  refine (utf_any R hR w).mono ?_
  rintro e w' ⟨A, c, rfl, hf, ho⟩
  obtain ⟨g, cap, hv, hb, hlt⟩ := World.ownsRow.form ho (by have := (wid_bd R).1; omega)
  injection hv with hA _ hc
  subst hA
  exact ⟨g, c, rfl, hf, ho⟩
theorem own_news {w : World} {base g n c : Nat} {e : TypeId} {xs : List Value} (h : Own w base e (some ⟨g, 0, none⟩) n c xs) : ∀ j u, xs[j]? = some u → w.cell? ((⟨g, 0, none⟩ : Addr).add j) = some u := fun j u hj => World.ownsRow.cells h (g := g) rfl j u hj
set_option maxHeartbeats 4000000 in
set_option maxRecDepth 100000 in
theorem refDecode_page (A : Option Addr) (n c : Nat) (bs : List UInt8) (w : World) (B : Nat) (hr : Rd w B A n (bs.map bv)) (hB : B ≤ w.heap.size) (hn : n ≤ 4294967296) :
    Calls Tryd.prog 35 #[.slice A n c, .bool false] w (NameIs (tx (pgs bs)) true w) := by
  obtain ⟨i0, hi0, hz0, hz1, hz2⟩ := info_parts info_byte9
  have hl : bs.length = n := by have := hr.1; rwa [List.length_map] at this
  have b1 := Bk.made w tName #[.slice none 0 0, .bool false]
  have f1 := Fresh.alloc w (.cells #[.slice none 0 0, .bool false] tName)
  have hs1 : (w.alloc (.cells #[.slice none 0 0, .bool false] tName)).heap.size = w.heap.size + 1 := by simp
  have HL := Lib.hid hl
  have HR := Lib.hid hr
  have HB1 := Lib.hid b1
  have HF1 := Lib.hid f1
  have HS1 := Lib.hid hs1
  have hpg := fun W => page_any W
  have HPG := Lib.hid hpg
  clear hl hr b1 f1 hs1 hpg
  go_enter Tryd.func35, Tryd.ntmps35
  go_wp2_with (go_at_call 57; (refine (HPG.out _).mono ?_); rintro e w1 ⟨A1, c1, rfl, hf1, ho1⟩; have HFP := Lib.hid hf1; have HOP := Lib.hid ho1; clear hf1 ho1)
  have b2 := HB1.out.fresh HFP.out
  have f2 := HF1.out.trans HFP.out
  have b4 := Bk.made w1 tName #[.slice none 0 0, .bool true]
  have b3 := b2.alloc (.cells #[.slice none 0 0, .bool true] tName)
  have f3 := f2.trans (Fresh.alloc w1 (.cells #[.slice none 0 0, .bool true] tName))
  have p3 := (HOP.out.rd.fresh (Fresh.alloc w1 (.cells #[.slice none 0 0, .bool true] tName)))
  obtain ⟨g, hg⟩ : ∃ g, w1.heap.size = g := ⟨_, rfl⟩
  have hgw : w.heap.size < g := by have := b2.inside; omega
  rw [hg] at b4
  have hp1 : Rd w1 w1.heap.size A1 128 pageV := HOP.out.rd
  have HPP := Lib.hid hp1
  have HB2 := Lib.hid b2
  have HF2 := Lib.hid f2
  have HB4 := Lib.hid b4
  have HG := Lib.hid hg
  clear b2 b3 b4 f2 f3 p3 hp1
  rw [hg]
  clear hg
  go_loopw [7] (fun v wr => ∃ (k m c2 : Nat) (A2 : Option Addr), k ≤ n ∧ v = .int .i64 k ∧ Hid (m = (tx (pgs (bs.take k))).length) ∧ m ≤ 4 * k ∧ Bk wr g tName [.slice A2 m c2, .bool true] ∧ Own wr (g + 1) 5 A2 m c2 ((tx (pgs (bs.take k))).map bv) ∧ Fresh w1 wr) (fun v _ => n - (intOf v).toNat)
  case atStart => exact ⟨0, 0, 0, none, Nat.zero_le _, rfl, rfl, by omega, HB4.out, Own.nil _ _ _, Fresh.alloc _ _⟩
  case round =>
    obtain ⟨k, m, c2, A2, hk, rfl, hm, hm4, hb, hown, hfr⟩ := hrel
    by_cases hlt : k < n
    · obtain ⟨b, off, x, rfl, hbB, hx, hcx⟩ := ((HR.out.below (w' := w1) HF2.out hB).below (w' := wr) hfr (by have := HF2.out.size; omega)).at_ hlt
      obtain ⟨R, hRR⟩ : ∃ R, pageR x.toNat = R := ⟨_, rfl⟩
      have hxb := x.toNat_lt
      have hRl : R < 55296 := by rw [← hRR]; exact pageR_rn ⟨x.toNat, hxb⟩
      have hut := fun W => utf_row R (by omega) W
      obtain ⟨D, hD⟩ : ∃ D, wid R = D := ⟨_, rfl⟩
      have hD1 := (wid_bd R).1
      have hD4 := (wid_bd R).2
      rw [hD] at hut hD1 hD4
      have hDl : (en R).length = D := by rw [en_len, hD]
      have HDL := Lib.hid hDl
      clear hD hDl
      have hs : tx (pgs (bs.take k)) ++ en R = tx (pgs (bs.take (k + 1))) := by
        rw [take_snoc _ _ _ hx, ← hRR]
        simp [tx, pgs]
      have hc0 := hb.cell (i := 0) rfl
      have HS := Lib.hid hs
      have HUT := Lib.hid hut
      have HB := Lib.hid hb
      have HO := Lib.hid hown
      have HF := Lib.hid hfr
      have hpw : Rd wr w1.heap.size A1 128 pageV := HPP.out.below hfr (Nat.le_refl _)
      by_cases h128 : x.toNat < 128
      · have hR0 : x.toNat = R := by rw [← hRR, pageR, if_pos h128]
        rw [bv, hR0] at hcx
        have t1 : decide ((R : Int) ≥ 128) = false := by rw [decide_eq_false_iff_not]; omega
        have t2 : decide (128 ≤ (R : Int)) = false := by rw [decide_eq_false_iff_not]; omega
        clear hs hut hb hown hfr hpw h128 hR0 hRR hx hxb
        go_wp2
        have hc1 : wr.drew.cell? ⟨g, 0, none⟩ = some (.slice A2 m c2) := hc0
        go_region_law (first
          | ((with_reducible refine st_slot_ 39 ?_); go_simp; (refine (HUT.out _).mono ?_); rintro e w2 ⟨b5, c5, rfl, hf2, ho2⟩; have HF2b := Lib.hid hf2; have HO2 := Lib.hid ho2; have k2 := (show w2.cell? ⟨g, 0, none⟩ = some (.slice A2 m c2) from ((HB.out.fresh (Fresh.drew wr)).fresh hf2).cell rfl); clear hf2 ho2)
          | ((with_reducible refine st_slot_ 40 ?_); (refine step_append_lies _ (by rfl) (.tmp 37) (.tmp 39) 22 (by rfl) (g + 1) 5 i0 _ 1 1 Tryd.underlying22 hi0 hz0 hz1 hz2 rfl (by omega) (.slice A2 m c2) m ((tx (pgs (bs.take k))).map bv) (by rfl) ((HO.out.fresh (Fresh.drew wr)).fresh HF2b.out) ⟨b5, 0, none⟩ D c5 ((en R).map bv) (by rfl) (by rw [List.length_map, HDL.out, Nat.mul_one]) (own_news HO2.out) (bv_one _) (by omega) (by unfold maxLen; omega) (by omega) (by have := HB.out.inside; have := HF2b.out.size; simp at this; omega) _ rfl ?_; (intro gg cap w4 hown hgrow hat hlt4; have HOWN := Lib.hid hown; have HGROW := Lib.hid hgrow; have hb4 := Bk.grown ((HB.out.fresh (Fresh.drew wr)).fresh HF2b.out) hgrow (Own.ne_block ((HO.out.fresh (Fresh.drew wr)).fresh HF2b.out) ((HB.out.fresh (Fresh.drew wr)).fresh HF2b.out) (by decide)); have HB4b := Lib.hid hb4; have HK2 := Lib.hid (show w4.cell? ⟨g, 0, none⟩ = some (.slice A2 m c2) from hb4.cell rfl); have k4 := hb4.cell (i := 0) rfl; have f4 := hb4.free 0; clear hown hgrow hat hb4))))
        all_goals
          have q1 := HB4b.out.put 0 (.slice (some ⟨gg, 0, none⟩) (m + D) cap)
          have q2 : Own (w4.setCell ⟨g, 0, none⟩ (.slice (some ⟨gg, 0, none⟩) (m + D) cap)) (g + 1) 5 (some ⟨gg, 0, none⟩) (m + D) cap ((tx (pgs (bs.take (k + 1)))).map bv) := by
            have h1 := Own.but HOWN.out (But.put (g := g) (i := 0) w4 (.slice (some ⟨gg, 0, none⟩) (m + D) cap)) (Own.ne_block HOWN.out HB4b.out (by decide))
            rwa [← List.map_append, HS.out] at h1
          have q3 : Fresh w1 (w4.setCell ⟨g, 0, none⟩ (.slice (some ⟨gg, 0, none⟩) (m + D) cap)) := by
            have h1 : Fresh w1 w2 := (HF.out.trans (Fresh.drew wr)).trans HF2b.out
            have h2 : Fresh w1 w4 := Fresh.append h1 ((HO.out.fresh (Fresh.drew wr)).fresh HF2b.out) (by rw [HG.out]; omega) HGROW.out
            exact h2.but (by rw [HG.out]; exact Nat.le_refl _) (But.put _ _)
          have q4 : Hid (m + D = (tx (pgs (bs.take (k + 1)))).length) := by show _ = _; rw [← HS.out, List.length_append, ← hm.out, HDL.out]
          have Q1 := Lib.hid q1
          have Q2 := Lib.hid q2
          have Q3 := Lib.hid q3
          clear q1 q2 q3 k4 f4 k2 hc1 hc0
          go_wp2
          go_roundw
          case rel => exact ⟨k + 1, m + D, cap, some ⟨gg, 0, none⟩, by omega, by go_num, q4, by omega, Q1.out, Q2.out, Q3.out⟩
          case measure => simp [intOf]; omega
      · obtain ⟨j, hj⟩ : ∃ j, x.toNat = 128 + j := ⟨x.toNat - 128, by omega⟩
        have hj128 : j < 128 := by omega
        obtain ⟨pb, po, hA1, hpb, hpc⟩ := page_at hpw hj128
        rw [← hj, hRR] at hpc
        obtain ⟨z, hz⟩ : ∃ z : Int, (x.toNat : Int) = z := ⟨_, rfl⟩
        rw [bv, hz] at hcx
        have t1 : decide (z ≥ 128) = true := by rw [decide_eq_true_iff]; omega
        have t2 : decide (128 ≤ z) = true := by rw [decide_eq_true_iff]; omega
        have e1 : z - 128 = (j : Int) := by omega
        have zb : 0 ≤ z := by omega
        have zc : z ≤ 255 := by omega
        subst hA1
        clear hs hut hb hown hfr hpw h128 hRR hx hxb hj hz
        go_wp2
        have hc1 : wr.drew.cell? ⟨g, 0, none⟩ = some (.slice A2 m c2) := hc0
        go_region_law (first
          | ((with_reducible refine st_slot_ 39 ?_); go_simp; (refine (HUT.out _).mono ?_); rintro e w2 ⟨b5, c5, rfl, hf2, ho2⟩; have HF2b := Lib.hid hf2; have HO2 := Lib.hid ho2; have k2 := (show w2.cell? ⟨g, 0, none⟩ = some (.slice A2 m c2) from ((HB.out.fresh (Fresh.drew wr)).fresh hf2).cell rfl); clear hf2 ho2)
          | ((with_reducible refine st_slot_ 40 ?_); (refine step_append_lies _ (by rfl) (.tmp 37) (.tmp 39) 22 (by rfl) (g + 1) 5 i0 _ 1 1 Tryd.underlying22 hi0 hz0 hz1 hz2 rfl (by omega) (.slice A2 m c2) m ((tx (pgs (bs.take k))).map bv) (by rfl) ((HO.out.fresh (Fresh.drew wr)).fresh HF2b.out) ⟨b5, 0, none⟩ D c5 ((en R).map bv) (by rfl) (by rw [List.length_map, HDL.out, Nat.mul_one]) (own_news HO2.out) (bv_one _) (by omega) (by unfold maxLen; omega) (by omega) (by have := HB.out.inside; have := HF2b.out.size; simp at this; omega) _ rfl ?_; (intro gg cap w4 hown hgrow hat hlt4; have HOWN := Lib.hid hown; have HGROW := Lib.hid hgrow; have hb4 := Bk.grown ((HB.out.fresh (Fresh.drew wr)).fresh HF2b.out) hgrow (Own.ne_block ((HO.out.fresh (Fresh.drew wr)).fresh HF2b.out) ((HB.out.fresh (Fresh.drew wr)).fresh HF2b.out) (by decide)); have HB4b := Lib.hid hb4; have HK2 := Lib.hid (show w4.cell? ⟨g, 0, none⟩ = some (.slice A2 m c2) from hb4.cell rfl); have k4 := hb4.cell (i := 0) rfl; have f4 := hb4.free 0; clear hown hgrow hat hb4))))
        all_goals
          have q1 := HB4b.out.put 0 (.slice (some ⟨gg, 0, none⟩) (m + D) cap)
          have q2 : Own (w4.setCell ⟨g, 0, none⟩ (.slice (some ⟨gg, 0, none⟩) (m + D) cap)) (g + 1) 5 (some ⟨gg, 0, none⟩) (m + D) cap ((tx (pgs (bs.take (k + 1)))).map bv) := by
            have h1 := Own.but HOWN.out (But.put (g := g) (i := 0) w4 (.slice (some ⟨gg, 0, none⟩) (m + D) cap)) (Own.ne_block HOWN.out HB4b.out (by decide))
            rwa [← List.map_append, HS.out] at h1
          have q3 : Fresh w1 (w4.setCell ⟨g, 0, none⟩ (.slice (some ⟨gg, 0, none⟩) (m + D) cap)) := by
            have h1 : Fresh w1 w2 := (HF.out.trans (Fresh.drew wr)).trans HF2b.out
            have h2 : Fresh w1 w4 := Fresh.append h1 ((HO.out.fresh (Fresh.drew wr)).fresh HF2b.out) (by rw [HG.out]; omega) HGROW.out
            exact h2.but (by rw [HG.out]; exact Nat.le_refl _) (But.put _ _)
          have q4 : Hid (m + D = (tx (pgs (bs.take (k + 1)))).length) := by show _ = _; rw [← HS.out, List.length_append, ← hm.out, HDL.out]
          have Q1 := Lib.hid q1
          have Q2 := Lib.hid q2
          have Q3 := Lib.hid q3
          clear q1 q2 q3 k4 f4 k2 hc1 hc0
          go_wp2
          go_roundw
          case rel => exact ⟨k + 1, m + D, cap, some ⟨gg, 0, none⟩, by omega, by go_num, q4, by omega, Q1.out, Q2.out, Q3.out⟩
          case measure => simp [intOf]; omega
    · obtain rfl : k = n := by omega
      have HB := Lib.hid hb
      have HO := Lib.hid hown
      have HF := Lib.hid hfr
      have hz := HB2.out.fresh hfr
      have HZ := Lib.hid hz
      clear hb hown hfr hz
      go_wp2_with (first
        | ((with_reducible refine at_slot_ 42 ?_); refine wpList_load_blk rfl tName _ rfl g 0 2 tName [.slice A2 m c2, .bool true] rfl HB.out (by simp) _ Tryd.underlying91 rfl (by kernel_rfl) ?_)
        | ((with_reducible refine at_store_ 4 42 ?_); refine wpList_store_blk rfl _ _ _ rfl w.heap.size 0 tName _ [.slice A2 m c2, .bool true] rfl rfl HZ.out (by simp) (by intro v hv; simp at hv; rcases hv with rfl | rfl <;> rfl) (by kernel_rfl) ?_; intro w2 hb3 hbut2))
      have hb4 : w2.heap[w.heap.size]? = some (.cells #[.slice A2 m c2, .bool true] tName (0, 0)) := hb3
      refine bodyPost_ret (results_cell_row (p := 4) (by kernel_rfl) _ _ w.heap.size tName #[.slice A2 m c2, .bool true] (0, 0) _ rfl hb4 Tryd.underlying91 rfl (by kernel_rfl)) rfl ?_
      have hob := HO.out.but hbut2 (Own.ne_block HO.out HZ.out (by decide))
      rw [List.take_of_length_le (Nat.le_of_eq HL.out)] at hob
      have hm2 := hm.out
      rw [List.take_of_length_le (Nat.le_of_eq HL.out)] at hm2
      have hff : Fresh w w2 := Fresh.but (Fresh.trans HF2.out HF.out) (Nat.le_refl _) hbut2
      have hfin : NameIs (tx (pgs bs)) true w (.returned (.agg #[.slice A2 m c2, .bool true])) w2 := ⟨A2, m, c2, rfl, hm2, hff, hob.rd, hob.cap.1, hob.cap.2⟩
      exact hfin
end Go.Proofs.YtmnejphdjnlbjaaDoor.namp
/-
  A map's block whose entries are, in some order, a list of pairs: plain lemmas on worlds, over any program. My own text.
-/
namespace Go.Proofs.YtmnejphdjnlbjaaDoor.base
open Go.RowKit Go.Maps Go.ChangeMaps Go.MapKept
set_option linter.unusedVariables false

/-- block b is a map whose entries are, in some order, kv -/
def MapOf (P : Program) (k : TypeId) (w : World) (b : Nat) (kv : List (Value × Value)) : Prop :=
  ∃ es clock, w.heap[b]? = some (.map es clock) ∧ Stamped es clock ∧ (∀ e ∈ es.toList, ∃ l, keyOf P k e.key = some l) ∧ (es.toList.map fun e => (e.key, e.val)).Perm kv

section
variable {P : Program} {k e t : TypeId} {w w' : World} {b : Nat} {kv : List (Value × Value)}

theorem MapOf.inside (h : MapOf P k w b kv) : b < w.heap.size := by
  obtain ⟨es, clock, hb, _⟩ := h
  exact (Array.getElem?_eq_some_iff.1 hb).1
theorem MapOf.old (h : MapOf P k w b kv) (hk : w'.heap[b]? = w.heap[b]?) : MapOf P k w' b kv := by
  obtain ⟨es, clock, hb, r⟩ := h
  exact ⟨es, clock, hk.trans hb, r⟩
theorem MapOf.made (P : Program) (k : TypeId) (w : World) : MapOf P k (w.alloc (.map #[] 0)) w.heap.size [] :=
  ⟨#[], 0, (MapKept.heap_alloc w _).1, stamped_empty 0, by simp, by simp⟩
theorem MapOf.perm {kv' : List (Value × Value)} (h : MapOf P k w b kv) (hp : kv.Perm kv') : MapOf P k w b kv' := by
  obtain ⟨es, clock, hb, hs, hk, hq⟩ := h
  exact ⟨es, clock, hb, hs, hk, hq.trans hp⟩
theorem MapOf.apart (h : MapOf P k w b kv) : kv.Pairwise (fun p q => p.1 ≠ q.1) := by
  obtain ⟨es, clock, hb, hs, hk, hq⟩ := h
  refine (hq.pairwise_iff (fun {a b} (h : a.1 ≠ b.1) => h.symm)).1 ?_
  rw [List.pairwise_map]
  exact ((stamped_iff es clock).1 hs).2.2
theorem MapOf.keyed (h : MapOf P k w b kv) : ∀ p ∈ kv, ∃ l, keyOf P k p.1 = some l := by
  obtain ⟨es, clock, hb, hs, hk, hq⟩ := h
  intro p hp
  obtain ⟨x, hx, rfl⟩ := List.mem_map.1 (hq.mem_iff.2 hp)
  exact hk x hx
/-- not a row of cells -/
theorem MapOf.ne_cells (h : MapOf P k w b kv) {g : Nat} {c : Array Value} {te : TypeId} {fr : Nat × Nat} (hg : w.heap[g]? = some (.cells c te fr)) : b ≠ g := by
  rintro rfl
  obtain ⟨es, clock, hb, _⟩ := h
  rw [hb] at hg
  cases hg

theorem set_same {α : Type} {l : List α} {j : Nat} {x : α} (h : l[j]? = some x) : l.set j x = l := by
  obtain ⟨hj, rfl⟩ := List.getElem?_eq_some_iff.1 h
  exact List.set_getElem_self hj
theorem uniq {kv : List (Value × Value)} (hd : kv.Pairwise (fun p q => p.1 ≠ q.1)) {key v v' : Value} (h : (key, v) ∈ kv) (h' : (key, v') ∈ kv) : v = v' := by
  induction hd with
  | nil => cases h
  | cons hx _ ih =>
    rcases List.mem_cons.1 h with rfl | h1
    · rcases List.mem_cons.1 h' with h2 | h2
      · exact (Prod.mk.inj h2).2.symm
      · exact absurd rfl (hx (key, v') h2)
    · rcases List.mem_cons.1 h' with rfl | h2
      · exact absurd rfl (hx (key, v) h1)
      · exact ih h1 h2

theorem MapOf.look_hit (h : MapOf P k w b kv) (K : Keyed P k) (ht : P.underlying t = some (.map k e)) {key v : Value} {kl : Lit} (hkey : keyOf P k key = some kl) (hv : (key, v) ∈ kv) (c : Bool) :
    (Instr.lookup t (.map (some b)) key c).run P w = .ok (if c then .tuple #[v, .bool true] else v) w := by
  have hd := h.apart
  obtain ⟨es, clock, hb, hs, hk, hq⟩ := h
  rcases K.find w hkey es.toList hk with ⟨h1, h2⟩ | ⟨j, e0, h1, h2, h3⟩
  · obtain ⟨x, hx, hxe⟩ := List.mem_map.1 (hq.mem_iff.2 hv)
    exact absurd (Prod.mk.inj hxe).1 (h2 x hx)
  · have hm : (key, e0.val) ∈ kv := hq.mem_iff.1 (List.mem_map.2 ⟨e0, List.mem_of_getElem? h2, by rw [h3]⟩)
    have := uniq hd hm hv
    subst this
    simp [Instr.lookup, run_underlying ht, MapKept.run_getObj_map hb, K.check w _ hkey, h1, Result.andThen]

theorem MapOf.look_miss (h : MapOf P k w b kv) (K : Keyed P k) (ht : P.underlying t = some (.map k e)) {z : Value} (hz : (zeroValue e).run P w = .ok z w) {key : Value} {kl : Lit} (hkey : keyOf P k key = some kl) (hv : ∀ p ∈ kv, p.1 ≠ key) (c : Bool) :
    (Instr.lookup t (.map (some b)) key c).run P w = .ok (if c then .tuple #[z, .bool false] else z) w := by
  obtain ⟨es, clock, hb, hs, hk, hq⟩ := h
  rcases K.find w hkey es.toList hk with ⟨h1, h2⟩ | ⟨j, e0, h1, h2, h3⟩
  · simp [Instr.lookup, run_underlying ht, MapKept.run_getObj_map hb, K.check w _ hkey, h1, hz, Result.andThen]
  · exact absurd h3 (hv _ (hq.mem_iff.1 (List.mem_map.2 ⟨e0, List.mem_of_getElem? h2, rfl⟩)))

theorem But.setBlock_map {es es' : Array MapEntry} {clock clock' : Nat} (hb : w.heap[b]? = some (.map es clock)) : But b w (setBlock w b (.map es' clock')) :=
  World.mapTurned.grown ⟨es, clock, es', clock', hb, rfl⟩

theorem MapOf.put_new (h : MapOf P k w b kv) (K : Keyed P k) (ht : P.underlying t = some (.map k e)) {key : Value} {kl : Lit} (hkey : keyOf P k key = some kl) (hv : ∀ p ∈ kv, p.1 ≠ key) (val : Value) :
    ∃ w', (Instr.mapUpdate t (.map (some b)) key val).run P w = .ok () w' ∧ MapOf P k w' b ((key, val) :: kv) ∧ But b w w' := by
  obtain ⟨es, clock, hb, hs, hk, hq⟩ := h
  rcases K.find w hkey es.toList hk with ⟨h1, h2⟩ | ⟨j, e0, h1, h2, h3⟩
  · refine ⟨setBlock w b (.map (es.push ⟨key, val, clock⟩) (clock + 1)), ?_, ⟨_, _, heap_setBlock_same hb _, stamped_push hs h2, ?_, ?_⟩, But.setBlock_map hb⟩
    · simp [Instr.mapUpdate, run_underlying ht, MapKept.run_getObj_map hb, K.check w false hkey, h1, MapKept.run_setObj_map _ hb, Result.andThen, setBlock]
    · intro x hx
      simp only [Array.toList_push, List.mem_append, List.mem_singleton] at hx
      rcases hx with hx | rfl
      · exact hk x hx
      · exact ⟨kl, hkey⟩
    · simp only [Array.toList_push, List.map_append, List.map_cons, List.map_nil]
      exact (List.perm_append_singleton _ _).trans (hq.cons _)
  · exact absurd h3 (hv _ (hq.mem_iff.1 (List.mem_map.2 ⟨e0, List.mem_of_getElem? h2, rfl⟩)))

theorem MapOf.put_old (h : MapOf P k w b kv) (K : Keyed P k) (ht : P.underlying t = some (.map k e)) {key v0 : Value} {kl : Lit} {rest : List (Value × Value)} (hkey : keyOf P k key = some kl) (hp : kv.Perm ((key, v0) :: rest)) (val : Value) :
    ∃ w', (Instr.mapUpdate t (.map (some b)) key val).run P w = .ok () w' ∧ MapOf P k w' b ((key, val) :: rest) ∧ But b w w' := by
  have hd := h.apart
  obtain ⟨es, clock, hb, hs, hk, hq⟩ := h
  rcases K.find w hkey es.toList hk with ⟨h1, h2⟩ | ⟨j, e0, h1, h2, h3⟩
  · obtain ⟨x, hx, hxe⟩ := List.mem_map.1 (hq.mem_iff.2 (hp.mem_iff.2 (List.mem_cons_self ..)))
    exact absurd (Prod.mk.inj hxe).1 (h2 x hx)
  · have hj : es[j]? = some e0 := by simpa using h2
    have hjl : j < es.toList.length := (List.getElem?_eq_some_iff.1 h2).1
    have hv : e0.val = v0 := uniq hd (key := key) (hq.mem_iff.1 (List.mem_map.2 ⟨e0, List.mem_of_getElem? h2, by rw [h3]⟩)) (hp.mem_iff.2 (List.mem_cons_self ..))
    have hkeyf : ∀ e', es[j]? = some e' → ({ e' with key := key, val := val } : MapEntry).key = e'.key := fun e' he' => by rw [hj] at he'; cases he'; exact h3.symm
    have hlist : (es.modify j (fun e' => { e' with key := key, val := val })).toList = es.toList.set j { e0 with key := key, val := val } := by rw [Array.toList_modify, modify_eq_set _ _ _ _ h2]
    refine ⟨setBlock w b (.map (es.modify j (fun e' => { e' with key := key, val := val })) clock), ?_, ⟨_, _, heap_setBlock_same hb _, stamped_modify hs _ _ (fun _ _ => rfl) (fun e' _ he' => hkeyf e' he'), ?_, ?_⟩, But.setBlock_map hb⟩
    · simp [Instr.mapUpdate, run_underlying ht, MapKept.run_getObj_map hb, K.check w false hkey, h1, hj, h3, K.stays w hkey, MapKept.run_setObj_map _ hb, Result.andThen, setBlock]
    · intro x hx
      rw [hlist] at hx
      rcases List.mem_or_eq_of_mem_set hx with hx | rfl
      · exact hk x hx
      · exact ⟨kl, hkey⟩
    · rw [hlist, List.map_set]
      have hl2 : j < (es.toList.map fun e => (e.key, e.val)).length := by simpa using hjl
      refine (set_perm _ j hl2 _).trans ((?_ : List.Perm _ _).cons _)
      have h4 : (es.toList.map fun e => (e.key, e.val))[j]? = some (key, v0) := by rw [List.getElem?_map, h2, ← hv, ← h3]; rfl
      have h5 := set_perm (es.toList.map fun e => (e.key, e.val)) j hl2 (key, v0)
      rw [set_same h4] at h5
      exact (List.Perm.cons_inv ((h5.symm.trans hq).trans hp))

theorem MapOf.drop_hit (h : MapOf P k w b kv) (K : Keyed P k) (ht : P.underlying t = some (.map k e)) {key v0 : Value} {kl : Lit} {rest : List (Value × Value)} (hkey : keyOf P k key = some kl) (hp : kv.Perm ((key, v0) :: rest)) (ty : TypeId) :
    ∃ w', (Builtin.delete_ #[t, k] ty #[.map (some b), key]).run P w = .ok (.tuple #[]) w' ∧ MapOf P k w' b rest ∧ But b w w' := by
  have hd := h.apart
  obtain ⟨es, clock, hb, hs, hk, hq⟩ := h
  rcases K.find w hkey es.toList hk with ⟨h1, h2⟩ | ⟨j, e0, h1, h2, h3⟩
  · obtain ⟨x, hx, hxe⟩ := List.mem_map.1 (hq.mem_iff.2 (hp.mem_iff.2 (List.mem_cons_self ..)))
    exact absurd (Prod.mk.inj hxe).1 (h2 x hx)
  · have hjl : j < es.toList.length := (List.getElem?_eq_some_iff.1 h2).1
    have hjs : j < es.size := by simpa using hjl
    have hv : e0.val = v0 := uniq hd (key := key) (hq.mem_iff.1 (List.mem_map.2 ⟨e0, List.mem_of_getElem? h2, by rw [h3]⟩)) (hp.mem_iff.2 (List.mem_cons_self ..))
    have hsub : (es.eraseIdxIfInBounds j).toList = es.toList.eraseIdx j := by
      unfold Array.eraseIdxIfInBounds
      rw [dif_pos hjs]
      simp
    refine ⟨setBlock w b (.map (es.eraseIdxIfInBounds j) clock), ?_, ⟨_, _, heap_setBlock_same hb _, stamped_erase hs j, ?_, ?_⟩, But.setBlock_map hb⟩
    · simp [Builtin.delete_, run_underlying ht, MapKept.run_getObj_map hb, K.check w _ hkey, h1, MapKept.run_setObj_map _ hb, Result.andThen, setBlock]
    · intro x hx
      rw [hsub] at hx
      exact hk x ((List.eraseIdx_sublist _ _).subset hx)
    · rw [hsub, ChangeMaps.map_eraseIdx]
      have hl2 : j < (es.toList.map fun e => (e.key, e.val)).length := by simpa using hjl
      have h4 : (es.toList.map fun e => (e.key, e.val))[j]? = some (key, v0) := by rw [List.getElem?_map, h2, ← hv, ← h3]; rfl
      have h5 := set_perm (es.toList.map fun e => (e.key, e.val)) j hl2 (key, v0)
      rw [set_same h4] at h5
      exact (List.Perm.cons_inv ((h5.symm.trans hq).trans hp))

theorem MapOf.drop_miss (h : MapOf P k w b kv) (K : Keyed P k) (ht : P.underlying t = some (.map k e)) {key : Value} {kl : Lit} (hkey : keyOf P k key = some kl) (hv : ∀ p ∈ kv, p.1 ≠ key) (ty : TypeId) :
    ∃ w', (Builtin.delete_ #[t, k] ty #[.map (some b), key]).run P w = .ok (.tuple #[]) w' ∧ MapOf P k w' b kv ∧ But b w w' := by
  obtain ⟨es, clock, hb, hs, hk, hq⟩ := h
  rcases K.find w hkey es.toList hk with ⟨h1, h2⟩ | ⟨j, e0, h1, h2, h3⟩
  · refine ⟨setBlock w b (.map es clock), ?_, ⟨_, _, heap_setBlock_same hb _, hs, hk, hq⟩, But.setBlock_map hb⟩
    simp [Builtin.delete_, run_underlying ht, MapKept.run_getObj_map hb, K.check w _ hkey, h1, MapKept.run_setObj_map _ hb, Result.andThen, setBlock]
  · exact absurd h3 (hv _ (hq.mem_iff.1 (List.mem_map.2 ⟨e0, List.mem_of_getElem? h2, rfl⟩)))

theorem MapOf.len (h : MapOf P k w b kv) (ht : P.underlying t = some (.map k e)) (ty : TypeId) : (Builtin.len_ #[t] ty #[.map (some b)]).run P w = .ok (.int .i64 (kv.length : Nat)) w := by
  obtain ⟨es, clock, hb, hs, hk, hq⟩ := h
  have : es.size = kv.length := by have := hq.length_eq; simpa using this
  rw [← this]
  simp [Builtin.len_, run_underlying ht, MapKept.run_getObj_map hb, goInt, Result.andThen]

/-- the map in block b, on the way through it by the iterator in block r: 'left' are still to come -/
def RangeOf (P : Program) (k : TypeId) (w : World) (b r : Nat) (kv left : List (Value × Value)) : Prop :=
  ∃ es clock since seen c0, w.heap[b]? = some (.map es clock) ∧ Stamped es clock ∧ (∀ e ∈ es.toList, ∃ l, keyOf P k e.key = some l) ∧ (es.toList.map fun e => (e.key, e.val)).Perm kv ∧
    w.heap[r]? = some (.mapIter (some b) since seen c0) ∧ (∀ x ∈ es.toList, x.born < since) ∧ since ≤ c0 ∧ since ≤ clock ∧ ((leftOf es seen).toList.map fun e => (e.key, e.val)).Perm left

theorem RangeOf.map {r : Nat} {left : List (Value × Value)} (h : RangeOf P k w b r kv left) : MapOf P k w b kv := by
  obtain ⟨es, clock, since, seen, c0, hb, hs, hk, hq, _⟩ := h
  exact ⟨es, clock, hb, hs, hk, hq⟩
theorem RangeOf.iter {r : Nat} {left : List (Value × Value)} (h : RangeOf P k w b r kv left) : r < w.heap.size := by
  obtain ⟨es, clock, since, seen, c0, hb, hs, hk, hq, hr, _⟩ := h
  exact (Array.getElem?_eq_some_iff.1 hr).1
theorem RangeOf.ne {r : Nat} {left : List (Value × Value)} (h : RangeOf P k w b r kv left) : r ≠ b := by
  obtain ⟨es, clock, since, seen, c0, hb, hs, hk, hq, hr, _⟩ := h
  rintro rfl
  rw [hb] at hr
  cases hr
theorem RangeOf.old {r : Nat} {left : List (Value × Value)} (h : RangeOf P k w b r kv left) (h1 : w'.heap[b]? = w.heap[b]?) (h2 : w'.heap[r]? = w.heap[r]?) : RangeOf P k w' b r kv left := by
  obtain ⟨es, clock, since, seen, c0, hb, hs, hk, hq, hr, x⟩ := h
  exact ⟨es, clock, since, seen, c0, h1.trans hb, hs, hk, hq, h2.trans hr, x⟩
theorem RangeOf.fresh {r : Nat} {left : List (Value × Value)} (h : RangeOf P k w b r kv left) (hf : Fresh w w') : RangeOf P k w' b r kv left :=
  h.old (hf.block _ h.map.inside) (hf.block _ h.iter)
theorem RangeOf.sub {r : Nat} {left : List (Value × Value)} (h : RangeOf P k w b r kv left) : ∀ p ∈ left, p ∈ kv := by
  obtain ⟨es, clock, since, seen, c0, hb, hs, hk, hq, hr, h1, h2, h3, h4⟩ := h
  intro p hp
  obtain ⟨x, hx, rfl⟩ := List.mem_map.1 (h4.mem_iff.2 hp)
  exact hq.mem_iff.1 (List.mem_map.2 ⟨x, by simp [leftOf] at hx ⊢; exact hx.1, rfl⟩)


theorem MapOf.range (h : MapOf P k w b kv) (ht : P.underlying t = some (.map k e)) :
    ∃ w', (Instr.range t (.map (some b))).run P w = .ok (.pointer (some ⟨w.heap.size, 0, none⟩)) w' ∧ RangeOf P k w' b w.heap.size kv kv ∧ Fresh w w' ∧ w'.heap.size = w.heap.size + 1 := by
  have hlt := h.inside
  obtain ⟨es, clock, hb, hs, hk, hq⟩ := h
  refine ⟨_, run_range_map w t k e b es clock ht hb, ⟨es, clock, clock, #[], clock, ((MapKept.heap_alloc w _).2 b hlt).trans hb, hs, hk, hq, (MapKept.heap_alloc w _).1, ((stamped_iff es clock).1 hs).1, Nat.le_refl _, Nat.le_refl _, ?_⟩, Fresh.alloc _ _, by simp⟩
  have : leftOf es #[] = es := by unfold leftOf; exact Array.filter_eq_self.2 (fun x _ => by simp)
  rw [this]
  exact hq

theorem left_step {es : Array MapEntry} {seen : Array Nat} {e : MapEntry} (hn : (es.toList.map (·.born)).Nodup) (he : e ∈ (leftOf es seen).toList) :
    (leftOf es seen).toList.Perm (e :: (leftOf es (seen.push e.born)).toList) := by
  have h1 : ∀ (l : List MapEntry), (l.map (·.born)).Nodup → e ∈ l → l.Perm (e :: l.filter (fun x => !(x.born == e.born))) := by
    intro l
    induction l with
    | nil => intro _ h; cases h
    | cons y r ih =>
      intro hn he
      rw [List.map_cons, List.nodup_cons] at hn
      rcases List.mem_cons.1 he with rfl | he
      · rw [List.filter_cons_of_neg (by simp)]
        refine List.Perm.cons _ (List.Perm.of_eq ?_)
        refine (List.filter_eq_self.2 fun x hx => ?_).symm
        have : x.born ≠ e.born := fun h => hn.1 (h ▸ List.mem_map.2 ⟨x, hx, rfl⟩)
        simpa using this
      · have : y.born ≠ e.born := fun h => hn.1 (h ▸ List.mem_map.2 ⟨e, he, rfl⟩)
        rw [List.filter_cons_of_pos (by simpa using this)]
        exact ((ih hn.2 he).cons y).trans (List.Perm.swap _ _ _)
  have h2 : (leftOf es (seen.push e.born)).toList = (leftOf es seen).toList.filter (fun x => !(x.born == e.born)) := by
    simp only [leftOf, Array.toList_filter, List.filter_filter]
    refine List.filter_congr fun x _ => ?_
    rw [contains_push]
    cases seen.contains x.born <;> cases (x.born == e.born) <;> rfl
  rw [h2]
  refine h1 _ ?_ he
  simp only [leftOf, Array.toList_filter]
  exact (List.filter_sublist.map _).nodup hn

theorem RangeOf.next {r : Nat} {left : List (Value × Value)} (h : RangeOf P k w b r kv left) (ty : TypeId) :
    (left = [] ∧ (Instr.next (.pointer (some ⟨r, 0, none⟩)) false ty).run P w = .ok (.tuple #[.bool false]) w) ∨
    ∃ key v left' w', left.Perm ((key, v) :: left') ∧ (Instr.next (.pointer (some ⟨r, 0, none⟩)) false ty).run P w = .ok (.tuple #[.bool true, key, v]) w' ∧ RangeOf P k w' b r kv left' ∧ But r w w' ∧ w'.heap.size = w.heap.size ∧
      (Instr.entry (.pointer (some ⟨r, 0, none⟩))).run P w' = .ok (.tuple #[key, v]) w' := by
  have hne := h.ne
  obtain ⟨es, clock, since, seen, c0, hb, hs, hk, hq, hr, hold, hsc, hsk, hl⟩ := h
  rcases run_next_at (P := P) w ty r b since c0 seen es clock hr hb hold hsc with ⟨h0, hrun⟩ | ⟨x, hx, w1, hal, hrun⟩
  · left
    have : leftOf es seen = #[] := Array.eq_empty_of_size_eq_zero h0
    rw [this] at hl
    exact ⟨hl.symm.eq_nil, hrun⟩
  · right
    have hem : x ∈ es.toList := (mem_left hx).1
    have hr1 : w1.heap[r]? = some (.mapIter (some b) since seen c0) := by rcases hal with rfl | rfl <;> exact hr
    have hb1 : w1.heap[b]? = some (.map es clock) := by rcases hal with rfl | rfl <;> exact hb
    have hset := heap_set (o' := .mapIter (some b) since (seen.push x.born) clock) hr1
    have hb' : (setBlock w1 r (.mapIter (some b) since (seen.push x.born) clock)).heap[b]? = some (.map es clock) := (hset.2 b (fun e1 => hne e1.symm)).trans hb1
    have hnd := ((stamped_iff es clock).1 hs).2.1
    refine ⟨x.key, x.val, (leftOf es (seen.push x.born)).toList.map fun e => (e.key, e.val), _, hl.symm.trans (by have := (left_step hnd hx).map (fun e => (e.key, e.val)); simpa using this), hrun,
      ⟨es, clock, since, _, clock, hb', hs, hk, hq, hset.1, hold, hsk, hsk, List.Perm.refl _⟩, ?_, ?_, run_entry_at _ r b since seen es clock x hset.1 hb' hem hnd⟩
    · rcases hal with rfl | rfl <;> exact ⟨rfl, rfl, rfl, by simp [setBlock], fun i _ hi => hset.2 i (fun e1 => hi (by rw [e1]))⟩
    · rcases hal with rfl | rfl <;> simp [setBlock]
end

/-! at the operation, for the walk -/
section
variable {P : Program} (w : World) {ops : Array Oper} {rest : List Oper} {o : Oper} {a : Act} {Q : Exit → Act → World → Prop}

theorem wpList_look_hit (hg : o.guard = none) (m x : Operand) (t : TypeId) (hop : o.op = Op.lookup t m x false) (k e : TypeId) (K : Keyed P k) (ht : P.underlying t = some (.map k e)) (b : Nat) (kv : List (Value × Value))
    (hm : a.eval m = .map (some b)) (h : MapOf P k w b kv) (key v : Value) (kl : Lit) (hx : a.eval x = key) (hkey : keyOf P k key = some kl) (hv : (key, v) ∈ kv) (hK : wpList P ops Q rest (a.put o.dst v) w) : wpList P ops Q (o :: rest) a w := by
  refine wpList_plain hg fun K' hK' => ?_
  have hrun := h.look_hit K ht hkey hv false
  unfold Oper.wp
  simp [execOp, hop, hm, hx, hrun, Result.andThen]
  exact hK' _ _ hK
theorem wpList_look_miss (hg : o.guard = none) (m x : Operand) (t : TypeId) (hop : o.op = Op.lookup t m x false) (k e : TypeId) (K : Keyed P k) (ht : P.underlying t = some (.map k e)) (z : Value) (hz : (zeroValue e).run P w = .ok z w) (b : Nat) (kv : List (Value × Value))
    (hm : a.eval m = .map (some b)) (h : MapOf P k w b kv) (key : Value) (kl : Lit) (hx : a.eval x = key) (hkey : keyOf P k key = some kl) (hv : ∀ p ∈ kv, p.1 ≠ key) (hK : wpList P ops Q rest (a.put o.dst z) w) : wpList P ops Q (o :: rest) a w := by
  refine wpList_plain hg fun K' hK' => ?_
  have hrun := h.look_miss K ht hz hkey hv false
  unfold Oper.wp
  simp [execOp, hop, hm, hx, hrun, Result.andThen]
  exact hK' _ _ hK
theorem wpList_look_hit_ok (hg : o.guard = none) (m x : Operand) (t : TypeId) (hop : o.op = Op.lookup t m x true) (k e : TypeId) (K : Keyed P k) (ht : P.underlying t = some (.map k e)) (b : Nat) (kv : List (Value × Value))
    (hm : a.eval m = .map (some b)) (h : MapOf P k w b kv) (key v : Value) (kl : Lit) (hx : a.eval x = key) (hkey : keyOf P k key = some kl) (hv : (key, v) ∈ kv) (hK : wpList P ops Q rest (a.put o.dst (.tuple #[v, .bool true])) w) : wpList P ops Q (o :: rest) a w := by
  refine wpList_plain hg fun K' hK' => ?_
  have hrun := h.look_hit K ht hkey hv true
  unfold Oper.wp
  simp [execOp, hop, hm, hx, hrun, Result.andThen]
  exact hK' _ _ hK
theorem wpList_look_miss_ok (hg : o.guard = none) (m x : Operand) (t : TypeId) (hop : o.op = Op.lookup t m x true) (k e : TypeId) (K : Keyed P k) (ht : P.underlying t = some (.map k e)) (z : Value) (hz : (zeroValue e).run P w = .ok z w) (b : Nat) (kv : List (Value × Value))
    (hm : a.eval m = .map (some b)) (h : MapOf P k w b kv) (key : Value) (kl : Lit) (hx : a.eval x = key) (hkey : keyOf P k key = some kl) (hv : ∀ p ∈ kv, p.1 ≠ key) (hK : wpList P ops Q rest (a.put o.dst (.tuple #[z, .bool false])) w) : wpList P ops Q (o :: rest) a w := by
  refine wpList_plain hg fun K' hK' => ?_
  have hrun := h.look_miss K ht hz hkey hv true
  unfold Oper.wp
  simp [execOp, hop, hm, hx, hrun, Result.andThen]
  exact hK' _ _ hK
theorem wpList_put_new (hg : o.guard = none) (m x y : Operand) (t : TypeId) (hop : o.op = Op.mapUpdate t m x y) (k e : TypeId) (K : Keyed P k) (ht : P.underlying t = some (.map k e)) (b : Nat) (kv : List (Value × Value))
    (hm : a.eval m = .map (some b)) (h : MapOf P k w b kv) (key val : Value) (kl : Lit) (hx : a.eval x = key) (hy : a.eval y = val) (hkey : keyOf P k key = some kl) (hv : ∀ p ∈ kv, p.1 ≠ key)
    (hK : ∀ w', MapOf P k w' b ((key, val) :: kv) → But b w w' → wpList P ops Q rest (a.put o.dst undef) w') : wpList P ops Q (o :: rest) a w := by
  refine wpList_plain hg fun K' hK' => ?_
  obtain ⟨w', hrun, h1, h2⟩ := h.put_new K ht hkey hv val
  unfold Oper.wp
  simp [execOp, hop, hm, hx, hy, hrun, Result.andThen]
  exact hK' _ _ (hK w' h1 h2)
theorem wpList_put_old (hg : o.guard = none) (m x y : Operand) (t : TypeId) (hop : o.op = Op.mapUpdate t m x y) (k e : TypeId) (K : Keyed P k) (ht : P.underlying t = some (.map k e)) (b : Nat) (kv rest' : List (Value × Value)) (v0 : Value)
    (hm : a.eval m = .map (some b)) (h : MapOf P k w b kv) (key val : Value) (kl : Lit) (hx : a.eval x = key) (hy : a.eval y = val) (hkey : keyOf P k key = some kl) (hp : kv.Perm ((key, v0) :: rest'))
    (hK : ∀ w', MapOf P k w' b ((key, val) :: rest') → But b w w' → wpList P ops Q rest (a.put o.dst undef) w') : wpList P ops Q (o :: rest) a w := by
  refine wpList_plain hg fun K' hK' => ?_
  obtain ⟨w', hrun, h1, h2⟩ := h.put_old K ht hkey hp val
  unfold Oper.wp
  simp [execOp, hop, hm, hx, hy, hrun, Result.andThen]
  exact hK' _ _ (hK w' h1 h2)
theorem wpList_drop_hit (hg : o.guard = none) (m x : Operand) (t k : TypeId) (hop : o.op = Op.call { callee := Callee.builtin Builtin.delete, args := #[m, x], argTypes := #[t, k] }) (e : TypeId) (K : Keyed P k) (ht : P.underlying t = some (.map k e)) (b : Nat) (kv rest' : List (Value × Value)) (v0 : Value)
    (hm : a.eval m = .map (some b)) (h : MapOf P k w b kv) (key : Value) (kl : Lit) (hx : a.eval x = key) (hkey : keyOf P k key = some kl) (hp : kv.Perm ((key, v0) :: rest'))
    (hK : ∀ w', MapOf P k w' b rest' → But b w w' → wpList P ops Q rest (a.put o.dst (.tuple #[])) w') : wpList P ops Q (o :: rest) a w := by
  refine wpList_plain hg fun K' hK' => ?_
  obtain ⟨w', hrun, h1, h2⟩ := h.drop_hit K ht hkey hp o.type
  unfold Oper.wp
  simp [execOp, hop, resolve, invoke, builtin, hm, hx, hrun, Result.andThen]
  exact hK' _ _ (hK w' h1 h2)
theorem wpList_drop_miss (hg : o.guard = none) (m x : Operand) (t k : TypeId) (hop : o.op = Op.call { callee := Callee.builtin Builtin.delete, args := #[m, x], argTypes := #[t, k] }) (e : TypeId) (K : Keyed P k) (ht : P.underlying t = some (.map k e)) (b : Nat) (kv : List (Value × Value))
    (hm : a.eval m = .map (some b)) (h : MapOf P k w b kv) (key : Value) (kl : Lit) (hx : a.eval x = key) (hkey : keyOf P k key = some kl) (hv : ∀ p ∈ kv, p.1 ≠ key)
    (hK : ∀ w', MapOf P k w' b kv → But b w w' → wpList P ops Q rest (a.put o.dst (.tuple #[])) w') : wpList P ops Q (o :: rest) a w := by
  refine wpList_plain hg fun K' hK' => ?_
  obtain ⟨w', hrun, h1, h2⟩ := h.drop_miss K ht hkey hv o.type
  unfold Oper.wp
  simp [execOp, hop, resolve, invoke, builtin, hm, hx, hrun, Result.andThen]
  exact hK' _ _ (hK w' h1 h2)
theorem wpList_map_len (hg : o.guard = none) (m : Operand) (t : TypeId) (hop : o.op = Op.call { callee := Callee.builtin Builtin.len, args := #[m], argTypes := #[t] }) (k e : TypeId) (ht : P.underlying t = some (.map k e)) (b : Nat) (kv : List (Value × Value))
    (hm : a.eval m = .map (some b)) (h : MapOf P k w b kv) (hK : wpList P ops Q rest (a.put o.dst (.int .i64 (kv.length : Nat))) w) : wpList P ops Q (o :: rest) a w := by
  refine wpList_plain hg fun K' hK' => ?_
  unfold Oper.wp
  simp [execOp, hop, resolve, invoke, builtin, hm, h.len ht o.type, Result.andThen]
  exact hK' _ _ hK
theorem wpList_map_range (hg : o.guard = none) (m : Operand) (t : TypeId) (hop : o.op = Op.range t m) (k e : TypeId) (ht : P.underlying t = some (.map k e)) (b : Nat) (kv : List (Value × Value)) (hm : a.eval m = .map (some b)) (h : MapOf P k w b kv)
    (r : Nat) (hr : w.heap.size = r) (hK : ∀ w', RangeOf P k w' b r kv kv → Fresh w w' → w'.heap.size = w.heap.size + 1 → wpList P ops Q rest (a.put o.dst (.pointer (some ⟨r, 0, none⟩))) w') : wpList P ops Q (o :: rest) a w := by
  refine wpList_plain hg fun K' hK' => ?_
  subst hr
  obtain ⟨w', hrun, h1, h2, h3⟩ := h.range ht
  unfold Oper.wp
  simp [execOp, hop, hm, hrun, Result.andThen]
  exact hK' _ _ (hK w' h1 h2 h3)
theorem wpList_map_next (hg : o.guard = none) (it : Operand) (hop : o.op = Op.next it false) (k : TypeId) (b r : Nat) (kv left : List (Value × Value)) (hit : a.eval it = .pointer (some ⟨r, 0, none⟩)) (h : RangeOf P k w b r kv left)
    (hDone : left = [] → wpList P ops Q rest (a.put o.dst (.tuple #[.bool false])) w)
    (hMore : ∀ key v left' w', left.Perm ((key, v) :: left') → RangeOf P k w' b r kv left' → But r w w' → w'.heap.size = w.heap.size → (Instr.entry (.pointer (some ⟨r, 0, none⟩))).run P w' = .ok (.tuple #[key, v]) w' →
      wpList P ops Q rest (a.put o.dst (.tuple #[.bool true, key, v])) w') : wpList P ops Q (o :: rest) a w := by
  refine wpList_plain hg fun K' hK' => ?_
  unfold Oper.wp
  rcases h.next o.type with ⟨h0, hrun⟩ | ⟨key, v, left', w', hp, hrun, h1, h2, h3, h4⟩
  · simp [execOp, hop, hit, hrun, Result.andThen]
    exact hK' _ _ (hDone h0)
  · simp [execOp, hop, hit, hrun, Result.andThen]
    exact hK' _ _ (hMore key v left' w' hp h1 h2 h3 h4)
end
end Go.Proofs.YtmnejphdjnlbjaaDoor.base
/-
  Layer 9: Decode, bytesByRune, Encode, May. My own text.
-/
namespace Go.Proofs.YtmnejphdjnlbjaaDoor.namp
open Go.RowKit Go.Maps Go.Proofs.YtmnejphdjnlbjaaDoor.base Go.Proofs.YtmnejphdjnlbjaaDoor.nam
set_option linter.unusedVariables false

/-- what Decode tells -/
def decP (told : Bool) (bs : List UInt8) : Value := if told then (if Lib.validD bs = true then .tuple #[.string ⟨bs.toArray⟩, .bool true] else .tuple #[.string ⟨#[]⟩, .bool false]) else .tuple #[.string ⟨(tx (pgs bs)).toArray⟩, .bool true]
theorem decode_any (A : Option Addr) (n c : Nat) (bs : List UInt8) (told : Bool) (w : World) (B : Nat) (hr : Rd w B A n (bs.map bv)) (hB : B ≤ w.heap.size) (hn : n ≤ 4294967296) (hU : Laid w) :
    Calls Tryd.prog 25 #[.slice A n c, .bool told] w fun e w' => e = .returned (decP told bs) ∧ Fresh w w' := by
  have hl : bs.length = n := by have := hr.1; rwa [List.length_map] at this
  cases told with
  | false =>
    have hp := byPage_any A n c bs w B hr hB hn hU.up
    have e1 : decP false bs = .tuple #[.string ⟨(tx (pgs bs)).toArray⟩, .bool true] := rfl
    rw [e1]
    obtain ⟨S, hS⟩ : ∃ S, (⟨(tx (pgs bs)).toArray⟩ : ByteArray) = S := ⟨_, rfl⟩
    rw [hS] at hp ⊢
    have HP := Lib.hid hp
    clear hp hS hr hU hl
    go_enter Tryd.func25, Tryd.ntmps25
    go_wp2_with (go_at_call 50; (refine HP.out.mono ?_); rintro e w1 ⟨rfl, hf1⟩)
    go_ret2
    exact ⟨rfl, hf1⟩
  | true =>
    have hc := run_str_rd (P := Tryd.prog) w 22 9 5 Tryd.underlying22 Tryd.underlying5 Tryd.underlying9 A c n B bs hr
    have hrt := right_any ⟨bs.toArray⟩ w (by show bs.toArray.size ≤ maxLen; simp; unfold maxLen; omega) hU
    have e0 : (⟨bs.toArray⟩ : ByteArray).data.toList = bs := rfl
    rw [e0] at hrt
    obtain ⟨S, hS⟩ : ∃ S, (⟨bs.toArray⟩ : ByteArray) = S := ⟨_, rfl⟩
    rw [hS] at hc hrt
    have HRT := Lib.hid hrt
    clear hrt hr hU hl e0
    cases hv : Lib.validD bs with
    | true =>
      have e1 : decP true bs = .tuple #[.string S, .bool true] := by rw [decP, if_pos rfl, if_pos hv, hS]
      rw [e1]
      rw [hv] at HRT
      clear e1 hS hv
      go_enter Tryd.func25, Tryd.ntmps25
      go_wp2_with (go_at_call 51; (refine HRT.out.mono ?_); rintro e w1 ⟨rfl, hf1⟩)
      go_ret2
      exact ⟨rfl, hf1⟩
    | false =>
      have e1 : decP true bs = .tuple #[.string ⟨#[]⟩, .bool false] := by rw [decP, if_pos rfl, if_neg (by rw [hv]; simp)]
      rw [e1]
      rw [hv] at HRT
      clear e1 hS hv
      go_enter Tryd.func25, Tryd.ntmps25
      go_wp2_with (go_at_call 51; (refine HRT.out.mono ?_); rintro e w1 ⟨rfl, hf1⟩)
      go_ret2
      exact ⟨rfl, hf1⟩

abbrev tRune : TypeId := 21
/-- the map's entries for the first k bytes -/
def mp (k : Nat) : List (Value × Value) := (List.range k).reverse.map fun b => (.int .i32 (pageR b : Nat), .int .u8 (b : Nat))
theorem mp_succ (k : Nat) : mp (k + 1) = (.int .i32 (pageR k : Nat), .int .u8 (k : Nat)) :: mp k := by simp [mp, List.range_succ]
theorem mp_hit {r b : Nat} (h : pageB r = some b) : ((.int .i32 (r : Nat), .int .u8 (b : Nat)) : Value × Value) ∈ mp 256 := by
  have := pageB_some h
  refine List.mem_map.2 ⟨b, by simp; exact this.1, by rw [this.2]⟩
theorem mp_miss {r : Nat} (h : pageB r = none) : ∀ p ∈ mp 256, p.1 ≠ .int .i32 (r : Nat) := by
  intro p hp
  obtain ⟨b, hb, rfl⟩ := List.mem_map.1 hp
  have := pageB_none h b (by simpa using hb)
  intro e
  injection e with _ e
  exact this (by omega)
theorem mp_new {k : Nat} (hk : k < 256) : ∀ p ∈ mp k, p.1 ≠ .int .i32 (pageR k : Nat) := by
  intro p hp
  obtain ⟨b, hb, rfl⟩ := List.mem_map.1 hp
  have hb2 : b < k := by simpa using hb
  intro e
  injection e with _ e
  have := pageR_inj (a := b) (b := k) (by omega) hk (by omega)
  omega
theorem runeKey : Keyed Tryd.prog tRune := int_keyed Tryd.underlying21
theorem key_rune (r : Nat) (h : r ≤ 1114111) : keyOf Tryd.prog tRune (.int .i32 (r : Nat)) = some (.int .i32 (r : Nat)) := keyOf_int_mk Tryd.underlying21 (by simp [Lit.wf, IntKind.min, IntKind.max, IntKind.signed, IntKind.bits]; omega)
theorem zero_byte (w : World) : (zeroValue 5).run Tryd.prog w = .ok (.int .u8 0) w := by kernel_rfl

/-! a text that is gone through -/
theorem own_ne_iter {w : World} {base n c k pos : Nat} {e : TypeId} {A : Option Addr} {xs : List Value} {s : ByteArray} (h : Own w base e A n c xs) (hk : w.heap[k]? = some (.stringIter s pos)) : (Value.slice A n c).ownBlock ≠ some k := by
  rcases h.2 with ⟨hv, _⟩ | ⟨g', cap, cur, hv, _, hh, _⟩
  · rw [hv]; simp [Value.ownBlock]
  · rw [hv]
    simp only [Value.ownBlock, ne_eq, Option.some.injEq]
    intro e
    subst e
    rw [hh] at hk
    cases hk
theorem iterAt_but (w : World) (k : Nat) (s : ByteArray) (pos : Nat) : But k w (w.iterAt k s pos) :=
  ⟨rfl, rfl, rfl, by rw [Lib.iterAt_size]; exact Nat.le_refl _, fun i hi hne => Lib.iterAt_other w k i s pos (fun e => hne (by rw [e]))⟩
theorem mapOf_ne_iter {P : Program} {t : TypeId} {w : World} {b k pos : Nat} {kv : List (Value × Value)} {s : ByteArray} (h : MapOf P t w b kv) (hk : w.heap[k]? = some (.stringIter s pos)) : b ≠ k := by
  rintro rfl
  obtain ⟨es, clock, hb, _⟩ := h
  rw [hb] at hk
  cases hk
theorem mapOf_but {P : Program} {t : TypeId} {w w' : World} {b k : Nat} {kv : List (Value × Value)} (h : MapOf P t w b kv) (hb : But k w w') (hne : b ≠ k) : MapOf P t w' b kv :=
  h.old (hb.block b h.inside (fun e => hne (by injection e)))
theorem mapOf_ne_own {P : Program} {t : TypeId} {w : World} {b base n c : Nat} {e : TypeId} {A : Option Addr} {xs : List Value} {kv : List (Value × Value)} (h : MapOf P t w b kv) (ho : Own w base e A n c xs) : (Value.slice A n c).ownBlock ≠ some b := by
  obtain ⟨es, clock, hb, _⟩ := h
  rcases ho.2 with ⟨hv, _⟩ | ⟨g', cap, cur, hv, _, hh, _⟩
  · rw [hv]; simp [Value.ownBlock]
  · rw [hv]
    simp only [Value.ownBlock, ne_eq, Option.some.injEq]
    intro e
    subst e
    rw [hh] at hb
    cases hb
theorem in_of_cell' {w : World} {k : Nat} {o : Obj} (h : w.heap[k]? = some o) : k < w.heap.size := (Array.getElem?_eq_some_iff.1 h).1
theorem range_str (W : World) (s : ByteArray) : (Instr.range 9 (.string s)).run Tryd.prog W = .ok (.pointer (some ⟨W.heap.size, 0, none⟩)) (W.iter s 0) := run_range_string W 9 s Tryd.underlying9

theorem decode_rune {s : ByteArray} {done rest : List Nat} {r : Nat} {u : List UInt8} (hs : s.data.toList = tx (done ++ r :: rest) ++ u) (hr : Rn r) : Utf8.decode s (tx done).length = (r, wid r) ∧ (tx done).length < s.size ∧ (tx done).length + wid r = (tx (done ++ [r])).length := by
  have e : tx (done ++ r :: rest) ++ u = tx done ++ (en r ++ (tx rest ++ u)) := by rw [tx_append, tx_cons, List.append_assoc, List.append_assoc]
  refine ⟨?_, ?_, ?_⟩
  · rw [decode_drop, hs, e, List.drop_left, dcd_good hr]
  · have : s.size = s.data.toList.length := (Array.length_toList (xs := s.data)).symm
    rw [this, hs, e, List.length_append, List.length_append, en_len]
    have := wid_bd r
    omega
  · rw [tx_snoc, List.length_append, en_len]
theorem decode_bad {s : ByteArray} {done : List Nat} {u : List UInt8} (hs : s.data.toList = tx done ++ u) (hu : Bad u) : Utf8.decode s (tx done).length = (65533, 1) ∧ (tx done).length < s.size := by
  refine ⟨?_, ?_⟩
  · rw [decode_drop, hs, List.drop_left, hu.2]
  · have : s.size = s.data.toList.length := (Array.length_toList (xs := s.data)).symm
    rw [this, hs, List.length_append]
    have := List.length_pos_iff.2 hu.1
    omega
theorem decode_end {s : ByteArray} {done : List Nat} (hs : s.data.toList = tx done) : ¬ (tx done).length < s.size := by
  have : s.size = s.data.toList.length := (Array.length_toList (xs := s.data)).symm
  rw [this, hs]
  omega
/-- the byte of a rune -/
def bR9 (r : Nat) : UInt8 := UInt8.ofNat ((pageB r).getD 0)
def hasB (r : Nat) : Bool := (pageB r).isSome
/-- what Encode tells of a text that begins with these runes, and then with what is none -/
def encB (rs : List Nat) (u : List UInt8) : List UInt8 := if u = [] ∧ rs.all hasB = true then rs.map bR9 else tx rs ++ u
def encT (rs : List Nat) (u : List UInt8) : Bool := !(decide (u = []) && rs.all hasB)
def EncIs (rs : List Nat) (u : List UInt8) (w : World) (e : Ending) (w' : World) : Prop :=
  ∃ A n c, e = .returned (.tuple #[.slice A n c, .bool (encT rs u)]) ∧ n = (encB rs u).length ∧ n ≤ c ∧ c ≤ maxLen ∧ Fresh w w' ∧ Rd w' w'.heap.size A n ((encB rs u).map bv)
theorem bR9_is {r b : Nat} (h : pageB r = some b) : (Value.int .u8 (b : Nat)) = bv (bR9 r) := by
  have := (pageB_some h).1
  rw [bv, bR9, h, Option.getD_some, nat_u8 b this]
theorem info_byte : (Tryd.prog.info? 5).map (fun i => (i.zero, i.size, i.bytes)) = some (some (.int .u8 0), 1, 1) := by kernel_rfl

/-- what May tells -/
def mayP (rs : List Nat) (u : List UInt8) : Bool := decide (1 ≤ (tx rs ++ u).length) && (decide ((tx rs ++ u).length ≤ 40) && (decide (u = []) && rs.all fun r => decide (32 ≤ r) && decide (r ≠ 127)))
set_option maxHeartbeats 4000000 in
set_option maxRecDepth 100000 in
theorem may_any (s : ByteArray) (rs : List Nat) (u : List UInt8) (hs : s.data.toList = tx rs ++ u) (hrn : ∀ r ∈ rs, Rn r) (hu : u = [] ∨ Bad u) (w : World) (hm : s.size ≤ 4294967296) (hU : Laid w) :
    Calls Tryd.prog 26 #[.string s] w fun e w' => e = .returned (.bool (mayP rs u)) ∧ Fresh w w' := by
  have hsl : s.size = (tx rs ++ u).length := by rw [← hs]; exact (Array.length_toList (xs := s.data)).symm
  have hrt := right_any s w (by unfold maxLen; omega) hU
  rw [hs] at hrt
  have hrs := range_str w s
  have HS := Lib.hid hs
  by_cases h1 : s.size < 1
  · have hp : mayP rs u = false := by rw [mayP, decide_eq_false (by omega)]; rfl
    rw [hp]
    have t1 : decide ((s.size : Int) < 1) = true := by rw [decide_eq_true_iff]; omega
    clear hrt hs hrn hu hU hsl hrs hp h1 HS hm
    go_enter Tryd.func26, Tryd.ntmps26
    go_wp2
    go_ret
    exact ⟨rfl, Fresh.refl _⟩
  by_cases h2 : 40 < s.size
  · have hp : mayP rs u = false := by rw [mayP, decide_eq_false (p := (tx rs ++ u).length ≤ 40) (by omega)]; simp
    rw [hp]
    have t1 : decide ((s.size : Int) < 1) = false := by rw [decide_eq_false_iff_not]; omega
    have t2 : decide ((s.size : Int) > 40) = true := by rw [decide_eq_true_iff]; omega
    have t3 : decide (40 < (s.size : Int)) = true := by rw [decide_eq_true_iff]; omega
    clear hrt hs hrn hu hU hsl hrs hp h1 HS hm h2
    go_enter Tryd.func26, Tryd.ntmps26
    go_wp2
    go_ret
    exact ⟨rfl, Fresh.refl _⟩
  have t1 : decide ((s.size : Int) < 1) = false := by rw [decide_eq_false_iff_not]; omega
  have t2 : decide ((s.size : Int) > 40) = false := by rw [decide_eq_false_iff_not]; omega
  have t3 : decide (40 < (s.size : Int)) = false := by rw [decide_eq_false_iff_not]; omega
  rcases hu with hu | hub
  · rw [hu, List.append_nil, valid_good rs hrn] at hrt
    have hp : mayP rs u = rs.all fun r => decide (32 ≤ r) && decide (r ≠ 127) := by
      rw [mayP, decide_eq_true (p := 1 ≤ (tx rs ++ u).length) (by omega), decide_eq_true (p := (tx rs ++ u).length ≤ 40) (by omega), decide_eq_true hu]; rfl
    rw [hp]
    rw [hu, List.append_nil] at HS
    have HRT := Lib.hid hrt
    have HRN := Lib.hid hrn
    have hrs2 := fun W => range_str W s
    have HRS := Lib.hid hrs2
    clear hrt hs hU hsl hrs hp h1 h2 hm hrn hrs2
    go_enter Tryd.func26, Tryd.ntmps26
    go_wp2_with (go_at_call 51; (refine HRT.out.mono ?_); rintro e w1 ⟨rfl, hf1⟩; have hrs1 := HRS.out w1)
    have hit0 := World.iter_heap w1 s 0
    have hf0 : Fresh w (w1.iter s 0) := hf1.trans (Fresh.alloc w1 _)
    have hi1 := hf1.size
    have HI := Lib.hid hit0
    have HF := Lib.hid hf0
    clear hrs1 hit0 hf0 hf1
    go_loopw [20] (fun _ wr => ∃ (done rest : List Nat), Hid (rs = done ++ rest) ∧ Hid ((done.all fun r => decide (32 ≤ r) && decide (r ≠ 127)) = true) ∧ wr.heap[w1.heap.size]? = some (.stringIter s (tx done).length) ∧ Fresh w wr) (fun _ wr => s.size - wr.iterPos w1.heap.size)
    case atStart => exact ⟨[], rs, rfl, rfl, HI.out, HF.out⟩
    case round =>
      obtain ⟨done, rest, hdr, hall, hit, hfr⟩ := hrel
      cases rest with
      | nil =>
        have hrd : rs = done := by have := hdr.out; rwa [List.append_nil] at this
        subst hrd
        have hend := decode_end (s := s) (done := rs) HS.out
        have hnx : ∀ ty, (Instr.next (.pointer (some ⟨w1.heap.size, 0, none⟩)) true ty).run Tryd.prog wr = _ := fun ty => Lib.run_next_end_at wr w1.heap.size s _ ty hit hend
        have HF2 := Lib.hid hfr
        clear hit hfr hend
        go_wp2
        go_ret
        rw [hall.out]
        exact ⟨rfl, HF2.out⟩
      | cons r rest =>
        have hrr : Rn r := HRN.out r (by rw [hdr.out]; simp)
        have hss := HS.out
        rw [hdr.out, ← List.append_nil (tx (done ++ r :: rest))] at hss
        have hd := decode_rune hss hrr
        have hnx : ∀ ty, (Instr.next (.pointer (some ⟨w1.heap.size, 0, none⟩)) true ty).run Tryd.prog wr = _ := fun ty => Lib.run_next_any_at wr w1.heap.size s _ ty hit hd.2.1
        rw [hd.1] at hnx
        simp only at hnx
        rw [hd.2.2] at hnx
        have hbut := iterAt_but wr w1.heap.size s (tx (done ++ [r])).length
        have hf2 := hfr.but (by omega) hbut
        have hit2 := Lib.iterAt_heap wr w1.heap.size s _ (tx (done ++ [r])).length hit
        have hadv : (tx done).length < (tx (done ++ [r])).length := by rw [tx_snoc, List.length_append, en_len]; have := wid_bd r; omega
        have hold : wr.iterPos w1.heap.size = (tx done).length := by simp only [World.iterPos, hit]
        have HF2 := Lib.hid hf2
        have HI2 := Lib.hid hit2
        have HLEN := Lib.hid hd.2.1
        have HADV := Lib.hid hadv
        have HOLD := Lib.hid hold
        clear hit hfr hd hbut hf2 hit2 hss hrr hadv hold
        obtain ⟨V, hV⟩ : ∃ V, wr.iterAt w1.heap.size s (tx (done ++ [r])).length = V := ⟨_, rfl⟩
        rw [hV] at hnx HF2 HI2
        obtain ⟨P0, hP0⟩ : ∃ P0 : Nat, (tx done).length = P0 := ⟨_, rfl⟩
        rw [hP0] at hnx
        clear hV hP0
        by_cases b1 : r < 32
        · have c1 : decide ((r : Int) < 32) = true := by rw [decide_eq_true_iff]; omega
          have HB := Lib.hid b1
          clear b1
          go_wp2
          go_ret
          rw [hdr.out, List.all_append, List.all_cons, decide_eq_false (p := 32 ≤ r) (by have := HB.out; omega)]
          exact ⟨by simp, HF2.out⟩
        have c1 : decide ((r : Int) < 32) = false := by rw [decide_eq_false_iff_not]; omega
        by_cases b2 : r = 127
        · subst b2
          go_wp2
          go_ret
          rw [hdr.out, List.all_append, List.all_cons]
          exact ⟨by simp, HF2.out⟩
        · have c2 : ((r : Int) == 127) = false := by rw [beq_eq_false_iff_ne]; omega
          have HB1 := Lib.hid b1
          have HB2 := Lib.hid b2
          clear b1 b2
          go_wp2
          have HA := HADV.out
          have HLN := HLEN.out
          have HPO := HOLD.out
          have hit3 := HI2.out
          go_roundw
          case rel => exact ⟨done ++ [r], rest, by have := hdr.out; show _ = _; rw [this]; simp, by show _ = _; rw [List.all_append, hall.out, List.all_cons, List.all_nil, decide_eq_true (p := 32 ≤ r) (by have := HB1.out; omega), decide_eq_true (p := r ≠ 127) HB2.out]; rfl, hit3, HF2.out⟩
          case measure =>
            simp only [World.iterPos, hit3] at HPO ⊢
            omega
  · rw [valid_bad rs u hrn hub] at hrt
    have hp : mayP rs u = false := by rw [mayP, decide_eq_false (p := u = []) hub.1]; simp
    rw [hp]
    have HRT := Lib.hid hrt
    clear hrt hs hrn hub hU hsl hrs hp h1 HS hm h2
    go_enter Tryd.func26, Tryd.ntmps26
    go_wp2_with (go_at_call 51; (refine HRT.out.mono ?_); rintro e w1 ⟨rfl, hf1⟩)
    go_ret
    exact ⟨rfl, hf1⟩
end Go.Proofs.YtmnejphdjnlbjaaDoor.namp
/-
  Layer 9's reference: Decode as UTF-8, Encode, May. My own text.
-/
namespace Go.Proofs.YtmnejphdjnlbjaaDoor.namp
open Go.RowKit Go.Proofs.YtmnejphdjnlbjaaDoor.base Go.Proofs.YtmnejphdjnlbjaaDoor.nam
set_option linter.unusedVariables false

theorem Rd.far {w w' : World} {B n : Nat} {A : Option Addr} {xs : List Value} (h : Rd w B A n xs) (hB : B ≤ w.heap.size) (hf : Fresh w w') : Rd w' w'.heap.size A n xs := (h.below hf hB).up (Nat.le_trans hB hf.size)
theorem field_is (A : Option Addr) (m c : Nat) (b : Bool) (W : World) : (Instr.field tRunes (.agg #[.slice A m c, .bool b]) 1).run Tryd.prog W = .ok (.bool b) W := by
  simp [Instr.field, run_underlying Tryd.underlying113, asAgg, part, sizeOf, typeInfo]
set_option maxHeartbeats 4000000 in
set_option maxRecDepth 100000 in
theorem refDecode_told (A : Option Addr) (n c : Nat) (bs : List UInt8) (rs : List Nat) (u : List UInt8) (ht : bs = tx rs ++ u) (hrn : ∀ r ∈ rs, Rn r) (hu : u = [] ∨ Bad u) (w : World) (B : Nat) (hr : Rd w B A n (bs.map bv)) (hB : B ≤ w.heap.size) (hn : n ≤ 4294967296) (hc : n ≤ c) (hcm : c ≤ maxLen) :
    Calls Tryd.prog 35 #[.slice A n c, .bool true] w (NameIs (if u = [] then bs else []) (decide (u = [])) w) := by
  have hl : bs.length = n := by have := hr.1; rwa [List.length_map] at this
  have hrd := fun W h => read_any A n c bs rs u ht hrn hu W B h
  have b1 := Bk.made w tName #[.slice none 0 0, .bool false]
  have f1 := Fresh.alloc w (.cells #[.slice none 0 0, .bool false] tName)
  have hr1 := hr.below f1 hB
  have HR := Lib.hid hr
  have HR1 := Lib.hid hr1
  have HL := Lib.hid hl
  have HRD := Lib.hid hrd
  have HB1 := Lib.hid b1
  have HF1 := Lib.hid f1
  have HCM := Lib.hid hcm
  clear hl hrd b1 f1 hr hr1 ht hrn hcm
  rcases hu with hu | hu
  · rw [decide_eq_true hu, if_pos hu]
    have HU := Lib.hid hu
    clear hu
    go_enter Tryd.func35, Tryd.ntmps35
    go_wp2_with (first
      | (go_at_call 56; (refine (HRD.out _ HR1.out (by simp; omega) hn hc HCM.out).mono ?_); rintro e w1 ⟨A1, m1, c1, rfl, hf1, hm1, hrest⟩; (rw [decide_eq_true HU.out]); have hfld := field_is A1 m1 c1 true w1; have HFR := Lib.hid hf1; have hbz := HB1.out.fresh hf1; have HBZ := Lib.hid hbz; clear hf1 hbz hrest)
      | ((with_reducible refine at_store_ 4 14 ?_); refine wpList_store_blk rfl _ _ _ rfl w.heap.size 0 tName _ [.slice A n c, .bool true] rfl rfl HBZ.out (by simp) (by intro v hv; simp at hv; rcases hv with rfl | rfl <;> rfl) (by kernel_rfl) ?_; intro w2 hb3 hbut2))
    have hb4 : w2.heap[w.heap.size]? = some (.cells #[.slice A n c, .bool true] tName (0, 0)) := hb3
    refine bodyPost_ret (results_cell_row (p := 4) (by kernel_rfl) _ _ w.heap.size tName #[.slice A n c, .bool true] (0, 0) _ rfl hb4 Tryd.underlying91 rfl (by kernel_rfl)) rfl ?_
    have hff : Fresh w w2 := Fresh.but (Fresh.trans HF1.out HFR.out) (Nat.le_refl _) hbut2
    have hfin : NameIs bs true w (.returned (.agg #[.slice A n c, .bool true])) w2 := ⟨A, n, c, rfl, HL.out.symm, hff, Rd.far HR.out hB hff, hc, HCM.out⟩
    exact hfin
  · rw [decide_eq_false hu.1, if_neg hu.1]
    have HU := Lib.hid hu
    clear hu
    go_enter Tryd.func35, Tryd.ntmps35
    go_wp2_with (first
      | (go_at_call 56; (refine (HRD.out _ HR1.out (by simp; omega) hn hc HCM.out).mono ?_); rintro e w1 ⟨A1, m1, c1, rfl, hf1, hm1, hrest⟩; (rw [decide_eq_false HU.out.1]); have hfld := field_is A1 m1 c1 false w1; have HFR := Lib.hid hf1; have hbz := HB1.out.fresh hf1; have HBZ := Lib.hid hbz; clear hf1 hbz hrest)
      | ((with_reducible refine at_store_ 4 15 ?_); refine wpList_store_blk rfl _ _ _ rfl w.heap.size 0 tName _ [.slice none 0 0, .bool false] rfl rfl HBZ.out (by simp) (by intro v hv; simp at hv; rcases hv with rfl | rfl <;> rfl) (by kernel_rfl) ?_; intro w2 hb3 hbut2))
    have hb4 : w2.heap[w.heap.size]? = some (.cells #[.slice none 0 0, .bool false] tName (0, 0)) := hb3
    refine bodyPost_ret (results_cell_row (p := 4) (by kernel_rfl) _ _ w.heap.size tName #[.slice none 0 0, .bool false] (0, 0) _ rfl hb4 Tryd.underlying91 rfl (by kernel_rfl)) rfl ?_
    have hff : Fresh w w2 := Fresh.but (Fresh.trans HF1.out HFR.out) (Nat.le_refl _) hbut2
    have hfin : NameIs [] false w (.returned (.agg #[.slice none 0 0, .bool false])) w2 := ⟨none, 0, 0, rfl, rfl, hff, Rd.nil _ _ _, Nat.le_refl _, Nat.zero_le _⟩
    exact hfin
/-- what the reference's inner loop has found in k rounds -/
def cK (r k : Nat) : Int := match pageB r with
  | some b => if b < 128 + k then (b : Int) else -1
  | none => -1
theorem pageB_high {r b : Nat} (h : pageB r = some b) (hr : 128 ≤ r) : 128 ≤ b := by
  have := pageB_some h
  by_cases hb : b < 128
  · have h2 := this.2
    rw [pageR, if_pos hb] at h2
    omega
  · omega
theorem cK_zero {r : Nat} (hr : 128 ≤ r) : cK r 0 = -1 := by
  unfold cK
  cases h : pageB r with
  | none => rfl
  | some b =>
    have := pageB_high h hr
    simp only
    rw [if_neg (by omega)]
theorem cK_hit {r k : Nat} (hk : k < 128) (h : pageR (128 + k) = r) : cK r (k + 1) = 128 + (k : Int) := by
  have := pageB_R ⟨128 + k, by omega⟩
  simp only at this
  rw [h] at this
  unfold cK
  rw [this]
  simp only
  rw [if_pos (by omega)]
  omega
theorem cK_miss {r k : Nat} (hk : k < 128) (h : pageR (128 + k) ≠ r) : cK r (k + 1) = cK r k := by
  unfold cK
  cases hp : pageB r with
  | none => rfl
  | some b =>
    simp only
    have hb := pageB_some hp
    by_cases h1 : b < 128 + k
    · rw [if_pos h1, if_pos (by omega)]
    · have : b ≠ 128 + k := fun e => by rw [e] at hb; exact h hb.2
      rw [if_neg h1, if_neg (by omega)]
theorem cK_end {r : Nat} : cK r 128 = match pageB r with
  | some b => (b : Int)
  | none => -1 := by
  unfold cK
  cases hp : pageB r with
  | none => rfl
  | some b =>
    have hb := (pageB_some hp).1
    simp only
    rw [if_pos (by omega)]
theorem cK_bd (r k : Nat) : -1 ≤ cK r k ∧ cK r k ≤ 255 := by
  unfold cK
  cases hp : pageB r with
  | none => simp
  | some b =>
    have hb := (pageB_some hp).1
    simp only
    split <;> omega

end Go.Proofs.YtmnejphdjnlbjaaDoor.namp
/-
  Layer 9's reference: May. My own text.
-/
namespace Go.Proofs.YtmnejphdjnlbjaaDoor.namp
open Go.RowKit Go.Proofs.YtmnejphdjnlbjaaDoor.base Go.Proofs.YtmnejphdjnlbjaaDoor.nam
set_option linter.unusedVariables false

set_option maxHeartbeats 4000000 in
set_option maxRecDepth 100000 in
theorem refMay_any (A : Option Addr) (n c : Nat) (bs : List UInt8) (rs : List Nat) (u : List UInt8) (ht : bs = tx rs ++ u) (hrn : ∀ r ∈ rs, Rn r) (hu : u = [] ∨ Bad u) (w : World) (B : Nat) (hr : Rd w B A n (bs.map bv)) (hB : B ≤ w.heap.size) (hn : n ≤ 4294967296) (hc : n ≤ c) (hcm : c ≤ maxLen) :
    Calls Tryd.prog 36 #[.slice A n c] w fun e w' => e = .returned (.bool (mayP rs u)) ∧ Fresh w w' := by
  have hl : bs.length = n := by have := hr.1; rwa [List.length_map] at this
  have hrd := read_any A n c bs rs u ht hrn hu w B hr hB hn hc hcm
  have hlen : (tx rs ++ u).length = n := by rw [← ht, hl]
  have HT := Lib.hid ht
  have HL := Lib.hid hl
  have HRD := Lib.hid hrd
  by_cases h1 : n < 1
  · have hp : mayP rs u = false := by rw [mayP, hlen, decide_eq_false (by omega)]; rfl
    rw [hp]
    have t1 : decide ((n : Int) < 1) = true := by rw [decide_eq_true_iff]; omega
    clear hrd ht hrn hu hr hlen hp h1 hl
    go_enter Tryd.func36, Tryd.ntmps36
    go_wp2_with (go_at_call 56; (refine HRD.out.mono ?_); rintro e w1 ⟨LA, m, lc, rfl, hf1, hm1, hrest⟩)
    go_ret
    exact ⟨rfl, hf1.trans (Fresh.alloc _ _)⟩
  by_cases h2 : 40 < n
  · have hp : mayP rs u = false := by rw [mayP, hlen, decide_eq_false (p := n ≤ 40) (by omega)]; simp
    rw [hp]
    have t1 : decide ((n : Int) < 1) = false := by rw [decide_eq_false_iff_not]; omega
    have t2 : decide ((n : Int) > 40) = true := by rw [decide_eq_true_iff]; omega
    have t3 : decide (40 < (n : Int)) = true := by rw [decide_eq_true_iff]; omega
    clear hrd ht hrn hu hr hlen hp h1 h2 hl
    go_enter Tryd.func36, Tryd.ntmps36
    go_wp2_with (go_at_call 56; (refine HRD.out.mono ?_); rintro e w1 ⟨LA, m, lc, rfl, hf1, hm1, hrest⟩)
    go_ret
    exact ⟨rfl, hf1.trans (Fresh.alloc _ _)⟩
  have t1 : decide ((n : Int) < 1) = false := by rw [decide_eq_false_iff_not]; omega
  have t2 : decide ((n : Int) > 40) = false := by rw [decide_eq_false_iff_not]; omega
  have t3 : decide (40 < (n : Int)) = false := by rw [decide_eq_false_iff_not]; omega
  rcases hu with hu | hub
  · have hp : mayP rs u = rs.all fun r => decide (32 ≤ r) && decide (r ≠ 127) := by
      rw [mayP, hlen, decide_eq_true (p := 1 ≤ n) (by omega), decide_eq_true (p := n ≤ 40) (by omega), decide_eq_true hu]; rfl
    rw [hp]
    have HU := Lib.hid hu
    have HRN := Lib.hid hrn
    have hmn : rs.length ≤ n := by
      have h1 := tx_le rs
      rw [List.length_append] at hlen
      omega
    clear hrd ht hrn hu hr hlen hp h1 h2 hl
    go_enter Tryd.func36, Tryd.ntmps36
    go_wp2_with (go_at_call 56; (refine HRD.out.mono ?_); rintro e w1 ⟨LA, m, lc, rfl, hf1, hm1, hrest⟩; (rw [decide_eq_true HU.out]); have hbl := Bk.made w1 tRunes #[.slice LA m lc, .bool true]; have k1 := hbl.cell (i := 1) rfl; have HBL := Lib.hid hbl; have HF1 := Lib.hid hf1; have HREST := Lib.hid (hrest HU.out); clear hf1 hrest hbl)
    have hml : m = rs.length := HREST.out.1
    have hll : Rd (w1.alloc (.cells #[.slice LA m lc, .bool true] tRunes)) w1.heap.size LA m (rv rs) := HREST.out.2.below (Fresh.alloc w1 (.cells #[.slice LA m lc, .bool true] tRunes)) (Nat.le_refl _)
    have hff : Fresh w (w1.alloc (.cells #[.slice LA m lc, .bool true] tRunes)) := HF1.out.trans (Fresh.alloc _ _)
    have HLL := Lib.hid hll
    have HFF := Lib.hid hff
    have HML := Lib.hid hml
    have hmb : m ≤ n := by omega
    obtain ⟨W, hW⟩ : ∃ W, w1.alloc (.cells #[.slice LA m lc, .bool true] tRunes) = W := ⟨_, rfl⟩
    rw [hW] at HLL HFF HBL k1
    have hW2 : w1.alloc (.cells #[.slice LA m lc, .bool true] tRunes) = W := hW
    clear hll hff hml hW
    rw [hW2]
    clear hW2
    have k0 := HBL.out.cell (i := 0) rfl
    go_loopw [4] (fun v wr => ∃ k : Nat, k ≤ m ∧ v = .int .i64 k ∧ Hid (((rs.take k).all fun r => decide (32 ≤ r) && decide (r ≠ 127)) = true) ∧ wr = W) (fun v _ => m - (intOf v).toNat)
    case atStart => exact ⟨0, Nat.zero_le _, rfl, rfl, rfl⟩
    case round =>
      obtain ⟨k, hk, rfl, hall, rfl⟩ := hrel
      by_cases hlt : k < m
      · obtain ⟨lb, lo, r, hLA, hlbB, hr, hcr⟩ := HLL.out.at_ (enc := fun x : Nat => iv (x : Int)) hlt
        subst hLA
        have HR := Lib.hid hr
        have hsplit : rs = rs.take k ++ r :: rs.drop (k + 1) := by
          have h1 := List.take_append_drop k rs
          obtain ⟨hl2, hg⟩ := List.getElem?_eq_some_iff.1 hr
          rw [List.drop_eq_getElem_cons hl2, hg] at h1
          exact h1.symm
        have HSP := Lib.hid hsplit
        clear hr hsplit
        by_cases b1 : r < 32
        · have c1 : decide ((r : Int) < 32) = true := by rw [decide_eq_true_iff]; omega
          have HB := Lib.hid b1
          clear b1
          go_wp2
          go_ret
          have hz : (rs.all fun r => decide (32 ≤ r) && decide (r ≠ 127)) = false := by
            rw [HSP.out, List.all_append, List.all_cons, decide_eq_false (p := 32 ≤ r) (by have := HB.out; omega)]; simp
          rw [hz]
          exact ⟨rfl, HFF.out⟩
        have c1 : decide ((r : Int) < 32) = false := by rw [decide_eq_false_iff_not]; omega
        by_cases b2 : r = 127
        · have c2 : ((r : Int) == 127) = true := by rw [beq_iff_eq]; omega
          have HB := Lib.hid b2
          clear b1 b2
          go_wp2
          go_ret
          have hz : (rs.all fun r => decide (32 ≤ r) && decide (r ≠ 127)) = false := by
            rw [HSP.out, List.all_append, List.all_cons, decide_eq_false (p := r ≠ 127) (fun h => h HB.out)]; simp
          rw [hz]
          exact ⟨rfl, HFF.out⟩
        · have c2 : ((r : Int) == 127) = false := by rw [beq_eq_false_iff_ne]; omega
          have HB1 := Lib.hid b1
          have HB2 := Lib.hid b2
          clear b1 b2
          go_wp2
          go_roundw
          case rel => exact ⟨k + 1, by omega, by go_num, by show _ = _; rw [take_snoc _ _ _ HR.out, List.all_append, hall.out, List.all_cons, List.all_nil, decide_eq_true (p := 32 ≤ r) (by have := HB1.out; omega), decide_eq_true (p := r ≠ 127) HB2.out]; rfl, trivial⟩
          case measure => simp [intOf]; omega
      · obtain rfl : k = m := by omega
        go_wp2
        go_ret
        have hal := hall.out
        rw [List.take_of_length_le (Nat.le_of_eq HML.out.symm)] at hal
        rw [hal]
        exact ⟨rfl, HFF.out⟩
  · have hp : mayP rs u = false := by rw [mayP, decide_eq_false (p := u = []) hub.1]; simp
    rw [hp]
    have HU := Lib.hid hub
    clear hrd ht hrn hub hr hlen hp h1 h2 hl
    go_enter Tryd.func36, Tryd.ntmps36
    go_wp2_with (go_at_call 56; (refine HRD.out.mono ?_); rintro e w1 ⟨LA, m, lc, rfl, hf1, hm1, hrest⟩; (rw [decide_eq_false HU.out.1]); have k1 := (Bk.made w1 tRunes #[.slice LA m lc, .bool false]).cell (i := 1) rfl)
    go_ret
    exact ⟨rfl, hf1.trans (Fresh.alloc _ _)⟩
end Go.Proofs.YtmnejphdjnlbjaaDoor.namp
/-
  What the laws of layer 9 share: wakes, Same, the conversions that are guarded. My own text.
-/
namespace Go.Proofs.YtmnejphdjnlbjaaDoor.namp
open Go.RowKit Go.Proofs.YtmnejphdjnlbjaaDoor.base Go.Proofs.YtmnejphdjnlbjaaDoor.nam
set_option linter.unusedVariables false

theorem same9 (A D : Option Addr) (n c d : Nat) (xs : List UInt8) (w : World) (B B' : Nat) (ha : Rd w B A n (xs.map bv)) (hd : Rd w B' D n (xs.map bv)) (hn : n ≤ maxLen) :
    Calls Tryd.prog 8 #[.slice A n c, .slice D n d] w fun e w' => e = .returned (.bool true) ∧ Fresh w w' := by
  unfold maxLen at hn
  go_enter Tryd.func8, Tryd.ntmps8
  go_wp2
  go_loopw [5] (fun i wr => ∃ (k q : Nat), k ≤ n ∧ i = .int .i64 k ∧ wr = w.drewN q) (fun i _ => n - (intOf i).toNat)
  case atStart => exact ⟨0, 0, by omega, rfl, rfl⟩
  case round =>
    obtain ⟨k, q, hk, rfl, rfl⟩ := hrel
    by_cases hlt : k < n
    · obtain ⟨b, off, x, rfl, hb, hx, hcx⟩ := ha.at_ hlt
      obtain ⟨b', off', x', rfl, hb', hx', hcx'⟩ := hd.at_ hlt
      have e : x = x' := by rw [hx] at hx'; injection hx'
      subst e
      clear hx hx' ha hd
      go_wp2
      go_quiet (fail)
      go_wp2
      go_roundw
      case rel => exact ⟨k + 1, _, by omega, by go_num, rfl⟩
      case measure => simp [intOf]; omega
    · go_wp2
      go_ret
      exact ⟨rfl, Fresh.drewN _ _⟩
theorem same_of (A D : Option Addr) (n m c d : Nat) (xs : List UInt8) (w : World) (B B' : Nat) (ha : Rd w B A n (xs.map bv)) (hd : Rd w B' D m (xs.map bv)) (hn : n ≤ maxLen) :
    Calls Tryd.prog 8 #[.slice A n c, .slice D m d] w fun e w' => e = .returned (.bool true) ∧ Fresh w w' := by
  have h1 := ha.1
  have h2 := hd.1
  have e : n = m := by rw [← h1, ← h2]
  subst e
  exact same9 A D n c d xs w B B' ha hd hn

theorem page_233 : pageB 233 = some 130 := by decide +kernel
section
variable {P : Program} {w : World} {ops : Array Oper} {rest : List Oper} {o : Oper} {a : Act} {Q : Exit → Act → World → Prop}
/-- []byte(text), guarded, where the guard holds -/
theorem wpList_bytes_of_if (hgd : Region.wanted o (yielded ops a.tmps) = true) (src dst e : TypeId) (x : Operand) (ho : o.op = .convert src dst x) (hs : P.underlying src = some .string) (hd : P.underlying dst = some (.slice e)) (he : P.underlying e = some (.int .u8))
    (s : ByteArray) (hx : a.eval x = .string s) (l : List UInt8) (hl : s.data.toList = l) (n : Nat) (hn : l.length = n) (hm : n ≤ maxLen)
    (h : ∀ A c w', Fresh w w' → Rd w' w'.heap.size A n (l.map bv) → n ≤ c → c ≤ maxLen → wpList P ops Q rest (a.put o.dst (.slice A n c)) w') : wpList P ops Q (o :: rest) a w := by
  have key := wpList_bytes_of (P := P) (w := w) (ops := ops) (rest := rest) (o := { o with guard := none }) (a := a) (Q := Q) rfl src dst e x ho hs hd he s hx l hl n hn hm h
  refine wpList_step fun K hK => ?_
  rw [if_pos hgd]
  have hsz : s.size = n := by rw [← hn, ← hl]; exact (Array.length_toList (xs := s.data)).symm
  have hrun := run_bytes_of_string (P := P) w src dst e s hs hd he
  rw [hsz] at hrun
  unfold Oper.wp execOp
  simp only [ho, hx, Sem.run_bind, hrun, Result.andThen_ok]
  have hf : Fresh w (w.drew.alloc (.cells (bytesRow s (grownCap w n 0 e)) e ((bytesRow s (grownCap w n 0 e)).size, (bytesRow s (grownCap w n 0 e)).size + 1))) := (Fresh.drew w).trans (Fresh.alloc _ _)
  refine hK _ _ (h _ _ _ hf ⟨by rw [List.length_map, hn], fun hpos => ⟨w.heap.size, 0, rfl, by simp, fun j u hu => ?_⟩⟩ ?_ ?_)
  · rw [Nat.zero_add]
    have hj : j < s.data.size := by
      have := (List.getElem?_eq_some_iff.1 hu).1
      rw [List.length_map] at this
      rw [← hl] at this
      rwa [Array.length_toList] at this
    have hcell := cell_of_row (w.drew.alloc (.cells (bytesRow s (grownCap w n 0 e)) e ((bytesRow s (grownCap w n 0 e)).size, (bytesRow s (grownCap w n 0 e)).size + 1))) w.heap.size j _ e _ (heap_alloc_new w.drew _)
    rw [hcell, bytesRow_at s _ j hj, ← hu, ← hl, List.getElem?_map, List.getElem?_eq_getElem (by simpa using hj)]
    simp
  · exact grownCap_ge w n 0 e
  · exact grownCap_le_maxLen w n 0 e hm
/-- []rune(text), guarded, where the guard holds: how many they are -/
theorem wpList_runes_if (hgd : Region.wanted o (yielded ops a.tmps) = true) (src dst e : TypeId) (x : Operand) (ho : o.op = .convert src dst x) (hs : P.underlying src = some .string) (hd : P.underlying dst = some (.slice e)) (he : P.underlying e = some (.int .i32))
    (s : ByteArray) (hx : a.eval x = .string s) (n : Nat) (hn : (Conv.runesFrom s s.size 0 #[]).size = n) (hm : n ≤ 70368744177664)
    (h : ∀ A c w', Fresh w w' → wpList P ops Q rest (a.put o.dst (.slice A n c)) w') : wpList P ops Q (o :: rest) a w := by
  refine wpList_step fun K hK => ?_
  rw [if_pos hgd]
  have hrun := run_runes_of_string (P := P) w src dst e s hs hd he (by omega)
  rw [hn] at hrun
  unfold Oper.wp execOp
  simp only [ho, hx, Sem.run_bind, hrun, Result.andThen_ok]
  exact hK _ _ (h _ _ _ ((Fresh.drew w).trans (Fresh.alloc _ _)))
end
theorem runes_from (s : ByteArray) : ∀ (rest done : List Nat) (bound : Nat) (acc : Array Value), s.data.toList = tx (done ++ rest) → (∀ r ∈ rest, Rn r) → rest.length ≤ bound → (Conv.runesFrom s bound (tx done).length acc).size = acc.size + rest.length
  | [], done, bound, acc, hs, hr, hb => by
    have hend := decode_end (s := s) (done := done) (by rw [hs, List.append_nil])
    cases bound with
    | zero => rfl
    | succ k => rw [Conv.runesFrom, if_neg hend]; rfl
  | r :: rest, done, 0, acc, hs, hr, hb => by simp at hb
  | r :: rest, done, k + 1, acc, hs, hr, hb => by
    have hd := decode_rune (u := []) (s := s) (done := done) (rest := rest) (r := r) (by rw [hs, List.append_nil]) (hr r (.head _))
    rw [Conv.runesFrom, if_pos hd.2.1, hd.1]
    simp only
    rw [hd.2.2, runes_from s rest (done ++ [r]) k _ (by rw [hs]; simp) (fun x hx => hr x (.tail _ hx)) (by simp at hb; omega)]
    simp
    omega
theorem runes_count (s : ByteArray) (rs : List Nat) (hs : s.data.toList = tx rs) (hr : ∀ r ∈ rs, Rn r) : (Conv.runesFrom s s.size 0 #[]).size = rs.length := by
  have h := runes_from s rs [] s.size #[] (by rw [hs]; rfl) hr (by
    have h1 := tx_le rs
    have h2 : s.size = s.data.toList.length := (Array.length_toList (xs := s.data)).symm
    rw [h2, hs]
    exact h1)
  simpa using h
/-- the program and the reference decode alike -/
theorem both_any (told : Bool) (bs : List UInt8) (hn : bs.length ≤ 4294967296) : ∃ (L : List UInt8) (is : Bool), (is = false → L = []) ∧ L.length ≤ 17179869184 ∧
    (∀ W A n c B, Rd W B A n (bs.map bv) → B ≤ W.heap.size → Laid W → Calls Tryd.prog 25 #[.slice A n c, .bool told] W fun e w' => e = .returned (.tuple #[.string ⟨L.toArray⟩, .bool is]) ∧ Fresh W w') ∧
    (∀ W A n c B, Rd W B A n (bs.map bv) → B ≤ W.heap.size → n ≤ c → c ≤ maxLen → Calls Tryd.prog 35 #[.slice A n c, .bool told] W (NameIs L is W)) := by
  have hlen : ∀ {W B A n}, Rd W B A n (bs.map bv) → n ≤ 4294967296 := fun h => by have := h.1; rw [List.length_map] at this; omega
  cases told with
  | false =>
    refine ⟨tx (pgs bs), true, fun h => Bool.noConfusion h, Nat.le_trans (tx_len _) (by rw [List.length_map]; omega), fun W A n c B hr hB hU => ?_, fun W A n c B hr hB hc hcm => refDecode_page A n c bs W B hr hB (hlen hr)⟩
    exact decode_any A n c bs false W B hr hB (hlen hr) hU
  | true =>
    obtain ⟨rs, u, hrn, ht, hu⟩ := read_or bs
    refine ⟨if u = [] then bs else [], decide (u = []), fun h => by rw [if_neg (by simpa using h)], (by split; exact Nat.le_trans hn (by omega); exact Nat.zero_le _), fun W A n c B hr hB hU => ?_, fun W A n c B hr hB hc hcm => refDecode_told A n c bs rs u ht hrn hu W B hr hB (hlen hr) hc hcm⟩
    have hd := decode_any A n c bs true W B hr hB (hlen hr) hU
    rcases hu with hu | hu
    · have hv : Lib.validD bs = true := by rw [ht, hu, List.append_nil]; exact valid_good rs hrn
      have e1 : decP true bs = .tuple #[.string ⟨bs.toArray⟩, .bool true] := by rw [decP, if_pos rfl, if_pos hv]
      rw [e1] at hd
      rw [if_pos hu, decide_eq_true hu]
      exact hd
    · have hv : Lib.validD bs = false := by rw [ht]; exact valid_bad rs u hrn hu
      have e1 : decP true bs = .tuple #[.string ⟨#[]⟩, .bool false] := by rw [decP, if_pos rfl, if_neg (by rw [hv]; simp)]
      rw [e1] at hd
      rw [if_neg hu.1, decide_eq_false hu.1]
      exact hd
end Go.Proofs.YtmnejphdjnlbjaaDoor.namp
/-
  Names, as the program and the reference decode and allow them, by one model. My own text.
-/
namespace Go.Proofs.YtmnejphdjnlbjaaDoor.unzp
open Go.RowKit Go.Proofs.YtmnejphdjnlbjaaDoor.base Go.Proofs.YtmnejphdjnlbjaaDoor.nam Go.Proofs.YtmnejphdjnlbjaaDoor.namp Go.Proofs.YtmnejphdjnlbjaaDoor.recn Go.Proofs.YtmnejphdjnlbjaaDoor.unz
set_option linter.unusedVariables false
theorem mayP_is (rs : List Nat) (u : List UInt8) (h : ∀ r ∈ rs, Rn r) (hu : u = [] ∨ Bad u) : mayP rs u = mayL (tx rs ++ u) := by
  unfold mayP mayL
  rcases hu with rfl | hu
  · rw [List.append_nil, valid_good rs h, tx_ok rs h, Bool.true_and]
    simp
  · rw [valid_bad rs u h hu, decide_eq_false hu.1]
    simp
def decV (r : Option (List UInt8)) : Value := match r with
  | none => .tuple #[.string ⟨#[]⟩, .bool false]
  | some L => .tuple #[.string ⟨L.toArray⟩, .bool true]
theorem decV_is (told : Bool) (bs : List UInt8) : decP told bs = decV (decL told bs) := by
  unfold decP decL
  cases told with
  | false => rfl
  | true =>
    rw [if_pos rfl, if_pos rfl]
    split <;> rfl
theorem dec_any (A : Option Addr) (n c : Nat) (bs : List UInt8) (told : Bool) (w : World) (B : Nat) (hr : Rd w B A n (bs.map bv)) (hB : B ≤ w.heap.size) (hn : n ≤ 4294967296) (hU : Laid w) (r : Option (List UInt8)) (hres : decL told bs = r) :
    Calls Tryd.prog 25 #[.slice A n c, .bool told] w fun e w' => e = .returned (decV r) ∧ Fresh w w' := by
  subst hres
  have h := decode_any A n c bs told w B hr hB hn hU
  rwa [decV_is] at h
theorem refDec_any (A : Option Addr) (n c : Nat) (bs : List UInt8) (told : Bool) (w : World) (B : Nat) (hr : Rd w B A n (bs.map bv)) (hB : B ≤ w.heap.size) (hn : n ≤ 4294967296) (hc : n ≤ c) (hcm : c ≤ maxLen) (r : Option (List UInt8)) (hres : decL told bs = r) :
    Calls Tryd.prog 35 #[.slice A n c, .bool told] w (NameIs (r.getD []) r.isSome w) := by
  subst hres
  cases told with
  | false => exact refDecode_page A n c bs w B hr hB hn
  | true =>
    obtain ⟨rs, u, hrn, ht, hu⟩ := read_or bs
    have hd := refDecode_told A n c bs rs u ht hrn hu w B hr hB hn hc hcm
    unfold decL
    rw [if_pos rfl]
    rcases hu with hu | hu
    · have hv : Lib.validD bs = true := by rw [ht, hu, List.append_nil]; exact valid_good rs hrn
      rw [if_pos hu, decide_eq_true hu] at hd
      rw [if_pos hv]
      exact hd
    · have hv : Lib.validD bs = false := by rw [ht]; exact valid_bad rs u hrn hu
      rw [if_neg hu.1, decide_eq_false hu.1] at hd
      rw [if_neg (by rw [hv]; simp)]
      exact hd
theorem may_of (L : List UInt8) (w : World) (hl : L.length ≤ 4294967296) (hU : Laid w) (b : Bool) (hb : mayL L = b) :
    Calls Tryd.prog 26 #[.string ⟨L.toArray⟩] w fun e w' => e = .returned (.bool b) ∧ Fresh w w' := by
  subst hb
  obtain ⟨rs, u, hrn, ht, hu⟩ := read_or L
  have h := may_any ⟨L.toArray⟩ rs u (by rw [← ht]) hrn hu w hl hU
  rw [mayP_is rs u hrn hu, ← ht] at h
  exact h
theorem refMay_of (A : Option Addr) (n c : Nat) (L : List UInt8) (w : World) (B : Nat) (hr : Rd w B A n (L.map bv)) (hB : B ≤ w.heap.size) (hn : n ≤ 4294967296) (hc : n ≤ c) (hcm : c ≤ maxLen) (b : Bool) (hb : mayL L = b) :
    Calls Tryd.prog 36 #[.slice A n c] w fun e w' => e = .returned (.bool b) ∧ Fresh w w' := by
  subst hb
  obtain ⟨rs, u, hrn, ht, hu⟩ := read_or L
  have h := refMay_any A n c L rs u ht hrn hu w B hr hB hn hc hcm
  rw [mayP_is rs u hrn hu, ← ht] at h
  exact h
end Go.Proofs.YtmnejphdjnlbjaaDoor.unzp
