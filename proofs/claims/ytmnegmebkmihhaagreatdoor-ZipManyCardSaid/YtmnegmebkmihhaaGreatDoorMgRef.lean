import Derived.Test.YtmnegmebkmihhaaGreatDoorNamNum
import Derived.Test.YtmnegmebkmihhaaGreatDoorMgNam
import Derived.Test.YtmnegmebkmihhaaGreatDoorChecked
import Derived.Deep.RegionLaw
import Derived.Deep.RegionHeld3
import Derived.Deep.AppendLies
import Derived.BigQuiet
import Derived.Deep.QuietTactic
/- Several of my own texts, one behind the other. -/
/-
  Layer 9's reference: utf, Page, next. My own text.
-/
namespace Go.Proofs.YtmnegmebkmihhaaGreatDoor.namp
open Go.RowKit Go.Proofs.YtmnegmebkmihhaaGreatDoor.base Go.Proofs.YtmnegmebkmihhaaGreatDoor.nam
set_option linter.unusedVariables false

theorem own_lit (w : World) (e : TypeId) (cs : Array Value) (n : Nat) (hn : cs.size = n) (hm : n ≤ maxLen) (xs : List Value) (hx : cs.toList = xs) : Own (w.alloc (.cells cs e)) w.heap.size e (some ⟨w.heap.size, 0, none⟩) n n xs := by
  subst hx
  exact World.ownsRow_lit w cs n (Nat.le_refl _) hm (by omega)
theorem w8 (z : Int) (n : Nat) (h : z = (n : Int)) (hn : n < 256) : IntKind.u8.wrap z = (n : Int) := by subst h; simp [IntKind.wrap, IntKind.signed, IntKind.bits]; omega
theorem bvN (n : Nat) (h : n < 256) : Value.int .u8 (n : Int) = bv (UInt8.ofNat n) := by rw [bv, nat_u8 n h]
set_option maxHeartbeats 1000000 in
theorem utf_any (r : Nat) (hr : r < 2097152) (w : World) :
    Calls Tryz.prog 94 #[.int .i64 (r : Nat)] w fun e w' => ∃ A c, e = .returned (.slice A (wid r) c) ∧ Fresh w w' ∧ Own w' w.heap.size 5 A (wid r) c ((en r).map bv) := by
  obtain ⟨z, hz⟩ : ∃ z : Int, (r : Int) = z := ⟨_, rfl⟩
  rw [hz]
  have hz0 : 0 ≤ z := by omega
  have q1 : z.tdiv 64 = z / 64 := Int.tdiv_eq_ediv_of_nonneg hz0
  have q2 : z.tmod 64 = z % 64 := Int.tmod_eq_emod_of_nonneg hz0
  have q3 : z.tdiv 4096 = z / 4096 := Int.tdiv_eq_ediv_of_nonneg hz0
  have q4 : z.tdiv 262144 = z / 262144 := Int.tdiv_eq_ediv_of_nonneg hz0
  have q5 : (z / 64).tmod 64 = z / 64 % 64 := Int.tmod_eq_emod_of_nonneg (by omega)
  have q6 : (z / 4096).tmod 64 = z / 4096 % 64 := Int.tmod_eq_emod_of_nonneg (by omega)
  by_cases h1 : r < 128
  · have t1 : decide (z < 128) = true := by rw [decide_eq_true_iff]; omega
    have e1 : IntKind.u8.wrap z = z := by rw [w8 z r hz.symm (by omega)]; exact hz
    have hw : wid r = 1 := by rw [wid, if_pos h1]
    have he : (en r).map bv = [.int .u8 z] := by rw [en, if_pos h1, ← hz]; simp only [List.map_cons, List.map_nil]; rw [bvN r (by omega)]
    have b1 : z ≤ 2097152 := by omega
    rw [hw, he]
    clear hr hz h1 he hw
    go_enter Tryz.func94, Tryz.ntmps94
    go_wp2
    go_ret
    exact ⟨_, _, rfl, Fresh.alloc _ _, own_lit w 5 #[.int .u8 z] 1 rfl (by unfold maxLen; omega) _ rfl⟩
  have t1 : decide (z < 128) = false := by rw [decide_eq_false_iff_not]; omega
  by_cases h2 : r < 2048
  · have t2 : decide (z < 2048) = true := by rw [decide_eq_true_iff]; omega
    have e1 : IntKind.u8.wrap (192 + z / 64) = 192 + z / 64 := by rw [w8 _ (192 + r / 64) (by omega) (by omega)]; omega
    have e2 : IntKind.u8.wrap (128 + z % 64) = 128 + z % 64 := by rw [w8 _ (128 + r % 64) (by omega) (by omega)]; omega
    have hw : wid r = 2 := by rw [wid, if_neg h1, if_pos h2]
    have he : (en r).map bv = [.int .u8 (192 + z / 64), .int .u8 (128 + z % 64)] := by
      rw [en, if_neg h1, if_pos h2]
      simp only [List.map_cons, List.map_nil]
      rw [← bvN _ (show 192 + r / 64 < 256 by omega), ← bvN _ (show 128 + r % 64 < 256 by omega), show ((192 + r / 64 : Nat) : Int) = 192 + z / 64 by omega, show ((128 + r % 64 : Nat) : Int) = 128 + z % 64 by omega]
    have b1 : z ≤ 2097152 := by omega
    rw [hw, he]
    clear hr hz h1 h2 he hw
    go_enter Tryz.func94, Tryz.ntmps94
    go_wp2
    go_ret
    exact ⟨_, _, rfl, Fresh.alloc _ _, own_lit w 5 #[.int .u8 (192 + z / 64), .int .u8 (128 + z % 64)] 2 rfl (by unfold maxLen; omega) _ rfl⟩
  have t2 : decide (z < 2048) = false := by rw [decide_eq_false_iff_not]; omega
  by_cases h3 : r < 65536
  · have t3 : decide (z < 65536) = true := by rw [decide_eq_true_iff]; omega
    have e1 : IntKind.u8.wrap (224 + z / 4096) = 224 + z / 4096 := by rw [w8 _ (224 + r / 4096) (by omega) (by omega)]; omega
    have e2 : IntKind.u8.wrap (128 + z / 64 % 64) = 128 + z / 64 % 64 := by rw [w8 _ (128 + r / 64 % 64) (by omega) (by omega)]; omega
    have e3 : IntKind.u8.wrap (128 + z % 64) = 128 + z % 64 := by rw [w8 _ (128 + r % 64) (by omega) (by omega)]; omega
    have hw : wid r = 3 := by rw [wid, if_neg h1, if_neg h2, if_pos h3]
    have he : (en r).map bv = [.int .u8 (224 + z / 4096), .int .u8 (128 + z / 64 % 64), .int .u8 (128 + z % 64)] := by
      rw [en, if_neg h1, if_neg h2, if_pos h3]
      simp only [List.map_cons, List.map_nil]
      rw [← bvN _ (show 224 + r / 4096 < 256 by omega), ← bvN _ (show 128 + r / 64 % 64 < 256 by omega), ← bvN _ (show 128 + r % 64 < 256 by omega), show ((224 + r / 4096 : Nat) : Int) = 224 + z / 4096 by omega, show ((128 + r / 64 % 64 : Nat) : Int) = 128 + z / 64 % 64 by omega, show ((128 + r % 64 : Nat) : Int) = 128 + z % 64 by omega]
    have b1 : z ≤ 2097152 := by omega
    rw [hw, he]
    clear hr hz h1 h2 h3 he hw
    go_enter Tryz.func94, Tryz.ntmps94
    go_wp2
    go_ret
    exact ⟨_, _, rfl, Fresh.alloc _ _, own_lit w 5 #[.int .u8 (224 + z / 4096), .int .u8 (128 + z / 64 % 64), .int .u8 (128 + z % 64)] 3 rfl (by unfold maxLen; omega) _ rfl⟩
  have t3 : decide (z < 65536) = false := by rw [decide_eq_false_iff_not]; omega
  · have e1 : IntKind.u8.wrap (240 + z / 262144) = 240 + z / 262144 := by rw [w8 _ (240 + r / 262144) (by omega) (by omega)]; omega
    have e2 : IntKind.u8.wrap (128 + z / 4096 % 64) = 128 + z / 4096 % 64 := by rw [w8 _ (128 + r / 4096 % 64) (by omega) (by omega)]; omega
    have e3 : IntKind.u8.wrap (128 + z / 64 % 64) = 128 + z / 64 % 64 := by rw [w8 _ (128 + r / 64 % 64) (by omega) (by omega)]; omega
    have e4 : IntKind.u8.wrap (128 + z % 64) = 128 + z % 64 := by rw [w8 _ (128 + r % 64) (by omega) (by omega)]; omega
    have hw : wid r = 4 := by rw [wid, if_neg h1, if_neg h2, if_neg h3]
    have he : (en r).map bv = [.int .u8 (240 + z / 262144), .int .u8 (128 + z / 4096 % 64), .int .u8 (128 + z / 64 % 64), .int .u8 (128 + z % 64)] := by
      rw [en, if_neg h1, if_neg h2, if_neg h3]
      simp only [List.map_cons, List.map_nil]
      rw [← bvN _ (show 240 + r / 262144 < 256 by omega), ← bvN _ (show 128 + r / 4096 % 64 < 256 by omega), ← bvN _ (show 128 + r / 64 % 64 < 256 by omega), ← bvN _ (show 128 + r % 64 < 256 by omega), show ((240 + r / 262144 : Nat) : Int) = 240 + z / 262144 by omega, show ((128 + r / 4096 % 64 : Nat) : Int) = 128 + z / 4096 % 64 by omega, show ((128 + r / 64 % 64 : Nat) : Int) = 128 + z / 64 % 64 by omega, show ((128 + r % 64 : Nat) : Int) = 128 + z % 64 by omega]
    have b1 : z ≤ 2097152 := by omega
    rw [hw, he]
    clear hr hz h1 h2 h3 he hw
    go_enter Tryz.func94, Tryz.ntmps94
    go_wp2
    go_ret
    exact ⟨_, _, rfl, Fresh.alloc _ _, own_lit w 5 #[.int .u8 (240 + z / 262144), .int .u8 (128 + z / 4096 % 64), .int .u8 (128 + z / 64 % 64), .int .u8 (128 + z % 64)] 4 rfl (by unfold maxLen; omega) _ rfl⟩

theorem info_int : (Tryz.prog.info? 3).map (fun i => (i.zero, i.size, i.bytes)) = some (some (.int .i64 0), 1, 8) := by kernel_rfl
/-- the page, as ints -/
def pageV : List Value := upperL.map fun r : Nat => iv r
theorem ivs_one (l : List Int) (xs : List Value) (hx : l.map (Value.int .i64) = xs) : ∀ u ∈ xs, u.oneCell' = true := by
  subst hx
  intro u hu
  obtain ⟨x, _, rfl⟩ := List.mem_map.1 hu
  rfl
theorem rd_lit (w : World) (cs : Array Value) (e : TypeId) (n : Nat) (hn : cs.size = n) (xs : List Value) (hx : cs.toList = xs) : Rd (w.alloc (.cells cs e)) (w.heap.size + 1) (some ⟨w.heap.size, 0, none⟩) n xs := by
  subst hn
  subst hx
  exact Rd.lit w cs e
set_option maxHeartbeats 4000000 in
set_option maxRecDepth 100000 in
theorem page_any (w : World) : Calls Tryz.prog 47 #[] w fun e w' => ∃ A c, e = .returned (.slice A 128 c) ∧ Fresh w w' ∧ Own w' w.heap.size 3 A 128 c pageV := by
  obtain ⟨i0, hi0, hz0, hz1, hz2⟩ := info_parts info_int
  have hf0 := Fresh.refl w
  have ho0 := Own.nil w w.heap.size 3
  go_enter Tryz.func47, Tryz.ntmps47
  go_wp2_with (first
    | ((with_reducible refine at_slot_ 4 ?_); refine wpList_append_rd _ rfl _ _ 67 rfl w.heap.size 3 i0 _ 8 Tryz.underlying67 hi0 hz0 hz1 hz2 rfl none 0 0 _ rfl (Own.fresh ho0 (Fresh.alloc _ _)) (w.heap.size + 1) (some ⟨w.heap.size, 0, none⟩) 16 16 [.int .i64 199, .int .i64 252, .int .i64 233, .int .i64 226, .int .i64 228, .int .i64 224, .int .i64 229, .int .i64 231, .int .i64 234, .int .i64 235, .int .i64 232, .int .i64 239, .int .i64 238, .int .i64 236, .int .i64 196, .int .i64 197] rfl (rd_lit w #[.int .i64 199, .int .i64 252, .int .i64 233, .int .i64 226, .int .i64 228, .int .i64 224, .int .i64 229, .int .i64 231, .int .i64 234, .int .i64 235, .int .i64 232, .int .i64 239, .int .i64 238, .int .i64 236, .int .i64 196, .int .i64 197] 3 16 rfl _ rfl) (ivs_one [199, 252, 233, 226, 228, 224, 229, 231, 234, 235, 232, 239, 238, 236, 196, 197] _ rfl) (by unfold maxLen; omega) (by omega) (by have := hf0.size; simp <;> omega) ?_; intro A1 c1 w1 ho1 hg1; have hf1 := (hf0.trans (Fresh.alloc _ _)).append (Own.fresh ho0 (Fresh.alloc _ _)) (Nat.le_refl _) hg1)
    | ((with_reducible refine at_slot_ 7 ?_); refine wpList_append_rd _ rfl _ _ 67 rfl w.heap.size 3 i0 _ 8 Tryz.underlying67 hi0 hz0 hz1 hz2 rfl A1 16 c1 _ rfl (Own.fresh ho1 (Fresh.alloc _ _)) (w1.heap.size + 1) (some ⟨w1.heap.size, 0, none⟩) 16 16 [.int .i64 201, .int .i64 230, .int .i64 198, .int .i64 244, .int .i64 246, .int .i64 242, .int .i64 251, .int .i64 249, .int .i64 255, .int .i64 214, .int .i64 220, .int .i64 162, .int .i64 163, .int .i64 165, .int .i64 8359, .int .i64 402] rfl (rd_lit w1 #[.int .i64 201, .int .i64 230, .int .i64 198, .int .i64 244, .int .i64 246, .int .i64 242, .int .i64 251, .int .i64 249, .int .i64 255, .int .i64 214, .int .i64 220, .int .i64 162, .int .i64 163, .int .i64 165, .int .i64 8359, .int .i64 402] 3 16 rfl _ rfl) (ivs_one [201, 230, 198, 244, 246, 242, 251, 249, 255, 214, 220, 162, 163, 165, 8359, 402] _ rfl) (by unfold maxLen; omega) (by omega) (by have := hf1.size; simp <;> omega) ?_; intro A2 c2 w2 ho2 hg2; have hf2 := (hf1.trans (Fresh.alloc _ _)).append (Own.fresh ho1 (Fresh.alloc _ _)) (Nat.le_refl _) hg2)
    | ((with_reducible refine at_slot_ 10 ?_); refine wpList_append_rd _ rfl _ _ 67 rfl w.heap.size 3 i0 _ 8 Tryz.underlying67 hi0 hz0 hz1 hz2 rfl A2 32 c2 _ rfl (Own.fresh ho2 (Fresh.alloc _ _)) (w2.heap.size + 1) (some ⟨w2.heap.size, 0, none⟩) 16 16 [.int .i64 225, .int .i64 237, .int .i64 243, .int .i64 250, .int .i64 241, .int .i64 209, .int .i64 170, .int .i64 186, .int .i64 191, .int .i64 8976, .int .i64 172, .int .i64 189, .int .i64 188, .int .i64 161, .int .i64 171, .int .i64 187] rfl (rd_lit w2 #[.int .i64 225, .int .i64 237, .int .i64 243, .int .i64 250, .int .i64 241, .int .i64 209, .int .i64 170, .int .i64 186, .int .i64 191, .int .i64 8976, .int .i64 172, .int .i64 189, .int .i64 188, .int .i64 161, .int .i64 171, .int .i64 187] 3 16 rfl _ rfl) (ivs_one [225, 237, 243, 250, 241, 209, 170, 186, 191, 8976, 172, 189, 188, 161, 171, 187] _ rfl) (by unfold maxLen; omega) (by omega) (by have := hf2.size; simp <;> omega) ?_; intro A3 c3 w3 ho3 hg3; have hf3 := (hf2.trans (Fresh.alloc _ _)).append (Own.fresh ho2 (Fresh.alloc _ _)) (Nat.le_refl _) hg3)
    | ((with_reducible refine at_slot_ 13 ?_); refine wpList_append_rd _ rfl _ _ 67 rfl w.heap.size 3 i0 _ 8 Tryz.underlying67 hi0 hz0 hz1 hz2 rfl A3 48 c3 _ rfl (Own.fresh ho3 (Fresh.alloc _ _)) (w3.heap.size + 1) (some ⟨w3.heap.size, 0, none⟩) 16 16 [.int .i64 9617, .int .i64 9618, .int .i64 9619, .int .i64 9474, .int .i64 9508, .int .i64 9569, .int .i64 9570, .int .i64 9558, .int .i64 9557, .int .i64 9571, .int .i64 9553, .int .i64 9559, .int .i64 9565, .int .i64 9564, .int .i64 9563, .int .i64 9488] rfl (rd_lit w3 #[.int .i64 9617, .int .i64 9618, .int .i64 9619, .int .i64 9474, .int .i64 9508, .int .i64 9569, .int .i64 9570, .int .i64 9558, .int .i64 9557, .int .i64 9571, .int .i64 9553, .int .i64 9559, .int .i64 9565, .int .i64 9564, .int .i64 9563, .int .i64 9488] 3 16 rfl _ rfl) (ivs_one [9617, 9618, 9619, 9474, 9508, 9569, 9570, 9558, 9557, 9571, 9553, 9559, 9565, 9564, 9563, 9488] _ rfl) (by unfold maxLen; omega) (by omega) (by have := hf3.size; simp <;> omega) ?_; intro A4 c4 w4 ho4 hg4; have hf4 := (hf3.trans (Fresh.alloc _ _)).append (Own.fresh ho3 (Fresh.alloc _ _)) (Nat.le_refl _) hg4)
    | ((with_reducible refine at_slot_ 16 ?_); refine wpList_append_rd _ rfl _ _ 67 rfl w.heap.size 3 i0 _ 8 Tryz.underlying67 hi0 hz0 hz1 hz2 rfl A4 64 c4 _ rfl (Own.fresh ho4 (Fresh.alloc _ _)) (w4.heap.size + 1) (some ⟨w4.heap.size, 0, none⟩) 16 16 [.int .i64 9492, .int .i64 9524, .int .i64 9516, .int .i64 9500, .int .i64 9472, .int .i64 9532, .int .i64 9566, .int .i64 9567, .int .i64 9562, .int .i64 9556, .int .i64 9577, .int .i64 9574, .int .i64 9568, .int .i64 9552, .int .i64 9580, .int .i64 9575] rfl (rd_lit w4 #[.int .i64 9492, .int .i64 9524, .int .i64 9516, .int .i64 9500, .int .i64 9472, .int .i64 9532, .int .i64 9566, .int .i64 9567, .int .i64 9562, .int .i64 9556, .int .i64 9577, .int .i64 9574, .int .i64 9568, .int .i64 9552, .int .i64 9580, .int .i64 9575] 3 16 rfl _ rfl) (ivs_one [9492, 9524, 9516, 9500, 9472, 9532, 9566, 9567, 9562, 9556, 9577, 9574, 9568, 9552, 9580, 9575] _ rfl) (by unfold maxLen; omega) (by omega) (by have := hf4.size; simp <;> omega) ?_; intro A5 c5 w5 ho5 hg5; have hf5 := (hf4.trans (Fresh.alloc _ _)).append (Own.fresh ho4 (Fresh.alloc _ _)) (Nat.le_refl _) hg5)
    | ((with_reducible refine at_slot_ 19 ?_); refine wpList_append_rd _ rfl _ _ 67 rfl w.heap.size 3 i0 _ 8 Tryz.underlying67 hi0 hz0 hz1 hz2 rfl A5 80 c5 _ rfl (Own.fresh ho5 (Fresh.alloc _ _)) (w5.heap.size + 1) (some ⟨w5.heap.size, 0, none⟩) 16 16 [.int .i64 9576, .int .i64 9572, .int .i64 9573, .int .i64 9561, .int .i64 9560, .int .i64 9554, .int .i64 9555, .int .i64 9579, .int .i64 9578, .int .i64 9496, .int .i64 9484, .int .i64 9608, .int .i64 9604, .int .i64 9612, .int .i64 9616, .int .i64 9600] rfl (rd_lit w5 #[.int .i64 9576, .int .i64 9572, .int .i64 9573, .int .i64 9561, .int .i64 9560, .int .i64 9554, .int .i64 9555, .int .i64 9579, .int .i64 9578, .int .i64 9496, .int .i64 9484, .int .i64 9608, .int .i64 9604, .int .i64 9612, .int .i64 9616, .int .i64 9600] 3 16 rfl _ rfl) (ivs_one [9576, 9572, 9573, 9561, 9560, 9554, 9555, 9579, 9578, 9496, 9484, 9608, 9604, 9612, 9616, 9600] _ rfl) (by unfold maxLen; omega) (by omega) (by have := hf5.size; simp <;> omega) ?_; intro A6 c6 w6 ho6 hg6; have hf6 := (hf5.trans (Fresh.alloc _ _)).append (Own.fresh ho5 (Fresh.alloc _ _)) (Nat.le_refl _) hg6)
    | ((with_reducible refine at_slot_ 22 ?_); refine wpList_append_rd _ rfl _ _ 67 rfl w.heap.size 3 i0 _ 8 Tryz.underlying67 hi0 hz0 hz1 hz2 rfl A6 96 c6 _ rfl (Own.fresh ho6 (Fresh.alloc _ _)) (w6.heap.size + 1) (some ⟨w6.heap.size, 0, none⟩) 16 16 [.int .i64 945, .int .i64 223, .int .i64 915, .int .i64 960, .int .i64 931, .int .i64 963, .int .i64 181, .int .i64 964, .int .i64 934, .int .i64 920, .int .i64 937, .int .i64 948, .int .i64 8734, .int .i64 966, .int .i64 949, .int .i64 8745] rfl (rd_lit w6 #[.int .i64 945, .int .i64 223, .int .i64 915, .int .i64 960, .int .i64 931, .int .i64 963, .int .i64 181, .int .i64 964, .int .i64 934, .int .i64 920, .int .i64 937, .int .i64 948, .int .i64 8734, .int .i64 966, .int .i64 949, .int .i64 8745] 3 16 rfl _ rfl) (ivs_one [945, 223, 915, 960, 931, 963, 181, 964, 934, 920, 937, 948, 8734, 966, 949, 8745] _ rfl) (by unfold maxLen; omega) (by omega) (by have := hf6.size; simp <;> omega) ?_; intro A7 c7 w7 ho7 hg7; have hf7 := (hf6.trans (Fresh.alloc _ _)).append (Own.fresh ho6 (Fresh.alloc _ _)) (Nat.le_refl _) hg7)
    | ((with_reducible refine at_slot_ 25 ?_); refine wpList_append_rd _ rfl _ _ 67 rfl w.heap.size 3 i0 _ 8 Tryz.underlying67 hi0 hz0 hz1 hz2 rfl A7 112 c7 _ rfl (Own.fresh ho7 (Fresh.alloc _ _)) (w7.heap.size + 1) (some ⟨w7.heap.size, 0, none⟩) 16 16 [.int .i64 8801, .int .i64 177, .int .i64 8805, .int .i64 8804, .int .i64 8992, .int .i64 8993, .int .i64 247, .int .i64 8776, .int .i64 176, .int .i64 8729, .int .i64 183, .int .i64 8730, .int .i64 8319, .int .i64 178, .int .i64 9632, .int .i64 160] rfl (rd_lit w7 #[.int .i64 8801, .int .i64 177, .int .i64 8805, .int .i64 8804, .int .i64 8992, .int .i64 8993, .int .i64 247, .int .i64 8776, .int .i64 176, .int .i64 8729, .int .i64 183, .int .i64 8730, .int .i64 8319, .int .i64 178, .int .i64 9632, .int .i64 160] 3 16 rfl _ rfl) (ivs_one [8801, 177, 8805, 8804, 8992, 8993, 247, 8776, 176, 8729, 183, 8730, 8319, 178, 9632, 160] _ rfl) (by unfold maxLen; omega) (by omega) (by have := hf7.size; simp <;> omega) ?_; intro A8 c8 w8 ho8 hg8; have hf8 := (hf7.trans (Fresh.alloc _ _)).append (Own.fresh ho7 (Fresh.alloc _ _)) (Nat.le_refl _) hg8))
  go_ret
  exact ⟨A8, c8, rfl, hf8, ho8⟩
end Go.Proofs.YtmnegmebkmihhaaGreatDoor.namp
/-
  Layer 9's reference: next. My own text (by a generator of mine).
-/
namespace Go.Proofs.YtmnegmebkmihhaaGreatDoor.namp
open Go.RowKit Go.Proofs.YtmnegmebkmihhaaGreatDoor.base Go.Proofs.YtmnegmebkmihhaaGreatDoor.nam
set_option linter.unusedVariables false

/-- what next tells: the rune at the head, or -1 -/
def nxI (t : List UInt8) : Int := if dcd t = (65533, 1) then -1 else ((dcd t).1 : Nat)
theorem nxI_good {r : Nat} (h : Rn r) (t : List UInt8) : nxI (en r ++ t) = (r : Nat) := by rw [nxI, if_neg (dcd_ok h t), dcd_good h]
theorem nxI_bad {t : List UInt8} (h : Bad t) : nxI t = -1 := by rw [nxI, if_pos h.2]
def ct (t : List UInt8) (q : Nat) : Prop := 128 ≤ (t.getD q 0).toNat ∧ (t.getD q 0).toNat ≤ 191
theorem wid2 (R : Nat) : wid R = 2 ↔ 128 ≤ R ∧ R < 2048 := by
  unfold wid
  repeat' split
  all_goals omega
theorem wid3 (R : Nat) : wid R = 3 ↔ 2048 ≤ R ∧ R < 65536 := by
  unfold wid
  repeat' split
  all_goals omega
theorem wid4 (R : Nat) : wid R = 4 ↔ 65536 ≤ R := by
  unfold wid
  repeat' split
  all_goals omega
/-- may R, out of K bytes, be a rune -/
def okN (K R : Nat) : Prop := wid R = K ∧ (R < 55296 ∨ 57343 < R) ∧ R ≤ 1114111
/-- what a byte brings -/
def cv (t : List UInt8) (q : Nat) : Nat := (t.getD q 0).toNat - 128
/-- the number after j more bytes -/
def accs (t : List UInt8) (a : Nat) : Nat → Nat
  | 0 => a
  | j + 1 => 64 * accs t a j + cv t (j + 1)
theorem accs_lt (t : List UInt8) (a : Nat) : ∀ j, (∀ q, q < j → ct t (q + 1)) → accs t a j < (a + 1) * 64 ^ j
  | 0, _ => by simp [accs]
  | j + 1, h => by
    have h1 := accs_lt t a j (fun q hq => h q (by omega))
    have h2 := h j (by omega)
    unfold ct at h2
    have h3 : cv t (j + 1) ≤ 63 := by unfold cv; omega
    rw [accs, Nat.pow_succ, ← Nat.mul_assoc]
    omega
theorem dcd_num (t : List UInt8) : dcd t = Lib.decodeN t.length (t.getD 0 0).toNat (t.getD 1 0).toNat (t.getD 2 0).toNat (t.getD 3 0).toNat := rfl
theorem nxI_pair {t : List UInt8} {r k : Nat} (h : dcd t = (r, k)) (hk : 1 < k) : nxI t = (r : Nat) := by
  rw [nxI, if_neg (fun e => ?_), h]
  rw [h] at e
  injection e
  omega
theorem nxI_err {t : List UInt8} (h : dcd t = (65533, 1)) : nxI t = -1 := by rw [nxI, if_pos h]
theorem nxI_one (t : List UInt8) (h : (t.getD 0 0).toNat < 128) : nxI t = ((t.getD 0 0).toNat : Nat) := by
  have : dcd t = ((t.getD 0 0).toNat, 1) := by rw [dcd_num, Lib.decodeN, if_pos h]
  rw [nxI, if_neg (fun e => ?_), this]
  rw [this] at e
  injection e
  omega
theorem nxI_head (t : List UInt8) (h : (128 ≤ (t.getD 0 0).toNat ∧ (t.getD 0 0).toNat < 194) ∨ 244 < (t.getD 0 0).toNat) : nxI t = -1 := by
  refine nxI_err ?_
  rw [dcd_num]
  have h0 := (t.getD 0 0).toNat_lt
  generalize (t.getD 0 0).toNat = b0 at *
  generalize (t.getD 1 0).toNat = b1 at *
  generalize (t.getD 2 0).toNat = b2 at *
  generalize (t.getD 3 0).toNat = b3 at *
  unfold Lib.decodeN
  rw [if_neg (by omega)]
  split
  · rw [if_neg (by omega)]
  · split
    · exfalso; omega
    · split
      · rw [if_neg (by omega)]
      · rfl

/-! size 2 -/
theorem nx2_short (t : List UInt8) (h : 194 ≤ (t.getD 0 0).toNat ∧ (t.getD 0 0).toNat ≤ 223) (hl : t.length < 2) : nxI t = -1 := by
  refine nxI_err ?_
  rw [dcd_num]
  generalize (t.getD 0 0).toNat = b0 at *
  generalize (t.getD 1 0).toNat = b1 at *
  generalize (t.getD 2 0).toNat = b2 at *
  generalize (t.getD 3 0).toNat = b3 at *
  unfold Lib.decodeN
  rw [if_neg (by omega)]
  split
  · exfalso; omega
  · split
    · exfalso; omega
    · split
      · exfalso; omega
      · rfl
theorem nx2_cont (t : List UInt8) (h : 194 ≤ (t.getD 0 0).toNat ∧ (t.getD 0 0).toNat ≤ 223) (j : Nat) (hj : 1 ≤ j ∧ j < 2) (hc : ¬ ct t j) : nxI t = -1 := by
  refine nxI_err ?_
  rw [dcd_num]
  have hb1 := (t.getD 1 0).toNat_lt
  have hb2 := (t.getD 2 0).toNat_lt
  have hb3 := (t.getD 3 0).toNat_lt
  have hcase : ¬ (ct t 1) := by
    intro hh
    have hjj : j = 1 := by omega
    subst hjj; exact hc hh
  unfold ct at hcase
  clear hc
  generalize (t.getD 0 0).toNat = b0 at *
  generalize (t.getD 1 0).toNat = b1 at *
  generalize (t.getD 2 0).toNat = b2 at *
  generalize (t.getD 3 0).toNat = b3 at *
  unfold Lib.decodeN
  rw [if_neg (by omega)]
  split
  · exfalso; omega
  · split
    · exfalso; omega
    · split
      · exfalso; omega
      · rfl
theorem nx2_whole (t : List UInt8) (h : 194 ≤ (t.getD 0 0).toNat ∧ (t.getD 0 0).toNat ≤ 223) (hl : 2 ≤ t.length) (hc : ∀ q, q < 1 → ct t (q + 1)) (a k R : Nat) (ha : a = (t.getD 0 0).toNat - 192) (hk : k = 1) (hR : R = accs t a k) :
    (okN 2 R → nxI t = (R : Nat)) ∧ (¬ okN 2 R → nxI t = -1) := by
  have c1 := hc 0 (by omega)
  unfold ct at c1
  subst hk
  replace hR : R = 64 * a + ((t.getD 1 0).toNat - 128) := hR
  obtain ⟨b0, g0⟩ : ∃ b, (t.getD 0 0).toNat = b := ⟨_, rfl⟩
  rw [g0] at h ha
  obtain ⟨b1, g1⟩ : ∃ b, (t.getD 1 0).toNat = b := ⟨_, rfl⟩
  rw [g1] at c1 hR
  obtain ⟨b2, g2⟩ : ∃ b, (t.getD 2 0).toNat = b := ⟨_, rfl⟩
  obtain ⟨b3, g3⟩ : ∃ b, (t.getD 3 0).toNat = b := ⟨_, rfl⟩
  have hdn : (okN 2 R → Lib.decodeN t.length b0 b1 b2 b3 = (R, 2)) ∧ (¬ okN 2 R → Lib.decodeN t.length b0 b1 b2 b3 = (65533, 1)) := by
    unfold okN
    unfold Lib.decodeN
    rw [if_neg (by omega)]
    rw [if_pos (by omega), show b0 % 32 * 64 + b1 % 64 = R by omega]
    rw [wid2]
    split
    · exact ⟨fun _ => rfl, fun h => by exfalso; omega⟩
    · exact ⟨fun h => by exfalso; omega, fun _ => rfl⟩
  refine ⟨fun hok => nxI_pair (k := 2) (by rw [dcd_num]; simp only [g0, g1, g2, g3]; exact hdn.1 hok) (by omega), fun hok => nxI_err (by rw [dcd_num]; simp only [g0, g1, g2, g3]; exact hdn.2 hok)⟩

/-! size 3 -/
theorem nx3_short (t : List UInt8) (h : 224 ≤ (t.getD 0 0).toNat ∧ (t.getD 0 0).toNat ≤ 239) (hl : t.length < 3) : nxI t = -1 := by
  refine nxI_err ?_
  rw [dcd_num]
  generalize (t.getD 0 0).toNat = b0 at *
  generalize (t.getD 1 0).toNat = b1 at *
  generalize (t.getD 2 0).toNat = b2 at *
  generalize (t.getD 3 0).toNat = b3 at *
  unfold Lib.decodeN
  rw [if_neg (by omega)]
  split
  · exfalso; omega
  · split
    · exfalso; omega
    · split
      · exfalso; omega
      · rfl
theorem nx3_cont (t : List UInt8) (h : 224 ≤ (t.getD 0 0).toNat ∧ (t.getD 0 0).toNat ≤ 239) (j : Nat) (hj : 1 ≤ j ∧ j < 3) (hc : ¬ ct t j) : nxI t = -1 := by
  refine nxI_err ?_
  rw [dcd_num]
  have hb1 := (t.getD 1 0).toNat_lt
  have hb2 := (t.getD 2 0).toNat_lt
  have hb3 := (t.getD 3 0).toNat_lt
  have hcase : ¬ (ct t 1 ∧ ct t 2) := by
    intro hh
    have hjj : j = 1 ∨ j = 2 := by omega
    rcases hjj with rfl | rfl
    · exact hc hh.1
    · exact hc hh.2
  unfold ct at hcase
  clear hc
  generalize (t.getD 0 0).toNat = b0 at *
  generalize (t.getD 1 0).toNat = b1 at *
  generalize (t.getD 2 0).toNat = b2 at *
  generalize (t.getD 3 0).toNat = b3 at *
  unfold Lib.decodeN
  rw [if_neg (by omega)]
  split
  · exfalso; omega
  · split
    · exfalso; omega
    · split
      · exfalso; omega
      · rfl
theorem nx3_whole (t : List UInt8) (h : 224 ≤ (t.getD 0 0).toNat ∧ (t.getD 0 0).toNat ≤ 239) (hl : 3 ≤ t.length) (hc : ∀ q, q < 2 → ct t (q + 1)) (a k R : Nat) (ha : a = (t.getD 0 0).toNat - 224) (hk : k = 2) (hR : R = accs t a k) :
    (okN 3 R → nxI t = (R : Nat)) ∧ (¬ okN 3 R → nxI t = -1) := by
  have c1 := hc 0 (by omega)
  have c2 := hc 1 (by omega)
  unfold ct at c1 c2
  subst hk
  replace hR : R = 64 * (64 * a + ((t.getD 1 0).toNat - 128)) + ((t.getD 2 0).toNat - 128) := hR
  obtain ⟨b0, g0⟩ : ∃ b, (t.getD 0 0).toNat = b := ⟨_, rfl⟩
  rw [g0] at h ha
  obtain ⟨b1, g1⟩ : ∃ b, (t.getD 1 0).toNat = b := ⟨_, rfl⟩
  rw [g1] at c1 hR
  obtain ⟨b2, g2⟩ : ∃ b, (t.getD 2 0).toNat = b := ⟨_, rfl⟩
  rw [g2] at c2 hR
  obtain ⟨b3, g3⟩ : ∃ b, (t.getD 3 0).toNat = b := ⟨_, rfl⟩
  have hdn : (okN 3 R → Lib.decodeN t.length b0 b1 b2 b3 = (R, 3)) ∧ (¬ okN 3 R → Lib.decodeN t.length b0 b1 b2 b3 = (65533, 1)) := by
    unfold okN
    unfold Lib.decodeN
    rw [if_neg (by omega)]
    rw [if_neg (by omega), if_pos (by omega), show b0 % 16 * 4096 + b1 % 64 * 64 + b2 % 64 = R by omega]
    rw [wid3]
    split
    · exact ⟨fun _ => rfl, fun h => by exfalso; omega⟩
    · exact ⟨fun h => by exfalso; omega, fun _ => rfl⟩
  refine ⟨fun hok => nxI_pair (k := 3) (by rw [dcd_num]; simp only [g0, g1, g2, g3]; exact hdn.1 hok) (by omega), fun hok => nxI_err (by rw [dcd_num]; simp only [g0, g1, g2, g3]; exact hdn.2 hok)⟩

/-! size 4 -/
theorem nx4_short (t : List UInt8) (h : 240 ≤ (t.getD 0 0).toNat ∧ (t.getD 0 0).toNat ≤ 244) (hl : t.length < 4) : nxI t = -1 := by
  refine nxI_err ?_
  rw [dcd_num]
  generalize (t.getD 0 0).toNat = b0 at *
  generalize (t.getD 1 0).toNat = b1 at *
  generalize (t.getD 2 0).toNat = b2 at *
  generalize (t.getD 3 0).toNat = b3 at *
  unfold Lib.decodeN
  rw [if_neg (by omega)]
  split
  · exfalso; omega
  · split
    · exfalso; omega
    · split
      · exfalso; omega
      · rfl
theorem nx4_cont (t : List UInt8) (h : 240 ≤ (t.getD 0 0).toNat ∧ (t.getD 0 0).toNat ≤ 244) (j : Nat) (hj : 1 ≤ j ∧ j < 4) (hc : ¬ ct t j) : nxI t = -1 := by
  refine nxI_err ?_
  rw [dcd_num]
  have hb1 := (t.getD 1 0).toNat_lt
  have hb2 := (t.getD 2 0).toNat_lt
  have hb3 := (t.getD 3 0).toNat_lt
  have hcase : ¬ (ct t 1 ∧ ct t 2 ∧ ct t 3) := by
    intro hh
    have hjj : j = 1 ∨ j = 2 ∨ j = 3 := by omega
    rcases hjj with rfl | rfl | rfl
    · exact hc hh.1
    · exact hc hh.2.1
    · exact hc hh.2.2
  unfold ct at hcase
  clear hc
  generalize (t.getD 0 0).toNat = b0 at *
  generalize (t.getD 1 0).toNat = b1 at *
  generalize (t.getD 2 0).toNat = b2 at *
  generalize (t.getD 3 0).toNat = b3 at *
  unfold Lib.decodeN
  rw [if_neg (by omega)]
  split
  · exfalso; omega
  · split
    · exfalso; omega
    · split
      · exfalso; omega
      · rfl
theorem nx4_whole (t : List UInt8) (h : 240 ≤ (t.getD 0 0).toNat ∧ (t.getD 0 0).toNat ≤ 244) (hl : 4 ≤ t.length) (hc : ∀ q, q < 3 → ct t (q + 1)) (a k R : Nat) (ha : a = (t.getD 0 0).toNat - 240) (hk : k = 3) (hR : R = accs t a k) :
    (okN 4 R → nxI t = (R : Nat)) ∧ (¬ okN 4 R → nxI t = -1) := by
  have c1 := hc 0 (by omega)
  have c2 := hc 1 (by omega)
  have c3 := hc 2 (by omega)
  unfold ct at c1 c2 c3
  subst hk
  replace hR : R = 64 * (64 * (64 * a + ((t.getD 1 0).toNat - 128)) + ((t.getD 2 0).toNat - 128)) + ((t.getD 3 0).toNat - 128) := hR
  obtain ⟨b0, g0⟩ : ∃ b, (t.getD 0 0).toNat = b := ⟨_, rfl⟩
  rw [g0] at h ha
  obtain ⟨b1, g1⟩ : ∃ b, (t.getD 1 0).toNat = b := ⟨_, rfl⟩
  rw [g1] at c1 hR
  obtain ⟨b2, g2⟩ : ∃ b, (t.getD 2 0).toNat = b := ⟨_, rfl⟩
  rw [g2] at c2 hR
  obtain ⟨b3, g3⟩ : ∃ b, (t.getD 3 0).toNat = b := ⟨_, rfl⟩
  rw [g3] at c3 hR
  have hdn : (okN 4 R → Lib.decodeN t.length b0 b1 b2 b3 = (R, 4)) ∧ (¬ okN 4 R → Lib.decodeN t.length b0 b1 b2 b3 = (65533, 1)) := by
    unfold okN
    unfold Lib.decodeN
    rw [if_neg (by omega)]
    rw [if_neg (by omega), if_neg (by omega), if_pos (by omega), show b0 % 8 * 262144 + b1 % 64 * 4096 + b2 % 64 * 64 + b3 % 64 = R by omega]
    rw [wid4]
    split
    · exact ⟨fun _ => rfl, fun h => by exfalso; omega⟩
    · exact ⟨fun h => by exfalso; omega, fun _ => rfl⟩
  refine ⟨fun hok => nxI_pair (k := 4) (by rw [dcd_num]; simp only [g0, g1, g2, g3]; exact hdn.1 hok) (by omega), fun hok => nxI_err (by rw [dcd_num]; simp only [g0, g1, g2, g3]; exact hdn.2 hok)⟩
end Go.Proofs.YtmnegmebkmihhaaGreatDoor.namp
/-
  Layer 9's reference: next, walked. My own text (by a generator of mine).
-/
namespace Go.Proofs.YtmnegmebkmihhaaGreatDoor.namp
open Go.RowKit Go.Proofs.YtmnegmebkmihhaaGreatDoor.base Go.Proofs.YtmnegmebkmihhaaGreatDoor.nam
set_option linter.unusedVariables false
theorem getD_of {t : List UInt8} {k : Nat} {x : UInt8} (h : t[k]? = some x) : t.getD k 0 = x := by rw [List.getD_eq_getElem?_getD, h]; rfl
theorem accs_succ (t : List UInt8) (a j : Nat) : accs t a (j + 1) = 64 * accs t a j + cv t (j + 1) := by rw [accs]
theorem cv_of {t : List UInt8} {q : Nat} {y : UInt8} (h : t.getD q 0 = y) : cv t q = y.toNat - 128 := by subst h; rfl
theorem ret_int {a b : Int} (h : a = b) : Ending.returned (Value.int .i64 a) = Ending.returned (Value.int .i64 b) := by rw [h]
theorem ct_step {t : List UInt8} {j : Nat} (h : ∀ q, q < j → ct t (q + 1)) (k : ct t (j + 1)) : ∀ q, q < j + 1 → ct t (q + 1) := by
  intro q hq
  by_cases e : q = j
  · subst e; exact k
  · exact h q (by omega)

theorem next_one (A : Option Addr) (n c : Nat) (t : List UInt8) (w : World) (B : Nat) (hr : Rd w B A n (t.map bv)) (hB : B ≤ w.heap.size) (hn : 1 ≤ n) (hh : (t.getD 0 0).toNat < 128) : Calls Tryz.prog 93 #[.slice A n c] w fun e w' => e = .returned (.int .i64 (nxI t)) ∧ Fresh w w' := by
  rw [nxI_one t hh]
  obtain ⟨b, off, x, rfl, hb, hx, hc0⟩ := hr.at_ (k := 0) (by omega)
  rw [Nat.add_zero] at hc0
  have hx0 := getD_of hx
  rw [hx0] at hh
  obtain ⟨z, hz⟩ : ∃ z : Int, (x.toNat : Int) = z := ⟨_, rfl⟩
  have hc1 : w.cell? ⟨b, off, none⟩ = some (.int .u8 z) := by rw [hc0, bv, hz]
  rw [hx0, hz]
  have t0 : decide (z < 128) = true := by rw [decide_eq_true_iff]; omega
  have zb : 0 ≤ z := by omega
  have zc : z ≤ 255 := by omega
  clear hr hx hc0 hx0 hz hh
  go_enter Tryz.func93, Tryz.ntmps93
  go_wp2
  go_ret
  exact ⟨rfl, Fresh.refl _⟩

set_option maxHeartbeats 1000000 in
theorem next_head_a (A : Option Addr) (n c : Nat) (t : List UInt8) (w : World) (B : Nat) (hr : Rd w B A n (t.map bv)) (hB : B ≤ w.heap.size) (hn : 1 ≤ n) (hh : 128 ≤ (t.getD 0 0).toNat ∧ (t.getD 0 0).toNat ≤ 193) : Calls Tryz.prog 93 #[.slice A n c] w fun e w' => e = .returned (.int .i64 (nxI t)) ∧ Fresh w w' := by
  rw [nxI_head t (by omega)]
  obtain ⟨b, off, x, rfl, hb, hx, hc0⟩ := hr.at_ (k := 0) (by omega)
  rw [Nat.add_zero] at hc0
  have hx0 := getD_of hx
  rw [hx0] at hh
  obtain ⟨z, hz⟩ : ∃ z : Int, (x.toNat : Int) = z := ⟨_, rfl⟩
  have hc1 : w.cell? ⟨b, off, none⟩ = some (.int .u8 z) := by rw [hc0, bv, hz]
  have t0 : decide (z < 128) = false := by rw [decide_eq_false_iff_not]; omega
  have g0 : decide (z ≥ 194) = false := by rw [decide_eq_false_iff_not]; omega
  have h0 : decide (194 ≤ z) = false := by rw [decide_eq_false_iff_not]; omega
  have g1 : decide (z ≤ 223) = true := by rw [decide_eq_true_iff]; omega
  have g2 : decide (z ≥ 224) = false := by rw [decide_eq_false_iff_not]; omega
  have h2 : decide (224 ≤ z) = false := by rw [decide_eq_false_iff_not]; omega
  have g3 : decide (z ≤ 239) = true := by rw [decide_eq_true_iff]; omega
  have g4 : decide (z ≥ 240) = false := by rw [decide_eq_false_iff_not]; omega
  have h4 : decide (240 ≤ z) = false := by rw [decide_eq_false_iff_not]; omega
  have g5 : decide (z ≤ 244) = true := by rw [decide_eq_true_iff]; omega
  have zb : 0 ≤ z := by omega
  have zc : z ≤ 255 := by omega
  clear hr hx hc0 hx0 hz hh
  go_enter Tryz.func93, Tryz.ntmps93
  go_wp2
  go_ret
  exact ⟨rfl, Fresh.refl _⟩

set_option maxHeartbeats 1000000 in
theorem next_head_b (A : Option Addr) (n c : Nat) (t : List UInt8) (w : World) (B : Nat) (hr : Rd w B A n (t.map bv)) (hB : B ≤ w.heap.size) (hn : 1 ≤ n) (hh : 245 ≤ (t.getD 0 0).toNat ∧ (t.getD 0 0).toNat ≤ 255) : Calls Tryz.prog 93 #[.slice A n c] w fun e w' => e = .returned (.int .i64 (nxI t)) ∧ Fresh w w' := by
  rw [nxI_head t (by omega)]
  obtain ⟨b, off, x, rfl, hb, hx, hc0⟩ := hr.at_ (k := 0) (by omega)
  rw [Nat.add_zero] at hc0
  have hx0 := getD_of hx
  rw [hx0] at hh
  obtain ⟨z, hz⟩ : ∃ z : Int, (x.toNat : Int) = z := ⟨_, rfl⟩
  have hc1 : w.cell? ⟨b, off, none⟩ = some (.int .u8 z) := by rw [hc0, bv, hz]
  have t0 : decide (z < 128) = false := by rw [decide_eq_false_iff_not]; omega
  have g0 : decide (z ≥ 194) = true := by rw [decide_eq_true_iff]; omega
  have h0 : decide (194 ≤ z) = true := by rw [decide_eq_true_iff]; omega
  have g1 : decide (z ≤ 223) = false := by rw [decide_eq_false_iff_not]; omega
  have g2 : decide (z ≥ 224) = true := by rw [decide_eq_true_iff]; omega
  have h2 : decide (224 ≤ z) = true := by rw [decide_eq_true_iff]; omega
  have g3 : decide (z ≤ 239) = false := by rw [decide_eq_false_iff_not]; omega
  have g4 : decide (z ≥ 240) = true := by rw [decide_eq_true_iff]; omega
  have h4 : decide (240 ≤ z) = true := by rw [decide_eq_true_iff]; omega
  have g5 : decide (z ≤ 244) = false := by rw [decide_eq_false_iff_not]; omega
  have zb : 0 ≤ z := by omega
  have zc : z ≤ 255 := by omega
  clear hr hx hc0 hx0 hz hh
  go_enter Tryz.func93, Tryz.ntmps93
  go_wp2
  go_ret
  exact ⟨rfl, Fresh.refl _⟩

set_option maxHeartbeats 4000000 in
theorem next_2 (A : Option Addr) (n c : Nat) (t : List UInt8) (w : World) (B : Nat) (hr : Rd w B A n (t.map bv)) (hB : B ≤ w.heap.size) (hn : 1 ≤ n) (hh : 194 ≤ (t.getD 0 0).toNat ∧ (t.getD 0 0).toNat ≤ 223) : Calls Tryz.prog 93 #[.slice A n c] w fun e w' => e = .returned (.int .i64 (nxI t)) ∧ Fresh w w' := by
  have hl : t.length = n := by have := hr.1; rwa [List.length_map] at this
  have HH := Lib.hid hh
  by_cases hsh : n < 2
  · rw [nx2_short t hh (by omega)]
    obtain ⟨b, off, x, rfl, hb, hx, hc0⟩ := hr.at_ (k := 0) (by omega)
    rw [Nat.add_zero] at hc0
    have hx0 := getD_of hx
    rw [hx0] at hh
    obtain ⟨z, hz⟩ : ∃ z : Int, (x.toNat : Int) = z := ⟨_, rfl⟩
    have hc1 : w.cell? ⟨b, off, none⟩ = some (.int .u8 z) := by rw [hc0, bv, hz]
    have t0 : decide (z < 128) = false := by rw [decide_eq_false_iff_not]; omega
    have g0 : decide (z ≥ 194) = true := by rw [decide_eq_true_iff]; omega
    have h0 : decide (194 ≤ z) = true := by rw [decide_eq_true_iff]; omega
    have g1 : decide (z ≤ 223) = true := by rw [decide_eq_true_iff]; omega
    have g2 : decide (z ≥ 224) = false := by rw [decide_eq_false_iff_not]; omega
    have h2 : decide (224 ≤ z) = false := by rw [decide_eq_false_iff_not]; omega
    have g3 : decide (z ≤ 239) = true := by rw [decide_eq_true_iff]; omega
    have g4 : decide (z ≥ 240) = false := by rw [decide_eq_false_iff_not]; omega
    have h4 : decide (240 ≤ z) = false := by rw [decide_eq_false_iff_not]; omega
    have g5 : decide (z ≤ 244) = true := by rw [decide_eq_true_iff]; omega
    have tn : decide ((n : Int) < 2) = true := by rw [decide_eq_true_iff]; omega
    have zb : 0 ≤ z := by omega
    have zc : z ≤ 255 := by have := x.toNat_lt; omega
    clear hr hx hc0 hx0 hz hh hl hsh
    go_enter Tryz.func93, Tryz.ntmps93
    go_wp2
    go_ret
    exact ⟨rfl, Fresh.refl _⟩
  have hwh := fun hc R hR => nx2_whole t hh (by omega) hc _ 1 R rfl rfl hR
  have hct := fun j h1 h2 => nx2_cont t hh j h1 h2
  obtain ⟨b, off, x, rfl, hb, hx, hc0⟩ := hr.at_ (k := 0) (by omega)
  rw [Nat.add_zero] at hc0
  have hx0 := getD_of hx
  rw [hx0] at hh
  obtain ⟨z, hz⟩ : ∃ z : Int, (x.toNat : Int) = z := ⟨_, rfl⟩
  have hc1 : w.cell? ⟨b, off, none⟩ = some (.int .u8 z) := by rw [hc0, bv, hz]
  rw [hx0] at hwh
  have t0 : decide (z < 128) = false := by rw [decide_eq_false_iff_not]; omega
  have g0 : decide (z ≥ 194) = true := by rw [decide_eq_true_iff]; omega
  have h0 : decide (194 ≤ z) = true := by rw [decide_eq_true_iff]; omega
  have g1 : decide (z ≤ 223) = true := by rw [decide_eq_true_iff]; omega
  have g2 : decide (z ≥ 224) = false := by rw [decide_eq_false_iff_not]; omega
  have h2 : decide (224 ≤ z) = false := by rw [decide_eq_false_iff_not]; omega
  have g3 : decide (z ≤ 239) = true := by rw [decide_eq_true_iff]; omega
  have g4 : decide (z ≥ 240) = false := by rw [decide_eq_false_iff_not]; omega
  have h4 : decide (240 ≤ z) = false := by rw [decide_eq_false_iff_not]; omega
  have g5 : decide (z ≤ 244) = true := by rw [decide_eq_true_iff]; omega
  have tn : decide ((n : Int) < 2) = false := by rw [decide_eq_false_iff_not]; omega
  have zb : 0 ≤ z := by omega
  have zc : z ≤ 255 := by have := x.toNat_lt; omega
  obtain ⟨a, ha⟩ : ∃ a, x.toNat - 192 = a := ⟨_, rfl⟩
  rw [ha] at hwh
  have haz : z - 192 = (a : Int) := by omega
  have haz2 : a ≤ 31 := by omega
  have HW := Lib.hid hwh
  have HCT := Lib.hid hct
  have HR := Lib.hid hr
  have hnk : 2 ≤ n := by omega
  have HNK := Lib.hid hnk
  clear hr hx hc0 hx0 hz hh hwh hct ha hsh hnk
  go_enter Tryz.func93, Tryz.ntmps93
  go_wp2
  go_loopw [5, 6] (fun r i wr => ∃ (j R : Nat), j ≤ 1 ∧ i = .int .i64 ((j + 1 : Nat) : Int) ∧ r = .int .i64 R ∧ Hid (R = accs t a j) ∧ Hid (∀ q, q < j → ct t (q + 1)) ∧ wr = w) (fun _ i _ => 2 - (intOf i).toNat)
  case atStart => exact ⟨0, a, by omega, rfl, rfl, rfl, fun q hq => by omega, rfl⟩
  case round =>
    obtain ⟨j, R, hj, rfl, rfl, hR, hcs, rfl⟩ := hrel
    have hRb : R ≤ 1310719 := by
      have h1 := accs_lt t a j hcs.out
      rw [← hR.out] at h1
      have h2 : (64 : Nat) ^ j ≤ 64 ^ 1 := Nat.pow_le_pow_right (by omega) hj
      have h3 := Nat.mul_le_mul_left (a + 1) h2
      have h4 : (a + 1) * 64 ^ 1 ≤ 1310720 := by omega
      omega
    obtain ⟨m, hm⟩ : ∃ m, j + 1 = m := ⟨_, rfl⟩
    rw [hm]
    by_cases hjk : j < 1
    · obtain ⟨b', off', y, e', hb', hy, hcy⟩ := HR.out.at_ (k := j + 1) (by have := HNK.out; omega)
      injection e' with e'
      injection e' with e1 e2 _
      subst e1
      subst e2
      have hyd := getD_of hy
      obtain ⟨v, hv⟩ : ∃ v : Int, (y.toNat : Int) = v := ⟨_, rfl⟩
      rw [bv, hv] at hcy
      have hmn : m < n := by have := HNK.out; omega
      have hmb : m ≤ 2 := by omega
      have tm : decide ((m : Int) < 2) = true := by rw [decide_eq_true_iff]; omega
      have vb : 0 ≤ v := by omega
      have vc : v ≤ 255 := by have := y.toNat_lt; omega
      rw [hm] at hcy
      by_cases c1 : v < 128
      · have s1 : decide (v < 128) = true := by rw [decide_eq_true_iff]; omega
        have hres := HCT.out m (by omega) (fun h => by unfold ct at h; rw [← hm, hyd] at h; omega)
        have HRES := Lib.hid hres
        clear hjk hj hy hyd hv hm c1 hres hRb
        go_wp2
        go_ret
        exact ⟨by rw [HRES.out]; rfl, Fresh.refl _⟩
      have s1 : decide (v < 128) = false := by rw [decide_eq_false_iff_not]; omega
      by_cases c2 : 191 < v
      · have s2 : decide (v > 191) = true := by rw [decide_eq_true_iff]; omega
        have s3 : decide (191 < v) = true := by rw [decide_eq_true_iff]; omega
        have hres := HCT.out m (by omega) (fun h => by unfold ct at h; rw [← hm, hyd] at h; omega)
        have HRES := Lib.hid hres
        clear hjk hj hy hyd hv hm c1 c2 hres hRb
        go_wp2
        go_ret
        exact ⟨by rw [HRES.out]; rfl, Fresh.refl _⟩
      have s2 : decide (v > 191) = false := by rw [decide_eq_false_iff_not]; omega
      have s3 : decide (191 < v) = false := by rw [decide_eq_false_iff_not]; omega
      have hcv := cv_of hyd
      have hst : Hid (64 * R + (y.toNat - 128) = accs t a (j + 1)) := (by rw [accs_succ, hcv, hR.out] : 64 * R + (y.toNat - 128) = accs t a (j + 1))
      have hval : 64 * (R : Int) + v - 128 = ((64 * R + (y.toNat - 128) : Nat) : Int) := by omega
      have hcc : Hid (∀ q, q < j + 1 → ct t (q + 1)) := ct_step hcs.out (by unfold ct; rw [hyd]; omega)
      have HV := Lib.hid hval
      have HM := Lib.hid hm
      have HJK := Lib.hid hjk
      clear hjk hy hyd hv hm c1 c2 hcv hval
      go_wp2
      have hm := HM.out
      have hjk := HJK.out
      go_roundw
      case rel => exact ⟨j + 1, 64 * R + (y.toNat - 128), by omega, by rw [hm]; go_num, by rw [HV.out], hst, hcc, trivial⟩
      case measure => simp [intOf] <;> omega
    · obtain rfl : j = 1 := by omega
      have hw2 := HW.out hcs.out R hR.out
      have tm : decide ((m : Int) < 2) = false := by rw [decide_eq_false_iff_not]; omega
      have hut := utf_any R (by omega) wr
      obtain ⟨W, hW⟩ : ∃ W, wid R = W := ⟨_, rfl⟩
      rw [hW] at hut
      have hW4 := wid_bd R
      rw [hW] at hW4
      obtain ⟨hWa, hWb⟩ := hW4
      unfold okN at hw2
      rw [hW] at hw2
      have HUT := Lib.hid hut
      obtain ⟨Z, hZ⟩ : ∃ Z : Int, (R : Int) = Z := ⟨_, rfl⟩
      rw [hZ] at HUT hw2 ⊢
      clear hut hW hjk hj hcs hR hm
      by_cases k1 : W = 2
      · have u1 : ((W : Int) != 2) = false := by rw [bne_eq_false_iff_eq]; omega
        by_cases k2 : 55296 ≤ R ∧ R ≤ 57343
        · have hres := hw2.2 (by omega)
          have p1 : decide (Z ≥ 55296) = true := by rw [decide_eq_true_iff]; omega
          have p2 : decide (55296 ≤ Z) = true := by rw [decide_eq_true_iff]; omega
          have p3 : decide (Z ≤ 57343) = true := by rw [decide_eq_true_iff]; omega
          have HRES := Lib.hid hres
          clear hw2 k1 k2 hRb hres hZ
          go_wp2_with (go_at_call 94; (refine HUT.out.mono ?_); rintro e w1 ⟨A1, c1, rfl, hf1, ho1⟩)
          go_ret
          exact ⟨by rw [HRES.out]; rfl, hf1⟩
        · have pp : (decide (55296 ≤ Z) = true ∧ decide (Z ≥ 55296) = true ∧ decide (Z ≤ 57343) = false) ∨ (decide (55296 ≤ Z) = false ∧ decide (Z ≥ 55296) = false) := by
            by_cases q : 55296 ≤ Z
            · exact Or.inl ⟨decide_eq_true q, decide_eq_true q, decide_eq_false (by omega)⟩
            · exact Or.inr ⟨decide_eq_false q, decide_eq_false q⟩
          by_cases k3 : 1114111 < R
          · have hres := hw2.2 (by omega)
            have p4 : decide (Z > 1114111) = true := by rw [decide_eq_true_iff]; omega
            have p5 : decide (1114111 < Z) = true := by rw [decide_eq_true_iff]; omega
            have HRES := Lib.hid hres
            clear hw2 k1 k2 k3 hRb hres hZ
            rcases pp with ⟨p1, p2, p3⟩ | ⟨p1, p2⟩
            all_goals
              go_wp2_with (go_at_call 94; (refine HUT.out.mono ?_); rintro e w1 ⟨A1, c1, rfl, hf1, ho1⟩)
              go_ret
              exact ⟨by rw [HRES.out]; rfl, hf1⟩
          · have hres := hw2.1 ⟨k1, by omega, by omega⟩
            have p4 : decide (Z > 1114111) = false := by rw [decide_eq_false_iff_not]; omega
            have p5 : decide (1114111 < Z) = false := by rw [decide_eq_false_iff_not]; omega
            have HRES := Lib.hid hres
            clear hw2 k1 k2 k3 hRb hres hZ
            rcases pp with ⟨p1, p2, p3⟩ | ⟨p1, p2⟩
            all_goals
              go_wp2_with (go_at_call 94; (refine HUT.out.mono ?_); rintro e w1 ⟨A1, c1, rfl, hf1, ho1⟩)
              go_ret
              exact ⟨by rw [HRES.out]; rfl, hf1⟩
      · have u1 : ((W : Int) != 2) = true := by rw [bne_iff_ne]; omega
        have hres := hw2.2 (fun h => k1 h.1)
        have HRES := Lib.hid hres
        clear hw2 k1 hRb hres hZ
        go_wp2_with (go_at_call 94; (refine HUT.out.mono ?_); rintro e w1 ⟨A1, c1, rfl, hf1, ho1⟩)
        go_ret
        exact ⟨by rw [HRES.out]; rfl, hf1⟩

set_option maxHeartbeats 4000000 in
theorem next_3 (A : Option Addr) (n c : Nat) (t : List UInt8) (w : World) (B : Nat) (hr : Rd w B A n (t.map bv)) (hB : B ≤ w.heap.size) (hn : 1 ≤ n) (hh : 224 ≤ (t.getD 0 0).toNat ∧ (t.getD 0 0).toNat ≤ 239) : Calls Tryz.prog 93 #[.slice A n c] w fun e w' => e = .returned (.int .i64 (nxI t)) ∧ Fresh w w' := by
  have hl : t.length = n := by have := hr.1; rwa [List.length_map] at this
  have HH := Lib.hid hh
  by_cases hsh : n < 3
  · rw [nx3_short t hh (by omega)]
    obtain ⟨b, off, x, rfl, hb, hx, hc0⟩ := hr.at_ (k := 0) (by omega)
    rw [Nat.add_zero] at hc0
    have hx0 := getD_of hx
    rw [hx0] at hh
    obtain ⟨z, hz⟩ : ∃ z : Int, (x.toNat : Int) = z := ⟨_, rfl⟩
    have hc1 : w.cell? ⟨b, off, none⟩ = some (.int .u8 z) := by rw [hc0, bv, hz]
    have t0 : decide (z < 128) = false := by rw [decide_eq_false_iff_not]; omega
    have g0 : decide (z ≥ 194) = true := by rw [decide_eq_true_iff]; omega
    have h0 : decide (194 ≤ z) = true := by rw [decide_eq_true_iff]; omega
    have g1 : decide (z ≤ 223) = false := by rw [decide_eq_false_iff_not]; omega
    have g2 : decide (z ≥ 224) = true := by rw [decide_eq_true_iff]; omega
    have h2 : decide (224 ≤ z) = true := by rw [decide_eq_true_iff]; omega
    have g3 : decide (z ≤ 239) = true := by rw [decide_eq_true_iff]; omega
    have g4 : decide (z ≥ 240) = false := by rw [decide_eq_false_iff_not]; omega
    have h4 : decide (240 ≤ z) = false := by rw [decide_eq_false_iff_not]; omega
    have g5 : decide (z ≤ 244) = true := by rw [decide_eq_true_iff]; omega
    have tn : decide ((n : Int) < 3) = true := by rw [decide_eq_true_iff]; omega
    have zb : 0 ≤ z := by omega
    have zc : z ≤ 255 := by have := x.toNat_lt; omega
    clear hr hx hc0 hx0 hz hh hl hsh
    go_enter Tryz.func93, Tryz.ntmps93
    go_wp2
    go_ret
    exact ⟨rfl, Fresh.refl _⟩
  have hwh := fun hc R hR => nx3_whole t hh (by omega) hc _ 2 R rfl rfl hR
  have hct := fun j h1 h2 => nx3_cont t hh j h1 h2
  obtain ⟨b, off, x, rfl, hb, hx, hc0⟩ := hr.at_ (k := 0) (by omega)
  rw [Nat.add_zero] at hc0
  have hx0 := getD_of hx
  rw [hx0] at hh
  obtain ⟨z, hz⟩ : ∃ z : Int, (x.toNat : Int) = z := ⟨_, rfl⟩
  have hc1 : w.cell? ⟨b, off, none⟩ = some (.int .u8 z) := by rw [hc0, bv, hz]
  rw [hx0] at hwh
  have t0 : decide (z < 128) = false := by rw [decide_eq_false_iff_not]; omega
  have g0 : decide (z ≥ 194) = true := by rw [decide_eq_true_iff]; omega
  have h0 : decide (194 ≤ z) = true := by rw [decide_eq_true_iff]; omega
  have g1 : decide (z ≤ 223) = false := by rw [decide_eq_false_iff_not]; omega
  have g2 : decide (z ≥ 224) = true := by rw [decide_eq_true_iff]; omega
  have h2 : decide (224 ≤ z) = true := by rw [decide_eq_true_iff]; omega
  have g3 : decide (z ≤ 239) = true := by rw [decide_eq_true_iff]; omega
  have g4 : decide (z ≥ 240) = false := by rw [decide_eq_false_iff_not]; omega
  have h4 : decide (240 ≤ z) = false := by rw [decide_eq_false_iff_not]; omega
  have g5 : decide (z ≤ 244) = true := by rw [decide_eq_true_iff]; omega
  have tn : decide ((n : Int) < 3) = false := by rw [decide_eq_false_iff_not]; omega
  have zb : 0 ≤ z := by omega
  have zc : z ≤ 255 := by have := x.toNat_lt; omega
  obtain ⟨a, ha⟩ : ∃ a, x.toNat - 224 = a := ⟨_, rfl⟩
  rw [ha] at hwh
  have haz : z - 224 = (a : Int) := by omega
  have haz2 : a ≤ 15 := by omega
  have HW := Lib.hid hwh
  have HCT := Lib.hid hct
  have HR := Lib.hid hr
  have hnk : 3 ≤ n := by omega
  have HNK := Lib.hid hnk
  clear hr hx hc0 hx0 hz hh hwh hct ha hsh hnk
  go_enter Tryz.func93, Tryz.ntmps93
  go_wp2
  go_loopw [5, 6] (fun r i wr => ∃ (j R : Nat), j ≤ 2 ∧ i = .int .i64 ((j + 1 : Nat) : Int) ∧ r = .int .i64 R ∧ Hid (R = accs t a j) ∧ Hid (∀ q, q < j → ct t (q + 1)) ∧ wr = w) (fun _ i _ => 3 - (intOf i).toNat)
  case atStart => exact ⟨0, a, by omega, rfl, rfl, rfl, fun q hq => by omega, rfl⟩
  case round =>
    obtain ⟨j, R, hj, rfl, rfl, hR, hcs, rfl⟩ := hrel
    have hRb : R ≤ 1310719 := by
      have h1 := accs_lt t a j hcs.out
      rw [← hR.out] at h1
      have h2 : (64 : Nat) ^ j ≤ 64 ^ 2 := Nat.pow_le_pow_right (by omega) hj
      have h3 := Nat.mul_le_mul_left (a + 1) h2
      have h4 : (a + 1) * 64 ^ 2 ≤ 1310720 := by omega
      omega
    obtain ⟨m, hm⟩ : ∃ m, j + 1 = m := ⟨_, rfl⟩
    rw [hm]
    by_cases hjk : j < 2
    · obtain ⟨b', off', y, e', hb', hy, hcy⟩ := HR.out.at_ (k := j + 1) (by have := HNK.out; omega)
      injection e' with e'
      injection e' with e1 e2 _
      subst e1
      subst e2
      have hyd := getD_of hy
      obtain ⟨v, hv⟩ : ∃ v : Int, (y.toNat : Int) = v := ⟨_, rfl⟩
      rw [bv, hv] at hcy
      have hmn : m < n := by have := HNK.out; omega
      have hmb : m ≤ 3 := by omega
      have tm : decide ((m : Int) < 3) = true := by rw [decide_eq_true_iff]; omega
      have vb : 0 ≤ v := by omega
      have vc : v ≤ 255 := by have := y.toNat_lt; omega
      rw [hm] at hcy
      by_cases c1 : v < 128
      · have s1 : decide (v < 128) = true := by rw [decide_eq_true_iff]; omega
        have hres := HCT.out m (by omega) (fun h => by unfold ct at h; rw [← hm, hyd] at h; omega)
        have HRES := Lib.hid hres
        clear hjk hj hy hyd hv hm c1 hres hRb
        go_wp2
        go_ret
        exact ⟨by rw [HRES.out]; rfl, Fresh.refl _⟩
      have s1 : decide (v < 128) = false := by rw [decide_eq_false_iff_not]; omega
      by_cases c2 : 191 < v
      · have s2 : decide (v > 191) = true := by rw [decide_eq_true_iff]; omega
        have s3 : decide (191 < v) = true := by rw [decide_eq_true_iff]; omega
        have hres := HCT.out m (by omega) (fun h => by unfold ct at h; rw [← hm, hyd] at h; omega)
        have HRES := Lib.hid hres
        clear hjk hj hy hyd hv hm c1 c2 hres hRb
        go_wp2
        go_ret
        exact ⟨by rw [HRES.out]; rfl, Fresh.refl _⟩
      have s2 : decide (v > 191) = false := by rw [decide_eq_false_iff_not]; omega
      have s3 : decide (191 < v) = false := by rw [decide_eq_false_iff_not]; omega
      have hcv := cv_of hyd
      have hst : Hid (64 * R + (y.toNat - 128) = accs t a (j + 1)) := (by rw [accs_succ, hcv, hR.out] : 64 * R + (y.toNat - 128) = accs t a (j + 1))
      have hval : 64 * (R : Int) + v - 128 = ((64 * R + (y.toNat - 128) : Nat) : Int) := by omega
      have hcc : Hid (∀ q, q < j + 1 → ct t (q + 1)) := ct_step hcs.out (by unfold ct; rw [hyd]; omega)
      have HV := Lib.hid hval
      have HM := Lib.hid hm
      have HJK := Lib.hid hjk
      clear hjk hy hyd hv hm c1 c2 hcv hval
      go_wp2
      have hm := HM.out
      have hjk := HJK.out
      go_roundw
      case rel => exact ⟨j + 1, 64 * R + (y.toNat - 128), by omega, by rw [hm]; go_num, by rw [HV.out], hst, hcc, trivial⟩
      case measure => simp [intOf] <;> omega
    · obtain rfl : j = 2 := by omega
      have hw2 := HW.out hcs.out R hR.out
      have tm : decide ((m : Int) < 3) = false := by rw [decide_eq_false_iff_not]; omega
      have hut := utf_any R (by omega) wr
      obtain ⟨W, hW⟩ : ∃ W, wid R = W := ⟨_, rfl⟩
      rw [hW] at hut
      have hW4 := wid_bd R
      rw [hW] at hW4
      obtain ⟨hWa, hWb⟩ := hW4
      unfold okN at hw2
      rw [hW] at hw2
      have HUT := Lib.hid hut
      obtain ⟨Z, hZ⟩ : ∃ Z : Int, (R : Int) = Z := ⟨_, rfl⟩
      rw [hZ] at HUT hw2 ⊢
      clear hut hW hjk hj hcs hR hm
      by_cases k1 : W = 3
      · have u1 : ((W : Int) != 3) = false := by rw [bne_eq_false_iff_eq]; omega
        by_cases k2 : 55296 ≤ R ∧ R ≤ 57343
        · have hres := hw2.2 (by omega)
          have p1 : decide (Z ≥ 55296) = true := by rw [decide_eq_true_iff]; omega
          have p2 : decide (55296 ≤ Z) = true := by rw [decide_eq_true_iff]; omega
          have p3 : decide (Z ≤ 57343) = true := by rw [decide_eq_true_iff]; omega
          have HRES := Lib.hid hres
          clear hw2 k1 k2 hRb hres hZ
          go_wp2_with (go_at_call 94; (refine HUT.out.mono ?_); rintro e w1 ⟨A1, c1, rfl, hf1, ho1⟩)
          go_ret
          exact ⟨by rw [HRES.out]; rfl, hf1⟩
        · have pp : (decide (55296 ≤ Z) = true ∧ decide (Z ≥ 55296) = true ∧ decide (Z ≤ 57343) = false) ∨ (decide (55296 ≤ Z) = false ∧ decide (Z ≥ 55296) = false) := by
            by_cases q : 55296 ≤ Z
            · exact Or.inl ⟨decide_eq_true q, decide_eq_true q, decide_eq_false (by omega)⟩
            · exact Or.inr ⟨decide_eq_false q, decide_eq_false q⟩
          by_cases k3 : 1114111 < R
          · have hres := hw2.2 (by omega)
            have p4 : decide (Z > 1114111) = true := by rw [decide_eq_true_iff]; omega
            have p5 : decide (1114111 < Z) = true := by rw [decide_eq_true_iff]; omega
            have HRES := Lib.hid hres
            clear hw2 k1 k2 k3 hRb hres hZ
            rcases pp with ⟨p1, p2, p3⟩ | ⟨p1, p2⟩
            all_goals
              go_wp2_with (go_at_call 94; (refine HUT.out.mono ?_); rintro e w1 ⟨A1, c1, rfl, hf1, ho1⟩)
              go_ret
              exact ⟨by rw [HRES.out]; rfl, hf1⟩
          · have hres := hw2.1 ⟨k1, by omega, by omega⟩
            have p4 : decide (Z > 1114111) = false := by rw [decide_eq_false_iff_not]; omega
            have p5 : decide (1114111 < Z) = false := by rw [decide_eq_false_iff_not]; omega
            have HRES := Lib.hid hres
            clear hw2 k1 k2 k3 hRb hres hZ
            rcases pp with ⟨p1, p2, p3⟩ | ⟨p1, p2⟩
            all_goals
              go_wp2_with (go_at_call 94; (refine HUT.out.mono ?_); rintro e w1 ⟨A1, c1, rfl, hf1, ho1⟩)
              go_ret
              exact ⟨by rw [HRES.out]; rfl, hf1⟩
      · have u1 : ((W : Int) != 3) = true := by rw [bne_iff_ne]; omega
        have hres := hw2.2 (fun h => k1 h.1)
        have HRES := Lib.hid hres
        clear hw2 k1 hRb hres hZ
        go_wp2_with (go_at_call 94; (refine HUT.out.mono ?_); rintro e w1 ⟨A1, c1, rfl, hf1, ho1⟩)
        go_ret
        exact ⟨by rw [HRES.out]; rfl, hf1⟩

set_option maxHeartbeats 4000000 in
theorem next_4 (A : Option Addr) (n c : Nat) (t : List UInt8) (w : World) (B : Nat) (hr : Rd w B A n (t.map bv)) (hB : B ≤ w.heap.size) (hn : 1 ≤ n) (hh : 240 ≤ (t.getD 0 0).toNat ∧ (t.getD 0 0).toNat ≤ 244) : Calls Tryz.prog 93 #[.slice A n c] w fun e w' => e = .returned (.int .i64 (nxI t)) ∧ Fresh w w' := by
  have hl : t.length = n := by have := hr.1; rwa [List.length_map] at this
  have HH := Lib.hid hh
  by_cases hsh : n < 4
  · rw [nx4_short t hh (by omega)]
    obtain ⟨b, off, x, rfl, hb, hx, hc0⟩ := hr.at_ (k := 0) (by omega)
    rw [Nat.add_zero] at hc0
    have hx0 := getD_of hx
    rw [hx0] at hh
    obtain ⟨z, hz⟩ : ∃ z : Int, (x.toNat : Int) = z := ⟨_, rfl⟩
    have hc1 : w.cell? ⟨b, off, none⟩ = some (.int .u8 z) := by rw [hc0, bv, hz]
    have t0 : decide (z < 128) = false := by rw [decide_eq_false_iff_not]; omega
    have g0 : decide (z ≥ 194) = true := by rw [decide_eq_true_iff]; omega
    have h0 : decide (194 ≤ z) = true := by rw [decide_eq_true_iff]; omega
    have g1 : decide (z ≤ 223) = false := by rw [decide_eq_false_iff_not]; omega
    have g2 : decide (z ≥ 224) = true := by rw [decide_eq_true_iff]; omega
    have h2 : decide (224 ≤ z) = true := by rw [decide_eq_true_iff]; omega
    have g3 : decide (z ≤ 239) = false := by rw [decide_eq_false_iff_not]; omega
    have g4 : decide (z ≥ 240) = true := by rw [decide_eq_true_iff]; omega
    have h4 : decide (240 ≤ z) = true := by rw [decide_eq_true_iff]; omega
    have g5 : decide (z ≤ 244) = true := by rw [decide_eq_true_iff]; omega
    have tn : decide ((n : Int) < 4) = true := by rw [decide_eq_true_iff]; omega
    have zb : 0 ≤ z := by omega
    have zc : z ≤ 255 := by have := x.toNat_lt; omega
    clear hr hx hc0 hx0 hz hh hl hsh
    go_enter Tryz.func93, Tryz.ntmps93
    go_wp2
    go_ret
    exact ⟨rfl, Fresh.refl _⟩
  have hwh := fun hc R hR => nx4_whole t hh (by omega) hc _ 3 R rfl rfl hR
  have hct := fun j h1 h2 => nx4_cont t hh j h1 h2
  obtain ⟨b, off, x, rfl, hb, hx, hc0⟩ := hr.at_ (k := 0) (by omega)
  rw [Nat.add_zero] at hc0
  have hx0 := getD_of hx
  rw [hx0] at hh
  obtain ⟨z, hz⟩ : ∃ z : Int, (x.toNat : Int) = z := ⟨_, rfl⟩
  have hc1 : w.cell? ⟨b, off, none⟩ = some (.int .u8 z) := by rw [hc0, bv, hz]
  rw [hx0] at hwh
  have t0 : decide (z < 128) = false := by rw [decide_eq_false_iff_not]; omega
  have g0 : decide (z ≥ 194) = true := by rw [decide_eq_true_iff]; omega
  have h0 : decide (194 ≤ z) = true := by rw [decide_eq_true_iff]; omega
  have g1 : decide (z ≤ 223) = false := by rw [decide_eq_false_iff_not]; omega
  have g2 : decide (z ≥ 224) = true := by rw [decide_eq_true_iff]; omega
  have h2 : decide (224 ≤ z) = true := by rw [decide_eq_true_iff]; omega
  have g3 : decide (z ≤ 239) = false := by rw [decide_eq_false_iff_not]; omega
  have g4 : decide (z ≥ 240) = true := by rw [decide_eq_true_iff]; omega
  have h4 : decide (240 ≤ z) = true := by rw [decide_eq_true_iff]; omega
  have g5 : decide (z ≤ 244) = true := by rw [decide_eq_true_iff]; omega
  have tn : decide ((n : Int) < 4) = false := by rw [decide_eq_false_iff_not]; omega
  have zb : 0 ≤ z := by omega
  have zc : z ≤ 255 := by have := x.toNat_lt; omega
  obtain ⟨a, ha⟩ : ∃ a, x.toNat - 240 = a := ⟨_, rfl⟩
  rw [ha] at hwh
  have haz : z - 240 = (a : Int) := by omega
  have haz2 : a ≤ 4 := by omega
  have HW := Lib.hid hwh
  have HCT := Lib.hid hct
  have HR := Lib.hid hr
  have hnk : 4 ≤ n := by omega
  have HNK := Lib.hid hnk
  clear hr hx hc0 hx0 hz hh hwh hct ha hsh hnk
  go_enter Tryz.func93, Tryz.ntmps93
  go_wp2
  go_loopw [5, 6] (fun r i wr => ∃ (j R : Nat), j ≤ 3 ∧ i = .int .i64 ((j + 1 : Nat) : Int) ∧ r = .int .i64 R ∧ Hid (R = accs t a j) ∧ Hid (∀ q, q < j → ct t (q + 1)) ∧ wr = w) (fun _ i _ => 4 - (intOf i).toNat)
  case atStart => exact ⟨0, a, by omega, rfl, rfl, rfl, fun q hq => by omega, rfl⟩
  case round =>
    obtain ⟨j, R, hj, rfl, rfl, hR, hcs, rfl⟩ := hrel
    have hRb : R ≤ 1310719 := by
      have h1 := accs_lt t a j hcs.out
      rw [← hR.out] at h1
      have h2 : (64 : Nat) ^ j ≤ 64 ^ 3 := Nat.pow_le_pow_right (by omega) hj
      have h3 := Nat.mul_le_mul_left (a + 1) h2
      have h4 : (a + 1) * 64 ^ 3 ≤ 1310720 := by omega
      omega
    obtain ⟨m, hm⟩ : ∃ m, j + 1 = m := ⟨_, rfl⟩
    rw [hm]
    by_cases hjk : j < 3
    · obtain ⟨b', off', y, e', hb', hy, hcy⟩ := HR.out.at_ (k := j + 1) (by have := HNK.out; omega)
      injection e' with e'
      injection e' with e1 e2 _
      subst e1
      subst e2
      have hyd := getD_of hy
      obtain ⟨v, hv⟩ : ∃ v : Int, (y.toNat : Int) = v := ⟨_, rfl⟩
      rw [bv, hv] at hcy
      have hmn : m < n := by have := HNK.out; omega
      have hmb : m ≤ 4 := by omega
      have tm : decide ((m : Int) < 4) = true := by rw [decide_eq_true_iff]; omega
      have vb : 0 ≤ v := by omega
      have vc : v ≤ 255 := by have := y.toNat_lt; omega
      rw [hm] at hcy
      by_cases c1 : v < 128
      · have s1 : decide (v < 128) = true := by rw [decide_eq_true_iff]; omega
        have hres := HCT.out m (by omega) (fun h => by unfold ct at h; rw [← hm, hyd] at h; omega)
        have HRES := Lib.hid hres
        clear hjk hj hy hyd hv hm c1 hres hRb
        go_wp2
        go_ret
        exact ⟨by rw [HRES.out]; rfl, Fresh.refl _⟩
      have s1 : decide (v < 128) = false := by rw [decide_eq_false_iff_not]; omega
      by_cases c2 : 191 < v
      · have s2 : decide (v > 191) = true := by rw [decide_eq_true_iff]; omega
        have s3 : decide (191 < v) = true := by rw [decide_eq_true_iff]; omega
        have hres := HCT.out m (by omega) (fun h => by unfold ct at h; rw [← hm, hyd] at h; omega)
        have HRES := Lib.hid hres
        clear hjk hj hy hyd hv hm c1 c2 hres hRb
        go_wp2
        go_ret
        exact ⟨by rw [HRES.out]; rfl, Fresh.refl _⟩
      have s2 : decide (v > 191) = false := by rw [decide_eq_false_iff_not]; omega
      have s3 : decide (191 < v) = false := by rw [decide_eq_false_iff_not]; omega
      have hcv := cv_of hyd
      have hst : Hid (64 * R + (y.toNat - 128) = accs t a (j + 1)) := (by rw [accs_succ, hcv, hR.out] : 64 * R + (y.toNat - 128) = accs t a (j + 1))
      have hval : 64 * (R : Int) + v - 128 = ((64 * R + (y.toNat - 128) : Nat) : Int) := by omega
      have hcc : Hid (∀ q, q < j + 1 → ct t (q + 1)) := ct_step hcs.out (by unfold ct; rw [hyd]; omega)
      have HV := Lib.hid hval
      have HM := Lib.hid hm
      have HJK := Lib.hid hjk
      clear hjk hy hyd hv hm c1 c2 hcv hval
      go_wp2
      have hm := HM.out
      have hjk := HJK.out
      go_roundw
      case rel => exact ⟨j + 1, 64 * R + (y.toNat - 128), by omega, by rw [hm]; go_num, by rw [HV.out], hst, hcc, trivial⟩
      case measure => simp [intOf] <;> omega
    · obtain rfl : j = 3 := by omega
      have hw2 := HW.out hcs.out R hR.out
      have tm : decide ((m : Int) < 4) = false := by rw [decide_eq_false_iff_not]; omega
      have hut := utf_any R (by omega) wr
      obtain ⟨W, hW⟩ : ∃ W, wid R = W := ⟨_, rfl⟩
      rw [hW] at hut
      have hW4 := wid_bd R
      rw [hW] at hW4
      obtain ⟨hWa, hWb⟩ := hW4
      unfold okN at hw2
      rw [hW] at hw2
      have HUT := Lib.hid hut
      obtain ⟨Z, hZ⟩ : ∃ Z : Int, (R : Int) = Z := ⟨_, rfl⟩
      rw [hZ] at HUT hw2 ⊢
      clear hut hW hjk hj hcs hR hm
      by_cases k1 : W = 4
      · have u1 : ((W : Int) != 4) = false := by rw [bne_eq_false_iff_eq]; omega
        by_cases k2 : 55296 ≤ R ∧ R ≤ 57343
        · have hres := hw2.2 (by omega)
          have p1 : decide (Z ≥ 55296) = true := by rw [decide_eq_true_iff]; omega
          have p2 : decide (55296 ≤ Z) = true := by rw [decide_eq_true_iff]; omega
          have p3 : decide (Z ≤ 57343) = true := by rw [decide_eq_true_iff]; omega
          have HRES := Lib.hid hres
          clear hw2 k1 k2 hRb hres hZ
          go_wp2_with (go_at_call 94; (refine HUT.out.mono ?_); rintro e w1 ⟨A1, c1, rfl, hf1, ho1⟩)
          go_ret
          exact ⟨by rw [HRES.out]; rfl, hf1⟩
        · have pp : (decide (55296 ≤ Z) = true ∧ decide (Z ≥ 55296) = true ∧ decide (Z ≤ 57343) = false) ∨ (decide (55296 ≤ Z) = false ∧ decide (Z ≥ 55296) = false) := by
            by_cases q : 55296 ≤ Z
            · exact Or.inl ⟨decide_eq_true q, decide_eq_true q, decide_eq_false (by omega)⟩
            · exact Or.inr ⟨decide_eq_false q, decide_eq_false q⟩
          by_cases k3 : 1114111 < R
          · have hres := hw2.2 (by omega)
            have p4 : decide (Z > 1114111) = true := by rw [decide_eq_true_iff]; omega
            have p5 : decide (1114111 < Z) = true := by rw [decide_eq_true_iff]; omega
            have HRES := Lib.hid hres
            clear hw2 k1 k2 k3 hRb hres hZ
            rcases pp with ⟨p1, p2, p3⟩ | ⟨p1, p2⟩
            all_goals
              go_wp2_with (go_at_call 94; (refine HUT.out.mono ?_); rintro e w1 ⟨A1, c1, rfl, hf1, ho1⟩)
              go_ret
              exact ⟨by rw [HRES.out]; rfl, hf1⟩
          · have hres := hw2.1 ⟨k1, by omega, by omega⟩
            have p4 : decide (Z > 1114111) = false := by rw [decide_eq_false_iff_not]; omega
            have p5 : decide (1114111 < Z) = false := by rw [decide_eq_false_iff_not]; omega
            have HRES := Lib.hid hres
            clear hw2 k1 k2 k3 hRb hres hZ
            rcases pp with ⟨p1, p2, p3⟩ | ⟨p1, p2⟩
            all_goals
              go_wp2_with (go_at_call 94; (refine HUT.out.mono ?_); rintro e w1 ⟨A1, c1, rfl, hf1, ho1⟩)
              go_ret
              exact ⟨by rw [HRES.out]; rfl, hf1⟩
      · have u1 : ((W : Int) != 4) = true := by rw [bne_iff_ne]; omega
        have hres := hw2.2 (fun h => k1 h.1)
        have HRES := Lib.hid hres
        clear hw2 k1 hRb hres hZ
        go_wp2_with (go_at_call 94; (refine HUT.out.mono ?_); rintro e w1 ⟨A1, c1, rfl, hf1, ho1⟩)
        go_ret
        exact ⟨by rw [HRES.out]; rfl, hf1⟩

theorem next_any (A : Option Addr) (n c : Nat) (t : List UInt8) (w : World) (B : Nat) (hr : Rd w B A n (t.map bv)) (hB : B ≤ w.heap.size) (hn : 1 ≤ n) : Calls Tryz.prog 93 #[.slice A n c] w fun e w' => e = .returned (.int .i64 (nxI t)) ∧ Fresh w w' := by
  have hb := (t.getD 0 0).toNat_lt
  by_cases h1 : (t.getD 0 0).toNat < 128
  · exact next_one A n c t w B hr hB hn h1
  by_cases h2 : (t.getD 0 0).toNat ≤ 193
  · exact next_head_a A n c t w B hr hB hn (by omega)
  by_cases h3 : (t.getD 0 0).toNat ≤ 223
  · exact next_2 A n c t w B hr hB hn (by omega)
  by_cases h4 : (t.getD 0 0).toNat ≤ 239
  · exact next_3 A n c t w B hr hB hn (by omega)
  by_cases h5 : (t.getD 0 0).toNat ≤ 244
  · exact next_4 A n c t w B hr hB hn (by omega)
  · exact next_head_b A n c t w B hr hB hn (by omega)
end Go.Proofs.YtmnegmebkmihhaaGreatDoor.namp
/-
  Layer 9's reference: Read. My own text.
-/
namespace Go.Proofs.YtmnegmebkmihhaaGreatDoor.namp
open Go.RowKit Go.Proofs.YtmnegmebkmihhaaGreatDoor.base Go.Proofs.YtmnegmebkmihhaaGreatDoor.nam
set_option linter.unusedVariables false

abbrev tRunes : TypeId := 103
abbrev rv (l : List Nat) : List Value := l.map fun x : Nat => iv (x : Int)
/-- what Read tells of a text that begins with these runes, and then with what is none -/
def ReadIs (rs : List Nat) (u : List UInt8) (w : World) (e : Ending) (w' : World) : Prop :=
  ∃ A m c, e = .returned (.agg #[.slice A m c, .bool (decide (u = []))]) ∧ Fresh w w' ∧ m ≤ c ∧ (u = [] → m = rs.length ∧ Rd w' w'.heap.size A m (rv rs))
theorem Own.low9 {w : World} {base base' : Nat} {e : TypeId} {A : Option Addr} {n c : Nat} {xs : List Value} (h : Own w base e A n c xs) (hb : base' ≤ base) : Own w base' e A n c xs :=
  ⟨h.1, h.2.imp id fun ⟨g, cap, cur, h1, h2, h3⟩ => ⟨g, cap, cur, h1, Nat.le_trans hb h2, h3⟩⟩
theorem readIs_bad {rs : List Nat} {u : List UInt8} {w w' : World} (hu : Bad u) (hf : Fresh w w') : ReadIs rs u w (.returned (.agg #[.slice none 0 0, .bool false])) w' :=
  ⟨none, 0, 0, by rw [decide_eq_false hu.1], hf, Nat.le_refl _, fun h => absurd h hu.1⟩
theorem readIs_ok {rs : List Nat} {u : List UInt8} {w w' : World} {A : Option Addr} {m c : Nat} (hu : u = []) (hf : Fresh w w') (hmc : m ≤ c) (hm : m = rs.length) (hr : Rd w' w'.heap.size A m (rv rs)) : ReadIs rs u w (.returned (.agg #[.slice A m c, .bool true])) w' :=
  ⟨A, m, c, by rw [decide_eq_true hu], hf, hmc, fun _ => ⟨hm, hr⟩⟩
set_option maxHeartbeats 4000000 in
set_option maxRecDepth 100000 in
theorem read_any (A : Option Addr) (n c : Nat) (t : List UInt8) (rs : List Nat) (u : List UInt8) (ht : t = tx rs ++ u) (hrn : ∀ r ∈ rs, Rn r) (hu : u = [] ∨ Bad u) (w : World) (B : Nat) (hr : Rd w B A n (t.map bv)) (hB : B ≤ w.heap.size) (hm : n ≤ 4294967296) (hc : n ≤ c) (hcm : c ≤ maxLen) :
    Calls Tryz.prog 46 #[.slice A n c] w (ReadIs rs u w) := by
  obtain ⟨i0, hi0, hz0, hz1, hz2⟩ := info_parts info_int
  have hl : t.length = n := by have := hr.1; rwa [List.length_map] at this
  have hcm2 : c ≤ 9223372036854775807 := by unfold maxLen at hcm; omega
  have b1 := Bk.made w tRunes #[.slice none 0 0, .bool false]
  have b2 := b1.alloc (.cells #[.slice none 0 0, .bool true] tRunes)
  have b3 := Bk.made (w.alloc (.cells #[.slice none 0 0, .bool false] tRunes)) tRunes #[.slice none 0 0, .bool true]
  have hs1 : (w.alloc (.cells #[.slice none 0 0, .bool false] tRunes)).heap.size = w.heap.size + 1 := by simp
  rw [hs1] at b3
  have HL := Lib.hid hl
  have HT := Lib.hid ht
  have HRN := Lib.hid hrn
  have HU := Lib.hid hu
  have HR := Lib.hid hr
  clear hl ht hrn hu hr hcm b1 hs1
  go_enter Tryz.func46, Tryz.ntmps46
  go_wp2
  have hf0 : Fresh w ((w.alloc (.cells #[.slice none 0 0, .bool false] tRunes)).alloc (.cells #[.slice none 0 0, .bool true] tRunes)) := (Fresh.alloc w _).trans (Fresh.alloc _ _)
  go_loopw [4] (fun v wr => ∃ (done rest : List Nat) (P k c1 : Nat) (A1 : Option Addr), Hid (rs = done ++ rest) ∧ v = .int .i64 P ∧ Hid (P = (tx done).length) ∧ Hid (k = done.length) ∧ k ≤ n ∧ P ≤ n ∧ Bk wr w.heap.size tRunes [.slice none 0 0, .bool false] ∧ Bk wr (w.heap.size + 1) tRunes [.slice A1 k c1, .bool true] ∧ Own wr (w.heap.size + 2) 3 A1 k c1 (rv done) ∧ Fresh w wr) (fun v _ => n - (intOf v).toNat)
  case atStart => exact ⟨[], rs, 0, 0, 0, none, rfl, rfl, rfl, rfl, by omega, by omega, b2, b3, Own.nil _ _ _, hf0⟩
  case round =>
    obtain ⟨done, rest, P, k, c1, A1, hdr, rfl, hP, hk, hkn, hPn, hb1, hb2, hown, hfr⟩ := hrel
    clear b2 b3 hf0
    have hsz := hb2.inside
    by_cases hlt : P < n
    · obtain ⟨b, off, x, e0, hbB, hx, hcx⟩ := HR.out.at_ hlt
      subst e0
      have hcut := (HR.out.below (w' := wr) hfr hB).cut (lo := P) (hi := n) (cap := c) (by omega) (Nat.le_refl _) hc
      rw [if_neg (show ¬ c = P by omega)] at hcut
      have hne : ¬ c = P := by omega
      have hcut2 : Rd wr B (some ⟨b, off + P, none⟩) (n - P) ((t.drop P).map bv) := by
        rw [Option.map_some, Addr.add_mid] at hcut
        rwa [← List.map_drop, List.take_of_length_le (by rw [List.length_map, List.length_drop, HL.out]; exact Nat.le_refl _)] at hcut
      have hnx := fun cc => next_any _ (n - P) cc (t.drop P) wr B hcut2 (by have := hfr.size; omega) (by omega)
      have hdrop : t.drop P = tx rest ++ u := by
        have h1 := HT.out
        rw [hdr.out, tx_append, List.append_assoc] at h1
        rw [h1, hP.out, List.drop_left]
      rw [hdrop] at hnx
      have HB1 := Lib.hid hb1
      have HB2 := Lib.hid hb2
      have HO := Lib.hid hown
      have HF := Lib.hid hfr
      clear hx hcx hcut hcut2 hb1 hb2 hown hfr
      cases rest with
      | nil =>
        have hub : Bad u := by
          rcases HU.out with h | h
          · exfalso
            have h1 := congrArg List.length hdrop
            rw [List.length_drop, HL.out, h] at h1
            simp at h1
            omega
          · exact h
        have hres : nxI (tx [] ++ u) = -1 := nxI_bad hub
        rw [hres] at hnx
        have HNX := Lib.hid hnx
        have HUB := Lib.hid hub
        clear hnx hres hub hdrop
        go_wp2_with (first
          | (go_at_call 93; (refine (HNX.out _).mono ?_); rintro e w1 ⟨rfl, hf1⟩)
          | ((with_reducible refine at_store_ 2 17 ?_); refine wpList_store_blk rfl _ _ _ rfl w.heap.size 0 tRunes _ [.slice none 0 0, .bool false] rfl rfl (HB1.out.fresh hf1) (by simp) (by intro v hv; simp at hv; rcases hv with rfl | rfl <;> rfl) (by kernel_rfl) ?_; intro w2 hb3 hbut2))
        have hb4 : w2.heap[w.heap.size]? = some (.cells #[.slice none 0 0, .bool false] tRunes (0, 0)) := hb3
        refine bodyPost_ret (results_cell_row (p := 2) (by kernel_rfl) _ _ w.heap.size tRunes #[.slice none 0 0, .bool false] (0, 0) _ rfl hb4 Tryz.underlying103 rfl (by kernel_rfl)) rfl ?_
        exact readIs_bad HUB.out (Fresh.but (HF.out.trans hf1) (Nat.le_refl _) hbut2)
      | cons r rest =>
        have hrr : Rn r := HRN.out r (by rw [hdr.out]; simp)
        have hres : nxI (tx (r :: rest) ++ u) = (r : Nat) := by rw [tx_cons, List.append_assoc]; exact nxI_good hrr _
        rw [hres] at hnx
        have hrl := hrr.le
        have hut := fun W => utf_any r (by omega) W
        have hPW : P + wid r ≤ n := by
          have h1 := congrArg List.length hdrop
          rw [List.length_drop, HL.out, tx_cons, List.append_assoc, List.length_append, en_len] at h1
          omega
        obtain ⟨W, hW⟩ : ∃ W, wid r = W := ⟨_, rfl⟩
        have hW1 := (wid_bd r).1
        rw [hW] at hut hPW hW1
        have HNX := Lib.hid hnx
        have HUT := Lib.hid hut
        have HWD := Lib.hid hW
        have hr0 : ¬ (r : Int) < 0 := by omega
        clear hnx hres hdrop hut hW hrr
        go_wp2_with (first
          | (go_at_call 93; (refine (HNX.out _).mono ?_); rintro e w1 ⟨rfl, hf1⟩; have hb3 := HB2.out.fresh hf1; have k1 := hb3.cell (i := 0) rfl; have HB3 := Lib.hid hb3; have HF1 := Lib.hid hf1; clear hb3 hf1)
          | (at_builtin; refine wpList_append_rd _ rfl _ _ 67 rfl (w.heap.size + 2) 3 i0 _ 8 Tryz.underlying67 hi0 hz0 hz1 hz2 rfl A1 k c1 _ rfl (Own.fresh (Own.fresh HO.out HF1.out) (Fresh.alloc _ _)) (w1.heap.size + 1) (some ⟨w1.heap.size, 0, none⟩) 1 1 [.int .i64 (r : Nat)] rfl (Rd.lit w1 #[.int .i64 (r : Nat)] 3) (one_one _ _) (by unfold maxLen; omega) (by omega) (by have := HB3.out.inside; simp; omega) ?_; intro A3 c3 w3 hown3 hg3; have hne3 := Own.ne_block (Own.fresh (Own.fresh HO.out HF1.out) (Fresh.alloc w1 (.cells #[.int .i64 (r : Nat)] 3))) (HB3.out.alloc (.cells #[.int .i64 (r : Nat)] 3)) (by decide); have hb5 := (HB3.out.alloc (.cells #[.int .i64 (r : Nat)] 3)).grown hg3 hne3; have k3 := hb5.cell (i := 0) rfl; have f3 := hb5.free 0; have HB5 := Lib.hid hb5; have HO3 := Lib.hid hown3; have HG3 := Lib.hid hg3; have HN3 := Lib.hid hne3; clear hb5 hown3 hg3 hne3)
          | (go_at_call 94; (refine (HUT.out _).mono ?_); rintro e w5 ⟨A5, c5, rfl, hf5, ho5⟩))
        have e0 : Below (w.heap.size + 2) wr w3 := ((HF1.out.mono (by omega)).alloc (by have := HF1.out.size; omega) (.cells #[.int .i64 (r : Nat)] 3)).grown HG3.out (by have := HF1.out.size; simp; omega) (Own.row HO.out)
        have e1 : Fresh w w3 := Below.trans HF.out (e0.mono (by omega))
        have e2 : Fresh w (w3.setCell ⟨w.heap.size + 1, 0, none⟩ (.slice A3 (k + 1) c3)) := e1.but (by omega) (But.put (g := w.heap.size + 1) (i := 0) w3 _)
        have e3 : Fresh w w5 := e2.trans hf5
        have g1 : Bk w3 w.heap.size tRunes [.slice none 0 0, .bool false] := HB1.out.below e0 (by omega)
        have g2 := (g1.apart (p := ⟨w.heap.size + 1, 0, none⟩) (by simp) (.slice A3 (k + 1) c3)).fresh hf5
        have g3 := (HB5.out.put 0 (.slice A3 (k + 1) c3)).fresh hf5
        have g4 := (Own.fresh (HO3.out.but (But.put (g := w.heap.size + 1) (i := 0) w3 (.slice A3 (k + 1) c3)) (Own.ne_block HO3.out HB5.out (by decide))) hf5)
        have hlist : rv done ++ [Value.int .i64 (r : Nat)] = rv (done ++ [r]) := by simp [rv]
        rw [hlist] at g4
        have hkk : k + 1 ≤ n := by
          have h1 := tx_le (done ++ [r])
          have h2 : (tx (done ++ [r])).length = P + W := by rw [tx_snoc, List.length_append, en_len, ← hP.out, HWD.out]
          have h3 : (done ++ [r]).length = k + 1 := by rw [List.length_append, ← hk.out]; rfl
          omega
        go_roundw
        case rel => exact ⟨done ++ [r], rest, P + W, k + 1, c3, A3, by have := hdr.out; show _ = _; rw [this]; simp, by go_num, by show _ = _; rw [tx_snoc, List.length_append, en_len, ← hP.out, HWD.out], by have := hk.out; show _ = _; simp; omega, hkk, hPW, g2, g3, g4, e3⟩
        case measure => simp [intOf]; omega
    · have hrest : rest = [] ∧ u = [] := by
        have h1 := congrArg List.length HT.out
        rw [HL.out, hdr.out, tx_append, List.append_assoc, List.length_append, List.length_append, ← hP.out] at h1
        have h2 := tx_le rest
        exact ⟨List.eq_nil_of_length_eq_zero (by omega), List.eq_nil_of_length_eq_zero (by omega)⟩
      obtain ⟨rfl, hu0⟩ := hrest
      have hrd : rs = done := by have := hdr.out; rwa [List.append_nil] at this
      subst hrd
      have HB1 := Lib.hid hb1
      have HB2 := Lib.hid hb2
      have HO := Lib.hid hown
      have HF := Lib.hid hfr
      have HU0 := Lib.hid hu0
      clear hb1 hb2 hown hfr hu0
      go_wp2_with (first
        | ((with_reducible refine at_slot_ 29 ?_); refine wpList_load_blk rfl tRunes _ rfl (w.heap.size + 1) 0 2 tRunes [.slice A1 k c1, .bool true] rfl HB2.out (by simp) _ Tryz.underlying103 rfl (by kernel_rfl) ?_)
        | ((with_reducible refine at_store_ 2 29 ?_); refine wpList_store_blk rfl _ _ _ rfl w.heap.size 0 tRunes _ [.slice A1 k c1, .bool true] rfl rfl HB1.out (by simp) (by intro v hv; simp at hv; rcases hv with rfl | rfl <;> rfl) (by kernel_rfl) ?_; intro w2 hb3 hbut2))
      have hb4 : w2.heap[w.heap.size]? = some (.cells #[.slice A1 k c1, .bool true] tRunes (0, 0)) := hb3
      refine bodyPost_ret (results_cell_row (p := 2) (by kernel_rfl) _ _ w.heap.size tRunes #[.slice A1 k c1, .bool true] (0, 0) _ rfl hb4 Tryz.underlying103 rfl (by kernel_rfl)) rfl ?_
      have hob : Own w2 (w.heap.size + 2) 3 A1 k c1 (rv rs) := HO.out.but hbut2 (Own.ne_block HO.out HB1.out (by decide))
      have hfin : ReadIs rs u w (.returned (.agg #[.slice A1 k c1, .bool true])) w2 := readIs_ok HU0.out (Fresh.but HF.out (Nat.le_refl _) hbut2) hob.cap.1 hk.out hob.rd
      exact hfin
end Go.Proofs.YtmnegmebkmihhaaGreatDoor.namp
/-
  Layer 9's reference: Decode, Encode, May. My own text.
-/
namespace Go.Proofs.YtmnegmebkmihhaaGreatDoor.namp
open Go.RowKit Go.Proofs.YtmnegmebkmihhaaGreatDoor.base Go.Proofs.YtmnegmebkmihhaaGreatDoor.nam
set_option linter.unusedVariables false

abbrev tName : TypeId := 53
theorem info_byte9 : (Tryz.prog.info? 5).map (fun i => (i.zero, i.size, i.bytes)) = some (some (.int .u8 0), 1, 1) := by kernel_rfl
/-- what the reference's Decode and Encode tell: bytes, and a sign -/
def NameIs (bs : List UInt8) (is : Bool) (w : World) (e : Ending) (w' : World) : Prop :=
  ∃ A m c, e = .returned (.agg #[.slice A m c, .bool is]) ∧ m = bs.length ∧ Fresh w w' ∧ Rd w' w'.heap.size A m (bs.map bv) ∧ m ≤ c ∧ c ≤ maxLen
theorem page_at {w : World} {B : Nat} {A : Option Addr} (h : Rd w B A 128 pageV) {j : Nat} (hj : j < 128) : ∃ b off, A = some ⟨b, off, none⟩ ∧ b < B ∧ w.cell? ⟨b, off + j, none⟩ = some (iv (pageR (128 + j) : Nat)) := by
  obtain ⟨b, off, e, hb, hc⟩ := h.2 (by omega)
  refine ⟨b, off, e, hb, hc j _ ?_⟩
  have hj2 : j < upperL.length := by rw [upper_len]; omega
  rw [pageV, List.getElem?_map, List.getElem?_eq_getElem hj2, pageR, if_neg (by omega), show 128 + j - 128 = j by omega, List.getD_eq_getElem?_getD, List.getElem?_eq_getElem hj2]
  rfl
theorem st_slot_ {P : Program} {ops : Array Oper} {a : Act} {w : World} {K : Act → World → Prop} {Q : Exit → Act → World → Prop} {E : Prop} {t : TypeId} (d : Nat) {op : Op} {ps : String} {af gd} (h : if Region.wanted (⟨some d, op, t, ps, af, gd⟩ : Oper) (yielded ops a.tmps) = true then Oper.wp P ⟨some d, op, t, ps, af, gd⟩ a w K Q else E) :
    if Region.wanted (⟨some d, op, t, ps, af, gd⟩ : Oper) (yielded ops a.tmps) = true then Oper.wp P ⟨some d, op, t, ps, af, gd⟩ a w K Q else E := h
theorem utf_row (R : Nat) (hR : R < 2097152) (w : World) :
    Calls Tryz.prog 94 #[.int .i64 (R : Nat)] w fun e w' => ∃ b5 c5, e = .returned (.slice (some ⟨b5, 0, none⟩) (wid R) c5) ∧ Fresh w w' ∧ Own w' w.heap.size 5 (some ⟨b5, 0, none⟩) (wid R) c5 ((en R).map bv) := by
  refine (utf_any R hR w).mono ?_
  rintro e w' ⟨A, c, rfl, hf, ho⟩
  obtain ⟨g, cap, hv, hb, hlt⟩ := World.ownsRow.form ho (by have := (wid_bd R).1; omega)
  injection hv with hA _ hc
  subst hA
  exact ⟨g, c, rfl, hf, ho⟩
theorem own_news {w : World} {base g n c : Nat} {e : TypeId} {xs : List Value} (h : Own w base e (some ⟨g, 0, none⟩) n c xs) : ∀ j u, xs[j]? = some u → w.cell? ((⟨g, 0, none⟩ : Addr).add j) = some u := fun j u hj => World.ownsRow.cells h (g := g) rfl j u hj
set_option maxHeartbeats 4000000 in
set_option maxRecDepth 100000 in
theorem refDecode_page (A : Option Addr) (n c : Nat) (bs : List UInt8) (w : World) (B : Nat) (hr : Rd w B A n (bs.map bv)) (hB : B ≤ w.heap.size) (hn : n ≤ 4294967296) :
    Calls Tryz.prog 80 #[.slice A n c, .bool false] w (NameIs (tx (pgs bs)) true w) := by
  obtain ⟨i0, hi0, hz0, hz1, hz2⟩ := info_parts info_byte9
  have hl : bs.length = n := by have := hr.1; rwa [List.length_map] at this
  have b1 := Bk.made w tName #[.slice none 0 0, .bool false]
  have f1 := Fresh.alloc w (.cells #[.slice none 0 0, .bool false] tName)
  have hs1 : (w.alloc (.cells #[.slice none 0 0, .bool false] tName)).heap.size = w.heap.size + 1 := by simp
  have HL := Lib.hid hl
  have HR := Lib.hid hr
  have HB1 := Lib.hid b1
  have HF1 := Lib.hid f1
  have HS1 := Lib.hid hs1
  have hpg := fun W => page_any W
  have HPG := Lib.hid hpg
  clear hl hr b1 f1 hs1 hpg
  go_enter Tryz.func80, Tryz.ntmps80
  go_wp2_with (go_at_call 47; (refine (HPG.out _).mono ?_); rintro e w1 ⟨A1, c1, rfl, hf1, ho1⟩; have HFP := Lib.hid hf1; have HOP := Lib.hid ho1; clear hf1 ho1)
  have b2 := HB1.out.fresh HFP.out
  have f2 := HF1.out.trans HFP.out
  have b4 := Bk.made w1 tName #[.slice none 0 0, .bool true]
  have b3 := b2.alloc (.cells #[.slice none 0 0, .bool true] tName)
  have f3 := f2.trans (Fresh.alloc w1 (.cells #[.slice none 0 0, .bool true] tName))
  have p3 := (HOP.out.rd.fresh (Fresh.alloc w1 (.cells #[.slice none 0 0, .bool true] tName)))
  obtain ⟨g, hg⟩ : ∃ g, w1.heap.size = g := ⟨_, rfl⟩
  have hgw : w.heap.size < g := by have := b2.inside; omega
  rw [hg] at b4
  have hp1 : Rd w1 w1.heap.size A1 128 pageV := HOP.out.rd
  have HPP := Lib.hid hp1
  have HB2 := Lib.hid b2
  have HF2 := Lib.hid f2
  have HB4 := Lib.hid b4
  have HG := Lib.hid hg
  clear b2 b3 b4 f2 f3 p3 hp1
  rw [hg]
  clear hg
  go_loopw [7] (fun v wr => ∃ (k m c2 : Nat) (A2 : Option Addr), k ≤ n ∧ v = .int .i64 k ∧ Hid (m = (tx (pgs (bs.take k))).length) ∧ m ≤ 4 * k ∧ Bk wr g tName [.slice A2 m c2, .bool true] ∧ Own wr (g + 1) 5 A2 m c2 ((tx (pgs (bs.take k))).map bv) ∧ Fresh w1 wr) (fun v _ => n - (intOf v).toNat)
  case atStart => exact ⟨0, 0, 0, none, Nat.zero_le _, rfl, rfl, by omega, HB4.out, Own.nil _ _ _, Fresh.alloc _ _⟩
  case round =>
    obtain ⟨k, m, c2, A2, hk, rfl, hm, hm4, hb, hown, hfr⟩ := hrel
    by_cases hlt : k < n
    · obtain ⟨b, off, x, rfl, hbB, hx, hcx⟩ := ((HR.out.below (w' := w1) HF2.out hB).below (w' := wr) hfr (by have := HF2.out.size; omega)).at_ hlt
      obtain ⟨R, hRR⟩ : ∃ R, pageR x.toNat = R := ⟨_, rfl⟩
      have hxb := x.toNat_lt
      have hRl : R < 55296 := by rw [← hRR]; exact pageR_rn ⟨x.toNat, hxb⟩
      have hut := fun W => utf_row R (by omega) W
      obtain ⟨D, hD⟩ : ∃ D, wid R = D := ⟨_, rfl⟩
      have hD1 := (wid_bd R).1
      have hD4 := (wid_bd R).2
      rw [hD] at hut hD1 hD4
      have hDl : (en R).length = D := by rw [en_len, hD]
      have HDL := Lib.hid hDl
      clear hD hDl
      have hs : tx (pgs (bs.take k)) ++ en R = tx (pgs (bs.take (k + 1))) := by
        rw [take_snoc _ _ _ hx, ← hRR]
        simp [tx, pgs]
      have hc0 := hb.cell (i := 0) rfl
      have HS := Lib.hid hs
      have HUT := Lib.hid hut
      have HB := Lib.hid hb
      have HO := Lib.hid hown
      have HF := Lib.hid hfr
      have hpw : Rd wr w1.heap.size A1 128 pageV := HPP.out.below hfr (Nat.le_refl _)
      by_cases h128 : x.toNat < 128
      · have hR0 : x.toNat = R := by rw [← hRR, pageR, if_pos h128]
        rw [bv, hR0] at hcx
        have t1 : decide ((R : Int) ≥ 128) = false := by rw [decide_eq_false_iff_not]; omega
        have t2 : decide (128 ≤ (R : Int)) = false := by rw [decide_eq_false_iff_not]; omega
        clear hs hut hb hown hfr hpw h128 hR0 hRR hx hxb
        go_wp2
        have hc1 : wr.drew.cell? ⟨g, 0, none⟩ = some (.slice A2 m c2) := hc0
        go_region_law (first
          | ((with_reducible refine st_slot_ 39 ?_); go_simp; (refine (HUT.out _).mono ?_); rintro e w2 ⟨b5, c5, rfl, hf2, ho2⟩; have HF2b := Lib.hid hf2; have HO2 := Lib.hid ho2; have k2 := (show w2.cell? ⟨g, 0, none⟩ = some (.slice A2 m c2) from ((HB.out.fresh (Fresh.drew wr)).fresh hf2).cell rfl); clear hf2 ho2)
          | ((with_reducible refine st_slot_ 40 ?_); (refine step_append_lies _ (by rfl) (.tmp 37) (.tmp 39) 25 (by rfl) (g + 1) 5 i0 _ 1 1 Tryz.underlying25 hi0 hz0 hz1 hz2 rfl (by omega) (.slice A2 m c2) m ((tx (pgs (bs.take k))).map bv) (by rfl) ((HO.out.fresh (Fresh.drew wr)).fresh HF2b.out) ⟨b5, 0, none⟩ D c5 ((en R).map bv) (by rfl) (by rw [List.length_map, HDL.out, Nat.mul_one]) (own_news HO2.out) (bv_one _) (by omega) (by unfold maxLen; omega) (by omega) (by have := HB.out.inside; have := HF2b.out.size; simp at this; omega) _ rfl ?_; (intro gg cap w4 hown hgrow hat hlt4; have HOWN := Lib.hid hown; have HGROW := Lib.hid hgrow; have hb4 := Bk.grown ((HB.out.fresh (Fresh.drew wr)).fresh HF2b.out) hgrow (Own.ne_block ((HO.out.fresh (Fresh.drew wr)).fresh HF2b.out) ((HB.out.fresh (Fresh.drew wr)).fresh HF2b.out) (by decide)); have HB4b := Lib.hid hb4; have HK2 := Lib.hid (show w4.cell? ⟨g, 0, none⟩ = some (.slice A2 m c2) from hb4.cell rfl); have k4 := hb4.cell (i := 0) rfl; have f4 := hb4.free 0; clear hown hgrow hat hb4))))
        all_goals
          have q1 := HB4b.out.put 0 (.slice (some ⟨gg, 0, none⟩) (m + D) cap)
          have q2 : Own (w4.setCell ⟨g, 0, none⟩ (.slice (some ⟨gg, 0, none⟩) (m + D) cap)) (g + 1) 5 (some ⟨gg, 0, none⟩) (m + D) cap ((tx (pgs (bs.take (k + 1)))).map bv) := by
            have h1 := Own.but HOWN.out (But.put (g := g) (i := 0) w4 (.slice (some ⟨gg, 0, none⟩) (m + D) cap)) (Own.ne_block HOWN.out HB4b.out (by decide))
            rwa [← List.map_append, HS.out] at h1
          have q3 : Fresh w1 (w4.setCell ⟨g, 0, none⟩ (.slice (some ⟨gg, 0, none⟩) (m + D) cap)) := by
            have h1 : Fresh w1 w2 := (HF.out.trans (Fresh.drew wr)).trans HF2b.out
            have h2 : Fresh w1 w4 := Fresh.append h1 ((HO.out.fresh (Fresh.drew wr)).fresh HF2b.out) (by rw [HG.out]; omega) HGROW.out
            exact h2.but (by rw [HG.out]; exact Nat.le_refl _) (But.put _ _)
          have q4 : Hid (m + D = (tx (pgs (bs.take (k + 1)))).length) := by show _ = _; rw [← HS.out, List.length_append, ← hm.out, HDL.out]
          have Q1 := Lib.hid q1
          have Q2 := Lib.hid q2
          have Q3 := Lib.hid q3
          clear q1 q2 q3 k4 f4 k2 hc1 hc0
          go_wp2
          go_roundw
          case rel => exact ⟨k + 1, m + D, cap, some ⟨gg, 0, none⟩, by omega, by go_num, q4, by omega, Q1.out, Q2.out, Q3.out⟩
          case measure => simp [intOf]; omega
      · obtain ⟨j, hj⟩ : ∃ j, x.toNat = 128 + j := ⟨x.toNat - 128, by omega⟩
        have hj128 : j < 128 := by omega
        obtain ⟨pb, po, hA1, hpb, hpc⟩ := page_at hpw hj128
        rw [← hj, hRR] at hpc
        obtain ⟨z, hz⟩ : ∃ z : Int, (x.toNat : Int) = z := ⟨_, rfl⟩
        rw [bv, hz] at hcx
        have t1 : decide (z ≥ 128) = true := by rw [decide_eq_true_iff]; omega
        have t2 : decide (128 ≤ z) = true := by rw [decide_eq_true_iff]; omega
        have e1 : z - 128 = (j : Int) := by omega
        have zb : 0 ≤ z := by omega
        have zc : z ≤ 255 := by omega
        subst hA1
        clear hs hut hb hown hfr hpw h128 hRR hx hxb hj hz
        go_wp2
        have hc1 : wr.drew.cell? ⟨g, 0, none⟩ = some (.slice A2 m c2) := hc0
        go_region_law (first
          | ((with_reducible refine st_slot_ 39 ?_); go_simp; (refine (HUT.out _).mono ?_); rintro e w2 ⟨b5, c5, rfl, hf2, ho2⟩; have HF2b := Lib.hid hf2; have HO2 := Lib.hid ho2; have k2 := (show w2.cell? ⟨g, 0, none⟩ = some (.slice A2 m c2) from ((HB.out.fresh (Fresh.drew wr)).fresh hf2).cell rfl); clear hf2 ho2)
          | ((with_reducible refine st_slot_ 40 ?_); (refine step_append_lies _ (by rfl) (.tmp 37) (.tmp 39) 25 (by rfl) (g + 1) 5 i0 _ 1 1 Tryz.underlying25 hi0 hz0 hz1 hz2 rfl (by omega) (.slice A2 m c2) m ((tx (pgs (bs.take k))).map bv) (by rfl) ((HO.out.fresh (Fresh.drew wr)).fresh HF2b.out) ⟨b5, 0, none⟩ D c5 ((en R).map bv) (by rfl) (by rw [List.length_map, HDL.out, Nat.mul_one]) (own_news HO2.out) (bv_one _) (by omega) (by unfold maxLen; omega) (by omega) (by have := HB.out.inside; have := HF2b.out.size; simp at this; omega) _ rfl ?_; (intro gg cap w4 hown hgrow hat hlt4; have HOWN := Lib.hid hown; have HGROW := Lib.hid hgrow; have hb4 := Bk.grown ((HB.out.fresh (Fresh.drew wr)).fresh HF2b.out) hgrow (Own.ne_block ((HO.out.fresh (Fresh.drew wr)).fresh HF2b.out) ((HB.out.fresh (Fresh.drew wr)).fresh HF2b.out) (by decide)); have HB4b := Lib.hid hb4; have HK2 := Lib.hid (show w4.cell? ⟨g, 0, none⟩ = some (.slice A2 m c2) from hb4.cell rfl); have k4 := hb4.cell (i := 0) rfl; have f4 := hb4.free 0; clear hown hgrow hat hb4))))
        all_goals
          have q1 := HB4b.out.put 0 (.slice (some ⟨gg, 0, none⟩) (m + D) cap)
          have q2 : Own (w4.setCell ⟨g, 0, none⟩ (.slice (some ⟨gg, 0, none⟩) (m + D) cap)) (g + 1) 5 (some ⟨gg, 0, none⟩) (m + D) cap ((tx (pgs (bs.take (k + 1)))).map bv) := by
            have h1 := Own.but HOWN.out (But.put (g := g) (i := 0) w4 (.slice (some ⟨gg, 0, none⟩) (m + D) cap)) (Own.ne_block HOWN.out HB4b.out (by decide))
            rwa [← List.map_append, HS.out] at h1
          have q3 : Fresh w1 (w4.setCell ⟨g, 0, none⟩ (.slice (some ⟨gg, 0, none⟩) (m + D) cap)) := by
            have h1 : Fresh w1 w2 := (HF.out.trans (Fresh.drew wr)).trans HF2b.out
            have h2 : Fresh w1 w4 := Fresh.append h1 ((HO.out.fresh (Fresh.drew wr)).fresh HF2b.out) (by rw [HG.out]; omega) HGROW.out
            exact h2.but (by rw [HG.out]; exact Nat.le_refl _) (But.put _ _)
          have q4 : Hid (m + D = (tx (pgs (bs.take (k + 1)))).length) := by show _ = _; rw [← HS.out, List.length_append, ← hm.out, HDL.out]
          have Q1 := Lib.hid q1
          have Q2 := Lib.hid q2
          have Q3 := Lib.hid q3
          clear q1 q2 q3 k4 f4 k2 hc1 hc0
          go_wp2
          go_roundw
          case rel => exact ⟨k + 1, m + D, cap, some ⟨gg, 0, none⟩, by omega, by go_num, q4, by omega, Q1.out, Q2.out, Q3.out⟩
          case measure => simp [intOf]; omega
    · obtain rfl : k = n := by omega
      have HB := Lib.hid hb
      have HO := Lib.hid hown
      have HF := Lib.hid hfr
      have hz := HB2.out.fresh hfr
      have HZ := Lib.hid hz
      clear hb hown hfr hz
      go_wp2_with (first
        | ((with_reducible refine at_slot_ 42 ?_); refine wpList_load_blk rfl tName _ rfl g 0 2 tName [.slice A2 m c2, .bool true] rfl HB.out (by simp) _ Tryz.underlying53 rfl (by kernel_rfl) ?_)
        | ((with_reducible refine at_store_ 4 42 ?_); refine wpList_store_blk rfl _ _ _ rfl w.heap.size 0 tName _ [.slice A2 m c2, .bool true] rfl rfl HZ.out (by simp) (by intro v hv; simp at hv; rcases hv with rfl | rfl <;> rfl) (by kernel_rfl) ?_; intro w2 hb3 hbut2))
      have hb4 : w2.heap[w.heap.size]? = some (.cells #[.slice A2 m c2, .bool true] tName (0, 0)) := hb3
      refine bodyPost_ret (results_cell_row (p := 4) (by kernel_rfl) _ _ w.heap.size tName #[.slice A2 m c2, .bool true] (0, 0) _ rfl hb4 Tryz.underlying53 rfl (by kernel_rfl)) rfl ?_
      have hob := HO.out.but hbut2 (Own.ne_block HO.out HZ.out (by decide))
      rw [List.take_of_length_le (Nat.le_of_eq HL.out)] at hob
      have hm2 := hm.out
      rw [List.take_of_length_le (Nat.le_of_eq HL.out)] at hm2
      have hff : Fresh w w2 := Fresh.but (Fresh.trans HF2.out HF.out) (Nat.le_refl _) hbut2
      have hfin : NameIs (tx (pgs bs)) true w (.returned (.agg #[.slice A2 m c2, .bool true])) w2 := ⟨A2, m, c2, rfl, hm2, hff, hob.rd, hob.cap.1, hob.cap.2⟩
      exact hfin
end Go.Proofs.YtmnegmebkmihhaaGreatDoor.namp
/-
  Layer 9's reference: Decode as UTF-8, Encode, May. My own text.
-/
namespace Go.Proofs.YtmnegmebkmihhaaGreatDoor.namp
open Go.RowKit Go.Proofs.YtmnegmebkmihhaaGreatDoor.base Go.Proofs.YtmnegmebkmihhaaGreatDoor.nam
set_option linter.unusedVariables false

theorem Rd.far {w w' : World} {B n : Nat} {A : Option Addr} {xs : List Value} (h : Rd w B A n xs) (hB : B ≤ w.heap.size) (hf : Fresh w w') : Rd w' w'.heap.size A n xs := (h.below hf hB).up (Nat.le_trans hB hf.size)
theorem field_is (A : Option Addr) (m c : Nat) (b : Bool) (W : World) : (Instr.field tRunes (.agg #[.slice A m c, .bool b]) 1).run Tryz.prog W = .ok (.bool b) W := by
  simp [Instr.field, run_underlying Tryz.underlying103, asAgg, part, sizeOf, typeInfo]
set_option maxHeartbeats 4000000 in
set_option maxRecDepth 100000 in
theorem refDecode_told (A : Option Addr) (n c : Nat) (bs : List UInt8) (rs : List Nat) (u : List UInt8) (ht : bs = tx rs ++ u) (hrn : ∀ r ∈ rs, Rn r) (hu : u = [] ∨ Bad u) (w : World) (B : Nat) (hr : Rd w B A n (bs.map bv)) (hB : B ≤ w.heap.size) (hn : n ≤ 4294967296) (hc : n ≤ c) (hcm : c ≤ maxLen) :
    Calls Tryz.prog 80 #[.slice A n c, .bool true] w (NameIs (if u = [] then bs else []) (decide (u = [])) w) := by
  have hl : bs.length = n := by have := hr.1; rwa [List.length_map] at this
  have hrd := fun W h => read_any A n c bs rs u ht hrn hu W B h
  have b1 := Bk.made w tName #[.slice none 0 0, .bool false]
  have f1 := Fresh.alloc w (.cells #[.slice none 0 0, .bool false] tName)
  have hr1 := hr.below f1 hB
  have HR := Lib.hid hr
  have HR1 := Lib.hid hr1
  have HL := Lib.hid hl
  have HRD := Lib.hid hrd
  have HB1 := Lib.hid b1
  have HF1 := Lib.hid f1
  have HCM := Lib.hid hcm
  clear hl hrd b1 f1 hr hr1 ht hrn hcm
  rcases hu with hu | hu
  · rw [decide_eq_true hu, if_pos hu]
    have HU := Lib.hid hu
    clear hu
    go_enter Tryz.func80, Tryz.ntmps80
    go_wp2_with (first
      | (go_at_call 46; (refine (HRD.out _ HR1.out (by simp; omega) hn hc HCM.out).mono ?_); rintro e w1 ⟨A1, m1, c1, rfl, hf1, hm1, hrest⟩; (rw [decide_eq_true HU.out]); have hfld := field_is A1 m1 c1 true w1; have HFR := Lib.hid hf1; have hbz := HB1.out.fresh hf1; have HBZ := Lib.hid hbz; clear hf1 hbz hrest)
      | ((with_reducible refine at_store_ 4 14 ?_); refine wpList_store_blk rfl _ _ _ rfl w.heap.size 0 tName _ [.slice A n c, .bool true] rfl rfl HBZ.out (by simp) (by intro v hv; simp at hv; rcases hv with rfl | rfl <;> rfl) (by kernel_rfl) ?_; intro w2 hb3 hbut2))
    have hb4 : w2.heap[w.heap.size]? = some (.cells #[.slice A n c, .bool true] tName (0, 0)) := hb3
    refine bodyPost_ret (results_cell_row (p := 4) (by kernel_rfl) _ _ w.heap.size tName #[.slice A n c, .bool true] (0, 0) _ rfl hb4 Tryz.underlying53 rfl (by kernel_rfl)) rfl ?_
    have hff : Fresh w w2 := Fresh.but (Fresh.trans HF1.out HFR.out) (Nat.le_refl _) hbut2
    have hfin : NameIs bs true w (.returned (.agg #[.slice A n c, .bool true])) w2 := ⟨A, n, c, rfl, HL.out.symm, hff, Rd.far HR.out hB hff, hc, HCM.out⟩
    exact hfin
  · rw [decide_eq_false hu.1, if_neg hu.1]
    have HU := Lib.hid hu
    clear hu
    go_enter Tryz.func80, Tryz.ntmps80
    go_wp2_with (first
      | (go_at_call 46; (refine (HRD.out _ HR1.out (by simp; omega) hn hc HCM.out).mono ?_); rintro e w1 ⟨A1, m1, c1, rfl, hf1, hm1, hrest⟩; (rw [decide_eq_false HU.out.1]); have hfld := field_is A1 m1 c1 false w1; have HFR := Lib.hid hf1; have hbz := HB1.out.fresh hf1; have HBZ := Lib.hid hbz; clear hf1 hbz hrest)
      | ((with_reducible refine at_store_ 4 15 ?_); refine wpList_store_blk rfl _ _ _ rfl w.heap.size 0 tName _ [.slice none 0 0, .bool false] rfl rfl HBZ.out (by simp) (by intro v hv; simp at hv; rcases hv with rfl | rfl <;> rfl) (by kernel_rfl) ?_; intro w2 hb3 hbut2))
    have hb4 : w2.heap[w.heap.size]? = some (.cells #[.slice none 0 0, .bool false] tName (0, 0)) := hb3
    refine bodyPost_ret (results_cell_row (p := 4) (by kernel_rfl) _ _ w.heap.size tName #[.slice none 0 0, .bool false] (0, 0) _ rfl hb4 Tryz.underlying53 rfl (by kernel_rfl)) rfl ?_
    have hff : Fresh w w2 := Fresh.but (Fresh.trans HF1.out HFR.out) (Nat.le_refl _) hbut2
    have hfin : NameIs [] false w (.returned (.agg #[.slice none 0 0, .bool false])) w2 := ⟨none, 0, 0, rfl, rfl, hff, Rd.nil _ _ _, Nat.le_refl _, Nat.zero_le _⟩
    exact hfin
/-- what the reference's inner loop has found in k rounds -/
def cK (r k : Nat) : Int := match pageB r with
  | some b => if b < 128 + k then (b : Int) else -1
  | none => -1
theorem pageB_high {r b : Nat} (h : pageB r = some b) (hr : 128 ≤ r) : 128 ≤ b := by
  have := pageB_some h
  by_cases hb : b < 128
  · have h2 := this.2
    rw [pageR, if_pos hb] at h2
    omega
  · omega
theorem cK_zero {r : Nat} (hr : 128 ≤ r) : cK r 0 = -1 := by
  unfold cK
  cases h : pageB r with
  | none => rfl
  | some b =>
    have := pageB_high h hr
    simp only
    rw [if_neg (by omega)]
theorem cK_hit {r k : Nat} (hk : k < 128) (h : pageR (128 + k) = r) : cK r (k + 1) = 128 + (k : Int) := by
  have := pageB_R ⟨128 + k, by omega⟩
  simp only at this
  rw [h] at this
  unfold cK
  rw [this]
  simp only
  rw [if_pos (by omega)]
  omega
theorem cK_miss {r k : Nat} (hk : k < 128) (h : pageR (128 + k) ≠ r) : cK r (k + 1) = cK r k := by
  unfold cK
  cases hp : pageB r with
  | none => rfl
  | some b =>
    simp only
    have hb := pageB_some hp
    by_cases h1 : b < 128 + k
    · rw [if_pos h1, if_pos (by omega)]
    · have : b ≠ 128 + k := fun e => by rw [e] at hb; exact h hb.2
      rw [if_neg h1, if_neg (by omega)]
theorem cK_end {r : Nat} : cK r 128 = match pageB r with
  | some b => (b : Int)
  | none => -1 := by
  unfold cK
  cases hp : pageB r with
  | none => rfl
  | some b =>
    have hb := (pageB_some hp).1
    simp only
    rw [if_pos (by omega)]
theorem cK_bd (r k : Nat) : -1 ≤ cK r k ∧ cK r k ≤ 255 := by
  unfold cK
  cases hp : pageB r with
  | none => simp
  | some b =>
    have hb := (pageB_some hp).1
    simp only
    split <;> omega

set_option maxHeartbeats 8000000 in
set_option maxRecDepth 100000 in
theorem refEncode_any (A : Option Addr) (n c : Nat) (bs : List UInt8) (rs : List Nat) (u : List UInt8) (ht : bs = tx rs ++ u) (hrn : ∀ r ∈ rs, Rn r) (hu : u = [] ∨ Bad u) (w : World) (B : Nat) (hr : Rd w B A n (bs.map bv)) (hB : B ≤ w.heap.size) (hn : n ≤ 4294967296) (hc : n ≤ c) (hcm : c ≤ maxLen) :
    Calls Tryz.prog 21 #[.slice A n c] w (NameIs (encB rs u) (encT rs u) w) := by
  obtain ⟨i0, hi0, hz0, hz1, hz2⟩ := info_parts info_byte9
  have hl : bs.length = n := by have := hr.1; rwa [List.length_map] at this
  have hrd := fun W h => read_any A n c bs rs u ht hrn hu W B h
  have b1 := Bk.made w tName #[.slice none 0 0, .bool false]
  have f1 := Fresh.alloc w (.cells #[.slice none 0 0, .bool false] tName)
  have hr1 := hr.below f1 hB
  have HR := Lib.hid hr
  have HR1 := Lib.hid hr1
  have HL := Lib.hid hl
  have HT := Lib.hid ht
  have HRN := Lib.hid hrn
  have HRD := Lib.hid hrd
  have HB1 := Lib.hid b1
  have HF1 := Lib.hid f1
  have HCM := Lib.hid hcm
  have hpg := fun W => page_any W
  have HPG := Lib.hid hpg
  clear hl hrd b1 f1 hr hr1 ht hrn hcm hpg
  rcases hu with hu | hu
  · have HU := Lib.hid hu
    clear hu
    go_enter Tryz.func21, Tryz.ntmps21
    go_wp2_with (go_at_call 46; (refine (HRD.out _ HR1.out (by simp; omega) hn hc HCM.out).mono ?_); rintro e w1 ⟨LA, m, lc, rfl, hf1, hm1, hrest⟩; (rw [decide_eq_true HU.out]); have HFR := Lib.hid hf1; have HREST := Lib.hid (hrest HU.out); clear hf1 hrest)
    go_wp2_with (go_at_call 47; (refine (HPG.out _).mono ?_); rintro e w2 ⟨PA, pc, rfl, hf2, ho2⟩; have HFP := Lib.hid hf2; have HOP := Lib.hid ho2; clear hf2 ho2)
    have hz2 := ((HB1.out.fresh HFR.out).alloc (.cells #[.slice LA m lc, .bool true] tRunes)).fresh HFP.out
    have hl2 := (Bk.made w1 tRunes #[.slice LA m lc, .bool true]).fresh HFP.out
    have hll : Rd w2 w1.heap.size LA m (rv rs) := (HREST.out.2.below (Fresh.alloc w1 (.cells #[.slice LA m lc, .bool true] tRunes)) (Nat.le_refl _)).below HFP.out (by simp)
    have hpp : Rd w2 w2.heap.size PA 128 pageV := HOP.out.rd
    have hff : Fresh w w2 := ((Fresh.trans HF1.out HFR.out).trans (Fresh.alloc w1 (.cells #[.slice LA m lc, .bool true] tRunes))).trans HFP.out
    have hx4 := Bk.made w2 tName #[.slice none 0 0, .bool false]
    obtain ⟨g, hg⟩ : ∃ g, w2.heap.size = g := ⟨_, rfl⟩
    obtain ⟨gl, hgl⟩ : ∃ gl, w1.heap.size = gl := ⟨_, rfl⟩
    have hgl2 : gl < g := by have := hl2.inside; omega
    have hgw : w.heap.size < g := by have := hz2.inside; omega
    rw [hg] at hx4 hpp
    rw [hgl] at hl2 hll ⊢
    have hml : m = rs.length := HREST.out.1
    have hmn : m ≤ n := by
      have h1 := tx_le rs
      have h2 := congrArg List.length HT.out
      rw [HL.out, List.length_append] at h2
      omega
    have HZ2 := Lib.hid hz2
    have HL2 := Lib.hid hl2
    have HLL := Lib.hid hll
    have HPP := Lib.hid hpp
    have HFF := Lib.hid hff
    have HX4 := Lib.hid hx4
    have HG := Lib.hid hg
    have HML := Lib.hid hml
    clear hz2 hl2 hll hpp hff hx4 hgl hml
    rw [hg]
    clear hg
    go_loopw [6] (fun v wr => ∃ (k c2 : Nat) (A2 : Option Addr), k ≤ m ∧ v = .int .i64 k ∧ Hid ((rs.take k).all hasB = true) ∧ Bk wr g tName [.slice A2 k c2, .bool false] ∧ Own wr (g + 1) 5 A2 k c2 (((rs.take k).map bR9).map bv) ∧ Fresh w2 wr) (fun v _ => m - (intOf v).toNat)
    case atStart => exact ⟨0, 0, none, Nat.zero_le _, rfl, rfl, HX4.out, Own.nil _ _ _, Fresh.alloc _ _⟩
    case round =>
      obtain ⟨k, c2, A2, hk, rfl, hall, hb, hown, hfr⟩ := hrel
      have hbl := HL2.out.fresh hfr
      have hc0 := hbl.cell (i := 0) rfl
      by_cases hlt : k < m
      · obtain ⟨lb, lo, r, hLA, hlbB, hr, hcr⟩ := (HLL.out.below hfr (by rw [HG.out]; omega)).at_ (enc := fun x : Nat => iv (x : Int)) hlt
        subst hLA
        have hrr : Rn r := HRN.out r (List.mem_of_getElem? hr)
        have hrl := hrr.le
        have HB := Lib.hid hb
        have HO := Lib.hid hown
        have HF := Lib.hid hfr
        have HRK := Lib.hid hr
        have HBL := Lib.hid hbl
        have hpw : Rd wr g PA 128 pageV := HPP.out.below hfr (by rw [HG.out]; exact Nat.le_refl _)
        by_cases h128 : r < 128
        · have t1 : decide ((r : Int) ≥ 128) = false := by rw [decide_eq_false_iff_not]; omega
          have t2 : decide (128 ≤ (r : Int)) = false := by rw [decide_eq_false_iff_not]; omega
          have HPB := Lib.hid (pageB_low h128)
          have t3 : decide ((r : Int) < 0) = false := by rw [decide_eq_false_iff_not]; omega
          have e8 : IntKind.u8.wrap (r : Int) = (r : Int) := w8 _ r rfl (by omega)
          have x0 := hb.cell (i := 0) rfl
          clear hb hown hfr hr hbl hpw h128 hrr
          go_wp2_with (at_builtin; refine wpList_append_rd _ rfl _ _ 25 rfl (g + 1) 5 i0 _ 1 Tryz.underlying25 hi0 hz0 hz1 hz2 rfl A2 k c2 _ rfl (Own.fresh HO.out (Fresh.alloc _ _)) (wr.heap.size + 1) (some ⟨wr.heap.size, 0, none⟩) 1 1 [.int .u8 (r : Nat)] rfl (Rd.lit wr #[.int .u8 (r : Nat)] 5) (one_one _ _) (by unfold maxLen; omega) (by omega) (by have := HB.out.inside; simp; omega) ?_; intro A3 c3 w3 hown3 hg3; have hne3 := Own.ne_block (Own.fresh HO.out (Fresh.alloc wr (.cells #[.int .u8 (r : Nat)] 5))) (HB.out.alloc (.cells #[.int .u8 (r : Nat)] 5)) (by decide); have hb5 := (HB.out.alloc (.cells #[.int .u8 (r : Nat)] 5)).grown hg3 hne3; have k3 := hb5.cell (i := 0) rfl; have f3 := hb5.free 0; have HB5 := Lib.hid hb5; have HO3 := Lib.hid hown3; have HG3 := Lib.hid hg3; clear hb5 hown3 hg3 hne3)
          have q1 := HB5.out.put 0 (.slice A3 (k + 1) c3)
          have hln : ((rs.take k).map bR9).map bv ++ [Value.int .u8 (r : Nat)] = ((rs.take (k + 1)).map bR9).map bv := by
            rw [take_snoc _ _ _ HRK.out, List.map_append, List.map_append, bR9_is HPB.out]; rfl
          have q2 : Own (w3.setCell ⟨g, 0, none⟩ (.slice A3 (k + 1) c3)) (g + 1) 5 A3 (k + 1) c3 (((rs.take (k + 1)).map bR9).map bv) := by
            have h1 := Own.but HO3.out (But.put (g := g) (i := 0) w3 (.slice A3 (k + 1) c3)) (Own.ne_block HO3.out HB5.out (by decide))
            rwa [hln] at h1
          have q3 : Fresh w2 (w3.setCell ⟨g, 0, none⟩ (.slice A3 (k + 1) c3)) := by
            have h2 : Fresh w2 w3 := Fresh.append (HF.out.trans (Fresh.alloc _ _)) (Own.fresh HO.out (Fresh.alloc _ _)) (by rw [HG.out]; omega) HG3.out
            exact h2.but (by rw [HG.out]; exact Nat.le_refl _) (But.put _ _)
          have q4 : Hid ((rs.take (k + 1)).all hasB = true) := by show _ = _; rw [take_snoc _ _ _ HRK.out, List.all_append, hall.out]; simp [hasB, HPB.out]
          exact ⟨⟨k + 1, c3, A3, by omega, by go_num, q4, q1, q2, q3⟩, by simp [intOf]; omega⟩
        · obtain ⟨N0, hN0⟩ : ∃ N0 : Nat, N0 = 128 := ⟨_, rfl⟩
          have hr128 : 128 ≤ r := by omega
          have t1 : decide ((r : Int) ≥ 128) = true := by rw [decide_eq_true_iff]; omega
          have t2 : decide (128 ≤ (r : Int)) = true := by rw [decide_eq_true_iff]; omega
          have HPW := Lib.hid hpw
          have HZC := Lib.hid (cK_zero hr128)
          clear hb hown hfr hr hbl hpw h128 hrr hN0 N0
          go_wp2
          go_loopw [7, 8] (fun vc vk wq => ∃ (q j : Nat), j ≤ 128 ∧ vk = .int .i64 j ∧ vc = .int .i64 (cK r j) ∧ wq = wr.drewN q) (fun _ vk _ => 128 - (intOf vk).toNat)
          case atStart => exact ⟨0, 0, by omega, rfl, by rw [HZC.out], rfl⟩
          case round =>
            obtain ⟨q, j, hj, rfl, rfl, rfl⟩ := hrel
            by_cases hj128 : j < 128
            · obtain ⟨pb, po, hPA, hpb, hpc⟩ := page_at HPW.out hj128
              subst hPA
              obtain ⟨R, hR⟩ : ∃ R, pageR (128 + j) = R := ⟨_, rfl⟩
              rw [hR] at hpc
              have tj : decide ((j : Int) < 128) = true := by rw [decide_eq_true_iff]; omega
              have hjb : j ≤ 127 := by omega
              have hcb := cK_bd r j
              by_cases heq : R = r
              · have hnew := cK_hit hj128 (hR.trans heq)
                have HNEW := Lib.hid hnew
                have te : ((R : Int) == (r : Int)) = true := by rw [beq_iff_eq, heq]
                have HEQ := Lib.hid heq
                clear hnew heq hj128 hR hcb
                go_wp2
                go_quiet (fail)
                go_wp2
                exact ⟨⟨_, j + 1, by omega, by go_num, by rw [HNEW.out], rfl⟩, by simp [intOf]; omega⟩
              · have hnew := cK_miss hj128 (fun h => heq (hR.symm.trans h))
                have HNEW := Lib.hid hnew
                have te : ((R : Int) == (r : Int)) = false := by rw [beq_eq_false_iff_ne]; omega
                clear hnew heq hj128 hR hcb
                go_wp2
                go_quiet (fail)
                go_wp2
                exact ⟨⟨_, j + 1, by omega, by go_num, by rw [HNEW.out], rfl⟩, by simp [intOf]; omega⟩
            · obtain rfl : j = 128 := by omega
              have hce := cK_end (r := r)
              obtain ⟨V, hV⟩ : ∃ V, wr.drewN q = V := ⟨_, rfl⟩
              have hbV : Bk V g tName [.slice A2 k c2, .bool false] := by rw [← hV]; exact HB.out.fresh (Fresh.drewN _ _)
              have hoV : Own V (g + 1) 5 A2 k c2 (((rs.take k).map bR9).map bv) := by rw [← hV]; exact HO.out.fresh (Fresh.drewN _ _)
              have hfV : Fresh w2 V := by rw [← hV]; exact HF.out.trans (Fresh.drewN _ _)
              rw [hV]
              have x0 := hbV.cell (i := 0) rfl
              have HBq := Lib.hid hbV
              have HOq := Lib.hid hoV
              have HFq := Lib.hid hfV
              clear hbV hoV hfV hV hj128 hj
              cases hpb : pageB r with
              | none =>
                rw [hpb] at hce
                simp only at hce
                have HPB := Lib.hid hpb
                rw [hce]
                have hzq := HZ2.out.fresh HFq.out
                have HZQ := Lib.hid hzq
                clear hpb hce hzq
                go_wp2_with ((with_reducible refine at_store_ 2 53 ?_); refine wpList_store_blk rfl _ _ _ rfl w.heap.size 0 tName _ [.slice A n c, .bool true] rfl rfl HZQ.out (by simp) (by intro v hv; simp at hv; rcases hv with rfl | rfl <;> rfl) (by kernel_rfl) ?_; intro w5 hb3 hbut2)
                have hb4 : w5.heap[w.heap.size]? = some (.cells #[.slice A n c, .bool true] tName (0, 0)) := hb3
                refine bodyPost_ret (results_cell_row (p := 2) (by kernel_rfl) _ _ w.heap.size tName #[.slice A n c, .bool true] (0, 0) _ rfl hb4 Tryz.underlying53 rfl (by kernel_rfl)) rfl ?_
                have hff2 : Fresh w w5 := Fresh.but (Fresh.trans HFF.out HFq.out) (Nat.le_refl _) hbut2
                have hnb : rs.all hasB = false := by
                  rw [← Bool.not_eq_true, List.all_eq_true]
                  intro h
                  have := h r (List.mem_of_getElem? HRK.out)
                  rw [hasB, HPB.out] at this
                  cases this
                have hb9 : encB rs u = bs := by rw [encB, if_neg (fun h => by rw [hnb] at h; cases h.2), HT.out]
                have he9 : encT rs u = true := by rw [encT, hnb]; simp
                have hfin : NameIs (encB rs u) (encT rs u) w (.returned (.agg #[.slice A n c, .bool true])) w5 := by
                  rw [hb9, he9]
                  exact ⟨A, n, c, rfl, HL.out.symm, hff2, Rd.far HR.out hB hff2, hc, HCM.out⟩
                exact hfin
              | some b9 =>
                rw [hpb] at hce
                simp only at hce
                have HPB := Lib.hid hpb
                have hb256 := (pageB_some hpb).1
                have e8 : IntKind.u8.wrap (b9 : Int) = (b9 : Int) := w8 _ b9 rfl hb256
                have t3 : decide ((b9 : Int) < 0) = false := by rw [decide_eq_false_iff_not]; omega
                rw [hce]
                clear hpb hce hb256
                go_wp2_with (at_builtin; refine wpList_append_rd _ rfl _ _ 25 rfl (g + 1) 5 i0 _ 1 Tryz.underlying25 hi0 hz0 hz1 hz2 rfl A2 k c2 _ rfl (Own.fresh HOq.out (Fresh.alloc _ _)) (V.heap.size + 1) (some ⟨V.heap.size, 0, none⟩) 1 1 [.int .u8 (b9 : Nat)] rfl (Rd.lit V #[.int .u8 (b9 : Nat)] 5) (one_one _ _) (by unfold maxLen; omega) (by omega) (by have := HBq.out.inside; simp; omega) ?_; intro A3 c3 w3 hown3 hg3; have hne3 := Own.ne_block (Own.fresh HOq.out (Fresh.alloc V (.cells #[.int .u8 (b9 : Nat)] 5))) (HBq.out.alloc (.cells #[.int .u8 (b9 : Nat)] 5)) (by decide); have hb5 := (HBq.out.alloc (.cells #[.int .u8 (b9 : Nat)] 5)).grown hg3 hne3; have k3 := hb5.cell (i := 0) rfl; have f3 := hb5.free 0; have HB5 := Lib.hid hb5; have HO3 := Lib.hid hown3; have HG3 := Lib.hid hg3; clear hb5 hown3 hg3 hne3)
                have q1 := HB5.out.put 0 (.slice A3 (k + 1) c3)
                have hln : ((rs.take k).map bR9).map bv ++ [Value.int .u8 (b9 : Nat)] = ((rs.take (k + 1)).map bR9).map bv := by
                  rw [take_snoc _ _ _ HRK.out, List.map_append, List.map_append, bR9_is HPB.out]; rfl
                have q2 : Own (w3.setCell ⟨g, 0, none⟩ (.slice A3 (k + 1) c3)) (g + 1) 5 A3 (k + 1) c3 (((rs.take (k + 1)).map bR9).map bv) := by
                  have h1 := Own.but HO3.out (But.put (g := g) (i := 0) w3 (.slice A3 (k + 1) c3)) (Own.ne_block HO3.out HB5.out (by decide))
                  rwa [hln] at h1
                have q3 : Fresh w2 (w3.setCell ⟨g, 0, none⟩ (.slice A3 (k + 1) c3)) := by
                  have h2 : Fresh w2 w3 := Fresh.append (HFq.out.trans (Fresh.alloc _ _)) (Own.fresh HOq.out (Fresh.alloc _ _)) (by rw [HG.out]; omega) HG3.out
                  exact h2.but (by rw [HG.out]; exact Nat.le_refl _) (But.put _ _)
                have q4 : Hid ((rs.take (k + 1)).all hasB = true) := by show _ = _; rw [take_snoc _ _ _ HRK.out, List.all_append, hall.out]; simp [hasB, HPB.out]
                exact ⟨⟨k + 1, c3, A3, by omega, by go_num, q4, q1, q2, q3⟩, by simp [intOf]; omega⟩
      · obtain rfl : k = m := by omega
        have HB := Lib.hid hb
        have HO := Lib.hid hown
        have HF := Lib.hid hfr
        have hz := HZ2.out.fresh hfr
        have HZ := Lib.hid hz
        clear hb hown hfr hz hbl
        go_wp2_with (first
          | ((with_reducible refine at_slot_ 61 ?_); refine wpList_load_blk rfl tName _ rfl g 0 2 tName [.slice A2 k c2, .bool false] rfl HB.out (by simp) _ Tryz.underlying53 rfl (by kernel_rfl) ?_)
          | ((with_reducible refine at_store_ 2 61 ?_); refine wpList_store_blk rfl _ _ _ rfl w.heap.size 0 tName _ [.slice A2 k c2, .bool false] rfl rfl HZ.out (by simp) (by intro v hv; simp at hv; rcases hv with rfl | rfl <;> rfl) (by kernel_rfl) ?_; intro w5 hb3 hbut2))
        have hb4 : w5.heap[w.heap.size]? = some (.cells #[.slice A2 k c2, .bool false] tName (0, 0)) := hb3
        refine bodyPost_ret (results_cell_row (p := 2) (by kernel_rfl) _ _ w.heap.size tName #[.slice A2 k c2, .bool false] (0, 0) _ rfl hb4 Tryz.underlying53 rfl (by kernel_rfl)) rfl ?_
        have hob := HO.out.but hbut2 (Own.ne_block HO.out HZ.out (by decide))
        have hal := hall.out
        rw [List.take_of_length_le (Nat.le_of_eq HML.out.symm)] at hob hal
        have hff2 : Fresh w w5 := Fresh.but (Fresh.trans HFF.out HF.out) (Nat.le_refl _) hbut2
        have hb9 : encB rs u = rs.map bR9 := by rw [encB, if_pos ⟨HU.out, hal⟩]
        have he9 : encT rs u = false := by rw [encT, HU.out, hal]; rfl
        have hfin : NameIs (encB rs u) (encT rs u) w (.returned (.agg #[.slice A2 k c2, .bool false])) w5 := by
          rw [hb9, he9]
          exact ⟨A2, k, c2, rfl, by rw [List.length_map]; exact HML.out, hff2, hob.rd, hob.cap.1, hob.cap.2⟩
        exact hfin
  · have HU := Lib.hid hu
    clear hu
    have hb : encB rs u = bs := by rw [encB, if_neg (fun h => HU.out.1 h.1), HT.out]
    have he : encT rs u = true := by rw [encT, decide_eq_false HU.out.1]; rfl
    rw [hb, he]
    clear hb he
    go_enter Tryz.func21, Tryz.ntmps21
    go_wp2_with (first
      | (go_at_call 46; (refine (HRD.out _ HR1.out (by simp; omega) hn hc HCM.out).mono ?_); rintro e w1 ⟨LA, m, lc, rfl, hf1, hm1, hrest⟩; (rw [decide_eq_false HU.out.1]); have HFR := Lib.hid hf1; have hbz := (HB1.out.fresh hf1).alloc (.cells #[.slice LA m lc, .bool false] tRunes); have HBZ := Lib.hid hbz; have k1 := (Bk.made w1 tRunes #[.slice LA m lc, .bool false]).cell (i := 1) rfl; clear hf1 hbz hrest)
      | ((with_reducible refine at_store_ 2 15 ?_); refine wpList_store_blk rfl _ _ _ rfl w.heap.size 0 tName _ [.slice A n c, .bool true] rfl rfl HBZ.out (by simp) (by intro v hv; simp at hv; rcases hv with rfl | rfl <;> rfl) (by kernel_rfl) ?_; intro w2 hb3 hbut2))
    have hb4 : w2.heap[w.heap.size]? = some (.cells #[.slice A n c, .bool true] tName (0, 0)) := hb3
    refine bodyPost_ret (results_cell_row (p := 2) (by kernel_rfl) _ _ w.heap.size tName #[.slice A n c, .bool true] (0, 0) _ rfl hb4 Tryz.underlying53 rfl (by kernel_rfl)) rfl ?_
    have hff : Fresh w w2 := Fresh.but ((Fresh.trans HF1.out HFR.out).trans (Fresh.alloc _ _)) (Nat.le_refl _) hbut2
    have hfin : NameIs bs true w (.returned (.agg #[.slice A n c, .bool true])) w2 := ⟨A, n, c, rfl, HL.out.symm, hff, Rd.far HR.out hB hff, hc, HCM.out⟩
    exact hfin
end Go.Proofs.YtmnegmebkmihhaaGreatDoor.namp
/-
  Layer 9's reference: May. My own text.
-/
namespace Go.Proofs.YtmnegmebkmihhaaGreatDoor.namp
open Go.RowKit Go.Proofs.YtmnegmebkmihhaaGreatDoor.base Go.Proofs.YtmnegmebkmihhaaGreatDoor.nam
set_option linter.unusedVariables false

set_option maxHeartbeats 4000000 in
set_option maxRecDepth 100000 in
theorem refMay_any (A : Option Addr) (n c : Nat) (bs : List UInt8) (rs : List Nat) (u : List UInt8) (ht : bs = tx rs ++ u) (hrn : ∀ r ∈ rs, Rn r) (hu : u = [] ∨ Bad u) (w : World) (B : Nat) (hr : Rd w B A n (bs.map bv)) (hB : B ≤ w.heap.size) (hn : n ≤ 4294967296) (hc : n ≤ c) (hcm : c ≤ maxLen) :
    Calls Tryz.prog 29 #[.slice A n c] w fun e w' => e = .returned (.bool (mayP rs u)) ∧ Fresh w w' := by
  have hl : bs.length = n := by have := hr.1; rwa [List.length_map] at this
  have hrd := read_any A n c bs rs u ht hrn hu w B hr hB hn hc hcm
  have hlen : (tx rs ++ u).length = n := by rw [← ht, hl]
  have HT := Lib.hid ht
  have HL := Lib.hid hl
  have HRD := Lib.hid hrd
  by_cases h1 : n < 1
  · have hp : mayP rs u = false := by rw [mayP, hlen, decide_eq_false (by omega)]; rfl
    rw [hp]
    have t1 : decide ((n : Int) < 1) = true := by rw [decide_eq_true_iff]; omega
    clear hrd ht hrn hu hr hlen hp h1 hl
    go_enter Tryz.func29, Tryz.ntmps29
    go_wp2_with (go_at_call 46; (refine HRD.out.mono ?_); rintro e w1 ⟨LA, m, lc, rfl, hf1, hm1, hrest⟩)
    go_ret
    exact ⟨rfl, hf1.trans (Fresh.alloc _ _)⟩
  by_cases h2 : 40 < n
  · have hp : mayP rs u = false := by rw [mayP, hlen, decide_eq_false (p := n ≤ 40) (by omega)]; simp
    rw [hp]
    have t1 : decide ((n : Int) < 1) = false := by rw [decide_eq_false_iff_not]; omega
    have t2 : decide ((n : Int) > 40) = true := by rw [decide_eq_true_iff]; omega
    have t3 : decide (40 < (n : Int)) = true := by rw [decide_eq_true_iff]; omega
    clear hrd ht hrn hu hr hlen hp h1 h2 hl
    go_enter Tryz.func29, Tryz.ntmps29
    go_wp2_with (go_at_call 46; (refine HRD.out.mono ?_); rintro e w1 ⟨LA, m, lc, rfl, hf1, hm1, hrest⟩)
    go_ret
    exact ⟨rfl, hf1.trans (Fresh.alloc _ _)⟩
  have t1 : decide ((n : Int) < 1) = false := by rw [decide_eq_false_iff_not]; omega
  have t2 : decide ((n : Int) > 40) = false := by rw [decide_eq_false_iff_not]; omega
  have t3 : decide (40 < (n : Int)) = false := by rw [decide_eq_false_iff_not]; omega
  rcases hu with hu | hub
  · have hp : mayP rs u = rs.all fun r => decide (32 ≤ r) && decide (r ≠ 127) := by
      rw [mayP, hlen, decide_eq_true (p := 1 ≤ n) (by omega), decide_eq_true (p := n ≤ 40) (by omega), decide_eq_true hu]; rfl
    rw [hp]
    have HU := Lib.hid hu
    have HRN := Lib.hid hrn
    have hmn : rs.length ≤ n := by
      have h1 := tx_le rs
      rw [List.length_append] at hlen
      omega
    clear hrd ht hrn hu hr hlen hp h1 h2 hl
    go_enter Tryz.func29, Tryz.ntmps29
    go_wp2_with (go_at_call 46; (refine HRD.out.mono ?_); rintro e w1 ⟨LA, m, lc, rfl, hf1, hm1, hrest⟩; (rw [decide_eq_true HU.out]); have hbl := Bk.made w1 tRunes #[.slice LA m lc, .bool true]; have k1 := hbl.cell (i := 1) rfl; have HBL := Lib.hid hbl; have HF1 := Lib.hid hf1; have HREST := Lib.hid (hrest HU.out); clear hf1 hrest hbl)
    have hml : m = rs.length := HREST.out.1
    have hll : Rd (w1.alloc (.cells #[.slice LA m lc, .bool true] tRunes)) w1.heap.size LA m (rv rs) := HREST.out.2.below (Fresh.alloc w1 (.cells #[.slice LA m lc, .bool true] tRunes)) (Nat.le_refl _)
    have hff : Fresh w (w1.alloc (.cells #[.slice LA m lc, .bool true] tRunes)) := HF1.out.trans (Fresh.alloc _ _)
    have HLL := Lib.hid hll
    have HFF := Lib.hid hff
    have HML := Lib.hid hml
    have hmb : m ≤ n := by omega
    obtain ⟨W, hW⟩ : ∃ W, w1.alloc (.cells #[.slice LA m lc, .bool true] tRunes) = W := ⟨_, rfl⟩
    rw [hW] at HLL HFF HBL k1
    have hW2 : w1.alloc (.cells #[.slice LA m lc, .bool true] tRunes) = W := hW
    clear hll hff hml hW
    rw [hW2]
    clear hW2
    have k0 := HBL.out.cell (i := 0) rfl
    go_loopw [4] (fun v wr => ∃ k : Nat, k ≤ m ∧ v = .int .i64 k ∧ Hid (((rs.take k).all fun r => decide (32 ≤ r) && decide (r ≠ 127)) = true) ∧ wr = W) (fun v _ => m - (intOf v).toNat)
    case atStart => exact ⟨0, Nat.zero_le _, rfl, rfl, rfl⟩
    case round =>
      obtain ⟨k, hk, rfl, hall, rfl⟩ := hrel
      by_cases hlt : k < m
      · obtain ⟨lb, lo, r, hLA, hlbB, hr, hcr⟩ := HLL.out.at_ (enc := fun x : Nat => iv (x : Int)) hlt
        subst hLA
        have HR := Lib.hid hr
        have hsplit : rs = rs.take k ++ r :: rs.drop (k + 1) := by
          have h1 := List.take_append_drop k rs
          obtain ⟨hl2, hg⟩ := List.getElem?_eq_some_iff.1 hr
          rw [List.drop_eq_getElem_cons hl2, hg] at h1
          exact h1.symm
        have HSP := Lib.hid hsplit
        clear hr hsplit
        by_cases b1 : r < 32
        · have c1 : decide ((r : Int) < 32) = true := by rw [decide_eq_true_iff]; omega
          have HB := Lib.hid b1
          clear b1
          go_wp2
          go_ret
          have hz : (rs.all fun r => decide (32 ≤ r) && decide (r ≠ 127)) = false := by
            rw [HSP.out, List.all_append, List.all_cons, decide_eq_false (p := 32 ≤ r) (by have := HB.out; omega)]; simp
          rw [hz]
          exact ⟨rfl, HFF.out⟩
        have c1 : decide ((r : Int) < 32) = false := by rw [decide_eq_false_iff_not]; omega
        by_cases b2 : r = 127
        · have c2 : ((r : Int) == 127) = true := by rw [beq_iff_eq]; omega
          have HB := Lib.hid b2
          clear b1 b2
          go_wp2
          go_ret
          have hz : (rs.all fun r => decide (32 ≤ r) && decide (r ≠ 127)) = false := by
            rw [HSP.out, List.all_append, List.all_cons, decide_eq_false (p := r ≠ 127) (fun h => h HB.out)]; simp
          rw [hz]
          exact ⟨rfl, HFF.out⟩
        · have c2 : ((r : Int) == 127) = false := by rw [beq_eq_false_iff_ne]; omega
          have HB1 := Lib.hid b1
          have HB2 := Lib.hid b2
          clear b1 b2
          go_wp2
          go_roundw
          case rel => exact ⟨k + 1, by omega, by go_num, by show _ = _; rw [take_snoc _ _ _ HR.out, List.all_append, hall.out, List.all_cons, List.all_nil, decide_eq_true (p := 32 ≤ r) (by have := HB1.out; omega), decide_eq_true (p := r ≠ 127) HB2.out]; rfl, trivial⟩
          case measure => simp [intOf]; omega
      · obtain rfl : k = m := by omega
        go_wp2
        go_ret
        have hal := hall.out
        rw [List.take_of_length_le (Nat.le_of_eq HML.out.symm)] at hal
        rw [hal]
        exact ⟨rfl, HFF.out⟩
  · have hp : mayP rs u = false := by rw [mayP, decide_eq_false (p := u = []) hub.1]; simp
    rw [hp]
    have HU := Lib.hid hub
    clear hrd ht hrn hub hr hlen hp h1 h2 hl
    go_enter Tryz.func29, Tryz.ntmps29
    go_wp2_with (go_at_call 46; (refine HRD.out.mono ?_); rintro e w1 ⟨LA, m, lc, rfl, hf1, hm1, hrest⟩; (rw [decide_eq_false HU.out.1]); have k1 := (Bk.made w1 tRunes #[.slice LA m lc, .bool false]).cell (i := 1) rfl)
    go_ret
    exact ⟨rfl, hf1.trans (Fresh.alloc _ _)⟩
end Go.Proofs.YtmnegmebkmihhaaGreatDoor.namp
/-
  What the laws of layer 9 share: wakes, Same, the conversions that are guarded. My own text.
-/
namespace Go.Proofs.YtmnegmebkmihhaaGreatDoor.namp
open Go.RowKit Go.Proofs.YtmnegmebkmihhaaGreatDoor.base Go.Proofs.YtmnegmebkmihhaaGreatDoor.nam
set_option linter.unusedVariables false

theorem same9 (A D : Option Addr) (n c d : Nat) (xs : List UInt8) (w : World) (B B' : Nat) (ha : Rd w B A n (xs.map bv)) (hd : Rd w B' D n (xs.map bv)) (hn : n ≤ maxLen) :
    Calls Tryz.prog 15 #[.slice A n c, .slice D n d] w fun e w' => e = .returned (.bool true) ∧ Fresh w w' := by
  unfold maxLen at hn
  go_enter Tryz.func15, Tryz.ntmps15
  go_wp2
  go_loopw [5] (fun i wr => ∃ (k q : Nat), k ≤ n ∧ i = .int .i64 k ∧ wr = w.drewN q) (fun i _ => n - (intOf i).toNat)
  case atStart => exact ⟨0, 0, by omega, rfl, rfl⟩
  case round =>
    obtain ⟨k, q, hk, rfl, rfl⟩ := hrel
    by_cases hlt : k < n
    · obtain ⟨b, off, x, rfl, hb, hx, hcx⟩ := ha.at_ hlt
      obtain ⟨b', off', x', rfl, hb', hx', hcx'⟩ := hd.at_ hlt
      have e : x = x' := by rw [hx] at hx'; injection hx'
      subst e
      clear hx hx' ha hd
      go_wp2
      go_quiet (fail)
      go_wp2
      go_roundw
      case rel => exact ⟨k + 1, _, by omega, by go_num, rfl⟩
      case measure => simp [intOf]; omega
    · go_wp2
      go_ret
      exact ⟨rfl, Fresh.drewN _ _⟩
theorem same_of (A D : Option Addr) (n m c d : Nat) (xs : List UInt8) (w : World) (B B' : Nat) (ha : Rd w B A n (xs.map bv)) (hd : Rd w B' D m (xs.map bv)) (hn : n ≤ maxLen) :
    Calls Tryz.prog 15 #[.slice A n c, .slice D m d] w fun e w' => e = .returned (.bool true) ∧ Fresh w w' := by
  have h1 := ha.1
  have h2 := hd.1
  have e : n = m := by rw [← h1, ← h2]
  subst e
  exact same9 A D n c d xs w B B' ha hd hn

theorem page_233 : pageB 233 = some 130 := by decide +kernel
section
variable {P : Program} {w : World} {ops : Array Oper} {rest : List Oper} {o : Oper} {a : Act} {Q : Exit → Act → World → Prop}
/-- []byte(text), guarded, where the guard holds -/
theorem wpList_bytes_of_if (hgd : Region.wanted o (yielded ops a.tmps) = true) (src dst e : TypeId) (x : Operand) (ho : o.op = .convert src dst x) (hs : P.underlying src = some .string) (hd : P.underlying dst = some (.slice e)) (he : P.underlying e = some (.int .u8))
    (s : ByteArray) (hx : a.eval x = .string s) (l : List UInt8) (hl : s.data.toList = l) (n : Nat) (hn : l.length = n) (hm : n ≤ maxLen)
    (h : ∀ A c w', Fresh w w' → Rd w' w'.heap.size A n (l.map bv) → n ≤ c → c ≤ maxLen → wpList P ops Q rest (a.put o.dst (.slice A n c)) w') : wpList P ops Q (o :: rest) a w := by
  have key := wpList_bytes_of (P := P) (w := w) (ops := ops) (rest := rest) (o := { o with guard := none }) (a := a) (Q := Q) rfl src dst e x ho hs hd he s hx l hl n hn hm h
  refine wpList_step fun K hK => ?_
  rw [if_pos hgd]
  have hsz : s.size = n := by rw [← hn, ← hl]; exact (Array.length_toList (xs := s.data)).symm
  have hrun := run_bytes_of_string (P := P) w src dst e s hs hd he
  rw [hsz] at hrun
  unfold Oper.wp execOp
  simp only [ho, hx, Sem.run_bind, hrun, Result.andThen_ok]
  have hf : Fresh w (w.drew.alloc (.cells (bytesRow s (grownCap w n 0 e)) e ((bytesRow s (grownCap w n 0 e)).size, (bytesRow s (grownCap w n 0 e)).size + 1))) := (Fresh.drew w).trans (Fresh.alloc _ _)
  refine hK _ _ (h _ _ _ hf ⟨by rw [List.length_map, hn], fun hpos => ⟨w.heap.size, 0, rfl, by simp, fun j u hu => ?_⟩⟩ ?_ ?_)
  · rw [Nat.zero_add]
    have hj : j < s.data.size := by
      have := (List.getElem?_eq_some_iff.1 hu).1
      rw [List.length_map] at this
      rw [← hl] at this
      rwa [Array.length_toList] at this
    have hcell := cell_of_row (w.drew.alloc (.cells (bytesRow s (grownCap w n 0 e)) e ((bytesRow s (grownCap w n 0 e)).size, (bytesRow s (grownCap w n 0 e)).size + 1))) w.heap.size j _ e _ (heap_alloc_new w.drew _)
    rw [hcell, bytesRow_at s _ j hj, ← hu, ← hl, List.getElem?_map, List.getElem?_eq_getElem (by simpa using hj)]
    simp
  · exact grownCap_ge w n 0 e
  · exact grownCap_le_maxLen w n 0 e hm
/-- []rune(text), guarded, where the guard holds: how many they are -/
theorem wpList_runes_if (hgd : Region.wanted o (yielded ops a.tmps) = true) (src dst e : TypeId) (x : Operand) (ho : o.op = .convert src dst x) (hs : P.underlying src = some .string) (hd : P.underlying dst = some (.slice e)) (he : P.underlying e = some (.int .i32))
    (s : ByteArray) (hx : a.eval x = .string s) (n : Nat) (hn : (Conv.runesFrom s s.size 0 #[]).size = n) (hm : n ≤ 70368744177664)
    (h : ∀ A c w', Fresh w w' → wpList P ops Q rest (a.put o.dst (.slice A n c)) w') : wpList P ops Q (o :: rest) a w := by
  refine wpList_step fun K hK => ?_
  rw [if_pos hgd]
  have hrun := run_runes_of_string (P := P) w src dst e s hs hd he (by omega)
  rw [hn] at hrun
  unfold Oper.wp execOp
  simp only [ho, hx, Sem.run_bind, hrun, Result.andThen_ok]
  exact hK _ _ (h _ _ _ ((Fresh.drew w).trans (Fresh.alloc _ _)))
end
theorem runes_from (s : ByteArray) : ∀ (rest done : List Nat) (bound : Nat) (acc : Array Value), s.data.toList = tx (done ++ rest) → (∀ r ∈ rest, Rn r) → rest.length ≤ bound → (Conv.runesFrom s bound (tx done).length acc).size = acc.size + rest.length
  | [], done, bound, acc, hs, hr, hb => by
    have hend := decode_end (s := s) (done := done) (by rw [hs, List.append_nil])
    cases bound with
    | zero => rfl
    | succ k => rw [Conv.runesFrom, if_neg hend]; rfl
  | r :: rest, done, 0, acc, hs, hr, hb => by simp at hb
  | r :: rest, done, k + 1, acc, hs, hr, hb => by
    have hd := decode_rune (u := []) (s := s) (done := done) (rest := rest) (r := r) (by rw [hs, List.append_nil]) (hr r (.head _))
    rw [Conv.runesFrom, if_pos hd.2.1, hd.1]
    simp only
    rw [hd.2.2, runes_from s rest (done ++ [r]) k _ (by rw [hs]; simp) (fun x hx => hr x (.tail _ hx)) (by simp at hb; omega)]
    simp
    omega
theorem runes_count (s : ByteArray) (rs : List Nat) (hs : s.data.toList = tx rs) (hr : ∀ r ∈ rs, Rn r) : (Conv.runesFrom s s.size 0 #[]).size = rs.length := by
  have h := runes_from s rs [] s.size #[] (by rw [hs]; rfl) hr (by
    have h1 := tx_le rs
    have h2 : s.size = s.data.toList.length := (Array.length_toList (xs := s.data)).symm
    rw [h2, hs]
    exact h1)
  simpa using h
/-- the program and the reference decode alike -/
theorem both_any (told : Bool) (bs : List UInt8) (hn : bs.length ≤ 4294967296) : ∃ (L : List UInt8) (is : Bool), (is = false → L = []) ∧ L.length ≤ 17179869184 ∧
    (∀ W A n c B, Rd W B A n (bs.map bv) → B ≤ W.heap.size → Laid W → Calls Tryz.prog 71 #[.slice A n c, .bool told] W fun e w' => e = .returned (.tuple #[.string ⟨L.toArray⟩, .bool is]) ∧ Fresh W w') ∧
    (∀ W A n c B, Rd W B A n (bs.map bv) → B ≤ W.heap.size → n ≤ c → c ≤ maxLen → Calls Tryz.prog 80 #[.slice A n c, .bool told] W (NameIs L is W)) := by
  have hlen : ∀ {W B A n}, Rd W B A n (bs.map bv) → n ≤ 4294967296 := fun h => by have := h.1; rw [List.length_map] at this; omega
  cases told with
  | false =>
    refine ⟨tx (pgs bs), true, fun h => Bool.noConfusion h, Nat.le_trans (tx_len _) (by rw [List.length_map]; omega), fun W A n c B hr hB hU => ?_, fun W A n c B hr hB hc hcm => refDecode_page A n c bs W B hr hB (hlen hr)⟩
    exact decode_any A n c bs false W B hr hB (hlen hr) hU
  | true =>
    obtain ⟨rs, u, hrn, ht, hu⟩ := read_or bs
    refine ⟨if u = [] then bs else [], decide (u = []), fun h => by rw [if_neg (by simpa using h)], (by split; exact Nat.le_trans hn (by omega); exact Nat.zero_le _), fun W A n c B hr hB hU => ?_, fun W A n c B hr hB hc hcm => refDecode_told A n c bs rs u ht hrn hu W B hr hB (hlen hr) hc hcm⟩
    have hd := decode_any A n c bs true W B hr hB (hlen hr) hU
    rcases hu with hu | hu
    · have hv : Lib.validD bs = true := by rw [ht, hu, List.append_nil]; exact valid_good rs hrn
      have e1 : decP true bs = .tuple #[.string ⟨bs.toArray⟩, .bool true] := by rw [decP, if_pos rfl, if_pos hv]
      rw [e1] at hd
      rw [if_pos hu, decide_eq_true hu]
      exact hd
    · have hv : Lib.validD bs = false := by rw [ht]; exact valid_bad rs u hrn hu
      have e1 : decP true bs = .tuple #[.string ⟨#[]⟩, .bool false] := by rw [decP, if_pos rfl, if_neg (by rw [hv]; simp)]
      rw [e1] at hd
      rw [if_neg hu.1, decide_eq_false hu.1]
      exact hd
end Go.Proofs.YtmnegmebkmihhaaGreatDoor.namp
