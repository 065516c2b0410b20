/-
  Layer 9's reference: utf, Page, next. My own text.
-/
import Derived.Test.YtaldbcfgfcdlhaaDoorNamNum
import Derived.Test.YtaldbcfgfcdlhaaDoorStore
import Derived.Test.YtaldbcfgfcdlhaaDoorChecked
namespace Go.Proofs.YtaldbcfgfcdlhaaDoor.namp
open Go.RowKit Go.Proofs.YtaldbcfgfcdlhaaDoor.base Go.Proofs.YtaldbcfgfcdlhaaDoor.nam
set_option linter.unusedVariables false

theorem own_lit (w : World) (e : TypeId) (cs : Array Value) (n : Nat) (hn : cs.size = n) (hm : n ≤ maxLen) (xs : List Value) (hx : cs.toList = xs) : Own (w.alloc (.cells cs e)) w.heap.size e (some ⟨w.heap.size, 0, none⟩) n n xs := by
  subst hx
  exact World.ownsRow_lit w cs n (Nat.le_refl _) hm (by omega)
theorem w8 (z : Int) (n : Nat) (h : z = (n : Int)) (hn : n < 256) : IntKind.u8.wrap z = (n : Int) := by subst h; simp [IntKind.wrap, IntKind.signed, IntKind.bits]; omega
theorem bvN (n : Nat) (h : n < 256) : Value.int .u8 (n : Int) = bv (UInt8.ofNat n) := by rw [bv, nat_u8 n h]
set_option maxHeartbeats 1000000 in
theorem utf_any (r : Nat) (hr : r < 2097152) (w : World) :
    Calls Tryd.prog 19 #[.int .i64 (r : Nat)] w fun e w' => ∃ A c, e = .returned (.slice A (wid r) c) ∧ Fresh w w' ∧ Own w' w.heap.size 5 A (wid r) c ((en r).map bv) := by
  obtain ⟨z, hz⟩ : ∃ z : Int, (r : Int) = z := ⟨_, rfl⟩
  rw [hz]
  have hz0 : 0 ≤ z := by omega
  have q1 : z.tdiv 64 = z / 64 := Int.tdiv_eq_ediv_of_nonneg hz0
  have q2 : z.tmod 64 = z % 64 := Int.tmod_eq_emod_of_nonneg hz0
  have q3 : z.tdiv 4096 = z / 4096 := Int.tdiv_eq_ediv_of_nonneg hz0
  have q4 : z.tdiv 262144 = z / 262144 := Int.tdiv_eq_ediv_of_nonneg hz0
  have q5 : (z / 64).tmod 64 = z / 64 % 64 := Int.tmod_eq_emod_of_nonneg (by omega)
  have q6 : (z / 4096).tmod 64 = z / 4096 % 64 := Int.tmod_eq_emod_of_nonneg (by omega)
  by_cases h1 : r < 128
  · have t1 : decide (z < 128) = true := by rw [decide_eq_true_iff]; omega
    have e1 : IntKind.u8.wrap z = z := by rw [w8 z r hz.symm (by omega)]; exact hz
    have hw : wid r = 1 := by rw [wid, if_pos h1]
    have he : (en r).map bv = [.int .u8 z] := by rw [en, if_pos h1, ← hz]; simp only [List.map_cons, List.map_nil]; rw [bvN r (by omega)]
    have b1 : z ≤ 2097152 := by omega
    rw [hw, he]
    clear hr hz h1 he hw
    go_enter Tryd.func19, Tryd.ntmps19
    go_wp2
    go_ret
    exact ⟨_, _, rfl, Fresh.alloc _ _, own_lit w 5 #[.int .u8 z] 1 rfl (by unfold maxLen; omega) _ rfl⟩
  have t1 : decide (z < 128) = false := by rw [decide_eq_false_iff_not]; omega
  by_cases h2 : r < 2048
  · have t2 : decide (z < 2048) = true := by rw [decide_eq_true_iff]; omega
    have e1 : IntKind.u8.wrap (192 + z / 64) = 192 + z / 64 := by rw [w8 _ (192 + r / 64) (by omega) (by omega)]; omega
    have e2 : IntKind.u8.wrap (128 + z % 64) = 128 + z % 64 := by rw [w8 _ (128 + r % 64) (by omega) (by omega)]; omega
    have hw : wid r = 2 := by rw [wid, if_neg h1, if_pos h2]
    have he : (en r).map bv = [.int .u8 (192 + z / 64), .int .u8 (128 + z % 64)] := by
      rw [en, if_neg h1, if_pos h2]
      simp only [List.map_cons, List.map_nil]
      rw [← bvN _ (show 192 + r / 64 < 256 by omega), ← bvN _ (show 128 + r % 64 < 256 by omega), show ((192 + r / 64 : Nat) : Int) = 192 + z / 64 by omega, show ((128 + r % 64 : Nat) : Int) = 128 + z % 64 by omega]
    have b1 : z ≤ 2097152 := by omega
    rw [hw, he]
    clear hr hz h1 h2 he hw
    go_enter Tryd.func19, Tryd.ntmps19
    go_wp2
    go_ret
    exact ⟨_, _, rfl, Fresh.alloc _ _, own_lit w 5 #[.int .u8 (192 + z / 64), .int .u8 (128 + z % 64)] 2 rfl (by unfold maxLen; omega) _ rfl⟩
  have t2 : decide (z < 2048) = false := by rw [decide_eq_false_iff_not]; omega
  by_cases h3 : r < 65536
  · have t3 : decide (z < 65536) = true := by rw [decide_eq_true_iff]; omega
    have e1 : IntKind.u8.wrap (224 + z / 4096) = 224 + z / 4096 := by rw [w8 _ (224 + r / 4096) (by omega) (by omega)]; omega
    have e2 : IntKind.u8.wrap (128 + z / 64 % 64) = 128 + z / 64 % 64 := by rw [w8 _ (128 + r / 64 % 64) (by omega) (by omega)]; omega
    have e3 : IntKind.u8.wrap (128 + z % 64) = 128 + z % 64 := by rw [w8 _ (128 + r % 64) (by omega) (by omega)]; omega
    have hw : wid r = 3 := by rw [wid, if_neg h1, if_neg h2, if_pos h3]
    have he : (en r).map bv = [.int .u8 (224 + z / 4096), .int .u8 (128 + z / 64 % 64), .int .u8 (128 + z % 64)] := by
      rw [en, if_neg h1, if_neg h2, if_pos h3]
      simp only [List.map_cons, List.map_nil]
      rw [← bvN _ (show 224 + r / 4096 < 256 by omega), ← bvN _ (show 128 + r / 64 % 64 < 256 by omega), ← bvN _ (show 128 + r % 64 < 256 by omega), show ((224 + r / 4096 : Nat) : Int) = 224 + z / 4096 by omega, show ((128 + r / 64 % 64 : Nat) : Int) = 128 + z / 64 % 64 by omega, show ((128 + r % 64 : Nat) : Int) = 128 + z % 64 by omega]
    have b1 : z ≤ 2097152 := by omega
    rw [hw, he]
    clear hr hz h1 h2 h3 he hw
    go_enter Tryd.func19, Tryd.ntmps19
    go_wp2
    go_ret
    exact ⟨_, _, rfl, Fresh.alloc _ _, own_lit w 5 #[.int .u8 (224 + z / 4096), .int .u8 (128 + z / 64 % 64), .int .u8 (128 + z % 64)] 3 rfl (by unfold maxLen; omega) _ rfl⟩
  have t3 : decide (z < 65536) = false := by rw [decide_eq_false_iff_not]; omega
  · have e1 : IntKind.u8.wrap (240 + z / 262144) = 240 + z / 262144 := by rw [w8 _ (240 + r / 262144) (by omega) (by omega)]; omega
    have e2 : IntKind.u8.wrap (128 + z / 4096 % 64) = 128 + z / 4096 % 64 := by rw [w8 _ (128 + r / 4096 % 64) (by omega) (by omega)]; omega
    have e3 : IntKind.u8.wrap (128 + z / 64 % 64) = 128 + z / 64 % 64 := by rw [w8 _ (128 + r / 64 % 64) (by omega) (by omega)]; omega
    have e4 : IntKind.u8.wrap (128 + z % 64) = 128 + z % 64 := by rw [w8 _ (128 + r % 64) (by omega) (by omega)]; omega
    have hw : wid r = 4 := by rw [wid, if_neg h1, if_neg h2, if_neg h3]
    have he : (en r).map bv = [.int .u8 (240 + z / 262144), .int .u8 (128 + z / 4096 % 64), .int .u8 (128 + z / 64 % 64), .int .u8 (128 + z % 64)] := by
      rw [en, if_neg h1, if_neg h2, if_neg h3]
      simp only [List.map_cons, List.map_nil]
      rw [← bvN _ (show 240 + r / 262144 < 256 by omega), ← bvN _ (show 128 + r / 4096 % 64 < 256 by omega), ← bvN _ (show 128 + r / 64 % 64 < 256 by omega), ← bvN _ (show 128 + r % 64 < 256 by omega), show ((240 + r / 262144 : Nat) : Int) = 240 + z / 262144 by omega, show ((128 + r / 4096 % 64 : Nat) : Int) = 128 + z / 4096 % 64 by omega, show ((128 + r / 64 % 64 : Nat) : Int) = 128 + z / 64 % 64 by omega, show ((128 + r % 64 : Nat) : Int) = 128 + z % 64 by omega]
    have b1 : z ≤ 2097152 := by omega
    rw [hw, he]
    clear hr hz h1 h2 h3 he hw
    go_enter Tryd.func19, Tryd.ntmps19
    go_wp2
    go_ret
    exact ⟨_, _, rfl, Fresh.alloc _ _, own_lit w 5 #[.int .u8 (240 + z / 262144), .int .u8 (128 + z / 4096 % 64), .int .u8 (128 + z / 64 % 64), .int .u8 (128 + z % 64)] 4 rfl (by unfold maxLen; omega) _ rfl⟩

theorem info_int : (Tryd.prog.info? 3).map (fun i => (i.zero, i.size, i.bytes)) = some (some (.int .i64 0), 1, 8) := by kernel_rfl
/-- the page, as ints -/
def pageV : List Value := upperL.map fun r : Nat => iv r
theorem ivs_one (l : List Int) (xs : List Value) (hx : l.map (Value.int .i64) = xs) : ∀ u ∈ xs, u.oneCell' = true := by
  subst hx
  intro u hu
  obtain ⟨x, _, rfl⟩ := List.mem_map.1 hu
  rfl
theorem rd_lit (w : World) (cs : Array Value) (e : TypeId) (n : Nat) (hn : cs.size = n) (xs : List Value) (hx : cs.toList = xs) : Rd (w.alloc (.cells cs e)) (w.heap.size + 1) (some ⟨w.heap.size, 0, none⟩) n xs := by
  subst hn
  subst hx
  exact Rd.lit w cs e
set_option maxHeartbeats 4000000 in
set_option maxRecDepth 100000 in
theorem page_any (w : World) : Calls Tryd.prog 18 #[] w fun e w' => ∃ A c, e = .returned (.slice A 128 c) ∧ Fresh w w' ∧ Own w' w.heap.size 3 A 128 c pageV := by
  obtain ⟨i0, hi0, hz0, hz1, hz2⟩ := info_parts info_int
  have hf0 := Fresh.refl w
  have ho0 := Own.nil w w.heap.size 3
  go_enter Tryd.func18, Tryd.ntmps18
  go_wp2_with (first
    | ((with_reducible refine at_slot_ 4 ?_); refine wpList_append_rd _ rfl _ _ 36 rfl w.heap.size 3 i0 _ 8 Tryd.underlying36 hi0 hz0 hz1 hz2 rfl none 0 0 _ rfl (Own.fresh ho0 (Fresh.alloc _ _)) (w.heap.size + 1) (some ⟨w.heap.size, 0, none⟩) 16 16 [.int .i64 199, .int .i64 252, .int .i64 233, .int .i64 226, .int .i64 228, .int .i64 224, .int .i64 229, .int .i64 231, .int .i64 234, .int .i64 235, .int .i64 232, .int .i64 239, .int .i64 238, .int .i64 236, .int .i64 196, .int .i64 197] rfl (rd_lit w #[.int .i64 199, .int .i64 252, .int .i64 233, .int .i64 226, .int .i64 228, .int .i64 224, .int .i64 229, .int .i64 231, .int .i64 234, .int .i64 235, .int .i64 232, .int .i64 239, .int .i64 238, .int .i64 236, .int .i64 196, .int .i64 197] 3 16 rfl _ rfl) (ivs_one [199, 252, 233, 226, 228, 224, 229, 231, 234, 235, 232, 239, 238, 236, 196, 197] _ rfl) (by unfold maxLen; omega) (by omega) (by have := hf0.size; simp <;> omega) ?_; intro A1 c1 w1 ho1 hg1; have hf1 := (hf0.trans (Fresh.alloc _ _)).append (Own.fresh ho0 (Fresh.alloc _ _)) (Nat.le_refl _) hg1)
    | ((with_reducible refine at_slot_ 7 ?_); refine wpList_append_rd _ rfl _ _ 36 rfl w.heap.size 3 i0 _ 8 Tryd.underlying36 hi0 hz0 hz1 hz2 rfl A1 16 c1 _ rfl (Own.fresh ho1 (Fresh.alloc _ _)) (w1.heap.size + 1) (some ⟨w1.heap.size, 0, none⟩) 16 16 [.int .i64 201, .int .i64 230, .int .i64 198, .int .i64 244, .int .i64 246, .int .i64 242, .int .i64 251, .int .i64 249, .int .i64 255, .int .i64 214, .int .i64 220, .int .i64 162, .int .i64 163, .int .i64 165, .int .i64 8359, .int .i64 402] rfl (rd_lit w1 #[.int .i64 201, .int .i64 230, .int .i64 198, .int .i64 244, .int .i64 246, .int .i64 242, .int .i64 251, .int .i64 249, .int .i64 255, .int .i64 214, .int .i64 220, .int .i64 162, .int .i64 163, .int .i64 165, .int .i64 8359, .int .i64 402] 3 16 rfl _ rfl) (ivs_one [201, 230, 198, 244, 246, 242, 251, 249, 255, 214, 220, 162, 163, 165, 8359, 402] _ rfl) (by unfold maxLen; omega) (by omega) (by have := hf1.size; simp <;> omega) ?_; intro A2 c2 w2 ho2 hg2; have hf2 := (hf1.trans (Fresh.alloc _ _)).append (Own.fresh ho1 (Fresh.alloc _ _)) (Nat.le_refl _) hg2)
    | ((with_reducible refine at_slot_ 10 ?_); refine wpList_append_rd _ rfl _ _ 36 rfl w.heap.size 3 i0 _ 8 Tryd.underlying36 hi0 hz0 hz1 hz2 rfl A2 32 c2 _ rfl (Own.fresh ho2 (Fresh.alloc _ _)) (w2.heap.size + 1) (some ⟨w2.heap.size, 0, none⟩) 16 16 [.int .i64 225, .int .i64 237, .int .i64 243, .int .i64 250, .int .i64 241, .int .i64 209, .int .i64 170, .int .i64 186, .int .i64 191, .int .i64 8976, .int .i64 172, .int .i64 189, .int .i64 188, .int .i64 161, .int .i64 171, .int .i64 187] rfl (rd_lit w2 #[.int .i64 225, .int .i64 237, .int .i64 243, .int .i64 250, .int .i64 241, .int .i64 209, .int .i64 170, .int .i64 186, .int .i64 191, .int .i64 8976, .int .i64 172, .int .i64 189, .int .i64 188, .int .i64 161, .int .i64 171, .int .i64 187] 3 16 rfl _ rfl) (ivs_one [225, 237, 243, 250, 241, 209, 170, 186, 191, 8976, 172, 189, 188, 161, 171, 187] _ rfl) (by unfold maxLen; omega) (by omega) (by have := hf2.size; simp <;> omega) ?_; intro A3 c3 w3 ho3 hg3; have hf3 := (hf2.trans (Fresh.alloc _ _)).append (Own.fresh ho2 (Fresh.alloc _ _)) (Nat.le_refl _) hg3)
    | ((with_reducible refine at_slot_ 13 ?_); refine wpList_append_rd _ rfl _ _ 36 rfl w.heap.size 3 i0 _ 8 Tryd.underlying36 hi0 hz0 hz1 hz2 rfl A3 48 c3 _ rfl (Own.fresh ho3 (Fresh.alloc _ _)) (w3.heap.size + 1) (some ⟨w3.heap.size, 0, none⟩) 16 16 [.int .i64 9617, .int .i64 9618, .int .i64 9619, .int .i64 9474, .int .i64 9508, .int .i64 9569, .int .i64 9570, .int .i64 9558, .int .i64 9557, .int .i64 9571, .int .i64 9553, .int .i64 9559, .int .i64 9565, .int .i64 9564, .int .i64 9563, .int .i64 9488] rfl (rd_lit w3 #[.int .i64 9617, .int .i64 9618, .int .i64 9619, .int .i64 9474, .int .i64 9508, .int .i64 9569, .int .i64 9570, .int .i64 9558, .int .i64 9557, .int .i64 9571, .int .i64 9553, .int .i64 9559, .int .i64 9565, .int .i64 9564, .int .i64 9563, .int .i64 9488] 3 16 rfl _ rfl) (ivs_one [9617, 9618, 9619, 9474, 9508, 9569, 9570, 9558, 9557, 9571, 9553, 9559, 9565, 9564, 9563, 9488] _ rfl) (by unfold maxLen; omega) (by omega) (by have := hf3.size; simp <;> omega) ?_; intro A4 c4 w4 ho4 hg4; have hf4 := (hf3.trans (Fresh.alloc _ _)).append (Own.fresh ho3 (Fresh.alloc _ _)) (Nat.le_refl _) hg4)
    | ((with_reducible refine at_slot_ 16 ?_); refine wpList_append_rd _ rfl _ _ 36 rfl w.heap.size 3 i0 _ 8 Tryd.underlying36 hi0 hz0 hz1 hz2 rfl A4 64 c4 _ rfl (Own.fresh ho4 (Fresh.alloc _ _)) (w4.heap.size + 1) (some ⟨w4.heap.size, 0, none⟩) 16 16 [.int .i64 9492, .int .i64 9524, .int .i64 9516, .int .i64 9500, .int .i64 9472, .int .i64 9532, .int .i64 9566, .int .i64 9567, .int .i64 9562, .int .i64 9556, .int .i64 9577, .int .i64 9574, .int .i64 9568, .int .i64 9552, .int .i64 9580, .int .i64 9575] rfl (rd_lit w4 #[.int .i64 9492, .int .i64 9524, .int .i64 9516, .int .i64 9500, .int .i64 9472, .int .i64 9532, .int .i64 9566, .int .i64 9567, .int .i64 9562, .int .i64 9556, .int .i64 9577, .int .i64 9574, .int .i64 9568, .int .i64 9552, .int .i64 9580, .int .i64 9575] 3 16 rfl _ rfl) (ivs_one [9492, 9524, 9516, 9500, 9472, 9532, 9566, 9567, 9562, 9556, 9577, 9574, 9568, 9552, 9580, 9575] _ rfl) (by unfold maxLen; omega) (by omega) (by have := hf4.size; simp <;> omega) ?_; intro A5 c5 w5 ho5 hg5; have hf5 := (hf4.trans (Fresh.alloc _ _)).append (Own.fresh ho4 (Fresh.alloc _ _)) (Nat.le_refl _) hg5)
    | ((with_reducible refine at_slot_ 19 ?_); refine wpList_append_rd _ rfl _ _ 36 rfl w.heap.size 3 i0 _ 8 Tryd.underlying36 hi0 hz0 hz1 hz2 rfl A5 80 c5 _ rfl (Own.fresh ho5 (Fresh.alloc _ _)) (w5.heap.size + 1) (some ⟨w5.heap.size, 0, none⟩) 16 16 [.int .i64 9576, .int .i64 9572, .int .i64 9573, .int .i64 9561, .int .i64 9560, .int .i64 9554, .int .i64 9555, .int .i64 9579, .int .i64 9578, .int .i64 9496, .int .i64 9484, .int .i64 9608, .int .i64 9604, .int .i64 9612, .int .i64 9616, .int .i64 9600] rfl (rd_lit w5 #[.int .i64 9576, .int .i64 9572, .int .i64 9573, .int .i64 9561, .int .i64 9560, .int .i64 9554, .int .i64 9555, .int .i64 9579, .int .i64 9578, .int .i64 9496, .int .i64 9484, .int .i64 9608, .int .i64 9604, .int .i64 9612, .int .i64 9616, .int .i64 9600] 3 16 rfl _ rfl) (ivs_one [9576, 9572, 9573, 9561, 9560, 9554, 9555, 9579, 9578, 9496, 9484, 9608, 9604, 9612, 9616, 9600] _ rfl) (by unfold maxLen; omega) (by omega) (by have := hf5.size; simp <;> omega) ?_; intro A6 c6 w6 ho6 hg6; have hf6 := (hf5.trans (Fresh.alloc _ _)).append (Own.fresh ho5 (Fresh.alloc _ _)) (Nat.le_refl _) hg6)
    | ((with_reducible refine at_slot_ 22 ?_); refine wpList_append_rd _ rfl _ _ 36 rfl w.heap.size 3 i0 _ 8 Tryd.underlying36 hi0 hz0 hz1 hz2 rfl A6 96 c6 _ rfl (Own.fresh ho6 (Fresh.alloc _ _)) (w6.heap.size + 1) (some ⟨w6.heap.size, 0, none⟩) 16 16 [.int .i64 945, .int .i64 223, .int .i64 915, .int .i64 960, .int .i64 931, .int .i64 963, .int .i64 181, .int .i64 964, .int .i64 934, .int .i64 920, .int .i64 937, .int .i64 948, .int .i64 8734, .int .i64 966, .int .i64 949, .int .i64 8745] rfl (rd_lit w6 #[.int .i64 945, .int .i64 223, .int .i64 915, .int .i64 960, .int .i64 931, .int .i64 963, .int .i64 181, .int .i64 964, .int .i64 934, .int .i64 920, .int .i64 937, .int .i64 948, .int .i64 8734, .int .i64 966, .int .i64 949, .int .i64 8745] 3 16 rfl _ rfl) (ivs_one [945, 223, 915, 960, 931, 963, 181, 964, 934, 920, 937, 948, 8734, 966, 949, 8745] _ rfl) (by unfold maxLen; omega) (by omega) (by have := hf6.size; simp <;> omega) ?_; intro A7 c7 w7 ho7 hg7; have hf7 := (hf6.trans (Fresh.alloc _ _)).append (Own.fresh ho6 (Fresh.alloc _ _)) (Nat.le_refl _) hg7)
    | ((with_reducible refine at_slot_ 25 ?_); refine wpList_append_rd _ rfl _ _ 36 rfl w.heap.size 3 i0 _ 8 Tryd.underlying36 hi0 hz0 hz1 hz2 rfl A7 112 c7 _ rfl (Own.fresh ho7 (Fresh.alloc _ _)) (w7.heap.size + 1) (some ⟨w7.heap.size, 0, none⟩) 16 16 [.int .i64 8801, .int .i64 177, .int .i64 8805, .int .i64 8804, .int .i64 8992, .int .i64 8993, .int .i64 247, .int .i64 8776, .int .i64 176, .int .i64 8729, .int .i64 183, .int .i64 8730, .int .i64 8319, .int .i64 178, .int .i64 9632, .int .i64 160] rfl (rd_lit w7 #[.int .i64 8801, .int .i64 177, .int .i64 8805, .int .i64 8804, .int .i64 8992, .int .i64 8993, .int .i64 247, .int .i64 8776, .int .i64 176, .int .i64 8729, .int .i64 183, .int .i64 8730, .int .i64 8319, .int .i64 178, .int .i64 9632, .int .i64 160] 3 16 rfl _ rfl) (ivs_one [8801, 177, 8805, 8804, 8992, 8993, 247, 8776, 176, 8729, 183, 8730, 8319, 178, 9632, 160] _ rfl) (by unfold maxLen; omega) (by omega) (by have := hf7.size; simp <;> omega) ?_; intro A8 c8 w8 ho8 hg8; have hf8 := (hf7.trans (Fresh.alloc _ _)).append (Own.fresh ho7 (Fresh.alloc _ _)) (Nat.le_refl _) hg8))
  go_ret
  exact ⟨A8, c8, rfl, hf8, ho8⟩
end Go.Proofs.YtaldbcfgfcdlhaaDoor.namp
