/-
  Layer 9's reference: utf, Page, next. My own text.
-/
import Derived.Test.YtkkkjadfhimahaaDoorNamNum
import Derived.Test.YtkkkjadfhimahaaDoorStore
import Derived.Test.YtkkkjadfhimahaaDoorChecked
namespace Go.Proofs.YtkkkjadfhimahaaDoor.namp
open Go.RowKit Go.Proofs.YtkkkjadfhimahaaDoor.base Go.Proofs.YtkkkjadfhimahaaDoor.nam
set_option linter.unusedVariables false

theorem own_lit (w : World) (e : TypeId) (cs : Array Value) (n : Nat) (hn : cs.size = n) (hm : n ≤ maxLen) (xs : List Value) (hx : cs.toList = xs) : Own (w.alloc (.cells cs e)) w.heap.size e (some ⟨w.heap.size, 0, none⟩) n n xs := by
  subst hx
  exact World.ownsRow_lit w cs n (Nat.le_refl _) hm (by omega)
theorem w8 (z : Int) (n : Nat) (h : z = (n : Int)) (hn : n < 256) : IntKind.u8.wrap z = (n : Int) := by subst h; simp [IntKind.wrap, IntKind.signed, IntKind.bits]; omega
theorem bvN (n : Nat) (h : n < 256) : Value.int .u8 (n : Int) = bv (UInt8.ofNat n) := by rw [bv, nat_u8 n h]
set_option maxHeartbeats 1000000 in
theorem utf_any (r : Nat) (hr : r < 2097152) (w : World) :
    Calls Tryd.prog 26 #[.int .i64 (r : Nat)] w fun e w' => ∃ A c, e = .returned (.slice A (wid r) c) ∧ Fresh w w' ∧ Own w' w.heap.size 5 A (wid r) c ((en r).map bv) := by
  obtain ⟨z, hz⟩ : ∃ z : Int, (r : Int) = z := ⟨_, rfl⟩
  rw [hz]
  have hz0 : 0 ≤ z := by omega
  have q1 : z.tdiv 64 = z / 64 := Int.tdiv_eq_ediv_of_nonneg hz0
  have q2 : z.tmod 64 = z % 64 := Int.tmod_eq_emod_of_nonneg hz0
  have q3 : z.tdiv 4096 = z / 4096 := Int.tdiv_eq_ediv_of_nonneg hz0
  have q4 : z.tdiv 262144 = z / 262144 := Int.tdiv_eq_ediv_of_nonneg hz0
  have q5 : (z / 64).tmod 64 = z / 64 % 64 := Int.tmod_eq_emod_of_nonneg (by omega)
  have q6 : (z / 4096).tmod 64 = z / 4096 % 64 := Int.tmod_eq_emod_of_nonneg (by omega)
  by_cases h1 : r < 128
  · have t1 : decide (z < 128) = true := by rw [decide_eq_true_iff]; omega
    have e1 : IntKind.u8.wrap z = z := by rw [w8 z r hz.symm (by omega)]; exact hz
    have hw : wid r = 1 := by rw [wid, if_pos h1]
    have he : (en r).map bv = [.int .u8 z] := by rw [en, if_pos h1, ← hz]; simp only [List.map_cons, List.map_nil]; rw [bvN r (by omega)]
    have b1 : z ≤ 2097152 := by omega
    rw [hw, he]
    clear hr hz h1 he hw
    go_enter Tryd.func26, Tryd.ntmps26
    go_wp2
    go_ret
    exact ⟨_, _, rfl, Fresh.alloc _ _, own_lit w 5 #[.int .u8 z] 1 rfl (by unfold maxLen; omega) _ rfl⟩
  have t1 : decide (z < 128) = false := by rw [decide_eq_false_iff_not]; omega
  by_cases h2 : r < 2048
  · have t2 : decide (z < 2048) = true := by rw [decide_eq_true_iff]; omega
    have e1 : IntKind.u8.wrap (192 + z / 64) = 192 + z / 64 := by rw [w8 _ (192 + r / 64) (by omega) (by omega)]; omega
    have e2 : IntKind.u8.wrap (128 + z % 64) = 128 + z % 64 := by rw [w8 _ (128 + r % 64) (by omega) (by omega)]; omega
    have hw : wid r = 2 := by rw [wid, if_neg h1, if_pos h2]
    have he : (en r).map bv = [.int .u8 (192 + z / 64), .int .u8 (128 + z % 64)] := by
      rw [en, if_neg h1, if_pos h2]
      simp only [List.map_cons, List.map_nil]
      rw [← bvN _ (show 192 + r / 64 < 256 by omega), ← bvN _ (show 128 + r % 64 < 256 by omega), show ((192 + r / 64 : Nat) : Int) = 192 + z / 64 by omega, show ((128 + r % 64 : Nat) : Int) = 128 + z % 64 by omega]
    have b1 : z ≤ 2097152 := by omega
    rw [hw, he]
    clear hr hz h1 h2 he hw
    go_enter Tryd.func26, Tryd.ntmps26
    go_wp2
    go_ret
    exact ⟨_, _, rfl, Fresh.alloc _ _, own_lit w 5 #[.int .u8 (192 + z / 64), .int .u8 (128 + z % 64)] 2 rfl (by unfold maxLen; omega) _ rfl⟩
  have t2 : decide (z < 2048) = false := by rw [decide_eq_false_iff_not]; omega
  by_cases h3 : r < 65536
  · have t3 : decide (z < 65536) = true := by rw [decide_eq_true_iff]; omega
    have e1 : IntKind.u8.wrap (224 + z / 4096) = 224 + z / 4096 := by rw [w8 _ (224 + r / 4096) (by omega) (by omega)]; omega
    have e2 : IntKind.u8.wrap (128 + z / 64 % 64) = 128 + z / 64 % 64 := by rw [w8 _ (128 + r / 64 % 64) (by omega) (by omega)]; omega
    have e3 : IntKind.u8.wrap (128 + z % 64) = 128 + z % 64 := by rw [w8 _ (128 + r % 64) (by omega) (by omega)]; omega
    have hw : wid r = 3 := by rw [wid, if_neg h1, if_neg h2, if_pos h3]
    have he : (en r).map bv = [.int .u8 (224 + z / 4096), .int .u8 (128 + z / 64 % 64), .int .u8 (128 + z % 64)] := by
      rw [en, if_neg h1, if_neg h2, if_pos h3]
      simp only [List.map_cons, List.map_nil]
      rw [← bvN _ (show 224 + r / 4096 < 256 by omega), ← bvN _ (show 128 + r / 64 % 64 < 256 by omega), ← bvN _ (show 128 + r % 64 < 256 by omega), show ((224 + r / 4096 : Nat) : Int) = 224 + z / 4096 by omega, show ((128 + r / 64 % 64 : Nat) : Int) = 128 + z / 64 % 64 by omega, show ((128 + r % 64 : Nat) : Int) = 128 + z % 64 by omega]
    have b1 : z ≤ 2097152 := by omega
    rw [hw, he]
    clear hr hz h1 h2 h3 he hw
    go_enter Tryd.func26, Tryd.ntmps26
    go_wp2
    go_ret
    exact ⟨_, _, rfl, Fresh.alloc _ _, own_lit w 5 #[.int .u8 (224 + z / 4096), .int .u8 (128 + z / 64 % 64), .int .u8 (128 + z % 64)] 3 rfl (by unfold maxLen; omega) _ rfl⟩
  have t3 : decide (z < 65536) = false := by rw [decide_eq_false_iff_not]; omega
  · have e1 : IntKind.u8.wrap (240 + z / 262144) = 240 + z / 262144 := by rw [w8 _ (240 + r / 262144) (by omega) (by omega)]; omega
    have e2 : IntKind.u8.wrap (128 + z / 4096 % 64) = 128 + z / 4096 % 64 := by rw [w8 _ (128 + r / 4096 % 64) (by omega) (by omega)]; omega
    have e3 : IntKind.u8.wrap (128 + z / 64 % 64) = 128 + z / 64 % 64 := by rw [w8 _ (128 + r / 64 % 64) (by omega) (by omega)]; omega
    have e4 : IntKind.u8.wrap (128 + z % 64) = 128 + z % 64 := by rw [w8 _ (128 + r % 64) (by omega) (by omega)]; omega
    have hw : wid r = 4 := by rw [wid, if_neg h1, if_neg h2, if_neg h3]
    have he : (en r).map bv = [.int .u8 (240 + z / 262144), .int .u8 (128 + z / 4096 % 64), .int .u8 (128 + z / 64 % 64), .int .u8 (128 + z % 64)] := by
      rw [en, if_neg h1, if_neg h2, if_neg h3]
      simp only [List.map_cons, List.map_nil]
      rw [← bvN _ (show 240 + r / 262144 < 256 by omega), ← bvN _ (show 128 + r / 4096 % 64 < 256 by omega), ← bvN _ (show 128 + r / 64 % 64 < 256 by omega), ← bvN _ (show 128 + r % 64 < 256 by omega), show ((240 + r / 262144 : Nat) : Int) = 240 + z / 262144 by omega, show ((128 + r / 4096 % 64 : Nat) : Int) = 128 + z / 4096 % 64 by omega, show ((128 + r / 64 % 64 : Nat) : Int) = 128 + z / 64 % 64 by omega, show ((128 + r % 64 : Nat) : Int) = 128 + z % 64 by omega]
    have b1 : z ≤ 2097152 := by omega
    rw [hw, he]
    clear hr hz h1 h2 h3 he hw
    go_enter Tryd.func26, Tryd.ntmps26
    go_wp2
    go_ret
    exact ⟨_, _, rfl, Fresh.alloc _ _, own_lit w 5 #[.int .u8 (240 + z / 262144), .int .u8 (128 + z / 4096 % 64), .int .u8 (128 + z / 64 % 64), .int .u8 (128 + z % 64)] 4 rfl (by unfold maxLen; omega) _ rfl⟩

theorem info_int : (Tryd.prog.info? 3).map (fun i => (i.zero, i.size, i.bytes)) = some (some (.int .i64 0), 1, 8) := by kernel_rfl
/-- the page, as ints -/
def pageV : List Value := upperL.map fun r : Nat => iv r
theorem ivs_one (l : List Int) (xs : List Value) (hx : l.map (Value.int .i64) = xs) : ∀ u ∈ xs, u.oneCell' = true := by
  subst hx
  intro u hu
  obtain ⟨x, _, rfl⟩ := List.mem_map.1 hu
  rfl
theorem rd_lit (w : World) (cs : Array Value) (e : TypeId) (n : Nat) (hn : cs.size = n) (xs : List Value) (hx : cs.toList = xs) : Rd (w.alloc (.cells cs e)) (w.heap.size + 1) (some ⟨w.heap.size, 0, none⟩) n xs := by
  subst hn
  subst hx
  exact Rd.lit w cs e
end Go.Proofs.YtkkkjadfhimahaaDoor.namp
