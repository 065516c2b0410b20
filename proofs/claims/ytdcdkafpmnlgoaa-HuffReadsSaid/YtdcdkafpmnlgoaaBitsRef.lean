/-
  The contracts of the reference's Bits, High, Bytes. My own text.
-/
import Derived.Test.YtdcdkafpmnlgoaaBitsUse
namespace Go.Proofs.Ytdcdkafpmnlgoaa.bitp
open Go.RowKit Go.Proofs.Ytdcdkafpmnlgoaa.base Go.Proofs.Ytdcdkafpmnlgoaa.num Go.Proofs.Ytdcdkafpmnlgoaa.bitnum
set_option linter.unusedVariables false

/-- bits as ints -/
abbrev nv (l : List Nat) : List Value := l.map fun x : Nat => iv (x : Int)
theorem nv_one (l : List Nat) : ∀ u ∈ nv l, u.oneCell' = true := by
  intro u hu
  obtain ⟨x, _, rfl⟩ := List.mem_map.1 hu
  rfl

theorem Own.low_ {w : World} {base base' : Nat} {e : TypeId} {A : Option Addr} {n c : Nat} {xs : List Value} (h : Own w base e A n c xs) (hb : base' ≤ base) : Own w base' e A n c xs :=
  ⟨h.1, h.2.imp id fun ⟨g, cap, cur, h1, h2, h3⟩ => ⟨g, cap, cur, h1, Nat.le_trans hb h2, h3⟩⟩

set_option maxRecDepth 100000 in
theorem Bits_any (A : Option Addr) (n c : Nat) (bs : List UInt8) (w : World) (B : Nat) (hr : Rd w B A n (bs.map bv)) (hB : B ≤ w.heap.size) (hn : n ≤ 4294967296) :
    Calls Try.prog 13 #[.slice A n c] w fun e w' => ∃ A c, e = .returned (.slice A (8 * n) c) ∧ Fresh w w' ∧ Own w' w.heap.size 3 A (8 * n) c (nv (lb (8 * n) (num bs))) := by
  obtain ⟨i0, hi0, hz0, hz1, hz2⟩ := info_parts info_int
  have hl : bs.length = n := by have := hr.1; rwa [List.length_map] at this
  have HL := Lib.hid hl
  clear hl
  go_enter Try.func13, Try.ntmps13
  go_wp2
  go_loopw [3, 4] (fun v i wr => ∃ (j N c : Nat) (A : Option Addr), j ≤ n ∧ i = .int .i64 j ∧ v = .slice A N c ∧ Hid (N = 8 * j) ∧ Fresh w wr ∧ Own wr w.heap.size 3 A N c (nv (lb N (num (bs.take j))))) (fun _ i _ => n - (intOf i).toNat)
  case atStart => exact ⟨0, 0, 0, none, by omega, rfl, rfl, rfl, Fresh.refl _, Own.nil _ _ _⟩
  case round =>
    obtain ⟨j, N, c1, A1, hj, rfl, rfl, hN, hfr, hown⟩ := hrel
    have hNb : N ≤ 34359738368 := by have := hN.out; omega
    by_cases hlt : j < n
    · obtain ⟨b, off, x, rfl, hb, hx, hcx⟩ := (hr.below hfr hB).at_ hlt
      have hxb := x.toNat_lt
      have hstep : nv (lb N (num (bs.take j))) ++ nv (lb 8 x.toNat) = nv (lb (N + 8) (num (bs.take (j + 1)))) := by
        have hlt2 : (bs.take j).length = j := by rw [List.length_take, HL.out]; omega
        have := lb_bytes (bs.take j) x
        rw [hlt2] at this
        rw [take_snoc _ _ _ hx, hN.out, nv, nv, nv, ← List.map_append, this, List.length_append, hlt2]
        rfl
      have HS := Lib.hid hstep
      clear hx hstep
      go_wp2
      go_loopw [3, 5, 6] (fun v t i wr => ∃ (k q M c : Nat) (A : Option Addr), k ≤ 8 ∧ i = .int .i64 k ∧ t = .int .i64 q ∧ Hid (q = x.toNat / 2 ^ k) ∧ q < 256 ∧ v = .slice A M c ∧ Hid (M = N + k) ∧ Fresh w wr ∧ Own wr w.heap.size 3 A M c (nv (lb N (num (bs.take j))) ++ nv (lb k x.toNat))) (fun _ _ i _ => 8 - (intOf i).toNat)
      case atStart => exact ⟨0, x.toNat, N, c1, A1, by omega, rfl, rfl, by simp [Hid], by omega, rfl, rfl, hfr, by simpa [lb_zero] using hown⟩
      case round =>
        obtain ⟨k, q, M, c2, A2, hk, rfl, rfl, hq, hql, rfl, hM, hfr2, hown2⟩ := hrel
        have hMb : M ≤ 34359738376 := by have := hM.out; omega
        by_cases hlt2 : k < 8
        · go_wp2_with (at_builtin; refine wpList_append_rd _ rfl _ _ 22 rfl w.heap.size 3 i0 _ 8 Try.underlying22 hi0 hz0 hz1 hz2 rfl A2 M c2 _ rfl (Own.fresh hown2 (Fresh.alloc _ _)) (wr.heap.size + 1) (some ⟨wr.heap.size, 0, none⟩) 1 1 [.int .i64 ((q : Int) % 2)] rfl (Rd.lit wr #[.int .i64 ((q : Int) % 2)] 3) (one_one _ _) (by unfold maxLen; omega) (by omega) (by have := hfr2.size; simp; omega) ?_; intro A3 c3 w3 hown3 hg3)
          have hl2 : nv (lb N (num (bs.take j))) ++ nv (lb k x.toNat) ++ [Value.int .i64 ((q : Int) % 2)] = nv (lb N (num (bs.take j))) ++ nv (lb (k + 1) x.toNat) := by
            have h1 : (q : Int) % 2 = ((q % 2 : Nat) : Int) := by omega
            rw [lb_snoc, List.append_assoc, nv, nv, nv, List.map_append, List.map_cons, List.map_nil, ← hq.out, h1]
          have hfr3 : Fresh w w3 := (hfr2.trans (Fresh.alloc _ _)).append (Own.fresh hown2 (Fresh.alloc _ _)) (Nat.le_refl _) hg3
          rw [hl2] at hown3
          have hd : Hid (q / 2 = x.toNat / 2 ^ (k + 1)) := by show _ = _; rw [hq.out, Nat.div_div_eq_div_mul, Nat.pow_succ]
          clear hl2 hg3
          go_roundw
          case rel => exact ⟨k + 1, q / 2, M + 1, c3, A3, by omega, by go_num, by go_num, hd, by omega, rfl, by have := hM.out; show _ = _; omega, hfr3, hown3⟩
          case measure => simp [intOf]; omega
        · obtain rfl : k = 8 := by omega
          rw [HS.out] at hown2
          obtain rfl : M = N + 8 := hM.out
          go_wp2
          go_roundw
          case rel => exact ⟨j + 1, N + 8, c2, A2, by omega, by go_num, rfl, by have := hN.out; show _ = _; omega, hfr2, hown2⟩
          case measure => simp [intOf]; omega
    · obtain rfl : j = n := by omega
      obtain rfl : N = 8 * j := hN.out
      go_wp2
      go_ret
      rw [List.take_of_length_le (Nat.le_of_eq HL.out)] at hown
      exact ⟨A1, c1, rfl, hfr, hown⟩

end Go.Proofs.Ytdcdkafpmnlgoaa.bitp
