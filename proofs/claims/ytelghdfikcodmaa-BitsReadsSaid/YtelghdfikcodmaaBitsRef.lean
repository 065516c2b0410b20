/-
  The contracts of the reference's Bits, High, Bytes. My own text.
-/
import Derived.Test.YtelghdfikcodmaaBitsUse
namespace Go.Proofs.Ytelghdfikcodmaa.bitp
open Go.RowKit Go.Proofs.Ytelghdfikcodmaa.base Go.Proofs.Ytelghdfikcodmaa.num Go.Proofs.Ytelghdfikcodmaa.bitnum
set_option linter.unusedVariables false

/-- bits as ints -/
abbrev nv (l : List Nat) : List Value := l.map fun x : Nat => iv (x : Int)
theorem nv_one (l : List Nat) : ∀ u ∈ nv l, u.oneCell' = true := by
  intro u hu
  obtain ⟨x, _, rfl⟩ := List.mem_map.1 hu
  rfl

theorem high_any (n : Int) (v : Int) (w : World) :
    Calls Try.prog 33 #[.int .i64 n, .int .i64 v] w fun e w' => ∃ A c, e = .returned (.slice A (held n) c) ∧ Fresh w w' ∧ Own w' w.heap.size 3 A (held n) c (nv (lb (held n) (rev (held n) (u64 v)))) := by
  obtain ⟨i0, hi0, hz0, hz1, hz2⟩ := info_parts info_int
  have hlow : ∀ w, Calls Try.prog 31 #[.int .i64 n, .int .i64 v] w fun e w' => ∃ A c, e = .returned (.slice A (held n) c) ∧ Fresh w w' ∧ Own w' w.heap.size 3 A (held n) c (nv (lb (held n) (u64 v))) := fun w => Low_any n v w
  have hle := held_le n
  obtain ⟨W, hW⟩ : ∃ W, held n = W := ⟨_, rfl⟩
  rw [hW] at hle hlow ⊢
  obtain ⟨u, hu⟩ : ∃ u, u64 v = u := ⟨_, rfl⟩
  rw [hu] at hlow ⊢
  have HLOW := Lib.hid hlow
  clear hlow hW hu
  go_enter Try.func33, Try.ntmps33
  go_wp2_with (go_at_call 31; refine (HLOW.out w).mono ?_; rintro e w1 ⟨A1, c1, rfl, hf1, ho1⟩)
  have hr1 := ho1.rd
  clear ho1
  go_loopw [6, 7] (fun v i wr => ∃ (k m c : Nat) (A : Option Addr), k ≤ W ∧ i = .int .i64 ((k : Int) - 1) ∧ v = .slice A m c ∧ m + k = W ∧ Fresh w1 wr ∧ Own wr w1.heap.size 3 A m c (nv ((lb W u).drop k).reverse)) (fun _ i _ => (intOf i + 1).toNat)
  case atStart => exact ⟨W, 0, 0, none, Nat.le_refl _, rfl, rfl, by omega, Fresh.refl _, by rw [List.drop_of_length_le (by rw [lb_len]; omega)]; exact Own.nil _ _ _⟩
  case round =>
    obtain ⟨k, m, c, A, hk, rfl, rfl, hm, hfr, hown⟩ := hrel
    by_cases h0 : k = 0
    · subst h0
      obtain rfl : m = W := by omega
      go_wp2
      go_ret
      rw [List.drop_zero, lb_reverse] at hown
      exact ⟨A, c, rfl, hf1.trans hfr, ⟨hown.1, hown.2.imp id fun ⟨g, cap, cur, h1, h2, h3⟩ => ⟨g, cap, cur, h1, Nat.le_trans hf1.size h2, h3⟩⟩⟩
    · obtain ⟨j, rfl⟩ : ∃ j, k = j + 1 := ⟨k - 1, by omega⟩
      obtain ⟨b, off, x, rfl, hb, hx, hcx⟩ := (hr1.below hfr (Nat.le_refl _)).at_ (enc := fun x : Nat => iv (x : Int)) (k := j) (by omega)
      have e1 : ((j + 1 : Nat) : Int) - 1 = (j : Int) := by omega
      rw [e1]
      have hx0 := hx
      rw [lb_get (by omega)] at hx
      injection hx with hx
      have hx2 : x < 2 := by omega
      have HX := Lib.hid hx0
      clear hx hx0 e1
      go_wp2_with (at_builtin; refine wpList_append_rd _ rfl _ _ 40 rfl w1.heap.size 3 i0 _ 8 Try.underlying40 hi0 hz0 hz1 hz2 rfl A m c _ rfl (Own.fresh hown (Fresh.alloc _ _)) (wr.heap.size + 1) (some ⟨wr.heap.size, 0, none⟩) 1 1 [.int .i64 (x : Int)] rfl (Rd.lit wr #[.int .i64 (x : Int)] 3) (one_one _ _) (by unfold maxLen; omega) (by omega) (by have := hfr.size; simp; omega) ?_; intro A2 c2 w2 hown2 hg2)
      have hl : nv ((lb W u).drop (j + 1)).reverse ++ [Value.int .i64 (x : Int)] = nv ((lb W u).drop j).reverse := by
        obtain ⟨hlt, hget⟩ := List.getElem?_eq_some_iff.1 HX.out
        rw [List.drop_eq_getElem_cons hlt, hget, List.reverse_cons, nv, nv, List.map_append]
        rfl
      have hfr2 : Fresh w1 w2 := (hfr.trans (Fresh.alloc _ _)).append (Own.fresh hown (Fresh.alloc _ _)) (Nat.le_refl _) hg2
      rw [hl] at hown2
      clear hl hg2
      go_roundw
      case rel => exact ⟨j, m + 1, c2, A2, by omega, by go_num, rfl, by omega, hfr2, hown2⟩
      case measure => simp [intOf]
theorem Own.low_ {w : World} {base base' : Nat} {e : TypeId} {A : Option Addr} {n c : Nat} {xs : List Value} (h : Own w base e A n c xs) (hb : base' ≤ base) : Own w base' e A n c xs :=
  ⟨h.1, h.2.imp id fun ⟨g, cap, cur, h1, h2, h3⟩ => ⟨g, cap, cur, h1, Nat.le_trans hb h2, h3⟩⟩

set_option maxRecDepth 100000 in
theorem Bits_any (A : Option Addr) (n c : Nat) (bs : List UInt8) (w : World) (B : Nat) (hr : Rd w B A n (bs.map bv)) (hB : B ≤ w.heap.size) (hn : n ≤ 4294967296) :
    Calls Try.prog 17 #[.slice A n c] w fun e w' => ∃ A c, e = .returned (.slice A (8 * n) c) ∧ Fresh w w' ∧ Own w' w.heap.size 3 A (8 * n) c (nv (lb (8 * n) (num bs))) := by
  obtain ⟨i0, hi0, hz0, hz1, hz2⟩ := info_parts info_int
  have hl : bs.length = n := by have := hr.1; rwa [List.length_map] at this
  have HL := Lib.hid hl
  clear hl
  go_enter Try.func17, Try.ntmps17
  go_wp2
  go_loopw [3, 4] (fun v i wr => ∃ (j N c : Nat) (A : Option Addr), j ≤ n ∧ i = .int .i64 j ∧ v = .slice A N c ∧ Hid (N = 8 * j) ∧ Fresh w wr ∧ Own wr w.heap.size 3 A N c (nv (lb N (num (bs.take j))))) (fun _ i _ => n - (intOf i).toNat)
  case atStart => exact ⟨0, 0, 0, none, by omega, rfl, rfl, rfl, Fresh.refl _, Own.nil _ _ _⟩
  case round =>
    obtain ⟨j, N, c1, A1, hj, rfl, rfl, hN, hfr, hown⟩ := hrel
    have hNb : N ≤ 34359738368 := by have := hN.out; omega
    by_cases hlt : j < n
    · obtain ⟨b, off, x, rfl, hb, hx, hcx⟩ := (hr.below hfr hB).at_ hlt
      have hxb := x.toNat_lt
      have hstep : nv (lb N (num (bs.take j))) ++ nv (lb 8 x.toNat) = nv (lb (N + 8) (num (bs.take (j + 1)))) := by
        have hlt2 : (bs.take j).length = j := by rw [List.length_take, HL.out]; omega
        have := lb_bytes (bs.take j) x
        rw [hlt2] at this
        rw [take_snoc _ _ _ hx, hN.out, nv, nv, nv, ← List.map_append, this, List.length_append, hlt2]
        rfl
      have HS := Lib.hid hstep
      clear hx hstep
      go_wp2
      go_loopw [3, 5, 6] (fun v t i wr => ∃ (k q M c : Nat) (A : Option Addr), k ≤ 8 ∧ i = .int .i64 k ∧ t = .int .i64 q ∧ Hid (q = x.toNat / 2 ^ k) ∧ q < 256 ∧ v = .slice A M c ∧ Hid (M = N + k) ∧ Fresh w wr ∧ Own wr w.heap.size 3 A M c (nv (lb N (num (bs.take j))) ++ nv (lb k x.toNat))) (fun _ _ i _ => 8 - (intOf i).toNat)
      case atStart => exact ⟨0, x.toNat, N, c1, A1, by omega, rfl, rfl, by simp [Hid], by omega, rfl, rfl, hfr, by simpa [lb_zero] using hown⟩
      case round =>
        obtain ⟨k, q, M, c2, A2, hk, rfl, rfl, hq, hql, rfl, hM, hfr2, hown2⟩ := hrel
        have hMb : M ≤ 34359738376 := by have := hM.out; omega
        by_cases hlt2 : k < 8
        · go_wp2_with (at_builtin; refine wpList_append_rd _ rfl _ _ 40 rfl w.heap.size 3 i0 _ 8 Try.underlying40 hi0 hz0 hz1 hz2 rfl A2 M c2 _ rfl (Own.fresh hown2 (Fresh.alloc _ _)) (wr.heap.size + 1) (some ⟨wr.heap.size, 0, none⟩) 1 1 [.int .i64 ((q : Int) % 2)] rfl (Rd.lit wr #[.int .i64 ((q : Int) % 2)] 3) (one_one _ _) (by unfold maxLen; omega) (by omega) (by have := hfr2.size; simp; omega) ?_; intro A3 c3 w3 hown3 hg3)
          have hl2 : nv (lb N (num (bs.take j))) ++ nv (lb k x.toNat) ++ [Value.int .i64 ((q : Int) % 2)] = nv (lb N (num (bs.take j))) ++ nv (lb (k + 1) x.toNat) := by
            have h1 : (q : Int) % 2 = ((q % 2 : Nat) : Int) := by omega
            rw [lb_snoc, List.append_assoc, nv, nv, nv, List.map_append, List.map_cons, List.map_nil, ← hq.out, h1]
          have hfr3 : Fresh w w3 := (hfr2.trans (Fresh.alloc _ _)).append (Own.fresh hown2 (Fresh.alloc _ _)) (Nat.le_refl _) hg3
          rw [hl2] at hown3
          have hd : Hid (q / 2 = x.toNat / 2 ^ (k + 1)) := by show _ = _; rw [hq.out, Nat.div_div_eq_div_mul, Nat.pow_succ]
          clear hl2 hg3
          go_roundw
          case rel => exact ⟨k + 1, q / 2, M + 1, c3, A3, by omega, by go_num, by go_num, hd, by omega, rfl, by have := hM.out; show _ = _; omega, hfr3, hown3⟩
          case measure => simp [intOf]; omega
        · obtain rfl : k = 8 := by omega
          rw [HS.out] at hown2
          obtain rfl : M = N + 8 := hM.out
          go_wp2
          go_roundw
          case rel => exact ⟨j + 1, N + 8, c2, A2, by omega, by go_num, rfl, by have := hN.out; show _ = _; omega, hfr2, hown2⟩
          case measure => simp [intOf]; omega
    · obtain rfl : j = n := by omega
      obtain rfl : N = 8 * j := hN.out
      go_wp2
      go_ret
      rw [List.take_of_length_le (Nat.le_of_eq HL.out)] at hown
      exact ⟨A1, c1, rfl, hfr, hown⟩

set_option maxRecDepth 100000 in
theorem Bytes_any (A : Option Addr) (m c : Nat) (N : Nat) (w : World) (B : Nat) (hr : Rd w B A m (nv (lb m N))) (hB : B ≤ w.heap.size) (hN : N < 2 ^ m) (hm : m ≤ 4294967296) :
    Calls Try.prog 38 #[.slice A m c] w fun e w' => ∃ A c, e = .returned (.slice A ((m + 7) / 8) c) ∧ Fresh w w' ∧ Own w' w.heap.size 5 A ((m + 7) / 8) c ((low ((m + 7) / 8) N).map bv) := by
  obtain ⟨i0, hi0, hz0, hz1, hz2⟩ := info_parts info_byte
  have HN : Hid (N < 2 ^ m) := hN
  clear hN
  obtain ⟨L, hL⟩ : ∃ L, (m + 7) / 8 = L := ⟨_, rfl⟩
  rw [hL]
  have HL := Lib.hid hL
  clear hL
  go_enter Try.func38, Try.ntmps38
  go_wp2
  go_loopw [3, 4] (fun v i wr => ∃ (j J c : Nat) (A : Option Addr), 8 * j ≤ m + 7 ∧ Hid (J = 8 * j) ∧ i = .int .i64 J ∧ v = .slice A j c ∧ Fresh w wr ∧ Own wr w.heap.size 5 A j c ((low j N).map bv)) (fun _ i _ => (m + 8) - (intOf i).toNat)
  case atStart => exact ⟨0, 0, 0, none, by omega, rfl, rfl, rfl, Fresh.refl _, Own.nil _ _ _⟩
  case round =>
    obtain ⟨j, J, c1, A1, hj, hJ, rfl, rfl, hfr, hown⟩ := hrel
    have hJb : J ≤ m + 7 := by have := hJ.out; omega
    by_cases hlt : J < m
    · obtain ⟨U, hU⟩ : ∃ U, N / 2 ^ J = U := ⟨_, rfl⟩
      have HU := Lib.hid hU
      clear hU
      go_wp2
      go_loopw [5, 6] (fun a i wr' => ∃ (k q : Nat), k ≤ 8 ∧ i = .int .i64 ((k : Int) - 1) ∧ a = .int .i64 q ∧ Hid (q = U % 2 ^ 8 / 2 ^ k) ∧ q < 256 ∧ wr' = wr) (fun _ i _ => (intOf i + 1).toNat)
      case atStart => exact ⟨8, 0, by omega, rfl, rfl, by
        show _ = _
        rw [Nat.div_eq_of_lt (Nat.mod_lt _ (by omega))], by omega, rfl⟩
      case round =>
        obtain ⟨k, q, hk, rfl, rfl, hq, hql, rfl⟩ := hrel
        by_cases h0 : k = 0
        · subst h0
          have hq0 : q = N / 256 ^ j % 256 := by
            rw [hq.out, ← HU.out, hJ.out, ← pow256]
            simp
          have HQ0 := Lib.hid hq0
          clear hq0
          go_wp2_with (at_builtin; refine wpList_append_rd _ rfl _ _ 29 rfl w.heap.size 5 i0 _ 1 Try.underlying29 hi0 hz0 hz1 hz2 rfl A1 j c1 _ rfl (Own.fresh hown (Fresh.alloc _ _)) (wr.heap.size + 1) (some ⟨wr.heap.size, 0, none⟩) 1 1 [.int .u8 (q : Int)] rfl (Rd.lit wr #[.int .u8 (q : Int)] 5) (one_one _ _) (by unfold maxLen; omega) (by omega) (by have := hfr.size; simp; omega) ?_; intro A3 c3 w3 hown3 hg3)
          have hl2 : (low j N).map bv ++ [Value.int .u8 (q : Int)] = (low (j + 1) N).map bv := by
            rw [low_succ, List.map_append, List.map_cons, List.map_nil, bv, ofNat_toNat _ (Nat.mod_lt _ (by omega)), HQ0.out]
          have hfr3 : Fresh w w3 := (hfr.trans (Fresh.alloc _ _)).append (Own.fresh hown (Fresh.alloc _ _)) (Nat.le_refl _) hg3
          rw [hl2] at hown3
          clear hl2 hg3
          go_roundw
          case rel => exact ⟨j + 1, J + 8, c3, A3, by have := hJ.out; omega, by have := hJ.out; show _ = _; omega, by go_num, rfl, hfr3, hown3⟩
          case measure => simp [intOf]; omega
        · obtain ⟨t, rfl⟩ : ∃ t, k = t + 1 := ⟨k - 1, by omega⟩
          have e1 : ((t + 1 : Nat) : Int) - 1 = (t : Int) := by omega
          rw [e1]
          clear e1
          by_cases hin : J + t < m
          · obtain ⟨ix, hix⟩ : ∃ ix, J + t = ix := ⟨_, rfl⟩
            obtain ⟨b, off, x, rfl, hb, hx, hcx⟩ := (hr.below hfr hB).at_ (enc := fun x : Nat => iv (x : Int)) (k := ix) (by omega)
            rw [lb_get (by omega)] at hx
            injection hx with hx
            have hx2 : x < 2 := by omega
            have hxu : U / 2 ^ t % 2 = x := by rw [← hx, ← HU.out, ← hix, Nat.div_div_eq_div_mul, Nat.pow_add]
            have hstep : Hid (2 * q + x = U % 2 ^ 8 / 2 ^ t) := by show _ = _; rw [hq.out, ← hxu]; exact top_step (by omega)
            have hl : 2 * q + x < 256 := by have := hstep.out; have := Nat.div_le_self (U % 2 ^ 8) (2 ^ t); have := Nat.mod_lt U (show 0 < 2 ^ 8 by omega); omega
            have hixi : (J : Int) + (t : Int) = (ix : Int) := by omega
            have hixm : ix < m := by omega
            clear hx hxu
            go_wp2
            go_roundw
            case rel => exact ⟨t, 2 * q + x, by omega, by go_num, by go_num, hstep, hl, trivial⟩
            case measure => simp [intOf]
          · have hz : U / 2 ^ t % 2 = 0 := by
              rw [← HU.out, Nat.div_div_eq_div_mul, ← Nat.pow_add, Nat.div_eq_of_lt]
              exact Nat.lt_of_lt_of_le HN.out (Nat.pow_le_pow_right (by omega) (by omega))
            have hstep : Hid (2 * q = U % 2 ^ 8 / 2 ^ t) := by
              show _ = _
              rw [hq.out]
              have := top_step (u := U) (n := 8) (j := t) (by omega)
              rw [hz, Nat.add_zero] at this
              exact this
            have hl : 2 * q < 256 := by have := hstep.out; have := Nat.div_le_self (U % 2 ^ 8) (2 ^ t); have := Nat.mod_lt U (show 0 < 2 ^ 8 by omega); omega
            clear hz
            go_wp2
            go_roundw
            case rel => exact ⟨t, 2 * q, by omega, by go_num, by go_num, hstep, hl, trivial⟩
            case measure => simp [intOf]
    · obtain rfl : j = L := by have := hJ.out; have := HL.out; omega
      go_wp2
      go_ret
      exact ⟨A1, c1, rfl, hfr, hown⟩
end Go.Proofs.Ytelghdfikcodmaa.bitp
