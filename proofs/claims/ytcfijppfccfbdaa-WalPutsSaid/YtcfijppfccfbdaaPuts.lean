/-
  The contracts of word.Put and ref.Bytes, and of the law's wakes. My own text.
-/
import Derived.Test.YtcfijppfccfbdaaGets
namespace Go.Proofs.Ytcfijppfccfbdaa.word
open Go.RowKit Go.Proofs.Ytcfijppfccfbdaa.base Go.Proofs.Ytcfijppfccfbdaa.num
set_option linter.unusedVariables false

/-- the reference's Bytes -/
theorem bytes_any (z x : Int) (w : World) (hz : (Lit.int .i64 z).wf = true) :
    Calls Try.prog 20 #[.int .i64 z, .int .i64 x] w fun e w' => ∃ A c, e = .returned (.slice A (wide x) c) ∧ Fresh w w' ∧ Own w' w.heap.size 5 A (wide x) c ((low (wide x) (u64 z)).map bv) := by
  obtain ⟨i0, hi0, hz0, hz1, hz2⟩ := info_parts byte_info
  have hw := wide_bd x
  generalize hW : wide x = W at *
  have HW := Lib.hid hW
  clear hW
  have wide_ : ∀ w, Calls Try.prog 29 #[.int .i64 x] w fun e w' => e = .returned (.int .i64 W) ∧ w = w' := fun w => by rw [← HW.out]; exact wide_any x w
  have HH := Lib.hid wide_
  clear wide_
  have hu := wrap_u64 z
  have hu2 := u64_lt z
  go_enter Try.func20, Try.ntmps20
  go_wp2
  clear hu
  generalize hu3 : u64 z = u at *
  have HU := Lib.hid hu3
  clear hu3
  go_loopw [5, 6, 7] (fun v t i wr => ∃ (k c t' : Nat) (A : Option Addr), k ≤ W ∧ i = .int .i64 k ∧ t = .int .u64 t' ∧ Hid (t' = u / 256 ^ k) ∧ v = .slice A k c ∧ Fresh w wr ∧ Own wr w.heap.size 5 A k c ((low k u).map bv)) (fun _ _ i _ => W - (intOf i).toNat)
  case atStart => exact ⟨0, 0, u, none, by omega, rfl, rfl, by simp [Hid], rfl, Fresh.refl _, Own.nil _ _ _⟩
  case round =>
    obtain ⟨k, c, t, A, hk, rfl, rfl, ht, rfl, hfr, hown⟩ := hrel
    by_cases hlt : k < W
    · have hb2 : t < 18446744073709551616 := by have := ht.out; have := Nat.div_le_self u (256 ^ k); omega
      go_wp2_with (first
        | (at_builtin; refine wpList_append_rd _ rfl _ _ 23 rfl w.heap.size 5 i0 _ 1 Try.underlying23 hi0 hz0 hz1 hz2 rfl A k c _ rfl (Own.fresh hown (Fresh.alloc _ _)) (wr.heap.size + 1) (some ⟨wr.heap.size, 0, none⟩) 1 1 [.int .u8 ((t : Int) % 256)] rfl (Rd.lit wr #[.int .u8 ((t : Int) % 256)] 5) (one_one _ _) (by unfold maxLen; omega) (by omega) (by have := hfr.size; simp; omega) ?_; intro A1 c1 w1 hown1 hg1)
        | (go_at_call 29; refine (HH.out _).mono ?_; rintro e w' ⟨rfl, rfl⟩))
      have hl : (low k u).map bv ++ [Value.int .u8 ((t : Int) % 256)] = (low (k + 1) u).map bv := by
        have h1 : (t : Int) % 256 = ((t % 256 : Nat) : Int) := by omega
        rw [low_succ, List.map_append, List.map_cons, List.map_nil, ← ht.out, h1, bv, ofNat_toNat _ (Nat.mod_lt _ (by omega))]
      have hfr1 : Fresh w w1 := (hfr.trans (Fresh.alloc _ _)).append (Own.fresh hown (Fresh.alloc _ _)) (Nat.le_refl _) hg1
      rw [hl] at hown1
      have hd : t / 256 = u / 256 ^ (k + 1) := by rw [ht.out, Nat.div_div_eq_div_mul, Nat.pow_succ]
      clear hl hg1
      go_roundw
      case rel => exact ⟨k + 1, c1, t / 256, A1, by omega, by go_num, by go_num, hd, rfl, hfr1, hown1⟩
      case measure => simp [intOf]; omega
    · have h0 : k = W := by omega
      subst h0
      go_wp2_with (go_at_call 29; refine (HH.out _).mono ?_; rintro e w' ⟨rfl, rfl⟩)
      go_ret
      exact ⟨A, c, rfl, hfr, by rw [HU.out]; exact hown⟩

/-- numbers put, one behind the other -/
def puts (k : Nat) (zs : List Int) : List UInt8 := zs.flatMap fun z => low k (u64 z)

theorem put_any (A : Option Addr) (n c : Nat) (bs : List UInt8) (x : Int) (D : Option Addr) (m d : Nat) (zs : List Int) (w : World) (B B' : Nat) (ha : Rd w B A n (bs.map bv)) (hB : B ≤ w.heap.size)
    (hd : Rd w B' D m (zs.map iv)) (hB' : B' ≤ w.heap.size) (hz : ∀ z ∈ zs, (Lit.int .i64 z).wf = true) (hn : n ≤ 4294967296) (hm : m ≤ 4294967296) :
    Calls Try.prog 27 #[.slice A n c, .int .i64 x, .slice D m d] w fun e w' =>
      ∃ A' c', e = .returned (.slice A' (n + m * wide x) c') ∧ Fresh w w' ∧ Own w' w.heap.size 5 A' (n + m * wide x) c' ((bs ++ puts (wide x) zs).map bv) := by
  obtain ⟨i0, hi0, hz0, hz1, hz2⟩ := info_parts byte_info
  have hw := wide_bd x
  generalize hW : wide x = W at *
  have HW := Lib.hid hW
  clear hW
  have held : ∀ w, Calls Try.prog 33 #[.int .i64 x] w fun e w' => e = .returned (.int .i64 W) ∧ w = w' := fun w => by rw [← HW.out]; exact held_any x w
  have HH := Lib.hid held
  clear held
  have hmul : (n : Int) + (W : Int) * (m : Int) = ((n + m * W : Nat) : Int) := by rw [Nat.mul_comm]; simp
  have hmw : m * W ≤ 4294967296 * 7 := Nat.mul_le_mul hm hw.2
  have hb1 : 0 ≤ (W : Int) * (m : Int) := by omega
  have hb2 : (W : Int) * (m : Int) ≤ 30064771072 := by omega
  have HM := Lib.hid hmul
  clear hmul
  have hlz : zs.length = m := by have := hd.1; rwa [List.length_map] at this
  have HLZ := Lib.hid hlz
  clear hlz
  go_enter Try.func27, Try.ntmps27
  go_wp2_with (first
    | (at_make; refine wpList_make_own _ rfl _ _ 23 rfl w.heap.size 5 i0 _ 1 Try.underlying23 hi0 hz0 hz1 _ _ _ (n + m * W) rfl rfl HM.out (by rw [hz2]; omega) (by unfold maxLen; omega) (Nat.le_refl _) ?_; intro w1 hown1 hg1)
    | (at_builtin; refine wpList_append_rd _ rfl _ _ 23 rfl w.heap.size 5 i0 _ 1 Try.underlying23 hi0 hz0 hz1 hz2 rfl _ 0 _ _ rfl hown1 B A n c _ rfl (ha.below (below_of_grown hg1 (Nat.le_refl _) (fun k hk => by cases hk)) hB) (bv_one bs) (by unfold maxLen; omega) (by omega) hg1.size ?_; intro A2 c2 w2 hown2 hg2)
    | (go_at_call 33; refine (HH.out _).mono ?_; rintro e w' ⟨rfl, rfl⟩))
  have hf1 : Fresh w w1 := below_of_grown hg1 (Nat.le_refl _) (fun k hk => by cases hk)
  have hf2 : Fresh w w2 := hf1.append hown1 (Nat.le_refl _) hg2
  rw [Nat.zero_add] at hown2
  clear hown1 hg1 hg2 hf1
  go_loopw [7, 26] (fun v i wr => ∃ (k c N : Nat) (A : Option Addr), k ≤ m ∧ i = .int .i64 k ∧ v = .slice A N c ∧ Hid (N = n + k * W) ∧ Fresh w wr ∧ Own wr w.heap.size 5 A N c ((bs ++ puts W (zs.take k)).map bv)) (fun _ i _ => m - (intOf i).toNat)
  case atStart => exact ⟨0, c2, n, A2, by omega, rfl, rfl, by simp [Hid], hf2, by simpa [puts] using hown2⟩
  case round =>
    obtain ⟨k, c3, N, A3, hk, rfl, rfl, hN, hf3, hown3⟩ := hrel
    have hkm : k * W ≤ m * W := Nat.mul_le_mul_right _ hk
    have hNb : N ≤ 34359738368 := by have := hN.out; omega
    by_cases hlt : k < m
    · obtain ⟨b, off, z, rfl, hb, hx, hcx⟩ := (hd.below hf3 hB').at_ hlt
      have HX := Lib.hid hx
      clear hx
      go_wp2
      go_loopw [7, 31] (fun v i wr => ∃ (j c : Nat) (A : Option Addr), j ≤ W ∧ i = .int .i64 j ∧ v = .slice A (N + j) c ∧ Fresh w wr ∧ Own wr w.heap.size 5 A (N + j) c ((bs ++ puts W (zs.take k) ++ low j (u64 z)).map bv)) (fun _ i _ => W - (intOf i).toNat)
      case atStart => exact ⟨0, c3, A3, by omega, rfl, rfl, hf3, by simpa [low] using hown3⟩
      case round =>
        obtain ⟨j, c4, A4, hj, rfl, rfl, hf4, hown4⟩ := hrel
        by_cases hlt2 : j < W
        · go_wp2_with (at_builtin; refine wpList_append_rd _ rfl _ _ 23 rfl w.heap.size 5 i0 _ 1 Try.underlying23 hi0 hz0 hz1 hz2 rfl A4 (N + j) c4 _ rfl (Own.fresh hown4 (Fresh.alloc _ _)) (wr.heap.size + 1) (some ⟨wr.heap.size, 0, none⟩) 1 1 [.int .u8 (z / 2 ^ (8 * j) % 256)] rfl (Rd.lit wr #[.int .u8 (z / 2 ^ (8 * j) % 256)] 5) (one_one _ _) (by unfold maxLen; omega) (by omega) (by have := hf4.size; simp; omega) ?_; intro A5 c5 w5 hown5 hg5)
          have hl : (bs ++ puts W (zs.take k) ++ low j (u64 z)).map bv ++ [Value.int .u8 (z / 2 ^ (8 * j) % 256)] = (bs ++ puts W (zs.take k) ++ low (j + 1) (u64 z)).map bv := by
            rw [low_succ, ← List.append_assoc, List.map_append (l₂ := [UInt8.ofNat _]), List.map_cons, List.map_nil, bv, ← byte_shr z j (by omega)]
          have hfr1 : Fresh w w5 := (hf4.trans (Fresh.alloc _ _)).append (Own.fresh hown4 (Fresh.alloc _ _)) (Nat.le_refl _) hg5
          rw [hl] at hown5
          clear hl hg5
          go_roundw
          case rel => exact ⟨j + 1, c5, A5, by omega, by go_num, rfl, hfr1, hown5⟩
          case measure => simp [intOf]; omega
        · have h0 : j = W := by omega
          subst h0
          go_wp2
          have hp : puts j (zs.take (k + 1)) = puts j (zs.take k) ++ low j (u64 z) := by
            rw [take_snoc _ _ _ HX.out, puts, List.flatMap_append, List.flatMap_cons, List.flatMap_nil, List.append_nil]; rfl
          have hN2 : N + j = n + (k + 1) * j := by rw [hN.out, Nat.succ_mul, Nat.add_assoc]
          have HP := Lib.hid hp
          have HN2 := Lib.hid hN2
          clear hp hN2
          go_roundw
          case rel => exact ⟨k + 1, c4, N + j, A4, by omega, by go_num, rfl, HN2, hf4, by rw [HP.out, ← List.append_assoc]; exact hown4⟩
          case measure => simp [intOf]; omega
    · have h0 : k = m := by omega
      subst h0
      go_wp2
      go_ret
      have e1 := HLZ.out
      have e2 := hN.out
      rw [List.take_of_length_le (Nat.le_of_eq e1), e2] at hown3
      exact ⟨A3, c3, by rw [← e2]; rfl, hf3, hown3⟩

theorem back (z : Int) (k : Nat) (hz : -9223372036854775808 ≤ z ∧ z ≤ 9223372036854775807) (hk : k ≤ 7) : (((u64 z % 256 ^ k : Nat) : Int) == z) = fits k [z] := by
  have hp : (256 : Nat) ^ k ≤ 72057594037927936 := pow7 hk
  have h0 : 0 < (256 : Nat) ^ k := Nat.pow_pos (by omega)
  have e : (256 : Int) ^ k = ((256 ^ k : Nat) : Int) := by simp
  unfold fits
  rw [List.all_cons, List.all_nil, Bool.and_true, e]
  generalize (256 : Nat) ^ k = p at *
  have hm := Nat.mod_lt (u64 z) h0
  by_cases h : 0 ≤ z ∧ z < (p : Int)
  · have h1 : u64 z = z.toNat := by unfold u64; omega
    have h2 : u64 z % p = z.toNat := by rw [h1]; exact Nat.mod_eq_of_lt (by omega)
    rw [h2, decide_eq_true h, beq_iff_eq]
    omega
  · rw [decide_eq_false h, beq_eq_false_iff_ne]
    omega

theorem puts_length (k : Nat) (zs : List Int) : (puts k zs).length = zs.length * k := by
  induction zs with
  | nil => simp [puts]
  | cons z r ih =>
    rw [puts, List.flatMap_cons, List.length_append, low_length, List.length_cons, Nat.succ_mul]
    rw [puts] at ih
    omega
theorem puts_snoc (k : Nat) (zs : List Int) (j : Nat) (z : Int) (h : zs[j]? = some z) : puts k (zs.take j) ++ puts k [z] = puts k (zs.take (j + 1)) := by
  rw [take_snoc _ _ _ h, puts, puts, puts, List.flatMap_append]
theorem puts_get (k : Nat) (zs : List Int) (i : Nat) (z : Int) (h : zs[i]? = some z) : ((puts k zs).drop (i * k)).take k = low k (u64 z) := by
  induction zs generalizing i with
  | nil => simp at h
  | cons y r ih =>
    rw [puts, List.flatMap_cons]
    cases i with
    | zero =>
      simp only [List.getElem?_cons_zero, Option.some.injEq] at h
      subst h
      rw [Nat.zero_mul, List.drop_zero, List.take_append_of_le_length (by rw [low_length]; omega), List.take_of_length_le (by rw [low_length]; omega)]
    | succ i =>
      rw [List.getElem?_cons_succ] at h
      have := ih i h
      rw [puts] at this
      rw [Nat.succ_mul, Nat.add_comm, ← List.drop_drop, List.drop_left' (low_length k _), this]

theorem put_is (A : Option Addr) (n c : Nat) (bs : List UInt8) (x : Int) (D : Option Addr) (m d : Nat) (zs : List Int) (w : World) (B B' : Nat) (N : Nat) (ys : List UInt8) (ha : Rd w B A n (bs.map bv)) (hB : B ≤ w.heap.size)
    (hd : Rd w B' D m (zs.map iv)) (hB' : B' ≤ w.heap.size) (hz : ∀ z ∈ zs, (Lit.int .i64 z).wf = true) (hn : n ≤ 4294967296) (hm : m ≤ 4294967296) (hN : n + m * wide x = N) (hy : bs ++ puts (wide x) zs = ys) :
    Calls Try.prog 27 #[.slice A n c, .int .i64 x, .slice D m d] w fun e w' =>
      ∃ A' c', e = .returned (.slice A' N c') ∧ Fresh w w' ∧ Own w' w.heap.size 5 A' N c' (ys.map bv) := by
  subst hN
  subst hy
  exact put_any A n c bs x D m d zs w B B' ha hB hd hB' hz hn hm

end Go.Proofs.Ytcfijppfccfbdaa.word
