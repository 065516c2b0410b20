import Derived.Test.YtppgceighgpgoaaGreatDoorMgNum
import Derived.Test.YtppgceighgpgoaaGreatDoorMgRdr
/- Several of my own texts, one behind the other. -/
/-
  Bits written behind bits, byte by byte: plain mathematics, over no program. My own text.
-/
namespace Go.Proofs.YtppgceighgpgoaaGreatDoor.bitnum
open Go.Proofs.YtppgceighgpgoaaGreatDoor.num
set_option linter.unusedVariables false

theorem low_get {L N j : Nat} (h : j < L) : (low L N)[j]? = some (UInt8.ofNat (N / 256 ^ j % 256)) := by
  induction L generalizing N j with
  | zero => omega
  | succ L ih =>
    cases j with
    | zero => simp [low]
    | succ j =>
      rw [low, List.getElem?_cons_succ, ih (by omega), Nat.div_div_eq_div_mul, Nat.pow_succ, Nat.mul_comm 256]
/-- the bytes of N, the first k of them those of M -/
def mix (L N M k : Nat) : List UInt8 := (List.range L).map fun j => UInt8.ofNat (if j < k then M / 256 ^ j % 256 else N / 256 ^ j % 256)
theorem mix_len (L N M k : Nat) : (mix L N M k).length = L := by simp [mix]
theorem mix_get {L N M k j : Nat} (h : j < L) : (mix L N M k)[j]? = some (UInt8.ofNat (if j < k then M / 256 ^ j % 256 else N / 256 ^ j % 256)) := by simp [mix, h]
theorem mix_set {L N M k : Nat} (h : k < L) : (mix L N M k).set k (UInt8.ofNat (M / 256 ^ k % 256)) = mix L N M (k + 1) := by
  apply List.ext_getElem?
  intro j
  by_cases hj : j < L
  · rw [List.getElem?_set, mix_get hj, mix_get hj, mix_len]
    by_cases e : k = j
    · subst e; simp [h]
    · have : (j < k + 1) = (j < k) := by rw [eq_iff_iff]; omega
      simp [e, this]
  · rw [List.getElem?_eq_none (by simp [mix_len]; omega), List.getElem?_eq_none (by simp [mix_len]; omega)]
theorem mix_all (L N M : Nat) : mix L N M L = low L M := by
  apply List.ext_getElem?
  intro j
  by_cases hj : j < L
  · rw [mix_get hj, low_get hj, if_pos hj]
  · rw [List.getElem?_eq_none (by simp [mix_len]; omega), List.getElem?_eq_none (by simp [low_length]; omega)]
theorem mix_start {L N M f : Nat} (h : ∀ j, j < f → M / 256 ^ j % 256 = N / 256 ^ j % 256) : mix L N M f = low L N := by
  apply List.ext_getElem?
  intro j
  by_cases hj : j < L
  · rw [mix_get hj, low_get hj]
    by_cases h2 : j < f
    · rw [if_pos h2, h j h2]
    · rw [if_neg h2]
  · rw [List.getElem?_eq_none (by simp [mix_len]; omega), List.getElem?_eq_none (by simp [low_length]; omega)]

theorem low_more (L N : Nat) (h : N < 256 ^ L) : low L N ++ [0] = low (L + 1) N := by
  rw [low_succ, Nat.div_eq_of_lt h]; rfl
theorem lt_bytes {m N : Nat} (h : N < 2 ^ m) : N < 256 ^ ((m + 7) / 8) := by
  rw [← pow256]
  exact Nat.lt_of_lt_of_le h (Nat.pow_le_pow_right (by omega) (by omega))
theorem lt_bytes' {m N k : Nat} (h : N < 2 ^ m) (hk : (m + 7) / 8 ≤ k) : N < 256 ^ k := Nat.lt_of_lt_of_le (lt_bytes h) (Nat.pow_le_pow_right (by omega) hk)

/-- what is behind, when y (of k bits) is written behind -/
theorem put_low {m N y j : Nat} (hN : N < 2 ^ m) (hj : j < m / 8) : (N + 2 ^ m * y) / 256 ^ j % 256 = N / 256 ^ j % 256 := by
  have e : 2 ^ m * y = 256 ^ j * (256 * (2 ^ (m - 8 * j - 8) * y)) := by
    have : 2 ^ m = 256 ^ j * (256 * 2 ^ (m - 8 * j - 8)) := by
      rw [← pow256, show (256 : Nat) = 2 ^ 8 from rfl, ← Nat.pow_add, ← Nat.pow_add]; congr 1; omega
    rw [this, Nat.mul_assoc, Nat.mul_assoc]
  rw [e, Nat.add_mul_div_left _ _ (Nat.pow_pos (by omega)), Nat.add_mul_mod_self_left]
theorem or_div_mod (a b i : Nat) : (a ||| b) / 256 ^ i % 256 = (a / 256 ^ i % 256) ||| (b / 256 ^ i % 256) := by
  rw [← pow256, show (256 : Nat) = 2 ^ 8 from rfl]
  apply Nat.eq_of_testBit_eq
  intro k
  simp only [Nat.testBit_or, Nat.testBit_mod_two_pow, Nat.testBit_div_two_pow]
  by_cases h : k < 8 <;> simp [h]
theorem put_high {m N y i : Nat} (hN : N < 2 ^ m) : (N + 2 ^ m * y) / 256 ^ (m / 8 + i) % 256 = (N / 256 ^ (m / 8 + i) % 256) ||| (2 ^ (m % 8) * y / 256 ^ i % 256) := by
  have e : 2 ^ m = 256 ^ (m / 8) * 2 ^ (m % 8) := by rw [← pow256, ← Nat.pow_add]; congr 1; omega
  have h1 : N / 256 ^ (m / 8) < 2 ^ (m % 8) := by
    rw [Nat.div_lt_iff_lt_mul (Nat.pow_pos (by omega)), Nat.mul_comm, ← e]; exact hN
  rw [Nat.pow_add, ← Nat.div_div_eq_div_mul, ← Nat.div_div_eq_div_mul, e, Nat.mul_assoc, Nat.add_mul_div_left _ _ (Nat.pow_pos (by omega))]
  have h2 := Nat.two_pow_add_eq_or_of_lt h1 y
  rw [Nat.add_comm, h2, or_div_mod, Nat.or_comm]
theorem put_lt {m N k y : Nat} (hN : N < 2 ^ m) (hy : y < 2 ^ k) : N + 2 ^ m * y < 2 ^ (m + k) := by
  have h1 : 2 ^ m * (y + 1) ≤ 2 ^ m * 2 ^ k := Nat.mul_le_mul_left _ hy
  rw [Nat.pow_add]
  rw [Nat.mul_succ] at h1
  omega
theorem or_u8 (a b : Nat) (ha : a < 256) (hb : b < 256) : bits .or .u8 (a : Int) (b : Int) = ((a ||| b : Nat) : Int) := by
  have hx : a ||| b < 2 ^ 8 := Nat.or_lt_two_pow (by omega) (by omega)
  show IntKind.u8.wrap ((BitVec.ofInt 8 (a : Int) ||| BitVec.ofInt 8 (b : Int)).toNat : Int) = _
  rw [BitVec.toNat_or, BitVec.ofInt_natCast, BitVec.ofInt_natCast, BitVec.toNat_ofNat, BitVec.toNat_ofNat, Nat.mod_eq_of_lt (by omega), Nat.mod_eq_of_lt (by omega)]
  simp [IntKind.wrap, IntKind.signed, IntKind.bits]
  omega
end Go.Proofs.YtppgceighgpgoaaGreatDoor.bitnum
/-
  The contracts of bits.Writer: Write, lengthen, Bits, Code, Align, Bytes, Len. My own text.
-/
namespace Go.Proofs.YtppgceighgpgoaaGreatDoor.bitp
open Go.RowKit Go.Proofs.YtppgceighgpgoaaGreatDoor.base Go.Proofs.YtppgceighgpgoaaGreatDoor.num Go.Proofs.YtppgceighgpgoaaGreatDoor.bitnum
set_option linter.unusedVariables false

/-- m bits, the number N, are written -/
def WtrAt (w : World) (g N m : Nat) (bl : List Nat) : Prop := BufAt tWtr w g (low ((m + 7) / 8) N) m bl ∧ N < 2 ^ m
theorem WtrAt.fresh {w w' : World} {g N m : Nat} {bl : List Nat} (h : WtrAt w g N m bl) (k : Fresh w w') : WtrAt w' g N m bl := ⟨h.1.fresh k, h.2⟩
theorem WtrAt.turn {S S' : List Nat} {w w' : World} {g N m : Nat} {bl : List Nat} (h : WtrAt w g N m bl) (k : Turn S S' w w') (hS : ∀ b ∈ bl, b ∉ S) : WtrAt w' g N m bl := ⟨h.1.turn k hS, h.2⟩
def WtrIs (w : World) (g N m : Nat) (bl : List Nat) (w' : World) : Prop := ∃ bl', WtrAt w' g N m bl' ∧ Turn bl bl' w w'

/-- how long the row behind g is -/
def lenAt (w : World) (g : Nat) : Nat := match w.cell? ⟨g, 0, none⟩ with | some (.slice _ n _) => n | _ => 0
theorem BufAt.lenAt {T : TypeId} {w : World} {g : Nat} {bs : List UInt8} {p : Nat} {bl : List Nat} (h : BufAt T w g bs p bl) : lenAt w g = bs.length := by
  obtain ⟨A, c, rfl, hne, hb, ho⟩ := h
  have h0 : w.cell? ⟨g, 0, none⟩ = some (.slice A bs.length c) := hb.cell rfl
  unfold bitp.lenAt
  rw [h0]
/-- a byte of the row: where it is, what it reads, and when it is written -/
theorem BufAt.byte {T : TypeId} {w : World} {g : Nat} {bs : List UInt8} {p : Nat} {bl : List Nat} (h : BufAt T w g bs p bl) {j : Nat} {x : UInt8} (hj : bs[j]? = some x) :
    ∃ q c, w.cell? ⟨g, 0, none⟩ = some (.slice (some ⟨q, 0, none⟩) bs.length c) ∧ bs.length ≤ c ∧ c ≤ maxLen ∧ w.cell? ⟨q, j, none⟩ = some (bv x) ∧ w.frozen? ⟨q, j, none⟩ = false ∧
      ∀ u, BufAt T (w.setCell ⟨q, j, none⟩ (bv u)) g (bs.set j u) p bl ∧ Turn bl bl w (w.setCell ⟨q, j, none⟩ (bv u)) := by
  obtain ⟨A, c, rfl, hne, hb, ho⟩ := h
  have hlt : j < bs.length := (List.getElem?_eq_some_iff.1 hj).1
  obtain ⟨q, cap, hv, h0, hq⟩ := World.ownsRow.form ho (by omega)
  injection hv with hA _ _
  subst hA
  have hqg : q ≠ g := fun e => hne (by rw [← e]; rfl)
  have h1 : w.cell? ⟨g, 0, none⟩ = some (.slice (some ⟨q, 0, none⟩) bs.length c) := hb.cell rfl
  have hcap := ho.cap
  refine ⟨q, c, h1, hcap.1, hcap.2, ?_, ?_, fun u => ⟨⟨some ⟨q, 0, none⟩, c, ?_, ?_, ?_, ?_⟩, ?_⟩⟩
  · have := World.ownsRow.cells ho (g := q) rfl j (bv x) (by rw [List.getElem?_map, hj]; rfl)
    have hadd : (⟨q, 0, none⟩ : Addr).add j = ⟨q, 0 + j, none⟩ := by unfold Addr.add; split <;> simp_all
    rw [hadd, Nat.zero_add] at this
    exact this
  · rcases ho.2 with ⟨hv, hn⟩ | ⟨q', cap', cur, hv, _, hh, _⟩
    · omega
    · injection hv with hv _ _
      injection hv with hv
      injection hv with hv _ _
      subst hv
      simp [World.frozen?, hh]
  · rw [List.length_set]
  · rw [List.length_set]; exact hne
  · rw [List.length_set]; exact hb.apart (by simpa using fun e => hqg e.symm) _
  · rw [List.length_set, List.map_set]; exact (World.ownsRow.stored ho j (bv u)).1
  · exact Turn.but (But.put w (bv u)) (by simp [rb, Value.ownBlock])

theorem write_any (w : World) : Calls Tryz.prog 37 #[] w fun e w' => ∃ g bl, e = .returned (ptr g) ∧ WtrAt w' g 0 0 bl ∧ Since w w' bl := by
  go_enter Tryz.func37, Tryz.ntmps37
  go_wp2
  go_ret
  refine ⟨w.heap.size, [w.heap.size], rfl, ⟨⟨none, 0, rfl, by simp [Value.ownBlock], ?_, Own.nil _ _ _⟩, by omega⟩, Fresh.alloc _ _, by simp⟩
  exact Bk.made w tWtr #[.slice none 0 0, .int .i64 0]

set_option maxRecDepth 100000 in
theorem lengthen_any (g N m k : Nat) (bl : List Nat) (w : World) (h : WtrAt w g N m bl) (hm : m ≤ 1099511627776) (hk : k ≤ 64) :
    Calls Tryz.prog 49 #[ptr g, .int .i64 k] w fun e w' => e = .returned (.tuple #[]) ∧ WtrIs w g N (m + k) bl w' := by
  obtain ⟨i0, hi0, hz0, hz1, hz2⟩ := info_parts info_byte
  obtain ⟨M, hM⟩ : ∃ M, m + k = M := ⟨_, rfl⟩
  have hM2 : M ≤ 1099511627840 := by omega
  have hMi : (m : Int) + (k : Int) = (M : Int) := by omega
  have hNM : N < 2 ^ M := Nat.lt_of_lt_of_le h.2 (Nat.pow_le_pow_right (by omega) (by omega))
  have hlt := h.2
  have hs := h.1.set M
  obtain ⟨L0, hL0⟩ : ∃ L0, (m + 7) / 8 = L0 := ⟨_, rfl⟩
  have hL1 : 8 * L0 ≤ M + 7 := by omega
  have hNL : ∀ L, L0 ≤ L → N < 256 ^ L := fun L hL => lt_bytes' hlt (by omega)
  rw [hM]
  have HS := Lib.hid hs
  have HN := Lib.hid hNL
  have HNM := Lib.hid hNM
  obtain ⟨A, c, hbl, hne, hb, ho⟩ := h.1
  have h1 : w.cell? ⟨g, 1, none⟩ = some (.int .i64 m) := hb.cell rfl
  have hf := hb.free 1
  rw [hL0] at HS
  clear hs hNL hNM hlt hb ho hM hbl hne h
  go_enter Tryz.func49, Tryz.ntmps49
  go_wp2
  clear h1 hf
  have hst := HS.out.1
  have htu := HS.out.2
  go_loopw [17] (fun v wr => ∃ (L : Nat) (bl' : List Nat), L0 ≤ L ∧ 8 * L ≤ M + 7 ∧ BufAt tWtr wr g (low L N) M bl' ∧ Turn bl bl' w wr) (fun _ wr => (M + 8) - 8 * lenAt wr g)
  case atStart => exact ⟨L0, _, Nat.le_refl _, hL1, hst, htu⟩
  case round =>
    obtain ⟨L, bl', hL, hLM, hB, hT⟩ := hrel
    have hll : (low L N).length = L := low_length _ _
    have hlen := hB.lenAt
    rw [hll] at hlen
    have HB := Lib.hid hB
    have HT := Lib.hid hT
    obtain ⟨D, d, rfl, hne2, hb2, ho2⟩ := hB
    rw [hll] at hb2 ho2 hne2
    have h0 : wr.cell? ⟨g, 0, none⟩ = some (.slice D L d) := hb2.cell rfl
    have h1 : wr.cell? ⟨g, 1, none⟩ = some (.int .i64 M) := hb2.cell rfl
    by_cases hlt : 8 * L < M
    · have hd : decide ((8 : Int) * (L : Int) < (M : Int)) = true := decide_eq_true (by omega)
      go_wp2
      go_quiet (fail)
      obtain ⟨wq, hwq⟩ : ∃ wq, wr.drewN nq = wq := ⟨_, rfl⟩
      rw [hwq]
      have hfq : Fresh wr wq := by rw [← hwq]; exact Fresh.drewN _ _
      have hb3 := hb2.fresh hfq
      have ho3 := Own.fresh ho2 hfq
      have h0q : wq.cell? ⟨g, 0, none⟩ = some (.slice D L d) := hb3.cell rfl
      clear h0 h1 hwq
      go_wp2_with (first
        | (at_builtin; go_loud (refine wpList_append_rdx _ rfl (.tmp 27) (.tmp 28) 24 rfl 0 5 i0 _ 1 Tryz.underlying24 hi0 hz0 hz1 hz2 rfl D L d ((low L N).map bv) rfl (Own.fresh ho3 (Fresh.alloc _ _)) (wq.heap.size + 1) (some ⟨wq.heap.size, 0, none⟩) 1 1 [.int .u8 0] rfl (Rd.lit wq #[.int .u8 0] 5) (one_one _ _) (by unfold maxLen; omega) (by omega) (Nat.zero_le _) ?_); intro A1 c1 w1 ho1 hg1 hw1; have hb1 := (hb3.alloc _).grown hg1 hne2; have hf1 := hb1.free 0; have hc1 : w1.cell? ⟨g, 0, none⟩ = some (.slice D L d) := hb1.cell rfl))
      have hl2 : (low (L + 1) N).length = L + 1 := low_length _ _
      have hx : (low L N).map bv ++ [Value.int .u8 0] = (low (L + 1) N).map bv := by rw [← low_more L N (HN.out L hL), List.map_append]; rfl
      rw [hx] at ho1
      have hrow := BufAt.row (T := tWtr) (bs := low L N) (bs' := low (L + 1) N) (w := wq.alloc (.cells #[.int .u8 0] 5)) (w1 := w1) (p := M) (A := D) (c := d) (A' := A1) (c' := c1) (by rw [hll]; exact hne2) (by rw [hll]; exact hb3.alloc _) (by decide) (by rw [hl2]; exact ho1) (by rw [hll]; exact hg1) (by
        rw [hll, hl2]
        rcases hw1 with h | h
        · exact .inl (by rw [rb, h])
        · refine .inr fun b hb => ?_
          rw [rb, h] at hb
          simp only [Option.toList_some, List.mem_singleton] at hb
          omega)
      rw [hll, hl2] at hrow
      have hlen2 := hrow.1.lenAt
      rw [hl2] at hlen2
      have HR := Lib.hid hrow
      have HT2 := HT.out
      rw [hll] at HT2
      have hT3 := (HT2.trans (Turn.fresh hfq)).trans ((Turn.fresh (Fresh.alloc wq (.cells #[.int .u8 0] 5))).trans hrow.2)
      have HT3 := Lib.hid hT3
      clear hrow hT3 hx ho1 hg1 hw1 hb1 hf1 hc1
      go_roundw
      case rel => exact ⟨L + 1, _, by omega, by omega, HR.out.1, HT3.out⟩
      case measure => omega
    · have hd : decide ((8 : Int) * (L : Int) < (M : Int)) = false := decide_eq_false (by omega)
      go_wp2
      go_quiet (fail)
      go_wp2
      go_end0
      have hLL : L = (M + 7) / 8 := by omega
      rw [hLL] at HB HT
      exact ⟨rfl, _, ⟨HB.out.fresh (Fresh.drewN _ _), HNM.out⟩, HT.out.trans (Turn.fresh (Fresh.drewN _ _))⟩

theorem lengthen_is (g N m k M : Nat) (z : Int) (bl : List Nat) (w : World) (h : WtrAt w g N m bl) (hm : m ≤ 1099511627776) (hk : k ≤ 64) (hz : z = (k : Int)) (hM : m + k = M) :
    Calls Tryz.prog 49 #[ptr g, .int .i64 z] w fun e w' => e = .returned (.tuple #[]) ∧ WtrIs w g N M bl w' := by
  subst hz; subst hM
  exact lengthen_any g N m k bl w h hm hk

theorem bytes_any (g N m : Nat) (bl : List Nat) (w : World) (h : WtrAt w g N m bl) (hm : m ≤ 1099511627776) :
    Calls Tryz.prog 42 #[ptr g] w fun e w' => ∃ A c, e = .returned (.slice A ((m + 7) / 8) c) ∧ Fresh w w' ∧ Own w' w.heap.size 5 A ((m + 7) / 8) c ((low ((m + 7) / 8) N).map bv) := by
  obtain ⟨L, hL⟩ : ∃ L, (m + 7) / 8 = L := ⟨_, rfl⟩
  obtain ⟨hb0, hlt⟩ := h
  rw [hL] at hb0 ⊢
  obtain ⟨A, c, hbl, hne, hb, ho⟩ := hb0
  have hll : (low L N).length = L := low_length _ _
  rw [hll] at hb ho
  have h0 : w.cell? ⟨g, 0, none⟩ = some (.slice A L c) := hb.cell rfl
  have hL2 : L ≤ 1099511627776 := by omega
  have HR := Lib.hid ho.rd
  clear hbl hne hb ho hL hll
  go_enter Tryz.func42, Tryz.ntmps42
  go_wp2_with (go_at_call 64; refine (clone_any A L c (low L N) w w.heap.size HR.out (Nat.le_refl _) hL2).mono ?_; rintro e w1 ⟨A1, c1, rfl, hf1, ho1⟩)
  go_ret
  exact ⟨A1, c1, rfl, hf1, ho1⟩

set_option maxRecDepth 100000 in
theorem put_any (g N m k Y : Nat) (n v : Int) (bl : List Nat) (w : World) (h : WtrAt w g N m bl) (hm : m ≤ 1099511627776) (hk : held n = k) (hY : u64 v % 2 ^ k = Y) :
    Calls Tryz.prog 31 #[ptr g, .int .i64 n, .int .i64 v] w fun e w' => e = .returned (.tuple #[]) ∧ WtrIs w g (N + 2 ^ m * Y) (m + k) bl w' := by
  have hle := held_le n
  have hh : ∀ w, Calls Tryz.prog 48 #[.int .i64 n] w fun e w' => e = .returned (.int .i64 (held n)) ∧ w = w' := fun w => held_any n w
  rw [hk] at hh hle
  have HH := Lib.hid hh
  clear hh
  have hYl : Y < 2 ^ k := by rw [← hY]; exact Nat.mod_lt _ (Nat.pow_pos (by omega))
  have hp24 := pow24 hle
  obtain ⟨X, hX⟩ : ∃ X, 2 ^ (m % 8) * Y = X := ⟨_, rfl⟩
  have hXl : X < 2147483648 := by
    have h1 : 2 ^ (m % 8) ≤ 128 := by have := Nat.pow_le_pow_right (n := 2) (by omega) (show m % 8 ≤ 7 by omega); simpa using this
    have h2 : 2 ^ (m % 8) * Y ≤ 128 * 16777215 := Nat.mul_le_mul h1 (by omega)
    omega
  have hlow := lowest_is k v Y
  obtain ⟨F, hF⟩ : ∃ F, m / 8 = F := ⟨_, rfl⟩
  obtain ⟨M, hM⟩ : ∃ M, m + k = M := ⟨_, rfl⟩
  obtain ⟨L, hL⟩ : ∃ L, (M + 7) / 8 = L := ⟨_, rfl⟩
  have hFL : F ≤ L := by omega
  have hLb : L ≤ 1099511627776 := by omega
  obtain ⟨D, hD⟩ : ∃ D, L - F = D := ⟨_, rfl⟩
  have hD5 : D ≤ 5 := by omega
  have hM2 : M ≤ 1099511627800 := by omega
  rw [hM]
  have eX : wrap64 ((Y : Int) * 2 ^ (m % 8)) = (X : Int) := by
    have : (Y : Int) * 2 ^ (m % 8) = (X : Int) := by rw [← hX, Int.mul_comm]; simp
    rw [this]
    exact IntWalk.wrap64_in _ ⟨by omega, by omega⟩
  have HLOW := Lib.hid (fun w => hlow w hle hY)
  have e1 : ((m : Int) / 8) = (F : Int) := by omega
  obtain ⟨A, c, hbl, hne, hb, ho⟩ := h.1
  have h1 : w.cell? ⟨g, 1, none⟩ = some (.int .i64 m) := hb.cell rfl
  have HM := Lib.hid hM
  have HX := Lib.hid hX
  have HY := Lib.hid hYl
  have HF := Lib.hid hF
  have HL := Lib.hid hL
  have H := Lib.hid h
  clear hbl hne hb ho hlow hk hY hX hYl hF hL h
  go_enter Tryz.func31, Tryz.ntmps31
  go_wp2_with (first
    | (go_at_call 48; refine (HH.out _).mono ?_; rintro e w1 ⟨rfl, rfl⟩)
    | (go_at_call 49; refine (lengthen_is g N m k M _ bl w H.out hm (by omega) rfl HM.out).mono ?_; rintro e w1 ⟨rfl, bl1, hW1, hT1⟩; have HW := Lib.hid hW1; have hB1 := hW1.1; rw [HL.out] at hB1; have HB := Lib.hid hB1; obtain ⟨A1, c1, hbl1, hne1, hb1, ho1⟩ := hB1; rw [low_length] at hb1 ho1; have h01 : w1.cell? ⟨g, 0, none⟩ = some (.slice A1 L c1) := hb1.cell rfl; have hcap := ho1.cap; clear hbl1 hne1 hb1 ho1 hW1)
    | (go_at_call 50; refine (HLOW.out _).mono ?_; rintro e w2 ⟨rfl, rfl⟩))
  all_goals
    clear h01 h1 hcap eX e1
    go_loopw [38] (fun i wr => ∃ j : Nat, j ≤ D ∧ i = .int .i64 j ∧ BufAt tWtr wr g (mix L N (N + 2 ^ m * Y) (F + j)) M bl1 ∧ Turn bl1 bl1 w1 wr) (fun i _ => D - (intOf i).toNat)
    case atStart =>
      refine ⟨0, by omega, rfl, ?_, Turn.refl _ _⟩
      have := HB.out
      rwa [← mix_start (L := L) (N := N) (M := N + 2 ^ m * Y) (f := F) (fun j hj => put_low H.out.2 (by rw [HF.out]; exact hj))] at this
    case round =>
      obtain ⟨j, hj, rfl, hB, hT⟩ := hrel
      by_cases hlt : j < D
      · obtain ⟨ix, hix⟩ : ∃ ix, F + j = ix := ⟨_, rfl⟩
        rw [hix] at hB
        have hixL : ix < L := by omega
        have hget := mix_get (N := N) (M := N + 2 ^ m * Y) (k := ix) hixL
        rw [if_neg (by omega)] at hget
        obtain ⟨q, c2, h0, hc1, hc2, hcq, hfz, hst⟩ := hB.byte hget
        rw [mix_len] at h0 hc1
        have hs := hst (UInt8.ofNat ((N + 2 ^ m * Y) / 256 ^ ix % 256))
        rw [mix_set hixL] at hs
        have ha : N / 256 ^ ix % 256 < 256 := Nat.mod_lt _ (by omega)
        have hbb : X / 256 ^ j % 256 < 256 := Nat.mod_lt _ (by omega)
        have hcc : (N + 2 ^ m * Y) / 256 ^ ix % 256 < 256 := Nat.mod_lt _ (by omega)
        have hor := or_u8 _ _ ha hbb
        rw [← HX.out, ← hix, ← HF.out, ← put_high H.out.2, HF.out, hix, HX.out] at hor
        have e3 : (X : Int) / 2 ^ (8 * j) % 256 = ((X / 256 ^ j % 256 : Nat) : Int) := by rw [pow256i]; simp
        rw [bv, ofNat_toNat _ ha] at hcq
        rw [bv, ofNat_toNat _ hcc] at hs
        have e4 : (F : Int) + (j : Int) = (ix : Int) := by omega
        obtain ⟨a0, ha0⟩ : ∃ a0, N / 256 ^ ix % 256 = a0 := ⟨_, rfl⟩
        obtain ⟨b0, hb0⟩ : ∃ b0, X / 256 ^ j % 256 = b0 := ⟨_, rfl⟩
        obtain ⟨c0, hc0⟩ : ∃ c0, (N + 2 ^ m * Y) / 256 ^ ix % 256 = c0 := ⟨_, rfl⟩
        rw [ha0, hb0, hc0] at hor
        rw [ha0] at hcq ha
        rw [hb0] at e3 hbb
        rw [hc0] at hs hcc
        have HS := Lib.hid hs
        clear hget hst hs ha0 hb0 hc0
        go_wp2
        go_region
        all_goals
          go_wp2
          go_roundw
          case rel => exact ⟨j + 1, by omega, by go_num, by rw [← Nat.add_assoc, hix]; exact HS.out.1.fresh (Fresh.drew _), (hT.trans HS.out.2).trans (Turn.fresh (Fresh.drew _))⟩
          case measure => simp [intOf]; omega
      · have h2 : j = D := by omega
        subst h2
        go_wp2
        go_end0
        refine ⟨rfl, bl1, ⟨?_, ?_⟩, hT1.trans hT⟩
        · rw [show F + j = L by omega, mix_all] at hB
          rw [HL.out]
          exact hB
        · rw [← HM.out]
          exact put_lt H.out.2 HY.out
end Go.Proofs.YtppgceighgpgoaaGreatDoor.bitp
/-
  bits.Writer's Code, a writer that is not there; the reference's Bits, High, Bytes, Same; wakes. My own text.
-/
namespace Go.Proofs.YtppgceighgpgoaaGreatDoor.bitp
open Go.RowKit Go.Proofs.YtppgceighgpgoaaGreatDoor.base Go.Proofs.YtppgceighgpgoaaGreatDoor.num Go.Proofs.YtppgceighgpgoaaGreatDoor.bitnum
set_option linter.unusedVariables false

/-- the reference's Same, of two that are alike -/
theorem same_yes (A D : Option Addr) (n c d : Nat) (xs : List UInt8) (w : World) (B B' : Nat) (ha : Rd w B A n (xs.map bv)) (hd : Rd w B' D n (xs.map bv)) (hn : n ≤ maxLen) :
    Calls Tryz.prog 7 #[.slice A n c, .slice D n d] w fun e w' => e = .returned (.bool true) ∧ Fresh w w' := by
  unfold maxLen at hn
  go_enter Tryz.func7, Tryz.ntmps7
  go_wp2
  go_loopw [5] (fun i wr => ∃ (k q : Nat), k ≤ n ∧ i = .int .i64 k ∧ wr = w.drewN q) (fun i _ => n - (intOf i).toNat)
  case atStart => exact ⟨0, 0, by omega, rfl, rfl⟩
  case round =>
    obtain ⟨k, q, hk, rfl, rfl⟩ := hrel
    by_cases hlt : k < n
    · obtain ⟨b, off, x, rfl, hb, hx, hcx⟩ := ha.at_ hlt
      obtain ⟨b', off', x', rfl, hb', hx', hcx'⟩ := hd.at_ hlt
      have e : x = x' := by rw [hx] at hx'; injection hx'
      subst e
      clear hx hx' ha hd
      go_wp2
      go_quiet (fail)
      go_wp2
      go_roundw
      case rel => exact ⟨k + 1, _, by omega, by go_num, rfl⟩
      case measure => simp [intOf]; omega
    · go_wp2
      go_ret
      exact ⟨rfl, Fresh.drewN _ _⟩

theorem code_any (g N m k Y : Nat) (n v : Int) (bl : List Nat) (w : World) (h : WtrAt w g N m bl) (hm : m ≤ 1099511627776) (hk : held n = k) (hY : rev k (u64 v) = Y) :
    Calls Tryz.prog 52 #[ptr g, .int .i64 n, .int .i64 v] w fun e w' => e = .returned (.tuple #[]) ∧ WtrIs w g (N + 2 ^ m * Y) (m + k) bl w' := by
  have hle := held_le n
  have hh : ∀ w, Calls Tryz.prog 48 #[.int .i64 n] w fun e w' => e = .returned (.int .i64 (held n)) ∧ w = w' := fun w => held_any n w
  rw [hk] at hh hle
  have hYl : Y < 2 ^ k := by rw [← hY]; exact rev_lt _ _
  have hp := pow24 hle
  have ht : ∀ w, Calls Tryz.prog 73 #[.int .i64 k, .int .i64 v] w fun e w' => e = .returned (.int .i64 Y) ∧ w = w' := fun w => by rw [← hY]; exact turned_any k v w hle
  have hY2 : u64 (Y : Int) % 2 ^ k = Y := by rw [u64_nat _ (by omega), Nat.mod_eq_of_lt hYl]
  have HH := Lib.hid hh
  have HT := Lib.hid ht
  have HY := Lib.hid hY2
  have H := Lib.hid h
  clear hh ht hY hY2 hk h
  go_enter Tryz.func52, Tryz.ntmps52
  go_wp2_with (first
    | (go_at_call 48; refine (HH.out _).mono ?_; rintro e w1 ⟨rfl, rfl⟩)
    | (go_at_call 73; refine (HT.out _).mono ?_; rintro e w1 ⟨rfl, rfl⟩)
    | (go_at_call 31; refine (put_any g N m k Y _ _ bl w H.out hm (held_nat k hle) HY.out).mono ?_; rintro e w1 ⟨rfl, hW⟩))
  go_end0
  exact ⟨rfl, hW⟩

/-! a writer that is not there -/
theorem putw_nil (n v : Int) (w : World) : Calls Tryz.prog 31 #[.pointer none, .int .i64 n, .int .i64 v] w fun e w' => e = .returned (.tuple #[]) ∧ w = w' := by
  go_enter Tryz.func31, Tryz.ntmps31
  go_wp2
  exact bodyPost_ret (results_none rfl _ _ _) rfl ⟨rfl, rfl⟩
theorem code_nil (n v : Int) (w : World) : Calls Tryz.prog 52 #[.pointer none, .int .i64 n, .int .i64 v] w fun e w' => e = .returned (.tuple #[]) ∧ w = w' := by
  have hle := held_le n
  go_enter Tryz.func52, Tryz.ntmps52
  go_wp2_with (first
    | (go_at_call 48; refine (held_any n _).mono ?_; rintro e w1 ⟨rfl, rfl⟩)
    | (go_at_call 73; refine (turned_any (held n) v _ hle).mono ?_; rintro e w1 ⟨rfl, rfl⟩)
    | (go_at_call 31; refine (putw_nil _ _ _).mono ?_; rintro e w1 ⟨rfl, rfl⟩))
  go_end0
  exact ⟨rfl, rfl⟩
theorem bytes_nil (w : World) : Calls Tryz.prog 42 #[.pointer none] w fun e w' => e = .returned (.slice none 0 0) ∧ w = w' := by
  go_enter Tryz.func42, Tryz.ntmps42
  go_wp2
  go_ret
  exact ⟨rfl, rfl⟩

theorem bytes_is (g N m L : Nat) (bs : List UInt8) (bl : List Nat) (w : World) (h : WtrAt w g N m bl) (hm : m ≤ 1099511627776) (hL : (m + 7) / 8 = L) (hb : low L N = bs) :
    Calls Tryz.prog 42 #[ptr g] w fun e w' => ∃ A c, e = .returned (.slice A L c) ∧ Fresh w w' ∧ Own w' w.heap.size 5 A L c (bs.map bv) := by
  subst hL; subst hb
  exact bytes_any g N m bl w h hm

end Go.Proofs.YtppgceighgpgoaaGreatDoor.bitp
