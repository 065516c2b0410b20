/-
  An unpacker's input as bits: the contracts of spread, takeTimes, takeByte, takeLength. My own text.
-/
import Derived.Test.YtppgceighgpgoaaGreatDoorInfAt
namespace Go.Proofs.YtppgceighgpgoaaGreatDoor.infp
open Go.RowKit Go.Proofs.YtppgceighgpgoaaGreatDoor.base Go.Proofs.YtppgceighgpgoaaGreatDoor.num Go.Proofs.YtppgceighgpgoaaGreatDoor.bitnum Go.Proofs.YtppgceighgpgoaaGreatDoor.bitp Go.Proofs.YtppgceighgpgoaaGreatDoor.huffnum Go.Proofs.YtppgceighgpgoaaGreatDoor.huffp Go.Proofs.YtppgceighgpgoaaGreatDoor.infnum
set_option linter.unusedVariables false

/-- an unpacker, with a reader of the bytes bs at the bit p -/
structure Src (w : World) (g : Nat) (v : V) (q : Nat) (bs : List UInt8) (p : Nat) (rl : List Nat) : Prop where
  inf : InfAt w g v
  bit : v.bits = ptr q
  rdr : RdrAt w q bs p rl
  le : p ≤ 8 * bs.length
  sm : bs.length ≤ 1099511627776
def SrcIs (w : World) (g : Nat) (v : V) (q : Nat) (bs : List UInt8) (p : Nat) (rl : List Nat) (w' : World) : Prop := ∃ rl', Src w' g v q bs p rl' ∧ Turn (g :: rl) (g :: rl') w w'
section
variable {w w' w'' : World} {g q p p' : Nat} {v v' v'' : V} {bs : List UInt8} {rl : List Nat}
theorem Src.off (h : Src w g v q bs p rl) : g ∉ rl := by
  obtain ⟨A, c, rfl, hne, hb, ho⟩ := h.rdr
  intro hx
  rcases List.mem_cons.1 hx with e | hx
  · have h1 : w.heap[g]? = _ := h.inf
    have h2 : w.heap[q]? = _ := hb
    rw [e, h2] at h1
    injection h1 with h1
    injection h1 with _ ht
    exact absurd ht (by decide)
  · exact ho.ne_block h.inf (by decide) (by simpa using hx)
theorem turn_cons {S S' : List Nat} {w w' : World} (h : Turn S S' w w') (g : Nat) : Turn (g :: S) (g :: S') w w' where
  os := h.os
  tape := h.tape
  output := h.output
  size := h.size
  block k hk hS := h.block k hk fun hx => hS (List.mem_cons_of_mem _ hx)
  sub k hk := by
    rcases List.mem_cons.1 hk with rfl | hk
    · exact .inl (by simp)
    · exact (h.sub k hk).imp (List.mem_cons_of_mem _) id
theorem Src.moved (h : Src w g v q bs p rl) (k : RdrIs w q bs p' rl w') (hp : p' ≤ 8 * bs.length) : SrcIs w g v q bs p' rl w' := by
  obtain ⟨rl', hR, hT⟩ := k
  exact ⟨rl', ⟨h.inf.old (hT.block g h.inf.inside h.off), h.bit, hR, hp, h.sm⟩, turn_cons hT g⟩
theorem Src.same (h : Src w g v q bs p rl) : SrcIs w g v q bs p rl w := ⟨rl, h, Turn.refl _ _⟩
theorem Src.fresh (h : Src w g v q bs p rl) (k : Fresh w w') : Src w' g v q bs p rl := ⟨h.inf.fresh k, h.bit, h.rdr.fresh k, h.le, h.sm⟩
theorem Src.freshIs (h : Src w g v q bs p rl) (k : Fresh w w') : SrcIs w g v q bs p rl w' := ⟨rl, h.fresh k, Turn.fresh k⟩
theorem SrcIs.then (h : SrcIs w g v q bs p rl w') (k : ∀ rl', Src w' g v q bs p rl' → SrcIs w' g v' q bs p' rl' w'') : SrcIs w g v' q bs p' rl w'' := by
  obtain ⟨rl1, h1, t1⟩ := h
  obtain ⟨rl2, h2, t2⟩ := k rl1 h1
  exact ⟨rl2, h2, t1.trans t2⟩
/-- a field is set -/
theorem Src.put (h : Src w g v q bs p rl) (i : Nat) (u : Value) (hv : v'.cells = v.cells.set i u) (hb : v'.bits = v.bits) : SrcIs w g v' q bs p rl (w.setCell ⟨g, i, none⟩ u) := by
  refine ⟨rl, ⟨?_, by rw [hb]; exact h.bit, h.rdr.turn (S := [g]) (Turn.but (But.put _ _) (by simp)) (fun b hb' hx => ?_), h.le, h.sm⟩, Turn.but (But.put _ _) (by simp)⟩
  · have := h.inf.put i u
    rw [← hv] at this
    exact this
  · rw [List.mem_singleton] at hx
    subst hx
    exact h.off hb'
theorem Src.bits2 (h : Src w g v q bs p rl) : w.cell? ⟨g, 2, none⟩ = some (ptr q) := by rw [← h.bit]; exact h.inf.cell rfl
end

theorem bits_take_ok (q : Nat) (bs : List UInt8) (p : Nat) (bl : List Nat) (n v p' : Nat) (w : World) (h : RdrAt w q bs p bl) (hn : bs.length ≤ 1099511627776) (hk : n ≤ 24) (ht : take n (num bs) (8 * bs.length) p = .ok (v, p')) :
    Calls Tryz.prog 76 #[ptr q, .int .i64 n] w fun e w' => e = .returned (.tuple #[.int .i64 v, .bool true]) ∧ RdrIs w q bs p' bl w' := by
  unfold take at ht
  split at ht
  · rename_i hfit
    injection ht with ht
    injection ht with h1 h2
    subst h1; subst h2
    exact bits_ok q bs p bl n n _ w h hn (held_nat n hk) hfit rfl
  · cases ht
theorem bits_take_no (q : Nat) (bs : List UInt8) (p : Nat) (bl : List Nat) (n e : Nat) (w : World) (h : RdrAt w q bs p bl) (hp : p ≤ 8 * bs.length) (hn : bs.length ≤ 1099511627776) (hk : n ≤ 24) (ht : take n (num bs) (8 * bs.length) p = .error e) :
    Calls Tryz.prog 76 #[ptr q, .int .i64 n] w fun e w' => e = .returned (.tuple #[.int .i64 0, .bool false]) ∧ RdrIs w q bs p bl w' := by
  unfold take at ht
  split at ht
  · cases ht
  · rename_i hfit
    exact bits_no q bs p bl n w h hp hn (by rw [held_nat n hk]; omega)
theorem take_err {n U T p e : Nat} (h : take n U T p = .error e) : e = 3 := by
  unfold take at h
  split at h
  · cases h
  · injection h with h; exact h.symm
theorem take_lt {n U T p v p' : Nat} (h : take n U T p = .ok (v, p')) : v < 2 ^ n ∧ p' = p + n ∧ p' ≤ T := by
  unfold take at h
  split at h
  · injection h with h
    injection h with h1 h2
    subst h1; subst h2
    exact ⟨Nat.mod_lt _ (Nat.pow_pos (by omega)), rfl, by assumption⟩
  · cases h

section
variable {w : World} {g q p : Nat} {v : V} {bs : List UInt8} {rl : List Nat}
set_option maxRecDepth 100000 in
theorem takeByte_ok (h : Src w g v q bs p rl) {x p' : Nat} (ht : take 8 (num bs) (8 * bs.length) p = .ok (x, p')) :
    Calls Tryz.prog 56 #[ptr g] w fun e w' => e = .returned (.int .i64 0) ∧ SrcIs w g { v with one := UInt8.ofNat x } q bs p' rl w' := by
  have hc := h.bits2
  have hx := take_lt ht
  have hf9 := h.inf.free 9
  have hc9 : w.cell? ⟨g, 9, none⟩ = some (bv v.one) := h.inf.cell rfl
  obtain ⟨hx1, _, hx2⟩ := hx
  have hw8 : IntKind.u8.wrap (x : Int) = ((UInt8.ofNat x).toNat : Int) := by
    rw [IntKind.wrap_u8, UInt8.toNat_ofNat']; omega
  have HX := Lib.hid hx1
  clear hx1
  go_enter Tryz.func56, Tryz.ntmps56
  go_wp2_with (go_at_call 76; refine (bits_take_ok q bs p rl 8 x p' w h.rdr h.sm (by omega) ht).mono ?_; rintro e w1 ⟨rfl, hR⟩; have hS := h.moved hR hx2; obtain ⟨rl1, hS1, hT1⟩ := hS; have hf1 := hS1.inf.free 9; have hc1 : w1.cell? ⟨g, 9, none⟩ = some (bv v.one) := hS1.inf.cell rfl)
  go_ret
  refine ⟨rfl, SrcIs.then ⟨rl1, hS1, hT1⟩ fun rl' h' => h'.put 9 _ ?_ rfl⟩
  simp only [V.cells, List.set, bv, ← hw8, IntKind.wrap_u8]
set_option maxRecDepth 100000 in
theorem takeByte_no (h : Src w g v q bs p rl) {k : Nat} (ht : take 8 (num bs) (8 * bs.length) p = .error k) :
    Calls Tryz.prog 56 #[ptr g] w fun e w' => e = .returned (.int .i64 3) ∧ SrcIs w g v q bs p rl w' := by
  have hc := h.bits2
  go_enter Tryz.func56, Tryz.ntmps56
  go_wp2_with (go_at_call 76; refine (bits_take_no q bs p rl 8 k w h.rdr h.le h.sm (by omega) ht).mono ?_; rintro e w1 ⟨rfl, hR⟩)
  go_ret
  exact ⟨rfl, h.moved hR h.le⟩

/-- how a stored block begins -/
def lenP : Part Nat := also align fun _ => also (take 16) fun n => also (take 16) fun t => if n + t = 65535 then give n else fail 12
theorem xor_all {a b : Nat} (ha : a < 65536) (hb : b < 65536) : a ^^^ b = 65535 ↔ a + b = 65535 := by
  have h : a ^^^ (65535 - a) = 65535 := by
    apply Nat.eq_of_testBit_eq
    intro i
    rw [Nat.testBit_xor, show 65535 - a = 2 ^ 16 - (a + 1) by omega, Nat.testBit_two_pow_sub_succ (by omega), show 65535 = 2 ^ 16 - 1 by rfl, Nat.testBit_two_pow_sub_one]
    by_cases hi : i < 16
    · simp [hi]
    · have : a.testBit i = false := Nat.testBit_lt_two_pow (Nat.lt_of_lt_of_le ha (Nat.pow_le_pow_right (n := 2) (i := 16) (by omega) (by omega)))
      simp [hi, this]
  constructor
  · intro h2
    have h3 : a ^^^ (a ^^^ b) = a ^^^ (a ^^^ (65535 - a)) := by rw [h2, h]
    rw [← Nat.xor_assoc, ← Nat.xor_assoc, Nat.xor_self, Nat.zero_xor, Nat.zero_xor] at h3
    omega
  · intro h2
    rw [show b = 65535 - a by omega, h]
theorem xor_nat (a b : Nat) (ha : a < 65536) (hb : b < 65536) : bits .xor .i64 (a : Int) (b : Int) = ((a ^^^ b : Nat) : Int) := by
  have h3 : a ^^^ b < 65536 := Nat.xor_lt_two_pow (n := 16) ha hb
  show IntKind.i64.wrap ((BitVec.ofInt 64 (a : Int) ^^^ BitVec.ofInt 64 (b : Int)).toNat : Int) = _
  rw [BitVec.toNat_xor, ofInt_64 a (by omega), ofInt_64 b (by omega), IntKind.wrap_i64]
  omega
set_option maxRecDepth 100000 in
theorem takeLength_any (h : Src w g v q bs p rl) {r : Except Nat (Nat × Nat)} (hr : lenP (num bs) (8 * bs.length) p = r) :
    Calls Tryz.prog 77 #[ptr g] w fun e w' => match r with
      | .ok (n, p') => e = .returned (.int .i64 0) ∧ SrcIs w g { v with left := n, next := 1 } q bs p' rl w'
      | .error k => e = .returned (.int .i64 k) ∧ ∃ p', p ≤ p' ∧ SrcIs w g v q bs p' rl w' := by
  have hc := h.bits2
  have hle := h.le
  have hsm := h.sm
  obtain ⟨p1, hp1⟩ : ∃ p1, p + (8 - p % 8) % 8 = p1 := ⟨_, rfl⟩
  have hp2 : (p + 7) / 8 * 8 = p1 := by omega
  have hpp : p ≤ p1 := by omega
  have hle1 : p1 ≤ 8 * bs.length := by omega
  have hal : ∀ w, RdrAt w q bs p rl → Calls Tryz.prog 92 #[ptr q] w fun e w' => ∃ z, e = .returned (.int .i64 z) ∧ RdrIs w q bs p1 rl w' := fun w hR => (align_any q bs p rl w hR hle hsm).mono fun e w' ⟨he, hR'⟩ => ⟨_, he, by rw [hp1] at hR'; exact hR'⟩
  unfold lenP also align at hr
  simp only [hp2] at hr
  have HAL := Lib.hid hal
  clear hal hp1 hp2
  cases h1 : take 16 (num bs) (8 * bs.length) p1 with
  | error k =>
    rw [h1] at hr
    have hk := take_err h1
    subst hk
    subst hr
    go_enter Tryz.func77, Tryz.ntmps77
    go_wp2_with (first
      | (go_at_call 92; refine (HAL.out w h.rdr).mono ?_; rintro e w1 ⟨z, rfl, hR⟩; obtain ⟨rl1, hS1, hT1⟩ := h.moved hR hle1; have hc1 := hS1.bits2)
      | (go_at_call 76; refine (bits_take_no q bs p1 rl1 16 3 w1 hS1.rdr hS1.le hsm (by omega) h1).mono ?_; rintro e w2 ⟨rfl, hR2⟩; obtain ⟨rl2, hS2, hT2⟩ := hS1.moved hR2 hle1; have hc2 := hS2.bits2)
      | (go_at_call 76; refine (bits_take_no q bs p1 rl2 16 3 w2 hS2.rdr hS2.le hsm (by omega) h1).mono ?_; rintro e w3 ⟨rfl, hR3⟩; obtain ⟨rl3, hS3, hT3⟩ := hS2.moved hR3 hle1))
    go_ret
    exact ⟨rfl, p1, hpp, rl3, hS3, (hT1.trans hT2).trans hT3⟩
  | ok x =>
    obtain ⟨n, p2⟩ := x
    rw [h1] at hr
    simp only at hr
    obtain ⟨hn, hpe, hle2⟩ := take_lt h1
    cases h2 : take 16 (num bs) (8 * bs.length) p2 with
    | error k =>
      rw [h2] at hr
      have hk := take_err h2
      subst hk
      subst hr
      go_enter Tryz.func77, Tryz.ntmps77
      go_wp2_with (first
        | (go_at_call 92; refine (HAL.out w h.rdr).mono ?_; rintro e w1 ⟨z, rfl, hR⟩; obtain ⟨rl1, hS1, hT1⟩ := h.moved hR hle1; have hc1 := hS1.bits2)
        | (go_at_call 76; refine (bits_take_ok q bs p1 rl1 16 n p2 w1 hS1.rdr hsm (by omega) h1).mono ?_; rintro e w2 ⟨rfl, hR2⟩; obtain ⟨rl2, hS2, hT2⟩ := hS1.moved hR2 hle2; have hc2 := hS2.bits2)
        | (go_at_call 76; refine (bits_take_no q bs p2 rl2 16 3 w2 hS2.rdr hS2.le hsm (by omega) h2).mono ?_; rintro e w3 ⟨rfl, hR3⟩; obtain ⟨rl3, hS3, hT3⟩ := hS2.moved hR3 hle2))
      go_ret
      exact ⟨rfl, p2, by omega, rl3, hS3, (hT1.trans hT2).trans hT3⟩
    | ok x =>
      obtain ⟨t, p3⟩ := x
      rw [h2] at hr
      simp only at hr
      obtain ⟨ht, hpe3, hle3⟩ := take_lt h2
      have hxi := xor_nat n t hn ht
      have hxa := xor_all hn ht
      obtain ⟨x, hx⟩ : ∃ x, n ^^^ t = x := ⟨_, rfl⟩
      rw [hx] at hxi hxa
      have HT := Lib.hid ht
      have HN := Lib.hid hn
      have HX := Lib.hid hx
      have HP := Lib.hid hpe
      have HP3 := Lib.hid hpe3
      clear ht hn hx hpe hpe3
      by_cases hs : n + t = 65535
      · rw [if_pos hs] at hr
        change Except.ok (n, p3) = r at hr
        have hx2 := hxa.2 hs
        subst hx2
        subst hr
        have HS := Lib.hid hs
        clear hs hxa
        go_enter Tryz.func77, Tryz.ntmps77
        go_wp2_with (first
          | (go_at_call 92; refine (HAL.out w h.rdr).mono ?_; rintro e w1 ⟨z, rfl, hR⟩; obtain ⟨rl1, hS1, hT1⟩ := h.moved hR hle1; have hc1 := hS1.bits2)
          | (go_at_call 76; refine (bits_take_ok q bs p1 rl1 16 n p2 w1 hS1.rdr hsm (by omega) h1).mono ?_; rintro e w2 ⟨rfl, hR2⟩; obtain ⟨rl2, hS2, hT2⟩ := hS1.moved hR2 hle2; have hc2 := hS2.bits2)
          | (go_at_call 76; refine (bits_take_ok q bs p2 rl2 16 t p3 w2 hS2.rdr hsm (by omega) h2).mono ?_; rintro e w3 ⟨rfl, hR3⟩; obtain ⟨rl3, hS3, hT3⟩ := hS2.moved hR3 hle3; have hf7 := hS3.inf.free 7; have hf5 := hS3.inf.free 5; have hc7 : w3.cell? ⟨g, 7, none⟩ = some (iv v.left) := hS3.inf.cell rfl; have hc5 : w3.cell? ⟨g, 5, none⟩ = some (iv v.next) := hS3.inf.cell rfl))
        go_ret
        refine ⟨rfl, SrcIs.then ⟨rl3, hS3, (hT1.trans hT2).trans hT3⟩ fun rl' h' => SrcIs.then (h'.put (v' := { v with left := n }) 7 _ rfl rfl) fun rl2 h2 => h2.put 5 _ rfl rfl⟩
      · rw [if_neg hs] at hr
        change Except.error 12 = r at hr
        subst hr
        have hx2 : ¬ (x : Int) = 65535 := by
          intro e
          exact hs (hxa.1 (by omega))
        clear hs hxa
        go_enter Tryz.func77, Tryz.ntmps77
        go_wp2_with (first
          | (go_at_call 92; refine (HAL.out w h.rdr).mono ?_; rintro e w1 ⟨z, rfl, hR⟩; obtain ⟨rl1, hS1, hT1⟩ := h.moved hR hle1; have hc1 := hS1.bits2)
          | (go_at_call 76; refine (bits_take_ok q bs p1 rl1 16 n p2 w1 hS1.rdr hsm (by omega) h1).mono ?_; rintro e w2 ⟨rfl, hR2⟩; obtain ⟨rl2, hS2, hT2⟩ := hS1.moved hR2 hle2; have hc2 := hS2.bits2)
          | (go_at_call 76; refine (bits_take_ok q bs p2 rl2 16 t p3 w2 hS2.rdr hsm (by omega) h2).mono ?_; rintro e w3 ⟨rfl, hR3⟩; obtain ⟨rl3, hS3, hT3⟩ := hS2.moved hR3 hle3))
        go_ret
        exact ⟨rfl, p3, by have := HP.out; have := HP3.out; omega, rl3, hS3, (hT1.trans hT2).trans hT3⟩
/-- of 'spread' and its like: a number and an error -/
def NumIs (w : World) (g : Nat) (v : V) (q : Nat) (bs : List UInt8) (p : Nat) (rl : List Nat) (r : Except Nat (Nat × Nat)) (e : Ending) (w' : World) : Prop :=
  match r with
  | .ok (n, p') => e = .returned (.tuple #[.int .i64 (n : Nat), .int .i64 0]) ∧ SrcIs w g v q bs p' rl w'
  | .error k => e = .returned (.tuple #[.int .i64 0, .int .i64 (k : Nat)]) ∧ SrcIs w g v q bs p rl w'
set_option maxRecDepth 100000 in
theorem takeTimes_any (h : Src w g v q bs p rl) (k : Nat) {r : Except Nat (Nat × Nat)} (hr : timesP k (num bs) (8 * bs.length) p = r) :
    Calls Tryz.prog 108 #[ptr g, .int .i64 k] w (NumIs w g v q bs p rl r) := by
  have hc := h.bits2
  have hsm := h.sm
  unfold timesP also at hr
  obtain ⟨a, b, hab, ha, hb⟩ : ∃ a b : Nat, (k = 16 ∧ a = 2 ∧ b = 3 ∨ k = 17 ∧ a = 3 ∧ b = 3 ∨ k = 18 ∧ a = 7 ∧ b = 11 ∨ (k ≠ 16 ∧ k ≠ 17 ∧ k ≠ 18) ∧ a = 0 ∧ b = 1) ∧ (if k = 16 then 2 else if k = 17 then 3 else if k = 18 then 7 else 0) = a ∧ (if k = 16 then 3 else if k = 17 then 3 else if k = 18 then 11 else 1) = b := by
    by_cases h1 : k = 16
    · exact ⟨2, 3, .inl ⟨h1, rfl, rfl⟩, by simp [h1], by simp [h1]⟩
    · by_cases h2 : k = 17
      · exact ⟨3, 3, .inr (.inl ⟨h2, rfl, rfl⟩), by simp [h2], by simp [h2]⟩
      · by_cases h3 : k = 18
        · exact ⟨7, 11, .inr (.inr (.inl ⟨h3, rfl, rfl⟩)), by simp [h3], by simp [h3]⟩
        · exact ⟨0, 1, .inr (.inr (.inr ⟨⟨h1, h2, h3⟩, rfl, rfl⟩)), by simp [h1, h2, h3], by simp [h1, h2, h3]⟩
  rw [ha, hb] at hr
  have ha7 : a ≤ 7 := by omega
  have hb11 : b ≤ 11 := by omega
  clear ha hb
  cases ht : take a (num bs) (8 * bs.length) p with
  | error k' =>
    rw [ht] at hr
    have hk := take_err ht
    subst hk
    subst hr
    have hno : ∀ w, RdrAt w q bs p rl → Calls Tryz.prog 76 #[ptr q, .int .i64 a] w fun e w' => e = .returned (.tuple #[.int .i64 0, .bool false]) ∧ RdrIs w q bs p rl w' := fun w hR => bits_take_no q bs p rl a 3 w hR h.le hsm (by omega) ht
    have HNO := Lib.hid hno
    clear hno ht
    rcases hab with ⟨rfl, rfl, rfl⟩ | ⟨rfl, rfl, rfl⟩ | ⟨rfl, rfl, rfl⟩ | ⟨⟨h16, h17, h18⟩, rfl, rfl⟩
    all_goals
      go_enter Tryz.func108, Tryz.ntmps108
      go_wp2_with (go_at_call 76; refine (HNO.out w h.rdr).mono ?_; rintro e w1 ⟨rfl, hR⟩)
      go_ret2
      exact ⟨rfl, h.moved hR h.le⟩
  | ok x =>
    obtain ⟨t, p'⟩ := x
    rw [ht] at hr
    change Except.ok (b + t, p') = r at hr
    subst hr
    obtain ⟨ht1, _, hle⟩ := take_lt ht
    have ht2 : t < 128 := Nat.lt_of_lt_of_le ht1 (Nat.pow_le_pow_right (n := 2) (j := 7) (by omega) ha7)
    have hno : ∀ w, RdrAt w q bs p rl → Calls Tryz.prog 76 #[ptr q, .int .i64 a] w fun e w' => e = .returned (.tuple #[.int .i64 t, .bool true]) ∧ RdrIs w q bs p' rl w' := fun w hR => bits_take_ok q bs p rl a t p' w hR hsm (by omega) ht
    have HNO := Lib.hid hno
    have hti : (t : Int) ≤ 128 := by omega
    clear hno ht ht1 ht2
    rcases hab with ⟨rfl, rfl, rfl⟩ | ⟨rfl, rfl, rfl⟩ | ⟨rfl, rfl, rfl⟩ | ⟨⟨h16, h17, h18⟩, rfl, rfl⟩
    all_goals
      go_enter Tryz.func108, Tryz.ntmps108
      go_wp2_with (go_at_call 76; refine (HNO.out w h.rdr).mono ?_; rintro e w1 ⟨rfl, hR⟩)
      go_ret2
      exact ⟨rfl, h.moved hR hle⟩
end
end Go.Proofs.YtppgceighgpgoaaGreatDoor.infp
