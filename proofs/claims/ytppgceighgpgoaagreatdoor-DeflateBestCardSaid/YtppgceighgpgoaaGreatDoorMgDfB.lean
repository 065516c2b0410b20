import Derived.Test.YtppgceighgpgoaaGreatDoorDefSym
import Derived.Test.YtppgceighgpgoaaGreatDoorMgWtr
import Derived.Test.YtppgceighgpgoaaGreatDoorMgHuff
import Derived.Deep.RegionHeld3
/- Several of my own texts, one behind the other. -/
/-
  The contracts of symbol and distance. My own text.
-/
namespace Go.Proofs.YtppgceighgpgoaaGreatDoor.defp
open Go.RowKit Go.Maps Go.Proofs.YtppgceighgpgoaaGreatDoor.base Go.Proofs.YtppgceighgpgoaaGreatDoor.num Go.Proofs.YtppgceighgpgoaaGreatDoor.bitnum Go.Proofs.YtppgceighgpgoaaGreatDoor.bitp Go.Proofs.YtppgceighgpgoaaGreatDoor.infp
set_option linter.unusedVariables false
/-- a step as a value -/
abbrev stepV (s : Nat × Nat) : Value := .agg #[.int .u16 (s.1 : Nat), .int .u16 (s.2 : Nat)]
theorem code4_lt (v : Nat) (h : v < 255) : code_ v 4 < 28 := (long_all ⟨v, h⟩).1
set_option maxRecDepth 100000 in
set_option maxHeartbeats 4000000 in
theorem symbol_any (s : Nat × Nat) (h : Ok s) (w : World) :
    Calls Tryz.prog 43 #[stepV s] w fun e w' => e = .returned (.tuple #[.int .i64 (sy s : Nat), .int .i64 (syN s : Nat), .int .i64 (syV s : Nat)]) ∧ Fresh w w' := by
  obtain ⟨x, k⟩ := s
  by_cases h0 : k = 0
  · subst h0
    have hx : x ≤ 256 := by rcases h with h | h <;> simp only at h <;> omega
    have e1 : sy (x, 0) = x := rfl
    have e2 : syN (x, 0) = 0 := rfl
    have e3 : syV (x, 0) = 0 := rfl
    rw [e1, e2, e3]
    clear e1 e2 e3
    show Calls Tryz.prog 43 #[.agg #[.int .u16 x, .int .u16 0]] w fun e w' => e = .returned (.tuple #[.int .i64 x, .int .i64 0, .int .i64 0]) ∧ Fresh w w'
    go_enter Tryz.func43, Tryz.ntmps43
    go_wp2
    ((try simp only [Exit.inBlock, Exit.then]); refine bodyPost_ret (res3 rfl _ _ _) rfl ?_)
    exact ⟨rfl, Fresh.alloc _ _⟩
  · have hx : 3 ≤ x ∧ x ≤ 258 ∧ 1 ≤ k ∧ k ≤ 32768 := by rcases h with h | h <;> simp only at h <;> omega
    by_cases h1 : x = 258
    · subst h1
      have e1 : sy (258, k) = 285 := by simp [sy, h0]
      have e2 : syN (258, k) = 0 := by simp [syN, h0]
      have e3 : syV (258, k) = 0 := by simp [syV, h0]
      rw [e1, e2, e3]
      clear e1 e2 e3
      have h0' : ¬ (k : Int) = 0 := by omega
      show Calls Tryz.prog 43 #[.agg #[.int .u16 258, .int .u16 k]] w fun e w' => e = .returned (.tuple #[.int .i64 285, .int .i64 0, .int .i64 0]) ∧ Fresh w w'
      go_enter Tryz.func43, Tryz.ntmps43
      go_wp2
      ((try simp only [Exit.inBlock, Exit.then]); refine bodyPost_ret (res3 rfl _ _ _) rfl ?_)
      exact ⟨rfl, Fresh.alloc _ _⟩
    · obtain ⟨v, rfl⟩ : ∃ v, x = v + 3 := ⟨x - 3, by omega⟩
      have hv : v < 255 := by omega
      have e1 : sy (v + 3, k) = 257 + code_ v 4 := by simp [sy, h0, h1]
      have e2 : syN (v + 3, k) = own_ v 4 := by simp [syN, h0, h1]
      have e3 : syV (v + 3, k) = v % 2 ^ own_ v 4 := by simp [syV, h0, h1]
      rw [e1, e2, e3]
      clear e1 e2 e3
      have hf : ∀ W, Calls Tryz.prog 65 #[.int .i64 v, .int .i64 4] W fun e w' => e = .returned (.tuple #[.int .i64 (code_ v 4 : Nat), .int .i64 (own_ v 4 : Nat), .int .i64 (v % 2 ^ own_ v 4 : Nat)]) ∧ Fresh W w' := fun W => folded_any v 4 (.inl rfl) (by omega) W
      have hc := code4_lt v hv
      have HF := Lib.hid hf
      clear hf
      generalize code_ v 4 = co at *
      generalize own_ v 4 = ow at *
      generalize v % 2 ^ ow = vv at *
      obtain ⟨x, hx3⟩ : ∃ x, v + 3 = x := ⟨_, rfl⟩
      have hx4 : ¬ (x : Int) = 258 := by omega
      have hx5 : (x : Int) - 3 = v := by omega
      have h0' : ¬ (k : Int) = 0 := by omega
      show Calls Tryz.prog 43 #[.agg #[.int .u16 ((v + 3 : Nat) : Int), .int .u16 k]] w fun e w' => e = .returned (.tuple #[.int .i64 (257 + co : Nat), .int .i64 ow, .int .i64 vv]) ∧ Fresh w w'
      rw [hx3]
      have HC := Lib.hid hc
      have HX3 := Lib.hid hx3
      have e4 : IntKind.i64.wrap (257 + (co : Int)) = ((257 + co : Nat) : Int) := by rw [IntWalk.i64_in _ (by omega)]; push_cast; rfl
      have e5 : wrap64 (257 + (co : Int)) = ((257 + co : Nat) : Int) := by rw [IntWalk.wrap64_in _ ⟨by omega, by omega⟩]; push_cast; rfl
      have e6 : wrap64 (x : Int) = (x : Int) := IntWalk.wrap64_in _ ⟨by omega, by omega⟩
      have e7 : wrap64 ((x : Int) - 3) = (v : Int) := by rw [IntWalk.wrap64_in _ ⟨by omega, by omega⟩]; omega
      clear hx hc h hv h1 hx3 h0 hx5
      go_enter Tryz.func43, Tryz.ntmps43
      go_wp2_with (go_at_call 65; (with_reducible refine (HF.out _).mono ?_); rintro e w1 ⟨rfl, hf1⟩)
      ((try simp only [Exit.inBlock, Exit.then]); refine bodyPost_ret (res3 rfl _ _ _) rfl ?_)
      exact ⟨rfl, (Fresh.alloc _ _).trans hf1⟩
set_option maxRecDepth 100000 in
set_option maxHeartbeats 4000000 in
theorem distance_any (s : Nat × Nat) (h : 1 ≤ s.2 ∧ s.2 ≤ 32768) (w : World) :
    Calls Tryz.prog 44 #[stepV s] w fun e w' => e = .returned (.tuple #[.int .i64 (di s : Nat), .int .i64 (diN s : Nat), .int .i64 (diV s : Nat)]) ∧ Fresh w w' := by
  obtain ⟨y, k⟩ := s
  simp only at h
  unfold di diN diV
  simp only
  obtain ⟨v, rfl⟩ : ∃ v, k = v + 1 := ⟨k - 1, by omega⟩
  rw [Nat.add_sub_cancel]
  have hf : ∀ W, Calls Tryz.prog 65 #[.int .i64 v, .int .i64 2] W fun e w' => e = .returned (.tuple #[.int .i64 (code_ v 2 : Nat), .int .i64 (own_ v 2 : Nat), .int .i64 (v % 2 ^ own_ v 2 : Nat)]) ∧ Fresh W w' := fun W => folded_any v 2 (.inr rfl) (by omega) W
  have HF := Lib.hid hf
  clear hf
  generalize code_ v 2 = co at *
  generalize own_ v 2 = ow at *
  generalize v % 2 ^ ow = vv at *
  obtain ⟨x, hx3⟩ : ∃ x, v + 1 = x := ⟨_, rfl⟩
  show Calls Tryz.prog 44 #[.agg #[.int .u16 y, .int .u16 ((v + 1 : Nat) : Int)]] w fun e w' => e = .returned (.tuple #[.int .i64 co, .int .i64 ow, .int .i64 vv]) ∧ Fresh w w'
  rw [hx3]
  have e6 : wrap64 (x : Int) = (x : Int) := IntWalk.wrap64_in _ ⟨by omega, by omega⟩
  have e7 : wrap64 ((x : Int) - 1) = (v : Int) := by rw [IntWalk.wrap64_in _ ⟨by omega, by omega⟩]; omega
  clear h hx3
  go_enter Tryz.func44, Tryz.ntmps44
  go_wp2_with (go_at_call 65; (with_reducible refine (HF.out _).mono ?_); rintro e w1 ⟨rfl, hf1⟩)
  ((try simp only [Exit.inBlock, Exit.then]); refine bodyPost_ret (res3 rfl _ _ _) rfl ?_)
  exact ⟨rfl, (Fresh.alloc _ _).trans hf1⟩
end Go.Proofs.YtppgceighgpgoaaGreatDoor.defp
/-
  writing$1: what a step's bits are, and their writing. My own text.
-/
namespace Go.Proofs.YtppgceighgpgoaaGreatDoor.defp
open Go.RowKit Go.Maps Go.Proofs.YtppgceighgpgoaaGreatDoor.base Go.Proofs.YtppgceighgpgoaaGreatDoor.num Go.Proofs.YtppgceighgpgoaaGreatDoor.bitnum Go.Proofs.YtppgceighgpgoaaGreatDoor.bitp Go.Proofs.YtppgceighgpgoaaGreatDoor.huffnum Go.Proofs.YtppgceighgpgoaaGreatDoor.huffp
set_option linter.unusedVariables false
theorem own_le (v row : Nat) (h : v / row < 16384) : own_ v row ≤ 13 := log_le _ h
theorem syN_le (s : Nat × Nat) (h : Ok s) : syN s ≤ 13 := by
  unfold syN
  split
  · omega
  split
  · omega
  · refine own_le _ _ ?_
    rcases h with h | h <;> omega
theorem diN_le (s : Nat × Nat) (h : s.2 ≤ 32768) : diN s ≤ 13 := own_le _ _ (by omega)
theorem syV_lt (s : Nat × Nat) : syV s < 2 ^ syN s := by
  unfold syV syN
  split
  · omega
  split
  · omega
  · exact Nat.mod_lt _ (Nat.pow_pos (by omega))
theorem diV_lt (s : Nat × Nat) : diV s < 2 ^ diN s := Nat.mod_lt _ (Nat.pow_pos (by omega))
theorem Fs_le (ls : List Nat) (s : Nat) : (Fs ls 16 0 s).1 ≤ 15 := by
  unfold Fs
  split
  · split
    case isTrue h => simp only; omega
    case isFalse h => simp
  · simp
/-- a code, and bits of its own behind it: how many bits, and their number -/
def out1 (p : Nat × Nat) (o v : Nat) : Nat × Nat := (p.1 + o, rev p.1 (u64 (p.2 : Int)) + 2 ^ p.1 * v)
/-- a step's bits -/
def out (ls ld : List Nat) (s : Nat × Nat) : Nat × Nat :=
  let q := out1 (Fs ls 16 0 (sy s)) (syN s) (syV s)
  if s.2 = 0 then q else
    let r := out1 (Fs ld 16 0 (di s)) (diN s) (diV s)
    (q.1 + r.1, q.2 + 2 ^ q.1 * r.2)
/-- what a writer of steps leans on -/
structure Env (w : World) (bw bs bd gw gs gd : Nat) (ls ld bls bld : List Nat) (N m : Nat) (bl : List Nat) : Prop where
  b0 : Bk w bw 57 [ptr gw]
  b1 : Bk w bs 59 [ptr gs]
  b2 : Bk w bd 59 [ptr gd]
  wr : WtrAt w gw N m bl
  cs : CodeAt w gs ls bls
  cd : CodeAt w gd ld bld
  s0 : bw ∉ bl
  s1 : bs ∉ bl
  s2 : bd ∉ bl
  s3 : ∀ b ∈ bls, b ∉ bl
  s4 : ∀ b ∈ bld, b ∉ bl
theorem Env.turn {w w' : World} {bw bs bd gw gs gd : Nat} {ls ld bls bld : List Nat} {N m N' m' : Nat} {bl bl' : List Nat} (h : Env w bw bs bd gw gs gd ls ld bls bld N m bl) (k : Turn bl bl' w w') (hw : WtrAt w' gw N' m' bl') :
    Env w' bw bs bd gw gs gd ls ld bls bld N' m' bl' where
  b0 := h.b0.old (k.block _ h.b0.inside h.s0)
  b1 := h.b1.old (k.block _ h.b1.inside h.s1)
  b2 := h.b2.old (k.block _ h.b2.inside h.s2)
  wr := hw
  cs := h.cs.turn k h.s3
  cd := h.cd.turn k h.s4
  s0 := k.apart h.b0.inside h.s0
  s1 := k.apart h.b1.inside h.s1
  s2 := k.apart h.b2.inside h.s2
  s3 b hb := k.apart (h.cs.inside b hb) (h.s3 b hb)
  s4 b hb := k.apart (h.cd.inside b hb) (h.s4 b hb)
theorem Env.fresh {w w' : World} {bw bs bd gw gs gd : Nat} {ls ld bls bld : List Nat} {N m : Nat} {bl : List Nat} (h : Env w bw bs bd gw gs gd ls ld bls bld N m bl) (k : Fresh w w') :
    Env w' bw bs bd gw gs gd ls ld bls bld N m bl := h.turn (Turn.fresh k) (h.wr.fresh k)
theorem Env.c0 {w : World} {bw bs bd gw gs gd : Nat} {ls ld bls bld : List Nat} {N m : Nat} {bl : List Nat} (h : Env w bw bs bd gw gs gd ls ld bls bld N m bl) : w.cell? ⟨bw, 0, none⟩ = some (ptr gw) := h.b0.cell rfl
theorem Env.c1 {w : World} {bw bs bd gw gs gd : Nat} {ls ld bls bld : List Nat} {N m : Nat} {bl : List Nat} (h : Env w bw bs bd gw gs gd ls ld bls bld N m bl) : w.cell? ⟨bs, 0, none⟩ = some (ptr gs) := h.b1.cell rfl
theorem Env.c2 {w : World} {bw bs bd gw gs gd : Nat} {ls ld bls bld : List Nat} {N m : Nat} {bl : List Nat} (h : Env w bw bs bd gw gs gd ls ld bls bld N m bl) : w.cell? ⟨bd, 0, none⟩ = some (ptr gd) := h.b2.cell rfl
set_option maxRecDepth 100000 in
set_option maxHeartbeats 8000000 in
theorem writing_lit (bw bs bd gw gs gd : Nat) (ls ld bls bld : List Nat) (N m : Nat) (bl : List Nat) (x : Nat) (w : World) (h : Env w bw bs bd gw gs gd ls ld bls bld N m bl) (hx : x ≤ 256) (hm : m ≤ 1099511627000) (hs : x < ls.length) :
    Calls Tryz.prog 63 #[.agg #[.int .u16 x, .int .u16 0], ptr bw, ptr bs, ptr bd] w fun e w' => e = .returned (.tuple #[]) ∧ ∃ bl', Env w' bw bs bd gw gs gd ls ld bls bld (N + 2 ^ m * (out ls ld (x, 0)).2) (m + (out ls ld (x, 0)).1) bl' ∧ Turn bl bl' w w' := by
  have hok : Ok (x, 0) := .inl ⟨rfl, hx⟩
  have hsym : ∀ W, Calls Tryz.prog 43 #[.agg #[.int .u16 x, .int .u16 0]] W fun e w' => e = .returned (.tuple #[.int .i64 x, .int .i64 0, .int .i64 0]) ∧ Fresh W w' := fun W => symbol_any (x, 0) hok W
  obtain ⟨a, b, hab⟩ : ∃ a b, Fs ls 16 0 x = (a, b) := ⟨_, _, rfl⟩
  have ha : a ≤ 15 := by have := Fs_le ls x; rw [hab] at this; exact this
  obtain ⟨Y, hY⟩ : ∃ Y, rev a (u64 (b : Int)) = Y := ⟨_, rfl⟩
  have hout : out ls ld (x, 0) = (a, Y) := by
    show out1 (Fs ls 16 0 x) 0 0 = _
    rw [hab]
    unfold out1
    simp [hY]
  rw [hout]
  have HSYM := Lib.hid hsym
  have HAB := Lib.hid hab
  have HY := Lib.hid hY
  have H := Lib.hid h
  have HS := Lib.hid hs
  obtain ⟨v, hv⟩ : ∃ v, w.heap.size = v := ⟨_, rfl⟩
  have hvbl : v ∉ bl := fun hh => by have := h.wr.1.inside v hh; omega
  have hbv := Bk.made w 54 #[.int .u16 x, .int .u16 0]
  rw [hv] at hbv
  have HBV := Lib.hid hbv
  have HVB := Lib.hid hvbl
  have hfv := Fresh.alloc w (.cells #[.int .u16 x, .int .u16 0] 54)
  have HFV := Lib.hid hfv
  have hheld := held_nat a (by omega)
  have HHELD := Lib.hid hheld
  clear hsym hab hY h hs hok hout hx hbv hvbl hfv hheld
  go_enter Tryz.func63, Tryz.ntmps63
  go_upto_region 2 with (go_at_call 43; (with_reducible refine (HSYM.out _).mono ?_); rintro e w1 ⟨rfl, hf1⟩; have hE1 := H.out.fresh (HFV.out.trans hf1); have hbv1 := HBV.out.fresh hf1; have hk1 : (w1.drew).cell? ⟨bw, 0, none⟩ = some (ptr gw) ∧ (w1.drew).cell? ⟨bs, 0, none⟩ = some (ptr gs) := ⟨(hE1.fresh (Fresh.drew _)).c0, (hE1.fresh (Fresh.drew _)).c1⟩; have HE1 := Lib.hid hE1; have HBV1 := Lib.hid hbv1; have HF1 := Lib.hid hf1; clear hE1 hbv1 hf1)
  go_region_held3 (fun w' => w'.cell? ⟨bw, 0, none⟩ = some (ptr gw) ∧ w'.cell? ⟨bs, 0, none⟩ = some (ptr gs)) (first | exact hk1 | exact HK2.out | exact HK3.out)
    (first
    | (go_at_call 53; (refine (code_in gs ls bls x a b _ (HE1.out.fresh (Fresh.drew _)).cs HS.out HAB.out).mono ?_); rintro e w2 ⟨rfl, hf2⟩; have hE2 := HE1.out.fresh ((Fresh.drew _).trans hf2); have HK2 := Lib.hid (show w2.cell? ⟨bw, 0, none⟩ = some (ptr gw) ∧ w2.cell? ⟨bs, 0, none⟩ = some (ptr gs) from ⟨hE2.c0, hE2.c1⟩); have HE2 := Lib.hid hE2; have HF2 := Lib.hid ((Fresh.drew _).trans hf2); clear hE2 hf2)
    | (go_at_call 52; (refine (code_any gw N m a Y a b bl _ HE2.out.wr (by omega) HHELD.out HY.out).mono ?_); rintro e w3 ⟨rfl, bl3, hW3, hT3⟩; have hE3 := HE2.out.turn hT3 hW3; have HK3 := Lib.hid (show w3.cell? ⟨bw, 0, none⟩ = some (ptr gw) ∧ w3.cell? ⟨bs, 0, none⟩ = some (ptr gs) from ⟨hE3.c0, hE3.c1⟩); have HE3 := Lib.hid hE3; have HT3 := Lib.hid hT3; clear hE3 hT3 hW3))
  have hc3 := HE3.out.c0
  have hvb3 := HT3.out.apart (HBV1.out.fresh HF2.out).inside HVB.out
  have hbv3 := (HBV1.out.fresh HF2.out).old (HT3.out.block v (HBV1.out.fresh HF2.out).inside HVB.out)
  have HVB3 := Lib.hid hvb3
  have HBV3 := Lib.hid hbv3
  clear hk1 hvb3 hbv3
  go_wp2_with (go_at_call 31; (refine (put_any gw (N + 2 ^ m * Y) (m + a) 0 0 0 0 bl3 _ HE3.out.wr (by omega) rfl rfl).mono ?_); rintro e w4 ⟨rfl, bl4, hW4, hT4⟩; have hE4 := HE3.out.turn hT4 hW4; have hcv : w4.cell? ⟨v, 1, none⟩ = some (.int .u16 0) := (HBV3.out.old (hT4.block v HBV3.out.inside HVB3.out)).cell rfl; have HE4 := Lib.hid hE4; have HT4 := Lib.hid hT4; clear hE4 hT4 hW4)
  go_end0
  have hE4 := HE4.out
  rw [Nat.mul_zero, Nat.add_zero, Nat.add_zero] at hE4
  exact ⟨rfl, bl4, hE4, ((Turn.fresh ((HFV.out.trans HF1.out).trans HF2.out)).trans HT3.out).trans HT4.out⟩
set_option maxRecDepth 100000 in
set_option maxHeartbeats 8000000 in
theorem writing_copy (bw bs bd gw gs gd : Nat) (ls ld bls bld : List Nat) (N m : Nat) (bl : List Nat) (x k : Nat) (w : World) (h : Env w bw bs bd gw gs gd ls ld bls bld N m bl) (hx : 3 ≤ x ∧ x ≤ 258 ∧ 1 ≤ k ∧ k ≤ 32768) (hm : m ≤ 1099511627000) (hs : sy (x, k) < ls.length) (hd : di (x, k) < ld.length) :
    Calls Tryz.prog 63 #[.agg #[.int .u16 x, .int .u16 k], ptr bw, ptr bs, ptr bd] w fun e w' => e = .returned (.tuple #[]) ∧ ∃ bl', Env w' bw bs bd gw gs gd ls ld bls bld (N + 2 ^ m * (out ls ld (x, k)).2) (m + (out ls ld (x, k)).1) bl' ∧ Turn bl bl' w w' := by
  have hok : Ok (x, k) := .inr hx
  have hsym : ∀ W, Calls Tryz.prog 43 #[.agg #[.int .u16 x, .int .u16 k]] W fun e w' => e = .returned (.tuple #[.int .i64 (sy (x, k) : Nat), .int .i64 (syN (x, k) : Nat), .int .i64 (syV (x, k) : Nat)]) ∧ Fresh W w' := fun W => symbol_any (x, k) hok W
  have hdis : ∀ W, Calls Tryz.prog 44 #[.agg #[.int .u16 x, .int .u16 k]] W fun e w' => e = .returned (.tuple #[.int .i64 (di (x, k) : Nat), .int .i64 (diN (x, k) : Nat), .int .i64 (diV (x, k) : Nat)]) ∧ Fresh W w' := fun W => distance_any (x, k) hx.2.2 W
  obtain ⟨a, b, hab⟩ : ∃ a b, Fs ls 16 0 (sy (x, k)) = (a, b) := ⟨_, _, rfl⟩
  obtain ⟨a', b', hab'⟩ : ∃ a b, Fs ld 16 0 (di (x, k)) = (a, b) := ⟨_, _, rfl⟩
  have ha : a ≤ 15 := by have := Fs_le ls (sy (x, k)); rw [hab] at this; exact this
  have ha' : a' ≤ 15 := by have := Fs_le ld (di (x, k)); rw [hab'] at this; exact this
  have ho := syN_le (x, k) hok
  have ho' := diN_le (x, k) hx.2.2.2
  have hv0 := syV_lt (x, k)
  have hv0' := diV_lt (x, k)
  obtain ⟨Y, hY⟩ : ∃ Y, rev a (u64 (b : Int)) = Y := ⟨_, rfl⟩
  obtain ⟨Y', hY'⟩ : ∃ Y, rev a' (u64 (b' : Int)) = Y := ⟨_, rfl⟩
  have hout : out ls ld (x, k) = (a + syN (x, k) + (a' + diN (x, k)), Y + 2 ^ a * syV (x, k) + 2 ^ (a + syN (x, k)) * (Y' + 2 ^ a' * diV (x, k))) := by
    unfold out out1
    rw [hab, hab']
    simp only
    rw [if_neg (by omega), hY, hY']
  rw [hout]
  clear hout hok
  generalize sy (x, k) = sx at *
  generalize syN (x, k) = o at *
  generalize syV (x, k) = u at *
  generalize di (x, k) = dx at *
  generalize diN (x, k) = o' at *
  generalize diV (x, k) = u' at *
  have hkz : decide ((0 : Int) < (k : Int)) = true := decide_eq_true (by omega)
  have hkz2 : 0 < k := by omega
  have hu : u64 (u : Int) % 2 ^ o = u := by
    have := (pow24 (k := o) (by omega)).2
    have h1 : u64 (u : Int) = u := by unfold u64; omega
    rw [h1, Nat.mod_eq_of_lt hv0]
  have hu' : u64 (u' : Int) % 2 ^ o' = u' := by
    have := (pow24 (k := o') (by omega)).2
    have h1 : u64 (u' : Int) = u' := by unfold u64; omega
    rw [h1, Nat.mod_eq_of_lt hv0']
  have HSYM := Lib.hid hsym
  have HDIS := Lib.hid hdis
  have HAB := Lib.hid hab
  have HAB' := Lib.hid hab'
  have HY := Lib.hid hY
  have HY' := Lib.hid hY'
  have HU := Lib.hid hu
  have HU' := Lib.hid hu'
  have H := Lib.hid h
  have HS := Lib.hid hs
  have HD := Lib.hid hd
  obtain ⟨v, hv⟩ : ∃ v, w.heap.size = v := ⟨_, rfl⟩
  have hvbl : v ∉ bl := fun hh => by have := h.wr.1.inside v hh; omega
  have hbv := Bk.made w 54 #[.int .u16 x, .int .u16 k]
  rw [hv] at hbv
  have HBV := Lib.hid hbv
  have HVB := Lib.hid hvbl
  have hfv := Fresh.alloc w (.cells #[.int .u16 x, .int .u16 k] 54)
  have HFV := Lib.hid hfv
  have hheld := held_nat a (by omega)
  have hheld' := held_nat a' (by omega)
  have hheldo := held_nat o (by omega)
  have hheldo' := held_nat o' (by omega)
  have HHELD := Lib.hid hheld
  have HHELD' := Lib.hid hheld'
  have HHELDO := Lib.hid hheldo
  have HHELDO' := Lib.hid hheldo'
  clear hsym hdis hab hab' hY hY' h hs hd hx hbv hvbl hfv hheld hheld' hheldo hheldo' hu hu' hv0 hv0'
  go_enter Tryz.func63, Tryz.ntmps63
  go_upto_region 2 with (go_at_call 43; (with_reducible refine (HSYM.out _).mono ?_); rintro e w1 ⟨rfl, hf1⟩; have hE1 := H.out.fresh (HFV.out.trans hf1); have hbv1 := HBV.out.fresh hf1; have hk1 : (w1.drew).cell? ⟨bw, 0, none⟩ = some (ptr gw) ∧ (w1.drew).cell? ⟨bs, 0, none⟩ = some (ptr gs) := ⟨(hE1.fresh (Fresh.drew _)).c0, (hE1.fresh (Fresh.drew _)).c1⟩; have HE1 := Lib.hid hE1; have HBV1 := Lib.hid hbv1; have HF1 := Lib.hid hf1; clear hE1 hbv1 hf1)
  go_region_held3 (fun w' => w'.cell? ⟨bw, 0, none⟩ = some (ptr gw) ∧ w'.cell? ⟨bs, 0, none⟩ = some (ptr gs)) (first | exact hk1 | exact HK2.out | exact HK3.out)
    (first
    | (go_at_call 53; (refine (code_in gs ls bls sx a b _ (HE1.out.fresh (Fresh.drew _)).cs HS.out HAB.out).mono ?_); rintro e w2 ⟨rfl, hf2⟩; have hE2 := HE1.out.fresh ((Fresh.drew _).trans hf2); have HK2 := Lib.hid (show w2.cell? ⟨bw, 0, none⟩ = some (ptr gw) ∧ w2.cell? ⟨bs, 0, none⟩ = some (ptr gs) from ⟨hE2.c0, hE2.c1⟩); have HE2 := Lib.hid hE2; have HF2 := Lib.hid ((Fresh.drew _).trans hf2); clear hE2 hf2)
    | (go_at_call 52; (refine (code_any gw N m a Y a b bl _ HE2.out.wr (by omega) HHELD.out HY.out).mono ?_); rintro e w3 ⟨rfl, bl3, hW3, hT3⟩; have hE3 := HE2.out.turn hT3 hW3; have HK3 := Lib.hid (show w3.cell? ⟨bw, 0, none⟩ = some (ptr gw) ∧ w3.cell? ⟨bs, 0, none⟩ = some (ptr gs) from ⟨hE3.c0, hE3.c1⟩); have HE3 := Lib.hid hE3; have HT3 := Lib.hid hT3; clear hE3 hT3 hW3))
  have hc3 := HE3.out.c0
  have hvb3 := HT3.out.apart (HBV1.out.fresh HF2.out).inside HVB.out
  have hbv3 := (HBV1.out.fresh HF2.out).old (HT3.out.block v (HBV1.out.fresh HF2.out).inside HVB.out)
  have HVB3 := Lib.hid hvb3
  have HBV3 := Lib.hid hbv3
  clear hk1 hvb3 hbv3
  go_upto_region 6 with (first
    | (go_at_call 31; (refine (put_any gw (N + 2 ^ m * Y) (m + a) o u o u bl3 _ HE3.out.wr (by omega) HHELDO.out HU.out).mono ?_); rintro e w4 ⟨rfl, bl4, hW4, hT4⟩; have hE4 := HE3.out.turn hT4 hW4; have hbv4 := HBV3.out.old (hT4.block v HBV3.out.inside HVB3.out); have hcv : w4.cell? ⟨v, 1, none⟩ = some (.int .u16 k) := hbv4.cell rfl; have hcv0 : w4.cell? ⟨v, 0, none⟩ = some (.int .u16 x) := hbv4.cell rfl; have HVB4 := Lib.hid (hT4.apart HBV3.out.inside HVB3.out); have HBV4 := Lib.hid hbv4; have HE4 := Lib.hid hE4; have HT4 := Lib.hid hT4; clear hE4 hT4 hW4 hbv4)
    | (go_at_call 44; (with_reducible refine (HDIS.out _).mono ?_); rintro e w5 ⟨rfl, hf5⟩; have hE5 := HE4.out.fresh hf5; have hk5 : (w5.drew).cell? ⟨bw, 0, none⟩ = some (ptr gw) ∧ (w5.drew).cell? ⟨bd, 0, none⟩ = some (ptr gd) := ⟨(hE5.fresh (Fresh.drew _)).c0, (hE5.fresh (Fresh.drew _)).c2⟩; have HE5 := Lib.hid hE5; have HF5 := Lib.hid hf5; clear hE5 hf5))
  go_region_held3 (fun w' => w'.cell? ⟨bw, 0, none⟩ = some (ptr gw) ∧ w'.cell? ⟨bd, 0, none⟩ = some (ptr gd)) (first | exact hk5 | exact HK6.out | exact HK7.out)
    (first
    | (go_at_call 53; (refine (code_in gd ld bld dx a' b' _ (HE5.out.fresh (Fresh.drew _)).cd HD.out HAB'.out).mono ?_); rintro e w6 ⟨rfl, hf6⟩; have hE6 := HE5.out.fresh ((Fresh.drew _).trans hf6); have HK6 := Lib.hid (show w6.cell? ⟨bw, 0, none⟩ = some (ptr gw) ∧ w6.cell? ⟨bd, 0, none⟩ = some (ptr gd) from ⟨hE6.c0, hE6.c2⟩); have HE6 := Lib.hid hE6; have HF6 := Lib.hid ((Fresh.drew _).trans hf6); clear hE6 hf6)
    | (go_at_call 52; (refine (code_any gw _ (m + a + o) a' Y' a' b' bl4 _ HE6.out.wr (by omega) HHELD'.out HY'.out).mono ?_); rintro e w7 ⟨rfl, bl7, hW7, hT7⟩; have hE7 := HE6.out.turn hT7 hW7; have HK7 := Lib.hid (show w7.cell? ⟨bw, 0, none⟩ = some (ptr gw) ∧ w7.cell? ⟨bd, 0, none⟩ = some (ptr gd) from ⟨hE7.c0, hE7.c2⟩); have HE7 := Lib.hid hE7; have HT7 := Lib.hid hT7; clear hE7 hT7 hW7))
  have hc7 := HE7.out.c0
  go_wp2_with (go_at_call 31; (refine (put_any gw _ (m + a + o + a') o' u' o' u' bl7 _ HE7.out.wr (by omega) HHELDO'.out HU'.out).mono ?_); rintro e w8 ⟨rfl, bl8, hW8, hT8⟩; have hE8 := HE7.out.turn hT8 hW8; have HE8 := Lib.hid hE8; have HT8 := Lib.hid hT8; clear hE8 hT8 hW8)
  go_end0
  have hE8 := HE8.out
  have e1 : N + 2 ^ m * Y + 2 ^ (m + a) * u + 2 ^ (m + a + o) * Y' + 2 ^ (m + a + o + a') * u' = N + 2 ^ m * (Y + 2 ^ a * u + 2 ^ (a + o) * (Y' + 2 ^ a' * u')) := by
    simp only [Nat.pow_add, Nat.mul_add, Nat.mul_assoc, Nat.add_assoc]
  have e2 : m + a + o + a' + o' = m + (a + o + (a' + o')) := by omega
  rw [e1, e2] at hE8
  exact ⟨rfl, bl8, hE8, ((((((Turn.fresh ((HFV.out.trans HF1.out).trans HF2.out)).trans HT3.out).trans HT4.out).trans (Turn.fresh (HF5.out.trans HF6.out))).trans HT7.out).trans HT8.out)⟩
/-- writing$1: a step is written -/
theorem writing_any (bw bs bd gw gs gd : Nat) (ls ld bls bld : List Nat) (N m : Nat) (bl : List Nat) (s : Nat × Nat) (w : World) (h : Env w bw bs bd gw gs gd ls ld bls bld N m bl) (hok : Ok s) (hm : m ≤ 1099511627000) (hs : sy s < ls.length) (hd : s.2 ≠ 0 → di s < ld.length) :
    Calls Tryz.prog 63 #[stepV s, ptr bw, ptr bs, ptr bd] w fun e w' => e = .returned (.tuple #[]) ∧ ∃ bl', Env w' bw bs bd gw gs gd ls ld bls bld (N + 2 ^ m * (out ls ld s).2) (m + (out ls ld s).1) bl' ∧ Turn bl bl' w w' := by
  obtain ⟨x, k⟩ := s
  rcases hok with ⟨h1, h2⟩ | h1
  · simp only at h1 h2
    subst h1
    exact writing_lit bw bs bd gw gs gd ls ld bls bld N m bl x w h h2 hm hs
  · exact writing_copy bw bs bd gw gs gd ls ld bls bld N m bl x k w h h1 hm hs (hd (by simp only at h1 ⊢; omega))
end Go.Proofs.YtppgceighgpgoaaGreatDoor.defp
/-
  begun, writing, ended: the bits of all steps. My own text.
-/
namespace Go.Proofs.YtppgceighgpgoaaGreatDoor.defp
open Go.RowKit Go.Maps Go.Proofs.YtppgceighgpgoaaGreatDoor.base Go.Proofs.YtppgceighgpgoaaGreatDoor.num Go.Proofs.YtppgceighgpgoaaGreatDoor.bitnum Go.Proofs.YtppgceighgpgoaaGreatDoor.bitp Go.Proofs.YtppgceighgpgoaaGreatDoor.huffnum Go.Proofs.YtppgceighgpgoaaGreatDoor.huffp
set_option linter.unusedVariables false
theorem scells_at : ∀ (l : List (Nat × Nat)) (i : Nat) (s : Nat × Nat), l[i]? = some s → ∀ (j : Nat) (v : Value), (scell s)[j]? = some v → (scells l)[i * 2 + j]? = some v
  | a :: r, 0, s, h, j, v, hv => by
    injection h with h
    subst h
    show (scell a ++ scells r)[0 * 2 + j]? = _
    rw [Nat.zero_mul, Nat.zero_add, List.getElem?_append_left (List.getElem?_eq_some_iff.1 hv).1]
    exact hv
  | a :: r, i + 1, s, h, j, v, hv => by
    have ih := scells_at r i s h j v hv
    show (scell a ++ scells r)[(i + 1) * 2 + j]? = _
    rw [List.getElem?_append_right (by show 2 ≤ _; omega), show (i + 1) * 2 + j - (scell a).length = i * 2 + j by show _ - 2 = _; omega]
    exact ih
theorem Own2.at_ {w : World} {base n c : Nat} {A : Option Addr} {l : List (Nat × Nat)} (h : Own2 w base A n c l) {i : Nat} {s : Nat × Nat} (hs : l[i]? = some s) :
    ∃ g, A = some ⟨g, 0, none⟩ ∧ w.rangeAt g (i * 2) (scell s) := by
  have hl := h.len
  have hi : i < n := by rw [← hl]; exact (List.getElem?_eq_some_iff.1 hs).1
  rcases h.2 with ⟨_, hn⟩ | ⟨g, cap, cur, hv, hb, hg, h1, h2, h3, h4⟩
  · omega
  · injection hv with hA _ _
    refine ⟨g, hA, fun j v hj => ?_⟩
    have hc := scells_at l i s hs j v hj
    rw [← h4, List.getElem?_take] at hc
    split at hc
    · rw [cell_of_row w g (i * 2 + j) _ _ (0, 0) hg]
      rw [← hc]
      simp
    · cases hc
/-- the bits of all steps -/
def outs (ls ld : List Nat) : List (Nat × Nat) → Nat × Nat
  | [] => (0, 0)
  | s :: r => ((out ls ld s).1 + (outs ls ld r).1, (out ls ld s).2 + 2 ^ (out ls ld s).1 * (outs ls ld r).2)
theorem outs_snoc (ls ld : List Nat) (s : Nat × Nat) : ∀ l, outs ls ld (l ++ [s]) = ((outs ls ld l).1 + (out ls ld s).1, (outs ls ld l).2 + 2 ^ (outs ls ld l).1 * (out ls ld s).2)
  | [] => by simp [outs]
  | a :: r => by
    have ih := outs_snoc ls ld s r
    rw [List.cons_append]
    simp only [outs]
    rw [ih]
    simp only [Nat.pow_add, Nat.mul_add, Nat.mul_assoc, Nat.add_assoc]
theorem out_le (ls ld : List Nat) (s : Nat × Nat) (h : Ok s) : (out ls ld s).1 ≤ 56 := by
  have h1 := Fs_le ls (sy s)
  have h2 := Fs_le ld (di s)
  have h3 := syN_le s h
  have h4 := diN_le s (by rcases h with h | h <;> omega)
  unfold out out1
  simp only
  split
  · simp only; omega
  · simp only; omega
theorem outs_le (ls ld : List Nat) : ∀ l : List (Nat × Nat), (∀ s ∈ l, Ok s) → (outs ls ld l).1 ≤ 56 * l.length
  | [], _ => by simp [outs]
  | a :: r, h => by
    have h1 := out_le ls ld a (h a (by simp))
    have h2 := outs_le ls ld r fun s hs => h s (by simp [hs])
    simp only [outs, List.length_cons]
    omega
set_option maxRecDepth 100000 in
set_option maxHeartbeats 4000000 in
theorem begun_any (k : Nat) (hk : k < 4) (w : World) : Calls Tryz.prog 23 #[.int .i64 k] w fun e w' => ∃ g bl, e = .returned (ptr g) ∧ WtrAt w' g (1 + 2 * k) 3 bl ∧ Since w w' bl := by
  have hu : u64 (k : Int) % 2 ^ 2 = k := by unfold u64; omega
  have HU := Lib.hid hu
  clear hu hk
  go_enter Tryz.func23, Tryz.ntmps23
  go_wp2_with (first
    | (go_at_call 37; refine (write_any w).mono ?_; rintro e w1 ⟨g, bl, rfl, hW1, hS1⟩; have HP1 := Lib.hid (put_any g 0 0 1 1 1 1 bl w1 hW1 (by omega) rfl rfl))
    | (go_at_call 31; (with_reducible refine (HP1.out).mono ?_); rintro e w2 ⟨rfl, bl2, hW2, hT2⟩; have HP2 := Lib.hid (put_any g _ _ 2 k 2 k bl2 w2 hW2 (by omega) rfl HU.out))
    | (go_at_call 31; (with_reducible refine (HP2.out).mono ?_); rintro e w3 ⟨rfl, bl3, hW3, hT3⟩))
  go_ret
  have e1 : 0 + 2 ^ 0 * 1 + 2 ^ (0 + 1) * k = 1 + 2 * k := by omega
  rw [e1] at hW3
  exact ⟨g, bl3, rfl, hW3, (hS1.turn hT2).turn hT3⟩
set_option maxRecDepth 100000 in
set_option maxHeartbeats 4000000 in
theorem writing_is (gw gs gd : Nat) (w : World) : Calls Tryz.prog 41 #[ptr gw, ptr gs, ptr gd] w fun e w' => ∃ bw bs bd, e = .returned (.func (.func 63) #[] #[ptr bw, ptr bs, ptr bd]) ∧ w.heap.size ≤ bw ∧ w.heap.size ≤ bs ∧ w.heap.size ≤ bd ∧ Bk w' bw 57 [ptr gw] ∧ Bk w' bs 59 [ptr gs] ∧ Bk w' bd 59 [ptr gd] ∧ Fresh w w' := by
  obtain ⟨w1, hw1⟩ : ∃ w1, w.alloc (.cells #[ptr gw] 57) = w1 := ⟨_, rfl⟩
  obtain ⟨w2, hw2⟩ : ∃ w2, w1.alloc (.cells #[ptr gs] 59) = w2 := ⟨_, rfl⟩
  obtain ⟨w3, hw3⟩ : ∃ w3, w2.alloc (.cells #[ptr gd] 59) = w3 := ⟨_, rfl⟩
  have k1 := Bk.made w 57 #[ptr gw]
  have k2 := Bk.made w1 59 #[ptr gs]
  have k3 := Bk.made w2 59 #[ptr gd]
  have f1 : Fresh w w1 := by rw [← hw1]; exact Fresh.alloc _ _
  have f2 : Fresh w1 w2 := by rw [← hw2]; exact Fresh.alloc _ _
  have f3 : Fresh w2 w3 := by rw [← hw3]; exact Fresh.alloc _ _
  rw [hw1] at k1
  rw [hw2] at k2
  rw [hw3] at k3
  have s1 : w1.heap.size = w.heap.size + 1 := by rw [← hw1]; simp
  have s2 : w2.heap.size = w.heap.size + 1 + 1 := by rw [← hw2]; simp [s1]
  rw [s1] at k2
  rw [s2] at k3
  have K := Lib.hid (And.intro ((k1.fresh f2).fresh f3) (And.intro (k2.fresh f3) k3))
  have F := Lib.hid ((f1.trans f2).trans f3)
  subst hw3
  subst hw2
  subst hw1
  clear k1 k2 k3 f1 f2 f3 s1 s2
  go_enter Tryz.func41, Tryz.ntmps41
  go_wp2
  go_ret
  exact ⟨_, _, _, rfl, by omega, by omega, by omega, K.out.1, K.out.2.1, K.out.2.2, F.out⟩
theorem stepSize : (Tryz.prog.info? 54).map (·.size) = some 2 := by kernel_rfl
set_option maxRecDepth 100000 in
set_option maxHeartbeats 8000000 in
theorem ended_any (gw gs gd N m : Nat) (ls ld bls bld bl : List Nat) (A : Option Addr) (n c : Nat) (l : List (Nat × Nat)) (base : Nat) (w : World) (hW : WtrAt w gw N m bl) (hS : CodeAt w gs ls bls) (hD : CodeAt w gd ld bld)
    (h3 : ∀ b ∈ bls, b ∉ bl) (h4 : ∀ b ∈ bld, b ∉ bl) (hst : Own2 w base A n c l) (hst2 : ∀ g, (Value.slice A n c).ownBlock = some g → g ∉ bl)
    (hok : ∀ s ∈ l, Ok s ∧ sy s < ls.length ∧ (s.2 ≠ 0 → di s < ld.length)) (hn : n ≤ 16777217) (hm : m ≤ 1000000) :
    Calls Tryz.prog 27 #[ptr gw, .slice A n c, ptr gs, ptr gd] w fun e w' => ∃ A' c' bl', e = .returned (.slice A' ((m + (outs ls ld l).1 + 7) / 8) c') ∧ Own w' w.heap.size 5 A' ((m + (outs ls ld l).1 + 7) / 8) c' ((low ((m + (outs ls ld l).1 + 7) / 8) (N + 2 ^ m * (outs ls ld l).2)).map bv) ∧ Turn bl bl' w w' := by
  have hlen := hst.len
  have HL := Lib.hid hlen
  have HOK := Lib.hid hok
  have hbound : ∀ i, (outs ls ld (l.take i)).1 ≤ 56 * n := fun i => by
    have h1 := outs_le ls ld (l.take i) fun s hs => (hok s (List.mem_of_mem_take hs)).1
    have h2 : (l.take i).length ≤ n := by rw [List.length_take]; omega
    omega
  have HB := Lib.hid hbound
  have hrow : ∀ (W : World) (bl' : List Nat), Turn bl bl' w W → Own2 W base A n c l := fun W bl' k => hst.keep fun g hg => k.block g (by obtain ⟨_, cs, fr, hq⟩ := hst.block g hg; exact (Array.getElem?_eq_some_iff.1 hq).1) (hst2 g hg)
  have HROW := Lib.hid hrow
  have hin0 := hW.1.inside
  have hen : ∀ (W : World) (bw bs bd : Nat), Fresh w W → w.heap.size ≤ bw → w.heap.size ≤ bs → w.heap.size ≤ bd → Bk W bw 57 [ptr gw] → Bk W bs 59 [ptr gs] → Bk W bd 59 [ptr gd] → Env W bw bs bd gw gs gd ls ld bls bld N m bl := fun W bw bs bd k i0 i1 i2 k0 k1 k2 =>
    { b0 := k0, b1 := k1, b2 := k2, wr := hW.fresh k, cs := hS.fresh k, cd := hD.fresh k, s0 := fun h => by have := hin0 _ h; omega, s1 := fun h => by have := hin0 _ h; omega, s2 := fun h => by have := hin0 _ h; omega, s3 := h3, s4 := h4 }
  have HEN := Lib.hid hen
  have hwi := writing_is gw gs gd w
  have HWI := Lib.hid hwi
  have hz0 : outs ls ld (l.take 0) = (0, 0) := rfl
  clear hen hrow hbound hok hlen hwi hW hS hD h3 h4 hst hst2 hin0
  go_enter Tryz.func27, Tryz.ntmps27
  go_wp2_with (go_at_call 41; (with_reducible refine HWI.out.mono ?_); rintro e w1 ⟨bw, bs, bd, rfl, i0, i1, i2, k0, k1, k2, hf1⟩; have HE1 := Lib.hid (HEN.out w1 bw bs bd hf1 i0 i1 i2 k0 k1 k2); have HF1 := Lib.hid hf1; clear i0 i1 i2 k0 k1 k2 hf1)
  go_loopw [18] (fun i wr => ∃ (k NN mm : Nat) (blr : List Nat), i = .int .i64 (k : Nat) ∧ k ≤ n ∧ Hid (NN = N + 2 ^ m * (outs ls ld (l.take k)).2) ∧ Hid (mm = m + (outs ls ld (l.take k)).1) ∧ Hid (Env wr bw bs bd gw gs gd ls ld bls bld NN mm blr) ∧ Hid (Turn bl blr w wr)) (fun i _ => n - (intOf i).toNat)
  case atStart => exact ⟨0, N, m, bl, rfl, Nat.zero_le _, Lib.hid (by rw [hz0]; simp), Lib.hid (by rw [hz0]; simp), HE1, Lib.hid (Turn.fresh HF1.out)⟩
  case round =>
    obtain ⟨k, NN, mm, blr, rfl, hk, hNN, hmm, HE, HT⟩ := hrel
    by_cases hlt : k < n
    · obtain ⟨s, hs⟩ : ∃ s, l[k]? = some s := ⟨_, List.getElem?_eq_getElem (by rw [HL.out]; exact hlt)⟩
      obtain ⟨g, rfl, hrange⟩ := Own2.at_ (HROW.out _ _ HT.out) hs
      obtain ⟨o1, o2, o3⟩ := HOK.out s (List.mem_of_getElem? hs)
      have hmm2 : mm ≤ 1099511627000 := by
        have h1 := HB.out k
        have h2 := hmm.out
        omega
      have ht : l.take (k + 1) = l.take k ++ [s] := by rw [List.take_add_one, hs]; rfl
      have hsnoc := outs_snoc ls ld s (l.take k)
      rw [← ht] at hsnoc
      clear ht
      have hNN2 : Hid (NN + 2 ^ mm * (out ls ld s).2 = N + 2 ^ m * (outs ls ld (l.take (k + 1))).2) := by
        show _ = _
        rw [hsnoc, hNN.out, hmm.out]
        simp only [Nat.pow_add, Nat.mul_add, Nat.mul_assoc, Nat.add_assoc]
      have hmm3 : Hid (mm + (out ls ld s).1 = m + (outs ls ld (l.take (k + 1))).1) := by
        show _ = _
        rw [hsnoc, hmm.out]
        simp only [Nat.add_assoc]
      obtain ⟨x, y⟩ := s
      simp only [scell] at hrange
      have HR := Lib.hid hrange
      have hcall : ∀ W, Fresh wr W → Calls Tryz.prog 63 #[.agg #[.int .u16 x, .int .u16 y], ptr bw, ptr bs, ptr bd] W fun e w' => e = .returned (.tuple #[]) ∧ ∃ bl', Env w' bw bs bd gw gs gd ls ld bls bld (NN + 2 ^ mm * (out ls ld (x, y)).2) (mm + (out ls ld (x, y)).1) bl' ∧ Turn blr bl' W w' := fun W kf => writing_any bw bs bd gw gs gd ls ld bls bld NN mm blr (x, y) W (HE.out.fresh kf) o1 hmm2 o2 o3
      have HC := Lib.hid hcall
      have hfa := Fresh.alloc wr (.cells #[.int .u16 x, .int .u16 y] 54)
      have HFA := Lib.hid hfa
      clear hs hrange o1 o2 o3 hmm2 hsnoc hcall hfa hz0
      go_wp2_with (first
        | ((with_reducible (refine at_slot_ 21 ?_)); refine wpList_load_mid rfl 54 (.tmp 20) rfl g (k * 2) rfl _ _ HR.out Tryz.underlying54 rfl stepSize ?_)
        | (go_at_call 63; (with_reducible refine (HC.out _ HFA.out).mono ?_); rintro e w2 ⟨rfl, bl2, hE2, hT2⟩))
      refine ⟨⟨k + 1, _, _, bl2, by go_num, by omega, hNN2, hmm3, Lib.hid hE2, Lib.hid (HT.out.trans ((Turn.fresh HFA.out).trans hT2))⟩, ?_⟩
      simp [intOf]; omega
    · obtain rfl : k = n := by omega
      have hall : l.take k = l := List.take_of_length_le (by rw [HL.out]; exact Nat.le_refl _)
      have hb := HB.out k
      rw [hall] at hb hNN hmm
      have hNN' := hNN.out
      have hmm' := hmm.out
      subst hNN'
      subst hmm'
      have HBY := Lib.hid (bytes_any gw _ _ blr wr HE.out.wr (by omega))
      clear hb hall hz0 hNN hmm
      go_wp2_with (go_at_call 42; (with_reducible refine HBY.out.mono ?_); rintro e w3 ⟨A3, c3, rfl, hf3, ho3⟩)
      go_ret
      exact ⟨A3, c3, blr, rfl, Own.low0 ho3 HT.out.size, HT.out.trans (Turn.fresh hf3)⟩
end Go.Proofs.YtppgceighgpgoaaGreatDoor.defp
/-
  Towards fixed: the steps of b are steps that may be; Repeat. My own text.
-/
namespace Go.Proofs.YtppgceighgpgoaaGreatDoor.defp
open Go.RowKit Go.Maps Go.Proofs.YtppgceighgpgoaaGreatDoor.base Go.Proofs.YtppgceighgpgoaaGreatDoor.num Go.Proofs.YtppgceighgpgoaaGreatDoor.bitnum Go.Proofs.YtppgceighgpgoaaGreatDoor.bitp Go.Proofs.YtppgceighgpgoaaGreatDoor.huffnum Go.Proofs.YtppgceighgpgoaaGreatDoor.huffp
set_option linter.unusedVariables false
theorem sy_lt (s : Nat × Nat) (h : Ok s) : sy s ≤ 285 := by
  unfold sy
  split
  · rcases h with h | h <;> omega
  split
  · omega
  · have := code4_lt (s.1 - 3) (by rcases h with h | h <;> omega)
    omega
theorem di_lt (s : Nat × Nat) (h : Ok s) (h0 : s.2 ≠ 0) : di s < 30 := (far_all (s.2 - 1) (by rcases h with h | h <;> omega)).1
/-- the steps of b, and the end, are steps that may be -/
theorem St.ok {b : List UInt8} {i : Nat} {l : List (Nat × Nat)} (h : St b i l) : ∀ s ∈ l ++ [(256, 0)], Ok s ∧ sy s ≤ 285 ∧ (s.2 ≠ 0 → di s < 30) := fun s hs => by
  have hok : Ok s := by
    rcases List.mem_append.1 hs with hs | hs
    · rcases h.each s hs with ⟨h1, h2⟩ | h1
      · exact .inl ⟨h1, by omega⟩
      · exact .inr h1
    · rw [List.mem_singleton] at hs
      subst hs
      exact .inl ⟨rfl, Nat.le_refl _⟩
  exact ⟨hok, sy_lt s hok, di_lt s hok⟩
/-! how many bits: never more than nine for a byte -/
theorem Fs_getD (ls : List Nat) (s : Nat) : (Fs ls 16 0 s).1 ≤ ls.getD s 0 := by
  unfold Fs
  rw [List.getD_eq_getElem?_getD]
  split
  case h_1 m hm =>
    rw [hm]
    split
    · exact Nat.le_refl _
    · exact Nat.zero_le _
  case h_2 => exact Nat.zero_le _
theorem own4_le : ∀ v : Fin 255, own_ v.1 4 ≤ 5 := by decide +kernel
theorem out_few (ls ld : List Nat) (H1 : ∀ k, ls.getD k 0 ≤ 9) (H2 : ls.getD 257 0 ≤ 7) (H3 : ∀ k, ld.getD k 0 ≤ 5) (L K : Nat) (h : 3 ≤ L ∧ L ≤ 258 ∧ 1 ≤ K ∧ K ≤ 32768) : (out ls ld (L, K)).1 ≤ 9 * L := by
  have h0 : K ≠ 0 := by omega
  have hd := Fs_getD ld (di (L, K))
  have hd2 := H3 (di (L, K))
  have hdn := diN_le (L, K) h.2.2.2
  have hs := Fs_getD ls (sy (L, K))
  have hs2 := H1 (sy (L, K))
  unfold out out1
  simp only
  rw [if_neg h0]
  simp only
  by_cases e : L = 3
  · subst e
    have e1 : sy (3, K) = 257 := by unfold sy; simp [h0]; decide
    have e2 : syN (3, K) = 0 := by unfold syN; simp [h0]; decide
    rw [e1] at hs hs2 ⊢
    rw [e2]
    omega
  · have e3 : syN (L, K) ≤ 5 := by
      unfold syN
      simp only [h0, if_false]
      split
      · omega
      · exact own4_le ⟨L - 3, by omega⟩
    omega
theorem outs_few (ls ld : List Nat) (H1 : ∀ k, ls.getD k 0 ≤ 9) (H2 : ls.getD 257 0 ≤ 7) (H3 : ∀ k, ld.getD k 0 ≤ 5) {b : List UInt8} {i : Nat} {l : List (Nat × Nat)} (h : St b i l) : (outs ls ld l).1 ≤ 9 * i := by
  induction h with
  | nil => simp [outs]
  | @lit i l h hi hf ih =>
    rw [outs_snoc]
    have h1 : (out ls ld ((b.getD i 0).toNat, 0)).1 ≤ 9 := by
      unfold out out1 syN
      simp only [if_true, Nat.add_zero]
      exact Nat.le_trans (Fs_getD ls _) (H1 _)
    simp only
    omega
  | @copy i L K l h hi hf hL ih =>
    rw [outs_snoc]
    have hb := hf.bound hL
    have h1 := out_few ls ld H1 H2 H3 L K ⟨hb.1, hb.2.1, hb.2.2.2.1, hb.2.2.2.2.1⟩
    simp only
    omega
end Go.Proofs.YtppgceighgpgoaaGreatDoor.defp
