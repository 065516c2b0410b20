import Derived.Test.YtcmeoappddpmcaaDoorDefSym2
import Derived.Test.YtcmeoappddpmcaaDoorBitsUse
import Derived.Test.YtcmeoappddpmcaaDoorMgHuff
import Derived.Deep.RegionHeld3
/-
  writing$1: what a step's bits are, and their writing. My own text.
-/
namespace Go.Proofs.YtcmeoappddpmcaaDoor.defp
open Go.RowKit Go.Maps Go.Proofs.YtcmeoappddpmcaaDoor.base Go.Proofs.YtcmeoappddpmcaaDoor.num Go.Proofs.YtcmeoappddpmcaaDoor.bitnum Go.Proofs.YtcmeoappddpmcaaDoor.bitp Go.Proofs.YtcmeoappddpmcaaDoor.huffnum Go.Proofs.YtcmeoappddpmcaaDoor.huffp
set_option linter.unusedVariables false
theorem own_le (v row : Nat) (h : v / row < 16384) : own_ v row ≤ 13 := log_le _ h
theorem syN_le (s : Nat × Nat) (h : Ok s) : syN s ≤ 13 := by
  unfold syN
  split
  · omega
  split
  · omega
  · refine own_le _ _ ?_
    rcases h with h | h <;> omega
theorem diN_le (s : Nat × Nat) (h : s.2 ≤ 32768) : diN s ≤ 13 := own_le _ _ (by omega)
theorem syV_lt (s : Nat × Nat) : syV s < 2 ^ syN s := by
  unfold syV syN
  split
  · omega
  split
  · omega
  · exact Nat.mod_lt _ (Nat.pow_pos (by omega))
theorem diV_lt (s : Nat × Nat) : diV s < 2 ^ diN s := Nat.mod_lt _ (Nat.pow_pos (by omega))
theorem Fs_le (ls : List Nat) (s : Nat) : (Fs ls 16 0 s).1 ≤ 15 := by
  unfold Fs
  split
  · split
    case isTrue h => simp only; omega
    case isFalse h => simp
  · simp
/-- a code, and bits of its own behind it: how many bits, and their number -/
def out1 (p : Nat × Nat) (o v : Nat) : Nat × Nat := (p.1 + o, rev p.1 (u64 (p.2 : Int)) + 2 ^ p.1 * v)
/-- a step's bits -/
def out (ls ld : List Nat) (s : Nat × Nat) : Nat × Nat :=
  let q := out1 (Fs ls 16 0 (sy s)) (syN s) (syV s)
  if s.2 = 0 then q else
    let r := out1 (Fs ld 16 0 (di s)) (diN s) (diV s)
    (q.1 + r.1, q.2 + 2 ^ q.1 * r.2)
/-- what a writer of steps leans on -/
structure Env (w : World) (bw bs bd gw gs gd : Nat) (ls ld bls bld : List Nat) (N m : Nat) (bl : List Nat) : Prop where
  b0 : Bk w bw 37 [ptr gw]
  b1 : Bk w bs 39 [ptr gs]
  b2 : Bk w bd 39 [ptr gd]
  wr : WtrAt w gw N m bl
  cs : CodeAt w gs ls bls
  cd : CodeAt w gd ld bld
  s0 : bw ∉ bl
  s1 : bs ∉ bl
  s2 : bd ∉ bl
  s3 : ∀ b ∈ bls, b ∉ bl
  s4 : ∀ b ∈ bld, b ∉ bl
theorem Env.turn {w w' : World} {bw bs bd gw gs gd : Nat} {ls ld bls bld : List Nat} {N m N' m' : Nat} {bl bl' : List Nat} (h : Env w bw bs bd gw gs gd ls ld bls bld N m bl) (k : Turn bl bl' w w') (hw : WtrAt w' gw N' m' bl') :
    Env w' bw bs bd gw gs gd ls ld bls bld N' m' bl' where
  b0 := h.b0.old (k.block _ h.b0.inside h.s0)
  b1 := h.b1.old (k.block _ h.b1.inside h.s1)
  b2 := h.b2.old (k.block _ h.b2.inside h.s2)
  wr := hw
  cs := h.cs.turn k h.s3
  cd := h.cd.turn k h.s4
  s0 := k.apart h.b0.inside h.s0
  s1 := k.apart h.b1.inside h.s1
  s2 := k.apart h.b2.inside h.s2
  s3 b hb := k.apart (h.cs.inside b hb) (h.s3 b hb)
  s4 b hb := k.apart (h.cd.inside b hb) (h.s4 b hb)
theorem Env.fresh {w w' : World} {bw bs bd gw gs gd : Nat} {ls ld bls bld : List Nat} {N m : Nat} {bl : List Nat} (h : Env w bw bs bd gw gs gd ls ld bls bld N m bl) (k : Fresh w w') :
    Env w' bw bs bd gw gs gd ls ld bls bld N m bl := h.turn (Turn.fresh k) (h.wr.fresh k)
theorem Env.c0 {w : World} {bw bs bd gw gs gd : Nat} {ls ld bls bld : List Nat} {N m : Nat} {bl : List Nat} (h : Env w bw bs bd gw gs gd ls ld bls bld N m bl) : w.cell? ⟨bw, 0, none⟩ = some (ptr gw) := h.b0.cell rfl
theorem Env.c1 {w : World} {bw bs bd gw gs gd : Nat} {ls ld bls bld : List Nat} {N m : Nat} {bl : List Nat} (h : Env w bw bs bd gw gs gd ls ld bls bld N m bl) : w.cell? ⟨bs, 0, none⟩ = some (ptr gs) := h.b1.cell rfl
theorem Env.c2 {w : World} {bw bs bd gw gs gd : Nat} {ls ld bls bld : List Nat} {N m : Nat} {bl : List Nat} (h : Env w bw bs bd gw gs gd ls ld bls bld N m bl) : w.cell? ⟨bd, 0, none⟩ = some (ptr gd) := h.b2.cell rfl
set_option maxRecDepth 100000 in
set_option maxHeartbeats 8000000 in
theorem writing_lit (bw bs bd gw gs gd : Nat) (ls ld bls bld : List Nat) (N m : Nat) (bl : List Nat) (x : Nat) (w : World) (h : Env w bw bs bd gw gs gd ls ld bls bld N m bl) (hx : x ≤ 256) (hm : m ≤ 1099511627000) (hs : x < ls.length) :
    Calls Tryd.prog 47 #[.agg #[.int .u16 x, .int .u16 0], ptr bw, ptr bs, ptr bd] w fun e w' => e = .returned (.tuple #[]) ∧ ∃ bl', Env w' bw bs bd gw gs gd ls ld bls bld (N + 2 ^ m * (out ls ld (x, 0)).2) (m + (out ls ld (x, 0)).1) bl' ∧ Turn bl bl' w w' := by
  have hok : Ok (x, 0) := .inl ⟨rfl, hx⟩
  have hsym : ∀ W, Calls Tryd.prog 35 #[.agg #[.int .u16 x, .int .u16 0]] W fun e w' => e = .returned (.tuple #[.int .i64 x, .int .i64 0, .int .i64 0]) ∧ Fresh W w' := fun W => symbol_any (x, 0) hok W
  obtain ⟨a, b, hab⟩ : ∃ a b, Fs ls 16 0 x = (a, b) := ⟨_, _, rfl⟩
  have ha : a ≤ 15 := by have := Fs_le ls x; rw [hab] at this; exact this
  obtain ⟨Y, hY⟩ : ∃ Y, rev a (u64 (b : Int)) = Y := ⟨_, rfl⟩
  have hout : out ls ld (x, 0) = (a, Y) := by
    show out1 (Fs ls 16 0 x) 0 0 = _
    rw [hab]
    unfold out1
    simp [hY]
  rw [hout]
  have HSYM := Lib.hid hsym
  have HAB := Lib.hid hab
  have HY := Lib.hid hY
  have H := Lib.hid h
  have HS := Lib.hid hs
  obtain ⟨v, hv⟩ : ∃ v, w.heap.size = v := ⟨_, rfl⟩
  have hvbl : v ∉ bl := fun hh => by have := h.wr.1.inside v hh; omega
  have hbv := Bk.made w 52 #[.int .u16 x, .int .u16 0]
  rw [hv] at hbv
  have HBV := Lib.hid hbv
  have HVB := Lib.hid hvbl
  have hfv := Fresh.alloc w (.cells #[.int .u16 x, .int .u16 0] 52)
  have HFV := Lib.hid hfv
  have hheld := held_nat a (by omega)
  have HHELD := Lib.hid hheld
  clear hsym hab hY h hs hok hout hx hbv hvbl hfv hheld
  go_enter Tryd.func47, Tryd.ntmps47
  go_upto_region 2 with (go_at_call 35; (with_reducible refine (HSYM.out _).mono ?_); rintro e w1 ⟨rfl, hf1⟩; have hE1 := H.out.fresh (HFV.out.trans hf1); have hbv1 := HBV.out.fresh hf1; have hk1 : (w1.drew).cell? ⟨bw, 0, none⟩ = some (ptr gw) ∧ (w1.drew).cell? ⟨bs, 0, none⟩ = some (ptr gs) := ⟨(hE1.fresh (Fresh.drew _)).c0, (hE1.fresh (Fresh.drew _)).c1⟩; have HE1 := Lib.hid hE1; have HBV1 := Lib.hid hbv1; have HF1 := Lib.hid hf1; clear hE1 hbv1 hf1)
  go_region_held3 (fun w' => w'.cell? ⟨bw, 0, none⟩ = some (ptr gw) ∧ w'.cell? ⟨bs, 0, none⟩ = some (ptr gs)) (first | exact hk1 | exact HK2.out | exact HK3.out)
    (first
    | (go_at_call 45; (refine (code_in gs ls bls x a b _ (HE1.out.fresh (Fresh.drew _)).cs HS.out HAB.out).mono ?_); rintro e w2 ⟨rfl, hf2⟩; have hE2 := HE1.out.fresh ((Fresh.drew _).trans hf2); have HK2 := Lib.hid (show w2.cell? ⟨bw, 0, none⟩ = some (ptr gw) ∧ w2.cell? ⟨bs, 0, none⟩ = some (ptr gs) from ⟨hE2.c0, hE2.c1⟩); have HE2 := Lib.hid hE2; have HF2 := Lib.hid ((Fresh.drew _).trans hf2); clear hE2 hf2)
    | (go_at_call 44; (refine (code_any gw N m a Y a b bl _ HE2.out.wr (by omega) HHELD.out HY.out).mono ?_); rintro e w3 ⟨rfl, bl3, hW3, hT3⟩; have hE3 := HE2.out.turn hT3 hW3; have HK3 := Lib.hid (show w3.cell? ⟨bw, 0, none⟩ = some (ptr gw) ∧ w3.cell? ⟨bs, 0, none⟩ = some (ptr gs) from ⟨hE3.c0, hE3.c1⟩); have HE3 := Lib.hid hE3; have HT3 := Lib.hid hT3; clear hE3 hT3 hW3))
  have hc3 := HE3.out.c0
  have hvb3 := HT3.out.apart (HBV1.out.fresh HF2.out).inside HVB.out
  have hbv3 := (HBV1.out.fresh HF2.out).old (HT3.out.block v (HBV1.out.fresh HF2.out).inside HVB.out)
  have HVB3 := Lib.hid hvb3
  have HBV3 := Lib.hid hbv3
  clear hk1 hvb3 hbv3
  go_wp2_with (go_at_call 24; (refine (put_any gw (N + 2 ^ m * Y) (m + a) 0 0 0 0 bl3 _ HE3.out.wr (by omega) rfl rfl).mono ?_); rintro e w4 ⟨rfl, bl4, hW4, hT4⟩; have hE4 := HE3.out.turn hT4 hW4; have hcv : w4.cell? ⟨v, 1, none⟩ = some (.int .u16 0) := (HBV3.out.old (hT4.block v HBV3.out.inside HVB3.out)).cell rfl; have HE4 := Lib.hid hE4; have HT4 := Lib.hid hT4; clear hE4 hT4 hW4)
  go_end0
  have hE4 := HE4.out
  rw [Nat.mul_zero, Nat.add_zero, Nat.add_zero] at hE4
  exact ⟨rfl, bl4, hE4, ((Turn.fresh ((HFV.out.trans HF1.out).trans HF2.out)).trans HT3.out).trans HT4.out⟩
set_option maxRecDepth 100000 in
set_option maxHeartbeats 8000000 in
theorem writing_copy (bw bs bd gw gs gd : Nat) (ls ld bls bld : List Nat) (N m : Nat) (bl : List Nat) (x k : Nat) (w : World) (h : Env w bw bs bd gw gs gd ls ld bls bld N m bl) (hx : 3 ≤ x ∧ x ≤ 258 ∧ 1 ≤ k ∧ k ≤ 32768) (hm : m ≤ 1099511627000) (hs : sy (x, k) < ls.length) (hd : di (x, k) < ld.length) :
    Calls Tryd.prog 47 #[.agg #[.int .u16 x, .int .u16 k], ptr bw, ptr bs, ptr bd] w fun e w' => e = .returned (.tuple #[]) ∧ ∃ bl', Env w' bw bs bd gw gs gd ls ld bls bld (N + 2 ^ m * (out ls ld (x, k)).2) (m + (out ls ld (x, k)).1) bl' ∧ Turn bl bl' w w' := by
  have hok : Ok (x, k) := .inr hx
  have hsym : ∀ W, Calls Tryd.prog 35 #[.agg #[.int .u16 x, .int .u16 k]] W fun e w' => e = .returned (.tuple #[.int .i64 (sy (x, k) : Nat), .int .i64 (syN (x, k) : Nat), .int .i64 (syV (x, k) : Nat)]) ∧ Fresh W w' := fun W => symbol_any (x, k) hok W
  have hdis : ∀ W, Calls Tryd.prog 36 #[.agg #[.int .u16 x, .int .u16 k]] W fun e w' => e = .returned (.tuple #[.int .i64 (di (x, k) : Nat), .int .i64 (diN (x, k) : Nat), .int .i64 (diV (x, k) : Nat)]) ∧ Fresh W w' := fun W => distance_any (x, k) hx.2.2 W
  obtain ⟨a, b, hab⟩ : ∃ a b, Fs ls 16 0 (sy (x, k)) = (a, b) := ⟨_, _, rfl⟩
  obtain ⟨a', b', hab'⟩ : ∃ a b, Fs ld 16 0 (di (x, k)) = (a, b) := ⟨_, _, rfl⟩
  have ha : a ≤ 15 := by have := Fs_le ls (sy (x, k)); rw [hab] at this; exact this
  have ha' : a' ≤ 15 := by have := Fs_le ld (di (x, k)); rw [hab'] at this; exact this
  have ho := syN_le (x, k) hok
  have ho' := diN_le (x, k) hx.2.2.2
  have hv0 := syV_lt (x, k)
  have hv0' := diV_lt (x, k)
  obtain ⟨Y, hY⟩ : ∃ Y, rev a (u64 (b : Int)) = Y := ⟨_, rfl⟩
  obtain ⟨Y', hY'⟩ : ∃ Y, rev a' (u64 (b' : Int)) = Y := ⟨_, rfl⟩
  have hout : out ls ld (x, k) = (a + syN (x, k) + (a' + diN (x, k)), Y + 2 ^ a * syV (x, k) + 2 ^ (a + syN (x, k)) * (Y' + 2 ^ a' * diV (x, k))) := by
    unfold out out1
    rw [hab, hab']
    simp only
    rw [if_neg (by omega), hY, hY']
  rw [hout]
  clear hout hok
  generalize sy (x, k) = sx at *
  generalize syN (x, k) = o at *
  generalize syV (x, k) = u at *
  generalize di (x, k) = dx at *
  generalize diN (x, k) = o' at *
  generalize diV (x, k) = u' at *
  have hkz : decide ((0 : Int) < (k : Int)) = true := decide_eq_true (by omega)
  have hkz2 : 0 < k := by omega
  have hu : u64 (u : Int) % 2 ^ o = u := by
    have := (pow24 (k := o) (by omega)).2
    have h1 : u64 (u : Int) = u := by unfold u64; omega
    rw [h1, Nat.mod_eq_of_lt hv0]
  have hu' : u64 (u' : Int) % 2 ^ o' = u' := by
    have := (pow24 (k := o') (by omega)).2
    have h1 : u64 (u' : Int) = u' := by unfold u64; omega
    rw [h1, Nat.mod_eq_of_lt hv0']
  have HSYM := Lib.hid hsym
  have HDIS := Lib.hid hdis
  have HAB := Lib.hid hab
  have HAB' := Lib.hid hab'
  have HY := Lib.hid hY
  have HY' := Lib.hid hY'
  have HU := Lib.hid hu
  have HU' := Lib.hid hu'
  have H := Lib.hid h
  have HS := Lib.hid hs
  have HD := Lib.hid hd
  obtain ⟨v, hv⟩ : ∃ v, w.heap.size = v := ⟨_, rfl⟩
  have hvbl : v ∉ bl := fun hh => by have := h.wr.1.inside v hh; omega
  have hbv := Bk.made w 52 #[.int .u16 x, .int .u16 k]
  rw [hv] at hbv
  have HBV := Lib.hid hbv
  have HVB := Lib.hid hvbl
  have hfv := Fresh.alloc w (.cells #[.int .u16 x, .int .u16 k] 52)
  have HFV := Lib.hid hfv
  have hheld := held_nat a (by omega)
  have hheld' := held_nat a' (by omega)
  have hheldo := held_nat o (by omega)
  have hheldo' := held_nat o' (by omega)
  have HHELD := Lib.hid hheld
  have HHELD' := Lib.hid hheld'
  have HHELDO := Lib.hid hheldo
  have HHELDO' := Lib.hid hheldo'
  clear hsym hdis hab hab' hY hY' h hs hd hx hbv hvbl hfv hheld hheld' hheldo hheldo' hu hu' hv0 hv0'
  go_enter Tryd.func47, Tryd.ntmps47
  go_upto_region 2 with (go_at_call 35; (with_reducible refine (HSYM.out _).mono ?_); rintro e w1 ⟨rfl, hf1⟩; have hE1 := H.out.fresh (HFV.out.trans hf1); have hbv1 := HBV.out.fresh hf1; have hk1 : (w1.drew).cell? ⟨bw, 0, none⟩ = some (ptr gw) ∧ (w1.drew).cell? ⟨bs, 0, none⟩ = some (ptr gs) := ⟨(hE1.fresh (Fresh.drew _)).c0, (hE1.fresh (Fresh.drew _)).c1⟩; have HE1 := Lib.hid hE1; have HBV1 := Lib.hid hbv1; have HF1 := Lib.hid hf1; clear hE1 hbv1 hf1)
  go_region_held3 (fun w' => w'.cell? ⟨bw, 0, none⟩ = some (ptr gw) ∧ w'.cell? ⟨bs, 0, none⟩ = some (ptr gs)) (first | exact hk1 | exact HK2.out | exact HK3.out)
    (first
    | (go_at_call 45; (refine (code_in gs ls bls sx a b _ (HE1.out.fresh (Fresh.drew _)).cs HS.out HAB.out).mono ?_); rintro e w2 ⟨rfl, hf2⟩; have hE2 := HE1.out.fresh ((Fresh.drew _).trans hf2); have HK2 := Lib.hid (show w2.cell? ⟨bw, 0, none⟩ = some (ptr gw) ∧ w2.cell? ⟨bs, 0, none⟩ = some (ptr gs) from ⟨hE2.c0, hE2.c1⟩); have HE2 := Lib.hid hE2; have HF2 := Lib.hid ((Fresh.drew _).trans hf2); clear hE2 hf2)
    | (go_at_call 44; (refine (code_any gw N m a Y a b bl _ HE2.out.wr (by omega) HHELD.out HY.out).mono ?_); rintro e w3 ⟨rfl, bl3, hW3, hT3⟩; have hE3 := HE2.out.turn hT3 hW3; have HK3 := Lib.hid (show w3.cell? ⟨bw, 0, none⟩ = some (ptr gw) ∧ w3.cell? ⟨bs, 0, none⟩ = some (ptr gs) from ⟨hE3.c0, hE3.c1⟩); have HE3 := Lib.hid hE3; have HT3 := Lib.hid hT3; clear hE3 hT3 hW3))
  have hc3 := HE3.out.c0
  have hvb3 := HT3.out.apart (HBV1.out.fresh HF2.out).inside HVB.out
  have hbv3 := (HBV1.out.fresh HF2.out).old (HT3.out.block v (HBV1.out.fresh HF2.out).inside HVB.out)
  have HVB3 := Lib.hid hvb3
  have HBV3 := Lib.hid hbv3
  clear hk1 hvb3 hbv3
  go_upto_region 6 with (first
    | (go_at_call 24; (refine (put_any gw (N + 2 ^ m * Y) (m + a) o u o u bl3 _ HE3.out.wr (by omega) HHELDO.out HU.out).mono ?_); rintro e w4 ⟨rfl, bl4, hW4, hT4⟩; have hE4 := HE3.out.turn hT4 hW4; have hbv4 := HBV3.out.old (hT4.block v HBV3.out.inside HVB3.out); have hcv : w4.cell? ⟨v, 1, none⟩ = some (.int .u16 k) := hbv4.cell rfl; have hcv0 : w4.cell? ⟨v, 0, none⟩ = some (.int .u16 x) := hbv4.cell rfl; have HVB4 := Lib.hid (hT4.apart HBV3.out.inside HVB3.out); have HBV4 := Lib.hid hbv4; have HE4 := Lib.hid hE4; have HT4 := Lib.hid hT4; clear hE4 hT4 hW4 hbv4)
    | (go_at_call 36; (with_reducible refine (HDIS.out _).mono ?_); rintro e w5 ⟨rfl, hf5⟩; have hE5 := HE4.out.fresh hf5; have hk5 : (w5.drew).cell? ⟨bw, 0, none⟩ = some (ptr gw) ∧ (w5.drew).cell? ⟨bd, 0, none⟩ = some (ptr gd) := ⟨(hE5.fresh (Fresh.drew _)).c0, (hE5.fresh (Fresh.drew _)).c2⟩; have HE5 := Lib.hid hE5; have HF5 := Lib.hid hf5; clear hE5 hf5))
  go_region_held3 (fun w' => w'.cell? ⟨bw, 0, none⟩ = some (ptr gw) ∧ w'.cell? ⟨bd, 0, none⟩ = some (ptr gd)) (first | exact hk5 | exact HK6.out | exact HK7.out)
    (first
    | (go_at_call 45; (refine (code_in gd ld bld dx a' b' _ (HE5.out.fresh (Fresh.drew _)).cd HD.out HAB'.out).mono ?_); rintro e w6 ⟨rfl, hf6⟩; have hE6 := HE5.out.fresh ((Fresh.drew _).trans hf6); have HK6 := Lib.hid (show w6.cell? ⟨bw, 0, none⟩ = some (ptr gw) ∧ w6.cell? ⟨bd, 0, none⟩ = some (ptr gd) from ⟨hE6.c0, hE6.c2⟩); have HE6 := Lib.hid hE6; have HF6 := Lib.hid ((Fresh.drew _).trans hf6); clear hE6 hf6)
    | (go_at_call 44; (refine (code_any gw _ (m + a + o) a' Y' a' b' bl4 _ HE6.out.wr (by omega) HHELD'.out HY'.out).mono ?_); rintro e w7 ⟨rfl, bl7, hW7, hT7⟩; have hE7 := HE6.out.turn hT7 hW7; have HK7 := Lib.hid (show w7.cell? ⟨bw, 0, none⟩ = some (ptr gw) ∧ w7.cell? ⟨bd, 0, none⟩ = some (ptr gd) from ⟨hE7.c0, hE7.c2⟩); have HE7 := Lib.hid hE7; have HT7 := Lib.hid hT7; clear hE7 hT7 hW7))
  have hc7 := HE7.out.c0
  go_wp2_with (go_at_call 24; (refine (put_any gw _ (m + a + o + a') o' u' o' u' bl7 _ HE7.out.wr (by omega) HHELDO'.out HU'.out).mono ?_); rintro e w8 ⟨rfl, bl8, hW8, hT8⟩; have hE8 := HE7.out.turn hT8 hW8; have HE8 := Lib.hid hE8; have HT8 := Lib.hid hT8; clear hE8 hT8 hW8)
  go_end0
  have hE8 := HE8.out
  have e1 : N + 2 ^ m * Y + 2 ^ (m + a) * u + 2 ^ (m + a + o) * Y' + 2 ^ (m + a + o + a') * u' = N + 2 ^ m * (Y + 2 ^ a * u + 2 ^ (a + o) * (Y' + 2 ^ a' * u')) := by
    simp only [Nat.pow_add, Nat.mul_add, Nat.mul_assoc, Nat.add_assoc]
  have e2 : m + a + o + a' + o' = m + (a + o + (a' + o')) := by omega
  rw [e1, e2] at hE8
  exact ⟨rfl, bl8, hE8, ((((((Turn.fresh ((HFV.out.trans HF1.out).trans HF2.out)).trans HT3.out).trans HT4.out).trans (Turn.fresh (HF5.out.trans HF6.out))).trans HT7.out).trans HT8.out)⟩
/-- writing$1: a step is written -/
theorem writing_any (bw bs bd gw gs gd : Nat) (ls ld bls bld : List Nat) (N m : Nat) (bl : List Nat) (s : Nat × Nat) (w : World) (h : Env w bw bs bd gw gs gd ls ld bls bld N m bl) (hok : Ok s) (hm : m ≤ 1099511627000) (hs : sy s < ls.length) (hd : s.2 ≠ 0 → di s < ld.length) :
    Calls Tryd.prog 47 #[stepV s, ptr bw, ptr bs, ptr bd] w fun e w' => e = .returned (.tuple #[]) ∧ ∃ bl', Env w' bw bs bd gw gs gd ls ld bls bld (N + 2 ^ m * (out ls ld s).2) (m + (out ls ld s).1) bl' ∧ Turn bl bl' w w' := by
  obtain ⟨x, k⟩ := s
  rcases hok with ⟨h1, h2⟩ | h1
  · simp only at h1 h2
    subst h1
    exact writing_lit bw bs bd gw gs gd ls ld bls bld N m bl x w h h2 hm hs
  · exact writing_copy bw bs bd gw gs gd ls ld bls bld N m bl x k w h h1 hm hs (hd (by simp only at h1 ⊢; omega))
end Go.Proofs.YtcmeoappddpmcaaDoor.defp
