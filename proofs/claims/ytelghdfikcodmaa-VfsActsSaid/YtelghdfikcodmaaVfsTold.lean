/-
  An act on what is told of a store: the contract of the law's told. My own text.
-/
import Derived.Test.YtelghdfikcodmaaRefCrash
/-
  An act on a store, on both sides: the contracts of the law's do and told. My own text.
-/
namespace Go.Proofs.Ytelghdfikcodmaa.vacts
open Go.RowKit Go.Maps Go.Proofs.Ytelghdfikcodmaa.base Go.Proofs.Ytelghdfikcodmaa.vfsnum Go.Proofs.Ytelghdfikcodmaa.vfs Go.Proofs.Ytelghdfikcodmaa.vref
set_option linter.unusedVariables false

/-- an act: what, how many, the names, the bytes, what a crash keeps -/
structure VAct where
  kind : Int
  n : Int
  name : ByteArray
  to_ : ByteArray
  at_ : Option Addr
  len : Nat
  cap : Nat
  bs : Bs
  keep : Nat
def VAct.cells (x : VAct) : List Value := [.int .i64 x.kind, .int .i64 x.n, .string x.name, .string x.to_, .slice x.at_ x.len x.cap, .int .u64 x.keep]
/-- what it makes of a store: the error, the store behind it -/
def actF (a : Fs) (x : VAct) : Int × Fs :=
  if x.kind = 0 then a.create x.name else if x.kind = 1 then a.write x.name x.n x.bs else if x.kind = 2 then a.cut x.name x.n else if x.kind = 3 then a.rename x.name x.to_ else if x.kind = 4 then a.delete x.name
  else if x.kind = 5 then a.sync x.name else if x.kind = 6 then (0, { a with fuse := max (-1) x.n }) else if x.kind = 7 then (0, a.crash x.keep) else (0, a)
/-- what holds of an act that came in -/
structure VOk (x : VAct) : Prop where
  n1 : -9223372036854775808 ≤ x.n
  n2 : x.n ≤ 9223372036854775807
  k1 : -9223372036854775808 ≤ x.kind
  k2 : x.kind ≤ 9223372036854775807
  name : x.name.size ≤ maxLen
  to_ : x.to_.size ≤ maxLen
  keep : x.keep < 18446744073709551616
  len : x.len ≤ 1048576
  cap : x.len ≤ x.cap
  capm : x.cap ≤ maxLen
theorem kinds (z : Int) : z = 0 ∨ z = 1 ∨ z = 2 ∨ z = 3 ∨ z = 4 ∨ z = 5 ∨ z = 6 ∨ z = 7 ∨ (z ≠ 0 ∧ z ≠ 1 ∧ z ≠ 2 ∧ z ≠ 3 ∧ z ≠ 4 ∧ z ≠ 5 ∧ z ≠ 6 ∧ z ≠ 7) := by omega
theorem Did.ahead {w0 w1 w' : World} {f : Nat} {bl : List Nat} {r : Int × Fs} {e : Ending} (hf : Fresh w0 w1) (h : Did w1 f bl r e w') : Did w0 f bl r e w' := ⟨h.1, by obtain ⟨_, bl', h1, h2⟩ := h; exact ⟨bl', h1, (Turn.fresh hf).trans h2⟩⟩
theorem RDid.ahead {w0 w1 w' : World} {f : Nat} {bl : List Nat} {r : Int × Fs} {e : Ending} (hf : Fresh w0 w1) (h : RDid w1 f bl r e w') : RDid w0 f bl r e w' := ⟨h.1, by obtain ⟨_, bl', h1, h2⟩ := h; exact ⟨bl', h1, (Turn.fresh hf).trans h2⟩⟩

set_option maxRecDepth 100000 in
set_option maxHeartbeats 4000000 in
theorem do_any (w : World) (f : Nat) (a : Fs) (bl : List Nat) (x : VAct) (h : FsAt w f a bl) (hok : FsOk a) (hst : a.stamp < 4611686018427387904) (hlen : a.files.length ≤ 1048576) (hx : VOk x) (hr : RdA w bl x.at_ x.len (x.bs.map bv)) :
    Calls Try.prog 13 #[fsPtr f, .agg x.cells.toArray] w (Did w f bl (actF a x)) := by
  obtain ⟨kd, n, nm, to_, xA, xl, xc, xb, kp⟩ := x
  obtain ⟨n1, n2, k1, k2, hnm, hto, hkp, hl, hc, hcm⟩ := hx
  simp only at n1 n2 k1 k2 hnm hto hkp hl hc hcm hr
  obtain ⟨w1, hw1⟩ : ∃ w1, w.alloc (.cells #[.int .i64 kd, .int .i64 n, .string nm, .string to_, .slice xA xl xc, .int .u64 kp] 32) = w1 := ⟨_, rfl⟩
  have hb := Bk.made w 32 #[.int .i64 kd, .int .i64 n, .string nm, .string to_, .slice xA xl xc, .int .u64 kp]
  have hf : Fresh w w1 := by rw [← hw1]; exact Fresh.alloc _ _
  rw [hw1] at hb
  have hc0 : w1.cell? ⟨w.heap.size, 0, none⟩ = some (.int .i64 kd) := hb.cell rfl
  have hc1 : w1.cell? ⟨w.heap.size, 1, none⟩ = some (.int .i64 n) := hb.cell rfl
  have hc2 : w1.cell? ⟨w.heap.size, 2, none⟩ = some (.string nm) := hb.cell rfl
  have hc3 : w1.cell? ⟨w.heap.size, 3, none⟩ = some (.string to_) := hb.cell rfl
  have hc4 : w1.cell? ⟨w.heap.size, 4, none⟩ = some (.slice xA xl xc) := hb.cell rfl
  have hc5 : w1.cell? ⟨w.heap.size, 5, none⟩ = some (.int .u64 kp) := hb.cell rfl
  have h1 := h.fresh hf
  have hr1 := hr.turn (Turn.fresh (S := bl) hf)
  have HF := Lib.hid hf
  clear hb hf h hr
  simp only [VAct.cells]
  have q1 := create_any w1 f a bl nm h1 hok hst hnm
  have q2 := write_fs w1 f a bl nm n xA xl xc xb h1 hok hst hnm hr1 n1 n2 (by omega) hc hcm
  have q3 := cut_fs w1 f a bl nm n h1 hok hst hnm n1 n2
  have q4 := rename_fs w1 f a bl nm to_ h1 hok hst hnm hto
  have q5 := delete_fs w1 f a bl nm h1 hok hnm
  have q6 := sync_fs w1 f a bl nm h1 hok hnm
  have q7 := fuse_any w1 f a bl n h1
  have q8 := crash_fs w1 f a bl kp h1 hok hlen hkp
  have H1 := Lib.hid h1
  have Q1 := Lib.hid q1; have Q2 := Lib.hid q2; have Q3 := Lib.hid q3; have Q4 := Lib.hid q4; have Q5 := Lib.hid q5; have Q6 := Lib.hid q6; have Q7 := Lib.hid q7; have Q8 := Lib.hid q8
  clear q1 q2 q3 q4 q5 q6 q7 q8 h1 hr1
  rcases kinds kd with rfl | rfl | rfl | rfl | rfl | rfl | rfl | rfl | ⟨z0, z1, z2, z3, z4, z5, z6, z7⟩
  · show Calls _ _ _ _ (Did w f bl (a.create nm))
    go_enter Try.func13, Try.ntmps13
    go_wp2_with (go_at_call 39; refine Q1.out.mono ?_; rintro e w2 ⟨rfl, hd⟩)
    go_ret
    exact Did.ahead HF.out ⟨rfl, hd⟩
  · show Calls _ _ _ _ (Did w f bl (a.write nm n xb))
    go_enter Try.func13, Try.ntmps13
    go_wp2_with (go_at_call 40; refine Q2.out.mono ?_; rintro e w2 ⟨rfl, hd⟩)
    go_ret
    exact Did.ahead HF.out ⟨rfl, hd⟩
  · show Calls _ _ _ _ (Did w f bl (a.cut nm n))
    go_enter Try.func13, Try.ntmps13
    go_wp2_with (go_at_call 43; refine Q3.out.mono ?_; rintro e w2 ⟨rfl, hd⟩)
    go_ret
    exact Did.ahead HF.out ⟨rfl, hd⟩
  · show Calls _ _ _ _ (Did w f bl (a.rename nm to_))
    go_enter Try.func13, Try.ntmps13
    go_wp2_with (go_at_call 44; refine Q4.out.mono ?_; rintro e w2 ⟨rfl, hd⟩)
    go_ret
    exact Did.ahead HF.out ⟨rfl, hd⟩
  · show Calls _ _ _ _ (Did w f bl (a.delete nm))
    go_enter Try.func13, Try.ntmps13
    go_wp2_with (go_at_call 45; refine Q5.out.mono ?_; rintro e w2 ⟨rfl, hd⟩)
    go_ret
    exact Did.ahead HF.out ⟨rfl, hd⟩
  · show Calls _ _ _ _ (Did w f bl (a.sync nm))
    go_enter Try.func13, Try.ntmps13
    go_wp2_with (go_at_call 46; refine Q6.out.mono ?_; rintro e w2 ⟨rfl, hd⟩)
    go_ret
    exact Did.ahead HF.out ⟨rfl, hd⟩
  · show Calls _ _ _ _ (Did w f bl (0, { a with fuse := max (-1) n }))
    go_enter Try.func13, Try.ntmps13
    go_wp2_with (go_at_call 47; refine Q7.out.mono ?_; rintro e w2 ⟨rfl, hd⟩)
    go_ret
    exact Did.ahead HF.out ⟨rfl, hd⟩
  · show Calls _ _ _ _ (Did w f bl (0, a.crash kp))
    go_enter Try.func13, Try.ntmps13
    go_wp2_with (go_at_call 41; refine Q8.out.mono ?_; rintro e w2 ⟨rfl, hd⟩)
    go_ret
    exact Did.ahead HF.out ⟨rfl, hd⟩
  · have e : actF a ⟨kd, n, nm, to_, xA, xl, xc, xb, kp⟩ = (0, a) := by unfold actF; simp [z0, z1, z2, z3, z4, z5, z6, z7]
    rw [e]
    clear e
    go_enter Try.func13, Try.ntmps13
    go_wp2
    go_ret
    exact ⟨rfl, bl, H1.out, Turn.fresh HF.out⟩
end Go.Proofs.Ytelghdfikcodmaa.vacts
namespace Go.Proofs.Ytelghdfikcodmaa.vacts
open Go.RowKit Go.Maps Go.Proofs.Ytelghdfikcodmaa.base Go.Proofs.Ytelghdfikcodmaa.vfsnum Go.Proofs.Ytelghdfikcodmaa.vfs Go.Proofs.Ytelghdfikcodmaa.vref
set_option linter.unusedVariables false

set_option maxRecDepth 100000 in
set_option maxHeartbeats 4000000 in
theorem told_any (w : World) (f : Nat) (a : Fs) (bl : List Nat) (x : VAct) (h : RefAt w f a bl) (hok : FsOk a) (hst : a.stamp < 4611686018427387904) (hlen : a.files.length ≤ 1048576) (hx : VOk x) (hr : RdA w bl x.at_ x.len (x.bs.map bv)) :
    Calls Try.prog 14 #[.pointer (some ⟨f, 0, none⟩), .agg x.cells.toArray] w (RDid w f bl (actF a x)) := by
  obtain ⟨kd, n, nm, to_, xA, xl, xc, xb, kp⟩ := x
  obtain ⟨n1, n2, k1, k2, hnm, hto, hkp, hl, hc, hcm⟩ := hx
  simp only at n1 n2 k1 k2 hnm hto hkp hl hc hcm hr
  obtain ⟨w1, hw1⟩ : ∃ w1, w.alloc (.cells #[.int .i64 kd, .int .i64 n, .string nm, .string to_, .slice xA xl xc, .int .u64 kp] 32) = w1 := ⟨_, rfl⟩
  have hb := Bk.made w 32 #[.int .i64 kd, .int .i64 n, .string nm, .string to_, .slice xA xl xc, .int .u64 kp]
  have hf : Fresh w w1 := by rw [← hw1]; exact Fresh.alloc _ _
  rw [hw1] at hb
  have hc0 : w1.cell? ⟨w.heap.size, 0, none⟩ = some (.int .i64 kd) := hb.cell rfl
  have hc1 : w1.cell? ⟨w.heap.size, 1, none⟩ = some (.int .i64 n) := hb.cell rfl
  have hc2 : w1.cell? ⟨w.heap.size, 2, none⟩ = some (.string nm) := hb.cell rfl
  have hc3 : w1.cell? ⟨w.heap.size, 3, none⟩ = some (.string to_) := hb.cell rfl
  have hc4 : w1.cell? ⟨w.heap.size, 4, none⟩ = some (.slice xA xl xc) := hb.cell rfl
  have hc5 : w1.cell? ⟨w.heap.size, 5, none⟩ = some (.int .u64 kp) := hb.cell rfl
  have h1 := h.fresh hf
  have hr1 := hr.turn (Turn.fresh (S := bl) hf)
  have HF := Lib.hid hf
  clear hb hf h hr
  simp only [VAct.cells]
  have q1 := create_r w1 f a bl nm h1 hok hlen hst hnm
  have q2 := write_r w1 f a bl nm n xA xl xc xb h1 hok hlen hst n1 n2 hr1 hl
  have q3 := cut_r w1 f a bl nm n h1 hok hlen hst n1 n2
  have q4 := rename_r w1 f a bl nm to_ h1 hok hlen hst hto
  have q5 := delete_r w1 f a bl nm h1 hok hlen
  have q6 := sync_r w1 f a bl nm h1 hok hlen
  have q8 := crash_r w1 f a bl kp h1 hok hlen hkp
  have H1 := Lib.hid h1
  have Q1 := Lib.hid q1; have Q2 := Lib.hid q2; have Q3 := Lib.hid q3; have Q4 := Lib.hid q4; have Q5 := Lib.hid q5; have Q6 := Lib.hid q6; have Q8 := Lib.hid q8
  clear q1 q2 q3 q4 q5 q6 q8 h1 hr1
  rcases kinds kd with rfl | rfl | rfl | rfl | rfl | rfl | rfl | rfl | ⟨z0, z1, z2, z3, z4, z5, z6, z7⟩
  · show Calls _ _ _ _ (RDid w f bl (a.create nm))
    go_enter Try.func14, Try.ntmps14
    go_wp2_with (go_at_call 48; refine Q1.out.mono ?_; rintro e w2 ⟨rfl, hd⟩)
    go_ret
    exact RDid.ahead HF.out ⟨rfl, hd⟩
  · show Calls _ _ _ _ (RDid w f bl (a.write nm n xb))
    go_enter Try.func14, Try.ntmps14
    go_wp2_with (go_at_call 49; refine Q2.out.mono ?_; rintro e w2 ⟨rfl, hd⟩)
    go_ret
    exact RDid.ahead HF.out ⟨rfl, hd⟩
  · show Calls _ _ _ _ (RDid w f bl (a.cut nm n))
    go_enter Try.func14, Try.ntmps14
    go_wp2_with (go_at_call 50; refine Q3.out.mono ?_; rintro e w2 ⟨rfl, hd⟩)
    go_ret
    exact RDid.ahead HF.out ⟨rfl, hd⟩
  · show Calls _ _ _ _ (RDid w f bl (a.rename nm to_))
    go_enter Try.func14, Try.ntmps14
    go_wp2_with (go_at_call 51; refine Q4.out.mono ?_; rintro e w2 ⟨rfl, hd⟩)
    go_ret
    exact RDid.ahead HF.out ⟨rfl, hd⟩
  · show Calls _ _ _ _ (RDid w f bl (a.delete nm))
    go_enter Try.func14, Try.ntmps14
    go_wp2_with (go_at_call 52; refine Q5.out.mono ?_; rintro e w2 ⟨rfl, hd⟩)
    go_ret
    exact RDid.ahead HF.out ⟨rfl, hd⟩
  · show Calls _ _ _ _ (RDid w f bl (a.sync nm))
    go_enter Try.func14, Try.ntmps14
    go_wp2_with (go_at_call 53; refine Q6.out.mono ?_; rintro e w2 ⟨rfl, hd⟩)
    go_ret
    exact RDid.ahead HF.out ⟨rfl, hd⟩
  · show Calls _ _ _ _ (RDid w f bl (0, { a with fuse := max (-1) n }))
    obtain ⟨A, c, gs, hbl, hg⟩ := H1.out
    have hz3 := hg.2.2.1.free 3
    have hcf : w1.cell? ⟨f, 3, none⟩ = some (.int .i64 a.fuse) := hg.2.2.1.cell rfl
    have hp := hg.put 3 (.int .i64 (max (-1) n)) { a with fuse := max (-1) n } rfl rfl
    rw [← hbl] at hp
    have HP := Lib.hid hp
    have HB := Lib.hid hbl
    clear hp hg hbl
    have hm : max (-1) n = max n (-1) := by omega
    rw [hm] at HP ⊢
    clear hm
    go_enter Try.func14, Try.ntmps14
    go_wp2
    go_ret
    exact ⟨rfl, bl, ⟨A, c, gs, HB.out, HP.out.1⟩, (Turn.fresh HF.out).trans HP.out.2⟩
  · show Calls _ _ _ _ (RDid w f bl (0, a.crash kp))
    go_enter Try.func14, Try.ntmps14
    go_wp2_with (go_at_call 54; refine Q8.out.mono ?_; rintro e w2 ⟨rfl, hd⟩)
    go_ret
    exact RDid.ahead HF.out ⟨rfl, hd⟩
  · have e : actF a ⟨kd, n, nm, to_, xA, xl, xc, xb, kp⟩ = (0, a) := by unfold actF; simp [z0, z1, z2, z3, z4, z5, z6, z7]
    rw [e]
    clear e
    go_enter Try.func14, Try.ntmps14
    go_wp2
    go_ret
    exact ⟨rfl, bl, H1.out, Turn.fresh HF.out⟩
end Go.Proofs.Ytelghdfikcodmaa.vacts
