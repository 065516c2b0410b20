import Derived.Test.YtcdehklcdipcfaaGreatMgPo
/- Several of my own texts, one behind the other. -/
/-
  What holds of a pager is kept by Alloc, Write, Free, SetRoot. Plain mathematics. My own text.
-/
namespace Go.Proofs.YtcdehklcdipcfaaGreat.pgrp
open Go.RowKit Go.Maps Go.Proofs.YtcdehklcdipcfaaGreat.base Go.Proofs.YtcdehklcdipcfaaGreat.num Go.Proofs.YtcdehklcdipcfaaGreat.word Go.Proofs.YtcdehklcdipcfaaGreat.pagn Go.Proofs.YtcdehklcdipcfaaGreat.pgr Go.Proofs.YtcdehklcdipcfaaGreat.waln Go.Proofs.YtcdehklcdipcfaaGreat.walp Go.Proofs.YtcdehklcdipcfaaGreat.pagp
open Go.Proofs.YtcdehklcdipcfaaGreat.vfsnum hiding Bs
open Go.Proofs.YtcdehklcdipcfaaGreat.vfs (FsAt fsPtr Did tFS intKey key_int)
set_option linter.unusedVariables false
set_option linter.unusedSimpArgs false

theorem putE_nd {l : List Ent} {n : Nat} {b : Bs} (h : EntNd l) : EntNd (putE l n b) := List.pairwise_cons.2 ⟨fun e he => (mem_dropE he).2.symm, dropE_nd h⟩
theorem mem_putE {l : List Ent} {n : Nat} {b : Bs} {e : Ent} (h : e ∈ putE l n b) : e = (n, b) ∨ (e ∈ l ∧ e.1 ≠ n) := (List.mem_cons.1 h).imp id mem_dropE
/-- a page is changed -/
theorem PgInv.put {a : Fs} {C : List Bs} {T : Nat} {m : Mm} (h : PgInv a C T m) {no : Nat} {b : Bs} (hn0 : no ≠ 0) (hno : no < m.hd.many) (hb : b.length = 508) : PgInv a C T { m with ch := putE m.ch no b, sh := dropE m.sh no } where
  cv := h.cv
  all := h.all
  len := h.len
  last := h.last
  hd := h.hd
  chl := fun e he => by
    rcases mem_putE he with rfl | ⟨he, _⟩
    · exact ⟨hno, hb⟩
    · exact h.chl e he
  nd := putE_nd h.nd
  cov := fun j h1 h2 => by
    show ∃ b', lookE (putE m.ch no b) j = some b'
    rw [lookE_putE]
    by_cases hj : j = no
    · exact ⟨b, by rw [if_pos hj]⟩
    · rw [if_neg hj]; exact h.cov j h1 h2
  le := h.le
  zero := fun b' hb' => by
    have : lookE (putE m.ch no b) 0 = some b' := hb'
    rw [lookE_putE, if_neg (Ne.symm hn0)] at this
    exact h.zero b' this
  zno := fun hz => by
    have : lookE (putE m.ch no b) 0 = none := hz
    rw [lookE_putE, if_neg (Ne.symm hn0)] at this
    exact h.zno this
  sh := fun e he => by
    obtain ⟨h1, h2⟩ := mem_dropE (show e ∈ dropE m.sh no from he)
    obtain ⟨s1, s2⟩ := h.sh e h1
    refine ⟨s1, ?_⟩
    show lookE (putE m.ch no b) e.1 = none
    rw [lookE_putE, if_neg h2]
    exact s2
  dead := h.dead
/-- page 0 tells another head, of as many pages -/
theorem PgInv.turn {a : Fs} {C : List Bs} {T : Nat} {m : Mm} (h : PgInv a C T m) {hh : Hd} (hk : hh.Good) (hm : hh.many = m.hd.many) : PgInv a C T { m with hd := hh, ch := putE m.ch 0 (hdB hh), sh := dropE m.sh 0 } where
  cv := h.cv
  all := h.all
  len := h.len
  last := h.last
  hd := hk
  chl := fun e he => by
    show e.1 < hh.many ∧ _
    rcases mem_putE he with rfl | ⟨he, _⟩
    · exact ⟨by have := hk.first; show 0 < hh.many; omega, hdB_len hk.eight⟩
    · rw [hm]; exact h.chl e he
  nd := putE_nd h.nd
  cov := fun j h1 h2 => by
    have h2' : j < hh.many := h2
    show ∃ b', lookE (putE m.ch 0 (hdB hh)) j = some b'
    rw [lookE_putE]
    by_cases hj : j = 0
    · exact ⟨_, by rw [if_pos hj]⟩
    · rw [if_neg hj]; exact h.cov j h1 (by omega)
  le := by show C.length ≤ hh.many; rw [hm]; exact h.le
  zero := fun b' hb' => by
    have : lookE (putE m.ch 0 (hdB hh)) 0 = some b' := hb'
    rw [lookE_putE, if_pos rfl] at this
    injection this with this
    exact this.symm
  zno := fun hz => by
    have : lookE (putE m.ch 0 (hdB hh)) 0 = none := hz
    rw [lookE_putE, if_pos rfl] at this
    cases this
  sh := fun e he => by
    obtain ⟨h1, h2⟩ := mem_dropE (show e ∈ dropE m.sh 0 from he)
    obtain ⟨s1, s2⟩ := h.sh e h1
    refine ⟨s1, ?_⟩
    show lookE (putE m.ch 0 (hdB hh)) e.1 = none
    rw [lookE_putE, if_neg h2]
    exact s2
  dead := h.dead
set_option maxRecDepth 100000 in
/-- a page more -/
theorem PgInv.alloc {a : Fs} {C : List Bs} {T : Nat} {m : Mm} (h : PgInv a C T m) {h1 : Hd} (hh1 : h1 = { m.hd with many := m.hd.many + 1 }) (hmy : m.hd.many < 65536) : PgInv a C T { m with hd := h1, ch := putE (putE m.ch 0 (hdB h1)) m.hd.many zb, sh := dropE (dropE m.sh 0) m.hd.many } := by
  have hg := h.hd
  have hfi := hg.first
  have hk : h1.Good := by
    subst hh1
    exact ⟨hg.eight, by show m.hd.many + 1 ≤ _; omega, by show m.hd.first < m.hd.many + 1; omega, fun r hr => by have := hg.roots r hr; show r < m.hd.many + 1; omega⟩
  have hm1 : h1.many = m.hd.many + 1 := by rw [hh1]
  have hm0 : m.hd.many ≠ 0 := by omega
  refine ⟨h.cv, h.all, h.len, h.last, hk, fun e he => ?_, putE_nd (putE_nd h.nd), fun j q1 q2 => ?_, ?_, fun b' hb' => ?_, fun hz => ?_, fun e he => ?_, h.dead⟩
  · show e.1 < h1.many ∧ _
    rcases mem_putE he with rfl | ⟨he, _⟩
    · exact ⟨by show m.hd.many < h1.many; omega, rfl⟩
    · rcases mem_putE he with rfl | ⟨he, _⟩
      · exact ⟨by show 0 < h1.many; omega, hdB_len hk.eight⟩
      · obtain ⟨c1, c2⟩ := h.chl e he
        exact ⟨by omega, c2⟩
  · have q2' : j < h1.many := q2
    show ∃ b', lookE (putE (putE m.ch 0 (hdB h1)) m.hd.many zb) j = some b'
    rw [lookE_putE]
    by_cases hj : j = m.hd.many
    · exact ⟨_, by rw [if_pos hj]⟩
    · rw [if_neg hj, lookE_putE]
      by_cases hj0 : j = 0
      · exact ⟨_, by rw [if_pos hj0]⟩
      · rw [if_neg hj0]; exact h.cov j q1 (by omega)
  · show C.length ≤ h1.many
    have := h.le
    omega
  · have : lookE (putE (putE m.ch 0 (hdB h1)) m.hd.many zb) 0 = some b' := hb'
    rw [lookE_putE, if_neg (Ne.symm hm0), lookE_putE, if_pos rfl] at this
    injection this with this
    exact this.symm
  · have : lookE (putE (putE m.ch 0 (hdB h1)) m.hd.many zb) 0 = none := hz
    rw [lookE_putE, if_neg (Ne.symm hm0), lookE_putE, if_pos rfl] at this
    cases this
  · obtain ⟨e1, e2⟩ := mem_dropE (show e ∈ dropE (dropE m.sh 0) m.hd.many from he)
    obtain ⟨e3, e4⟩ := mem_dropE e1
    obtain ⟨s1, s2⟩ := h.sh e e3
    refine ⟨s1, ?_⟩
    show lookE (putE (putE m.ch 0 (hdB h1)) m.hd.many zb) e.1 = none
    rw [lookE_putE, if_neg e2, lookE_putE, if_neg e4]
    exact s2
end Go.Proofs.YtcdehklcdipcfaaGreat.pgrp
/-
  A pager and its store, both since some world: the calls. My own text.
-/
namespace Go.Proofs.YtcdehklcdipcfaaGreat.pgrp
open Go.RowKit Go.Maps Go.Proofs.YtcdehklcdipcfaaGreat.base Go.Proofs.YtcdehklcdipcfaaGreat.num Go.Proofs.YtcdehklcdipcfaaGreat.word Go.Proofs.YtcdehklcdipcfaaGreat.pagn Go.Proofs.YtcdehklcdipcfaaGreat.pgr Go.Proofs.YtcdehklcdipcfaaGreat.waln Go.Proofs.YtcdehklcdipcfaaGreat.walp Go.Proofs.YtcdehklcdipcfaaGreat.pagp
open Go.Proofs.YtcdehklcdipcfaaGreat.vfsnum hiding Bs
open Go.Proofs.YtcdehklcdipcfaaGreat.vfs (FsAt fsPtr Did tFS intKey key_int)
set_option linter.unusedVariables false
set_option linter.unusedSimpArgs false

def Both (w0 w : World) (p f : Nat) (a : Fs) (m : Mm) : Prop := ∃ b bl, FsAt w f a b ∧ MemAt w p f m bl ∧ (∀ x ∈ bl, x ∉ b) ∧ vfs.Since w0 w (b ++ bl)
section
variable {w0 w w' : World} {p f : Nat} {a a' : Fs} {m m' : Mm} {e : Ending} {v : Value}
theorem Both.fresh (h : Both w0 w p f a m) (k : Fresh w w') : Both w0 w' p f a m := by
  obtain ⟨b, bl, h1, h2, h3, h4⟩ := h
  exact ⟨b, bl, h1.fresh k, h2.fresh k, h3, h4.fresh k⟩
theorem Both.since (h : Both w0 w p f a m) : Fresh w0 w := by
  obtain ⟨b, bl, h1, h2, h3, h4⟩ := h
  exact h4.1
theorem Both.pd {b bl : List Nat} (h4 : vfs.Since w0 w (b ++ bl)) (k : PDid w p f b bl v a' m' e w') : e = .returned v ∧ Both w0 w' p f a' m' := by
  obtain ⟨he, b', bl', k1, k2, k3, k4⟩ := k
  exact ⟨he, b', bl', k1, k2, k3, h4.turn k4⟩
theorem Both.md {b bl : List Nat} (h1 : FsAt w f a b) (h3 : ∀ x ∈ bl, x ∉ b) (h4 : vfs.Since w0 w (b ++ bl)) (k : MDid w p f bl v m' e w') : e = .returned v ∧ Both w0 w' p f a m' :=
  Both.pd h4 (PDid.of_mem h1 h3 k (vfs.Turn.refl _ _))
end
section
variable (w0 w : World) (p f : Nat) (a : Fs) (m : Mm) (h : Both w0 w p f a m)
include h
theorem bo_alloc (hde : m.dead = false) (hf0 : m.hd.first = 0) (hmy : m.hd.many < 65536) (h1 : Hd) (hh1 : h1 = { m.hd with many := m.hd.many + 1 }) :
    Calls Tryz.prog 21 #[pgPtr p] w fun e w' => e = .returned (.tuple #[.int .i64 (m.hd.many : Nat), .int .i64 0]) ∧ Both w0 w' p f a { m with hd := h1, ch := putE (putE m.ch 0 (hdB h1)) m.hd.many zb, sh := dropE (dropE m.sh 0) m.hd.many } := by
  obtain ⟨b, bl, q1, q2, q3, q4⟩ := h
  exact (alloc_new w p f m bl q2 hde hf0 hmy h1 hh1).mono fun e w' k => Both.md q1 q3 q4 k
theorem bo_write (hde : m.dead = false) (no : Nat) (hn0 : no ≠ 0) (hno : no < m.hd.many) (A : Option Addr) (n c : Nat) (bs : Bs) (hr : Rd w w.heap.size A n (bs.map bv)) (hn : n ≤ 508) :
    Calls Tryz.prog 22 #[pgPtr p, .int .i64 no, .slice A n c] w fun e w' => e = .returned (.int .i64 0) ∧ Both w0 w' p f a { m with ch := putE m.ch no (fill bs), sh := dropE m.sh no } := by
  obtain ⟨b, bl, q1, q2, q3, q4⟩ := h
  exact (write_ok w p f m bl q2 hde no hn0 hno A n c bs hr hn).mono fun e w' k => Both.md q1 q3 q4 k
theorem bo_read (C : List Bs) (hde : m.dead = false) (hC : HasC a C) (no : Nat) (hno : no < m.hd.many) (b : Bs) (r : Bool) (hl : LookIs m C no b r) (hbl : b.length = 508) (hrd : m.rd < 4611686018427387903 - 1) :
    Calls Tryz.prog 25 #[pgPtr p, .int .i64 no] w fun e w' => ∃ g, e = .returned (.tuple #[.slice (some ⟨g, 0, none⟩) 508 508, .int .i64 0]) ∧ w.heap.size ≤ g ∧ Bk w' g tBlk (b.map bv) ∧ Both w0 w' p f a (pageM m no b r) := by
  obtain ⟨b', bl, q1, q2, q3, q4⟩ := h
  refine (read_ok w p f m bl q2 hde a b' C q1 hC no hno b r hl hbl hrd).mono fun e w' k => ?_
  obtain ⟨g, bl', he, hg, _, hb, hM, hT⟩ := k
  obtain ⟨r1, r2, r3⟩ := mem_p q1 q3 hM hT
  exact ⟨g, he, hg, hb, b', bl', r1, hM, r2, q4.turn r3⟩
theorem bo_commit (a' : Fs) (C : List Bs) (T : Nat) (hi : PgInv a C T m) (hch : m.ch ≠ [])
    (hmy : manyOf m ≤ 99) (hT : takes (512 * m.hd.many) + takes (12 + 516 * manyOf m + 4) ≤ T) (hst : a.stamp < 4611686018427000000) (hs : saveF a (batchL m) = (0, a')) :
    Calls Tryz.prog 14 #[pgPtr p] w fun e w' => e = .returned (.int .i64 0) ∧ Both w0 w' p f a' { m with last := m.hd, ch := [] } := by
  obtain ⟨b, bl, q1, q2, q3, q4⟩ := h
  exact (commit_inv w p f a a' C T m b bl q1 q2 q3 hi hch hmy hT hst hs).mono fun e w' k => Both.pd q4 k
theorem bo_open (C : List Bs) (T : Nat) (hi : PgInv a C T m) (hC : C ≠ []) (hst : a.stamp < 4611686018426000000) :
    Calls Tryz.prog 11 #[fsPtr f, .string ⟨#[120]⟩] w fun e w' => ∃ p2, e = .returned (.tuple #[pgPtr p2, .int .i64 0]) ∧ Both w0 w' p2 f a (mmO m.last) := by
  obtain ⟨b, bl, q1, q2, q3, q4⟩ := h
  refine (opens_old w f a C T m b q1 hi hC hst).mono fun e w' k => ?_
  obtain ⟨p2, b', bl', he, k1, k2, k3, k4⟩ := k
  have q4' : vfs.Since w0 w b := ⟨q4.1, fun x hx => q4.2 x (List.mem_append_left _ hx)⟩
  exact ⟨p2, he, b', bl', k1, k2, k3, q4'.turn k4⟩
end
theorem bo_new (w0 w : World) (f : Nat) (a : Fs) (b1 : List Nat) (hF : FsAt w f a b1) (hs : vfs.Since w0 w b1) (hok : FsOk a) (hd : a.down = false) (hf : a.fuse = -1) (h1 : getF a.files dbN = none) (h2 : getF a.files logN = none) (hr : 17 ≤ a.room) (hst : a.stamp < 4611686018426000000) :
    ∃ a' C', PgInv a' C' a.room mmN ∧ C'[0]? = some (hdB hd1) ∧ a'.stamp ≤ a.stamp + 104 ∧
      Calls Tryz.prog 11 #[fsPtr f, .string ⟨#[120]⟩] w fun e w' => ∃ p, e = .returned (.tuple #[pgPtr p, .int .i64 0]) ∧ Both w0 w' p f a' mmN := by
  obtain ⟨a', C', i1, i2, i3, hc⟩ := opens_new w f a b1 hF hok hd hf h1 h2 hr hst
  refine ⟨a', C', i1, i2, i3, hc.mono fun e w' k => ?_⟩
  obtain ⟨p, b', bl', he, k1, k2, k3, k4⟩ := k
  exact ⟨p, he, b', bl', k1, k2, k3, hs.turn k4⟩
end Go.Proofs.YtcdehklcdipcfaaGreat.pgrp
/-
  wakes of the pager's laws. My own text.
-/
namespace Go.Proofs.YtcdehklcdipcfaaGreat.pgrp
open Go.RowKit Go.Maps Go.Proofs.YtcdehklcdipcfaaGreat.base Go.Proofs.YtcdehklcdipcfaaGreat.num Go.Proofs.YtcdehklcdipcfaaGreat.word Go.Proofs.YtcdehklcdipcfaaGreat.pagn Go.Proofs.YtcdehklcdipcfaaGreat.pgr Go.Proofs.YtcdehklcdipcfaaGreat.waln Go.Proofs.YtcdehklcdipcfaaGreat.walp Go.Proofs.YtcdehklcdipcfaaGreat.pagp
open Go.Proofs.YtcdehklcdipcfaaGreat.vfsnum hiding Bs
open Go.Proofs.YtcdehklcdipcfaaGreat.vfs (FsAt fsPtr Did tFS intKey key_int)
set_option linter.unusedVariables false
set_option linter.unusedSimpArgs false

def hd2 : Hd := ⟨2, 0, [0, 0, 0, 0, 0, 0, 0, 0]⟩
/-- a pager with one page more, that has b -/
def mmA : Mm := { mmN with hd := hd2, ch := putE (putE mmN.ch 0 (hdB hd2)) 1 zb, sh := dropE (dropE mmN.sh 0) 1 }
def mmW (b : Bs) : Mm := { mmA with ch := putE mmA.ch 1 b, sh := dropE mmA.sh 1 }
def mmC (b : Bs) : Mm := { mmW b with last := hd2, ch := [] }
theorem inv_A {a : Fs} {C : List Bs} {T : Nat} (h : PgInv a C T mmN) : PgInv a C T mmA := h.alloc (h1 := hd2) rfl (by decide)
theorem inv_W {a : Fs} {C : List Bs} {T : Nat} (h : PgInv a C T mmN) {b : Bs} (hb : b.length = 508) : PgInv a C T (mmW b) := (inv_A h).put (no := 1) (by decide) (by decide) hb
theorem many_W (b : Bs) : manyOf (mmW b) = 2 := rfl
/-- what is committed then -/
theorem inv_C {a : Fs} {C : List Bs} {T : Nat} (h : PgInv a C T mmN) {b : Bs} (hb : b.length = 508) (hT : 34 ≤ T) : ∃ a' C', saveF a (batchL (mmW b)) = (0, a') ∧ PgInv a' C' T (mmC b) ∧ C'[1]? = some b ∧ a'.stamp ≤ a.stamp + 102 := by
  have hT1 : takes (512 * (mmW b).hd.many) + takes (12 + 516 * manyOf (mmW b) + 4) ≤ T := by
    rw [many_W]
    have : takes (512 * (mmW b).hd.many) + takes (12 + 516 * 2 + 4) = 33 := by show takes (512 * 2) + takes (12 + 516 * 2 + 4) = 33; decide
    omega
  obtain ⟨a', C', e1, e2, e3, e4⟩ := save_inv (inv_W h hb) (by rw [many_W]; omega) hT1
  refine ⟨a', C', e1, e2, ?_, e4⟩
  rw [e3 1 (by show 1 < 2; omega)]
  rfl
abbrev tBy : TypeId := 32
abbrev tU8 : TypeId := 5
abbrev bA : Bs := fill [97]
set_option maxRecDepth 100000 in
set_option maxHeartbeats 4000000 in
theorem wakes_any (w : World) : Calls Tryz.prog 9 #[] w fun e w' => e = .returned (.bool true) ∧ Fresh w w' := by
  have hcv : ∀ W : World, (convert tBy tBy (.slice (some ⟨W.heap.size, 0, none⟩) 1 1)).run Tryz.prog (W.alloc (.cells #[.int .u8 97] tU8)) = .ok (.slice (some ⟨W.heap.size, 0, none⟩) 1 1) (W.alloc (.cells #[.int .u8 97] tU8 (1, 2))) := fun W => Joins.run_convert_bytes_const_at (P := Tryz.prog) W tBy tU8 #[.int .u8 97] 1 1 _ rfl Tryz.underlying32 Tryz.underlying5
  have hbl : bA.length = 508 := fill_length _ (by simp)
  have hrm : ∀ W : World, Rd (W.alloc (.cells #[.int .u8 97] tU8 (1, 2))) (W.alloc (.cells #[.int .u8 97] tU8 (1, 2))).heap.size (some ⟨W.heap.size, 0, none⟩) 1 (([97] : Bs).map bv) := fun W => by
    rw [World.size_alloc]
    exact Rd.mark W #[.int .u8 97] tU8 (1, 2)
  have hnw := vfs.new_up w 1000 1000 rfl (by omega) (by omega)
  have hon : ∀ w1 f b1, FsAt w1 f (vfs.up [] 1000 0) b1 → Fresh w w1 → (∀ b ∈ b1, w.heap.size ≤ b) → ∃ a' C', PgInv a' C' 1000 mmN ∧ C'[0]? = some (hdB hd1) ∧ a'.stamp ≤ 104 ∧ Calls Tryz.prog 11 #[fsPtr f, .string ⟨#[120]⟩] w1 fun e w' => ∃ p, e = .returned (.tuple #[pgPtr p, .int .i64 0]) ∧ Both w w' p f a' mmN := fun w1 f b1 hF hf hb => by
    have := bo_new w w1 f (vfs.up [] 1000 0) b1 hF ⟨hf, hb⟩ (vfs.new_ok 1000 (by omega)) rfl rfl rfl rfl (by show 17 ≤ 1000; omega) (by show 0 < _; omega)
    simpa [vfs.up] using this
  have hal : ∀ w2 p f a1, Both w w2 p f a1 mmN → Calls Tryz.prog 21 #[pgPtr p] w2 fun e w' => e = .returned (.tuple #[.int .i64 1, .int .i64 0]) ∧ Both w w' p f a1 mmA := fun w2 p f a1 h => bo_alloc w w2 p f a1 mmN h rfl rfl (by decide) hd2 rfl
  have hwr : ∀ w3 p f a1, Both w w3 p f a1 mmA → Calls Tryz.prog 22 #[pgPtr p, .int .i64 1, .slice (some ⟨w3.heap.size, 0, none⟩) 1 1] (w3.alloc (.cells #[.int .u8 97] tU8 (1, 2))) fun e w' => e = .returned (.int .i64 0) ∧ Both w w' p f a1 (mmW bA) := fun w3 p f a1 h => bo_write w _ p f a1 mmA (h.fresh (Fresh.alloc _ _)) rfl 1 (by decide) (by decide) _ 1 1 [97] (hrm w3) (by omega)
  have hcm : ∀ w4 p f a1 C1, Both w w4 p f a1 (mmW bA) → PgInv a1 C1 1000 mmN → a1.stamp ≤ 104 → ∃ a2 C2, PgInv a2 C2 1000 (mmC bA) ∧ C2[1]? = some bA ∧ a2.stamp ≤ 206 ∧ Calls Tryz.prog 14 #[pgPtr p] w4 fun e w' => e = .returned (.int .i64 0) ∧ Both w w' p f a2 (mmC bA) := fun w4 p f a1 C1 h hi hs => by
    obtain ⟨a2, C2, e1, e2, e3, e4⟩ := inv_C hi hbl (by omega)
    refine ⟨a2, C2, e2, e3, by omega, bo_commit w w4 p f a1 (mmW bA) h a2 C1 1000 (inv_W hi hbl) (by intro e; cases e) (by rw [many_W]; omega) ?_ (by omega) e1⟩
    rw [many_W]
    show takes (512 * 2) + takes (12 + 516 * 2 + 4) ≤ 1000
    decide
  have hop : ∀ w5 p f a2 C2, Both w w5 p f a2 (mmC bA) → PgInv a2 C2 1000 (mmC bA) → C2[1]? = some bA → a2.stamp ≤ 206 → Calls Tryz.prog 11 #[fsPtr f, .string ⟨#[120]⟩] w5 fun e w' => ∃ p2, e = .returned (.tuple #[pgPtr p2, .int .i64 0]) ∧ Both w w' p2 f a2 (mmO hd2) := fun w5 p f a2 C2 h hi hc hs => bo_open w w5 p f a2 (mmC bA) h C2 1000 hi (by rintro rfl; cases hc) (by omega)
  have hrd : ∀ w6 p f a2 C2, Both w w6 p f a2 (mmO hd2) → PgInv a2 C2 1000 (mmC bA) → C2[1]? = some bA → Calls Tryz.prog 25 #[pgPtr p, .int .i64 1] w6 fun e w' => ∃ g, e = .returned (.tuple #[.slice (some ⟨g, 0, none⟩) 508 508, .int .i64 0]) ∧ w'.cell? ⟨g, 0, none⟩ = some (.int .u8 97) ∧ Fresh w w' := fun w6 p f a2 C2 h hi hc =>
    (bo_read w w6 p f a2 (mmO hd2) h C2 rfl hi.has 1 (by decide) bA true (.inr (.inr ⟨rfl, rfl, hc, rfl⟩)) hbl (by decide)).mono fun e w' k => by
      obtain ⟨g, he, _, hb, hB⟩ := k
      exact ⟨g, he, hb.cell (i := 0) rfl, hB.since⟩
  have HNW := Lib.hid hnw
  have HON := Lib.hid hon
  have HAL := Lib.hid hal
  have HWR := Lib.hid hwr
  have HCM := Lib.hid hcm
  have HOP := Lib.hid hop
  have HRD := Lib.hid hrd
  clear hbl hrm hnw hon hal hwr hcm hop hrd
  go_enter Tryz.func9, Tryz.ntmps9
  go_wp2_with (first
    | (go_at_call 10; refine HNW.out.mono ?_; rintro e w1 ⟨f, b1, rfl, hF1, hf1, hb1⟩; obtain ⟨a1, C1, i1, i2, i3, hO⟩ := HON.out w1 f b1 hF1 hf1 hb1; have HO := Lib.hid hO; have HI1 := Lib.hid i1; have HI3 := Lib.hid i3; clear hO i1 i2 i3 hF1 hf1 hb1)
    | (go_at_call 11; refine HO.out.mono ?_; rintro e w2 ⟨p, rfl, hB2⟩; have HB2 := Lib.hid hB2; clear hB2)
    | (go_at_call 21; refine (HAL.out _ _ _ _ HB2.out).mono ?_; rintro e w3 ⟨rfl, hB3⟩; have HB3 := Lib.hid hB3; clear hB3)
    | (go_at_call 22; refine (HWR.out _ _ _ _ HB3.out).mono ?_; rintro e w4 ⟨rfl, hB4⟩; obtain ⟨a2, C2, j1, j2, j3, hC⟩ := HCM.out _ _ _ _ _ hB4 HI1.out HI3.out; have HC := Lib.hid hC; have HJ1 := Lib.hid j1; have HJ2 := Lib.hid j2; have HJ3 := Lib.hid j3; clear hC j1 j2 j3 hB4)
    | (go_at_call 14; refine HC.out.mono ?_; rintro e w5 ⟨rfl, hB5⟩; have HB5 := Lib.hid hB5; clear hB5)
    | (go_at_call 11; refine (HOP.out _ _ _ _ _ HB5.out HJ1.out HJ2.out HJ3.out).mono ?_; rintro e w6 ⟨p2, rfl, hB6⟩; have HB6 := Lib.hid hB6; clear hB6)
    | (go_at_call 25; refine (HRD.out _ _ _ _ _ HB6.out HJ1.out HJ2.out).mono ?_; rintro e w7 ⟨g, rfl, hc7, hf7⟩; have HF7 := Lib.hid hf7; clear hf7))
  go_ret
  exact ⟨rfl, HF7.out⟩
end Go.Proofs.YtcdehklcdipcfaaGreat.pgrp
/-
  A pager that is nil; names that a pager may not have. My own text.
-/
namespace Go.Proofs.YtcdehklcdipcfaaGreat.pgrp
open Go.RowKit Go.Maps Go.Proofs.YtcdehklcdipcfaaGreat.base Go.Proofs.YtcdehklcdipcfaaGreat.num Go.Proofs.YtcdehklcdipcfaaGreat.word Go.Proofs.YtcdehklcdipcfaaGreat.pagn Go.Proofs.YtcdehklcdipcfaaGreat.pgr Go.Proofs.YtcdehklcdipcfaaGreat.waln Go.Proofs.YtcdehklcdipcfaaGreat.walp Go.Proofs.YtcdehklcdipcfaaGreat.pagp
open Go.Proofs.YtcdehklcdipcfaaGreat.vfsnum hiding Bs
open Go.Proofs.YtcdehklcdipcfaaGreat.vfs (FsAt fsPtr Did tFS intKey key_int)
set_option linter.unusedVariables false
set_option linter.unusedSimpArgs false

section
variable (w : World)
theorem alloc_nil : Calls Tryz.prog 21 #[.pointer none] w fun e w' => e = .returned (.tuple #[.int .i64 0, .int .i64 2]) ∧ w = w' := by
  have hs := state_nil w
  go_enter Tryz.func21, Tryz.ntmps21
  go_wp2_with (go_at_call 40; refine hs.mono ?_; rintro e w1 ⟨rfl, rfl⟩)
  go_ret2
  exact ⟨rfl, rfl⟩
theorem read_nil (no : Int) : Calls Tryz.prog 25 #[.pointer none, .int .i64 no] w fun e w' => e = .returned (.tuple #[.slice none 0 0, .int .i64 2]) ∧ w = w' := by
  have hs := state_nil w
  go_enter Tryz.func25, Tryz.ntmps25
  go_wp2_with (go_at_call 40; refine hs.mono ?_; rintro e w1 ⟨rfl, rfl⟩)
  go_ret2
  exact ⟨rfl, rfl⟩
theorem frees_nil : Calls Tryz.prog 29 #[.pointer none] w fun e w' => e = .returned (.tuple #[.slice none 0 0, .int .i64 2]) ∧ w = w' := by
  have hs := state_nil w
  go_enter Tryz.func29, Tryz.ntmps29
  go_wp2_with (go_at_call 40; refine hs.mono ?_; rintro e w1 ⟨rfl, rfl⟩)
  go_ret2
  exact ⟨rfl, rfl⟩
theorem free_nil (no : Int) : Calls Tryz.prog 26 #[.pointer none, .int .i64 no] w fun e w' => e = .returned (.int .i64 2) ∧ w = w' := by
  have hs := state_nil w
  go_enter Tryz.func26, Tryz.ntmps26
  go_wp2_with (go_at_call 40; refine hs.mono ?_; rintro e w1 ⟨rfl, rfl⟩)
  go_ret
  exact ⟨rfl, rfl⟩
theorem write_nil (no : Int) (A : Option Addr) (n c : Nat) : Calls Tryz.prog 22 #[.pointer none, .int .i64 no, .slice A n c] w fun e w' => e = .returned (.int .i64 2) ∧ w = w' := by
  have hs := state_nil w
  go_enter Tryz.func22, Tryz.ntmps22
  go_wp2_with (go_at_call 40; refine hs.mono ?_; rintro e w1 ⟨rfl, rfl⟩)
  go_ret
  exact ⟨rfl, rfl⟩
theorem setRoot_nil (k no : Int) : Calls Tryz.prog 27 #[.pointer none, .int .i64 k, .int .i64 no] w fun e w' => e = .returned (.int .i64 2) ∧ w = w' := by
  have hs := state_nil w
  go_enter Tryz.func27, Tryz.ntmps27
  go_wp2_with (go_at_call 40; refine hs.mono ?_; rintro e w1 ⟨rfl, rfl⟩)
  go_ret
  exact ⟨rfl, rfl⟩
theorem commit_nil : Calls Tryz.prog 14 #[.pointer none] w fun e w' => e = .returned (.int .i64 2) ∧ w = w' := by
  have hs := state_nil w
  go_enter Tryz.func14, Tryz.ntmps14
  go_wp2_with (go_at_call 40; refine hs.mono ?_; rintro e w1 ⟨rfl, rfl⟩)
  go_ret
  exact ⟨rfl, rfl⟩
theorem abort_nil : Calls Tryz.prog 16 #[.pointer none] w fun e w' => e = .returned (.int .i64 2) ∧ w = w' := by
  have hs := state_nil w
  go_enter Tryz.func16, Tryz.ntmps16
  go_wp2_with (go_at_call 40; refine hs.mono ?_; rintro e w1 ⟨rfl, rfl⟩)
  go_ret
  exact ⟨rfl, rfl⟩
theorem root_nil (k : Int) : Calls Tryz.prog 28 #[.pointer none, .int .i64 k] w fun e w' => e = .returned (.int .i64 0) ∧ w = w' := by
  have hs := state_nil w
  go_enter Tryz.func28, Tryz.ntmps28
  go_wp2_with (go_at_call 40; refine hs.mono ?_; rintro e w1 ⟨rfl, rfl⟩)
  go_ret
  exact ⟨rfl, rfl⟩
theorem many_nil : Calls Tryz.prog 23 #[.pointer none] w fun e w' => e = .returned (.int .i64 0) ∧ w = w' := by
  have hs := state_nil w
  go_enter Tryz.func23, Tryz.ntmps23
  go_wp2_with (go_at_call 40; refine hs.mono ?_; rintro e w1 ⟨rfl, rfl⟩)
  go_ret
  exact ⟨rfl, rfl⟩
theorem reads_nil : Calls Tryz.prog 30 #[.pointer none] w fun e w' => e = .returned (.int .i64 0) ∧ w = w' := by
  have hs := state_nil w
  go_enter Tryz.func30, Tryz.ntmps30
  go_wp2_with (go_at_call 40; refine hs.mono ?_; rintro e w1 ⟨rfl, rfl⟩)
  go_ret
  exact ⟨rfl, rfl⟩
theorem changed_nil : Calls Tryz.prog 24 #[.pointer none] w fun e w' => e = .returned (.bool false) ∧ w = w' := by
  have hs := state_nil w
  go_enter Tryz.func24, Tryz.ntmps24
  go_wp2_with (go_at_call 40; refine hs.mono ?_; rintro e w1 ⟨rfl, rfl⟩)
  go_ret
  exact ⟨rfl, rfl⟩
theorem open_nil (s : ByteArray) : Calls Tryz.prog 11 #[.pointer none, .string s] w fun e w' => e = .returned (.tuple #[.pointer none, .int .i64 2]) ∧ w = w' := by
  go_enter Tryz.func11, Tryz.ntmps11
  go_wp2
  go_ret2
  exact ⟨rfl, rfl⟩
theorem open_bad (f : Nat) (s : ByteArray) (hs : s.size ≤ maxLen) (hr : pgrr.rightP s = false) : Calls Tryz.prog 11 #[fsPtr f, .string s] w fun e w' => e = .returned (.tuple #[.pointer none, .int .i64 1]) ∧ w = w' := by
  have hri := fun W => pgrr.rightP_any s W hs
  rw [hr] at hri
  clear hs hr
  go_enter Tryz.func11, Tryz.ntmps11
  go_wp2_with (go_at_call 31; refine (hri _).mono ?_; rintro e w1 ⟨rfl, rfl⟩)
  go_ret2
  exact ⟨rfl, rfl⟩
end
end Go.Proofs.YtcdehklcdipcfaaGreat.pgrp
