/-
  A pager and its store, with their blocks: Write, Commit, Open anew, Read, Reads; a row of pages. My own text.
-/
import Derived.Test.YtcdehklcdipcfaaGreatPgrBl
namespace Go.Proofs.YtcdehklcdipcfaaGreat.pgrp
open Go.RowKit Go.Maps Go.Proofs.YtcdehklcdipcfaaGreat.base Go.Proofs.YtcdehklcdipcfaaGreat.num Go.Proofs.YtcdehklcdipcfaaGreat.word Go.Proofs.YtcdehklcdipcfaaGreat.pagn Go.Proofs.YtcdehklcdipcfaaGreat.pgr Go.Proofs.YtcdehklcdipcfaaGreat.waln Go.Proofs.YtcdehklcdipcfaaGreat.walp Go.Proofs.YtcdehklcdipcfaaGreat.pagp
open Go.Proofs.YtcdehklcdipcfaaGreat.vfsnum hiding Bs
open Go.Proofs.YtcdehklcdipcfaaGreat.vfs (FsAt fsPtr Did tFS intKey key_int)
set_option linter.unusedVariables false
set_option linter.unusedSimpArgs false

section
variable (w : World) (p f : Nat) (a : Fs) (m : Mm) (bs : List Nat) (h : BoL w p f a m bs)
include h
theorem bl_write (hde : m.dead = false) (no : Nat) (hn0 : no ≠ 0) (hno : no < m.hd.many) (A : Option Addr) (n c : Nat) (b : Bs) (hr : Rd w w.heap.size A n (b.map bv)) (hn : n ≤ 508) :
    Calls Tryz.prog 22 #[pgPtr p, .int .i64 no, .slice A n c] w (LDid w p f bs (.int .i64 0) a { m with ch := putE m.ch no (fill b), sh := dropE m.sh no }) := by
  obtain ⟨b', bl, rfl, q1, q2, q3⟩ := h
  exact (write_ok w p f m bl q2 hde no hn0 hno A n c b hr hn).mono fun e w' k => LDid.of q1 q3 k
theorem bl_commit (a' : Fs) (C : List Bs) (T : Nat) (hi : PgInv a C T m) (hch : m.ch ≠ [])
    (hmy : manyOf m ≤ 99) (hT : takes (512 * m.hd.many) + takes (12 + 516 * manyOf m + 4) ≤ T) (hst : a.stamp < 4611686018427000000) (hs : saveF a (batchL m) = (0, a')) :
    Calls Tryz.prog 14 #[pgPtr p] w (LDid w p f bs (.int .i64 0) a' { m with last := m.hd, ch := [] }) := by
  obtain ⟨b, bl, rfl, q1, q2, q3⟩ := h
  refine (commit_inv w p f a a' C T m b bl q1 q2 q3 hi hch hmy hT hst hs).mono fun e w' k => ?_
  obtain ⟨he, b', bl', k1, k2, k3, k4⟩ := k
  exact ⟨he, _, ⟨b', bl', rfl, k1, k2, k3⟩, k4⟩
theorem bl_open (C : List Bs) (T : Nat) (hi : PgInv a C T m) (hC : C ≠ []) (hst : a.stamp < 4611686018426000000) :
    Calls Tryz.prog 11 #[fsPtr f, .string ⟨#[120]⟩] w fun e w' => ∃ p2 bs', e = .returned (.tuple #[pgPtr p2, .int .i64 0]) ∧ BoL w' p2 f a (mmO m.last) bs' ∧ VTurn bs bs' w w' := by
  obtain ⟨b, bl, rfl, q1, q2, q3⟩ := h
  refine (opens_old w f a C T m b q1 hi hC hst).mono fun e w' k => ?_
  obtain ⟨p2, b', bl', he, k1, k2, k3, k4⟩ := k
  exact ⟨p2, _, he, ⟨b', bl', rfl, k1, k2, k3⟩, k4.from_ (fun x hx => List.mem_append_left _ hx)⟩
theorem bl_read (C : List Bs) (hde : m.dead = false) (hC : HasC a C) (no : Nat) (hno : no < m.hd.many) (b : Bs) (r : Bool) (hl : LookIs m C no b r) (hbl : b.length = 508) (hrd : m.rd < 4611686018427387903 - 1) :
    Calls Tryz.prog 25 #[pgPtr p, .int .i64 no] w fun e w' => ∃ g bs', e = .returned (.tuple #[.slice (some ⟨g, 0, none⟩) 508 508, .int .i64 0]) ∧ w.heap.size ≤ g ∧ g ∉ bs' ∧ Bk w' g tBlk (b.map bv) ∧ BoL w' p f a (pageM m no b r) bs' ∧ VTurn bs bs' w w' := by
  obtain ⟨b', bl, rfl, q1, q2, q3⟩ := h
  refine (read_ok w p f m bl q2 hde a b' C q1 hC no hno b r hl hbl hrd).mono fun e w' k => ?_
  obtain ⟨g, bl', he, hg, hgn, hb, hM, hT⟩ := k
  obtain ⟨r1, r2, r3⟩ := mem_p q1 q3 hM hT
  exact ⟨g, _, he, hg, (fun hx => by
    rcases List.mem_append.1 hx with hx | hx
    · have := q1.inside _ hx; omega
    · exact hgn hx), hb, ⟨b', bl', rfl, r1, hM, r2⟩, r3⟩
theorem bl_reads (hde : m.dead = false) : Calls Tryz.prog 30 #[pgPtr p] w fun e w' => e = .returned (.int .i64 (m.rd : Nat)) ∧ w = w' := by
  obtain ⟨b, bl, rfl, q1, q2, q3⟩ := h
  have HS := Lib.hid (state_any w p f m bl q2 hde)
  have hcf : w.cell? ⟨p, 26, none⟩ = some (.int .i64 (m.rd : Nat)) := by
    obtain ⟨mb, kb, A, n, c, ob, rfl, hnd, hb, hm, hk, ho, hmok⟩ := q2
    exact hb.cell (pg_tail hmok 3)
  clear q1 q2 q3 hde
  go_enter Tryz.func30, Tryz.ntmps30
  go_wp2_with (go_at_call 40; refine HS.out.mono ?_; rintro e w1 ⟨rfl, rfl⟩)
  go_ret
  exact ⟨rfl, rfl⟩
end
theorem putE_len (l : List Ent) (n : Nat) (b : Bs) : (putE l n b).length ≤ l.length + 1 := by
  unfold putE
  rw [List.length_cons]
  exact Nat.succ_le_succ (List.length_filter_le _ _)
/-- what page j has -/
def pgB (j : Nat) : Bs := fill [UInt8.ofNat j]
theorem pgB_len (j : Nat) : (pgB j).length = 508 := fill_length _ (by simp)
/-- k pages, each with its own byte -/
structure Row1 (a : Fs) (C : List Bs) (T : Nat) (m : Mm) (k : Nat) : Prop where
  inv : PgInv a C T m
  many : m.hd.many = k + 1
  first : m.hd.first = 0
  few : m.ch.length ≤ 3 * k
  has : ∀ j, j ≠ 0 → j ≤ k → lookE m.ch j = some (pgB j)
def rowA (m : Mm) : Mm := { m with hd := { m.hd with many := m.hd.many + 1 }, ch := putE (putE m.ch 0 (hdB { m.hd with many := m.hd.many + 1 })) m.hd.many zb, sh := dropE (dropE m.sh 0) m.hd.many }
def rowW (m : Mm) (k : Nat) : Mm := { rowA m with ch := putE (rowA m).ch (k + 1) (pgB (k + 1)), sh := dropE (rowA m).sh (k + 1) }
theorem Row1.step {a : Fs} {C : List Bs} {T : Nat} {m : Mm} {k : Nat} (h : Row1 a C T m k) (hk : k < 100) : Row1 a C T (rowW m k) (k + 1) where
  inv := (h.inv.alloc (h1 := { m.hd with many := m.hd.many + 1 }) rfl (by rw [h.many]; omega)).put (no := k + 1) (by omega) (by show k + 1 < m.hd.many + 1; rw [h.many]; omega) (pgB_len _)
  many := by show m.hd.many + 1 = k + 1 + 1; rw [h.many]
  first := h.first
  few := by
    have h1 := putE_len (putE (putE m.ch 0 (hdB { m.hd with many := m.hd.many + 1 })) m.hd.many zb) (k + 1) (pgB (k + 1))
    have h2 := putE_len (putE m.ch 0 (hdB { m.hd with many := m.hd.many + 1 })) m.hd.many zb
    have h3 := putE_len m.ch 0 (hdB { m.hd with many := m.hd.many + 1 })
    have h4 := h.few
    show (putE (putE (putE m.ch 0 (hdB { m.hd with many := m.hd.many + 1 })) m.hd.many zb) (k + 1) (pgB (k + 1))).length ≤ 3 * (k + 1)
    omega
  has := fun j h0 hj => by
    show lookE (putE (putE (putE m.ch 0 (hdB { m.hd with many := m.hd.many + 1 })) m.hd.many zb) (k + 1) (pgB (k + 1))) j = some (pgB j)
    rw [lookE_putE]
    by_cases e : j = k + 1
    · rw [if_pos e, e]
    · rw [if_neg e, h.many, lookE_putE, if_neg e, lookE_putE, if_neg h0]
      exact h.has j h0 (by omega)
theorem Row1.commit {a : Fs} {C : List Bs} {T : Nat} {m : Mm} {k : Nat} (h : Row1 a C T m k) (hk : k ≤ 12) (hT : 500 ≤ T) : ∃ a' C', saveF a (batchL m) = (0, a') ∧ PgInv a' C' T { m with last := m.hd, ch := [] } ∧ (∀ j, j ≠ 0 → j ≤ k → C'[j]? = some (pgB j)) ∧ C' ≠ [] ∧ a'.stamp ≤ a.stamp + 102 ∧ manyOf m ≤ 99 ∧ takes (512 * m.hd.many) + takes (12 + 516 * manyOf m + 4) ≤ T := by
  have hmy : manyOf m ≤ 37 := by
    have := h.few
    unfold manyOf
    split <;> omega
  have hT1 : takes (512 * m.hd.many) + takes (12 + 516 * manyOf m + 4) ≤ T := by
    rw [h.many]
    unfold takes
    omega
  obtain ⟨a', C', e1, e2, e3, e4⟩ := save_inv h.inv (by omega) hT1
  refine ⟨a', C', e1, e2, fun j h0 hj => ?_, ?_, e4, by omega, hT1⟩
  · rw [e3 j (by rw [h.many]; omega)]
    unfold viewE
    rw [h.has j h0 hj]
  · rintro rfl
    have hl := e2.len
    have h1 : ([] : List Bs).length = m.hd.many := hl
    rw [h.many] at h1
    cases h1
end Go.Proofs.YtcdehklcdipcfaaGreat.pgrp
