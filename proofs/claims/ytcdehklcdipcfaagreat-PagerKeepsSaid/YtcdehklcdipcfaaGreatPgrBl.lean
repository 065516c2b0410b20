/-
  A pager and its store, with the blocks that they hold: Alloc, Free. My own text.
-/
import Derived.Test.YtcdehklcdipcfaaGreatPgrStk
namespace Go.Proofs.YtcdehklcdipcfaaGreat.pgrp
open Go.RowKit Go.Maps Go.Proofs.YtcdehklcdipcfaaGreat.base Go.Proofs.YtcdehklcdipcfaaGreat.num Go.Proofs.YtcdehklcdipcfaaGreat.word Go.Proofs.YtcdehklcdipcfaaGreat.pagn Go.Proofs.YtcdehklcdipcfaaGreat.pgr Go.Proofs.YtcdehklcdipcfaaGreat.waln Go.Proofs.YtcdehklcdipcfaaGreat.walp Go.Proofs.YtcdehklcdipcfaaGreat.pagp
open Go.Proofs.YtcdehklcdipcfaaGreat.vfsnum hiding Bs
open Go.Proofs.YtcdehklcdipcfaaGreat.vfs (FsAt fsPtr Did tFS intKey key_int)
set_option linter.unusedVariables false
set_option linter.unusedSimpArgs false

def BoL (w : World) (p f : Nat) (a : Fs) (m : Mm) (bs : List Nat) : Prop := ∃ b bl, bs = b ++ bl ∧ FsAt w f a b ∧ MemAt w p f m bl ∧ ∀ x ∈ bl, x ∉ b
/-- a call is done -/
def LDid (w : World) (p f : Nat) (bs : List Nat) (v : Value) (a : Fs) (m : Mm) (e : Ending) (w' : World) : Prop := e = .returned v ∧ ∃ bs', BoL w' p f a m bs' ∧ VTurn bs bs' w w'
theorem BoL.turn {w w' : World} {p f : Nat} {a : Fs} {m : Mm} {bs S S' : List Nat} (h : BoL w p f a m bs) (k : VTurn S S' w w') (hS : ∀ x ∈ bs, x ∉ S) : BoL w' p f a m bs := by
  obtain ⟨b, bl, rfl, h1, h2, h3⟩ := h
  exact ⟨b, bl, rfl, h1.turn k (fun x hx hs => hS x (List.mem_append_left _ hx) hs), h2.turn k (fun x hx => hS x (List.mem_append_right _ hx)), h3⟩
theorem BoL.fresh {w w' : World} {p f : Nat} {a : Fs} {m : Mm} {bs : List Nat} (h : BoL w p f a m bs) (k : Fresh w w') : BoL w' p f a m bs := h.turn (vfs.Turn.fresh (S := []) k) (fun _ _ hx => by cases hx)
theorem BoL.inside {w : World} {p f : Nat} {a : Fs} {m : Mm} {bs : List Nat} (h : BoL w p f a m bs) : ∀ x ∈ bs, x < w.heap.size := by
  obtain ⟨b, bl, rfl, h1, h2, h3⟩ := h
  intro x hx
  rcases List.mem_append.1 hx with hx | hx
  · exact h1.inside x hx
  · exact h2.inside x hx
theorem LDid.of {w w' : World} {p f : Nat} {b bl : List Nat} {v : Value} {a : Fs} {m : Mm} {e : Ending} (h1 : FsAt w f a b) (h3 : ∀ x ∈ bl, x ∉ b) (k : MDid w p f bl v m e w') : LDid w p f (b ++ bl) v a m e w' := by
  obtain ⟨he, b', bl', k1, k2, k3, k4⟩ := PDid.of_mem h1 h3 k (vfs.Turn.refl (b ++ bl) w)
  exact ⟨he, _, ⟨b', bl', rfl, k1, k2, k3⟩, k4⟩
theorem Both.bl {w0 w : World} {p f : Nat} {a : Fs} {m : Mm} (h : Both w0 w p f a m) : ∃ bs, BoL w p f a m bs ∧ vfs.Since w0 w bs := by
  obtain ⟨b, bl, h1, h2, h3, h4⟩ := h
  exact ⟨_, ⟨b, bl, rfl, h1, h2, h3⟩, h4⟩
section
variable (w : World) (p f : Nat) (a : Fs) (m : Mm) (bs : List Nat) (h : BoL w p f a m bs) (hde : m.dead = false)
include h hde
theorem bl_alloc (hf0 : m.hd.first = 0) (hmy : m.hd.many < 65536) (h1 : Hd) (hh1 : h1 = { m.hd with many := m.hd.many + 1 }) :
    Calls Tryz.prog 21 #[pgPtr p] w (LDid w p f bs (.tuple #[.int .i64 (m.hd.many : Nat), .int .i64 0]) a { m with hd := h1, ch := putE (putE m.ch 0 (hdB h1)) m.hd.many zb, sh := dropE (dropE m.sh 0) m.hd.many }) := by
  obtain ⟨b, bl, rfl, q1, q2, q3⟩ := h
  exact (alloc_new w p f m bl q2 hde hf0 hmy h1 hh1).mono fun e w' k => LDid.of q1 q3 k
theorem bl_free (no : Nat) (hn0 : no ≠ 0) (hno : no < m.hd.many) :
    Calls Tryz.prog 26 #[pgPtr p, .int .i64 no] w (LDid w p f bs (.int .i64 0) a (freeM m no)) := by
  obtain ⟨b, bl, rfl, q1, q2, q3⟩ := h
  exact (free_ok w p f m bl q2 hde no hn0 hno _ rfl).mono fun e w' k => LDid.of q1 q3 k
theorem bl_take (C : List Bs) (hC : HasC a C) (s : Nat) (S : List Nat) (hS : Stk m (s :: S)) (hrd : m.rd < 4611686018427387903) (hmy : m.hd.many ≤ 65536) :
    Calls Tryz.prog 21 #[pgPtr p] w (LDid w p f bs (.tuple #[.int .i64 (s : Nat), .int .i64 0]) a (takeM m (S.headD 0))) := by
  obtain ⟨b, bl, rfl, q1, q2, q3⟩ := h
  have ht : m.hd.first = s := hS.top
  have hs := hS.in_ s (by simp)
  have hlk : lookE m.ch s = some (freeB (S.headD 0)) := by
    rw [hS.link 0 s rfl]
    congr 2
    cases S <;> rfl
  have hnn : S.headD 0 < m.hd.many := by
    cases S with
    | nil => show 0 < _; omega
    | cons x r => exact (hS.in_ x (by simp)).2
  have := alloc_old w p f m bl q2 hde a b C q1 hC (by rw [ht]; exact hs.1) (freeB (S.headD 0)) false (.inl ⟨by rw [ht]; exact hlk, rfl⟩) (freeB_len _) (S.headD 0) (freeB_num _ (by omega)) hnn hrd _ rfl
  rw [ht] at this
  refine this.mono fun e w' k => ?_
  have e1 : takeM m (S.headD 0) = { m with rd := m.rd + false.toNat, hd := { m.hd with first := S.headD 0 }, ch := putE (putE m.ch 0 (hdB { m.hd with first := S.headD 0 })) s zb, sh := dropE (dropE m.sh 0) s } := by
    unfold takeM
    rw [ht]
    rfl
  rw [e1]
  exact LDid.of q1 q3 k
end
end Go.Proofs.YtcdehklcdipcfaaGreat.pgrp
