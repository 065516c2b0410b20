/-
  Free, and Alloc of a page that was free; the free pages, one behind the other. My own text.
-/
import Derived.Test.YtcdehklcdipcfaaGreatPgrAga
namespace Go.Proofs.YtcdehklcdipcfaaGreat.pgrp
open Go.RowKit Go.Maps Go.Proofs.YtcdehklcdipcfaaGreat.base Go.Proofs.YtcdehklcdipcfaaGreat.num Go.Proofs.YtcdehklcdipcfaaGreat.word Go.Proofs.YtcdehklcdipcfaaGreat.pagn Go.Proofs.YtcdehklcdipcfaaGreat.pgr Go.Proofs.YtcdehklcdipcfaaGreat.waln Go.Proofs.YtcdehklcdipcfaaGreat.walp Go.Proofs.YtcdehklcdipcfaaGreat.pagp
open Go.Proofs.YtcdehklcdipcfaaGreat.vfsnum hiding Bs
open Go.Proofs.YtcdehklcdipcfaaGreat.vfs (FsAt fsPtr Did tFS intKey key_int)
set_option linter.unusedVariables false
set_option linter.unusedSimpArgs false

theorem freeB_num (n : Nat) (h : n < 4294967296) : numAt (freeB n) 0 = n := by
  unfold numAt freeB fill
  exact numAt_puts _ _ 0 n rfl h
set_option maxRecDepth 100000 in
set_option maxHeartbeats 4000000 in
theorem alloc_old (w : World) (p f : Nat) (m : Mm) (bl : List Nat) (h : MemAt w p f m bl) (hde : m.dead = false) (a : Fs) (b1 : List Nat) (C : List Bs) (hF : FsAt w f a b1) (hC : HasC a C) (hf0 : m.hd.first ≠ 0) (b : Bs) (r : Bool) (hl : LookIs m C m.hd.first b r) (hbl : b.length = 508) (n : Nat) (hn : numAt b 0 = n) (hnm : n < m.hd.many) (hrd : m.rd < 4611686018427387903) (h1 : Hd) (hh1 : h1 = { m.hd with first := n }) :
    Calls Tryz.prog 21 #[pgPtr p] w (MDid w p f bl (.tuple #[.int .i64 (m.hd.first : Nat), .int .i64 0]) { m with rd := m.rd + r.toNat, hd := h1, ch := putE (putE m.ch 0 (hdB h1)) m.hd.first zb, sh := dropE (dropE m.sh 0) m.hd.first }) := by
  have hag := again_any w p f m bl h a b1 C hF hC b r hl hbl n hn hnm hrd h1 hh1
  have hst := state_any w p f m bl h hde
  have hcf : w.cell? ⟨p, 4, none⟩ = some (.int .i64 (m.hd.first : Nat)) := by
    obtain ⟨mb, kb, A, n, c, ob, rfl, hnd, hb, hm, hk, ho, hmok⟩ := h
    exact hb.cell ((pg_hd hmok 1 (by omega)).trans (show (m.hd.nums.map iv)[1]? = some (.int .i64 (m.hd.first : Nat)) from rfl))
  have hfi : ¬ ((m.hd.first : Int) = 0) := by omega
  have hfb : ((m.hd.first : Int) != 0) = true := by simpa using hfi
  have HAG := Lib.hid hag
  have HS := Lib.hid hst
  clear hag hst h hde hF hC hl hbl hn hnm hrd hh1 hf0
  go_enter Tryz.func21, Tryz.ntmps21
  go_wp2_with (first
    | (go_at_call 40; refine HS.out.mono ?_; rintro e w1 ⟨rfl, rfl⟩)
    | (go_at_call 51; refine HAG.out.mono ?_; intro e w3 hk3; obtain ⟨rfl, bl3, hM3, hT3⟩ := hk3))
  go_ret2
  exact ⟨rfl, bl3, hM3, hT3⟩
/-- the free pages, the first one first, as they stand in what was changed -/
structure Stk (m : Mm) (S : List Nat) : Prop where
  top : m.hd.first = S.headD 0
  nd : S.Nodup
  in_ : ∀ s ∈ S, s ≠ 0 ∧ s < m.hd.many
  link : ∀ i s, S[i]? = some s → lookE m.ch s = some (freeB (S.getD (i + 1) 0))
/-- a page is given back -/
def freeM (m : Mm) (no : Nat) : Mm := { m with hd := { m.hd with first := no }, ch := putE (putE m.ch no (freeB m.hd.first)) 0 (hdB { m.hd with first := no }), sh := dropE (dropE m.sh no) 0 }
/-- a page is taken, the next one being n -/
def takeM (m : Mm) (n : Nat) : Mm := { m with hd := { m.hd with first := n }, ch := putE (putE m.ch 0 (hdB { m.hd with first := n })) m.hd.first zb, sh := dropE (dropE m.sh 0) m.hd.first }
theorem Stk.push {m : Mm} {S : List Nat} (h : Stk m S) {no : Nat} (hn0 : no ≠ 0) (hno : no < m.hd.many) (hS : no ∉ S) : Stk (freeM m no) (no :: S) where
  top := rfl
  nd := List.nodup_cons.2 ⟨hS, h.nd⟩
  in_ := fun s hs => by
    rcases List.mem_cons.1 hs with rfl | hs
    · exact ⟨hn0, hno⟩
    · exact h.in_ s hs
  link := fun i s hi => by
    show lookE (putE (putE m.ch no (freeB m.hd.first)) 0 _) s = _
    cases i with
    | zero =>
      have : no = s := by simpa using hi
      subst this
      rw [lookE_putE, if_neg hn0, lookE_putE, if_pos rfl, h.top]
      cases S <;> rfl
    | succ j =>
      have hj : S[j]? = some s := by simpa using hi
      have hs := List.mem_of_getElem? hj
      have h0 := (h.in_ s hs).1
      have hne : s ≠ no := fun e => hS (e ▸ hs)
      rw [lookE_putE, if_neg h0, lookE_putE, if_neg hne, h.link j s hj]
      simp
theorem Stk.pop {m : Mm} {s : Nat} {S : List Nat} (h : Stk m (s :: S)) : Stk (takeM m (S.headD 0)) S where
  top := rfl
  nd := (List.nodup_cons.1 h.nd).2
  in_ := fun x hx => h.in_ x (List.mem_cons_of_mem _ hx)
  link := fun i x hi => by
    have ht : m.hd.first = s := h.top
    show lookE (putE (putE m.ch 0 _) m.hd.first zb) x = _
    have hx := List.mem_of_getElem? hi
    have h0 := (h.in_ x (List.mem_cons_of_mem _ hx)).1
    have hne : x ≠ s := fun e => (List.nodup_cons.1 h.nd).1 (e ▸ hx)
    rw [ht, lookE_putE, if_neg hne, lookE_putE, if_neg h0, h.link (i + 1) x (by simpa using hi)]
    simp
end Go.Proofs.YtcdehklcdipcfaaGreat.pgrp
