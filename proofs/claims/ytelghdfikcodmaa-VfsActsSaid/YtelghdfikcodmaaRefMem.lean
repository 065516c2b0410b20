/-
  The reference's store of files (inquestref03), as it lies in memory. My own text.
-/
import Derived.Test.YtelghdfikcodmaaVfsOps5
namespace Go.Proofs.Ytelghdfikcodmaa.vref
open Go.RowKit Go.Maps Go.Proofs.Ytelghdfikcodmaa.base Go.Proofs.Ytelghdfikcodmaa.vfsnum Go.Proofs.Ytelghdfikcodmaa.vfs
set_option linter.unusedVariables false

abbrev tFile : TypeId := 88
abbrev tFS : TypeId := 76
/-- the blocks of a row: one, or none -/
def rb : Option Addr → List Nat
  | some a => [a.block]
  | none => []
theorem Own.old {w w' : World} {base : Nat} {e : TypeId} {A : Option Addr} {n c : Nat} {xs : List Value} (h : Own w base e A n c xs) (hk : ∀ b ∈ rb A, w'.heap[b]? = w.heap[b]?) : Own w' base e A n c xs := by
  refine ⟨h.1, ?_⟩
  rcases h.2 with h2 | ⟨g, cap, cur, hv, hb, hg, r⟩
  · exact .inl h2
  · refine .inr ⟨g, cap, cur, hv, hb, ?_, r⟩
    injection hv with hA _ _
    subst hA
    rw [hk g (by simp [rb])]
    exact hg
theorem Own.inside {w : World} {base : Nat} {e : TypeId} {A : Option Addr} {n c : Nat} {xs : List Value} (h : Own w base e A n c xs) : ∀ b ∈ rb A, b < w.heap.size := by
  intro b hb
  rcases h.2 with ⟨hv, _⟩ | ⟨g, cap, cur, hv, _, hg, _⟩
  · injection hv with hA _ _
    subst hA
    cases hb
  · injection hv with hA _ _
    subst hA
    obtain rfl : b = g := by simpa [rb] using hb
    exact (Array.getElem?_eq_some_iff.1 hg).1
theorem rb_nodup (A : Option Addr) : (rb A).Nodup := by cases A <;> simp [rb]

/-- a file of the reference: bytes, what lasts, which sectors wait, the stamp -/
structure RRaw where
  b : Bs
  old : Bs
  wt : List Bool
  stamp : Nat
/-- what the reference keeps of a file -/
def oldSec (x : Fl) (k : Nat) : Bs := (x.old k).getD (secAt x.bs k)
def rawR (x : Fl) : RRaw := ⟨x.bs, (List.range (tk x)).flatMap (oldSec x), (List.range (tk x)).map fun k => (x.old k).isSome, x.stamp⟩
def RFile (w : World) (g : Nat) (n : ByteArray) (r : RRaw) (bl : List Nat) : Prop :=
  ∃ A1 c1 A2 c2 A3 c3, bl = g :: (rb A1 ++ (rb A2 ++ rb A3)) ∧ bl.Nodup ∧ Bk w g tFile [.string n, .slice A1 r.b.length c1, .slice A2 r.old.length c2, .slice A3 r.wt.length c3, .int .i64 r.stamp] ∧
    Own w 0 5 A1 r.b.length c1 (r.b.map bv) ∧ Own w 0 5 A2 r.old.length c2 (r.old.map bv) ∧ Own w 0 4 A3 r.wt.length c3 (r.wt.map Value.bool)
theorem RFile.keep {w w' : World} {g : Nat} {n : ByteArray} {r : RRaw} {bl : List Nat} (h : RFile w g n r bl) (hk : ∀ b ∈ bl, w'.heap[b]? = w.heap[b]?) : RFile w' g n r bl := by
  obtain ⟨A1, c1, A2, c2, A3, c3, rfl, hnd, hb, h1, h2, h3⟩ := h
  exact ⟨A1, c1, A2, c2, A3, c3, rfl, hnd, hb.old (hk g (by simp)), Own.old h1 fun b hb => hk b (by simp [hb]), Own.old h2 fun b hb => hk b (by simp [hb]), Own.old h3 fun b hb => hk b (by simp [hb])⟩
theorem RFile.inside {w : World} {g : Nat} {n : ByteArray} {r : RRaw} {bl : List Nat} (h : RFile w g n r bl) : ∀ b ∈ bl, b < w.heap.size := by
  obtain ⟨A1, c1, A2, c2, A3, c3, rfl, hnd, hb, h1, h2, h3⟩ := h
  intro b hbm
  simp only [List.mem_cons, List.mem_append] at hbm
  rcases hbm with rfl | h | h | h
  · exact hb.inside
  · exact Own.inside h1 b h
  · exact Own.inside h2 b h
  · exact Own.inside h3 b h

def ptrOf (x : Gh) : Value := .pointer (some ⟨x.g, 0, none⟩)
def rsBlocks (f : Nat) (A : Option Addr) (gs : List Gh) : List Nat := f :: (rb A ++ gs.flatMap Gh.bl)
/-- how many sectors there are -/
def most (a : Fs) : Nat := a.room + (a.files.map fun p => tk p.2).sum
def cellsR (m : Nat) (a : Fs) (A : Option Addr) (n c : Nat) : List Value := [.slice A n c, .int .i64 m, .int .i64 a.stamp, .int .i64 a.fuse, .bool a.down]
def RefG (w : World) (f : Nat) (m : Nat) (a : Fs) (A : Option Addr) (c : Nat) (gs : List Gh) : Prop :=
  (rsBlocks f A gs).Nodup ∧ a.files = gs.map Gh.fst ∧ Bk w f tFS (cellsR m a A gs.length c) ∧ Own w 0 85 A gs.length c (gs.map ptrOf) ∧ ∀ x ∈ gs, RFile w x.g x.name (rawR x.fl) x.bl
def RefAt (w : World) (f : Nat) (a : Fs) (bl : List Nat) : Prop := ∃ A c gs, bl = rsBlocks f A gs ∧ RefG w f (most a) a A c gs

section
variable {w w' : World} {f m : Nat} {a : Fs} {A : Option Addr} {c : Nat} {gs : List Gh}
theorem RefG.inside (h : RefG w f m a A c gs) : ∀ b ∈ rsBlocks f A gs, b < w.heap.size := by
  obtain ⟨hnd, hf, hb, ho, hx⟩ := h
  intro b hbm
  simp only [rsBlocks, List.mem_cons, List.mem_append, List.mem_flatMap] at hbm
  rcases hbm with rfl | h | ⟨x, hxm, hxb⟩
  · exact hb.inside
  · exact Own.inside ho b h
  · exact (hx x hxm).inside b hxb
theorem RefG.keep (h : RefG w f m a A c gs) (hk : ∀ b ∈ rsBlocks f A gs, w'.heap[b]? = w.heap[b]?) : RefG w' f m a A c gs := by
  obtain ⟨hnd, hf, hb, ho, hx⟩ := h
  refine ⟨hnd, hf, hb.old (hk f (by simp [rsBlocks])), Own.old ho fun b hb => hk b (by simp [rsBlocks, hb]), fun x hxm => (hx x hxm).keep fun b hbm => hk b ?_⟩
  simp only [rsBlocks, List.mem_cons, List.mem_append, List.mem_flatMap]
  exact .inr (.inr ⟨x, hxm, hbm⟩)
theorem RefG.fresh (h : RefG w f m a A c gs) (hf : Fresh w w') : RefG w' f m a A c gs := h.keep fun b hb => hf.block b (h.inside b hb)
theorem RefAt.fresh {bl : List Nat} (h : RefAt w f a bl) (hf : Fresh w w') : RefAt w' f a bl := by
  obtain ⟨A, c, gs, rfl, hg⟩ := h
  exact ⟨A, c, gs, rfl, hg.fresh hf⟩
theorem RefAt.inside {bl : List Nat} (h : RefAt w f a bl) : ∀ b ∈ bl, b < w.heap.size := by
  obtain ⟨A, c, gs, rfl, hg⟩ := h
  exact hg.inside
theorem RefAt.turn {bl S S' : List Nat} (h : RefAt w f a bl) (k : Turn S S' w w') (hS : ∀ b ∈ bl, b ∉ S) : RefAt w' f a bl := by
  obtain ⟨A, c, gs, rfl, hg⟩ := h
  exact ⟨A, c, gs, rfl, hg.keep fun b hb => k.block b (hg.inside b hb) (hS b hb)⟩
/-- a field of the store is written -/
theorem RefG.put (h : RefG w f m a A c gs) (i : Nat) (v : Value) (a' : Fs) (hf : a'.files = a.files) (hv : cellsR m a' A gs.length c = (cellsR m a A gs.length c).set i v) :
    RefG (w.setCell ⟨f, i, none⟩ v) f m a' A c gs ∧ Turn (rsBlocks f A gs) (rsBlocks f A gs) w (w.setCell ⟨f, i, none⟩ v) := by
  obtain ⟨hnd, hfs, hb, ho, hx⟩ := h
  have hne : ∀ b ∈ rb A ++ gs.flatMap Gh.bl, b ≠ f := fun b hbm e => by subst e; exact (List.nodup_cons.1 hnd).1 hbm
  refine ⟨⟨hnd, hf.trans hfs, hv ▸ hb.put i v, Own.old ho fun b hb => Below.heap_setCell w ⟨f, i, none⟩ v b (hne b (by simp [hb])), fun x hxm => (hx x hxm).keep fun b hbm => Below.heap_setCell w ⟨f, i, none⟩ v b (hne b ?_)⟩, Turn.but (But.put w v) (by simp [rsBlocks])⟩
  simp only [List.mem_append, List.mem_flatMap]
  exact .inr ⟨x, hxm, hbm⟩
/-- a file turns -/
theorem RefG.upd {g1 g2 : List Gh} {x : Gh} (h : RefG w f m a A c (g1 ++ x :: g2)) (x' : Gh) (hg : x'.g = x.g) (hr : RFile w' x'.g x'.name (rawR x'.fl) x'.bl) (ht : Turn x.bl x'.bl w w') (a' : Fs)
    (ha : a' = { a with files := (g1 ++ x' :: g2).map Gh.fst }) :
    RefG w' f m a' A c (g1 ++ x' :: g2) ∧ Turn (rsBlocks f A (g1 ++ x :: g2)) (rsBlocks f A (g1 ++ x' :: g2)) w w' := by
  subst ha
  have hin := h.inside
  obtain ⟨hnd, hfs, hb, ho, hx⟩ := h
  have hxnd : x'.bl.Nodup := by obtain ⟨_, _, _, _, _, _, _, h, _⟩ := hr; exact h
  simp only [rsBlocks, List.flatMap_append, List.flatMap_cons] at hnd hin
  have hap : ∀ b, b ∈ f :: (rb A ++ (g1.flatMap Gh.bl ++ g2.flatMap Gh.bl)) → b ∉ x.bl := by
    intro b hbm hbx
    simp only [List.nodup_cons, List.nodup_append, List.mem_append] at hnd
    simp only [List.mem_cons, List.mem_append] at hbm
    obtain ⟨h1, h2, ⟨h3, ⟨h4, h5, h6⟩, h7⟩, h8⟩ := hnd
    rcases hbm with rfl | hbm | hbm | hbm
    · exact h1 (.inr (.inr (.inl hbx)))
    · exact h8 b hbm b (.inr (.inl hbx)) rfl
    · exact h7 b hbm b (.inl hbx) rfl
    · exact h6 b hbx b hbm rfl
  have hmem : ∀ b, b ∈ f :: (rb A ++ (g1.flatMap Gh.bl ++ g2.flatMap Gh.bl)) → b < w.heap.size := by
    intro b hbm
    refine hin b ?_
    simp only [List.mem_cons, List.mem_append] at hbm ⊢
    rcases hbm with h | h | h | h
    · exact .inl h
    · exact .inr (.inl h)
    · exact .inr (.inr (.inl h))
    · exact .inr (.inr (.inr (.inr h)))
  have hkp : ∀ b, b ∈ f :: (rb A ++ (g1.flatMap Gh.bl ++ g2.flatMap Gh.bl)) → w'.heap[b]? = w.heap[b]? := fun b hbm => ht.block b (hmem b hbm) (hap b hbm)
  have hnew : ∀ b ∈ x'.bl, b ∉ f :: (rb A ++ (g1.flatMap Gh.bl ++ g2.flatMap Gh.bl)) := by
    intro b hb1 hb2
    rcases ht.sub b hb1 with h | h
    · exact hap b hb2 h
    · have := hmem b hb2; omega
  have hlen : (g1 ++ x' :: g2).length = (g1 ++ x :: g2).length := by simp
  have hptr : (g1 ++ x' :: g2).map ptrOf = (g1 ++ x :: g2).map ptrOf := by simp [ptrOf, hg]
  refine ⟨⟨?_, rfl, ?_, ?_, ?_⟩, ?_⟩
  · simp only [rsBlocks, List.flatMap_append, List.flatMap_cons]
    simp only [List.mem_cons, List.mem_append] at hnew
    simp only [List.nodup_cons, List.nodup_append, List.mem_append] at hnd ⊢
    obtain ⟨h1, h2, ⟨h3, ⟨h4, h5, h6⟩, h7⟩, h8⟩ := hnd
    refine ⟨?_, h2, ⟨h3, ⟨hxnd, h5, ?_⟩, ?_⟩, ?_⟩
    · rintro (h | h | h | h)
      · exact h1 (.inl h)
      · exact h1 (.inr (.inl h))
      · exact hnew _ h (.inl rfl)
      · exact h1 (.inr (.inr (.inr h)))
    · intro b hb1 d hd1 e
      subst e
      exact hnew b hb1 (.inr (.inr (.inr hd1)))
    · intro b hb1 d hd1 e
      subst e
      rcases hd1 with h | h
      · exact hnew b h (.inr (.inr (.inl hb1)))
      · exact h7 b hb1 b (.inr h) rfl
    · intro b hb1 d hd1 e
      subst e
      rcases hd1 with h | h | h
      · exact h8 b hb1 b (.inl h) rfl
      · exact hnew b h (.inr (.inl hb1))
      · exact h8 b hb1 b (.inr (.inr h)) rfl
  · rw [hlen]; exact hb.old (hkp f (by simp))
  · rw [hlen, hptr]; exact Own.old ho fun b hb => hkp b (by simp [hb])
  · intro y hy
    rcases List.mem_append.1 hy with h | h
    · exact (hx y (by simp [h])).keep fun b hbm => hkp b (by simp only [List.mem_cons, List.mem_append, List.mem_flatMap]; exact .inr (.inr (.inl ⟨y, h, hbm⟩)))
    · rcases List.mem_cons.1 h with rfl | h
      · exact hr
      · exact (hx y (by simp [h])).keep fun b hbm => hkp b (by simp only [List.mem_cons, List.mem_append, List.mem_flatMap]; exact .inr (.inr (.inr ⟨y, h, hbm⟩)))
  · refine (ht.from_ fun b hbx => ?_).to fun b hbm => ?_
    · simp only [rsBlocks, List.flatMap_append, List.flatMap_cons, List.mem_cons, List.mem_append]
      exact .inr (.inr (.inr (.inl hbx)))
    · simp only [rsBlocks, List.flatMap_append, List.flatMap_cons, List.mem_cons, List.mem_append] at hbm ⊢
      rcases hbm with h | h | h | h | h
      · exact .inl (.inl h)
      · exact .inl (.inr (.inl h))
      · exact .inl (.inr (.inr (.inl h)))
      · rcases ht.sub b h with h | h
        · exact .inl (.inr (.inr (.inr (.inl h))))
        · exact .inr h
      · exact .inl (.inr (.inr (.inr (.inr h))))
end
end Go.Proofs.Ytelghdfikcodmaa.vref
