/-
  A store of files, as it lies in memory; the contracts of state, find, burn, mark, New, newFile, right. My own text.
-/
import Derived.Test.YtelghdfikcodmaaVfsCrash
import Derived.Test.YtelghdfikcodmaaVfsSpec
namespace Go.Proofs.Ytelghdfikcodmaa.vfs
open Go.RowKit Go.Maps Go.Proofs.Ytelghdfikcodmaa.base Go.Proofs.Ytelghdfikcodmaa.vfsnum
set_option linter.unusedVariables false

/-- a file, and where it lies -/
structure Gh where
  name : ByteArray
  fl : Fl
  g : Nat
  bl : List Nat
def Gh.fst (x : Gh) : ByteArray × Fl := (x.name, x.fl)
def Gh.kv (x : Gh) : Value × Value := (.string x.name, .pointer (some ⟨x.g, 0, none⟩))
def fsBlocks (f mb : Nat) (gs : List Gh) : List Nat := f :: mb :: gs.flatMap Gh.bl
theorem key_str (s : ByteArray) (h : s.size ≤ maxLen) : keyOf Try.prog 9 (.string s) = some (.string s.data.toList) := by
  simp [keyOf, Try.underlying9, mapKey, h]

def FsG (w : World) (f : Nat) (a : Fs) (mb : Nat) (gs : List Gh) : Prop :=
  (fsBlocks f mb gs).Nodup ∧ a.files = gs.map Gh.fst ∧ Bk w f tFS [.map (some mb), .int .i64 a.room, .int .i64 a.stamp, .int .i64 a.fuse, .bool a.down] ∧
    MapOf Try.prog 9 w mb (gs.map Gh.kv) ∧ ∀ x ∈ gs, FileRaw w x.g (rawOf x.fl) x.bl
def FsAt (w : World) (f : Nat) (a : Fs) (bl : List Nat) : Prop := ∃ mb gs, bl = fsBlocks f mb gs ∧ FsG w f a mb gs

section
variable {w w' : World} {f mb : Nat} {a : Fs} {gs : List Gh}
theorem FsG.inside (h : FsG w f a mb gs) : ∀ b ∈ fsBlocks f mb gs, b < w.heap.size := by
  obtain ⟨hnd, hf, hb, hm, hx⟩ := h
  intro b hbm
  rcases List.mem_cons.1 hbm with rfl | hbm
  · exact hb.inside
  · rcases List.mem_cons.1 hbm with rfl | hbm
    · exact hm.inside
    · obtain ⟨x, hxm, hxb⟩ := List.mem_flatMap.1 hbm
      exact (hx x hxm).inside b hxb
theorem FsG.keep (h : FsG w f a mb gs) (hk : ∀ b ∈ fsBlocks f mb gs, w'.heap[b]? = w.heap[b]?) : FsG w' f a mb gs := by
  obtain ⟨hnd, hf, hb, hm, hx⟩ := h
  refine ⟨hnd, hf, hb.old (hk f (by simp [fsBlocks])), hm.old (hk mb (by simp [fsBlocks])), fun x hxm => (hx x hxm).keep fun b hbm => hk b ?_⟩
  simp only [fsBlocks, List.mem_cons, List.mem_flatMap]
  exact .inr (.inr ⟨x, hxm, hbm⟩)
theorem FsG.fresh (h : FsG w f a mb gs) (hf : Fresh w w') : FsG w' f a mb gs := h.keep fun b hb => hf.block b (h.inside b hb)
theorem FsAt.fresh {bl : List Nat} (h : FsAt w f a bl) (hf : Fresh w w') : FsAt w' f a bl := by
  obtain ⟨mb, gs, rfl, hg⟩ := h
  exact ⟨mb, gs, rfl, hg.fresh hf⟩
theorem FsAt.inside {bl : List Nat} (h : FsAt w f a bl) : ∀ b ∈ bl, b < w.heap.size := by
  obtain ⟨mb, gs, rfl, hg⟩ := h
  exact hg.inside
theorem FsAt.turn {bl S S' : List Nat} (h : FsAt w f a bl) (k : Turn S S' w w') (hS : ∀ b ∈ bl, b ∉ S) : FsAt w' f a bl := by
  obtain ⟨mb, gs, rfl, hg⟩ := h
  exact ⟨mb, gs, rfl, hg.keep fun b hb => k.block b (hg.inside b hb) (hS b hb)⟩
theorem FsAt.nodup {bl : List Nat} (h : FsAt w f a bl) : bl.Nodup := by
  obtain ⟨mb, gs, rfl, hg⟩ := h
  exact hg.1
/-- a field of the store is written -/
theorem FsG.put (h : FsG w f a mb gs) (i : Nat) (v : Value) (a' : Fs) (hf : a'.files = a.files)
    (hv : [.map (some mb), .int .i64 a'.room, .int .i64 a'.stamp, .int .i64 a'.fuse, .bool a'.down] = ([.map (some mb), .int .i64 a.room, .int .i64 a.stamp, .int .i64 a.fuse, .bool a.down] : List Value).set i v) :
    FsG (w.setCell ⟨f, i, none⟩ v) f a' mb gs ∧ Turn (fsBlocks f mb gs) (fsBlocks f mb gs) w (w.setCell ⟨f, i, none⟩ v) := by
  obtain ⟨hnd, hfs, hb, hm, hx⟩ := h
  have hne : ∀ b ∈ mb :: gs.flatMap Gh.bl, b ≠ f := fun b hbm e => by subst e; exact (List.nodup_cons.1 hnd).1 hbm
  refine ⟨⟨hnd, hf.trans hfs, hv ▸ hb.put i v, hm.old (Below.heap_setCell w ⟨f, i, none⟩ v mb (hne mb (by simp))), fun x hxm => (hx x hxm).keep fun b hbm => Below.heap_setCell w ⟨f, i, none⟩ v b (hne b ?_)⟩, Turn.but (But.put w v) (by simp [fsBlocks])⟩
  simp only [List.mem_cons, List.mem_flatMap]
  exact .inr ⟨x, hxm, hbm⟩
/-- a file turns -/
theorem FsG.upd {g1 g2 : List Gh} {x : Gh} (h : FsG w f a mb (g1 ++ x :: g2)) (fl' : Fl) (bl' : List Nat) (hr : FileRaw w' x.g (rawOf fl') bl') (ht : Turn x.bl bl' w w') (a' : Fs)
    (ha : a' = { a with files := (g1 ++ { x with fl := fl', bl := bl' } :: g2).map Gh.fst }) :
    FsG w' f a' mb (g1 ++ { x with fl := fl', bl := bl' } :: g2) ∧ Turn (fsBlocks f mb (g1 ++ x :: g2)) (fsBlocks f mb (g1 ++ { x with fl := fl', bl := bl' } :: g2)) w w' := by
  subst ha
  have hin := h.inside
  obtain ⟨hnd, hfs, hb, hm, hx⟩ := h
  simp only [fsBlocks, List.flatMap_append, List.flatMap_cons] at hnd hin
  have hxnd := hr
  have hnd' := hnd
  -- what of the others is not x's
  have hap : ∀ b, b ∈ f :: mb :: (g1.flatMap Gh.bl ++ g2.flatMap Gh.bl) → b ∉ x.bl := by
    intro b hbm hbx
    simp only [List.nodup_cons, List.nodup_append, List.mem_append, List.mem_cons] at hnd
    simp only [List.mem_cons, List.mem_append] at hbm
    obtain ⟨h1, h2, h3, h4, h5⟩ := hnd
    rcases hbm with rfl | rfl | hbm | hbm
    · exact h1 (.inr (.inr (.inl hbx)))
    · exact h2 (.inr (.inl hbx))
    · exact h5 b hbm b (.inl hbx) rfl
    · exact h4.2.2 b hbx b hbm rfl
  have hmem : ∀ b, b ∈ f :: mb :: (g1.flatMap Gh.bl ++ g2.flatMap Gh.bl) → b < w.heap.size := by
    intro b hbm
    refine hin b ?_
    simp only [List.mem_cons, List.mem_append] at hbm ⊢
    rcases hbm with h | h | h | h
    · exact .inl h
    · exact .inr (.inl h)
    · exact .inr (.inr (.inl h))
    · exact .inr (.inr (.inr (.inr h)))
  have hkp : ∀ b, b ∈ f :: mb :: (g1.flatMap Gh.bl ++ g2.flatMap Gh.bl) → w'.heap[b]? = w.heap[b]? := fun b hbm => ht.block b (hmem b hbm) (hap b hbm)
  have hnew : ∀ b ∈ bl', b ∉ f :: mb :: (g1.flatMap Gh.bl ++ g2.flatMap Gh.bl) := by
    intro b hb1 hb2
    rcases ht.sub b hb1 with h | h
    · exact hap b hb2 h
    · have := hmem b hb2; omega
  have hbnd : bl'.Nodup := by obtain ⟨wb, A, c, kv, sb, _, h, _⟩ := hr; exact h
  refine ⟨⟨?_, rfl, hb.old (hkp f (by simp)), ?_, ?_⟩, ?_⟩
  · simp only [fsBlocks, List.flatMap_append, List.flatMap_cons]
    simp only [List.mem_cons, List.mem_append] at hnew
    simp only [List.nodup_cons, List.nodup_append, List.mem_append, List.mem_cons] at hnd ⊢
    obtain ⟨h1, h2, h3, ⟨h4, h5, h6⟩, h7⟩ := hnd
    refine ⟨?_, ?_, h3, ⟨hbnd, h5, ?_⟩, ?_⟩
    · rintro (h | h | h | h)
      · exact h1 (.inl h)
      · exact h1 (.inr (.inl h))
      · exact hnew _ h (.inl rfl)
      · exact h1 (.inr (.inr (.inr h)))
    · rintro (h | h | h)
      · exact h2 (.inl h)
      · exact hnew _ h (.inr (.inl rfl))
      · exact h2 (.inr (.inr h))
    · intro b hb1 c hc1 e
      subst e
      exact hnew b hb1 (.inr (.inr (.inr hc1)))
    · intro b hb1 c hc1 e
      subst e
      rcases hc1 with h | h
      · exact hnew b h (.inr (.inr (.inl hb1)))
      · exact h7 b hb1 b (.inr h) rfl
  · have hmo := hm.old (hkp mb (by simp))
    have e : (g1 ++ x :: g2).map Gh.kv = (g1 ++ { x with fl := fl', bl := bl' } :: g2).map Gh.kv := by simp [Gh.kv]
    rw [← e]
    exact hmo
  · intro y hy
    rcases List.mem_append.1 hy with h | h
    · exact (hx y (by simp [h])).keep fun b hbm => hkp b (by simp only [List.mem_cons, List.mem_append, List.mem_flatMap]; exact .inr (.inr (.inl ⟨y, h, hbm⟩)))
    · rcases List.mem_cons.1 h with rfl | h
      · exact hr
      · exact (hx y (by simp [h])).keep fun b hbm => hkp b (by simp only [List.mem_cons, List.mem_append, List.mem_flatMap]; exact .inr (.inr (.inr ⟨y, h, hbm⟩)))
  · refine (ht.from_ fun b hbx => ?_).to fun b hbm => ?_
    · simp only [fsBlocks, List.flatMap_append, List.flatMap_cons, List.mem_cons, List.mem_append]
      exact .inr (.inr (.inr (.inl hbx)))
    · simp only [fsBlocks, List.flatMap_append, List.flatMap_cons, List.mem_cons, List.mem_append] at hbm ⊢
      rcases hbm with h | h | h | h | h
      · exact .inl (.inl h)
      · exact .inl (.inr (.inl h))
      · exact .inl (.inr (.inr (.inl h)))
      · rcases ht.sub b h with h | h
        · exact .inl (.inr (.inr (.inr (.inl h))))
        · exact .inr h
      · exact .inl (.inr (.inr (.inr (.inr h))))
end
/-- a stamp is given -/
theorem FileRaw.mark {w : World} {g : Nat} {r : Raw} {bl : List Nat} (h : FileRaw w g r bl) (s : Nat) : FileRaw (w.setCell ⟨g, 1, none⟩ (.int .i64 s)) g { r with stamp := s } bl := by
  obtain ⟨wb, A, c, kv, sb, rfl, hnd, hb, hs, hm, hk⟩ := h
  have hne : ∀ b ∈ wb :: sb, b ≠ g := fun b hbm e => by subst e; exact (List.nodup_cons.1 hnd).1 hbm
  exact ⟨wb, A, c, kv, sb, rfl, hnd, hb.put 1 (.int .i64 s), hs.keep fun b hbm => Below.heap_setCell w ⟨g, 1, none⟩ _ b (hne b (by simp [hbm])), hm.old (Below.heap_setCell w ⟨g, 1, none⟩ _ wb (hne wb (by simp))), hk⟩

/-! the small contracts -/
abbrev fsPtr (f : Nat) : Value := .pointer (some ⟨f, 0, none⟩)
abbrev errV (n : Nat) : Value := .int .i64 (n : Int)
theorem state_any (w : World) (f : Nat) (a : Fs) (mb : Nat) (gs : List Gh) (h : FsG w f a mb gs) :
    Calls Try.prog 69 #[fsPtr f] w fun e w' => e = .returned (.int .i64 (if a.down = true then 9 else 0)) ∧ w = w' := by
  have h4 : w.cell? ⟨f, 4, none⟩ = some (.bool a.down) := h.2.2.1.cell rfl
  cases hd : a.down with
  | true =>
    rw [hd] at h4
    go_enter Try.func69, Try.ntmps69
    go_wp2
    go_ret
    exact ⟨rfl, rfl⟩
  | false =>
    rw [hd] at h4
    go_enter Try.func69, Try.ntmps69
    go_wp2
    go_ret
    exact ⟨rfl, rfl⟩
theorem state_nil (w : World) : Calls Try.prog 69 #[.pointer none] w fun e w' => e = .returned (.int .i64 2) ∧ w = w' := by
  go_enter Try.func69, Try.ntmps69
  go_wp2
  go_ret
  exact ⟨rfl, rfl⟩
theorem newFile_any (w : World) : Calls Try.prog 72 #[] w fun e w' => ∃ g bl, e = .returned (.pointer (some ⟨g, 0, none⟩)) ∧ FileRaw w' g (rawOf ⟨[], 0, fun _ => none⟩) bl ∧ Fresh w w' ∧ ∀ b ∈ bl, w.heap.size ≤ b := by
  have hmm := @run_makeMap Try.prog
  go_enter Try.func72, Try.ntmps72
  go_wp2
  go_ret
  have hb : Bk ((w.alloc (.map #[] 0)).alloc (.cells #[Value.int IntKind.i64 0, Value.int IntKind.i64 0, Value.slice none 0 0, Value.map (some w.heap.size)] tFile)) (w.heap.size + 1) tFile [.int .i64 0, .int .i64 0, .slice none 0 0, .map (some w.heap.size)] := by
    have := Bk.made (w.alloc (.map #[] 0)) tFile #[Value.int IntKind.i64 0, Value.int IntKind.i64 0, Value.slice none 0 0, Value.map (some w.heap.size)]
    simpa using this
  have hm := (MapOf.made Try.prog 3 w)
  refine ⟨w.heap.size + 1, [w.heap.size + 1, w.heap.size], rfl, ⟨w.heap.size, none, 0, [], [], rfl, by simp, hb, ⟨rfl, Nat.le_refl _, Nat.zero_le _, .inl ⟨rfl, rfl, rfl⟩⟩, hm.old (Below.heap_alloc _ _ _ (by simp)), OldIs.nil⟩, (Fresh.alloc w _).trans (Fresh.alloc _ _), ?_⟩
  intro b hb
  simp at hb
  omega
/-- what New leaves -/
def NewAt (w : World) (a : Fs) (e : Ending) (w' : World) : Prop := ∃ f bl, e = .returned (fsPtr f) ∧ FsAt w' f a bl ∧ Fresh w w' ∧ ∀ b ∈ bl, w.heap.size ≤ b
theorem new_at (n v : Int) (w : World) (hv : v = max 1 (min n 65536)) : NewAt w ⟨[], (max 1 (min n 65536)).toNat, 0, -1, false⟩ (.returned (fsPtr (w.heap.size + 1)))
    ((w.alloc (.map #[] 0)).alloc (.cells #[.map (some w.heap.size), .int .i64 v, .int .i64 0, .int .i64 (-1), .bool false] tFS)) := by
  have e : (((max 1 (min n 65536)).toNat : Nat) : Int) = v := by omega
  refine ⟨w.heap.size + 1, [w.heap.size + 1, w.heap.size], rfl, ⟨w.heap.size, [], rfl, by simp [fsBlocks], rfl, ?_, ?_, by simp⟩, (Fresh.alloc w _).trans (Fresh.alloc _ _), ?_⟩
  · have hb := Bk.made (w.alloc (.map #[] 0)) tFS #[Value.map (some w.heap.size), Value.int IntKind.i64 v, Value.int IntKind.i64 0, Value.int IntKind.i64 (-1), Value.bool false]
    show Bk _ _ _ [_, .int .i64 (((max 1 (min n 65536)).toNat : Nat) : Int), _, _, _]
    rw [e]
    simpa using hb
  · exact (MapOf.made Try.prog 9 w).old (Below.heap_alloc _ _ _ (by simp))
  · intro b hb
    simp at hb
    omega
theorem New_any (n : Int) (w : World) (h1 : -9223372036854775808 ≤ n) (h2 : n ≤ 9223372036854775807) :
    Calls Try.prog 11 #[.int .i64 n] w (NewAt w ⟨[], (max 1 (min n 65536)).toNat, 0, -1, false⟩) := by
  have hmm := @run_makeMap Try.prog
  go_enter Try.func11, Try.ntmps11
  go_wp2
  all_goals
    go_ret
    exact new_at n _ w (by omega)
end Go.Proofs.Ytelghdfikcodmaa.vfs
