import Derived.Test.YtcdehklcdipcfaaGreatMgVa
import Derived.Test.YtcdehklcdipcfaaGreatMgVn
/- Several of my own texts, one behind the other. -/
/-
  A store of files, as it lies in memory; the contracts of state, find, burn, mark, New, newFile, right. My own text.
-/
namespace Go.Proofs.YtcdehklcdipcfaaGreat.vfs
open Go.RowKit Go.Maps Go.Proofs.YtcdehklcdipcfaaGreat.base Go.Proofs.YtcdehklcdipcfaaGreat.vfsnum
set_option linter.unusedVariables false

/-- a file, and where it lies -/
structure Gh where
  name : ByteArray
  fl : Fl
  g : Nat
  bl : List Nat
def Gh.fst (x : Gh) : ByteArray × Fl := (x.name, x.fl)
def Gh.kv (x : Gh) : Value × Value := (.string x.name, .pointer (some ⟨x.g, 0, none⟩))
def fsBlocks (f mb : Nat) (gs : List Gh) : List Nat := f :: mb :: gs.flatMap Gh.bl
theorem key_str (s : ByteArray) (h : s.size ≤ maxLen) : keyOf Tryz.prog 9 (.string s) = some (.string s.data.toList) := by
  simp [keyOf, Tryz.underlying9, mapKey, h]

def FsG (w : World) (f : Nat) (a : Fs) (mb : Nat) (gs : List Gh) : Prop :=
  (fsBlocks f mb gs).Nodup ∧ a.files = gs.map Gh.fst ∧ Bk w f tFS [.map (some mb), .int .i64 a.room, .int .i64 a.stamp, .int .i64 a.fuse, .bool a.down] ∧
    MapOf Tryz.prog 9 w mb (gs.map Gh.kv) ∧ ∀ x ∈ gs, FileRaw w x.g (rawOf x.fl) x.bl
def FsAt (w : World) (f : Nat) (a : Fs) (bl : List Nat) : Prop := ∃ mb gs, bl = fsBlocks f mb gs ∧ FsG w f a mb gs

section
variable {w w' : World} {f mb : Nat} {a : Fs} {gs : List Gh}
theorem FsG.inside (h : FsG w f a mb gs) : ∀ b ∈ fsBlocks f mb gs, b < w.heap.size := by
  obtain ⟨hnd, hf, hb, hm, hx⟩ := h
  intro b hbm
  rcases List.mem_cons.1 hbm with rfl | hbm
  · exact hb.inside
  · rcases List.mem_cons.1 hbm with rfl | hbm
    · exact hm.inside
    · obtain ⟨x, hxm, hxb⟩ := List.mem_flatMap.1 hbm
      exact (hx x hxm).inside b hxb
theorem FsG.keep (h : FsG w f a mb gs) (hk : ∀ b ∈ fsBlocks f mb gs, w'.heap[b]? = w.heap[b]?) : FsG w' f a mb gs := by
  obtain ⟨hnd, hf, hb, hm, hx⟩ := h
  refine ⟨hnd, hf, hb.old (hk f (by simp [fsBlocks])), hm.old (hk mb (by simp [fsBlocks])), fun x hxm => (hx x hxm).keep fun b hbm => hk b ?_⟩
  simp only [fsBlocks, List.mem_cons, List.mem_flatMap]
  exact .inr (.inr ⟨x, hxm, hbm⟩)
theorem FsG.fresh (h : FsG w f a mb gs) (hf : Fresh w w') : FsG w' f a mb gs := h.keep fun b hb => hf.block b (h.inside b hb)
theorem FsAt.fresh {bl : List Nat} (h : FsAt w f a bl) (hf : Fresh w w') : FsAt w' f a bl := by
  obtain ⟨mb, gs, rfl, hg⟩ := h
  exact ⟨mb, gs, rfl, hg.fresh hf⟩
theorem FsAt.inside {bl : List Nat} (h : FsAt w f a bl) : ∀ b ∈ bl, b < w.heap.size := by
  obtain ⟨mb, gs, rfl, hg⟩ := h
  exact hg.inside
theorem FsAt.turn {bl S S' : List Nat} (h : FsAt w f a bl) (k : Turn S S' w w') (hS : ∀ b ∈ bl, b ∉ S) : FsAt w' f a bl := by
  obtain ⟨mb, gs, rfl, hg⟩ := h
  exact ⟨mb, gs, rfl, hg.keep fun b hb => k.block b (hg.inside b hb) (hS b hb)⟩
theorem FsAt.nodup {bl : List Nat} (h : FsAt w f a bl) : bl.Nodup := by
  obtain ⟨mb, gs, rfl, hg⟩ := h
  exact hg.1
/-- a field of the store is written -/
theorem FsG.put (h : FsG w f a mb gs) (i : Nat) (v : Value) (a' : Fs) (hf : a'.files = a.files)
    (hv : [.map (some mb), .int .i64 a'.room, .int .i64 a'.stamp, .int .i64 a'.fuse, .bool a'.down] = ([.map (some mb), .int .i64 a.room, .int .i64 a.stamp, .int .i64 a.fuse, .bool a.down] : List Value).set i v) :
    FsG (w.setCell ⟨f, i, none⟩ v) f a' mb gs ∧ Turn (fsBlocks f mb gs) (fsBlocks f mb gs) w (w.setCell ⟨f, i, none⟩ v) := by
  obtain ⟨hnd, hfs, hb, hm, hx⟩ := h
  have hne : ∀ b ∈ mb :: gs.flatMap Gh.bl, b ≠ f := fun b hbm e => by subst e; exact (List.nodup_cons.1 hnd).1 hbm
  refine ⟨⟨hnd, hf.trans hfs, hv ▸ hb.put i v, hm.old (Below.heap_setCell w ⟨f, i, none⟩ v mb (hne mb (by simp))), fun x hxm => (hx x hxm).keep fun b hbm => Below.heap_setCell w ⟨f, i, none⟩ v b (hne b ?_)⟩, Turn.but (But.put w v) (by simp [fsBlocks])⟩
  simp only [List.mem_cons, List.mem_flatMap]
  exact .inr ⟨x, hxm, hbm⟩
/-- a file turns -/
theorem FsG.upd {g1 g2 : List Gh} {x : Gh} (h : FsG w f a mb (g1 ++ x :: g2)) (fl' : Fl) (bl' : List Nat) (hr : FileRaw w' x.g (rawOf fl') bl') (ht : Turn x.bl bl' w w') (a' : Fs)
    (ha : a' = { a with files := (g1 ++ { x with fl := fl', bl := bl' } :: g2).map Gh.fst }) :
    FsG w' f a' mb (g1 ++ { x with fl := fl', bl := bl' } :: g2) ∧ Turn (fsBlocks f mb (g1 ++ x :: g2)) (fsBlocks f mb (g1 ++ { x with fl := fl', bl := bl' } :: g2)) w w' := by
  subst ha
  have hin := h.inside
  obtain ⟨hnd, hfs, hb, hm, hx⟩ := h
  simp only [fsBlocks, List.flatMap_append, List.flatMap_cons] at hnd hin
  have hxnd := hr
  have hnd' := hnd
  -- what of the others is not x's
  have hap : ∀ b, b ∈ f :: mb :: (g1.flatMap Gh.bl ++ g2.flatMap Gh.bl) → b ∉ x.bl := by
    intro b hbm hbx
    simp only [List.nodup_cons, List.nodup_append, List.mem_append, List.mem_cons] at hnd
    simp only [List.mem_cons, List.mem_append] at hbm
    obtain ⟨h1, h2, h3, h4, h5⟩ := hnd
    rcases hbm with rfl | rfl | hbm | hbm
    · exact h1 (.inr (.inr (.inl hbx)))
    · exact h2 (.inr (.inl hbx))
    · exact h5 b hbm b (.inl hbx) rfl
    · exact h4.2.2 b hbx b hbm rfl
  have hmem : ∀ b, b ∈ f :: mb :: (g1.flatMap Gh.bl ++ g2.flatMap Gh.bl) → b < w.heap.size := by
    intro b hbm
    refine hin b ?_
    simp only [List.mem_cons, List.mem_append] at hbm ⊢
    rcases hbm with h | h | h | h
    · exact .inl h
    · exact .inr (.inl h)
    · exact .inr (.inr (.inl h))
    · exact .inr (.inr (.inr (.inr h)))
  have hkp : ∀ b, b ∈ f :: mb :: (g1.flatMap Gh.bl ++ g2.flatMap Gh.bl) → w'.heap[b]? = w.heap[b]? := fun b hbm => ht.block b (hmem b hbm) (hap b hbm)
  have hnew : ∀ b ∈ bl', b ∉ f :: mb :: (g1.flatMap Gh.bl ++ g2.flatMap Gh.bl) := by
    intro b hb1 hb2
    rcases ht.sub b hb1 with h | h
    · exact hap b hb2 h
    · have := hmem b hb2; omega
  have hbnd : bl'.Nodup := by obtain ⟨wb, A, c, kv, sb, _, h, _⟩ := hr; exact h
  refine ⟨⟨?_, rfl, hb.old (hkp f (by simp)), ?_, ?_⟩, ?_⟩
  · simp only [fsBlocks, List.flatMap_append, List.flatMap_cons]
    simp only [List.mem_cons, List.mem_append] at hnew
    simp only [List.nodup_cons, List.nodup_append, List.mem_append, List.mem_cons] at hnd ⊢
    obtain ⟨h1, h2, h3, ⟨h4, h5, h6⟩, h7⟩ := hnd
    refine ⟨?_, ?_, h3, ⟨hbnd, h5, ?_⟩, ?_⟩
    · rintro (h | h | h | h)
      · exact h1 (.inl h)
      · exact h1 (.inr (.inl h))
      · exact hnew _ h (.inl rfl)
      · exact h1 (.inr (.inr (.inr h)))
    · rintro (h | h | h)
      · exact h2 (.inl h)
      · exact hnew _ h (.inr (.inl rfl))
      · exact h2 (.inr (.inr h))
    · intro b hb1 c hc1 e
      subst e
      exact hnew b hb1 (.inr (.inr (.inr hc1)))
    · intro b hb1 c hc1 e
      subst e
      rcases hc1 with h | h
      · exact hnew b h (.inr (.inr (.inl hb1)))
      · exact h7 b hb1 b (.inr h) rfl
  · have hmo := hm.old (hkp mb (by simp))
    have e : (g1 ++ x :: g2).map Gh.kv = (g1 ++ { x with fl := fl', bl := bl' } :: g2).map Gh.kv := by simp [Gh.kv]
    rw [← e]
    exact hmo
  · intro y hy
    rcases List.mem_append.1 hy with h | h
    · exact (hx y (by simp [h])).keep fun b hbm => hkp b (by simp only [List.mem_cons, List.mem_append, List.mem_flatMap]; exact .inr (.inr (.inl ⟨y, h, hbm⟩)))
    · rcases List.mem_cons.1 h with rfl | h
      · exact hr
      · exact (hx y (by simp [h])).keep fun b hbm => hkp b (by simp only [List.mem_cons, List.mem_append, List.mem_flatMap]; exact .inr (.inr (.inr ⟨y, h, hbm⟩)))
  · refine (ht.from_ fun b hbx => ?_).to fun b hbm => ?_
    · simp only [fsBlocks, List.flatMap_append, List.flatMap_cons, List.mem_cons, List.mem_append]
      exact .inr (.inr (.inr (.inl hbx)))
    · simp only [fsBlocks, List.flatMap_append, List.flatMap_cons, List.mem_cons, List.mem_append] at hbm ⊢
      rcases hbm with h | h | h | h | h
      · exact .inl (.inl h)
      · exact .inl (.inr (.inl h))
      · exact .inl (.inr (.inr (.inl h)))
      · rcases ht.sub b h with h | h
        · exact .inl (.inr (.inr (.inr (.inl h))))
        · exact .inr h
      · exact .inl (.inr (.inr (.inr (.inr h))))
end
/-- a stamp is given -/
theorem FileRaw.mark {w : World} {g : Nat} {r : Raw} {bl : List Nat} (h : FileRaw w g r bl) (s : Nat) : FileRaw (w.setCell ⟨g, 1, none⟩ (.int .i64 s)) g { r with stamp := s } bl := by
  obtain ⟨wb, A, c, kv, sb, rfl, hnd, hb, hs, hm, hk⟩ := h
  have hne : ∀ b ∈ wb :: sb, b ≠ g := fun b hbm e => by subst e; exact (List.nodup_cons.1 hnd).1 hbm
  exact ⟨wb, A, c, kv, sb, rfl, hnd, hb.put 1 (.int .i64 s), hs.keep fun b hbm => Below.heap_setCell w ⟨g, 1, none⟩ _ b (hne b (by simp [hbm])), hm.old (Below.heap_setCell w ⟨g, 1, none⟩ _ wb (hne wb (by simp))), hk⟩

/-! the small contracts -/
abbrev fsPtr (f : Nat) : Value := .pointer (some ⟨f, 0, none⟩)
abbrev errV (n : Nat) : Value := .int .i64 (n : Int)
theorem state_any (w : World) (f : Nat) (a : Fs) (mb : Nat) (gs : List Gh) (h : FsG w f a mb gs) :
    Calls Tryz.prog 50 #[fsPtr f] w fun e w' => e = .returned (.int .i64 (if a.down = true then 9 else 0)) ∧ w = w' := by
  have h4 : w.cell? ⟨f, 4, none⟩ = some (.bool a.down) := h.2.2.1.cell rfl
  cases hd : a.down with
  | true =>
    rw [hd] at h4
    go_enter Tryz.func50, Tryz.ntmps50
    go_wp2
    go_ret
    exact ⟨rfl, rfl⟩
  | false =>
    rw [hd] at h4
    go_enter Tryz.func50, Tryz.ntmps50
    go_wp2
    go_ret
    exact ⟨rfl, rfl⟩
theorem state_nil (w : World) : Calls Tryz.prog 50 #[.pointer none] w fun e w' => e = .returned (.int .i64 2) ∧ w = w' := by
  go_enter Tryz.func50, Tryz.ntmps50
  go_wp2
  go_ret
  exact ⟨rfl, rfl⟩
theorem newFile_any (w : World) : Calls Tryz.prog 91 #[] w fun e w' => ∃ g bl, e = .returned (.pointer (some ⟨g, 0, none⟩)) ∧ FileRaw w' g (rawOf ⟨[], 0, fun _ => none⟩) bl ∧ Fresh w w' ∧ ∀ b ∈ bl, w.heap.size ≤ b := by
  have hmm := @run_makeMap Tryz.prog
  go_enter Tryz.func91, Tryz.ntmps91
  go_wp2
  go_ret
  have hb : Bk ((w.alloc (.map #[] 0)).alloc (.cells #[Value.int IntKind.i64 0, Value.int IntKind.i64 0, Value.slice none 0 0, Value.map (some w.heap.size)] tFile)) (w.heap.size + 1) tFile [.int .i64 0, .int .i64 0, .slice none 0 0, .map (some w.heap.size)] := by
    have := Bk.made (w.alloc (.map #[] 0)) tFile #[Value.int IntKind.i64 0, Value.int IntKind.i64 0, Value.slice none 0 0, Value.map (some w.heap.size)]
    simpa using this
  have hm := (MapOf.made Tryz.prog 3 w)
  refine ⟨w.heap.size + 1, [w.heap.size + 1, w.heap.size], rfl, ⟨w.heap.size, none, 0, [], [], rfl, by simp, hb, ⟨rfl, Nat.le_refl _, Nat.zero_le _, .inl ⟨rfl, rfl, rfl⟩⟩, hm.old (Below.heap_alloc _ _ _ (by simp)), OldIs.nil⟩, (Fresh.alloc w _).trans (Fresh.alloc _ _), ?_⟩
  intro b hb
  simp at hb
  omega
/-- what New leaves -/
def NewAt (w : World) (a : Fs) (e : Ending) (w' : World) : Prop := ∃ f bl, e = .returned (fsPtr f) ∧ FsAt w' f a bl ∧ Fresh w w' ∧ ∀ b ∈ bl, w.heap.size ≤ b
theorem new_at (n v : Int) (w : World) (hv : v = max 1 (min n 65536)) : NewAt w ⟨[], (max 1 (min n 65536)).toNat, 0, -1, false⟩ (.returned (fsPtr (w.heap.size + 1)))
    ((w.alloc (.map #[] 0)).alloc (.cells #[.map (some w.heap.size), .int .i64 v, .int .i64 0, .int .i64 (-1), .bool false] tFS)) := by
  have e : (((max 1 (min n 65536)).toNat : Nat) : Int) = v := by omega
  refine ⟨w.heap.size + 1, [w.heap.size + 1, w.heap.size], rfl, ⟨w.heap.size, [], rfl, by simp [fsBlocks], rfl, ?_, ?_, by simp⟩, (Fresh.alloc w _).trans (Fresh.alloc _ _), ?_⟩
  · have hb := Bk.made (w.alloc (.map #[] 0)) tFS #[Value.map (some w.heap.size), Value.int IntKind.i64 v, Value.int IntKind.i64 0, Value.int IntKind.i64 (-1), Value.bool false]
    show Bk _ _ _ [_, .int .i64 (((max 1 (min n 65536)).toNat : Nat) : Int), _, _, _]
    rw [e]
    simpa using hb
  · exact (MapOf.made Tryz.prog 9 w).old (Below.heap_alloc _ _ _ (by simp))
  · intro b hb
    simp at hb
    omega
theorem New_any (n : Int) (w : World) (h1 : -9223372036854775808 ≤ n) (h2 : n ≤ 9223372036854775807) :
    Calls Tryz.prog 10 #[.int .i64 n] w (NewAt w ⟨[], (max 1 (min n 65536)).toNat, 0, -1, false⟩) := by
  have hmm := @run_makeMap Tryz.prog
  go_enter Tryz.func10, Tryz.ntmps10
  go_wp2
  all_goals
    go_ret
    exact new_at n _ w (by omega)
end Go.Proofs.YtcdehklcdipcfaaGreat.vfs
/-
  The contracts of the store's find, burn, mark, right, remove. My own text.
-/
namespace Go.Proofs.YtcdehklcdipcfaaGreat.vfs
open Go.RowKit Go.Maps Go.Proofs.YtcdehklcdipcfaaGreat.base Go.Proofs.YtcdehklcdipcfaaGreat.vfsnum
set_option linter.unusedVariables false

theorem ptrZero (w : World) : (zeroValue 84).run Tryz.prog w = .ok (.pointer none) w := by kernel_rfl
theorem Gh.kv_mem {x : Gh} {gs : List Gh} (h : x ∈ gs) : (Value.string x.name, Value.pointer (some ⟨x.g, 0, none⟩)) ∈ gs.map Gh.kv := List.mem_map.2 ⟨x, h, rfl⟩
theorem Gh.kv_miss {n : ByteArray} {gs : List Gh} (h : ∀ x ∈ gs, x.name ≠ n) : ∀ p ∈ gs.map Gh.kv, p.1 ≠ .string n := by
  intro p hp
  obtain ⟨x, hx, rfl⟩ := List.mem_map.1 hp
  intro e
  injection e with e
  exact h x hx e

theorem find_nil (s : ByteArray) (w : World) : Calls Tryz.prog 88 #[.pointer none, .string s] w fun e w' => e = .returned (.tuple #[.pointer none, .int .i64 2]) ∧ w = w' := by
  go_enter Tryz.func88, Tryz.ntmps88
  go_wp2_with (go_at_call 50; refine (state_nil _).mono ?_; rintro e w' ⟨rfl, rfl⟩)
  go_ret2
  exact ⟨rfl, rfl⟩
theorem find_down (s : ByteArray) (w : World) (f : Nat) (a : Fs) (mb : Nat) (gs : List Gh) (h : FsG w f a mb gs) (hd : a.down = true) :
    Calls Tryz.prog 88 #[fsPtr f, .string s] w fun e w' => e = .returned (.tuple #[.pointer none, .int .i64 9]) ∧ w = w' := by
  have hs := state_any w f a mb gs h
  rw [hd] at hs
  clear hd
  go_enter Tryz.func88, Tryz.ntmps88
  go_wp2_with (go_at_call 50; refine hs.mono ?_; rintro e w' ⟨rfl, rfl⟩)
  go_ret2
  exact ⟨rfl, rfl⟩
theorem find_hit (x : Gh) (w : World) (f : Nat) (a : Fs) (mb : Nat) (gs : List Gh) (h : FsG w f a mb gs) (hd : a.down = false) (hx : x ∈ gs) (hl : x.name.size ≤ maxLen) :
    Calls Tryz.prog 88 #[fsPtr f, .string x.name] w fun e w' => e = .returned (.tuple #[.pointer (some ⟨x.g, 0, none⟩), .int .i64 0]) ∧ w = w' := by
  have hs := state_any w f a mb gs h
  rw [hd] at hs
  have h0 : w.cell? ⟨f, 0, none⟩ = some (.map (some mb)) := h.2.2.1.cell rfl
  have hm := h.2.2.2.1
  clear hd
  go_enter Tryz.func88, Tryz.ntmps88
  go_wp2_with (first
    | (go_at_call 50; refine hs.mono ?_; rintro e w' ⟨rfl, rfl⟩)
    | (at_lookup; refine wpList_look_hit _ rfl _ _ 59 rfl 9 84 strKey Tryz.underlying59 mb _ rfl hm _ _ _ rfl (key_str x.name hl) (Gh.kv_mem hx) ?_))
  go_ret2
  exact ⟨rfl, rfl⟩
theorem find_miss (n : ByteArray) (w : World) (f : Nat) (a : Fs) (mb : Nat) (gs : List Gh) (h : FsG w f a mb gs) (hd : a.down = false) (hx : ∀ x ∈ gs, x.name ≠ n) (hl : n.size ≤ maxLen) :
    Calls Tryz.prog 88 #[fsPtr f, .string n] w fun e w' => e = .returned (.tuple #[.pointer none, .int .i64 6]) ∧ w = w' := by
  have hs := state_any w f a mb gs h
  rw [hd] at hs
  have h0 : w.cell? ⟨f, 0, none⟩ = some (.map (some mb)) := h.2.2.1.cell rfl
  have hm := h.2.2.2.1
  clear hd
  go_enter Tryz.func88, Tryz.ntmps88
  go_wp2_with (first
    | (go_at_call 50; refine hs.mono ?_; rintro e w' ⟨rfl, rfl⟩)
    | (at_lookup; refine wpList_look_miss _ rfl _ _ 59 rfl 9 84 strKey Tryz.underlying59 _ (ptrZero _) mb _ rfl hm _ _ rfl (key_str n hl) (Gh.kv_miss hx) ?_))
  go_ret2
  exact ⟨rfl, rfl⟩

theorem burn_out (w : World) (f : Nat) (a : Fs) (mb : Nat) (gs : List Gh) (h : FsG w f a mb gs) (h0 : a.fuse = 0) :
    Calls Tryz.prog 90 #[fsPtr f] w fun e w' => e = .returned (.int .i64 9) ∧ FsG w' f a.fall mb gs ∧ Turn (fsBlocks f mb gs) (fsBlocks f mb gs) w w' := by
  have h3 : w.cell? ⟨f, 3, none⟩ = some (.int .i64 0) := h0 ▸ h.2.2.1.cell rfl
  have h4 : w.cell? ⟨f, 4, none⟩ = some (.bool a.down) := h.2.2.1.cell rfl
  have hf := h.2.2.1.free 4
  have hp := h.put 4 (.bool true) a.fall rfl rfl
  have HP := Lib.hid hp
  clear hp h0
  go_enter Tryz.func90, Tryz.ntmps90
  go_wp2
  go_ret
  exact ⟨rfl, HP.out⟩
theorem burn_on (w : World) (f : Nat) (a : Fs) (mb : Nat) (gs : List Gh) (h : FsG w f a mb gs) (h0 : a.fuse ≠ 0) (h1 : -1 ≤ a.fuse) (h2 : a.fuse ≤ 9223372036854775807) :
    Calls Tryz.prog 90 #[fsPtr f] w fun e w' => e = .returned (.int .i64 0) ∧ FsG w' f a.burn mb gs ∧ Turn (fsBlocks f mb gs) (fsBlocks f mb gs) w w' := by
  have h3 : w.cell? ⟨f, 3, none⟩ = some (.int .i64 a.fuse) := h.2.2.1.cell rfl
  have hf := h.2.2.1.free 3
  have hz : (a.fuse == 0) = false := by rw [beq_eq_false_iff_ne]; exact h0
  by_cases hpos : 0 < a.fuse
  · have hp := h.put 3 (.int .i64 (a.fuse - 1)) a.burn rfl (by simp [Fs.burn, hpos])
    have HP := Lib.hid hp
    clear hp
    go_enter Tryz.func90, Tryz.ntmps90
    go_wp2
    go_ret
    exact ⟨rfl, HP.out⟩
  · have hb : a.burn = a := by unfold Fs.burn; rw [if_neg hpos]
    have HB := Lib.hid hb
    clear hb
    go_enter Tryz.func90, Tryz.ntmps90
    go_wp2
    go_ret
    exact ⟨rfl, by rw [HB.out]; exact h, Turn.refl _ _⟩
theorem mark_any (w : World) (f : Nat) (a : Fs) (mb : Nat) (g1 g2 : List Gh) (x : Gh) (h : FsG w f a mb (g1 ++ x :: g2)) (hs : a.stamp < 4611686018427387904) (a' : Fs)
    (ha : a' = { a with stamp := a.stamp + 1, files := (g1 ++ { x with fl := { x.fl with stamp := a.stamp + 1 } } :: g2).map Gh.fst }) :
    Calls Tryz.prog 92 #[fsPtr f, .pointer (some ⟨x.g, 0, none⟩)] w fun e w' => e = .returned (.tuple #[]) ∧ FsG w' f a' mb (g1 ++ { x with fl := { x.fl with stamp := a.stamp + 1 } } :: g2) ∧ Turn (fsBlocks f mb (g1 ++ x :: g2)) (fsBlocks f mb (g1 ++ x :: g2)) w w' := by
  have h2 : w.cell? ⟨f, 2, none⟩ = some (.int .i64 a.stamp) := h.2.2.1.cell rfl
  have hf := h.2.2.1.free 2
  have hr := h.2.2.2.2 x (by simp)
  have h1 : ∃ v, w.cell? ⟨x.g, 1, none⟩ = some v := by
    obtain ⟨wb, A, c, kv, sb, _, _, hb, _⟩ := hr
    exact ⟨_, hb.cell (i := 1) rfl⟩
  have hxf : w.frozen? ⟨x.g, 1, none⟩ = false := by
    obtain ⟨wb, A, c, kv, sb, _, _, hb, _⟩ := hr
    exact hb.free 1
  have hne : x.g ≠ f := by
    rintro e
    obtain ⟨wb, A, c, kv, sb, hbl, _⟩ := hr
    have := (List.nodup_cons.1 h.1).1
    apply this
    simp only [List.mem_cons, List.mem_flatMap]
    exact .inr ⟨x, by simp, by rw [hbl, e]; simp⟩
  obtain ⟨v, h1⟩ := h1
  have hp := h.put 2 (.int .i64 ((a.stamp + 1 : Nat) : Int)) { a with stamp := a.stamp + 1 } rfl rfl
  have hr' := (hp.1.2.2.2.2 x (by simp)).mark (a.stamp + 1)
  have hT : Turn x.bl x.bl (w.setCell ⟨f, 2, none⟩ (.int .i64 ((a.stamp + 1 : Nat) : Int))) ((w.setCell ⟨f, 2, none⟩ (.int .i64 ((a.stamp + 1 : Nat) : Int))).setCell ⟨x.g, 1, none⟩ (.int .i64 ((a.stamp + 1 : Nat) : Int))) :=
    Turn.but (But.put _ _) (by obtain ⟨wb, A, c, kv, sb, hbl, _⟩ := hr; rw [hbl]; simp)
  have hfin := hp.1.upd { x.fl with stamp := a.stamp + 1 } x.bl hr' hT a' ha
  have e1 : ((a.stamp : Int) + 1) = ((a.stamp + 1 : Nat) : Int) := by omega
  have HE := Lib.hid e1
  clear e1
  have HF := Lib.hid hfin
  have HT := Lib.hid (hp.2.trans hfin.2)
  clear hfin hT hr' hp ha hr
  go_enter Tryz.func92, Tryz.ntmps92
  go_wp2
  go_end0
  rw [HE.out]
  have eb : fsBlocks f mb (g1 ++ { x with fl := { x.fl with stamp := a.stamp + 1 } } :: g2) = fsBlocks f mb (g1 ++ x :: g2) := by simp [fsBlocks]
  exact ⟨rfl, HF.out.1, eb ▸ HT.out⟩

theorem ret_bool {a b : Bool} (h : a = b) : Ending.returned (.bool a) = .returned (.bool b) := by rw [h]
set_option maxHeartbeats 1000000 in
theorem rightN_any (n : Nat) (w : World) (hn : n < 256) : Calls Tryz.prog 115 #[.int .u8 n] w fun e w' => e = .returned (.bool (okN n)) ∧ w = w' := by
  go_enter Tryz.func115, Tryz.ntmps115
  go_wp2
  all_goals
    go_ret
    exact ⟨ret_bool (by rw [Bool.eq_iff_iff]; unfold okN; simp; try omega), rfl⟩
theorem rightByte_any (c : UInt8) (w : World) (v : Int) (hv : v = (c.toNat : Nat)) : Calls Tryz.prog 115 #[.int .u8 v] w fun e w' => e = .returned (.bool (okByte c)) ∧ w = w' := by
  subst hv
  exact rightN_any c.toNat w (by have := c.toNat_lt; omega)
theorem right_any (s : ByteArray) (w : World) (hs : s.size ≤ maxLen) : Calls Tryz.prog 89 #[.string s] w fun e w' => e = .returned (.bool (rightB s)) ∧ w = w' := by
  unfold maxLen at hs
  by_cases h1 : s.size < 1
  · have e : rightB s = false := by unfold rightB; simp; omega
    rw [e]
    clear e
    go_enter Tryz.func89, Tryz.ntmps89
    go_wp2
    all_goals go_ret
    all_goals exact ⟨rfl, rfl⟩
  · by_cases h2 : 24 < s.size
    · have e : rightB s = false := by unfold rightB; simp; omega
      rw [e]
      clear e
      go_enter Tryz.func89, Tryz.ntmps89
      go_wp2
      all_goals go_ret
      all_goals exact ⟨rfl, rfl⟩
    · have e : rightB s = s.data.toList.all okByte := by unfold rightB; simp; omega
      have E := Lib.hid e
      clear e
      have d1 : decide ((s.size : Int) < 1) = false := by simp; omega
      have d2 : decide ((24 : Int) < (s.size : Int)) = false := by simp; omega
      go_enter Tryz.func89, Tryz.ntmps89
      go_wp2
      go_loop [14] (fun t => ∃ k : Nat, k ≤ s.size ∧ t = .int .i64 k ∧ Hid ((s.data.toList.take k).all okByte = true)) (fun t => s.size - (intOf t).toNat)
      case atStart => exact ⟨0, Nat.zero_le _, rfl, rfl⟩
      case round =>
        obtain ⟨k, hk, rfl, hall⟩ := hrel
        by_cases hlt : k < s.size
        · have ht : s.data.toList.take (k + 1) = s.data.toList.take k ++ [s[k]] := by
            rw [List.take_succ_eq_append_getElem (by simpa using hlt)]; rfl
          have hsplit : s.data.toList = s.data.toList.take k ++ (s[k] :: s.data.toList.drop (k + 1)) := by
            have := List.take_append_drop (k + 1) s.data.toList
            rw [ht, List.append_assoc] at this
            exact this.symm
          cases hb : okByte s[k] with
          | true =>
            have HT := Lib.hid (show (s.data.toList.take (k + 1)).all okByte = true by rw [ht, List.all_append, hall.out]; simp [hb])
            have hc : ∀ (w : World) (v : Int), v = ((s[k]).toNat : Nat) → Calls Tryz.prog 115 #[.int .u8 v] w fun e w' => e = .returned (.bool (okByte (s[k]))) ∧ w = w' := fun w v hv => rightByte_any _ w v hv
            rw [hb] at hc
            clear ht hsplit hb
            go_wp2_with (go_at_call 115; refine (hc _ _ rfl).mono ?_; rintro e w' ⟨rfl, rfl⟩)
            go_round
            case rel => exact ⟨k + 1, by omega, by go_num, HT.out⟩
            case measure => simp [intOf]; omega
          | false =>
            have HT := Lib.hid (show s.data.toList.all okByte = false by rw [hsplit, List.all_append]; simp [hb])
            have hc : ∀ (w : World) (v : Int), v = ((s[k]).toNat : Nat) → Calls Tryz.prog 115 #[.int .u8 v] w fun e w' => e = .returned (.bool (okByte (s[k]))) ∧ w = w' := fun w v hv => rightByte_any _ w v hv
            rw [hb] at hc
            clear ht hsplit hb
            go_wp2_with (go_at_call 115; refine (hc _ _ rfl).mono ?_; rintro e w' ⟨rfl, rfl⟩)
            go_ret
            exact ⟨ret_bool (by rw [E.out]; exact HT.out.symm), rfl⟩
        · have hk2 : k = s.size := by omega
          have HT := Lib.hid (show s.data.toList.all okByte = true by have := hall.out; rwa [List.take_of_length_le (by simp; omega)] at this)
          go_wp2
          go_ret
          exact ⟨ret_bool (by rw [E.out]; exact HT.out.symm), rfl⟩
end Go.Proofs.YtcdehklcdipcfaaGreat.vfs
/-
  The contracts of the store's Create, Sync, Write, Cut. My own text.
-/
namespace Go.Proofs.YtcdehklcdipcfaaGreat.vfs
open Go.RowKit Go.Maps Go.Proofs.YtcdehklcdipcfaaGreat.base Go.Proofs.YtcdehklcdipcfaaGreat.vfsnum
set_option linter.unusedVariables false

theorem FsG.apart {w : World} {f mb : Nat} {a : Fs} {gs : List Gh} (h : FsG w f a mb gs) : gs.Pairwise fun x y => x.name ≠ y.name := by
  have := h.2.2.2.1.apart
  rw [List.pairwise_map] at this
  exact this.imp fun hne e => hne (by simp [Gh.kv, e])
theorem FsG.get_some {w : World} {f mb : Nat} {a : Fs} {gs : List Gh} (h : FsG w f a mb gs) {n : ByteArray} {fl : Fl} (hg : getF a.files n = some fl) : ∃ g1 g bl g2, gs = g1 ++ ⟨n, fl, g, bl⟩ :: g2 := by
  have := getF_some hg
  rw [h.2.1] at this
  obtain ⟨x, hx, he⟩ := List.mem_map.1 this
  obtain ⟨g1, g2, rfl⟩ := List.append_of_mem hx
  obtain ⟨xn, xf, xg, xb⟩ := x
  simp only [Gh.fst, Prod.mk.injEq] at he
  obtain ⟨rfl, rfl⟩ := he
  exact ⟨g1, xg, xb, g2, rfl⟩
theorem FsG.get_none {w : World} {f mb : Nat} {a : Fs} {gs : List Gh} (h : FsG w f a mb gs) {n : ByteArray} (hg : getF a.files n = none) : ∀ x ∈ gs, x.name ≠ n := fun x hx => by
  have := getF_none hg (x.name, x.fl) (by rw [h.2.1]; exact List.mem_map.2 ⟨x, hx, rfl⟩)
  exact this
theorem updF_split {g1 g2 : List Gh} {n : ByteArray} {fl : Fl} {g : Nat} {bl : List Nat} (ha : (g1 ++ ⟨n, fl, g, bl⟩ :: g2).Pairwise fun x y => x.name ≠ y.name) (y : Fl) (bl' : List Nat) :
    updF ((g1 ++ ⟨n, fl, g, bl⟩ :: g2).map Gh.fst) n y = (g1 ++ ⟨n, y, g, bl'⟩ :: g2).map Gh.fst := by
  rw [List.pairwise_append, List.pairwise_cons] at ha
  obtain ⟨h1, ⟨h2, h3⟩, h4⟩ := ha
  have e1 : ∀ x ∈ g1, x.name ≠ n := fun x hx => h4 x hx ⟨n, fl, g, bl⟩ (by simp)
  have e2 : ∀ x ∈ g2, x.name ≠ n := fun x hx => (h2 x hx).symm
  unfold updF
  rw [List.map_map, List.map_append, List.map_cons, List.map_append, List.map_cons]
  congr 1
  · refine List.map_congr_left fun x hx => ?_
    simp [Gh.fst, e1 x hx]
  · congr 1
    · simp [Gh.fst]
    · refine List.map_congr_left fun x hx => ?_
      simp [Gh.fst, e2 x hx]

/-- only the map of the files has turned; the files are some of those that there were, and a new one, maybe under other names -/
theorem FsG.remap {w w' : World} {f mb : Nat} {a : Fs} {gs : List Gh} (h : FsG w f a mb gs) (gs' : List Gh) (hbut : But mb w w') (hm : MapOf Tryz.prog 9 w' mb (gs'.map Gh.kv)) (a' : Fs) (ha : a' = { a with files := gs'.map Gh.fst })
    (hsub : ∀ x' ∈ gs', ∃ x ∈ gs, x'.g = x.g ∧ x'.bl = x.bl ∧ x'.fl = x.fl) (hnd : (fsBlocks f mb gs').Nodup) : FsG w' f a' mb gs' ∧ Turn (fsBlocks f mb gs) (fsBlocks f mb gs') w w' := by
  subst ha
  have hin := h.inside
  have hnd0 := h.1
  obtain ⟨_, hfs, hb, _, hx⟩ := h
  have hne : ∀ b ∈ fsBlocks f mb gs, b ≠ mb → w'.heap[b]? = w.heap[b]? := fun b hb hn => hbut.block b (hin b hb) (fun e => hn (by injection e))
  have hfm : f ≠ mb := fun e => by unfold fsBlocks at hnd0; rw [e] at hnd0; simp at hnd0
  have hxm : ∀ x ∈ gs, ∀ b ∈ x.bl, b ∈ fsBlocks f mb gs ∧ b ≠ mb := fun x hxm b hbm => by
    have hmem : b ∈ gs.flatMap Gh.bl := List.mem_flatMap.2 ⟨x, hxm, hbm⟩
    refine ⟨by simp only [fsBlocks, List.mem_cons]; exact .inr (.inr hmem), fun e => ?_⟩
    subst e
    exact (List.nodup_cons.1 (List.nodup_cons.1 hnd0).2).1 hmem
  refine ⟨⟨hnd, rfl, hb.old (hne f (by simp [fsBlocks]) hfm), hm, fun x' hx' => ?_⟩, (Turn.but hbut (by simp [fsBlocks])).to fun b hbm => .inl ?_⟩
  · obtain ⟨x, hxm', e1, e2, e3⟩ := hsub x' hx'
    rw [e1, e2, e3]
    exact (hx x hxm').keep fun b hbm => hne b (hxm x hxm' b hbm).1 (hxm x hxm' b hbm).2
  · simp only [fsBlocks, List.mem_cons, List.mem_flatMap] at hbm ⊢
    rcases hbm with h | h | ⟨x', hx', hb'⟩
    · exact .inl h
    · exact .inr (.inl h)
    · obtain ⟨x, hxm', _, e2, _⟩ := hsub x' hx'
      exact .inr (.inr ⟨x, hxm', e2 ▸ hb'⟩)
/-- a new file -/
theorem FsG.add {w w' : World} {f mb : Nat} {a : Fs} {gs : List Gh} (h : FsG w f a mb gs) (x : Gh) (gs' : List Gh) (hp : gs'.Perm (x :: gs)) (hbut : But mb w w') (hm : MapOf Tryz.prog 9 w' mb ((x :: gs).map Gh.kv)) (a' : Fs) (ha : a' = { a with files := gs'.map Gh.fst })
    (hr : FileRaw w x.g (rawOf x.fl) x.bl) (hnew : ∀ b ∈ x.bl, b ∉ fsBlocks f mb gs) : FsG w' f a' mb gs' ∧ Turn (x.bl ++ fsBlocks f mb gs) (fsBlocks f mb gs') w w' := by
  subst ha
  have hin := h.inside
  have hnd0 := h.1
  obtain ⟨_, hfs, hb, _, hx⟩ := h
  have hne : ∀ b, b < w.heap.size → b ≠ mb → w'.heap[b]? = w.heap[b]? := fun b hb hn => hbut.block b hb (fun e => hn (by injection e))
  have hfm : f ≠ mb := fun e => by unfold fsBlocks at hnd0; rw [e] at hnd0; simp at hnd0
  have hxm : ∀ y ∈ gs, ∀ b ∈ y.bl, b ∈ fsBlocks f mb gs ∧ b ≠ mb := fun y hym b hbm => by
    have hmem : b ∈ gs.flatMap Gh.bl := List.mem_flatMap.2 ⟨y, hym, hbm⟩
    refine ⟨by simp only [fsBlocks, List.mem_cons]; exact .inr (.inr hmem), fun e => ?_⟩
    subst e
    exact (List.nodup_cons.1 (List.nodup_cons.1 hnd0).2).1 hmem
  have hxbl : ∀ b ∈ x.bl, b ≠ mb := fun b hbm e => hnew b hbm (by simp [fsBlocks, e])
  have hxnd : x.bl.Nodup := by obtain ⟨wb, A, c, kv, sb, _, h, _⟩ := hr; exact h
  have hpb : (fsBlocks f mb gs').Perm (f :: mb :: (x.bl ++ gs.flatMap Gh.bl)) := ((hp.flatMap_right Gh.bl).cons mb).cons f
  refine ⟨⟨?_, rfl, hb.old (hne f (hin f (by simp [fsBlocks])) hfm), hm.perm (hp.symm.map Gh.kv), fun y hy => ?_⟩, (Turn.but hbut (by simp [fsBlocks])).to fun b hbm => .inl ?_⟩
  · refine (hpb.nodup_iff).2 ?_
    simp only [fsBlocks, List.mem_cons, List.nodup_cons] at hnd0 hnew
    simp only [List.nodup_cons, List.mem_cons, List.mem_append, List.nodup_append]
    refine ⟨?_, ?_, hxnd, hnd0.2.2, fun b hb1 c hc1 e => hnew b hb1 (.inr (.inr (e ▸ hc1)))⟩
    · rintro (e | e | e)
      · exact hfm e
      · exact hnew f e (.inl rfl)
      · exact hnd0.1 (.inr e)
    · rintro (e | e)
      · exact hxbl mb e rfl
      · exact hnd0.2.1 e
  · rcases List.mem_cons.1 (hp.mem_iff.1 hy) with rfl | hy
    · exact hr.keep fun b hbm => hne b (hr.inside b hbm) (hxbl b hbm)
    · exact (hx y hy).keep fun b hbm => hne b (hin b (hxm y hy b hbm).1) (hxm y hy b hbm).2
  · have := hpb.mem_iff.1 hbm
    simp only [fsBlocks, List.mem_cons, List.mem_append] at this ⊢
    rcases this with h | h | h | h
    · exact .inr (.inl h)
    · exact .inr (.inr (.inl h))
    · exact .inl h
    · exact .inr (.inr (.inr h))

theorem insF_map (gs : List Gh) (n : ByteArray) (y : Fl) (g : Nat) (b : List Nat) : insF (gs.map Gh.fst) n y = (gs.filter (fun x => nlt x.name n) ++ ⟨n, y, g, b⟩ :: gs.filter (fun x => !nlt x.name n)).map Gh.fst := by
  unfold insF
  rw [List.filter_map, List.filter_map, List.map_append, List.map_cons]
  rfl
theorem ins_perm (gs : List Gh) (n : ByteArray) (x : Gh) : (gs.filter (fun x => nlt x.name n) ++ x :: gs.filter (fun x => !nlt x.name n)).Perm (x :: gs) :=
  List.perm_middle.trans ((List.filter_append_perm _ gs).cons x)
/-- a call is done: its error, the store behind it -/
def Did (w : World) (f : Nat) (bl : List Nat) (r : Int × Fs) (e : Ending) (w' : World) : Prop := e = .returned (.int .i64 r.1) ∧ ∃ bl', FsAt w' f r.2 bl' ∧ Turn bl bl' w w'
theorem Did.same {w : World} {f : Nat} {a : Fs} {mb : Nat} {gs : List Gh} (h : FsG w f a mb gs) (n : Int) : Did w f (fsBlocks f mb gs) (n, a) (.returned (.int .i64 n)) w := ⟨rfl, _, ⟨mb, gs, rfl, h⟩, Turn.refl _ _⟩
theorem Did.mk_ {w w' : World} {f : Nat} {a : Fs} {bl : List Nat} {mb : Nat} {gs : List Gh} (h : FsG w' f a mb gs) (n : Int) (ht : Turn bl (fsBlocks f mb gs) w w') : Did w f bl (n, a) (.returned (.int .i64 n)) w' := ⟨rfl, _, ⟨mb, gs, rfl, h⟩, ht⟩

set_option maxHeartbeats 1000000 in
theorem create_any (w : World) (f : Nat) (a : Fs) (bl : List Nat) (n : ByteArray) (h : FsAt w f a bl) (hok : FsOk a) (hst : a.stamp < 4611686018427387904) (hn : n.size ≤ maxLen) :
    Calls Tryz.prog 63 #[fsPtr f, .string n] w (Did w f bl (a.create n)) := by
  obtain ⟨mb, gs, rfl, hg⟩ := h
  have hs := state_any w f a mb gs hg
  have hri := right_any n w hn
  cases hd : a.down with
  | true =>
    have e : a.create n = (9, a) := by unfold Fs.create; rw [if_pos hd]
    rw [e]; rw [hd] at hs
    clear e hd
    go_enter Tryz.func63, Tryz.ntmps63
    go_wp2_with (go_at_call 50; refine hs.mono ?_; rintro e w' ⟨rfl, rfl⟩)
    go_ret
    exact Did.same hg 9
  | false =>
    rw [hd] at hs
    have hd' : ¬ a.down = true := by rw [hd]; simp
    cases hr : rightB n with
    | false =>
      have e : a.create n = (1, a) := by unfold Fs.create; rw [if_neg hd', if_pos hr]
      rw [e]; rw [hr] at hri
      clear e hd hd' hr
      go_enter Tryz.func63, Tryz.ntmps63
      go_wp2_with (first
        | (go_at_call 50; refine hs.mono ?_; rintro e w' ⟨rfl, rfl⟩)
        | (go_at_call 89; refine hri.mono ?_; rintro e w' ⟨rfl, rfl⟩))
      go_ret
      exact Did.same hg 1
    | true =>
      have hr' : ¬ rightB n = false := by rw [hr]; simp
      have h0 : w.cell? ⟨f, 0, none⟩ = some (.map (some mb)) := hg.2.2.1.cell rfl
      have hm := hg.2.2.2.1
      cases hgt : getF a.files n with
      | some x =>
        have e : a.create n = (7, a) := by unfold Fs.create; rw [if_neg hd', if_neg hr', if_pos (by rw [hgt]; rfl)]
        obtain ⟨g1, g, xbl, g2, rfl⟩ := hg.get_some hgt
        rw [e]; rw [hr] at hri
        clear e hd hd' hr hr' hgt
        go_enter Tryz.func63, Tryz.ntmps63
        go_wp2_with (first
          | (go_at_call 50; refine hs.mono ?_; rintro e w' ⟨rfl, rfl⟩)
          | (go_at_call 89; refine hri.mono ?_; rintro e w' ⟨rfl, rfl⟩)
          | (at_lookup; refine wpList_look_hit _ rfl _ _ 59 rfl 9 84 strKey Tryz.underlying59 mb _ rfl hm _ _ _ rfl (key_str n hn) (Gh.kv_mem (x := ⟨n, x, g, xbl⟩) (by simp)) ?_))
        go_ret
        exact Did.same hg 7
      | none =>
        have hmiss := Gh.kv_miss (hg.get_none hgt)
        by_cases hfz : a.fuse = 0
        · have e : a.create n = (9, a.fall) := by unfold Fs.create; rw [if_neg hd', if_neg hr', if_neg (by rw [hgt]; simp), if_pos hfz]
          have hbu := burn_out w f a mb gs hg hfz
          rw [e]; rw [hr] at hri
          clear e hd hd' hr hr' hgt hfz
          go_enter Tryz.func63, Tryz.ntmps63
          go_wp2_with (first
            | (go_at_call 50; refine hs.mono ?_; rintro e w' ⟨rfl, rfl⟩)
            | (go_at_call 89; refine hri.mono ?_; rintro e w' ⟨rfl, rfl⟩)
            | (at_lookup; refine wpList_look_miss _ rfl _ _ 59 rfl 9 84 strKey Tryz.underlying59 _ (ptrZero _) mb _ rfl hm _ _ rfl (key_str n hn) hmiss ?_)
            | (go_at_call 90; refine hbu.mono ?_; rintro e w1 ⟨rfl, hg1, hT1⟩))
          go_ret
          exact Did.mk_ hg1 9 hT1
        · have e : a.create n = (0, { a.burn with files := insF a.files n ⟨[], a.stamp + 1, noOld⟩, stamp := a.stamp + 1 }) := by unfold Fs.create; rw [if_neg hd', if_neg hr', if_neg (by rw [hgt]; simp), if_neg hfz]
          have hbu := burn_on w f a mb gs hg hfz hok.fuse1 hok.fuse2
          rw [e]; rw [hr] at hri
          have hfs : a.files = gs.map Gh.fst := hg.2.1
          have HF := Lib.hid hfs
          clear e hd hd' hr hr' hgt hfz hfs
          go_enter Tryz.func63, Tryz.ntmps63
          go_wp2_with (first
            | (go_at_call 50; refine hs.mono ?_; rintro e w' ⟨rfl, rfl⟩)
            | (go_at_call 89; refine hri.mono ?_; rintro e w' ⟨rfl, rfl⟩)
            | (at_lookup; refine wpList_look_miss _ rfl _ _ 59 rfl 9 84 strKey Tryz.underlying59 _ (ptrZero _) mb _ rfl hm _ _ rfl (key_str n hn) hmiss ?_)
            | (go_at_call 90; refine hbu.mono ?_; rintro e w1 ⟨rfl, hg1, hT1⟩)
            | (go_at_call 91; refine (newFile_any _).mono ?_; rintro e w2 ⟨g, xbl, rfl, hr2, hf2, hnew⟩; have hg2 := hg1.fresh hf2; have h02 := hg2.2.2.1.cell (i := 0) rfl; have hm2 := hg2.2.2.2.1)
            | (at_mapUpdate; refine wpList_put_new _ rfl _ _ _ 59 rfl 9 84 strKey Tryz.underlying59 mb _ rfl hm2 (.string n) (.pointer (some ⟨g, 0, none⟩)) _ rfl rfl (key_str n hn) hmiss ?_; intro w3 hm3 hb3;
                have had := hg2.add ⟨n, ⟨[], 0, noOld⟩, g, xbl⟩ _ (ins_perm gs n ⟨n, ⟨[], 0, noOld⟩, g, xbl⟩) hb3 hm3 _ rfl hr2 (fun b hb1 hb2 => by (have h1 := hnew b hb1; have h2 := hg1.inside b hb2; omega)))
            | (go_at_call 92; refine (mark_any _ f _ mb _ _ ⟨n, ⟨[], 0, noOld⟩, g, xbl⟩ had.1 hst _ rfl).mono ?_; rintro e w4 ⟨rfl, hg4, hT4⟩))
          go_ret
          have e : insF a.files n ⟨[], a.stamp + 1, noOld⟩ = _ := (congrArg (fun l => insF l n ⟨[], a.stamp + 1, noOld⟩) HF.out).trans (insF_map gs n ⟨[], a.stamp + 1, noOld⟩ g xbl)
          rw [e]
          refine Did.mk_ hg4 0 ((((hT1.trans (Turn.fresh hf2)).to fun b hb => ?_).trans had.2).trans ?_)
          · rcases List.mem_append.1 hb with h | h
            · have := hnew b h; have := hT1.size; exact .inr (by omega)
            · exact .inl h
          · have eb : fsBlocks f mb (gs.filter (fun x => nlt x.name n) ++ ⟨n, ⟨[], a.stamp + 1, noOld⟩, g, xbl⟩ :: gs.filter (fun x => !nlt x.name n)) = fsBlocks f mb (gs.filter (fun x => nlt x.name n) ++ ⟨n, ⟨[], 0, noOld⟩, g, xbl⟩ :: gs.filter (fun x => !nlt x.name n)) := by simp [fsBlocks]
            exact eb ▸ hT4
end Go.Proofs.YtcdehklcdipcfaaGreat.vfs
/-
  The contracts of the store's Sync, Write, Cut. My own text.
-/
namespace Go.Proofs.YtcdehklcdipcfaaGreat.vfs
open Go.RowKit Go.Maps Go.Proofs.YtcdehklcdipcfaaGreat.base Go.Proofs.YtcdehklcdipcfaaGreat.vfsnum
set_option linter.unusedVariables false

theorem FsG.block_in {f mb : Nat} {g1 g2 : List Gh} {x : Gh} : ∀ b ∈ x.bl, b ∈ fsBlocks f mb (g1 ++ x :: g2) := fun b hb => by
  simp only [fsBlocks, List.flatMap_append, List.flatMap_cons, List.mem_cons, List.mem_append]
  exact .inr (.inr (.inr (.inl hb)))

set_option maxHeartbeats 1000000 in
theorem sync_fs (w : World) (f : Nat) (a : Fs) (bl : List Nat) (n : ByteArray) (h : FsAt w f a bl) (hok : FsOk a) (hn : n.size ≤ maxLen) :
    Calls Tryz.prog 104 #[fsPtr f, .string n] w (Did w f bl (a.sync n)) := by
  obtain ⟨mb, gs, rfl, hg⟩ := h
  cases hd : a.down with
  | true =>
    have e : a.sync n = (9, a) := by unfold Fs.sync; rw [if_pos hd]
    have hfi := find_down n w f a mb gs hg hd
    rw [e]
    clear e hd
    go_enter Tryz.func104, Tryz.ntmps104
    go_wp2_with (go_at_call 88; refine hfi.mono ?_; rintro e w' ⟨rfl, rfl⟩)
    go_ret
    exact Did.same hg 9
  | false =>
    have hd' : ¬ a.down = true := by rw [hd]; simp
    cases hgt : getF a.files n with
    | none =>
      have e : a.sync n = (6, a) := by unfold Fs.sync; rw [if_neg hd', hgt]
      have hfi := find_miss n w f a mb gs hg hd (hg.get_none hgt) hn
      rw [e]
      clear e hd hd' hgt
      go_enter Tryz.func104, Tryz.ntmps104
      go_wp2_with (go_at_call 88; refine hfi.mono ?_; rintro e w' ⟨rfl, rfl⟩)
      go_ret
      exact Did.same hg 6
    | some x =>
      obtain ⟨g1, g, xbl, g2, rfl⟩ := hg.get_some hgt
      have hfi := find_hit ⟨n, x, g, xbl⟩ w f a mb _ hg hd (by simp) hn
      by_cases hfz : a.fuse = 0
      · have e : a.sync n = (9, a.fall) := by unfold Fs.sync; rw [if_neg hd', hgt]; simp only; rw [if_pos hfz]
        have hbu := burn_out w f a mb _ hg hfz
        rw [e]
        clear e hd hd' hgt hfz
        go_enter Tryz.func104, Tryz.ntmps104
        go_wp2_with (first
          | (go_at_call 88; refine hfi.mono ?_; rintro e w' ⟨rfl, rfl⟩)
          | (go_at_call 90; refine hbu.mono ?_; rintro e w1 ⟨rfl, hg1, hT1⟩))
        go_ret
        exact Did.mk_ hg1 9 hT1
      · have e : a.sync n = (0, { a.burn with files := updF a.files n { x with old := noOld } }) := by unfold Fs.sync; rw [if_neg hd', hgt]; simp only; rw [if_neg hfz]
        have hbu := burn_on w f a mb _ hg hfz hok.fuse1 hok.fuse2
        have hfs := hg.2.1
        have hup := updF_split hg.apart { x with old := noOld }
        rw [e]
        have HF := Lib.hid hfs
        have HU := Lib.hid hup
        clear e hd hd' hgt hfz hfs hup
        go_enter Tryz.func104, Tryz.ntmps104
        go_wp2_with (first
          | (go_at_call 88; refine hfi.mono ?_; rintro e w' ⟨rfl, rfl⟩)
          | (go_at_call 90; refine hbu.mono ?_; rintro e w1 ⟨rfl, hg1, hT1⟩)
          | (go_at_call 78; (refine (sync_any g _ _ _ (hg1.2.2.2.2 ⟨n, x, g, xbl⟩ (by simp))).mono ?_); rintro e w2 ⟨rfl, bl2, hr2, hT2⟩))
        go_ret
        have hu := hg1.upd { x with old := noOld } bl2 hr2 hT2 _ rfl
        have e2 : updF a.files n { x with old := noOld } = _ := (congrArg (fun l => updF l n { x with old := noOld }) HF.out).trans (HU.out bl2)
        rw [e2]
        exact Did.mk_ hu.1 0 (hT1.trans hu.2)

theorem le_sum_of_mem : ∀ {l : List Nat} {x : Nat}, x ∈ l → x ≤ l.sum
  | y :: r, x, h => by
    rw [List.sum_cons]
    rcases List.mem_cons.1 h with rfl | h
    · omega
    · have := le_sum_of_mem h; omega
theorem FileRaw.long {w : World} {g : Nat} {r : Raw} {bl : List Nat} (h : FileRaw w g r bl) : w.cell? ⟨g, 0, none⟩ = some (.int .i64 r.long) := by
  obtain ⟨wb, A, c, kv, sb, rfl, hnd, hb, hs, hm, hk⟩ := h
  exact hb.cell rfl
theorem FileRaw.secs {w : World} {g : Nat} {r : Raw} {bl : List Nat} (h : FileRaw w g r bl) : ∃ A c, w.cell? ⟨g, 2, none⟩ = some (.slice A r.n c) := by
  obtain ⟨wb, A, c, kv, sb, rfl, hnd, hb, hs, hm, hk⟩ := h
  exact ⟨A, c, hb.cell rfl⟩
theorem takes_q (n : Nat) (v : Int) (w : World) (h : n ≤ 1099511627776) (hv : v = (n : Nat)) : Calls Tryz.prog 123 #[.int .i64 v] w fun e w' => e = .returned (.int .i64 (takes n : Nat)) ∧ w' = w := by
  subst hv
  exact (takes_any n w h).mono fun e w' ⟨h1, h2⟩ => ⟨h1, h2.symm⟩

set_option maxHeartbeats 2000000 in
theorem write_fs (w : World) (f : Nat) (a : Fs) (bl : List Nat) (n : ByteArray) (t : Int) (A : Option Addr) (m c : Nat) (bs : Bs) (h : FsAt w f a bl) (hok : FsOk a) (hst : a.stamp < 4611686018427387904) (hn : n.size ≤ maxLen)
    (hr : RdA w bl A m (bs.map bv)) (ht1 : -9223372036854775808 ≤ t) (ht2 : t ≤ 9223372036854775807) (hm : m ≤ 1073741824) (hc : m ≤ c) (hcm : c ≤ maxLen) :
    Calls Tryz.prog 103 #[fsPtr f, .string n, .int .i64 t, .slice A m c] w (Did w f bl (a.write n t bs)) := by
  obtain ⟨mb, gs, rfl, hg⟩ := h
  have hbl : bs.length = m := by have := hr.1; rwa [List.length_map] at this
  cases hd : a.down with
  | true =>
    have e : a.write n t bs = (9, a) := by unfold Fs.write; rw [if_pos hd]
    have hfi := find_down n w f a mb gs hg hd
    rw [e]
    clear e hd hbl
    go_enter Tryz.func103, Tryz.ntmps103
    go_wp2_with (go_at_call 88; refine hfi.mono ?_; rintro e w' ⟨rfl, rfl⟩)
    go_ret
    exact Did.same hg 9
  | false =>
    have hd' : ¬ a.down = true := by rw [hd]; simp
    cases hgt : getF a.files n with
    | none =>
      have e : a.write n t bs = (6, a) := by unfold Fs.write; rw [if_neg hd', hgt]
      have hfi := find_miss n w f a mb gs hg hd (hg.get_none hgt) hn
      rw [e]
      clear e hd hd' hgt hbl
      go_enter Tryz.func103, Tryz.ntmps103
      go_wp2_with (go_at_call 88; refine hfi.mono ?_; rintro e w' ⟨rfl, rfl⟩)
      go_ret
      exact Did.same hg 6
    | some x =>
      obtain ⟨g1, g, xbl, g2, rfl⟩ := hg.get_some hgt
      have hfi := find_hit ⟨n, x, g, xbl⟩ w f a mb _ hg hd (by simp) hn
      have hx := hg.2.2.2.2 ⟨n, x, g, xbl⟩ (by simp)
      have hxok : FlOk x := hok.fls (n, x) (getF_some hgt)
      have hlong : w.cell? ⟨g, 0, none⟩ = some (.int .i64 x.bs.length) := hx.long
      have hxl := hxok.1
      by_cases hbad : t < 0 ∨ (x.bs.length : Int) < t
      · have e : a.write n t bs = (1, a) := by unfold Fs.write; rw [if_neg hd', hgt]; simp only; rw [if_pos hbad]
        rw [e]
        clear e hd hd' hgt hbl
        rcases hbad with hbad | hbad
        · go_enter Tryz.func103, Tryz.ntmps103
          go_wp2_with (go_at_call 88; refine hfi.mono ?_; rintro e w' ⟨rfl, rfl⟩)
          all_goals go_ret
          all_goals exact Did.same hg 1
        · have hnn : decide (t < 0) = false := by simp; omega
          go_enter Tryz.func103, Tryz.ntmps103
          go_wp2_with (go_at_call 88; refine hfi.mono ?_; rintro e w' ⟨rfl, rfl⟩)
          all_goals go_ret
          all_goals exact Did.same hg 1
      · obtain ⟨s, rfl⟩ : ∃ s : Nat, t = (s : Int) := ⟨t.toNat, by omega⟩
        have hsl : s ≤ x.bs.length := by omega
        obtain ⟨T, hT⟩ : ∃ T, takes (s + m) = T := ⟨_, rfl⟩
        obtain ⟨K, hK⟩ : ∃ K, tk x = K := ⟨_, rfl⟩
        obtain ⟨M, hM⟩ : ∃ M, M = T - K := ⟨_, rfl⟩
        have hTb : T ≤ 17179869184 + 65536 := by rw [← hT]; unfold takes; omega
        have hKb : K ≤ 65536 := by rw [← hK]; unfold tk takes; omega
        have hroom : a.room ≤ 65536 := by have := hok.sum; omega
        have e0 : a.write n s bs = if a.room < M then (8, a) else if bs.length = 0 then (0, a) else if a.fuse = 0 then (9, a.fall)
            else (0, { a.burn with files := updF a.files n { wrt x s bs with stamp := a.stamp + 1 }, room := a.room - M, stamp := a.stamp + 1 }) := by
          unfold Fs.write; rw [if_neg hd', hgt]; simp only; rw [if_neg hbad, Int.toNat_natCast, hbl, hT, hK, ← hM]
        obtain ⟨XA, xc, hsec⟩ := hx.secs
        have hN : (rawOf x).n = K := hK
        rw [hN] at hsec
        have htk := fun w => takes_q (s + m) ((s : Int) + (m : Int)) w (by omega) (by omega)
        rw [hT] at htk
        have d1 : decide ((s : Int) < 0) = false := by simp
        have d2 : decide ((x.bs.length : Int) < (s : Int)) = false := by simp; omega
        have ew : IntKind.i64.wrap ((s : Int) + (m : Int)) = (s : Int) + (m : Int) := IntWalk.i64_in _ (by omega)
        by_cases h8 : a.room < M
        · rw [e0, if_pos h8]
          have hMK : (T : Int) - (K : Int) = (M : Int) := by omega
          have hlt : (0 : Int) < (M : Int) := by omega
          have hroomc : w.cell? ⟨f, 1, none⟩ = some (.int .i64 a.room) := hg.2.2.1.cell rfl
          have h8' : (a.room : Int) < (M : Int) := by omega
          clear e0 hd hd' hgt hT hK hM hN hbad hbl
          go_enter Tryz.func103, Tryz.ntmps103
          go_wp2_with (go_at_call 88; refine hfi.mono ?_; rintro e w' ⟨rfl, rfl⟩)
          go_quiet ((go_at_call 123; exact Calls.quiet_of_same (htk _)))
          go_wp2
          go_ret
          exact Did.mk_ (hg.fresh (Fresh.drewN w nq)) 8 (Turn.fresh (Fresh.drewN w nq))
        · have hwz : ((T : Int) - (K : Int) ≤ 0 ∧ (M : Int) = 0) ∨ (0 < (T : Int) - (K : Int) ∧ (T : Int) - (K : Int) = (M : Int)) := by omega
          rw [if_neg h8] at e0
          by_cases hb0 : bs.length = 0
          · rw [e0, if_pos hb0]
            have hm0 : (m : Int) = 0 := by omega
            have hM0 : (T : Int) - (K : Int) ≤ 0 := by
              have : m = 0 := by omega
              have : T ≤ K := by rw [← hT, ← hK]; unfold tk takes; omega
              omega
            have hroomc : ∀ k, (w.drewN k).cell? ⟨f, 1, none⟩ = some (.int .i64 a.room) := fun k => hg.2.2.1.cell rfl
            have h8' : ¬ ((a.room : Int) < 0) := by omega
            have hmn : m = 0 := by omega
            subst hmn
            clear e0 hd hd' hgt hT hK hM hN hbad hbl hwz h8 hb0 hm0
            go_enter Tryz.func103, Tryz.ntmps103
            go_wp2_with (go_at_call 88; refine hfi.mono ?_; rintro e w' ⟨rfl, rfl⟩)
            go_quiet ((go_at_call 123; exact Calls.quiet_of_same (htk _)))
            go_wp2
            go_ret
            exact Did.mk_ (hg.fresh (Fresh.drewN w nq)) 0 (Turn.fresh (Fresh.drewN w nq))
          · rw [if_neg hb0] at e0
            have hm0 : ((m : Int) == 0) = false := by rw [beq_eq_false_iff_ne]; omega
            have hm1 : ¬ ((m : Int) = 0) := by omega
            have hroomc : ∀ k, (w.drewN k).cell? ⟨f, 1, none⟩ = some (.int .i64 a.room) := fun k => hg.2.2.1.cell rfl
            have h8' : ¬ ((a.room : Int) < (M : Int)) := by omega
            have h8'' : (M : Int) ≤ (a.room : Int) := by omega
            have h80 : (0 : Int) ≤ (a.room : Int) := by omega
            have hsum := hok.sum
            have hmem : tk x ≤ (a.files.map fun p => tk p.2).sum := by
              exact le_sum_of_mem (List.mem_map.2 ⟨(n, x), getF_some hgt, rfl⟩)
            have hsm : s + m ≤ 4194304 := by
              have h1 : T ≤ 65536 := by omega
              rw [← hT] at h1
              unfold takes at h1
              omega
            have HSM := Lib.hid hsm
            have hfs := hg.2.1
            have hup := updF_split hg.apart { wrt x s bs with stamp := a.stamp + 1 }
            have HF := Lib.hid hfs
            have HU := Lib.hid hup
            by_cases hfz0 : a.fuse = 0
            · rw [e0, if_pos hfz0]
              have hfz := Lib.hid hfz0
              clear e0 hd hd' hgt hT hK hM hN hbad hbl h8 hb0 hfz0 hsum hmem hfs hup hsm
              rcases hwz with ⟨hz1, hz2⟩ | ⟨hz1, hz2⟩
              · have hz3 := Lib.hid hz2; clear hz2
                go_enter Tryz.func103, Tryz.ntmps103
                go_wp2_with (go_at_call 88; refine hfi.mono ?_; rintro e w' ⟨rfl, rfl⟩)
                go_quiet ((go_at_call 123; exact Calls.quiet_of_same (htk _)))
                have hgD := hg.fresh (Fresh.drewN w nq)
                have hbu := burn_out (w.drewN nq) f a mb _ hgD hfz.out
                go_wp2_with (go_at_call 90; refine hbu.mono ?_; rintro e w1 ⟨rfl, hg1, hT1⟩)
                go_ret
                exact Did.mk_ hg1 9 ((Turn.fresh (Fresh.drewN w nq)).trans hT1)
              · skip
                go_enter Tryz.func103, Tryz.ntmps103
                go_wp2_with (go_at_call 88; refine hfi.mono ?_; rintro e w' ⟨rfl, rfl⟩)
                go_quiet ((go_at_call 123; exact Calls.quiet_of_same (htk _)))
                have hgD := hg.fresh (Fresh.drewN w nq)
                have hbu := burn_out (w.drewN nq) f a mb _ hgD hfz.out
                go_wp2_with (go_at_call 90; refine hbu.mono ?_; rintro e w1 ⟨rfl, hg1, hT1⟩)
                go_ret
                exact Did.mk_ hg1 9 ((Turn.fresh (Fresh.drewN w nq)).trans hT1)
            · rw [e0, if_neg hfz0]
              have hfz := Lib.hid hfz0
              clear e0 hd hd' hgt hT hK hM hN hbad hbl h8 hb0 hfz0 hsum hmem hfs hup hsm
              rcases hwz with ⟨hz1, hz2⟩ | ⟨hz1, hz2⟩
              · have E3 := Lib.hid (show ((a.room - M : Nat) : Int) = (a.room : Int) by omega); clear hz2
                go_enter Tryz.func103, Tryz.ntmps103
                go_wp2_with (go_at_call 88; refine hfi.mono ?_; rintro e w' ⟨rfl, rfl⟩)
                go_quiet ((go_at_call 123; exact Calls.quiet_of_same (htk _)))
                have hgD := hg.fresh (Fresh.drewN w nq)
                have hbu := burn_on (w.drewN nq) f a mb _ hgD hfz.out hok.fuse1 hok.fuse2
                have hrD := hr.turn (Turn.fresh (S := fsBlocks f mb (g1 ++ ⟨n, x, g, xbl⟩ :: g2)) (Fresh.drewN w nq))
                go_wp2_with (first
                  | (go_at_call 90; refine hbu.mono ?_; rintro e w1 ⟨rfl, hg1, hT1⟩)
                  | (go_at_call 124; (refine (write_any g x xbl s A m c bs w1 (hg1.2.2.2.2 ⟨n, x, g, xbl⟩ (by simp)) ((hrD.turn hT1).sub (FsG.block_in (x := ⟨n, x, g, xbl⟩))) hxok hsl HSM.out hc hcm).mono ?_); rintro e w2 ⟨rfl, bl2, hr2, hT2⟩;
                      have hu := hg1.upd (wrt x s bs) bl2 hr2 hT2 _ rfl;
                      have hrc : w2.cell? ⟨f, 1, none⟩ = some (.int .i64 a.room) := hu.1.2.2.1.cell (i := 1) rfl;
                      have hrf := hu.1.2.2.1.free 1;
                      have hput := hu.1.put 1 (.int .i64 (a.room : Int)) { a.burn with files := (g1 ++ ⟨n, wrt x s bs, g, bl2⟩ :: g2).map Gh.fst, room := a.room - M } rfl (by simp [E3.out, Fs.burn]))
                  | (go_at_call 92; refine (mark_any _ f _ mb g1 g2 ⟨n, wrt x s bs, g, bl2⟩ hput.1 hst _ rfl).mono ?_; rintro e w4 ⟨rfl, hg4, hT4⟩))
                go_ret
                have e2 : updF a.files n { wrt x s bs with stamp := a.stamp + 1 } = _ := (congrArg (fun l => updF l n { wrt x s bs with stamp := a.stamp + 1 }) HF.out).trans (HU.out bl2)
                rw [e2]
                refine Did.mk_ hg4 0 (((((Turn.fresh (Fresh.drewN w nq)).trans hT1).trans hu.2).trans hput.2).trans ?_)
                have eb : fsBlocks f mb (g1 ++ ⟨n, { wrt x s bs with stamp := a.stamp + 1 }, g, bl2⟩ :: g2) = fsBlocks f mb (g1 ++ ⟨n, wrt x s bs, g, bl2⟩ :: g2) := by simp [fsBlocks]
                exact eb ▸ hT4
              · have E3 := Lib.hid (show ((a.room - M : Nat) : Int) = (a.room : Int) - (M : Int) by omega)
                go_enter Tryz.func103, Tryz.ntmps103
                go_wp2_with (go_at_call 88; refine hfi.mono ?_; rintro e w' ⟨rfl, rfl⟩)
                go_quiet ((go_at_call 123; exact Calls.quiet_of_same (htk _)))
                have hgD := hg.fresh (Fresh.drewN w nq)
                have hbu := burn_on (w.drewN nq) f a mb _ hgD hfz.out hok.fuse1 hok.fuse2
                have hrD := hr.turn (Turn.fresh (S := fsBlocks f mb (g1 ++ ⟨n, x, g, xbl⟩ :: g2)) (Fresh.drewN w nq))
                go_wp2_with (first
                  | (go_at_call 90; refine hbu.mono ?_; rintro e w1 ⟨rfl, hg1, hT1⟩)
                  | (go_at_call 124; (refine (write_any g x xbl s A m c bs w1 (hg1.2.2.2.2 ⟨n, x, g, xbl⟩ (by simp)) ((hrD.turn hT1).sub (FsG.block_in (x := ⟨n, x, g, xbl⟩))) hxok hsl HSM.out hc hcm).mono ?_); rintro e w2 ⟨rfl, bl2, hr2, hT2⟩;
                      have hu := hg1.upd (wrt x s bs) bl2 hr2 hT2 _ rfl;
                      have hrc : w2.cell? ⟨f, 1, none⟩ = some (.int .i64 a.room) := hu.1.2.2.1.cell (i := 1) rfl;
                      have hrf := hu.1.2.2.1.free 1;
                      have hput := hu.1.put 1 (.int .i64 ((a.room : Int) - (M : Int))) { a.burn with files := (g1 ++ ⟨n, wrt x s bs, g, bl2⟩ :: g2).map Gh.fst, room := a.room - M } rfl (by simp [E3.out, Fs.burn]))
                  | (go_at_call 92; refine (mark_any _ f _ mb g1 g2 ⟨n, wrt x s bs, g, bl2⟩ hput.1 hst _ rfl).mono ?_; rintro e w4 ⟨rfl, hg4, hT4⟩))
                go_ret
                have e2 : updF a.files n { wrt x s bs with stamp := a.stamp + 1 } = _ := (congrArg (fun l => updF l n { wrt x s bs with stamp := a.stamp + 1 }) HF.out).trans (HU.out bl2)
                rw [e2]
                refine Did.mk_ hg4 0 (((((Turn.fresh (Fresh.drewN w nq)).trans hT1).trans hu.2).trans hput.2).trans ?_)
                have eb : fsBlocks f mb (g1 ++ ⟨n, { wrt x s bs with stamp := a.stamp + 1 }, g, bl2⟩ :: g2) = fsBlocks f mb (g1 ++ ⟨n, wrt x s bs, g, bl2⟩ :: g2) := by simp [fsBlocks]
                exact eb ▸ hT4
end Go.Proofs.YtcdehklcdipcfaaGreat.vfs
/-
  The contracts of the store's Read, Len, Stamp, Room, Down, Fuse, and of a store that is nil. My own text.
-/
namespace Go.Proofs.YtcdehklcdipcfaaGreat.vfs
open Go.RowKit Go.Maps Go.Proofs.YtcdehklcdipcfaaGreat.base Go.Proofs.YtcdehklcdipcfaaGreat.vfsnum
set_option linter.unusedVariables false

def readE (a : Fs) (n : ByteArray) (t m : Int) : Int :=
  if a.down = true then 9 else match getF a.files n with
  | none => 6
  | some x => if t < 0 ∨ m < 0 then 1 else if (x.bs.length : Int) - t < m then 3 else 0

theorem read_bad (w : World) (f : Nat) (a : Fs) (bl : List Nat) (n : ByteArray) (t m c : Int) (h : FsAt w f a bl) (hok : FsOk a) (hn : n.size ≤ maxLen)
    (ht1 : -9223372036854775808 ≤ t) (ht2 : t ≤ 9223372036854775807) (hm1 : -9223372036854775808 ≤ m) (hm2 : m ≤ 9223372036854775807) (he : readE a n t m = c) (hc : c ≠ 0) :
    Calls Tryz.prog 93 #[fsPtr f, .string n, .int .i64 t, .int .i64 m] w fun e w' => e = .returned (.tuple #[.slice none 0 0, .int .i64 c]) ∧ w = w' := by
  obtain ⟨mb, gs, rfl, hg⟩ := h
  unfold readE at he
  cases hd : a.down with
  | true =>
    rw [if_pos hd] at he
    subst he
    have hfi := find_down n w f a mb gs hg hd
    clear hd hc
    go_enter Tryz.func93, Tryz.ntmps93
    go_wp2_with (go_at_call 88; refine hfi.mono ?_; rintro e w' ⟨rfl, rfl⟩)
    go_ret2
    exact ⟨rfl, rfl⟩
  | false =>
    rw [if_neg (by rw [hd]; simp)] at he
    cases hgt : getF a.files n with
    | none =>
      rw [hgt] at he
      simp only at he
      subst he
      have hfi := find_miss n w f a mb gs hg hd (hg.get_none hgt) hn
      clear hd hgt hc
      go_enter Tryz.func93, Tryz.ntmps93
      go_wp2_with (go_at_call 88; refine hfi.mono ?_; rintro e w' ⟨rfl, rfl⟩)
      go_ret2
      exact ⟨rfl, rfl⟩
    | some x =>
      rw [hgt] at he
      simp only at he
      obtain ⟨g1, g, xbl, g2, rfl⟩ := hg.get_some hgt
      have hfi := find_hit ⟨n, x, g, xbl⟩ w f a mb _ hg hd (by simp) hn
      have hx := hg.2.2.2.2 ⟨n, x, g, xbl⟩ (by simp)
      have hxl := (hok.fls (n, x) (getF_some hgt)).1
      have hlong : w.cell? ⟨g, 0, none⟩ = some (.int .i64 x.bs.length) := hx.long
      by_cases h1 : t < 0 ∨ m < 0
      · rw [if_pos h1] at he
        subst he
        clear hd hgt hc
        rcases h1 with h1 | h1
        · have d1 : decide (t < 0) = true := by simpa using h1
          go_enter Tryz.func93, Tryz.ntmps93
          go_wp2_with (go_at_call 88; refine hfi.mono ?_; rintro e w' ⟨rfl, rfl⟩)
          all_goals go_ret2
          all_goals exact ⟨rfl, rfl⟩
        · have d1 : decide (m < 0) = true := by simpa using h1
          go_enter Tryz.func93, Tryz.ntmps93
          go_wp2_with (go_at_call 88; refine hfi.mono ?_; rintro e w' ⟨rfl, rfl⟩)
          all_goals go_ret2
          all_goals exact ⟨rfl, rfl⟩
      · rw [if_neg h1] at he
        by_cases h2 : (x.bs.length : Int) - t < m
        · rw [if_pos h2] at he
          subst he
          have d1 : decide (t < 0) = false := by simp; omega
          have d2 : decide (m < 0) = false := by simp; omega
          have b1 : 0 ≤ t := by omega
          have b2 : 0 ≤ m := by omega
          clear hd hgt hc h1
          go_enter Tryz.func93, Tryz.ntmps93
          go_wp2_with (go_at_call 88; refine hfi.mono ?_; rintro e w' ⟨rfl, rfl⟩)
          all_goals go_ret2
          all_goals exact ⟨rfl, rfl⟩
        · rw [if_neg h2] at he
          exact absurd he.symm hc
/-- what a good Read leaves -/
def ReadAt (w : World) (bs : Bs) (e : Ending) (w' : World) : Prop := ∃ q, e = .returned (.tuple #[.slice (some ⟨q, 0, none⟩) bs.length bs.length, .int .i64 0]) ∧ w.heap.size ≤ q ∧ Bk w' q 5 (bs.map bv) ∧ Fresh w w'
theorem read_good (w : World) (f : Nat) (a : Fs) (bl : List Nat) (n : ByteArray) (t m : Nat) (x : Fl) (h : FsAt w f a bl) (hok : FsOk a) (hn : n.size ≤ maxLen) (hd : a.down = false) (hgt : getF a.files n = some x) (htm : t + m ≤ x.bs.length) :
    Calls Tryz.prog 93 #[fsPtr f, .string n, .int .i64 t, .int .i64 m] w (ReadAt w ((x.bs.drop t).take m)) := by
  obtain ⟨mb, gs, rfl, hg⟩ := h
  obtain ⟨g1, g, xbl, g2, rfl⟩ := hg.get_some hgt
  have hfi := find_hit ⟨n, x, g, xbl⟩ w f a mb _ hg hd (by simp) hn
  have hx := hg.2.2.2.2 ⟨n, x, g, xbl⟩ (by simp)
  have hxl := (hok.fls (n, x) (getF_some hgt)).1
  have hlong : w.cell? ⟨g, 0, none⟩ = some (.int .i64 x.bs.length) := hx.long
  have d1 : decide ((t : Int) < 0) = false := by simp
  have d2 : decide ((m : Int) < 0) = false := by simp
  have hlt : (m : Int) ≤ (x.bs.length : Int) - (t : Int) := by omega
  have hlen : ((x.bs.drop t).take m).length = m := by rw [List.length_take, List.length_drop]; omega
  have HL := Lib.hid hlen
  clear hd hgt hlen
  go_enter Tryz.func93, Tryz.ntmps93
  go_wp2_with (first
    | (go_at_call 88; refine hfi.mono ?_; rintro e w' ⟨rfl, rfl⟩)
    | (go_at_call 116; (refine (read_any g x xbl t m w hx hxl htm).mono ?_); rintro e w1 ⟨q, rfl, hq1, hq2, hq3⟩))
  go_ret2
  unfold ReadAt
  rw [HL.out]
  exact ⟨q, rfl, hq1, hq2, hq3⟩

theorem len_none (w : World) (f : Nat) (a : Fs) (bl : List Nat) (n : ByteArray) (h : FsAt w f a bl) (hn : n.size ≤ maxLen) (hgt : a.down = true ∨ getF a.files n = none) :
    Calls Tryz.prog 62 #[fsPtr f, .string n] w fun e w' => e = .returned (.tuple #[.int .i64 0, .bool false]) ∧ w = w' := by
  obtain ⟨mb, gs, rfl, hg⟩ := h
  cases hd : a.down with
  | true =>
    have hfi := find_down n w f a mb gs hg hd
    clear hd hgt
    go_enter Tryz.func62, Tryz.ntmps62
    go_wp2_with (go_at_call 88; refine hfi.mono ?_; rintro e w' ⟨rfl, rfl⟩)
    go_ret2
    exact ⟨rfl, rfl⟩
  | false =>
    have hgt' : getF a.files n = none := hgt.resolve_left (by rw [hd]; simp)
    have hfi := find_miss n w f a mb gs hg hd (hg.get_none hgt') hn
    clear hd hgt hgt'
    go_enter Tryz.func62, Tryz.ntmps62
    go_wp2_with (go_at_call 88; refine hfi.mono ?_; rintro e w' ⟨rfl, rfl⟩)
    go_ret2
    exact ⟨rfl, rfl⟩
theorem len_some (w : World) (f : Nat) (a : Fs) (bl : List Nat) (n : ByteArray) (x : Fl) (h : FsAt w f a bl) (hn : n.size ≤ maxLen) (hd : a.down = false) (hgt : getF a.files n = some x) :
    Calls Tryz.prog 62 #[fsPtr f, .string n] w fun e w' => e = .returned (.tuple #[.int .i64 x.bs.length, .bool true]) ∧ w = w' := by
  obtain ⟨mb, gs, rfl, hg⟩ := h
  obtain ⟨g1, g, xbl, g2, rfl⟩ := hg.get_some hgt
  have hfi := find_hit ⟨n, x, g, xbl⟩ w f a mb _ hg hd (by simp) hn
  have hlong : w.cell? ⟨g, 0, none⟩ = some (.int .i64 x.bs.length) := (hg.2.2.2.2 ⟨n, x, g, xbl⟩ (by simp)).long
  clear hd hgt
  go_enter Tryz.func62, Tryz.ntmps62
  go_wp2_with (go_at_call 88; refine hfi.mono ?_; rintro e w' ⟨rfl, rfl⟩)
  go_ret2
  exact ⟨rfl, rfl⟩
theorem room_any (w : World) (f : Nat) (a : Fs) (bl : List Nat) (h : FsAt w f a bl) :
    Calls Tryz.prog 99 #[fsPtr f] w fun e w' => e = .returned (.int .i64 (if a.down = true then 0 else a.room : Nat)) ∧ w = w' := by
  obtain ⟨mb, gs, rfl, hg⟩ := h
  have hs := state_any w f a mb gs hg
  have h1 : w.cell? ⟨f, 1, none⟩ = some (.int .i64 a.room) := hg.2.2.1.cell rfl
  cases hd : a.down with
  | true =>
    rw [hd] at hs
    clear hd
    go_enter Tryz.func99, Tryz.ntmps99
    go_wp2_with (go_at_call 50; refine hs.mono ?_; rintro e w' ⟨rfl, rfl⟩)
    go_ret
    exact ⟨rfl, rfl⟩
  | false =>
    rw [hd] at hs
    clear hd
    go_enter Tryz.func99, Tryz.ntmps99
    go_wp2_with (go_at_call 50; refine hs.mono ?_; rintro e w' ⟨rfl, rfl⟩)
    go_ret
    exact ⟨rfl, rfl⟩
theorem down_any (w : World) (f : Nat) (a : Fs) (bl : List Nat) (h : FsAt w f a bl) :
    Calls Tryz.prog 20 #[fsPtr f] w fun e w' => e = .returned (.bool a.down) ∧ w = w' := by
  obtain ⟨mb, gs, rfl, hg⟩ := h
  have hs := state_any w f a mb gs hg
  cases hd : a.down with
  | true =>
    rw [hd] at hs
    clear hd
    go_enter Tryz.func20, Tryz.ntmps20
    go_wp2_with (go_at_call 50; refine hs.mono ?_; rintro e w' ⟨rfl, rfl⟩)
    go_ret
    exact ⟨rfl, rfl⟩
  | false =>
    rw [hd] at hs
    clear hd
    go_enter Tryz.func20, Tryz.ntmps20
    go_wp2_with (go_at_call 50; refine hs.mono ?_; rintro e w' ⟨rfl, rfl⟩)
    go_ret
    exact ⟨rfl, rfl⟩
theorem fuse_any (w : World) (f : Nat) (a : Fs) (bl : List Nat) (n : Int) (h : FsAt w f a bl) :
    Calls Tryz.prog 19 #[fsPtr f, .int .i64 n] w fun e w' => e = .returned (.tuple #[]) ∧ ∃ bl', FsAt w' f { a with fuse := max (-1) n } bl' ∧ Turn bl bl' w w' := by
  obtain ⟨mb, gs, rfl, hg⟩ := h
  have h3 : w.cell? ⟨f, 3, none⟩ = some (.int .i64 a.fuse) := hg.2.2.1.cell rfl
  have hf := hg.2.2.1.free 3
  have fin : ∀ v : Int, v = max (-1) n → ∃ bl', FsAt (w.setCell ⟨f, 3, none⟩ (.int .i64 v)) f { a with fuse := max (-1) n } bl' ∧ Turn (fsBlocks f mb gs) bl' w (w.setCell ⟨f, 3, none⟩ (.int .i64 v)) := by
    intro v hv
    subst hv
    have := hg.put 3 (.int .i64 (max (-1) n)) { a with fuse := max (-1) n } rfl rfl
    exact ⟨_, ⟨mb, gs, rfl, this.1⟩, this.2⟩
  have FIN := Lib.hid fin
  clear fin
  go_enter Tryz.func19, Tryz.ntmps19
  go_wp2
  all_goals
    go_end0
    exact ⟨rfl, FIN.out _ (by omega)⟩
end Go.Proofs.YtcdehklcdipcfaaGreat.vfs
