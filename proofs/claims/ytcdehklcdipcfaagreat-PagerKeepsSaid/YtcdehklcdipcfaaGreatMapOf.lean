/-
  A map's block whose entries are, in some order, a list of pairs: plain lemmas on worlds, over any program. My own text.
-/
import Derived.Test.YtcdehklcdipcfaaGreatBlk
import Derived.Maps.OwnSet
import Derived.Maps.RangeWalk
namespace Go.Proofs.YtcdehklcdipcfaaGreat.base
open Go.RowKit Go.Maps Go.ChangeMaps Go.MapKept
set_option linter.unusedVariables false

/-- block b is a map whose entries are, in some order, kv -/
def MapOf (P : Program) (k : TypeId) (w : World) (b : Nat) (kv : List (Value × Value)) : Prop :=
  ∃ es clock, w.heap[b]? = some (.map es clock) ∧ Stamped es clock ∧ (∀ e ∈ es.toList, ∃ l, keyOf P k e.key = some l) ∧ (es.toList.map fun e => (e.key, e.val)).Perm kv

section
variable {P : Program} {k e t : TypeId} {w w' : World} {b : Nat} {kv : List (Value × Value)}

theorem MapOf.inside (h : MapOf P k w b kv) : b < w.heap.size := by
  obtain ⟨es, clock, hb, _⟩ := h
  exact (Array.getElem?_eq_some_iff.1 hb).1
theorem MapOf.old (h : MapOf P k w b kv) (hk : w'.heap[b]? = w.heap[b]?) : MapOf P k w' b kv := by
  obtain ⟨es, clock, hb, r⟩ := h
  exact ⟨es, clock, hk.trans hb, r⟩
theorem MapOf.made (P : Program) (k : TypeId) (w : World) : MapOf P k (w.alloc (.map #[] 0)) w.heap.size [] :=
  ⟨#[], 0, (MapKept.heap_alloc w _).1, stamped_empty 0, by simp, by simp⟩
theorem MapOf.perm {kv' : List (Value × Value)} (h : MapOf P k w b kv) (hp : kv.Perm kv') : MapOf P k w b kv' := by
  obtain ⟨es, clock, hb, hs, hk, hq⟩ := h
  exact ⟨es, clock, hb, hs, hk, hq.trans hp⟩
theorem MapOf.apart (h : MapOf P k w b kv) : kv.Pairwise (fun p q => p.1 ≠ q.1) := by
  obtain ⟨es, clock, hb, hs, hk, hq⟩ := h
  refine (hq.pairwise_iff (fun {a b} (h : a.1 ≠ b.1) => h.symm)).1 ?_
  rw [List.pairwise_map]
  exact ((stamped_iff es clock).1 hs).2.2
theorem MapOf.keyed (h : MapOf P k w b kv) : ∀ p ∈ kv, ∃ l, keyOf P k p.1 = some l := by
  obtain ⟨es, clock, hb, hs, hk, hq⟩ := h
  intro p hp
  obtain ⟨x, hx, rfl⟩ := List.mem_map.1 (hq.mem_iff.2 hp)
  exact hk x hx
/-- not a row of cells -/
theorem MapOf.ne_cells (h : MapOf P k w b kv) {g : Nat} {c : Array Value} {te : TypeId} {fr : Nat × Nat} (hg : w.heap[g]? = some (.cells c te fr)) : b ≠ g := by
  rintro rfl
  obtain ⟨es, clock, hb, _⟩ := h
  rw [hb] at hg
  cases hg

theorem set_same {α : Type} {l : List α} {j : Nat} {x : α} (h : l[j]? = some x) : l.set j x = l := by
  obtain ⟨hj, rfl⟩ := List.getElem?_eq_some_iff.1 h
  exact List.set_getElem_self hj
theorem uniq {kv : List (Value × Value)} (hd : kv.Pairwise (fun p q => p.1 ≠ q.1)) {key v v' : Value} (h : (key, v) ∈ kv) (h' : (key, v') ∈ kv) : v = v' := by
  induction hd with
  | nil => cases h
  | cons hx _ ih =>
    rcases List.mem_cons.1 h with rfl | h1
    · rcases List.mem_cons.1 h' with h2 | h2
      · exact (Prod.mk.inj h2).2.symm
      · exact absurd rfl (hx (key, v') h2)
    · rcases List.mem_cons.1 h' with rfl | h2
      · exact absurd rfl (hx (key, v) h1)
      · exact ih h1 h2

theorem MapOf.look_hit (h : MapOf P k w b kv) (K : Keyed P k) (ht : P.underlying t = some (.map k e)) {key v : Value} {kl : Lit} (hkey : keyOf P k key = some kl) (hv : (key, v) ∈ kv) (c : Bool) :
    (Instr.lookup t (.map (some b)) key c).run P w = .ok (if c then .tuple #[v, .bool true] else v) w := by
  have hd := h.apart
  obtain ⟨es, clock, hb, hs, hk, hq⟩ := h
  rcases K.find w hkey es.toList hk with ⟨h1, h2⟩ | ⟨j, e0, h1, h2, h3⟩
  · obtain ⟨x, hx, hxe⟩ := List.mem_map.1 (hq.mem_iff.2 hv)
    exact absurd (Prod.mk.inj hxe).1 (h2 x hx)
  · have hm : (key, e0.val) ∈ kv := hq.mem_iff.1 (List.mem_map.2 ⟨e0, List.mem_of_getElem? h2, by rw [h3]⟩)
    have := uniq hd hm hv
    subst this
    simp [Instr.lookup, run_underlying ht, MapKept.run_getObj_map hb, K.check w _ hkey, h1, Result.andThen]

theorem MapOf.look_miss (h : MapOf P k w b kv) (K : Keyed P k) (ht : P.underlying t = some (.map k e)) {z : Value} (hz : (zeroValue e).run P w = .ok z w) {key : Value} {kl : Lit} (hkey : keyOf P k key = some kl) (hv : ∀ p ∈ kv, p.1 ≠ key) (c : Bool) :
    (Instr.lookup t (.map (some b)) key c).run P w = .ok (if c then .tuple #[z, .bool false] else z) w := by
  obtain ⟨es, clock, hb, hs, hk, hq⟩ := h
  rcases K.find w hkey es.toList hk with ⟨h1, h2⟩ | ⟨j, e0, h1, h2, h3⟩
  · simp [Instr.lookup, run_underlying ht, MapKept.run_getObj_map hb, K.check w _ hkey, h1, hz, Result.andThen]
  · exact absurd h3 (hv _ (hq.mem_iff.1 (List.mem_map.2 ⟨e0, List.mem_of_getElem? h2, rfl⟩)))

theorem But.setBlock_map {es es' : Array MapEntry} {clock clock' : Nat} (hb : w.heap[b]? = some (.map es clock)) : But b w (setBlock w b (.map es' clock')) :=
  World.mapTurned.grown ⟨es, clock, es', clock', hb, rfl⟩

theorem MapOf.put_new (h : MapOf P k w b kv) (K : Keyed P k) (ht : P.underlying t = some (.map k e)) {key : Value} {kl : Lit} (hkey : keyOf P k key = some kl) (hv : ∀ p ∈ kv, p.1 ≠ key) (val : Value) :
    ∃ w', (Instr.mapUpdate t (.map (some b)) key val).run P w = .ok () w' ∧ MapOf P k w' b ((key, val) :: kv) ∧ But b w w' := by
  obtain ⟨es, clock, hb, hs, hk, hq⟩ := h
  rcases K.find w hkey es.toList hk with ⟨h1, h2⟩ | ⟨j, e0, h1, h2, h3⟩
  · refine ⟨setBlock w b (.map (es.push ⟨key, val, clock⟩) (clock + 1)), ?_, ⟨_, _, heap_setBlock_same hb _, stamped_push hs h2, ?_, ?_⟩, But.setBlock_map hb⟩
    · simp [Instr.mapUpdate, run_underlying ht, MapKept.run_getObj_map hb, K.check w false hkey, h1, MapKept.run_setObj_map _ hb, Result.andThen, setBlock]
    · intro x hx
      simp only [Array.toList_push, List.mem_append, List.mem_singleton] at hx
      rcases hx with hx | rfl
      · exact hk x hx
      · exact ⟨kl, hkey⟩
    · simp only [Array.toList_push, List.map_append, List.map_cons, List.map_nil]
      exact (List.perm_append_singleton _ _).trans (hq.cons _)
  · exact absurd h3 (hv _ (hq.mem_iff.1 (List.mem_map.2 ⟨e0, List.mem_of_getElem? h2, rfl⟩)))

theorem MapOf.put_old (h : MapOf P k w b kv) (K : Keyed P k) (ht : P.underlying t = some (.map k e)) {key v0 : Value} {kl : Lit} {rest : List (Value × Value)} (hkey : keyOf P k key = some kl) (hp : kv.Perm ((key, v0) :: rest)) (val : Value) :
    ∃ w', (Instr.mapUpdate t (.map (some b)) key val).run P w = .ok () w' ∧ MapOf P k w' b ((key, val) :: rest) ∧ But b w w' := by
  have hd := h.apart
  obtain ⟨es, clock, hb, hs, hk, hq⟩ := h
  rcases K.find w hkey es.toList hk with ⟨h1, h2⟩ | ⟨j, e0, h1, h2, h3⟩
  · obtain ⟨x, hx, hxe⟩ := List.mem_map.1 (hq.mem_iff.2 (hp.mem_iff.2 (List.mem_cons_self ..)))
    exact absurd (Prod.mk.inj hxe).1 (h2 x hx)
  · have hj : es[j]? = some e0 := by simpa using h2
    have hjl : j < es.toList.length := (List.getElem?_eq_some_iff.1 h2).1
    have hv : e0.val = v0 := uniq hd (key := key) (hq.mem_iff.1 (List.mem_map.2 ⟨e0, List.mem_of_getElem? h2, by rw [h3]⟩)) (hp.mem_iff.2 (List.mem_cons_self ..))
    have hkeyf : ∀ e', es[j]? = some e' → ({ e' with key := key, val := val } : MapEntry).key = e'.key := fun e' he' => by rw [hj] at he'; cases he'; exact h3.symm
    have hlist : (es.modify j (fun e' => { e' with key := key, val := val })).toList = es.toList.set j { e0 with key := key, val := val } := by rw [Array.toList_modify, modify_eq_set _ _ _ _ h2]
    refine ⟨setBlock w b (.map (es.modify j (fun e' => { e' with key := key, val := val })) clock), ?_, ⟨_, _, heap_setBlock_same hb _, stamped_modify hs _ _ (fun _ _ => rfl) (fun e' _ he' => hkeyf e' he'), ?_, ?_⟩, But.setBlock_map hb⟩
    · simp [Instr.mapUpdate, run_underlying ht, MapKept.run_getObj_map hb, K.check w false hkey, h1, hj, h3, K.stays w hkey, MapKept.run_setObj_map _ hb, Result.andThen, setBlock]
    · intro x hx
      rw [hlist] at hx
      rcases List.mem_or_eq_of_mem_set hx with hx | rfl
      · exact hk x hx
      · exact ⟨kl, hkey⟩
    · rw [hlist, List.map_set]
      have hl2 : j < (es.toList.map fun e => (e.key, e.val)).length := by simpa using hjl
      refine (set_perm _ j hl2 _).trans ((?_ : List.Perm _ _).cons _)
      have h4 : (es.toList.map fun e => (e.key, e.val))[j]? = some (key, v0) := by rw [List.getElem?_map, h2, ← hv, ← h3]; rfl
      have h5 := set_perm (es.toList.map fun e => (e.key, e.val)) j hl2 (key, v0)
      rw [set_same h4] at h5
      exact (List.Perm.cons_inv ((h5.symm.trans hq).trans hp))

theorem MapOf.drop_hit (h : MapOf P k w b kv) (K : Keyed P k) (ht : P.underlying t = some (.map k e)) {key v0 : Value} {kl : Lit} {rest : List (Value × Value)} (hkey : keyOf P k key = some kl) (hp : kv.Perm ((key, v0) :: rest)) (ty : TypeId) :
    ∃ w', (Builtin.delete_ #[t, k] ty #[.map (some b), key]).run P w = .ok (.tuple #[]) w' ∧ MapOf P k w' b rest ∧ But b w w' := by
  have hd := h.apart
  obtain ⟨es, clock, hb, hs, hk, hq⟩ := h
  rcases K.find w hkey es.toList hk with ⟨h1, h2⟩ | ⟨j, e0, h1, h2, h3⟩
  · obtain ⟨x, hx, hxe⟩ := List.mem_map.1 (hq.mem_iff.2 (hp.mem_iff.2 (List.mem_cons_self ..)))
    exact absurd (Prod.mk.inj hxe).1 (h2 x hx)
  · have hjl : j < es.toList.length := (List.getElem?_eq_some_iff.1 h2).1
    have hjs : j < es.size := by simpa using hjl
    have hv : e0.val = v0 := uniq hd (key := key) (hq.mem_iff.1 (List.mem_map.2 ⟨e0, List.mem_of_getElem? h2, by rw [h3]⟩)) (hp.mem_iff.2 (List.mem_cons_self ..))
    have hsub : (es.eraseIdxIfInBounds j).toList = es.toList.eraseIdx j := by
      unfold Array.eraseIdxIfInBounds
      rw [dif_pos hjs]
      simp
    refine ⟨setBlock w b (.map (es.eraseIdxIfInBounds j) clock), ?_, ⟨_, _, heap_setBlock_same hb _, stamped_erase hs j, ?_, ?_⟩, But.setBlock_map hb⟩
    · simp [Builtin.delete_, run_underlying ht, MapKept.run_getObj_map hb, K.check w _ hkey, h1, MapKept.run_setObj_map _ hb, Result.andThen, setBlock]
    · intro x hx
      rw [hsub] at hx
      exact hk x ((List.eraseIdx_sublist _ _).subset hx)
    · rw [hsub, ChangeMaps.map_eraseIdx]
      have hl2 : j < (es.toList.map fun e => (e.key, e.val)).length := by simpa using hjl
      have h4 : (es.toList.map fun e => (e.key, e.val))[j]? = some (key, v0) := by rw [List.getElem?_map, h2, ← hv, ← h3]; rfl
      have h5 := set_perm (es.toList.map fun e => (e.key, e.val)) j hl2 (key, v0)
      rw [set_same h4] at h5
      exact (List.Perm.cons_inv ((h5.symm.trans hq).trans hp))

theorem MapOf.drop_miss (h : MapOf P k w b kv) (K : Keyed P k) (ht : P.underlying t = some (.map k e)) {key : Value} {kl : Lit} (hkey : keyOf P k key = some kl) (hv : ∀ p ∈ kv, p.1 ≠ key) (ty : TypeId) :
    ∃ w', (Builtin.delete_ #[t, k] ty #[.map (some b), key]).run P w = .ok (.tuple #[]) w' ∧ MapOf P k w' b kv ∧ But b w w' := by
  obtain ⟨es, clock, hb, hs, hk, hq⟩ := h
  rcases K.find w hkey es.toList hk with ⟨h1, h2⟩ | ⟨j, e0, h1, h2, h3⟩
  · refine ⟨setBlock w b (.map es clock), ?_, ⟨_, _, heap_setBlock_same hb _, hs, hk, hq⟩, But.setBlock_map hb⟩
    simp [Builtin.delete_, run_underlying ht, MapKept.run_getObj_map hb, K.check w _ hkey, h1, MapKept.run_setObj_map _ hb, Result.andThen, setBlock]
  · exact absurd h3 (hv _ (hq.mem_iff.1 (List.mem_map.2 ⟨e0, List.mem_of_getElem? h2, rfl⟩)))

theorem MapOf.len (h : MapOf P k w b kv) (ht : P.underlying t = some (.map k e)) (ty : TypeId) : (Builtin.len_ #[t] ty #[.map (some b)]).run P w = .ok (.int .i64 (kv.length : Nat)) w := by
  obtain ⟨es, clock, hb, hs, hk, hq⟩ := h
  have : es.size = kv.length := by have := hq.length_eq; simpa using this
  rw [← this]
  simp [Builtin.len_, run_underlying ht, MapKept.run_getObj_map hb, goInt, Result.andThen]

/-- the map in block b, on the way through it by the iterator in block r: 'left' are still to come -/
def RangeOf (P : Program) (k : TypeId) (w : World) (b r : Nat) (kv left : List (Value × Value)) : Prop :=
  ∃ es clock since seen c0, w.heap[b]? = some (.map es clock) ∧ Stamped es clock ∧ (∀ e ∈ es.toList, ∃ l, keyOf P k e.key = some l) ∧ (es.toList.map fun e => (e.key, e.val)).Perm kv ∧
    w.heap[r]? = some (.mapIter (some b) since seen c0) ∧ (∀ x ∈ es.toList, x.born < since) ∧ since ≤ c0 ∧ since ≤ clock ∧ ((leftOf es seen).toList.map fun e => (e.key, e.val)).Perm left

theorem RangeOf.map {r : Nat} {left : List (Value × Value)} (h : RangeOf P k w b r kv left) : MapOf P k w b kv := by
  obtain ⟨es, clock, since, seen, c0, hb, hs, hk, hq, _⟩ := h
  exact ⟨es, clock, hb, hs, hk, hq⟩
theorem RangeOf.iter {r : Nat} {left : List (Value × Value)} (h : RangeOf P k w b r kv left) : r < w.heap.size := by
  obtain ⟨es, clock, since, seen, c0, hb, hs, hk, hq, hr, _⟩ := h
  exact (Array.getElem?_eq_some_iff.1 hr).1
theorem RangeOf.ne {r : Nat} {left : List (Value × Value)} (h : RangeOf P k w b r kv left) : r ≠ b := by
  obtain ⟨es, clock, since, seen, c0, hb, hs, hk, hq, hr, _⟩ := h
  rintro rfl
  rw [hb] at hr
  cases hr
theorem RangeOf.old {r : Nat} {left : List (Value × Value)} (h : RangeOf P k w b r kv left) (h1 : w'.heap[b]? = w.heap[b]?) (h2 : w'.heap[r]? = w.heap[r]?) : RangeOf P k w' b r kv left := by
  obtain ⟨es, clock, since, seen, c0, hb, hs, hk, hq, hr, x⟩ := h
  exact ⟨es, clock, since, seen, c0, h1.trans hb, hs, hk, hq, h2.trans hr, x⟩
theorem RangeOf.fresh {r : Nat} {left : List (Value × Value)} (h : RangeOf P k w b r kv left) (hf : Fresh w w') : RangeOf P k w' b r kv left :=
  h.old (hf.block _ h.map.inside) (hf.block _ h.iter)
theorem RangeOf.sub {r : Nat} {left : List (Value × Value)} (h : RangeOf P k w b r kv left) : ∀ p ∈ left, p ∈ kv := by
  obtain ⟨es, clock, since, seen, c0, hb, hs, hk, hq, hr, h1, h2, h3, h4⟩ := h
  intro p hp
  obtain ⟨x, hx, rfl⟩ := List.mem_map.1 (h4.mem_iff.2 hp)
  exact hq.mem_iff.1 (List.mem_map.2 ⟨x, by simp [leftOf] at hx ⊢; exact hx.1, rfl⟩)


theorem MapOf.range (h : MapOf P k w b kv) (ht : P.underlying t = some (.map k e)) :
    ∃ w', (Instr.range t (.map (some b))).run P w = .ok (.pointer (some ⟨w.heap.size, 0, none⟩)) w' ∧ RangeOf P k w' b w.heap.size kv kv ∧ Fresh w w' ∧ w'.heap.size = w.heap.size + 1 := by
  have hlt := h.inside
  obtain ⟨es, clock, hb, hs, hk, hq⟩ := h
  refine ⟨_, run_range_map w t k e b es clock ht hb, ⟨es, clock, clock, #[], clock, ((MapKept.heap_alloc w _).2 b hlt).trans hb, hs, hk, hq, (MapKept.heap_alloc w _).1, ((stamped_iff es clock).1 hs).1, Nat.le_refl _, Nat.le_refl _, ?_⟩, Fresh.alloc _ _, by simp⟩
  have : leftOf es #[] = es := by unfold leftOf; exact Array.filter_eq_self.2 (fun x _ => by simp)
  rw [this]
  exact hq

theorem left_step {es : Array MapEntry} {seen : Array Nat} {e : MapEntry} (hn : (es.toList.map (·.born)).Nodup) (he : e ∈ (leftOf es seen).toList) :
    (leftOf es seen).toList.Perm (e :: (leftOf es (seen.push e.born)).toList) := by
  have h1 : ∀ (l : List MapEntry), (l.map (·.born)).Nodup → e ∈ l → l.Perm (e :: l.filter (fun x => !(x.born == e.born))) := by
    intro l
    induction l with
    | nil => intro _ h; cases h
    | cons y r ih =>
      intro hn he
      rw [List.map_cons, List.nodup_cons] at hn
      rcases List.mem_cons.1 he with rfl | he
      · rw [List.filter_cons_of_neg (by simp)]
        refine List.Perm.cons _ (List.Perm.of_eq ?_)
        refine (List.filter_eq_self.2 fun x hx => ?_).symm
        have : x.born ≠ e.born := fun h => hn.1 (h ▸ List.mem_map.2 ⟨x, hx, rfl⟩)
        simpa using this
      · have : y.born ≠ e.born := fun h => hn.1 (h ▸ List.mem_map.2 ⟨e, he, rfl⟩)
        rw [List.filter_cons_of_pos (by simpa using this)]
        exact ((ih hn.2 he).cons y).trans (List.Perm.swap _ _ _)
  have h2 : (leftOf es (seen.push e.born)).toList = (leftOf es seen).toList.filter (fun x => !(x.born == e.born)) := by
    simp only [leftOf, Array.toList_filter, List.filter_filter]
    refine List.filter_congr fun x _ => ?_
    rw [contains_push]
    cases seen.contains x.born <;> cases (x.born == e.born) <;> rfl
  rw [h2]
  refine h1 _ ?_ he
  simp only [leftOf, Array.toList_filter]
  exact (List.filter_sublist.map _).nodup hn

theorem RangeOf.next {r : Nat} {left : List (Value × Value)} (h : RangeOf P k w b r kv left) (ty : TypeId) :
    (left = [] ∧ (Instr.next (.pointer (some ⟨r, 0, none⟩)) false ty).run P w = .ok (.tuple #[.bool false]) w) ∨
    ∃ key v left' w', left.Perm ((key, v) :: left') ∧ (Instr.next (.pointer (some ⟨r, 0, none⟩)) false ty).run P w = .ok (.tuple #[.bool true, key, v]) w' ∧ RangeOf P k w' b r kv left' ∧ But r w w' ∧ w'.heap.size = w.heap.size ∧
      (Instr.entry (.pointer (some ⟨r, 0, none⟩))).run P w' = .ok (.tuple #[key, v]) w' := by
  have hne := h.ne
  obtain ⟨es, clock, since, seen, c0, hb, hs, hk, hq, hr, hold, hsc, hsk, hl⟩ := h
  rcases run_next_at (P := P) w ty r b since c0 seen es clock hr hb hold hsc with ⟨h0, hrun⟩ | ⟨x, hx, w1, hal, hrun⟩
  · left
    have : leftOf es seen = #[] := Array.eq_empty_of_size_eq_zero h0
    rw [this] at hl
    exact ⟨hl.symm.eq_nil, hrun⟩
  · right
    have hem : x ∈ es.toList := (mem_left hx).1
    have hr1 : w1.heap[r]? = some (.mapIter (some b) since seen c0) := by rcases hal with rfl | rfl <;> exact hr
    have hb1 : w1.heap[b]? = some (.map es clock) := by rcases hal with rfl | rfl <;> exact hb
    have hset := heap_set (o' := .mapIter (some b) since (seen.push x.born) clock) hr1
    have hb' : (setBlock w1 r (.mapIter (some b) since (seen.push x.born) clock)).heap[b]? = some (.map es clock) := (hset.2 b (fun e1 => hne e1.symm)).trans hb1
    have hnd := ((stamped_iff es clock).1 hs).2.1
    refine ⟨x.key, x.val, (leftOf es (seen.push x.born)).toList.map fun e => (e.key, e.val), _, hl.symm.trans (by have := (left_step hnd hx).map (fun e => (e.key, e.val)); simpa using this), hrun,
      ⟨es, clock, since, _, clock, hb', hs, hk, hq, hset.1, hold, hsk, hsk, List.Perm.refl _⟩, ?_, ?_, run_entry_at _ r b since seen es clock x hset.1 hb' hem hnd⟩
    · rcases hal with rfl | rfl <;> exact ⟨rfl, rfl, rfl, by simp [setBlock], fun i _ hi => hset.2 i (fun e1 => hi (by rw [e1]))⟩
    · rcases hal with rfl | rfl <;> simp [setBlock]
end

/-! at the operation, for the walk -/
section
variable {P : Program} (w : World) {ops : Array Oper} {rest : List Oper} {o : Oper} {a : Act} {Q : Exit → Act → World → Prop}

theorem wpList_look_hit (hg : o.guard = none) (m x : Operand) (t : TypeId) (hop : o.op = Op.lookup t m x false) (k e : TypeId) (K : Keyed P k) (ht : P.underlying t = some (.map k e)) (b : Nat) (kv : List (Value × Value))
    (hm : a.eval m = .map (some b)) (h : MapOf P k w b kv) (key v : Value) (kl : Lit) (hx : a.eval x = key) (hkey : keyOf P k key = some kl) (hv : (key, v) ∈ kv) (hK : wpList P ops Q rest (a.put o.dst v) w) : wpList P ops Q (o :: rest) a w := by
  refine wpList_plain hg fun K' hK' => ?_
  have hrun := h.look_hit K ht hkey hv false
  unfold Oper.wp
  simp [execOp, hop, hm, hx, hrun, Result.andThen]
  exact hK' _ _ hK
theorem wpList_look_miss (hg : o.guard = none) (m x : Operand) (t : TypeId) (hop : o.op = Op.lookup t m x false) (k e : TypeId) (K : Keyed P k) (ht : P.underlying t = some (.map k e)) (z : Value) (hz : (zeroValue e).run P w = .ok z w) (b : Nat) (kv : List (Value × Value))
    (hm : a.eval m = .map (some b)) (h : MapOf P k w b kv) (key : Value) (kl : Lit) (hx : a.eval x = key) (hkey : keyOf P k key = some kl) (hv : ∀ p ∈ kv, p.1 ≠ key) (hK : wpList P ops Q rest (a.put o.dst z) w) : wpList P ops Q (o :: rest) a w := by
  refine wpList_plain hg fun K' hK' => ?_
  have hrun := h.look_miss K ht hz hkey hv false
  unfold Oper.wp
  simp [execOp, hop, hm, hx, hrun, Result.andThen]
  exact hK' _ _ hK
theorem wpList_look_hit_ok (hg : o.guard = none) (m x : Operand) (t : TypeId) (hop : o.op = Op.lookup t m x true) (k e : TypeId) (K : Keyed P k) (ht : P.underlying t = some (.map k e)) (b : Nat) (kv : List (Value × Value))
    (hm : a.eval m = .map (some b)) (h : MapOf P k w b kv) (key v : Value) (kl : Lit) (hx : a.eval x = key) (hkey : keyOf P k key = some kl) (hv : (key, v) ∈ kv) (hK : wpList P ops Q rest (a.put o.dst (.tuple #[v, .bool true])) w) : wpList P ops Q (o :: rest) a w := by
  refine wpList_plain hg fun K' hK' => ?_
  have hrun := h.look_hit K ht hkey hv true
  unfold Oper.wp
  simp [execOp, hop, hm, hx, hrun, Result.andThen]
  exact hK' _ _ hK
theorem wpList_look_miss_ok (hg : o.guard = none) (m x : Operand) (t : TypeId) (hop : o.op = Op.lookup t m x true) (k e : TypeId) (K : Keyed P k) (ht : P.underlying t = some (.map k e)) (z : Value) (hz : (zeroValue e).run P w = .ok z w) (b : Nat) (kv : List (Value × Value))
    (hm : a.eval m = .map (some b)) (h : MapOf P k w b kv) (key : Value) (kl : Lit) (hx : a.eval x = key) (hkey : keyOf P k key = some kl) (hv : ∀ p ∈ kv, p.1 ≠ key) (hK : wpList P ops Q rest (a.put o.dst (.tuple #[z, .bool false])) w) : wpList P ops Q (o :: rest) a w := by
  refine wpList_plain hg fun K' hK' => ?_
  have hrun := h.look_miss K ht hz hkey hv true
  unfold Oper.wp
  simp [execOp, hop, hm, hx, hrun, Result.andThen]
  exact hK' _ _ hK
theorem wpList_put_new (hg : o.guard = none) (m x y : Operand) (t : TypeId) (hop : o.op = Op.mapUpdate t m x y) (k e : TypeId) (K : Keyed P k) (ht : P.underlying t = some (.map k e)) (b : Nat) (kv : List (Value × Value))
    (hm : a.eval m = .map (some b)) (h : MapOf P k w b kv) (key val : Value) (kl : Lit) (hx : a.eval x = key) (hy : a.eval y = val) (hkey : keyOf P k key = some kl) (hv : ∀ p ∈ kv, p.1 ≠ key)
    (hK : ∀ w', MapOf P k w' b ((key, val) :: kv) → But b w w' → wpList P ops Q rest (a.put o.dst undef) w') : wpList P ops Q (o :: rest) a w := by
  refine wpList_plain hg fun K' hK' => ?_
  obtain ⟨w', hrun, h1, h2⟩ := h.put_new K ht hkey hv val
  unfold Oper.wp
  simp [execOp, hop, hm, hx, hy, hrun, Result.andThen]
  exact hK' _ _ (hK w' h1 h2)
theorem wpList_put_old (hg : o.guard = none) (m x y : Operand) (t : TypeId) (hop : o.op = Op.mapUpdate t m x y) (k e : TypeId) (K : Keyed P k) (ht : P.underlying t = some (.map k e)) (b : Nat) (kv rest' : List (Value × Value)) (v0 : Value)
    (hm : a.eval m = .map (some b)) (h : MapOf P k w b kv) (key val : Value) (kl : Lit) (hx : a.eval x = key) (hy : a.eval y = val) (hkey : keyOf P k key = some kl) (hp : kv.Perm ((key, v0) :: rest'))
    (hK : ∀ w', MapOf P k w' b ((key, val) :: rest') → But b w w' → wpList P ops Q rest (a.put o.dst undef) w') : wpList P ops Q (o :: rest) a w := by
  refine wpList_plain hg fun K' hK' => ?_
  obtain ⟨w', hrun, h1, h2⟩ := h.put_old K ht hkey hp val
  unfold Oper.wp
  simp [execOp, hop, hm, hx, hy, hrun, Result.andThen]
  exact hK' _ _ (hK w' h1 h2)
theorem wpList_drop_hit (hg : o.guard = none) (m x : Operand) (t k : TypeId) (hop : o.op = Op.call { callee := Callee.builtin Builtin.delete, args := #[m, x], argTypes := #[t, k] }) (e : TypeId) (K : Keyed P k) (ht : P.underlying t = some (.map k e)) (b : Nat) (kv rest' : List (Value × Value)) (v0 : Value)
    (hm : a.eval m = .map (some b)) (h : MapOf P k w b kv) (key : Value) (kl : Lit) (hx : a.eval x = key) (hkey : keyOf P k key = some kl) (hp : kv.Perm ((key, v0) :: rest'))
    (hK : ∀ w', MapOf P k w' b rest' → But b w w' → wpList P ops Q rest (a.put o.dst (.tuple #[])) w') : wpList P ops Q (o :: rest) a w := by
  refine wpList_plain hg fun K' hK' => ?_
  obtain ⟨w', hrun, h1, h2⟩ := h.drop_hit K ht hkey hp o.type
  unfold Oper.wp
  simp [execOp, hop, resolve, invoke, builtin, hm, hx, hrun, Result.andThen]
  exact hK' _ _ (hK w' h1 h2)
theorem wpList_drop_miss (hg : o.guard = none) (m x : Operand) (t k : TypeId) (hop : o.op = Op.call { callee := Callee.builtin Builtin.delete, args := #[m, x], argTypes := #[t, k] }) (e : TypeId) (K : Keyed P k) (ht : P.underlying t = some (.map k e)) (b : Nat) (kv : List (Value × Value))
    (hm : a.eval m = .map (some b)) (h : MapOf P k w b kv) (key : Value) (kl : Lit) (hx : a.eval x = key) (hkey : keyOf P k key = some kl) (hv : ∀ p ∈ kv, p.1 ≠ key)
    (hK : ∀ w', MapOf P k w' b kv → But b w w' → wpList P ops Q rest (a.put o.dst (.tuple #[])) w') : wpList P ops Q (o :: rest) a w := by
  refine wpList_plain hg fun K' hK' => ?_
  obtain ⟨w', hrun, h1, h2⟩ := h.drop_miss K ht hkey hv o.type
  unfold Oper.wp
  simp [execOp, hop, resolve, invoke, builtin, hm, hx, hrun, Result.andThen]
  exact hK' _ _ (hK w' h1 h2)
theorem wpList_map_len (hg : o.guard = none) (m : Operand) (t : TypeId) (hop : o.op = Op.call { callee := Callee.builtin Builtin.len, args := #[m], argTypes := #[t] }) (k e : TypeId) (ht : P.underlying t = some (.map k e)) (b : Nat) (kv : List (Value × Value))
    (hm : a.eval m = .map (some b)) (h : MapOf P k w b kv) (hK : wpList P ops Q rest (a.put o.dst (.int .i64 (kv.length : Nat))) w) : wpList P ops Q (o :: rest) a w := by
  refine wpList_plain hg fun K' hK' => ?_
  unfold Oper.wp
  simp [execOp, hop, resolve, invoke, builtin, hm, h.len ht o.type, Result.andThen]
  exact hK' _ _ hK
theorem wpList_map_range (hg : o.guard = none) (m : Operand) (t : TypeId) (hop : o.op = Op.range t m) (k e : TypeId) (ht : P.underlying t = some (.map k e)) (b : Nat) (kv : List (Value × Value)) (hm : a.eval m = .map (some b)) (h : MapOf P k w b kv)
    (r : Nat) (hr : w.heap.size = r) (hK : ∀ w', RangeOf P k w' b r kv kv → Fresh w w' → w'.heap.size = w.heap.size + 1 → wpList P ops Q rest (a.put o.dst (.pointer (some ⟨r, 0, none⟩))) w') : wpList P ops Q (o :: rest) a w := by
  refine wpList_plain hg fun K' hK' => ?_
  subst hr
  obtain ⟨w', hrun, h1, h2, h3⟩ := h.range ht
  unfold Oper.wp
  simp [execOp, hop, hm, hrun, Result.andThen]
  exact hK' _ _ (hK w' h1 h2 h3)
theorem wpList_map_next (hg : o.guard = none) (it : Operand) (hop : o.op = Op.next it false) (k : TypeId) (b r : Nat) (kv left : List (Value × Value)) (hit : a.eval it = .pointer (some ⟨r, 0, none⟩)) (h : RangeOf P k w b r kv left)
    (hDone : left = [] → wpList P ops Q rest (a.put o.dst (.tuple #[.bool false])) w)
    (hMore : ∀ key v left' w', left.Perm ((key, v) :: left') → RangeOf P k w' b r kv left' → But r w w' → w'.heap.size = w.heap.size → (Instr.entry (.pointer (some ⟨r, 0, none⟩))).run P w' = .ok (.tuple #[key, v]) w' →
      wpList P ops Q rest (a.put o.dst (.tuple #[.bool true, key, v])) w') : wpList P ops Q (o :: rest) a w := by
  refine wpList_plain hg fun K' hK' => ?_
  unfold Oper.wp
  rcases h.next o.type with ⟨h0, hrun⟩ | ⟨key, v, left', w', hp, hrun, h1, h2, h3, h4⟩
  · simp [execOp, hop, hit, hrun, Result.andThen]
    exact hK' _ _ (hDone h0)
  · simp [execOp, hop, hit, hrun, Result.andThen]
    exact hK' _ _ (hMore key v left' w' hp h1 h2 h3 h4)
end
end Go.Proofs.YtcdehklcdipcfaaGreat.base
