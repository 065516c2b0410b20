/-
  Layer 14: the states in memory, while they are made. My own text.
-/
import Derived.Test.YtgbffkneidnmfaaAhoSt
import Derived.Test.YtgbffkneidnmfaaStore
namespace Go.Proofs.Ytgbffkneidnmfaa.ahop
open Go.RowKit Go.Maps Go.Proofs.Ytgbffkneidnmfaa.base Go.Proofs.Ytgbffkneidnmfaa.aho
set_option linter.unusedVariables false

theorem flat_set {α : Type} {f : α → List Value} {k : Nat} (hk : ∀ a, (f a).length = k) : ∀ (l : List α) (i : Nat) (s s' : α) (j : Nat) (v : Value), l[i]? = some s → j < k → f s' = (f s).set j v → (l.set i s').flatMap f = (l.flatMap f).set (i * k + j) v
  | [], i, s, s', j, v, h, _, _ => by simp at h
  | a :: r, 0, s, s', j, v, h, hj, he => by
    simp only [List.getElem?_cons_zero, Option.some.injEq] at h
    subst h
    rw [List.set_cons_zero, List.flatMap_cons, List.flatMap_cons, he, Nat.zero_mul, Nat.zero_add, List.set_append_left _ _ (by rw [hk]; exact hj)]
  | a :: r, i + 1, s, s', j, v, h, hj, he => by
    rw [List.getElem?_cons_succ] at h
    have e : (i + 1) * k + j - k = i * k + j := by rw [Nat.add_mul]; omega
    rw [List.set_cons_succ, List.flatMap_cons, List.flatMap_cons, flat_set hk r i s s' j v h hj he, List.set_append_right _ _ (by rw [hk, Nat.add_mul]; omega), hk, e]
section
variable {α : Type} {w w' : World} {base n c k : Nat} {e : TypeId} {A : Option Addr} {f : α → List Value} {l : List α}
/-- one cell of an element is set -/
theorem ownK_put {g : Nat} (h : OwnK w base e k A n c f l) (hk : ∀ a, (f a).length = k) (hA : A = some ⟨g, 0, none⟩) {i j : Nat} {s s' : α} {v : Value} (hs : l[i]? = some s) (hj : j < k) (he : f s' = (f s).set j v) (h0 : 0 < n) :
    OwnK (w.setCell ⟨g, i * k + j, none⟩ v) base e k A n c f (l.set i s') := by
  refine ⟨by rw [flat_len hk, List.length_set]; rw [← h.1, flat_len hk], ?_⟩
  rcases h.2 with ⟨_, hn⟩ | ⟨g', cap, cur, hv, hb, hg, h1, h2, h3, h4⟩
  · omega
  · rw [hA] at hv
    injection hv with hA' hn' hc'
    injection hA' with hA'
    injection hA' with hg'
    subst hg'
    refine .inr ⟨g, cap, cur.setIfInBounds (i * k + j) v, by rw [hA, hc'], hb, ?_, h1, h2, by simpa using h3, ?_⟩
    · simp [World.setCell, Array.getElem?_modify, hg]
    · rw [Array.toList_setIfInBounds, List.take_set, h4, flat_set hk l i s s' j v hs hj he]
theorem ownK_wr {g : Nat} (h : OwnK w base e k A n c f l) (hA : A = some ⟨g, 0, none⟩) (o : Nat) : w.frozen? ⟨g, o, none⟩ = false := by
  rcases h.2 with ⟨hv, _⟩ | ⟨g', cap, cur, hv, hb, hg, _⟩
  · rw [hA] at hv; cases hv
  · rw [hA] at hv
    injection hv with hA' _ _
    injection hA' with hA'
    injection hA' with hg'
    subst hg'
    simp [World.frozen?, hg]
end
/-- where a state's ends lie -/
def blk (s : Sv) : Option Nat := (Value.slice s.ea s.ends.length s.ec).ownBlock
/-- the states, being made -/
structure Bd (w : World) (base : Nat) (A : Option Addr) (n c : Nat) (T : List Sv) : Prop where
  row : OwnK w base tState 3 A n c sv T
  map : ∀ s ∈ T, MapOf Try.prog tU8 w s.mb (kvs s.ways) ∧ base ≤ s.mb
  maps : (T.map (·.mb)).Nodup
  end_ : ∀ s ∈ T, Own w base tInt s.ea s.ends.length s.ec (es s.ends)
  apart : ∀ (i j : Nat) (s t : Sv) (g : Nat), T[i]? = some s → T[j]? = some t → i ≠ j → blk s = some g → blk t ≠ some g
section
variable {w w' : World} {base n c : Nat} {A : Option Addr} {T : List Sv}
theorem Bd.len (h : Bd w base A n c T) : T.length = n := h.row.len sv_len (by omega)
theorem Bd.blk_cells (h : Bd w base A n c T) {s : Sv} (hs : s ∈ T) {g : Nat} (hg : blk s = some g) : base ≤ g ∧ g < w.heap.size ∧ ∃ cs, w.heap[g]? = some (.cells cs tInt (0, 0)) := by
  rcases (h.end_ s hs).2 with ⟨h2, _⟩ | ⟨q, cap, cur, hv, hb, hq, r⟩
  · unfold blk at hg; rw [h2] at hg; cases hg
  · unfold blk at hg
    rw [hv] at hg
    injection hg with hg
    subst hg
    exact ⟨hb, (Array.getElem?_eq_some_iff.1 hq).1, _, hq⟩
theorem own_keep {e : TypeId} {m d : Nat} {B : Option Addr} {xs : List Value} (h : Own w base e B m d xs) (hk : ∀ g, (Value.slice B m d).ownBlock = some g → w'.heap[g]? = w.heap[g]?) : Own w' base e B m d xs := by
  refine ⟨h.1, ?_⟩
  rcases h.2 with h2 | ⟨g, cap, cur, hv, hb, hg, r⟩
  · exact .inl h2
  · exact .inr ⟨g, cap, cur, hv, hb, (hk g (by rw [hv]; rfl)).trans hg, r⟩
/-- only a block that is none of these has turned -/
theorem Bd.grown {row : Option Nat} (h : Bd w base A n c T) (hg : w.grownBy w' row) (hr : ∀ g, row = some g → (∀ cs, w.heap[g]? ≠ some (.cells cs tState (0, 0))) ∧ (∀ es clock, w.heap[g]? ≠ some (.map es clock)) ∧ ∀ s ∈ T, blk s ≠ some g) : Bd w' base A n c T where
  row := h.row.keep fun g hb => hg.block g (h.row.block g hb).2.1 fun e => by
    obtain ⟨_, _, cs, hc⟩ := h.row.block g hb
    exact (hr g e.symm).1 cs hc
  map s hs := ⟨(h.map s hs).1.old (hg.block _ (h.map s hs).1.inside fun e => by
    obtain ⟨es, clock, hb, _⟩ := (h.map s hs).1
    exact (hr _ e.symm).2.1 es clock hb), (h.map s hs).2⟩
  maps := h.maps
  end_ s hs := own_keep (h.end_ s hs) fun g hb => hg.block g (h.blk_cells hs hb).2.1 fun e => (hr g e.symm).2.2 s hs hb
  apart := h.apart
theorem Bd.fresh (h : Bd w base A n c T) (k : Fresh w w') : Bd w' base A n c T := h.grown (k.grown none) fun g hg => by cases hg
theorem Bd.but {g : Nat} {t : TypeId} {cs : List Value} (h : Bd w base A n c T) (k : But g w w') (hb : Bk w g t cs) (h1 : t ≠ tState) (h2 : t ≠ tInt) : Bd w' base A n c T :=
  h.grown k fun g' hg' => by
    injection hg' with hg'
    subst hg'
    have hb' : w.heap[g]? = _ := hb
    refine ⟨fun cs' hq => ?_, fun es clock hq => ?_, fun s hs e => ?_⟩
    · rw [hb'] at hq
      injection hq with hq
      injection hq with _ ht
      exact h1 ht
    · rw [hb'] at hq; cases hq
    · obtain ⟨_, _, cs', hq⟩ := h.blk_cells hs e
      rw [hb'] at hq
      injection hq with hq
      injection hq with _ ht
      exact h2 ht
/-- a range over a map goes on -/
theorem Bd.iter {r b : Nat} {kv left : List (Value × Value)} (h : Bd w base A n c T) (k : But r w w') (hr : RangeOf Try.prog tU8 w b r kv left) : Bd w' base A n c T :=
  h.grown k fun g' hg' => by
    injection hg' with hg'
    subst hg'
    obtain ⟨es, clock, since, seen, c0, _, _, _, _, hb', _⟩ := hr
    refine ⟨fun cs' hq => ?_, fun es clock hq => ?_, fun s hs e => ?_⟩
    · rw [hb'] at hq; cases hq
    · rw [hb'] at hq; cases hq
    · obtain ⟨_, _, cs', hq⟩ := h.blk_cells hs e
      rw [hb'] at hq; cases hq
/-- a row of ints that is none of the ends grows -/
theorem Bd.beside {m d : Nat} {E : Option Addr} {xs : List Value} (h : Bd w base A n c T) (ho : Own w base tInt E m d xs) (k : w.grownBy w' (Value.slice E m d).ownBlock) (hap : ∀ s ∈ T, ∀ g, (Value.slice E m d).ownBlock = some g → blk s ≠ some g) : Bd w' base A n c T :=
  h.grown k fun g hg => by
    rcases ho.2 with ⟨h2, _⟩ | ⟨q, cap, cur, hv, hb, hq, r⟩
    · rw [h2] at hg; cases hg
    · rw [hv] at hg
      injection hg with hg
      simp only at hg
      subst hg
      refine ⟨fun cs' hq' => ?_, fun es clock hq' => ?_, fun s hs => hap s hs _ (by rw [hv]; rfl)⟩
      · rw [hq] at hq'
        injection hq' with hq'
        injection hq' with _ ht
        exact absurd ht (by decide)
      · rw [hq] at hq'; cases hq'
theorem mem_set {α : Type} {l : List α} {i : Nat} {x y : α} (h : y ∈ l.set i x) : y ∈ l ∨ y = x := List.mem_or_eq_of_mem_set h
theorem maps_at (h : (T.map (·.mb)).Nodup) {i j : Nat} {s t : Sv} (hs : T[i]? = some s) (ht : T[j]? = some t) (he : s.mb = t.mb) : i = j := by
  have hi : (T.map (·.mb))[i]? = some s.mb := by rw [List.getElem?_map, hs]; rfl
  have hj : (T.map (·.mb))[j]? = some s.mb := by rw [List.getElem?_map, ht, he]; rfl
  obtain ⟨hi1, hi2⟩ := List.getElem?_eq_some_iff.1 hi
  obtain ⟨hj1, hj2⟩ := List.getElem?_eq_some_iff.1 hj
  exact (List.getElem_inj h).1 (hi2.trans hj2.symm)
theorem maps_set {i : Nat} {s s' : Sv} (h : (T.map (·.mb)).Nodup) (hs : T[i]? = some s) (he : s'.mb = s.mb) : ((T.set i s').map (·.mb)).Nodup := by
  rw [List.map_set, he]
  have : (T.map (·.mb)).set i s.mb = T.map (·.mb) := set_same (by rw [List.getElem?_map, hs]; rfl)
  rw [this]
  exact h
theorem apart_set {i : Nat} {s s' : Sv} (h : ∀ (i j : Nat) (s t : Sv) (g : Nat), T[i]? = some s → T[j]? = some t → i ≠ j → blk s = some g → blk t ≠ some g) (hs : T[i]? = some s) (hn : ∀ (j : Nat) (t : Sv) (g : Nat), T[j]? = some t → j ≠ i → blk s' = some g → blk t ≠ some g) :
    ∀ (a b : Nat) (x y : Sv) (g : Nat), (T.set i s')[a]? = some x → (T.set i s')[b]? = some y → a ≠ b → blk x = some g → blk y ≠ some g := by
  intro a b x y g ha hb hab hx
  rcases set_at hs ha with ⟨rfl, rfl⟩ | ⟨hai, ha2⟩
  · rcases set_at hs hb with ⟨rfl, rfl⟩ | ⟨hbi, hb2⟩
    · exact absurd rfl hab
    · exact hn b y g hb2 hbi hx
  · rcases set_at hs hb with ⟨rfl, rfl⟩ | ⟨hbi, hb2⟩
    · exact fun e => hn a x g ha2 hai e hx
    · exact h a b x y g ha2 hb2 hab hx
/-- a way more in a state's map -/
theorem Bd.way (h : Bd w base A n c T) {i : Nat} {s : Sv} (hs : T[i]? = some s) {l : List (UInt8 × Nat)} (hm : MapOf Try.prog tU8 w' s.mb (kvs l)) (k : But s.mb w w') : Bd w' base A n c (T.set i { s with ways := l }) := by
  have hsm := List.mem_of_getElem? hs
  have hne : ∀ (g : Nat) (cs : Array Value) (t : TypeId) (fr : Nat × Nat), w.heap[g]? = some (.cells cs t fr) → w'.heap[g]? = w.heap[g]? := fun g cs t fr hc => k.block g (Array.getElem?_eq_some_iff.1 hc).1 fun e => by
    injection e with e
    exact (h.map s hsm).1.ne_cells hc e.symm
  have hrow : OwnK w' base tState 3 A n c sv T := h.row.keep fun g hg => by
    obtain ⟨_, _, cs, hc⟩ := h.row.block g hg
    exact hne g _ _ _ hc
  have hend : ∀ t ∈ T, Own w' base tInt t.ea t.ends.length t.ec (es t.ends) := fun t ht => own_keep (h.end_ t ht) fun g hb => by
    obtain ⟨_, _, cs, hc⟩ := h.blk_cells ht hb
    exact hne g _ _ _ hc
  have hflat : (T.set i { s with ways := l }).flatMap sv = T.flatMap sv := by
    have h1 := flat_set sv_len T i s { s with ways := l } 0 (.map (some s.mb)) hs (by omega) rfl
    rw [h1]
    exact set_same (by
      have := flat_at sv_len T i s hs 0 (.map (some s.mb)) rfl
      exact this)
  refine ⟨?_, ?_, maps_set h.maps hs rfl, ?_, apart_set h.apart hs fun j t g ht hji hb => h.apart i j s t g hs ht (fun e => hji e.symm) hb⟩
  · show World.ownsRow _ _ _ _ _ _ _
    rw [hflat]
    exact hrow
  · intro t ht
    obtain ⟨j, hj⟩ := List.getElem_of_mem ht
    obtain ⟨hj1, hj2⟩ := hj
    have hj3 : (T.set i { s with ways := l })[j]? = some t := by rw [List.getElem?_eq_getElem hj1, hj2]
    rcases set_at hs hj3 with ⟨rfl, rfl⟩ | ⟨hji, hj4⟩
    · exact ⟨hm, (h.map s hsm).2⟩
    · have htm := List.mem_of_getElem? hj4
      refine ⟨(h.map t htm).1.old (k.block _ (h.map t htm).1.inside fun e => ?_), (h.map t htm).2⟩
      injection e with e
      exact hji (maps_at h.maps hj4 hs e)
  · intro t ht
    rcases mem_set ht with ht | rfl
    · exact hend t ht
    · exact hend s hsm
/-- a state more -/
theorem Bd.more (h : Bd w base A n c T) {A' : Option Addr} {c' mb : Nat} (hm : MapOf Try.prog tU8 w mb (kvs [])) (hb : base ≤ mb) (hnot : ∀ s ∈ T, s.mb ≠ mb) (hrow : OwnK w' base tState 3 A' (n + 1) c' sv (T ++ [⟨mb, [], 0, none, 0, []⟩])) (hg : w.grownBy w' (Value.slice A n c).ownBlock) :
    Bd w' base A' (n + 1) c' (T ++ [⟨mb, [], 0, none, 0, []⟩]) := by
  have hcells : ∀ g, (Value.slice A n c).ownBlock = some g → ∃ cs, w.heap[g]? = some (.cells cs tState (0, 0)) := fun g hb => (h.row.block g hb).2.2
  have hmap : ∀ b kv, MapOf Try.prog tU8 w b kv → MapOf Try.prog tU8 w' b kv := fun b kv hm => hm.old (hg.block b hm.inside fun e => by
    obtain ⟨cs, hc⟩ := hcells b e.symm
    exact hm.ne_cells hc rfl)
  refine ⟨hrow, ?_, ?_, ?_, ?_⟩
  · intro t ht
    rw [List.mem_append, List.mem_singleton] at ht
    rcases ht with ht | rfl
    · exact ⟨hmap _ _ (h.map t ht).1, (h.map t ht).2⟩
    · exact ⟨hmap _ _ hm, hb⟩
  · rw [List.map_append, List.nodup_append]
    refine ⟨h.maps, by simp, fun a ha b hb => ?_⟩
    obtain ⟨s, hs, rfl⟩ := List.mem_map.1 ha
    simp only [List.map_cons, List.map_nil, List.mem_singleton] at hb
    subst hb
    exact hnot s hs
  · intro t ht
    rw [List.mem_append, List.mem_singleton] at ht
    rcases ht with ht | rfl
    · refine own_keep (h.end_ t ht) fun g hb => hg.block g (h.blk_cells ht hb).2.1 fun e => ?_
      obtain ⟨cs, hc⟩ := hcells g e.symm
      obtain ⟨_, _, cs', hq⟩ := h.blk_cells ht hb
      rw [hc] at hq
      injection hq with hq
      injection hq with _ ht
      exact absurd ht (by decide)
    · exact Own.nil _ _ _
  · intro a b x y g ha hb hab hx hy
    have hl := h.len
    rcases app_at hl ha with ⟨_, ha⟩ | ⟨_, rfl⟩
    · rcases app_at hl hb with ⟨_, hb⟩ | ⟨_, rfl⟩
      · exact h.apart a b x y g ha hb hab hx hy
      · cases hy
    · cases hx
/-- a state's block and place -/
theorem Bd.place (h : Bd w base A n c T) {i : Nat} {s : Sv} (hs : T[i]? = some s) : ∃ g, A = some ⟨g, 0, none⟩ ∧ base ≤ g ∧ g < w.heap.size ∧ i < n ∧ (∃ cs, w.heap[g]? = some (.cells cs tState (0, 0))) ∧
    w.cell? ⟨g, i * 3, none⟩ = some (.map (some s.mb)) ∧ w.cell? ⟨g, i * 3 + 1, none⟩ = some (iv (s.back : Nat)) ∧ w.cell? ⟨g, i * 3 + 2, none⟩ = some (.slice s.ea s.ends.length s.ec) := by
  obtain ⟨g, hA, hb, hg, hr⟩ := h.row.at_ sv_len (by omega) hs
  have hi := (List.getElem?_eq_some_iff.1 hs).1
  rw [h.len] at hi
  exact ⟨g, hA, hb, hg, hi, (h.row.block g (by rw [hA]; rfl)).2.2, hr 0 _ rfl, hr 1 _ rfl, hr 2 _ rfl⟩
theorem Bd.cells {g : Nat} (h : Bd w base (some ⟨g, 0, none⟩) n c T) {i : Nat} {s : Sv} (hs : T[i]? = some s) : i < n ∧ base ≤ g ∧ (∃ cs, w.heap[g]? = some (.cells cs tState (0, 0))) ∧
    w.cell? ⟨g, i * 3, none⟩ = some (.map (some s.mb)) ∧ w.cell? ⟨g, i * 3 + 1, none⟩ = some (iv (s.back : Nat)) ∧ w.cell? ⟨g, i * 3 + 2, none⟩ = some (.slice s.ea s.ends.length s.ec) ∧ ∀ o, w.frozen? ⟨g, o, none⟩ = false := by
  obtain ⟨g', hA, hb, hg, hi, hc, h0, h1, h2⟩ := h.place hs
  injection hA with hA
  injection hA with hA
  subst hA
  exact ⟨hi, hb, hc, h0, h1, h2, fun o => ownK_wr h.row rfl o⟩
/-- a state's back is set -/
theorem Bd.back (h : Bd w base A n c T) {i g : Nat} {s : Sv} (hs : T[i]? = some s) (hA : A = some ⟨g, 0, none⟩) (r : Nat) : Bd (w.setCell ⟨g, i * 3 + 1, none⟩ (iv (r : Nat))) base A n c (T.set i { s with back := r }) := by
  obtain ⟨g', hA', hb, hg, hi, ⟨cs0, hc0⟩, _⟩ := h.place hs
  have hrow := ownK_put h.row sv_len hA hs (j := 1) (v := iv (r : Nat)) (s' := { s with back := r }) (by omega) rfl (by omega)
  rw [hA] at hA'
  injection hA' with hA'
  injection hA' with hA'
  subst hA'
  have hk : But g w (w.setCell ⟨g, i * 3 + 1, none⟩ (iv (r : Nat))) := But.put _ _
  refine ⟨hrow, ?_, maps_set h.maps hs rfl, ?_, apart_set h.apart hs fun j t q ht hji hb => h.apart i j s t q hs ht (fun e => hji e.symm) hb⟩
  · have hmap : ∀ t ∈ T, MapOf Try.prog tU8 (w.setCell ⟨g, i * 3 + 1, none⟩ (iv (r : Nat))) t.mb (kvs t.ways) ∧ base ≤ t.mb := fun t ht => ⟨(h.map t ht).1.old (hk.block _ (h.map t ht).1.inside fun e => by
      injection e with e
      exact (h.map t ht).1.ne_cells hc0 e), (h.map t ht).2⟩
    intro t ht
    rcases mem_set ht with ht | rfl
    · exact hmap t ht
    · exact hmap s (List.mem_of_getElem? hs)
  · have hend : ∀ t ∈ T, Own (w.setCell ⟨g, i * 3 + 1, none⟩ (iv (r : Nat))) base tInt t.ea t.ends.length t.ec (es t.ends) := fun t ht => own_keep (h.end_ t ht) fun q hb => by
      obtain ⟨_, hlt, cs, hc⟩ := h.blk_cells ht hb
      refine hk.block q hlt fun e => ?_
      injection e with e
      subst e
      rw [hc0] at hc
      injection hc with hc
      injection hc with _ ht
      exact absurd ht (by decide)
    intro t ht
    rcases mem_set ht with ht | rfl
    · exact hend t ht
    · exact hend s (List.mem_of_getElem? hs)
/-- ends more, behind an append -/
theorem Bd.ends (h : Bd w base A n c T) {w1 : World} {i g : Nat} {s : Sv} (hs : T[i]? = some s) (hA : A = some ⟨g, 0, none⟩) {E : Option Addr} {m d : Nat} {l : List Nat} (hl : l.length = m) (hown : Own w1 base tInt E m d (es l)) (hg1 : w.grownBy w1 (blk s)) (hat : (Value.slice E m d).ownBlock = blk s ∨ (Value.slice E m d).ownBlock = some w.heap.size) :
    Bd (w1.setCell ⟨g, i * 3 + 2, none⟩ (.slice E m d)) base A n c (T.set i { s with ea := E, ec := d, ends := l }) ∧ (blk { s with ea := E, ec := d, ends := l } = blk s ∨ blk { s with ea := E, ec := d, ends := l } = some w.heap.size) ∧ w1.cell? ⟨g, i * 3 + 2, none⟩ = some (.slice s.ea s.ends.length s.ec) ∧ w1.frozen? ⟨g, i * 3 + 2, none⟩ = false ∧ ∃ cs, w1.heap[g]? = some (.cells cs tState (0, 0)) := by
  subst hl
  have hsm := List.mem_of_getElem? hs
  obtain ⟨g', hA', hb, hg, hi, ⟨cs0, hc0⟩, _⟩ := h.place hs
  have hAg := hA
  rw [hA] at hA'
  injection hA' with hA'
  injection hA' with hA'
  subst hA'
  have hrow1 : OwnK w1 base tState 3 A n c sv T := h.row.beside hg1 fun q hq => by
    obtain ⟨_, _, cs, hc⟩ := h.blk_cells hsm hq
    exact ⟨cs, tInt, _, hc, by decide⟩
  have hrow := ownK_put hrow1 sv_len hA hs (j := 2) (v := .slice E l.length d) (s' := { s with ea := E, ec := d, ends := l }) (by omega) rfl (by omega)
  have hk : But g w1 (w1.setCell ⟨g, i * 3 + 2, none⟩ (.slice E l.length d)) := But.put _ _
  obtain ⟨g2, hA2, _, _, hcell⟩ := hrow1.at_ sv_len (by omega) hs
  rw [hA] at hA2
  injection hA2 with hA2
  injection hA2 with hA2
  subst hA2
  have hg1b : ∃ cs, w1.heap[g]? = some (.cells cs tState (0, 0)) := (hrow1.block g (by rw [hAg]; rfl)).2.2
  obtain ⟨cs1, hc1⟩ := hg1b
  refine ⟨⟨hrow, ?_, maps_set h.maps hs rfl, ?_, ?_⟩, hat, hcell 2 _ rfl, ownK_wr hrow1 hA _, ⟨cs1, hc1⟩⟩
  · have hmap : ∀ t ∈ T, MapOf Try.prog tU8 (w1.setCell ⟨g, i * 3 + 2, none⟩ (.slice E l.length d)) t.mb (kvs t.ways) ∧ base ≤ t.mb := fun t ht => by
      have h1 : MapOf Try.prog tU8 w1 t.mb (kvs t.ways) := (h.map t ht).1.old (hg1.block _ (h.map t ht).1.inside fun e => by
        obtain ⟨_, _, cs, hc⟩ := h.blk_cells hsm e.symm
        exact (h.map t ht).1.ne_cells hc rfl)
      exact ⟨h1.old (hk.block _ h1.inside fun e => by
        injection e with e
        exact h1.ne_cells hc1 e), (h.map t ht).2⟩
    intro t ht
    rcases mem_set ht with ht | rfl
    · exact hmap t ht
    · exact hmap s hsm
  · intro t ht
    obtain ⟨j, hj1, hj2⟩ := List.getElem_of_mem ht
    have hj3 : (T.set i { s with ea := E, ec := d, ends := l })[j]? = some t := by rw [List.getElem?_eq_getElem hj1, hj2]
    rcases set_at hs hj3 with ⟨rfl, rfl⟩ | ⟨hji, hj4⟩
    · refine own_keep hown fun q hq => ?_
      rcases hown.2 with ⟨hv, _⟩ | ⟨q', cap, cur, hv, _, hqq, _⟩
      · rw [hv] at hq; cases hq
      · rw [hv] at hq
        injection hq with hq
        subst hq
        refine hk.block _ (Array.getElem?_eq_some_iff.1 hqq).1 fun e => ?_
        injection e with e
        simp only at e
        subst e
        rw [hc1] at hqq
        injection hqq with hqq
        injection hqq with _ ht
        exact absurd ht (by decide)
    · have htm := List.mem_of_getElem? hj4
      refine own_keep (h.end_ t htm) fun q hq => ?_
      obtain ⟨_, hlt, cs, hc⟩ := h.blk_cells htm hq
      have e1 : w1.heap[q]? = w.heap[q]? := hg1.block q hlt fun e => h.apart i j s t q hs hj4 (fun e2 => hji e2.symm) e.symm hq
      refine (hk.block q (Nat.lt_of_lt_of_le hlt hg1.size) fun e => ?_).trans e1
      injection e with e
      subst e
      rw [hc0] at hc
      injection hc with hc
      injection hc with _ ht
      exact absurd ht (by decide)
  · refine apart_set h.apart hs fun j t q ht hji hb => ?_
    rcases hat with hat | hat
    · exact h.apart i j s t q hs ht (fun e => hji e.symm) (hat.symm.trans hb)
    · intro e
      have h1 := (h.blk_cells (List.mem_of_getElem? ht) e).2.1
      have h2 : (some q : Option Nat) = some w.heap.size := hb.symm.trans hat
      injection h2 with h2
      omega
/-- made, they are read -/
theorem Bd.sts (h : Bd w base A n c T) : StsAt w w.heap.size A T where
  row := by
    have h1 := RdT.of_own h.row sv_len
    refine ⟨flat_len sv_len T, fun hn => ?_⟩
    have hl := h.len
    obtain ⟨s, hs⟩ : ∃ s, T[0]? = some s := ⟨_, List.getElem?_eq_getElem (by omega)⟩
    obtain ⟨b, off, cs, fr, hA, hb, hc⟩ := h1 (fun e => by
      have := congrArg List.length e
      rw [flat_len sv_len] at this
      simp at this
      omega)
    exact ⟨b, off, hA, (Array.getElem?_eq_some_iff.1 hb).1, fun j u hu => by rw [cell_of_row w b (off + j) cs tState fr hb]; exact hc j u hu⟩
  map s hs := ⟨(h.map s hs).1, (h.map s hs).1.inside⟩
  end_ s hs := ⟨(h.end_ s hs).rd, (h.end_ s hs).cap⟩
theorem Bd.ty (h : Bd w base A n c T) : TyAt w A T where
  row := RdT.of_own h.row sv_len
  end_ s hs := RdT.of_own1 (h.end_ s hs)
end
end Go.Proofs.Ytgbffkneidnmfaa.ahop
