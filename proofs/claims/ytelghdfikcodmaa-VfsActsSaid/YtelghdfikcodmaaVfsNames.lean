/-
  The contract of the store's names, Names, Waits. My own text.
-/
import Derived.Test.YtelghdfikcodmaaVfsOps4
import Derived.Test.YtelghdfikcodmaaShelf
import Derived.Sort.OwnSorted
import Derived.Sort.KeysCollected
namespace Go.Proofs.Ytelghdfikcodmaa.vfs
open Go.RowKit Go.Maps Go.Sort Go.Proofs.Ytelghdfikcodmaa.base Go.Proofs.Ytelghdfikcodmaa.vfsnum
set_option linter.unusedVariables false

theorem hp_any (s p : ByteArray) (w : World) : Calls Try.prog 93 #[.string s, .string p] w fun e w' => e = .returned (.bool (Lib.hasPrefix s.data.toList p.data.toList)) ∧ w = w' :=
  (Try.strings_HasPrefix s p w).mono fun e w' ⟨h1, h2⟩ => ⟨h1, h2.symm⟩
def nameOf : Value → List UInt8
  | .string s => s.data.toList
  | _ => []
def nameList (a : Fs) (h : List UInt8) : List (List UInt8) := (a.files.map fun p => p.1.data.toList).filter fun l => Lib.hasPrefix l h
theorem sort_eq {ss ns : List (List UInt8)} (hp : ss.Perm ns) (hs : ns.Pairwise fun x y => leB x y = true) : ss.mergeSort leB = ns := by
  have tr : ∀ a b c : List UInt8, leB a b = true → leB b c = true → leB a c = true := fun a b c h1 h2 => by simp only [leB, decide_eq_true_eq] at *; exact List.le_trans h1 h2
  have to : ∀ a b : List UInt8, (leB a b || leB b a) = true := fun a b => by simp only [leB, Bool.or_eq_true, decide_eq_true_eq]; exact List.le_total a b
  refine List.Perm.eq_of_pairwise (le := fun a b => leB a b = true) (fun a b _ _ h1 h2 => ?_) (List.pairwise_mergeSort tr to ss) hs ((List.mergeSort_perm ss leB).trans hp)
  simp only [leB, decide_eq_true_eq] at h1 h2
  exact List.le_antisymm h1 h2
theorem nameList_sorted {a : Fs} (h : FsOk a) (p : List UInt8) : (nameList a p).Pairwise fun x y => leB x y = true := by
  unfold nameList
  refine List.Pairwise.filter _ ?_
  rw [List.pairwise_map]
  refine h.sorted.imp fun hlt => ?_
  unfold nlt at hlt
  simp only [decide_eq_true_eq] at hlt
  simp only [leB, decide_eq_true_eq]
  exact List.le_of_lt hlt
theorem RangeOf.grown {P : Program} {k : TypeId} {w w' : World} {b r : Nat} {kv left : List (Value × Value)} {row : Option Nat} (h : RangeOf P k w b r kv left) (hg : w.grownBy w' row) (h1 : row ≠ some b) (h2 : row ≠ some r) : RangeOf P k w' b r kv left :=
  h.old (hg.block b h.map.inside (Ne.symm h1)) (hg.block r h.iter (Ne.symm h2))
/-- what a slice owns is a row of cells, not an iterator, nor a map -/
theorem Own.ne_iter {P : Program} {k : TypeId} {w : World} {b r base n c : Nat} {kv left : List (Value × Value)} {e : TypeId} {A : Option Addr} {xs : List Value} (h : Own w base e A n c xs) (hr : RangeOf P k w b r kv left) : (Value.slice A n c).ownBlock ≠ some r ∧ (Value.slice A n c).ownBlock ≠ some b := by
  obtain ⟨es, clock, since, seen, c0, hb, hs, hk, hq, hr, _⟩ := hr
  rcases h.2 with ⟨hv, _⟩ | ⟨g', cap, cur, hv, _, hh, _⟩
  · rw [hv]; simp [Value.ownBlock]
  · rw [hv]
    simp only [Value.ownBlock, ne_eq, Option.some.injEq]
    refine ⟨fun e => ?_, fun e => ?_⟩
    · subst e; rw [hh] at hr; cases hr
    · subst e; rw [hh] at hb; cases hb
theorem RangeOf.left_eq {P : Program} {k : TypeId} {w : World} {b r : Nat} {kv left : List (Value × Value)} (h : RangeOf P k w b r kv left) : w.rangeLeft b r = left.length := by
  obtain ⟨es, clock, since, seen, c0, hb, hs, hk, hq, hr, _, _, _, hl⟩ := h
  unfold World.rangeLeft
  rw [hb, hr]
  have := hl.length_eq
  simpa using this
theorem str_info : (Try.prog.info? 9).map (fun i => (i.zero, i.size, i.bytes)) = some (some (.string ⟨#[]⟩), 1, 16) := by kernel_rfl
/-- what names leaves -/
def NamesAt (w : World) (ns : List (List UInt8)) (e : Ending) (w' : World) : Prop := ∃ A c, e = .returned (.slice A ns.length c) ∧ Own w' w.heap.size 9 A ns.length c (ns.map encStr) ∧ Fresh w w'
theorem strs_one (l : List (List UInt8)) : ∀ u ∈ l.map encStr, u.oneCell' = true := by
  intro u hu
  obtain ⟨x, _, rfl⟩ := List.mem_map.1 hu
  rfl
theorem perm_step {α : Type} {p : α → Bool} {ss : List α} {x : α} {left left' all : List α} (hp : left.Perm (x :: left')) (h : (ss ++ left.filter p).Perm all) : ((if p x then ss ++ [x] else ss) ++ left'.filter p).Perm all := by
  refine List.Perm.trans ?_ h
  have h1 := hp.filter p
  rw [List.filter_cons] at h1
  by_cases hx : p x = true
  · rw [if_pos hx] at h1 ⊢
    rw [List.append_assoc]
    exact List.Perm.append_left ss h1.symm
  · rw [if_neg hx] at h1 ⊢
    exact List.Perm.append_left ss h1.symm
theorem sort_call (w0 w : World) (A : Option Addr) (n c : Nat) (ss ns : List (List UInt8)) (hown : Own w w0.heap.size 9 A n c (ss.map encStr)) (hf : Fresh w0 w) (hn : ss.length = n) (hnb : n ≤ 1048576) (hp : ss.Perm ns) (hs : ns.Pairwise fun x y => leB x y = true) :
    Calls Try.prog 94 #[.slice A n c] w fun e w' => e = .returned (.tuple #[]) ∧ Own w' w0.heap.size 9 A n c (ns.map encStr) ∧ Fresh w0 w' := by
  subst hn
  rcases hown.2 with ⟨hv, h0⟩ | ⟨g, cap, cur, hv, hb, hg, h1, h2, h3, h4⟩
  · have hss : ss = [] := List.eq_nil_of_length_eq_zero h0
    subst hss
    obtain rfl : ns = [] := hp.symm.eq_nil
    exact (Try.slices_Sort_string_none A c w).mono fun e w' ⟨he, hw⟩ => by subst hw; exact ⟨he, hown, hf⟩
  · injection hv with hA hn hc
    subst hA; subst hc
    have hH : Holds encStr w g 0 ss.toArray := holds_of_block hg (by rw [Nat.mul_one] at h4; exact h4)
    refine (Try.slices_Sort_string g 0 c ss w hH (Array.getElem?_eq_some_iff.1 hg).1 (by omega)).mono fun e w' ⟨he, nn, os, hw⟩ => ?_
    subst hw
    have e1 : (ss.mergeSort fun x y => decide (x ≤ y)) = ns := sort_eq hp hs
    rw [e1]
    exact ⟨he, ownsRow_sorted hp.length_eq.symm hb hg h1 h2 h3, hf.append hown (Nat.le_refl _) (by have := grownBy_sorted (w := w) (g := g) (n := nn) (os := os) ns.toArray; simpa [Value.ownBlock] using this)⟩

set_option maxRecDepth 100000 in
set_option maxHeartbeats 1000000 in
theorem names_any (w : World) (f : Nat) (a : Fs) (bl : List Nat) (hd : ByteArray) (h : FsAt w f a bl) (hok : FsOk a) (hlen : a.files.length ≤ 1048576) :
    Calls Try.prog 77 #[fsPtr f, .string hd] w (NamesAt w (nameList a hd.data.toList)) := by
  obtain ⟨mb, gs, rfl, hg⟩ := h
  obtain ⟨i0, hi0, hz0, hz1, hz2⟩ := info_parts str_info
  have h0 : w.cell? ⟨f, 0, none⟩ = some (.map (some mb)) := hg.2.2.1.cell rfl
  have hm := hg.2.2.2.1
  have hmb := hm.inside
  have hnl : nameList a hd.data.toList = ((gs.map Gh.kv).map fun p => nameOf p.1).filter fun l => Lib.hasPrefix l hd.data.toList := by
    unfold nameList; rw [hg.2.1, List.map_map, List.map_map]; rfl
  have hkvl : (gs.map Gh.kv).length ≤ 1048576 := by rw [hg.2.1, List.length_map] at hlen; rwa [List.length_map]
  have hall : ∀ p ∈ gs.map Gh.kv, ∃ s v, p = (Value.string s, v) := by
    intro p hp
    obtain ⟨x, _, rfl⟩ := List.mem_map.1 hp
    exact ⟨x.name, _, rfl⟩
  have hsrt := nameList_sorted hok hd.data.toList
  generalize gs.map Gh.kv = kv at *
  have HNL := Lib.hid hnl
  have HALL := Lib.hid hall
  have HSRT := Lib.hid hsrt
  clear hnl hall hsrt
  go_enter Try.func77, Try.ntmps77
  go_wp2_with (at_range; refine wpList_map_range _ rfl _ 71 rfl 9 99 Try.underlying71 mb kv rfl hm w.heap.size rfl ?_; intro w0 hrg0 hf0 hs0)
  go_frame
  clear hs0
  go_loopw [5] (fun t wr => ∃ (ss : List (List UInt8)) (A : Option Addr) (n c : Nat) (left : List (Value × Value)), t = .slice A n c ∧ Hid (ss.length = n) ∧ n + left.length ≤ 1048576 ∧ RangeOf Try.prog 9 wr mb w.heap.size kv left ∧ Own wr w.heap.size 9 A n c (ss.map encStr) ∧ Fresh w wr ∧
      Hid ((ss ++ (left.map fun p => nameOf p.1).filter fun l => Lib.hasPrefix l hd.data.toList).Perm (nameList a hd.data.toList))) (fun _ wr => wr.rangeLeft mb w.heap.size)
  case atStart => exact ⟨[], none, 0, 0, kv, rfl, rfl, by omega, hrg0, Own.nil _ _ _, hf0, by show List.Perm _ _; rw [HNL.out]; exact List.Perm.refl _⟩
  case round =>
    obtain ⟨ss, A, n, c, left, rfl, hss, hnl, hrg, hown, hfr, hperm⟩ := hrel
    go_wp2_with (at_next; refine wpList_map_next _ rfl _ rfl 9 mb w.heap.size kv left rfl hrg ?_ ?_)
    · intro h0
      subst h0
      have hp2 : ss.Perm (nameList a hd.data.toList) := by have := hperm.out; simpa using this
      have hlen2 := hp2.length_eq
      have hso := sort_call w wr A n c ss (nameList a hd.data.toList) hown hfr hss.out (by simp at hnl; omega) hp2 HSRT.out
      have HE := Lib.hid (hss.out.symm.trans hlen2)
      clear hp2 hlen2 hss hperm hown
      go_wp2_with (go_at_call 94; refine hso.mono ?_; rintro e w' ⟨rfl, hown2, hfr2⟩)
      go_ret
      unfold NamesAt
      rw [← HE.out]
      exact ⟨A, c, rfl, hown2, hfr2⟩
    · intro key v left' w1 hp hrg1 hb1 hs1 hen
      obtain ⟨s, v', hkv⟩ := HALL.out (key, v) (hrg.sub _ (hp.mem_iff.2 (List.mem_cons_self ..)))
      obtain ⟨rfl, rfl⟩ : key = .string s ∧ v = v' := by injection hkv with h1 h2; exact ⟨h1, h2⟩
      have hps := perm_step (p := fun l => Lib.hasPrefix l hd.data.toList) (hp.map fun p => nameOf p.1) hperm.out
      have hl2 := hp.length_eq
      rw [List.length_cons] at hl2
      have hfr1 := hfr.but (Nat.le_refl _) hb1
      have hne := Own.ne_iter hown hrg
      have hown1 := hown.but hb1 hne.1
      have hlen3 : left'.length < left.length := by omega
      have hll : wr.rangeLeft mb w.heap.size = left.length := RangeOf.left_eq hrg
      have HLL := Lib.hid hll
      have HL2 := Lib.hid hl2
      clear hs1 hkv hl2 hll
      cases hpre : Lib.hasPrefix s.data.toList hd.data.toList with
      | true =>
        have hps2 : ((ss ++ [s.data.toList]) ++ (left'.map fun p => nameOf p.1).filter fun l => Lib.hasPrefix l hd.data.toList).Perm (nameList a hd.data.toList) := by
          have e : Lib.hasPrefix (nameOf (Value.string s)) hd.data.toList = true := hpre
          rw [if_pos e] at hps
          exact hps
        have HPS := Lib.hid hps2
        have hhp := hp_any s hd
        rw [hpre] at hhp
        clear hps hps2 hpre
        go_wp2_with (first
          | (go_at_call 93; refine (hhp _).mono ?_; rintro e w' ⟨rfl, rfl⟩)
          | (at_builtin; (refine wpList_append_rd _ rfl _ _ 83 rfl w.heap.size 9 i0 _ 16 Try.underlying83 hi0 hz0 hz1 hz2 rfl A n c _ rfl (hown1.fresh (Fresh.alloc w1 _)) (w1.heap.size + 1) (some ⟨w1.heap.size, 0, none⟩) 1 1 [encStr s.data.toList] rfl (Rd.lit w1 #[encStr s.data.toList] 9) (strs_one [s.data.toList]) (by unfold maxLen; omega) (by omega) (by have := hfr1.size; simp; omega) ?_); intro A2 c2 w2 hown2 hg2))
        have hrgN := RangeOf.grown (hrg1.fresh (Fresh.alloc w1 _)) hg2 hne.2 hne.1
        go_roundw
        case rel =>
          exact ⟨ss ++ [s.data.toList], A2, n + 1, c2, left', rfl, by have := hss.out; show _ = _; rw [List.length_append, this]; rfl, by have := HL2.out; omega, hrgN, by simpa using hown2, (hfr1.trans (Fresh.alloc w1 _)).append (hown1.fresh (Fresh.alloc w1 _)) (Nat.le_refl _) hg2, HPS.out⟩
        case measure =>
          rw [RangeOf.left_eq hrgN, HLL.out]; exact hlen3
      | false =>
        have hps2 : (ss ++ (left'.map fun p => nameOf p.1).filter fun l => Lib.hasPrefix l hd.data.toList).Perm (nameList a hd.data.toList) := by
          have e : ¬ (Lib.hasPrefix (nameOf (Value.string s)) hd.data.toList = true) := by show ¬ (Lib.hasPrefix s.data.toList hd.data.toList = true); rw [hpre]; exact Bool.false_ne_true
          rw [if_neg e] at hps
          exact hps
        have HPS := Lib.hid hps2
        have hhp := hp_any s hd
        rw [hpre] at hhp
        clear hps hps2 hpre
        go_wp2_with (go_at_call 93; refine (hhp _).mono ?_; rintro e w' ⟨rfl, rfl⟩)
        go_roundw
        case rel =>
          exact ⟨ss, A, n, c, left', rfl, hss.out, by have := HL2.out; omega, hrg1, hown1, hfr1, HPS.out⟩
        case measure =>
          rw [RangeOf.left_eq hrg1, HLL.out]; exact hlen3
end Go.Proofs.Ytelghdfikcodmaa.vfs
