import Derived.Test.YtcdehklcdipcfaaGreatMgVb
import Derived.Test.YtcdehklcdipcfaaGreatShelf
import Derived.Sort.OwnSorted
import Derived.Sort.KeysCollected
import Derived.Lib.SmallJoins
/- Several of my own texts, one behind the other. -/
/-
  The contract of the store's names, Names, Waits. My own text.
-/
namespace Go.Proofs.YtcdehklcdipcfaaGreat.vfs
open Go.RowKit Go.Maps Go.Sort Go.Proofs.YtcdehklcdipcfaaGreat.base Go.Proofs.YtcdehklcdipcfaaGreat.vfsnum
set_option linter.unusedVariables false

theorem hp_any (s p : ByteArray) (w : World) : Calls Tryz.prog 76 #[.string s, .string p] w fun e w' => e = .returned (.bool (Lib.hasPrefix s.data.toList p.data.toList)) ∧ w = w' :=
  (Tryz.strings_HasPrefix s p w).mono fun e w' ⟨h1, h2⟩ => ⟨h1, h2.symm⟩
def nameOf : Value → List UInt8
  | .string s => s.data.toList
  | _ => []
def nameList (a : Fs) (h : List UInt8) : List (List UInt8) := (a.files.map fun p => p.1.data.toList).filter fun l => Lib.hasPrefix l h
theorem sort_eq {ss ns : List (List UInt8)} (hp : ss.Perm ns) (hs : ns.Pairwise fun x y => leB x y = true) : ss.mergeSort leB = ns := by
  have tr : ∀ a b c : List UInt8, leB a b = true → leB b c = true → leB a c = true := fun a b c h1 h2 => by simp only [leB, decide_eq_true_eq] at *; exact List.le_trans h1 h2
  have to : ∀ a b : List UInt8, (leB a b || leB b a) = true := fun a b => by simp only [leB, Bool.or_eq_true, decide_eq_true_eq]; exact List.le_total a b
  refine List.Perm.eq_of_pairwise (le := fun a b => leB a b = true) (fun a b _ _ h1 h2 => ?_) (List.pairwise_mergeSort tr to ss) hs ((List.mergeSort_perm ss leB).trans hp)
  simp only [leB, decide_eq_true_eq] at h1 h2
  exact List.le_antisymm h1 h2
theorem nameList_sorted {a : Fs} (h : FsOk a) (p : List UInt8) : (nameList a p).Pairwise fun x y => leB x y = true := by
  unfold nameList
  refine List.Pairwise.filter _ ?_
  rw [List.pairwise_map]
  refine h.sorted.imp fun hlt => ?_
  unfold nlt at hlt
  simp only [decide_eq_true_eq] at hlt
  simp only [leB, decide_eq_true_eq]
  exact List.le_of_lt hlt
theorem RangeOf.grown {P : Program} {k : TypeId} {w w' : World} {b r : Nat} {kv left : List (Value × Value)} {row : Option Nat} (h : RangeOf P k w b r kv left) (hg : w.grownBy w' row) (h1 : row ≠ some b) (h2 : row ≠ some r) : RangeOf P k w' b r kv left :=
  h.old (hg.block b h.map.inside (Ne.symm h1)) (hg.block r h.iter (Ne.symm h2))
/-- what a slice owns is a row of cells, not an iterator, nor a map -/
theorem Own.ne_iter {P : Program} {k : TypeId} {w : World} {b r base n c : Nat} {kv left : List (Value × Value)} {e : TypeId} {A : Option Addr} {xs : List Value} (h : Own w base e A n c xs) (hr : RangeOf P k w b r kv left) : (Value.slice A n c).ownBlock ≠ some r ∧ (Value.slice A n c).ownBlock ≠ some b := by
  obtain ⟨es, clock, since, seen, c0, hb, hs, hk, hq, hr, _⟩ := hr
  rcases h.2 with ⟨hv, _⟩ | ⟨g', cap, cur, hv, _, hh, _⟩
  · rw [hv]; simp [Value.ownBlock]
  · rw [hv]
    simp only [Value.ownBlock, ne_eq, Option.some.injEq]
    refine ⟨fun e => ?_, fun e => ?_⟩
    · subst e; rw [hh] at hr; cases hr
    · subst e; rw [hh] at hb; cases hb
theorem RangeOf.left_eq {P : Program} {k : TypeId} {w : World} {b r : Nat} {kv left : List (Value × Value)} (h : RangeOf P k w b r kv left) : w.rangeLeft b r = left.length := by
  obtain ⟨es, clock, since, seen, c0, hb, hs, hk, hq, hr, _, _, _, hl⟩ := h
  unfold World.rangeLeft
  rw [hb, hr]
  have := hl.length_eq
  simpa using this
theorem str_info : (Tryz.prog.info? 9).map (fun i => (i.zero, i.size, i.bytes)) = some (some (.string ⟨#[]⟩), 1, 16) := by kernel_rfl
/-- what names leaves -/
def NamesAt (w : World) (ns : List (List UInt8)) (e : Ending) (w' : World) : Prop := ∃ A c, e = .returned (.slice A ns.length c) ∧ Own w' w.heap.size 9 A ns.length c (ns.map encStr) ∧ Fresh w w'
theorem strs_one (l : List (List UInt8)) : ∀ u ∈ l.map encStr, u.oneCell' = true := by
  intro u hu
  obtain ⟨x, _, rfl⟩ := List.mem_map.1 hu
  rfl
theorem perm_step {α : Type} {p : α → Bool} {ss : List α} {x : α} {left left' all : List α} (hp : left.Perm (x :: left')) (h : (ss ++ left.filter p).Perm all) : ((if p x then ss ++ [x] else ss) ++ left'.filter p).Perm all := by
  refine List.Perm.trans ?_ h
  have h1 := hp.filter p
  rw [List.filter_cons] at h1
  by_cases hx : p x = true
  · rw [if_pos hx] at h1 ⊢
    rw [List.append_assoc]
    exact List.Perm.append_left ss h1.symm
  · rw [if_neg hx] at h1 ⊢
    exact List.Perm.append_left ss h1.symm
theorem sort_call (w0 w : World) (A : Option Addr) (n c : Nat) (ss ns : List (List UInt8)) (hown : Own w w0.heap.size 9 A n c (ss.map encStr)) (hf : Fresh w0 w) (hn : ss.length = n) (hnb : n ≤ 1048576) (hp : ss.Perm ns) (hs : ns.Pairwise fun x y => leB x y = true) :
    Calls Tryz.prog 77 #[.slice A n c] w fun e w' => e = .returned (.tuple #[]) ∧ Own w' w0.heap.size 9 A n c (ns.map encStr) ∧ Fresh w0 w' := by
  subst hn
  rcases hown.2 with ⟨hv, h0⟩ | ⟨g, cap, cur, hv, hb, hg, h1, h2, h3, h4⟩
  · have hss : ss = [] := List.eq_nil_of_length_eq_zero h0
    subst hss
    obtain rfl : ns = [] := hp.symm.eq_nil
    exact (Tryz.slices_Sort_string_none A c w).mono fun e w' ⟨he, hw⟩ => by subst hw; exact ⟨he, hown, hf⟩
  · injection hv with hA hn hc
    subst hA; subst hc
    have hH : Holds encStr w g 0 ss.toArray := holds_of_block hg (by rw [Nat.mul_one] at h4; exact h4)
    refine (Tryz.slices_Sort_string g 0 c ss w hH (Array.getElem?_eq_some_iff.1 hg).1 (by omega)).mono fun e w' ⟨he, nn, os, hw⟩ => ?_
    subst hw
    have e1 : (ss.mergeSort fun x y => decide (x ≤ y)) = ns := sort_eq hp hs
    rw [e1]
    exact ⟨he, ownsRow_sorted hp.length_eq.symm hb hg h1 h2 h3, hf.append hown (Nat.le_refl _) (by have := grownBy_sorted (w := w) (g := g) (n := nn) (os := os) ns.toArray; simpa [Value.ownBlock] using this)⟩

set_option maxRecDepth 100000 in
set_option maxHeartbeats 1000000 in
theorem names_any (w : World) (f : Nat) (a : Fs) (bl : List Nat) (hd : ByteArray) (h : FsAt w f a bl) (hok : FsOk a) (hlen : a.files.length ≤ 1048576) :
    Calls Tryz.prog 45 #[fsPtr f, .string hd] w (NamesAt w (nameList a hd.data.toList)) := by
  obtain ⟨mb, gs, rfl, hg⟩ := h
  obtain ⟨i0, hi0, hz0, hz1, hz2⟩ := info_parts str_info
  have h0 : w.cell? ⟨f, 0, none⟩ = some (.map (some mb)) := hg.2.2.1.cell rfl
  have hm := hg.2.2.2.1
  have hmb := hm.inside
  have hnl : nameList a hd.data.toList = ((gs.map Gh.kv).map fun p => nameOf p.1).filter fun l => Lib.hasPrefix l hd.data.toList := by
    unfold nameList; rw [hg.2.1, List.map_map, List.map_map]; rfl
  have hkvl : (gs.map Gh.kv).length ≤ 1048576 := by rw [hg.2.1, List.length_map] at hlen; rwa [List.length_map]
  have hall : ∀ p ∈ gs.map Gh.kv, ∃ s v, p = (Value.string s, v) := by
    intro p hp
    obtain ⟨x, _, rfl⟩ := List.mem_map.1 hp
    exact ⟨x.name, _, rfl⟩
  have hsrt := nameList_sorted hok hd.data.toList
  generalize gs.map Gh.kv = kv at *
  have HNL := Lib.hid hnl
  have HALL := Lib.hid hall
  have HSRT := Lib.hid hsrt
  clear hnl hall hsrt
  go_enter Tryz.func45, Tryz.ntmps45
  go_wp2_with (at_range; refine wpList_map_range _ rfl _ 59 rfl 9 84 Tryz.underlying59 mb kv rfl hm w.heap.size rfl ?_; intro w0 hrg0 hf0 hs0)
  go_frame
  clear hs0
  go_loopw [5] (fun t wr => ∃ (ss : List (List UInt8)) (A : Option Addr) (n c : Nat) (left : List (Value × Value)), t = .slice A n c ∧ Hid (ss.length = n) ∧ n + left.length ≤ 1048576 ∧ RangeOf Tryz.prog 9 wr mb w.heap.size kv left ∧ Own wr w.heap.size 9 A n c (ss.map encStr) ∧ Fresh w wr ∧
      Hid ((ss ++ (left.map fun p => nameOf p.1).filter fun l => Lib.hasPrefix l hd.data.toList).Perm (nameList a hd.data.toList))) (fun _ wr => wr.rangeLeft mb w.heap.size)
  case atStart => exact ⟨[], none, 0, 0, kv, rfl, rfl, by omega, hrg0, Own.nil _ _ _, hf0, by show List.Perm _ _; rw [HNL.out]; exact List.Perm.refl _⟩
  case round =>
    obtain ⟨ss, A, n, c, left, rfl, hss, hnl, hrg, hown, hfr, hperm⟩ := hrel
    go_wp2_with (at_next; refine wpList_map_next _ rfl _ rfl 9 mb w.heap.size kv left rfl hrg ?_ ?_)
    · intro h0
      subst h0
      have hp2 : ss.Perm (nameList a hd.data.toList) := by have := hperm.out; simpa using this
      have hlen2 := hp2.length_eq
      have hso := sort_call w wr A n c ss (nameList a hd.data.toList) hown hfr hss.out (by simp at hnl; omega) hp2 HSRT.out
      have HE := Lib.hid (hss.out.symm.trans hlen2)
      clear hp2 hlen2 hss hperm hown
      go_wp2_with (go_at_call 77; refine hso.mono ?_; rintro e w' ⟨rfl, hown2, hfr2⟩)
      go_ret
      unfold NamesAt
      rw [← HE.out]
      exact ⟨A, c, rfl, hown2, hfr2⟩
    · intro key v left' w1 hp hrg1 hb1 hs1 hen
      obtain ⟨s, v', hkv⟩ := HALL.out (key, v) (hrg.sub _ (hp.mem_iff.2 (List.mem_cons_self ..)))
      obtain ⟨rfl, rfl⟩ : key = .string s ∧ v = v' := by injection hkv with h1 h2; exact ⟨h1, h2⟩
      have hps := perm_step (p := fun l => Lib.hasPrefix l hd.data.toList) (hp.map fun p => nameOf p.1) hperm.out
      have hl2 := hp.length_eq
      rw [List.length_cons] at hl2
      have hfr1 := hfr.but (Nat.le_refl _) hb1
      have hne := Own.ne_iter hown hrg
      have hown1 := hown.but hb1 hne.1
      have hlen3 : left'.length < left.length := by omega
      have hll : wr.rangeLeft mb w.heap.size = left.length := RangeOf.left_eq hrg
      have HLL := Lib.hid hll
      have HL2 := Lib.hid hl2
      clear hs1 hkv hl2 hll
      cases hpre : Lib.hasPrefix s.data.toList hd.data.toList with
      | true =>
        have hps2 : ((ss ++ [s.data.toList]) ++ (left'.map fun p => nameOf p.1).filter fun l => Lib.hasPrefix l hd.data.toList).Perm (nameList a hd.data.toList) := by
          have e : Lib.hasPrefix (nameOf (Value.string s)) hd.data.toList = true := hpre
          rw [if_pos e] at hps
          exact hps
        have HPS := Lib.hid hps2
        have hhp := hp_any s hd
        rw [hpre] at hhp
        clear hps hps2 hpre
        go_wp2_with (first
          | (go_at_call 76; refine (hhp _).mono ?_; rintro e w' ⟨rfl, rfl⟩)
          | (at_builtin; (refine wpList_append_rd _ rfl _ _ 82 rfl w.heap.size 9 i0 _ 16 Tryz.underlying82 hi0 hz0 hz1 hz2 rfl A n c _ rfl (hown1.fresh (Fresh.alloc w1 _)) (w1.heap.size + 1) (some ⟨w1.heap.size, 0, none⟩) 1 1 [encStr s.data.toList] rfl (Rd.lit w1 #[encStr s.data.toList] 9) (strs_one [s.data.toList]) (by unfold maxLen; omega) (by omega) (by have := hfr1.size; simp; omega) ?_); intro A2 c2 w2 hown2 hg2))
        have hrgN := RangeOf.grown (hrg1.fresh (Fresh.alloc w1 _)) hg2 hne.2 hne.1
        go_roundw
        case rel =>
          exact ⟨ss ++ [s.data.toList], A2, n + 1, c2, left', rfl, by have := hss.out; show _ = _; rw [List.length_append, this]; rfl, by have := HL2.out; omega, hrgN, by simpa using hown2, (hfr1.trans (Fresh.alloc w1 _)).append (hown1.fresh (Fresh.alloc w1 _)) (Nat.le_refl _) hg2, HPS.out⟩
        case measure =>
          rw [RangeOf.left_eq hrgN, HLL.out]; exact hlen3
      | false =>
        have hps2 : (ss ++ (left'.map fun p => nameOf p.1).filter fun l => Lib.hasPrefix l hd.data.toList).Perm (nameList a hd.data.toList) := by
          have e : ¬ (Lib.hasPrefix (nameOf (Value.string s)) hd.data.toList = true) := by show ¬ (Lib.hasPrefix s.data.toList hd.data.toList = true); rw [hpre]; exact Bool.false_ne_true
          rw [if_neg e] at hps
          exact hps
        have HPS := Lib.hid hps2
        have hhp := hp_any s hd
        rw [hpre] at hhp
        clear hps hps2 hpre
        go_wp2_with (go_at_call 76; refine (hhp _).mono ?_; rintro e w' ⟨rfl, rfl⟩)
        go_roundw
        case rel =>
          exact ⟨ss, A, n, c, left', rfl, hss.out, by have := HL2.out; omega, hrg1, hown1, hfr1, HPS.out⟩
        case measure =>
          rw [RangeOf.left_eq hrg1, HLL.out]; exact hlen3
end Go.Proofs.YtcdehklcdipcfaaGreat.vfs
/-
  The contracts of the store's Names, Crash. My own text.
-/
namespace Go.Proofs.YtcdehklcdipcfaaGreat.vfs
open Go.RowKit Go.Maps Go.Sort Go.Proofs.YtcdehklcdipcfaaGreat.base Go.Proofs.YtcdehklcdipcfaaGreat.vfsnum
set_option linter.unusedVariables false

theorem Own.rdA {w : World} {base : Nat} {S : List Nat} {e : TypeId} {A : Option Addr} {n c : Nat} {xs : List Value} (h : Own w base e A n c xs) (hS : ∀ b ∈ S, b < base) : RdA w S A n xs := by
  refine ⟨by simpa using h.1, fun hn => ?_⟩
  obtain ⟨g, cap, hv, hb, hlt⟩ := World.ownsRow.form h hn
  injection hv with hA _ _
  subst hA
  refine ⟨g, 0, rfl, hlt, fun h' => by have := hS g h'; omega, fun j u hu => ?_⟩
  have := World.ownsRow.cells h (g := g) rfl j u hu
  have hadd : (⟨g, 0, none⟩ : Addr).add j = ⟨g, 0 + j, none⟩ := by unfold Addr.add; split <;> simp_all
  rwa [hadd] at this
theorem encStr_data (s : ByteArray) : encStr s.data.toList = .string s := by cases s; simp [encStr]
theorem nameList_nil (a : Fs) : nameList a [] = a.files.map fun p => p.1.data.toList := by
  unfold nameList
  rw [List.filter_eq_self]
  intro l _
  simp [Lib.hasPrefix]
theorem nameList_enc (a : Fs) : (nameList a []).map encStr = a.files.map fun p => Value.string p.1 := by
  rw [nameList_nil, List.map_map]
  exact List.map_congr_left fun p _ => encStr_data p.1
theorem RdA.get_ {w : World} {S : List Nat} {A : Option Addr} {n : Nat} {xs : List Value} (h : RdA w S A n xs) {k : Nat} (hk : k < n) {u : Value} (hu : xs[k]? = some u) : ∃ b off, A = some ⟨b, off, none⟩ ∧ w.cell? ⟨b, off + k, none⟩ = some u := by
  obtain ⟨b, off, e, _, _, hc⟩ := h.2 (by omega)
  exact ⟨b, off, e, hc k u hu⟩

/-- a call that tells nothing is done -/
def Did0 (w : World) (f : Nat) (bl : List Nat) (a : Fs) (e : Ending) (w' : World) : Prop := e = .returned (.tuple #[]) ∧ ∃ bl', FsAt w' f a bl' ∧ Turn bl bl' w w'

theorem sum_ge {l : List (ByteArray × Fl)} : ∀ p ∈ l, tk p.2 ≤ (l.map fun p => tk p.2).sum := fun p hp => le_sum_of_mem (List.mem_map.2 ⟨p, hp, rfl⟩)
set_option maxRecDepth 100000 in
set_option maxHeartbeats 1000000 in
theorem crash_fs (w : World) (f : Nat) (a : Fs) (bl : List Nat) (keep : Nat) (h : FsAt w f a bl) (hok : FsOk a) (hlen : a.files.length ≤ 1048576) (hkeep : keep < 18446744073709551616) :
    Calls Tryz.prog 17 #[fsPtr f, .int .u64 keep] w (Did0 w f bl (a.crash keep)) := by
  have hn := names_any w f a bl ByteArray.empty h hok hlen
  have hbe : ByteArray.empty.data.toList = [] := rfl
  rw [hbe] at hn
  clear hbe
  obtain ⟨mb, gs, rfl, hg⟩ := h
  have hin := hg.inside
  have hfs := hg.2.1
  have hnl : (nameList a []).length = a.files.length := by rw [nameList_nil, List.length_map]
  have henc := nameList_enc a
  generalize nameList a [] = nl at *
  have hsum : (gs.map fun x => tk x.fl).sum ≤ 65536 := by
    have := hok.sum
    rw [hfs, List.map_map] at this
    have e : (gs.map fun x => tk x.fl).sum = (gs.map ((fun p : ByteArray × Fl => tk p.2) ∘ Gh.fst)).sum := rfl
    omega
  have hfl : ∀ x ∈ gs, FlOk x.fl := fun x hx => hok.fls (x.name, x.fl) (by rw [hfs]; exact List.mem_map.2 ⟨x, hx, rfl⟩)
  have hvals : (a.files.map fun p => Value.string p.1) = gs.map fun x => Value.string x.name := by rw [hfs, List.map_map]; rfl
  have hgl : gs.length = nl.length := by rw [hnl, hfs, List.length_map]
  have hN : nl.length ≤ 1048576 := by omega
  have HA := Lib.hid (show a = { a with files := gs.map Gh.fst } by rw [← hfs])
  have HENC := Lib.hid (henc.trans hvals)
  have HFL := Lib.hid hfl
  have HSUM := Lib.hid hsum
  have HFS := Lib.hid hfs
  have HGL := Lib.hid hgl
  have HIN := Lib.hid hin
  clear hin hfs hnl henc hsum hfl hvals hgl hlen
  go_enter Tryz.func17, Tryz.ntmps17
  go_wp2_with (go_at_call 45; refine hn.mono ?_; rintro e w1 ⟨A, c, rfl, ho, hf1⟩)
  have hg1 := hg.fresh hf1
  have hrd : RdA w1 (fsBlocks f mb gs) A nl.length (gs.map fun x => Value.string x.name) := by rw [← HENC.out]; exact Own.rdA ho HIN.out
  have hcap := ho.cap
  have hc2 : c ≤ 9223372036854775807 := by have := hcap.2; unfold maxLen at this; omega
  have hc1 := hcap.1
  clear hcap ho hg hn
  obtain ⟨N, hNe⟩ : ∃ N, nl.length = N := ⟨_, rfl⟩
  rw [hNe] at hN hrd hc1 ⊢
  have HGL2 := Lib.hid (HGL.out.trans hNe)
  clear hNe
  go_loopw [4, 12] (fun ti t wr => ∃ (k i : Nat) (g1 g2 : List Gh), t = .int .i64 k ∧ ti = .int .i64 i ∧ Hid (g1.length = k) ∧ Hid (k + g2.length = N) ∧ k ≤ N ∧ i ≤ 65536 ∧ Hid (i + (g2.map fun x => tk x.fl).sum ≤ 65536) ∧ Hid (∀ x ∈ g2, FlOk x.fl) ∧
      Hid (crF keep a.files 0 = g1.map Gh.fst ++ crF keep (g2.map Gh.fst) i) ∧ Hid ((g1 ++ g2).map Gh.name = gs.map Gh.name) ∧ FsG wr f { a with files := (g1 ++ g2).map Gh.fst } mb (g1 ++ g2) ∧ Turn (fsBlocks f mb gs) (fsBlocks f mb (g1 ++ g2)) w wr ∧
      RdA wr (fsBlocks f mb (g1 ++ g2)) A N (gs.map fun x => Value.string x.name)) (fun _ t _ => N - (intOf t).toNat)
  case atStart =>
    exact ⟨0, 0, [], gs, rfl, rfl, rfl, by have := HGL2.out; show _ = _; omega, Nat.zero_le _, by omega, by have := HSUM.out; show _ ≤ _; omega, HFL.out, by show _ = _; rw [HFS.out]; rfl, rfl, HA.out ▸ hg1, Turn.fresh hf1, hrd⟩
  case round =>
    obtain ⟨k, i, g1, g2, rfl, rfl, h1, h2, hk, hi, hs, hfl, hcr, hnm, hgr, hT, hrr⟩ := hrel
    by_cases hlt : k < N
    · cases g2 with
      | nil => exfalso; have := h2.out; simp at this; omega
      | cons x g2 =>
        have hu : (gs.map fun x => Value.string x.name)[k]? = some (.string x.name) := by
          have e : (gs.map fun x => Value.string x.name) = (gs.map Gh.name).map Value.string := by rw [List.map_map]; rfl
          have hl := h1.out
          rw [e, ← hnm.out, List.map_append, List.map_append, List.getElem?_append_right (by rw [List.length_map, List.length_map, hl]; exact Nat.le_refl _), List.length_map, List.length_map, hl, Nat.sub_self]
          rfl
        obtain ⟨b, off, rfl, hcell⟩ := hrr.get_ hlt hu
        have h0 : wr.cell? ⟨f, 0, none⟩ = some (.map (some mb)) := hgr.2.2.1.cell rfl
        have hm := hgr.2.2.2.1
        have hxr := hgr.2.2.2.2 x (by simp)
        have hxo := hfl.out x (by simp)
        have hsz : x.name.size ≤ maxLen := by
          have hmem : x.name ∈ gs.map Gh.name := by rw [← hnm.out]; simp
          obtain ⟨y, hy, hye⟩ := List.mem_map.1 hmem
          have : 1 ≤ y.name.size ∧ y.name.size ≤ 24 := right_size (hok.names (y.name, y.fl) (by rw [HFS.out]; exact List.mem_map.2 ⟨y, hy, rfl⟩))
          rw [← hye]
          unfold maxLen
          omega
        have hca := crash_any x.g x.fl x.bl keep i wr hxr hxo hkeep (by omega)
        have hci : i + cnt x.fl.old (takes x.fl.bs.length) + (g2.map fun x => tk x.fl).sum ≤ 65536 := by
          have := hs.out
          rw [List.map_cons, List.sum_cons] at this
          have h3 := cnt_le x.fl.old (takes x.fl.bs.length)
          have e : tk x.fl = takes x.fl.bs.length := rfl
          omega
        have HCI := Lib.hid hci
        have HG := Lib.hid hgr
        have HRR := Lib.hid hrr
        clear hxo hci hu hgr hrr hkeep hxr
        go_wp2_with (first
          | (at_lookup; refine wpList_look_hit _ rfl _ _ 59 rfl 9 84 strKey Tryz.underlying59 mb _ rfl hm _ _ _ rfl (key_str x.name hsz) (Gh.kv_mem (x := x) (by simp)) ?_)
          | (go_at_call 46; refine hca.mono ?_; rintro e w2 ⟨rfl, bl2, hr2, hT2⟩))
        have hup := HG.out.upd (cr x.fl keep i) bl2 hr2 hT2 _ rfl
        go_roundw
        case rel =>
          refine ⟨k + 1, i + cnt x.fl.old (takes x.fl.bs.length), g1 ++ [{ x with fl := cr x.fl keep i, bl := bl2 }], g2, by go_num, rfl, ?_, ?_, by omega, ?_, HCI.out, fun y hy => hfl.out y (List.mem_cons_of_mem _ hy), ?_, ?_, ?_, ?_, ?_⟩
          · have := h1.out; show _ = _; rw [List.length_append, this]; rfl
          · have := h2.out; rw [List.length_cons] at this; show _ = _; omega
          · have := HCI.out; omega
          · show _ = _
            rw [hcr.out, List.map_append, List.append_assoc]
            rfl
          · show _ = _
            rw [← hnm.out]; simp
          · rw [List.append_assoc]; exact hup.1
          · rw [List.append_assoc]; exact hT.trans hup.2
          · rw [List.append_assoc]; exact HRR.out.turn hup.2
        case measure => simp [intOf]; omega
    · have hkN : k = N := by omega
      subst hkN
      obtain rfl : g2 = [] := List.eq_nil_of_length_eq_zero (by have := h2.out; omega)
      have hf3 := hgr.2.2.1.free 3
      have hf4 := hgr.2.2.1.free 4
      have h3 : wr.cell? ⟨f, 3, none⟩ = some (.int .i64 a.fuse) := hgr.2.2.1.cell rfl
      have h4 : wr.cell? ⟨f, 4, none⟩ = some (.bool a.down) := hgr.2.2.1.cell rfl
      have hp := hgr.put 3 (.int .i64 (-1)) { a with files := (g1 ++ []).map Gh.fst, fuse := -1 } rfl rfl
      have hq := hp.1.put 4 (.bool false) { a with files := (g1 ++ []).map Gh.fst, fuse := -1, down := false } rfl rfl
      have HQ := Lib.hid hq
      have HT := Lib.hid ((hT.trans hp.2).trans hq.2)
      have HC := Lib.hid (show a.crash keep = { a with files := (g1 ++ []).map Gh.fst, fuse := -1, down := false } by unfold Fs.crash; rw [hcr.out]; simp [crF])
      clear hq hp hT hrr hgr hkeep hcr
      go_wp2
      go_end0
      exact ⟨rfl, _, HC.out ▸ ⟨mb, _, rfl, HQ.out.1⟩, HT.out⟩
end Go.Proofs.YtcdehklcdipcfaaGreat.vfs
/-
  What holds of every store stays so: create, write, sync, crash. My own text.
-/
namespace Go.Proofs.YtcdehklcdipcfaaGreat.vfs
open Go.Proofs.YtcdehklcdipcfaaGreat.base Go.Proofs.YtcdehklcdipcfaaGreat.vfsnum
set_option linter.unusedVariables false

def flist (l : List (ByteArray × Fl)) : Prop := (∀ p ∈ l, rightB p.1 = true) ∧ (l.Pairwise fun p q => nlt p.1 q.1 = true) ∧ ∀ p ∈ l, FlOk p.2
theorem FsOk.flist {a : Fs} (h : FsOk a) : flist a.files := ⟨h.names, h.sorted, h.fls⟩
theorem FsOk.mk_ {a : Fs} (h : vfs.flist a.files) (h1 : a.room + (a.files.map fun p => tk p.2).sum ≤ 65536) (h2 : -1 ≤ a.fuse) (h3 : a.fuse ≤ 9223372036854775807) : FsOk a := ⟨h.1, h.2.1, h.2.2, h1, h2, h3⟩
theorem burn_fuse (a : Fs) (h2 : -1 ≤ a.fuse) (h3 : a.fuse ≤ 9223372036854775807) : -1 ≤ a.burn.fuse ∧ a.burn.fuse ≤ 9223372036854775807 := by
  unfold Fs.burn
  split <;> simp only <;> omega
theorem FsOk.fall {a : Fs} (h : FsOk a) : FsOk a.fall := ⟨h.names, h.sorted, h.fls, h.sum, h.fuse1, h.fuse2⟩
theorem mem_insF {l : List (ByteArray × Fl)} {n : ByteArray} {x : Fl} {p : ByteArray × Fl} (h : p ∈ insF l n x) : p = (n, x) ∨ p ∈ l := by
  unfold insF at h
  simp only [List.mem_append, List.mem_cons, List.mem_filter] at h
  rcases h with h | h | h
  · exact .inr h.1
  · exact .inl h
  · exact .inr h.1
theorem insF_perm (l : List (ByteArray × Fl)) (n : ByteArray) (x : Fl) : (insF l n x).Perm ((n, x) :: l) :=
  List.perm_middle.trans ((List.filter_append_perm _ l).cons _)
theorem flist_ins {l : List (ByteArray × Fl)} {n : ByteArray} {x : Fl} (h : flist l) (hn : rightB n = true) (hx : FlOk x) (hf : ∀ p ∈ l, p.1 ≠ n) : flist (insF l n x) := by
  refine ⟨fun p hp => ?_, ?_, fun p hp => ?_⟩
  · rcases mem_insF hp with rfl | hp
    · exact hn
    · exact h.1 p hp
  · unfold insF
    rw [List.pairwise_append, List.pairwise_cons]
    refine ⟨h.2.1.filter _, ⟨fun p hp => ?_, h.2.1.filter _⟩, fun p hp q hq => ?_⟩
    · have hp' := List.mem_filter.1 hp
      have h1 : nlt p.1 n = false := by simpa using hp'.2
      rcases nlt_total (hf p hp'.1) with h2 | h2
      · rw [h1] at h2; cases h2
      · exact h2
    · have h1 : nlt p.1 n = true := (List.mem_filter.1 hp).2
      rcases List.mem_cons.1 hq with rfl | hq
      · exact h1
      · have hq' := List.mem_filter.1 hq
        have h2 : nlt q.1 n = false := by simpa using hq'.2
        rcases nlt_total (hf q hq'.1) with h3 | h3
        · rw [h2] at h3; cases h3
        · exact nlt_trans h1 h3
  · rcases mem_insF hp with rfl | hp
    · exact hx
    · exact h.2.2 p hp
theorem sum_ins (l : List (ByteArray × Fl)) (n : ByteArray) (x : Fl) : ((insF l n x).map fun p => tk p.2).sum = tk x + (l.map fun p => tk p.2).sum := by
  rw [List.Perm.sum_nat ((insF_perm l n x).map fun p => tk p.2)]
  simp
theorem len_ins (l : List (ByteArray × Fl)) (n : ByteArray) (x : Fl) : (insF l n x).length = l.length + 1 := (insF_perm l n x).length_eq
theorem updF_parts {l : List (ByteArray × Fl)} (ha : Apart l) {n : ByteArray} {x : Fl} (hg : getF l n = some x) : ∃ l1 l2, l = l1 ++ (n, x) :: l2 ∧ ∀ y, updF l n y = l1 ++ (n, y) :: l2 := by
  obtain ⟨l1, l2, rfl⟩ := List.append_of_mem (getF_some hg)
  refine ⟨l1, l2, rfl, fun y => ?_⟩
  unfold Apart at ha
  rw [List.pairwise_append, List.pairwise_cons] at ha
  obtain ⟨_, ⟨h2, _⟩, h4⟩ := ha
  unfold updF
  rw [List.map_append, List.map_cons, if_pos rfl]
  have e1 : ∀ (r : List (ByteArray × Fl)), (∀ p ∈ r, p.1 ≠ n) → r.map (fun p => if p.1 = n then (n, y) else p) = r := fun r hr => by
    rw [List.map_congr_left (g := id) fun p hp => by rw [if_neg (hr p hp)]; rfl, List.map_id]
  rw [e1 l1 fun p hp => h4 p hp (n, x) (by simp), e1 l2 fun p hp => (h2 p hp).symm]
theorem flist_upd {l : List (ByteArray × Fl)} (h : flist l) {n : ByteArray} {x y : Fl} (hg : getF l n = some x) (hy : FlOk y) : flist (updF l n y) ∧ ((updF l n y).map fun p => tk p.2).sum + tk x = (l.map fun p => tk p.2).sum + tk y ∧ (updF l n y).length = l.length := by
  obtain ⟨l1, l2, rfl, hu⟩ := updF_parts (apart_of_sorted h.2.1) hg
  rw [hu y]
  obtain ⟨h1, h2, h3⟩ := h
  rw [List.pairwise_append, List.pairwise_cons] at h2
  refine ⟨⟨fun p hp => ?_, ?_, fun p hp => ?_⟩, ?_, by simp⟩
  · rcases List.mem_append.1 hp with hp | hp
    · exact h1 p (by simp [hp])
    · rcases List.mem_cons.1 hp with rfl | hp
      · exact h1 (n, x) (by simp)
      · exact h1 p (by simp [hp])
  · rw [List.pairwise_append, List.pairwise_cons]
    refine ⟨h2.1, ⟨fun p hp => h2.2.1.1 p hp, h2.2.1.2⟩, fun p hp q hq => ?_⟩
    rcases List.mem_cons.1 hq with rfl | hq
    · exact h2.2.2 p hp (n, x) (by simp)
    · exact h2.2.2 p hp q (by simp [hq])
  · rcases List.mem_append.1 hp with hp | hp
    · exact h3 p (by simp [hp])
    · rcases List.mem_cons.1 hp with rfl | hp
      · exact hy
      · exact h3 p (by simp [hp])
  · simp only [List.map_append, List.map_cons, List.sum_append, List.sum_cons]
    omega
theorem nil_ok (s : Nat) : FlOk ⟨[], s, noOld⟩ := ⟨Nat.zero_le _, fun k o h => by cases h⟩
theorem create_ok {a : Fs} {n : ByteArray} (h : FsOk a) : FsOk (a.create n).2 := by
  unfold Fs.create
  split
  · exact h
  · split
    · exact h
    · rename_i hr
      split
      · exact h
      · rename_i hg
        split
        · exact FsOk.fall h
        · have hg' : getF a.files n = none := by cases hx : getF a.files n with
            | none => rfl
            | some x => rw [hx] at hg; exact absurd rfl hg
          refine FsOk.mk_ (flist_ins (FsOk.flist h) (by simpa using hr) (nil_ok _) (getF_none hg')) ?_ (burn_fuse a h.fuse1 h.fuse2).1 (burn_fuse a h.fuse1 h.fuse2).2
          show a.room + ((insF a.files n _).map fun p => tk p.2).sum ≤ 65536
          rw [sum_ins]
          have := h.sum
          have e : tk ⟨[], a.stamp + 1, noOld⟩ = 0 := by simp [tk, takes]
          omega
theorem stamp_ok {x : Fl} (h : FlOk x) (s : Nat) : FlOk { x with stamp := s } := h
theorem sum_tk {a : Fs} (h : FsOk a) {n : ByteArray} {x : Fl} (hg : getF a.files n = some x) : a.room + tk x ≤ 65536 := by
  have h1 := sum_ge (n, x) (getF_some hg)
  have := h.sum
  have e : tk (n, x).2 = tk x := rfl
  omega
theorem write_ok {a : Fs} {n : ByteArray} {t : Int} {b : Bs} (h : FsOk a) : FsOk (a.write n t b).2 := by
  unfold Fs.write
  split
  · exact h
  · cases hg : getF a.files n with
    | none => exact h
    | some x =>
      simp only
      split
      · exact h
      · split
        · exact h
        · split
          · exact h
          · split
            · exact FsOk.fall h
            · rename_i h1 h2 h3 h4
              have hx := h.fls (n, x) (getF_some hg)
              have hs := sum_tk h hg
              have hl : t.toNat ≤ x.bs.length := by omega
              have hlen : t.toNat + b.length ≤ 4194304 := by unfold tk takes at *; omega
              have hy : FlOk { wrt x t.toNat b with stamp := a.stamp + 1 } := stamp_ok (wrt_ok hx hl hlen) _
              have hu := flist_upd (FsOk.flist h) hg hy
              refine FsOk.mk_ hu.1 ?_ (burn_fuse a h.fuse1 h.fuse2).1 (burn_fuse a h.fuse1 h.fuse2).2
              have e : tk { wrt x t.toNat b with stamp := a.stamp + 1 } = max (tk x) (takes (t.toNat + b.length)) := by
                show takes (wrt x t.toNat b).bs.length = _
                rw [wrt_len x _ b hl]
                unfold tk takes
                omega
              have h5 := hu.2.1
              have h6 := h.sum
              rw [e] at h5
              have fin : a.room - (takes (t.toNat + b.length) - tk x) + ((updF a.files n { wrt x t.toNat b with stamp := a.stamp + 1 }).map fun p => tk p.2).sum ≤ 65536 := by omega
              exact fin
theorem sync_ok {a : Fs} {n : ByteArray} (h : FsOk a) : FsOk (a.sync n).2 := by
  unfold Fs.sync
  split
  · exact h
  · cases hg : getF a.files n with
    | none => exact h
    | some x =>
      simp only
      split
      · exact FsOk.fall h
      · have hx := h.fls (n, x) (getF_some hg)
        have hy : FlOk { x with old := noOld } := ⟨hx.1, fun k o h => by cases h⟩
        have hu := flist_upd (FsOk.flist h) hg hy
        refine FsOk.mk_ hu.1 ?_ (burn_fuse a h.fuse1 h.fuse2).1 (burn_fuse a h.fuse1 h.fuse2).2
        have h5 := hu.2.1
        have h6 := h.sum
        have e : tk { x with old := noOld } = tk x := rfl
        rw [e] at h5
        have fin : a.room + ((updF a.files n { x with old := noOld }).map fun p => tk p.2).sum ≤ 65536 := by omega
        exact fin
theorem crF_names (keep : Nat) : ∀ (l : List (ByteArray × Fl)) (i : Nat), (crF keep l i).map (·.1) = l.map (·.1)
  | [], _ => rfl
  | p :: r, i => by rw [crF, List.map_cons, crF_names keep r, List.map_cons]
theorem crF_tk (keep : Nat) : ∀ (l : List (ByteArray × Fl)) (i : Nat), (crF keep l i).map (fun p => tk p.2) = l.map fun p => tk p.2
  | [], _ => rfl
  | p :: r, i => by
    rw [crF, List.map_cons, crF_tk keep r, List.map_cons]
    congr 1
    unfold tk cr
    simp
theorem crF_mem (keep : Nat) : ∀ (l : List (ByteArray × Fl)) (i : Nat), ∀ q ∈ crF keep l i, ∃ p ∈ l, ∃ j, q = (p.1, cr p.2 keep j)
  | [], _, q, h => by cases h
  | p :: r, i, q, h => by
    rcases List.mem_cons.1 h with rfl | h
    · exact ⟨p, by simp, i, rfl⟩
    · obtain ⟨p', hp, j, e⟩ := crF_mem keep r _ q h
      exact ⟨p', by simp [hp], j, e⟩
theorem crash_ok {a : Fs} (keep : Nat) (h : FsOk a) : FsOk (a.crash keep) := by
  refine FsOk.mk_ ⟨fun q hq => ?_, ?_, fun q hq => ?_⟩ ?_ (show (-1 : Int) ≤ -1 by omega) (show (-1 : Int) ≤ _ by omega)
  · obtain ⟨p, hp, j, rfl⟩ := crF_mem keep _ _ q hq
    exact h.names p hp
  · have h1 : ((crF keep a.files 0).map (·.1)).Pairwise fun x y => nlt x y = true := by rw [crF_names, List.pairwise_map]; exact h.sorted
    rw [List.pairwise_map] at h1
    exact h1
  · obtain ⟨p, hp, j, rfl⟩ := crF_mem keep _ _ q hq
    have := (h.fls p hp).1
    exact ⟨by show ((List.range _).map _).length ≤ _; simpa using this, fun k o h => by cases h⟩
  · show a.room + ((crF keep a.files 0).map fun p => tk p.2).sum ≤ 65536
    rw [crF_tk]
    exact h.sum
theorem new_ok (r : Nat) (h : r ≤ 65536) : FsOk ⟨[], r, 0, -1, false⟩ := FsOk.mk_ ⟨by simp, by simp, by simp⟩ (by simpa using h) (by simp) (by simp)

/-! a store that is up, without a fuse -/
abbrev up (files : List (ByteArray × Fl)) (room stamp : Nat) : Fs := ⟨files, room, stamp, -1, false⟩
theorem up_create {l : List (ByteArray × Fl)} {r s : Nat} {n : ByteArray} (hn : rightB n = true) (hg : getF l n = none) : (up l r s).create n = (0, up (insF l n ⟨[], s + 1, noOld⟩) r (s + 1)) := by
  unfold Fs.create
  rw [if_neg (by simp), if_neg (by rw [hn]; simp), if_neg (by rw [show (up l r s).files = l from rfl, hg]; simp), if_neg (by simp)]
  rfl
theorem up_write {l : List (ByteArray × Fl)} {r s : Nat} {n : ByteArray} {x : Fl} {t : Nat} {b : Bs} (hg : getF l n = some x) (ht : t ≤ x.bs.length) (hr : takes (t + b.length) - tk x ≤ r) (hb : b.length ≠ 0) :
    (up l r s).write n t b = (0, up (updF l n { wrt x t b with stamp := s + 1 }) (r - (takes (t + b.length) - tk x)) (s + 1)) := by
  unfold Fs.write
  rw [if_neg (by simp), show (up l r s).files = l from rfl, hg]
  simp only [Int.toNat_natCast]
  rw [if_neg (by omega), if_neg (by omega), if_neg hb, if_neg (by simp)]
  rfl
theorem up_write0 {l : List (ByteArray × Fl)} {r s : Nat} {n : ByteArray} {x : Fl} {t : Nat} {b : Bs} (hg : getF l n = some x) (ht : t ≤ x.bs.length) (hb : b.length = 0) :
    (up l r s).write n t b = (0, up l r s) := by
  unfold Fs.write
  rw [if_neg (by simp), show (up l r s).files = l from rfl, hg]
  simp only [Int.toNat_natCast]
  rw [if_neg (by omega), if_neg (by have : takes (t + b.length) ≤ tk x := by unfold tk takes; omega
                                    omega), if_pos hb]
theorem up_sync {l : List (ByteArray × Fl)} {r s : Nat} {n : ByteArray} {x : Fl} (hg : getF l n = some x) : (up l r s).sync n = (0, up (updF l n { x with old := noOld }) r s) := by
  unfold Fs.sync
  rw [if_neg (by simp), show (up l r s).files = l from rfl, hg]
  simp only
  rw [if_neg (by simp)]
  rfl
theorem up_crash {l : List (ByteArray × Fl)} {r s keep : Nat} : (up l r s).crash keep = up (crF keep l 0) r s := rfl
end Go.Proofs.YtcdehklcdipcfaaGreat.vfs
/-
  The store's calls as the statements use them; the reference's Same; wakes. My own text.
-/
namespace Go.Proofs.YtcdehklcdipcfaaGreat.vfs
open Go.RowKit Go.Maps Go.Proofs.YtcdehklcdipcfaaGreat.base Go.Proofs.YtcdehklcdipcfaaGreat.vfsnum
set_option linter.unusedVariables false

/-- the reference's Same, of two that are alike -/
theorem same_yes (A D : Option Addr) (n c d : Nat) (xs : List UInt8) (w : World) (B B' : Nat) (ha : Rd w B A n (xs.map bv)) (hd : Rd w B' D n (xs.map bv)) (hn : n ≤ maxLen) :
    Calls Tryz.prog 49 #[.slice A n c, .slice D n d] w fun e w' => e = .returned (.bool true) ∧ Fresh w w' := by
  unfold maxLen at hn
  go_enter Tryz.func49, Tryz.ntmps49
  go_wp2
  go_loopw [5] (fun i wr => ∃ (k q : Nat), k ≤ n ∧ i = .int .i64 k ∧ wr = w.drewN q) (fun i _ => n - (intOf i).toNat)
  case atStart => exact ⟨0, 0, by omega, rfl, rfl⟩
  case round =>
    obtain ⟨k, q, hk, rfl, rfl⟩ := hrel
    by_cases hlt : k < n
    · obtain ⟨b, off, x, rfl, hb, hx, hcx⟩ := ha.at_ hlt
      obtain ⟨b', off', x', rfl, hb', hx', hcx'⟩ := hd.at_ hlt
      have e : x = x' := by rw [hx] at hx'; injection hx'
      subst e
      clear hx hx' ha hd
      go_wp2
      go_quiet (fail)
      go_wp2
      go_roundw
      case rel => exact ⟨k + 1, _, by omega, by go_num, rfl⟩
      case measure => simp [intOf]; omega
    · go_wp2
      go_ret
      exact ⟨rfl, Fresh.drewN _ _⟩
theorem RdA.lit {S : List Nat} {w : World} (cs : Array Value) (t : TypeId) (fr : Nat × Nat) (hS : ∀ b ∈ S, b < w.heap.size) : RdA (w.alloc (.cells cs t fr)) S (some ⟨w.heap.size, 0, none⟩) cs.size cs.toList := by
  refine ⟨by simp, fun hn => ⟨w.heap.size, 0, rfl, by simp, fun h => by have := hS _ h; omega, fun j u hu => ?_⟩⟩
  rw [Nat.zero_add, cell_of_row (w.alloc (.cells cs t fr)) w.heap.size j cs t fr (heap_alloc_new w _)]
  simpa using hu
def Since (w w' : World) (S : List Nat) : Prop := Fresh w w' ∧ ∀ i ∈ S, w.heap.size ≤ i
theorem Since.mk_ {w w' : World} {S : List Nat} (h : Fresh w w') (k : ∀ i ∈ S, w.heap.size ≤ i) : Since w w' S := ⟨h, k⟩
theorem Since.turn {w a b : World} {S S' : List Nat} (h : Since w a S) (k : Turn S S' a b) : Since w b S' := ⟨k.new h.1 h.2, k.new_sub h.1 h.2⟩
theorem Since.fresh {w a b : World} {S : List Nat} (h : Since w a S) (k : Fresh a b) : Since w b S := ⟨h.1.trans k, h.2⟩
abbrev nm (c : UInt8) : ByteArray := ⟨#[c]⟩
theorem nm_le (c : UInt8) : (nm c).size ≤ maxLen := by unfold maxLen; show 1 ≤ _; omega

theorem new_up (w : World) (n : Int) (r : Nat) (h : max 1 (min n 65536) = (r : Nat)) (h1 : -9223372036854775808 ≤ n) (h2 : n ≤ 9223372036854775807) :
    Calls Tryz.prog 10 #[.int .i64 n] w (NewAt w (up [] r 0)) := by
  have := New_any n w h1 h2
  rwa [h] at this
theorem create_up (w : World) (f : Nat) (l l' : List (ByteArray × Fl)) (r s : Nat) (n : ByteArray) (bl : List Nat) (h : FsAt w f (up l r s) bl) (hok : FsOk (up l r s)) (hs : s < 4611686018427387904) (hn : rightB n = true) (hg : getF l n = none) (hl : insF l n ⟨[], s + 1, noOld⟩ = l') :
    Calls Tryz.prog 63 #[fsPtr f, .string n] w (Did w f bl (0, up l' r (s + 1))) := by
  have := create_any w f _ bl n h hok hs (by have := (right_size hn).2; unfold maxLen; omega)
  rwa [up_create hn hg, hl] at this
theorem write_up (w : World) (f : Nat) (l l' : List (ByteArray × Fl)) (r r' s s' : Nat) (n : ByteArray) (bl : List Nat) (x : Fl) (t : Nat) (A : Option Addr) (m c : Nat) (bs : Bs) (h : FsAt w f (up l r s) bl) (hok : FsOk (up l r s)) (hs : s < 4611686018427387904) (hn : n.size ≤ maxLen) (hg : getF l n = some x)
    (hr : RdA w bl A m (bs.map bv)) (ht : t ≤ x.bs.length) (hroom : takes (t + bs.length) - tk x ≤ r) (hb : bs.length ≠ 0) (hc : m ≤ c) (hcm : c ≤ maxLen)
    (hl : updF l n { wrt x t bs with stamp := s + 1 } = l') (hr' : r - (takes (t + bs.length) - tk x) = r') (hs' : s + 1 = s') :
    Calls Tryz.prog 103 #[fsPtr f, .string n, .int .i64 t, .slice A m c] w (Did w f bl (0, up l' r' s')) := by
  have hx := (hok.fls (n, x) (getF_some hg)).1
  have hrs := sum_tk hok hg
  have hrs' : r + tk x ≤ 65536 := hrs
  have hm : bs.length = m := by have := hr.1; rwa [List.length_map] at this
  have := write_fs w f _ bl n t A m c bs h hok hs hn hr (by omega) (by have : x.bs.length ≤ 4194304 := hx; omega) (by unfold takes tk at *; omega) hc hcm
  rwa [up_write hg ht hroom hb, hl, hr', hs'] at this
theorem write_up0 (w : World) (f : Nat) (l : List (ByteArray × Fl)) (r s : Nat) (n : ByteArray) (bl : List Nat) (x : Fl) (t : Nat) (A : Option Addr) (c : Nat) (h : FsAt w f (up l r s) bl) (hok : FsOk (up l r s)) (hs : s < 4611686018427387904) (hn : n.size ≤ maxLen) (hg : getF l n = some x)
    (ht : t ≤ x.bs.length) (hcm : c ≤ maxLen) :
    Calls Tryz.prog 103 #[fsPtr f, .string n, .int .i64 t, .slice A 0 c] w (Did w f bl (0, up l r s)) := by
  have hx := (hok.fls (n, x) (getF_some hg)).1
  have := write_fs w f _ bl n t A 0 c [] h hok hs hn ⟨rfl, fun h => absurd h (by omega)⟩ (by omega) (by have : x.bs.length ≤ 4194304 := hx; omega) (by omega) (by omega) hcm
  rwa [up_write0 hg ht rfl] at this
theorem sync_up (w : World) (f : Nat) (l l' : List (ByteArray × Fl)) (r s : Nat) (n : ByteArray) (bl : List Nat) (x : Fl) (h : FsAt w f (up l r s) bl) (hok : FsOk (up l r s)) (hn : n.size ≤ maxLen) (hg : getF l n = some x) (hl : updF l n { x with old := noOld } = l') :
    Calls Tryz.prog 104 #[fsPtr f, .string n] w (Did w f bl (0, up l' r s)) := by
  have := sync_fs w f _ bl n h hok hn
  rwa [up_sync hg, hl] at this
theorem crash_up (w : World) (f : Nat) (l l' : List (ByteArray × Fl)) (r s keep : Nat) (bl : List Nat) (h : FsAt w f (up l r s) bl) (hok : FsOk (up l r s)) (hlen : l.length ≤ 1048576) (hkeep : keep < 18446744073709551616) (hl : crF keep l 0 = l') :
    Calls Tryz.prog 17 #[fsPtr f, .int .u64 keep] w (Did0 w f bl (up l' r s)) := by
  have := crash_fs w f _ bl keep h hok hlen hkeep
  rwa [up_crash, hl] at this
theorem up_create_ok {l l' : List (ByteArray × Fl)} {r s : Nat} {n : ByteArray} (hok : FsOk (up l r s)) (hn : rightB n = true) (hg : getF l n = none) (hl : insF l n ⟨[], s + 1, noOld⟩ = l') : FsOk (up l' r (s + 1)) := by
  have := create_ok (n := n) hok
  rwa [up_create hn hg, hl] at this
theorem up_write_ok {l l' : List (ByteArray × Fl)} {r r' s s' : Nat} {n : ByteArray} {x : Fl} {t : Nat} {bs : Bs} (hok : FsOk (up l r s)) (hg : getF l n = some x) (ht : t ≤ x.bs.length) (hroom : takes (t + bs.length) - tk x ≤ r) (hb : bs.length ≠ 0)
    (hl : updF l n { wrt x t bs with stamp := s + 1 } = l') (hr' : r - (takes (t + bs.length) - tk x) = r') (hs' : s + 1 = s') : FsOk (up l' r' s') := by
  have := write_ok (n := n) (t := t) (b := bs) hok
  rwa [up_write hg ht hroom hb, hl, hr', hs'] at this
theorem up_sync_ok {l l' : List (ByteArray × Fl)} {r s : Nat} {n : ByteArray} {x : Fl} (hok : FsOk (up l r s)) (hg : getF l n = some x) (hl : updF l n { x with old := noOld } = l') : FsOk (up l' r s) := by
  have := sync_ok (n := n) hok
  rwa [up_sync hg, hl] at this
theorem up_crash_ok {l l' : List (ByteArray × Fl)} {r s keep : Nat} (hok : FsOk (up l r s)) (hl : crF keep l 0 = l') : FsOk (up l' r s) := by
  have := crash_ok keep hok
  rwa [up_crash, hl] at this
theorem read_up (w : World) (f : Nat) (l : List (ByteArray × Fl)) (r s : Nat) (n : ByteArray) (bl : List Nat) (x : Fl) (t m : Nat) (ys : Bs) (h : FsAt w f (up l r s) bl) (hok : FsOk (up l r s)) (hn : n.size ≤ maxLen) (hg : getF l n = some x) (htm : t + m ≤ x.bs.length) (hy : (x.bs.drop t).take m = ys) :
    Calls Tryz.prog 93 #[fsPtr f, .string n, .int .i64 t, .int .i64 m] w fun e w' => ∃ q, e = .returned (.tuple #[.slice (some ⟨q, 0, none⟩) m m, .int .i64 0]) ∧ w.heap.size ≤ q ∧ Bk w' q 5 (ys.map bv) ∧ Fresh w w' := by
  have hl : ys.length = m := by rw [← hy, List.length_take, List.length_drop]; omega
  have := read_good w f _ bl n t m x h hok hn rfl hg htm
  rw [hy] at this
  rw [← hl] at this ⊢
  exact this

set_option maxRecDepth 100000 in
theorem wake_bytes : ((cr { wrt ⟨[], 1, noOld⟩ 0 [98, 99] with stamp := 2 } 0 0).bs.drop 0).take 2 = [0, 0] := by kernel_rfl
end Go.Proofs.YtcdehklcdipcfaaGreat.vfs
