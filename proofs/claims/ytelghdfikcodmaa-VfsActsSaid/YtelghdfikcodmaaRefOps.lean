/-
  The contracts of the reference's Delete, Create. My own text.
-/
import Derived.Test.YtelghdfikcodmaaRefFs2
namespace Go.Proofs.Ytelghdfikcodmaa.vref
open Go.RowKit Go.Maps Go.Proofs.Ytelghdfikcodmaa.base Go.Proofs.Ytelghdfikcodmaa.vfsnum Go.Proofs.Ytelghdfikcodmaa.vfs
set_option linter.unusedVariables false

/-- a call of the reference is done: its error, the store behind it -/
def RDid (w : World) (f : Nat) (bl : List Nat) (r : Int × Fs) (e : Ending) (w' : World) : Prop := e = .returned (.int .i64 r.1) ∧ ∃ bl', RefAt w' f r.2 bl' ∧ Turn bl bl' w w'
theorem RDid.same {w : World} {f : Nat} {a : Fs} {A : Option Addr} {c : Nat} {gs : List Gh} (h : RefG w f (most a) a A c gs) (n : Int) : RDid w f (rsBlocks f A gs) (n, a) (.returned (.int .i64 n)) w := ⟨rfl, _, ⟨A, c, gs, rfl, h⟩, Turn.refl _ _⟩
theorem RDid.mk_ {w w' : World} {f m : Nat} {a : Fs} {bl : List Nat} {A : Option Addr} {c : Nat} {gs : List Gh} (h : RefG w' f m a A c gs) (n : Int) (ht : Turn bl (rsBlocks f A gs) w w') (hm : m = most a) : RDid w f bl (n, a) (.returned (.int .i64 n)) w' := ⟨rfl, _, ⟨A, c, gs, rfl, hm ▸ h⟩, ht⟩
theorem RefG.get_some {w : World} {f m : Nat} {a : Fs} {A : Option Addr} {c : Nat} {gs : List Gh} (h : RefG w f m a A c gs) (hok : FsOk a) {n : ByteArray} {fl : Fl} (hg : getF a.files n = some fl) : ∃ g1 g bl g2, gs = g1 ++ ⟨n, fl, g, bl⟩ :: g2 ∧ (∀ y ∈ g1, y.name ≠ n) ∧ ∀ y ∈ g2, y.name ≠ n := by
  have h1 := getF_some hg
  rw [h.2.1] at h1
  obtain ⟨x, hx, he⟩ := List.mem_map.1 h1
  obtain ⟨g1, g2, rfl⟩ := List.append_of_mem hx
  obtain ⟨xn, xf, xg, xb⟩ := x
  simp only [Gh.fst, Prod.mk.injEq] at he
  obtain ⟨rfl, rfl⟩ := he
  have hs := apart_of_sorted hok.sorted
  rw [h.2.1] at hs
  unfold Apart at hs
  rw [List.pairwise_map, List.pairwise_append, List.pairwise_cons] at hs
  exact ⟨g1, xg, xb, g2, rfl, fun y hy => hs.2.2 y hy ⟨xn, xf, xg, xb⟩ (by simp), fun y hy => (hs.2.1.1 y hy).symm⟩
theorem RefG.get_none {w : World} {f m : Nat} {a : Fs} {A : Option Addr} {c : Nat} {gs : List Gh} (h : RefG w f m a A c gs) {n : ByteArray} (hg : getF a.files n = none) : ∀ x ∈ gs, x.name ≠ n := fun x hx =>
  getF_none hg (x.name, x.fl) (by rw [h.2.1]; exact List.mem_map.2 ⟨x, hx, rfl⟩)
theorem RefG.len {w : World} {f m : Nat} {a : Fs} {A : Option Addr} {c : Nat} {gs : List Gh} (h : RefG w f m a A c gs) : gs.length = a.files.length := by rw [h.2.1, List.length_map]
theorem del_split {g1 g2 : List Gh} {x : Gh} (h1 : ∀ y ∈ g1, y.name ≠ x.name) (h2 : ∀ y ∈ g2, y.name ≠ x.name) : delF ((g1 ++ x :: g2).map Gh.fst) x.name = (g1 ++ g2).map Gh.fst := by
  rw [delF_less]
  unfold less
  rw [List.filter_append, List.filter_cons, if_neg (by simp), List.filter_eq_self.2 fun y hy => by simpa using h1 y hy, List.filter_eq_self.2 fun y hy => by simpa using h2 y hy]
theorem most_burn (a : Fs) : most a.burn = most a := rfl
theorem most_remove {a : Fs} (hok : FsOk a) (n : ByteArray) : most (a.remove n) = most a := by
  have h := sum_del (apart_of_sorted hok.sorted) n
  show a.room + tkOf (getF a.files n) + ((delF a.files n).map fun p => tk p.2).sum = a.room + _
  omega

set_option maxHeartbeats 1000000 in
theorem delete_r (w : World) (f : Nat) (a : Fs) (bl : List Nat) (n : ByteArray) (h : RefAt w f a bl) (hok : FsOk a) (hlen : a.files.length ≤ 1048576) :
    Calls Try.prog 52 #[.pointer (some ⟨f, 0, none⟩), .string n] w (RDid w f bl (a.delete n)) := by
  obtain ⟨A, c, gs, rfl, hg⟩ := h
  have h4 : w.cell? ⟨f, 4, none⟩ = some (.bool a.down) := hg.2.2.1.cell rfl
  cases hd : a.down with
  | true =>
    have e : a.delete n = (9, a) := by unfold Fs.delete; rw [if_pos hd]
    rw [e]; rw [hd] at h4
    clear e hd
    go_enter Try.func52, Try.ntmps52
    go_wp2
    go_ret
    exact RDid.same hg 9
  | false =>
    have hd' : ¬ a.down = true := by rw [hd]; simp
    rw [hd] at h4
    cases hgt : getF a.files n with
    | none =>
      have e : a.delete n = (6, a) := by unfold Fs.delete; rw [if_neg hd', hgt]
      have hfi := find_no w f _ a A c gs n hg (hg.get_none hgt) (by rw [hg.len]; exact hlen)
      rw [e]
      clear e hd hd' hgt
      go_enter Try.func52, Try.ntmps52
      go_wp2_with (go_at_call 84; refine hfi.mono ?_; rintro e w' ⟨rfl, rfl⟩)
      go_ret
      exact RDid.same hg 6
    | some x =>
      obtain ⟨g1, g, xbl, g2, rfl, hn1, hn2⟩ := hg.get_some hok hgt
      have hln : (g1 ++ (⟨n, x, g, xbl⟩ : Gh) :: g2).length ≤ 1048576 := by rw [hg.len]; exact hlen
      have hfi := find_at w f _ a A c g1 g2 ⟨n, x, g, xbl⟩ hg hn1 hln
      by_cases hfz : a.fuse = 0
      · have e : a.delete n = (9, a.fall) := by unfold Fs.delete; rw [if_neg hd', hgt]; simp only; rw [if_pos hfz]
        have hbu := burn_out w f _ a A c _ hg hfz
        rw [e]
        clear e hd hd' hgt hfz
        go_enter Try.func52, Try.ntmps52
        go_wp2_with (first
          | (go_at_call 84; refine hfi.mono ?_; rintro e w' ⟨rfl, rfl⟩)
          | (go_at_call 85; refine hbu.mono ?_; rintro e w1 ⟨rfl, hg1, hT1⟩))
        go_ret
        exact RDid.mk_ hg1 9 hT1 rfl
      · have e : a.delete n = (0, a.burn.remove n) := by unfold Fs.delete; rw [if_neg hd', hgt]; simp only; rw [if_neg hfz]
        have hbu := burn_on w f _ a A c _ hg hfz hok.fuse1 hok.fuse2
        have hfe : (a.burn.remove n).files = (g1 ++ g2).map Gh.fst := by
          show delF a.files n = _
          rw [hg.2.1]
          exact del_split (x := ⟨n, x, g, xbl⟩) hn1 hn2
        have hmo : most (a.burn.remove n) = most a := most_remove (FsOk.burn_ hok) n
        rw [e]
        have HFE := Lib.hid hfe
        have HMO := Lib.hid hmo
        clear e hd hd' hgt hfz hfe hmo
        go_enter Try.func52, Try.ntmps52
        go_wp2_with (first
          | (go_at_call 84; refine hfi.mono ?_; rintro e w' ⟨rfl, rfl⟩)
          | (go_at_call 85; refine hbu.mono ?_; rintro e w1 ⟨rfl, hg1, hT1⟩)
          | (go_at_call 89; refine (drop_r w1 f _ _ A c g1 g2 ⟨n, x, g, xbl⟩ hg1 hln).mono ?_; rintro e w2 ⟨rfl, A2, c2, hg2, hT2, _, _⟩))
        go_ret
        have hg3 : RefG w2 f (most a) (a.burn.remove n) A2 c2 (g1 ++ g2) := ⟨hg2.1, HFE.out, hg2.2.2.1, hg2.2.2.2.1, hg2.2.2.2.2⟩
        exact RDid.mk_ hg3 0 (hT1.trans hT2) HMO.out.symm

theorem stamped_o (w : World) (f m : Nat) (a : Fs) (A : Option Addr) (c : Nat) (gs : List Gh) (g : Nat) (n : ByteArray) (x : Fl) (bl : List Nat) (h : RefG w f m a A c gs) (hr : RFile w g n (rawR x) bl) (hap : ∀ b ∈ bl, b ∉ rsBlocks f A gs) (hs : a.stamp < 4611686018427387904) :
    Calls Try.prog 86 #[.pointer (some ⟨f, 0, none⟩), .pointer (some ⟨g, 0, none⟩)] w fun e w' => e = .returned (.tuple #[]) ∧ RefG w' f m { a with stamp := a.stamp + 1 } A c gs ∧ RFile w' g n (rawR { x with stamp := a.stamp + 1 }) bl ∧ Turn (bl ++ rsBlocks f A gs) (bl ++ rsBlocks f A gs) w w' := by
  have h2 : w.cell? ⟨f, 2, none⟩ = some (.int .i64 a.stamp) := h.2.2.1.cell rfl
  have hf := h.2.2.1.free 2
  obtain ⟨hgm, ⟨v, h1⟩, hxf⟩ := hr.head
  have hne : g ≠ f := fun e => hap g hgm (by simp [rsBlocks, e])
  have hp := h.put 2 (.int .i64 ((a.stamp + 1 : Nat) : Int)) { a with stamp := a.stamp + 1 } rfl rfl
  have hr1 : RFile (w.setCell ⟨f, 2, none⟩ (.int .i64 ((a.stamp + 1 : Nat) : Int))) g n (rawR x) bl := hr.keep fun b hb => Below.heap_setCell w ⟨f, 2, none⟩ _ b (fun e => hap b hb (by simp [rsBlocks, show b = f from e]))
  have hr2 := hr1.stamp (a.stamp + 1)
  have hg2 : RefG ((w.setCell ⟨f, 2, none⟩ (.int .i64 ((a.stamp + 1 : Nat) : Int))).setCell ⟨g, 4, none⟩ (.int .i64 ((a.stamp + 1 : Nat) : Int))) f m { a with stamp := a.stamp + 1 } A c gs :=
    hp.1.keep fun b hb => Below.heap_setCell _ ⟨g, 4, none⟩ _ b (fun e => hap g hgm ((show b = g from e) ▸ hb))
  have hT := (Turn.but (S := bl ++ rsBlocks f A gs) (But.put (g := f) (i := 2) w (.int .i64 ((a.stamp + 1 : Nat) : Int))) (by simp [rsBlocks])).trans (Turn.but (But.put (g := g) (i := 4) (w.setCell ⟨f, 2, none⟩ (.int .i64 ((a.stamp + 1 : Nat) : Int))) (.int .i64 ((a.stamp + 1 : Nat) : Int))) (by simp [hgm]))
  have HE := Lib.hid (show ((a.stamp : Int) + 1) = ((a.stamp + 1 : Nat) : Int) by omega)
  have HF := Lib.hid (And.intro hg2 (And.intro hr2 hT))
  clear hT hr1 hr2 hg2 hp hr
  go_enter Try.func86, Try.ntmps86
  go_wp2
  go_end0
  rw [HE.out]
  exact ⟨rfl, HF.out⟩
theorem RFile.made (w : World) (n : ByteArray) : RFile (w.alloc (.cells #[.string n, .slice none 0 0, .slice none 0 0, .slice none 0 0, .int .i64 0] tFile)) w.heap.size n (rawR ⟨[], 0, noOld⟩) [w.heap.size] := by
  have hb := Bk.made w tFile #[.string n, .slice none 0 0, .slice none 0 0, .slice none 0 0, .int .i64 0]
  exact ⟨none, 0, none, 0, none, 0, rfl, by simp, hb, Own.nil _ _ _, Own.nil _ _ _, Own.nil _ _ _⟩
theorem RefG.split {w : World} {f m : Nat} {a : Fs} {A : Option Addr} {c : Nat} {gs : List Gh} (h : RefG w f m a A c gs) (hok : FsOk a) (n : ByteArray) (hg : getF a.files n = none) :
    ∃ g1 g2, gs = g1 ++ g2 ∧ (∀ y ∈ g1, nlt y.name n = true) ∧ (∀ y ∈ g2, nlt n y.name = true) := by
  have hno := h.get_none hg
  have hs := hok.sorted
  rw [h.2.1, List.pairwise_map] at hs
  clear h hg
  induction gs with
  | nil => exact ⟨[], [], rfl, by simp, by simp⟩
  | cons y r ih =>
    rw [List.pairwise_cons] at hs
    obtain ⟨g1, g2, e, h1, h2⟩ := ih (fun x hx => hno x (by simp [hx])) hs.2
    rcases nlt_total (hno y (by simp)) with hlt | hlt
    · refine ⟨y :: g1, g2, by rw [e]; rfl, fun z hz => ?_, h2⟩
      rcases List.mem_cons.1 hz with rfl | hz
      · exact hlt
      · exact h1 z hz
    · refine ⟨[], y :: r, rfl, by simp, fun z hz => ?_⟩
      rcases List.mem_cons.1 hz with rfl | hz
      · exact hlt
      · exact nlt_trans hlt (hs.1 z hz)
theorem ins_split {g1 g2 : List Gh} {n : ByteArray} (h1 : ∀ y ∈ g1, nlt y.name n = true) (h2 : ∀ y ∈ g2, nlt n y.name = true) (y : Fl) (g : Nat) (b : List Nat) : insF ((g1 ++ g2).map Gh.fst) n y = (g1 ++ ⟨n, y, g, b⟩ :: g2).map Gh.fst := by
  have h3 : ∀ y ∈ g2, nlt y.name n = false := fun y hy => by
    cases hn : nlt y.name n with
    | false => rfl
    | true => have := nlt_trans hn (h2 y hy); rw [nlt_irrefl] at this; cases this
  rw [insF_map (g1 ++ g2) n y g b, List.filter_append, List.filter_append, List.filter_eq_self.2 h1, List.filter_eq_nil_iff.2 (fun y hy => by rw [h3 y hy]; simp), List.filter_eq_nil_iff.2 (fun y hy => by rw [h1 y hy]; simp), List.filter_eq_self.2 (fun y hy => by rw [h3 y hy]; rfl), List.append_nil, List.nil_append]

theorem most_insert {a : Fs} {n : ByteArray} (x : Fl) (hx : tk x = 0) (s : Nat) : most { a.burn with files := insF a.files n x, stamp := s } = most a := by
  show a.room + ((insF a.files n x).map fun p => tk p.2).sum = a.room + _
  rw [sum_ins, hx, Nat.zero_add]
set_option maxHeartbeats 1000000 in
theorem create_r (w : World) (f : Nat) (a : Fs) (bl : List Nat) (n : ByteArray) (h : RefAt w f a bl) (hok : FsOk a) (hlen : a.files.length ≤ 1048576) (hst : a.stamp < 4611686018427387904) (hn : n.size ≤ maxLen) :
    Calls Try.prog 48 #[.pointer (some ⟨f, 0, none⟩), .string n] w (RDid w f bl (a.create n)) := by
  obtain ⟨A, c, gs, rfl, hg⟩ := h
  have h4 : w.cell? ⟨f, 4, none⟩ = some (.bool a.down) := hg.2.2.1.cell rfl
  have hri := right_r n w hn
  cases hd : a.down with
  | true =>
    have e : a.create n = (9, a) := by unfold Fs.create; rw [if_pos hd]
    rw [e]; rw [hd] at h4
    clear e hd
    go_enter Try.func48, Try.ntmps48
    go_wp2
    go_ret
    exact RDid.same hg 9
  | false =>
    have hd' : ¬ a.down = true := by rw [hd]; simp
    rw [hd] at h4
    cases hr : rightB n with
    | false =>
      have e : a.create n = (1, a) := by unfold Fs.create; rw [if_neg hd', if_pos hr]
      rw [e]; rw [hr] at hri
      clear e hd hd' hr
      go_enter Try.func48, Try.ntmps48
      go_wp2_with (go_at_call 83; refine hri.mono ?_; rintro e w' ⟨rfl, rfl⟩)
      go_ret
      exact RDid.same hg 1
    | true =>
      have hr' : ¬ rightB n = false := by rw [hr]; simp
      rw [hr] at hri
      cases hgt : getF a.files n with
      | some x =>
        have e : a.create n = (7, a) := by unfold Fs.create; rw [if_neg hd', if_neg hr', if_pos (by rw [hgt]; rfl)]
        obtain ⟨g1, g, xbl, g2, rfl, hn1, hn2⟩ := hg.get_some hok hgt
        have hfi := find_at w f _ a A c g1 g2 ⟨n, x, g, xbl⟩ hg hn1 (by rw [hg.len]; exact hlen)
        rw [e]
        clear e hd hd' hr hr' hgt
        go_enter Try.func48, Try.ntmps48
        go_wp2_with (first
          | (go_at_call 83; refine hri.mono ?_; rintro e w' ⟨rfl, rfl⟩)
          | (go_at_call 84; refine hfi.mono ?_; rintro e w' ⟨rfl, rfl⟩))
        go_ret
        exact RDid.same hg 7
      | none =>
        have hfi := find_no w f _ a A c gs n hg (hg.get_none hgt) (by rw [hg.len]; exact hlen)
        by_cases hfz : a.fuse = 0
        · have e : a.create n = (9, a.fall) := by unfold Fs.create; rw [if_neg hd', if_neg hr', if_neg (by rw [hgt]; simp), if_pos hfz]
          have hbu := burn_out w f _ a A c _ hg hfz
          rw [e]
          clear e hd hd' hr hr' hgt hfz
          go_enter Try.func48, Try.ntmps48
          go_wp2_with (first
            | (go_at_call 83; refine hri.mono ?_; rintro e w' ⟨rfl, rfl⟩)
            | (go_at_call 84; refine hfi.mono ?_; rintro e w' ⟨rfl, rfl⟩)
            | (go_at_call 85; refine hbu.mono ?_; rintro e w1 ⟨rfl, hg1, hT1⟩))
          go_ret
          exact RDid.mk_ hg1 9 hT1 rfl
        · have e : a.create n = (0, { a.burn with files := insF a.files n ⟨[], a.stamp + 1, noOld⟩, stamp := a.stamp + 1 }) := by unfold Fs.create; rw [if_neg hd', if_neg hr', if_neg (by rw [hgt]; simp), if_neg hfz]
          have hbu := burn_on w f _ a A c _ hg hfz hok.fuse1 hok.fuse2
          obtain ⟨g1, g2, rfl, hl1, hl2⟩ := hg.split hok n hgt
          have hln : (g1 ++ g2).length ≤ 1048576 := by rw [hg.len]; exact hlen
          have hst2 : a.burn.stamp < 4611686018427387904 := hst
          have hfs := hg.2.1
          rw [e]
          have HF := Lib.hid hfs
          clear e hd hd' hr hr' hgt hfz hfs
          go_enter Try.func48, Try.ntmps48
          go_wp2_with (first
            | (go_at_call 83; refine hri.mono ?_; rintro e w' ⟨rfl, rfl⟩)
            | (go_at_call 84; refine hfi.mono ?_; rintro e w' ⟨rfl, rfl⟩)
            | (go_at_call 85; refine hbu.mono ?_; rintro e w1 ⟨rfl, hg1, hT1⟩)
            | (go_at_call 86; refine (stamped_o _ f _ a.burn A c _ w1.heap.size n ⟨[], 0, noOld⟩ [w1.heap.size] (hg1.fresh (Fresh.alloc w1 _)) (RFile.made w1 n) (fun b hb hb2 => by have h1 := hg1.inside b hb2; have : b = w1.heap.size := (by simpa using hb); omega) hst2).mono ?_; rintro e w2 ⟨rfl, hg2, hr2, hT2⟩)
            | (go_at_call 87; refine (insert_r w2 f _ _ A c g1 g2 ⟨n, ⟨[], a.stamp + 1, noOld⟩, w1.heap.size, [w1.heap.size]⟩ hg2 hln hl1 hl2 hr2 (fun b hb hb2 => by have h1 := hg1.inside b hb2; have : b = w1.heap.size := (by simpa using hb); omega)).mono ?_; rintro e w3 ⟨rfl, A3, c3, hg3, hT3⟩))
          go_ret
          have e2 : insF a.files n ⟨[], a.stamp + 1, noOld⟩ = _ := (congrArg (fun l => insF l n ⟨[], a.stamp + 1, noOld⟩) HF.out).trans (ins_split hl1 hl2 ⟨[], a.stamp + 1, noOld⟩ w1.heap.size [w1.heap.size])
          have hmo := most_insert (a := a) (n := n) ⟨[], a.stamp + 1, noOld⟩ (by simp [tk, takes]) (a.stamp + 1)
          rw [e2] at hmo ⊢
          refine RDid.mk_ hg3 0 (((((hT1.trans (Turn.fresh (Fresh.alloc w1 _))).to fun b hb => ?_).trans hT2).trans hT3)) hmo.symm
          rcases List.mem_append.1 hb with h | h
          · have : b = w1.heap.size := by simpa using h
            have := hT1.size
            exact .inr (by omega)
          · exact .inl h
end Go.Proofs.Ytelghdfikcodmaa.vref
