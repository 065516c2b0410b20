/-
  The contracts of the store's Create, Sync, Write, Cut. My own text.
-/
import Derived.Test.YtelghdfikcodmaaVfsFs2
namespace Go.Proofs.Ytelghdfikcodmaa.vfs
open Go.RowKit Go.Maps Go.Proofs.Ytelghdfikcodmaa.base Go.Proofs.Ytelghdfikcodmaa.vfsnum
set_option linter.unusedVariables false

theorem FsG.apart {w : World} {f mb : Nat} {a : Fs} {gs : List Gh} (h : FsG w f a mb gs) : gs.Pairwise fun x y => x.name ≠ y.name := by
  have := h.2.2.2.1.apart
  rw [List.pairwise_map] at this
  exact this.imp fun hne e => hne (by simp [Gh.kv, e])
theorem FsG.get_some {w : World} {f mb : Nat} {a : Fs} {gs : List Gh} (h : FsG w f a mb gs) {n : ByteArray} {fl : Fl} (hg : getF a.files n = some fl) : ∃ g1 g bl g2, gs = g1 ++ ⟨n, fl, g, bl⟩ :: g2 := by
  have := getF_some hg
  rw [h.2.1] at this
  obtain ⟨x, hx, he⟩ := List.mem_map.1 this
  obtain ⟨g1, g2, rfl⟩ := List.append_of_mem hx
  obtain ⟨xn, xf, xg, xb⟩ := x
  simp only [Gh.fst, Prod.mk.injEq] at he
  obtain ⟨rfl, rfl⟩ := he
  exact ⟨g1, xg, xb, g2, rfl⟩
theorem FsG.get_none {w : World} {f mb : Nat} {a : Fs} {gs : List Gh} (h : FsG w f a mb gs) {n : ByteArray} (hg : getF a.files n = none) : ∀ x ∈ gs, x.name ≠ n := fun x hx => by
  have := getF_none hg (x.name, x.fl) (by rw [h.2.1]; exact List.mem_map.2 ⟨x, hx, rfl⟩)
  exact this
theorem updF_split {g1 g2 : List Gh} {n : ByteArray} {fl : Fl} {g : Nat} {bl : List Nat} (ha : (g1 ++ ⟨n, fl, g, bl⟩ :: g2).Pairwise fun x y => x.name ≠ y.name) (y : Fl) (bl' : List Nat) :
    updF ((g1 ++ ⟨n, fl, g, bl⟩ :: g2).map Gh.fst) n y = (g1 ++ ⟨n, y, g, bl'⟩ :: g2).map Gh.fst := by
  rw [List.pairwise_append, List.pairwise_cons] at ha
  obtain ⟨h1, ⟨h2, h3⟩, h4⟩ := ha
  have e1 : ∀ x ∈ g1, x.name ≠ n := fun x hx => h4 x hx ⟨n, fl, g, bl⟩ (by simp)
  have e2 : ∀ x ∈ g2, x.name ≠ n := fun x hx => (h2 x hx).symm
  unfold updF
  rw [List.map_map, List.map_append, List.map_cons, List.map_append, List.map_cons]
  congr 1
  · refine List.map_congr_left fun x hx => ?_
    simp [Gh.fst, e1 x hx]
  · congr 1
    · simp [Gh.fst]
    · refine List.map_congr_left fun x hx => ?_
      simp [Gh.fst, e2 x hx]

/-- only the map of the files has turned; the files are some of those that there were, and a new one, maybe under other names -/
theorem FsG.remap {w w' : World} {f mb : Nat} {a : Fs} {gs : List Gh} (h : FsG w f a mb gs) (gs' : List Gh) (hbut : But mb w w') (hm : MapOf Try.prog 9 w' mb (gs'.map Gh.kv)) (a' : Fs) (ha : a' = { a with files := gs'.map Gh.fst })
    (hsub : ∀ x' ∈ gs', ∃ x ∈ gs, x'.g = x.g ∧ x'.bl = x.bl ∧ x'.fl = x.fl) (hnd : (fsBlocks f mb gs').Nodup) : FsG w' f a' mb gs' ∧ Turn (fsBlocks f mb gs) (fsBlocks f mb gs') w w' := by
  subst ha
  have hin := h.inside
  have hnd0 := h.1
  obtain ⟨_, hfs, hb, _, hx⟩ := h
  have hne : ∀ b ∈ fsBlocks f mb gs, b ≠ mb → w'.heap[b]? = w.heap[b]? := fun b hb hn => hbut.block b (hin b hb) (fun e => hn (by injection e))
  have hfm : f ≠ mb := fun e => by unfold fsBlocks at hnd0; rw [e] at hnd0; simp at hnd0
  have hxm : ∀ x ∈ gs, ∀ b ∈ x.bl, b ∈ fsBlocks f mb gs ∧ b ≠ mb := fun x hxm b hbm => by
    have hmem : b ∈ gs.flatMap Gh.bl := List.mem_flatMap.2 ⟨x, hxm, hbm⟩
    refine ⟨by simp only [fsBlocks, List.mem_cons]; exact .inr (.inr hmem), fun e => ?_⟩
    subst e
    exact (List.nodup_cons.1 (List.nodup_cons.1 hnd0).2).1 hmem
  refine ⟨⟨hnd, rfl, hb.old (hne f (by simp [fsBlocks]) hfm), hm, fun x' hx' => ?_⟩, (Turn.but hbut (by simp [fsBlocks])).to fun b hbm => .inl ?_⟩
  · obtain ⟨x, hxm', e1, e2, e3⟩ := hsub x' hx'
    rw [e1, e2, e3]
    exact (hx x hxm').keep fun b hbm => hne b (hxm x hxm' b hbm).1 (hxm x hxm' b hbm).2
  · simp only [fsBlocks, List.mem_cons, List.mem_flatMap] at hbm ⊢
    rcases hbm with h | h | ⟨x', hx', hb'⟩
    · exact .inl h
    · exact .inr (.inl h)
    · obtain ⟨x, hxm', _, e2, _⟩ := hsub x' hx'
      exact .inr (.inr ⟨x, hxm', e2 ▸ hb'⟩)
/-- a new file -/
theorem FsG.add {w w' : World} {f mb : Nat} {a : Fs} {gs : List Gh} (h : FsG w f a mb gs) (x : Gh) (gs' : List Gh) (hp : gs'.Perm (x :: gs)) (hbut : But mb w w') (hm : MapOf Try.prog 9 w' mb ((x :: gs).map Gh.kv)) (a' : Fs) (ha : a' = { a with files := gs'.map Gh.fst })
    (hr : FileRaw w x.g (rawOf x.fl) x.bl) (hnew : ∀ b ∈ x.bl, b ∉ fsBlocks f mb gs) : FsG w' f a' mb gs' ∧ Turn (x.bl ++ fsBlocks f mb gs) (fsBlocks f mb gs') w w' := by
  subst ha
  have hin := h.inside
  have hnd0 := h.1
  obtain ⟨_, hfs, hb, _, hx⟩ := h
  have hne : ∀ b, b < w.heap.size → b ≠ mb → w'.heap[b]? = w.heap[b]? := fun b hb hn => hbut.block b hb (fun e => hn (by injection e))
  have hfm : f ≠ mb := fun e => by unfold fsBlocks at hnd0; rw [e] at hnd0; simp at hnd0
  have hxm : ∀ y ∈ gs, ∀ b ∈ y.bl, b ∈ fsBlocks f mb gs ∧ b ≠ mb := fun y hym b hbm => by
    have hmem : b ∈ gs.flatMap Gh.bl := List.mem_flatMap.2 ⟨y, hym, hbm⟩
    refine ⟨by simp only [fsBlocks, List.mem_cons]; exact .inr (.inr hmem), fun e => ?_⟩
    subst e
    exact (List.nodup_cons.1 (List.nodup_cons.1 hnd0).2).1 hmem
  have hxbl : ∀ b ∈ x.bl, b ≠ mb := fun b hbm e => hnew b hbm (by simp [fsBlocks, e])
  have hxnd : x.bl.Nodup := by obtain ⟨wb, A, c, kv, sb, _, h, _⟩ := hr; exact h
  have hpb : (fsBlocks f mb gs').Perm (f :: mb :: (x.bl ++ gs.flatMap Gh.bl)) := ((hp.flatMap_right Gh.bl).cons mb).cons f
  refine ⟨⟨?_, rfl, hb.old (hne f (hin f (by simp [fsBlocks])) hfm), hm.perm (hp.symm.map Gh.kv), fun y hy => ?_⟩, (Turn.but hbut (by simp [fsBlocks])).to fun b hbm => .inl ?_⟩
  · refine (hpb.nodup_iff).2 ?_
    simp only [fsBlocks, List.mem_cons, List.nodup_cons] at hnd0 hnew
    simp only [List.nodup_cons, List.mem_cons, List.mem_append, List.nodup_append]
    refine ⟨?_, ?_, hxnd, hnd0.2.2, fun b hb1 c hc1 e => hnew b hb1 (.inr (.inr (e ▸ hc1)))⟩
    · rintro (e | e | e)
      · exact hfm e
      · exact hnew f e (.inl rfl)
      · exact hnd0.1 (.inr e)
    · rintro (e | e)
      · exact hxbl mb e rfl
      · exact hnd0.2.1 e
  · rcases List.mem_cons.1 (hp.mem_iff.1 hy) with rfl | hy
    · exact hr.keep fun b hbm => hne b (hr.inside b hbm) (hxbl b hbm)
    · exact (hx y hy).keep fun b hbm => hne b (hin b (hxm y hy b hbm).1) (hxm y hy b hbm).2
  · have := hpb.mem_iff.1 hbm
    simp only [fsBlocks, List.mem_cons, List.mem_append] at this ⊢
    rcases this with h | h | h | h
    · exact .inr (.inl h)
    · exact .inr (.inr (.inl h))
    · exact .inl h
    · exact .inr (.inr (.inr h))

theorem insF_map (gs : List Gh) (n : ByteArray) (y : Fl) (g : Nat) (b : List Nat) : insF (gs.map Gh.fst) n y = (gs.filter (fun x => nlt x.name n) ++ ⟨n, y, g, b⟩ :: gs.filter (fun x => !nlt x.name n)).map Gh.fst := by
  unfold insF
  rw [List.filter_map, List.filter_map, List.map_append, List.map_cons]
  rfl
theorem ins_perm (gs : List Gh) (n : ByteArray) (x : Gh) : (gs.filter (fun x => nlt x.name n) ++ x :: gs.filter (fun x => !nlt x.name n)).Perm (x :: gs) :=
  List.perm_middle.trans ((List.filter_append_perm _ gs).cons x)
/-- a call is done: its error, the store behind it -/
def Did (w : World) (f : Nat) (bl : List Nat) (r : Int × Fs) (e : Ending) (w' : World) : Prop := e = .returned (.int .i64 r.1) ∧ ∃ bl', FsAt w' f r.2 bl' ∧ Turn bl bl' w w'
theorem Did.same {w : World} {f : Nat} {a : Fs} {mb : Nat} {gs : List Gh} (h : FsG w f a mb gs) (n : Int) : Did w f (fsBlocks f mb gs) (n, a) (.returned (.int .i64 n)) w := ⟨rfl, _, ⟨mb, gs, rfl, h⟩, Turn.refl _ _⟩
theorem Did.mk_ {w w' : World} {f : Nat} {a : Fs} {bl : List Nat} {mb : Nat} {gs : List Gh} (h : FsG w' f a mb gs) (n : Int) (ht : Turn bl (fsBlocks f mb gs) w w') : Did w f bl (n, a) (.returned (.int .i64 n)) w' := ⟨rfl, _, ⟨mb, gs, rfl, h⟩, ht⟩

set_option maxHeartbeats 1000000 in
theorem create_any (w : World) (f : Nat) (a : Fs) (bl : List Nat) (n : ByteArray) (h : FsAt w f a bl) (hok : FsOk a) (hst : a.stamp < 4611686018427387904) (hn : n.size ≤ maxLen) :
    Calls Try.prog 39 #[fsPtr f, .string n] w (Did w f bl (a.create n)) := by
  obtain ⟨mb, gs, rfl, hg⟩ := h
  have hs := state_any w f a mb gs hg
  have hri := right_any n w hn
  cases hd : a.down with
  | true =>
    have e : a.create n = (9, a) := by unfold Fs.create; rw [if_pos hd]
    rw [e]; rw [hd] at hs
    clear e hd
    go_enter Try.func39, Try.ntmps39
    go_wp2_with (go_at_call 69; refine hs.mono ?_; rintro e w' ⟨rfl, rfl⟩)
    go_ret
    exact Did.same hg 9
  | false =>
    rw [hd] at hs
    have hd' : ¬ a.down = true := by rw [hd]; simp
    cases hr : rightB n with
    | false =>
      have e : a.create n = (1, a) := by unfold Fs.create; rw [if_neg hd', if_pos hr]
      rw [e]; rw [hr] at hri
      clear e hd hd' hr
      go_enter Try.func39, Try.ntmps39
      go_wp2_with (first
        | (go_at_call 69; refine hs.mono ?_; rintro e w' ⟨rfl, rfl⟩)
        | (go_at_call 70; refine hri.mono ?_; rintro e w' ⟨rfl, rfl⟩))
      go_ret
      exact Did.same hg 1
    | true =>
      have hr' : ¬ rightB n = false := by rw [hr]; simp
      have h0 : w.cell? ⟨f, 0, none⟩ = some (.map (some mb)) := hg.2.2.1.cell rfl
      have hm := hg.2.2.2.1
      cases hgt : getF a.files n with
      | some x =>
        have e : a.create n = (7, a) := by unfold Fs.create; rw [if_neg hd', if_neg hr', if_pos (by rw [hgt]; rfl)]
        obtain ⟨g1, g, xbl, g2, rfl⟩ := hg.get_some hgt
        rw [e]; rw [hr] at hri
        clear e hd hd' hr hr' hgt
        go_enter Try.func39, Try.ntmps39
        go_wp2_with (first
          | (go_at_call 69; refine hs.mono ?_; rintro e w' ⟨rfl, rfl⟩)
          | (go_at_call 70; refine hri.mono ?_; rintro e w' ⟨rfl, rfl⟩)
          | (at_lookup; refine wpList_look_hit _ rfl _ _ 71 rfl 9 99 strKey Try.underlying71 mb _ rfl hm _ _ _ rfl (key_str n hn) (Gh.kv_mem (x := ⟨n, x, g, xbl⟩) (by simp)) ?_))
        go_ret
        exact Did.same hg 7
      | none =>
        have hmiss := Gh.kv_miss (hg.get_none hgt)
        by_cases hfz : a.fuse = 0
        · have e : a.create n = (9, a.fall) := by unfold Fs.create; rw [if_neg hd', if_neg hr', if_neg (by rw [hgt]; simp), if_pos hfz]
          have hbu := burn_out w f a mb gs hg hfz
          rw [e]; rw [hr] at hri
          clear e hd hd' hr hr' hgt hfz
          go_enter Try.func39, Try.ntmps39
          go_wp2_with (first
            | (go_at_call 69; refine hs.mono ?_; rintro e w' ⟨rfl, rfl⟩)
            | (go_at_call 70; refine hri.mono ?_; rintro e w' ⟨rfl, rfl⟩)
            | (at_lookup; refine wpList_look_miss _ rfl _ _ 71 rfl 9 99 strKey Try.underlying71 _ (ptrZero _) mb _ rfl hm _ _ rfl (key_str n hn) hmiss ?_)
            | (go_at_call 71; refine hbu.mono ?_; rintro e w1 ⟨rfl, hg1, hT1⟩))
          go_ret
          exact Did.mk_ hg1 9 hT1
        · have e : a.create n = (0, { a.burn with files := insF a.files n ⟨[], a.stamp + 1, noOld⟩, stamp := a.stamp + 1 }) := by unfold Fs.create; rw [if_neg hd', if_neg hr', if_neg (by rw [hgt]; simp), if_neg hfz]
          have hbu := burn_on w f a mb gs hg hfz hok.fuse1 hok.fuse2
          rw [e]; rw [hr] at hri
          have hfs : a.files = gs.map Gh.fst := hg.2.1
          have HF := Lib.hid hfs
          clear e hd hd' hr hr' hgt hfz hfs
          go_enter Try.func39, Try.ntmps39
          go_wp2_with (first
            | (go_at_call 69; refine hs.mono ?_; rintro e w' ⟨rfl, rfl⟩)
            | (go_at_call 70; refine hri.mono ?_; rintro e w' ⟨rfl, rfl⟩)
            | (at_lookup; refine wpList_look_miss _ rfl _ _ 71 rfl 9 99 strKey Try.underlying71 _ (ptrZero _) mb _ rfl hm _ _ rfl (key_str n hn) hmiss ?_)
            | (go_at_call 71; refine hbu.mono ?_; rintro e w1 ⟨rfl, hg1, hT1⟩)
            | (go_at_call 72; refine (newFile_any _).mono ?_; rintro e w2 ⟨g, xbl, rfl, hr2, hf2, hnew⟩; have hg2 := hg1.fresh hf2; have h02 := hg2.2.2.1.cell (i := 0) rfl; have hm2 := hg2.2.2.2.1)
            | (at_mapUpdate; refine wpList_put_new _ rfl _ _ _ 71 rfl 9 99 strKey Try.underlying71 mb _ rfl hm2 (.string n) (.pointer (some ⟨g, 0, none⟩)) _ rfl rfl (key_str n hn) hmiss ?_; intro w3 hm3 hb3;
                have had := hg2.add ⟨n, ⟨[], 0, noOld⟩, g, xbl⟩ _ (ins_perm gs n ⟨n, ⟨[], 0, noOld⟩, g, xbl⟩) hb3 hm3 _ rfl hr2 (fun b hb1 hb2 => by (have h1 := hnew b hb1; have h2 := hg1.inside b hb2; omega)))
            | (go_at_call 73; refine (mark_any _ f _ mb _ _ ⟨n, ⟨[], 0, noOld⟩, g, xbl⟩ had.1 hst _ rfl).mono ?_; rintro e w4 ⟨rfl, hg4, hT4⟩))
          go_ret
          have e : insF a.files n ⟨[], a.stamp + 1, noOld⟩ = _ := (congrArg (fun l => insF l n ⟨[], a.stamp + 1, noOld⟩) HF.out).trans (insF_map gs n ⟨[], a.stamp + 1, noOld⟩ g xbl)
          rw [e]
          refine Did.mk_ hg4 0 ((((hT1.trans (Turn.fresh hf2)).to fun b hb => ?_).trans had.2).trans ?_)
          · rcases List.mem_append.1 hb with h | h
            · have := hnew b h; have := hT1.size; exact .inr (by omega)
            · exact .inl h
          · have eb : fsBlocks f mb (gs.filter (fun x => nlt x.name n) ++ ⟨n, ⟨[], a.stamp + 1, noOld⟩, g, xbl⟩ :: gs.filter (fun x => !nlt x.name n)) = fsBlocks f mb (gs.filter (fun x => nlt x.name n) ++ ⟨n, ⟨[], 0, noOld⟩, g, xbl⟩ :: gs.filter (fun x => !nlt x.name n)) := by simp [fsBlocks]
            exact eb ▸ hT4
end Go.Proofs.Ytelghdfikcodmaa.vfs
