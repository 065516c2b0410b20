/-
  The contracts of the store's remove, Delete, Rename. My own text.
-/
import Derived.Test.YtelghdfikcodmaaVfsPut
namespace Go.Proofs.Ytelghdfikcodmaa.vfs
open Go.RowKit Go.Maps Go.Proofs.Ytelghdfikcodmaa.base Go.Proofs.Ytelghdfikcodmaa.vfsnum
set_option linter.unusedVariables false

def less (gs : List Gh) (n : ByteArray) : List Gh := gs.filter fun x => decide (x.name ≠ n)
theorem less_miss {gs : List Gh} {n : ByteArray} (h : ∀ x ∈ gs, x.name ≠ n) : less gs n = gs := by unfold less; exact List.filter_eq_self.2 fun x hx => by simpa using h x hx
theorem less_split {g1 g2 : List Gh} {x : Gh} (ha : (g1 ++ x :: g2).Pairwise fun x y => x.name ≠ y.name) : less (g1 ++ x :: g2) x.name = g1 ++ g2 := by
  rw [List.pairwise_append, List.pairwise_cons] at ha
  obtain ⟨_, ⟨h2, _⟩, h4⟩ := ha
  have e1 : less g1 x.name = g1 := less_miss fun y hy => h4 y hy x (by simp)
  have e2 : less g2 x.name = g2 := less_miss fun y hy => (h2 y hy).symm
  unfold less at *
  rw [List.filter_append, List.filter_cons, if_neg (by simp), e1, e2]
theorem delF_less (gs : List Gh) (n : ByteArray) : delF (gs.map Gh.fst) n = (less gs n).map Gh.fst := by
  unfold delF less
  rw [List.filter_map]
  rfl
/-- a file is dropped -/
theorem FsG.drop {w w' : World} {f mb : Nat} {a : Fs} {g1 g2 : List Gh} {x : Gh} (h : FsG w f a mb (g1 ++ x :: g2)) (hbut : But mb w w') (hm : MapOf Try.prog 9 w' mb ((g1 ++ g2).map Gh.kv)) :
    FsG w' f { a with files := (g1 ++ g2).map Gh.fst } mb (g1 ++ g2) ∧ Turn (fsBlocks f mb (g1 ++ x :: g2)) (fsBlocks f mb (g1 ++ g2)) w w' ∧ FileRaw w' x.g (rawOf x.fl) x.bl ∧ ∀ b ∈ x.bl, b ∉ fsBlocks f mb (g1 ++ g2) := by
  have hnd := h.1
  have hsl : (fsBlocks f mb (g1 ++ g2)).Sublist (fsBlocks f mb (g1 ++ x :: g2)) := by
    simp only [fsBlocks, List.flatMap_append, List.flatMap_cons]
    exact ((List.Sublist.append_left (List.sublist_append_right _ _) _).cons_cons mb).cons_cons f
  have hr := h.remap (g1 ++ g2) hbut hm _ rfl (fun y hy => ⟨y, by rcases List.mem_append.1 hy with h | h <;> simp [h], rfl, rfl, rfl⟩) (hnd.sublist hsl)
  have hap : ∀ b ∈ x.bl, b ∉ fsBlocks f mb (g1 ++ g2) := by
    intro b hb hb2
    simp only [fsBlocks, List.flatMap_append, List.flatMap_cons, List.nodup_cons, List.nodup_append, List.mem_append, List.mem_cons] at hnd hb2
    obtain ⟨h1, h2, h3, ⟨h4, h5, h6⟩, h7⟩ := hnd
    rcases hb2 with rfl | rfl | hb2 | hb2
    · exact h1 (.inr (.inr (.inl hb)))
    · exact h2 (.inr (.inl hb))
    · exact h7 b hb2 b (.inl hb) rfl
    · exact h6 b hb b hb2 rfl
  refine ⟨hr.1, hr.2, (h.2.2.2.2 x (by simp)).keep fun b hb => hbut.block b (h.inside b (FsG.block_in b hb)) fun e => ?_, hap⟩
  injection e with e
  exact hap b hb (by simp [fsBlocks, e])
theorem kv_split {g1 g2 : List Gh} {x : Gh} : ((g1 ++ x :: g2).map Gh.kv).Perm ((Value.string x.name, Value.pointer (some ⟨x.g, 0, none⟩)) :: (g1 ++ g2).map Gh.kv) := by
  rw [List.map_append, List.map_cons, List.map_append]
  exact List.perm_middle

set_option maxRecDepth 100000 in
set_option maxHeartbeats 1000000 in
theorem remove_any (w : World) (f : Nat) (a : Fs) (mb : Nat) (gs : List Gh) (n : ByteArray) (h : FsG w f a mb gs) (hok : FsOk a) (hn : n.size ≤ maxLen) :
    Calls Try.prog 81 #[fsPtr f, .string n] w fun e w' => e = .returned (.tuple #[]) ∧ FsG w' f (a.remove n) mb (less gs n) ∧ Turn (fsBlocks f mb gs) (fsBlocks f mb (less gs n)) w w' := by
  have h0 : w.cell? ⟨f, 0, none⟩ = some (.map (some mb)) := h.2.2.1.cell rfl
  have hm := h.2.2.2.1
  cases hgt : getF a.files n with
  | none =>
    have hno := h.get_none hgt
    have hmiss := Gh.kv_miss hno
    have e : a.remove n = { a with files := gs.map Gh.fst } := by
      unfold Fs.remove
      rw [hgt, ← h.2.1]
      have : delF a.files n = a.files := by rw [h.2.1, delF_less, less_miss hno]
      rw [this]
      rfl
    have E := Lib.hid e
    have EL := Lib.hid (less_miss hno)
    clear e hgt hno
    go_enter Try.func81, Try.ntmps81
    go_wp2_with (at_lookup; refine wpList_look_miss _ rfl _ _ 71 rfl 9 99 strKey Try.underlying71 _ (ptrZero _) mb _ rfl hm _ _ rfl (key_str n hn) hmiss ?_)
    go_end0
    rw [E.out, EL.out]
    exact ⟨rfl, ⟨h.1, rfl, h.2.2.1, h.2.2.2.1, h.2.2.2.2⟩, Turn.refl _ _⟩
  | some x =>
    obtain ⟨g1, g, xbl, g2, rfl⟩ := h.get_some hgt
    have h1 : w.cell? ⟨f, 1, none⟩ = some (.int .i64 a.room) := h.2.2.1.cell rfl
    have hf := h.2.2.1.free 1
    have hx := h.2.2.2.2 ⟨n, x, g, xbl⟩ (by simp)
    obtain ⟨A, c, h2⟩ := hx.secs
    have h2' : w.cell? ⟨g, 2, none⟩ = some (.slice A (tk x) c) := h2
    have hsum := sum_tk hok hgt
    have hlo := less_split h.apart
    have e : a.remove n = { a with files := (g1 ++ g2).map Gh.fst, room := a.room + tk x } := by
      unfold Fs.remove
      rw [hgt, h.2.1, delF_less, show less (g1 ++ ⟨n, x, g, xbl⟩ :: g2) n = g1 ++ g2 from hlo]
    have hp := h.put 1 (.int .i64 ((a.room : Int) + (tk x : Int))) { a with room := a.room + tk x } rfl rfl
    have E := Lib.hid e
    have EL := Lib.hid hlo
    have HP := Lib.hid hp
    have H := Lib.hid h
    clear e hgt hlo hp h2 hx h
    go_enter Try.func81, Try.ntmps81
    go_wp2_with (at_lookup; refine wpList_look_hit _ rfl _ _ 71 rfl 9 99 strKey Try.underlying71 mb _ rfl hm _ _ _ rfl (key_str n hn) (Gh.kv_mem (x := ⟨n, x, g, xbl⟩) (by simp)) ?_)
    go_region
    have hg1 := HP.out.1.fresh (Fresh.drew _)
    have h01 := hg1.2.2.1.cell (i := 0) rfl
    have hm1 := hg1.2.2.2.1
    go_wp2_with ((with_reducible (refine at_none_ ?_)); (refine wpList_drop_hit _ rfl (.tmp 28) (.tmp 29) 71 9 rfl 99 strKey Try.underlying71 mb _ _ _ rfl hm1 _ _ rfl (key_str n hn) (kv_split (x := ⟨n, x, g, xbl⟩)) ?_); intro w2 hm2 hb2; have hdr := hg1.drop hb2 hm2)
    go_end0
    rw [E.out, EL.out]
    exact ⟨rfl, hdr.1, (HP.out.2.trans (Turn.fresh (Fresh.drew _))).trans hdr.2.1⟩

set_option maxRecDepth 100000 in
set_option maxHeartbeats 1000000 in
theorem delete_fs (w : World) (f : Nat) (a : Fs) (bl : List Nat) (n : ByteArray) (h : FsAt w f a bl) (hok : FsOk a) (hn : n.size ≤ maxLen) :
    Calls Try.prog 45 #[fsPtr f, .string n] w (Did w f bl (a.delete n)) := by
  obtain ⟨mb, gs, rfl, hg⟩ := h
  cases hd : a.down with
  | true =>
    have e : a.delete n = (9, a) := by unfold Fs.delete; rw [if_pos hd]
    have hfi := find_down n w f a mb gs hg hd
    rw [e]
    clear e hd
    go_enter Try.func45, Try.ntmps45
    go_wp2_with (go_at_call 74; refine hfi.mono ?_; rintro e w' ⟨rfl, rfl⟩)
    go_ret
    exact Did.same hg 9
  | false =>
    have hd' : ¬ a.down = true := by rw [hd]; simp
    cases hgt : getF a.files n with
    | none =>
      have e : a.delete n = (6, a) := by unfold Fs.delete; rw [if_neg hd', hgt]
      have hfi := find_miss n w f a mb gs hg hd (hg.get_none hgt) hn
      rw [e]
      clear e hd hd' hgt
      go_enter Try.func45, Try.ntmps45
      go_wp2_with (go_at_call 74; refine hfi.mono ?_; rintro e w' ⟨rfl, rfl⟩)
      go_ret
      exact Did.same hg 6
    | some x =>
      obtain ⟨g1, g, xbl, g2, rfl⟩ := hg.get_some hgt
      have hfi := find_hit ⟨n, x, g, xbl⟩ w f a mb _ hg hd (by simp) hn
      by_cases hfz : a.fuse = 0
      · have e : a.delete n = (9, a.fall) := by unfold Fs.delete; rw [if_neg hd', hgt]; simp only; rw [if_pos hfz]
        have hbu := burn_out w f a mb _ hg hfz
        rw [e]
        clear e hd hd' hgt hfz
        go_enter Try.func45, Try.ntmps45
        go_wp2_with (first
          | (go_at_call 74; refine hfi.mono ?_; rintro e w' ⟨rfl, rfl⟩)
          | (go_at_call 71; refine hbu.mono ?_; rintro e w1 ⟨rfl, hg1, hT1⟩))
        go_ret
        exact Did.mk_ hg1 9 hT1
      · have e : a.delete n = (0, a.burn.remove n) := by unfold Fs.delete; rw [if_neg hd', hgt]; simp only; rw [if_neg hfz]
        have hbu := burn_on w f a mb _ hg hfz hok.fuse1 hok.fuse2
        have hokb : FsOk a.burn := ⟨hok.names, hok.sorted, hok.fls, hok.sum, (burn_fuse a hok.fuse1 hok.fuse2).1, (burn_fuse a hok.fuse1 hok.fuse2).2⟩
        rw [e]
        clear e hd hd' hgt hfz
        go_enter Try.func45, Try.ntmps45
        go_wp2_with (first
          | (go_at_call 74; refine hfi.mono ?_; rintro e w' ⟨rfl, rfl⟩)
          | (go_at_call 71; refine hbu.mono ?_; rintro e w1 ⟨rfl, hg1, hT1⟩)
          | (go_at_call 81; (refine (remove_any w1 f _ mb _ n hg1 hokb hn).mono ?_); rintro e w2 ⟨rfl, hg2, hT2⟩))
        go_ret
        exact Did.mk_ hg2 0 (hT1.trans hT2)

set_option maxRecDepth 100000 in
set_option maxHeartbeats 2000000 in
theorem rename_fs (w : World) (f : Nat) (a : Fs) (bl : List Nat) (n m : ByteArray) (h : FsAt w f a bl) (hok : FsOk a) (hst : a.stamp < 4611686018427387904) (hn : n.size ≤ maxLen) (hm : m.size ≤ maxLen) :
    Calls Try.prog 44 #[fsPtr f, .string n, .string m] w (Did w f bl (a.rename n m)) := by
  obtain ⟨mb, gs, rfl, hg⟩ := h
  have hri := right_any m
  cases hd : a.down with
  | true =>
    have e : a.rename n m = (9, a) := by unfold Fs.rename; rw [if_pos hd]
    have hfi := find_down n w f a mb gs hg hd
    rw [e]
    clear e hd hri
    go_enter Try.func44, Try.ntmps44
    go_wp2_with (go_at_call 74; refine hfi.mono ?_; rintro e w' ⟨rfl, rfl⟩)
    go_ret
    exact Did.same hg 9
  | false =>
    have hd' : ¬ a.down = true := by rw [hd]; simp
    cases hgt : getF a.files n with
    | none =>
      have e : a.rename n m = (6, a) := by unfold Fs.rename; rw [if_neg hd', hgt]
      have hfi := find_miss n w f a mb gs hg hd (hg.get_none hgt) hn
      rw [e]
      clear e hd hd' hgt hri
      go_enter Try.func44, Try.ntmps44
      go_wp2_with (go_at_call 74; refine hfi.mono ?_; rintro e w' ⟨rfl, rfl⟩)
      go_ret
      exact Did.same hg 6
    | some x =>
      have hgx := hg.get_some hgt
      obtain ⟨g1, g, xbl, g2, hgs⟩ := hgx
      have hxm : (⟨n, x, g, xbl⟩ : Gh) ∈ gs := by rw [hgs]; simp
      have hfi := find_hit ⟨n, x, g, xbl⟩ w f a mb _ hg hd hxm hn
      cases hr : rightB m with
      | false =>
        have e : a.rename n m = (1, a) := by unfold Fs.rename; rw [if_neg hd', hgt]; simp only; rw [if_pos (.inl hr)]
        rw [e]; rw [hr] at hri
        clear e hd hd' hgt hr
        go_enter Try.func44, Try.ntmps44
        go_wp2_with (first
          | (go_at_call 74; refine hfi.mono ?_; rintro e w' ⟨rfl, rfl⟩)
          | (go_at_call 70; refine (hri _ hm).mono ?_; rintro e w' ⟨rfl, rfl⟩))
        go_ret
        exact Did.same hg 1
      | true =>
        rw [hr] at hri
        by_cases hmn : m = n
        · have e : a.rename n m = (1, a) := by unfold Fs.rename; rw [if_neg hd', hgt]; simp only; rw [if_pos (.inr hmn)]
          rw [e]
          subst hmn
          clear e hd hd' hgt hr
          go_enter Try.func44, Try.ntmps44
          go_wp2_with (first
            | (go_at_call 74; refine hfi.mono ?_; rintro e w' ⟨rfl, rfl⟩)
            | (go_at_call 70; refine (hri _ hm).mono ?_; rintro e w' ⟨rfl, rfl⟩))
          go_ret
          exact Did.same hg 1
        · have hcond : ¬ (rightB m = false ∨ m = n) := by rw [hr]; simp [hmn]
          have hmb : (m.toList == n.toList) = false := by
            rw [beq_eq_false_iff_ne, ByteArray.toList_eq, ByteArray.toList_eq]
            intro e
            exact hmn (by cases m; cases n; simp at e; rw [e])
          by_cases hfz : a.fuse = 0
          · have e : a.rename n m = (9, a.fall) := by unfold Fs.rename; rw [if_neg hd', hgt]; simp only; rw [if_neg hcond, if_pos hfz]
            have hbu := burn_out w f a mb _ hg hfz
            rw [e]
            clear e hd hd' hgt hfz hr hcond
            go_enter Try.func44, Try.ntmps44
            go_wp2_with (first
              | (go_at_call 74; refine hfi.mono ?_; rintro e w' ⟨rfl, rfl⟩)
              | (go_at_call 70; refine (hri _ hm).mono ?_; rintro e w' ⟨rfl, rfl⟩)
              | (go_at_call 71; refine hbu.mono ?_; rintro e w1 ⟨rfl, hg1, hT1⟩))
            go_ret
            exact Did.mk_ hg1 9 hT1
          · have e : a.rename n m = (0, { a.burn.remove m with files := insF (delF (delF a.files m) n) m { x with stamp := a.stamp + 1 }, stamp := a.stamp + 1 }) := by unfold Fs.rename; rw [if_neg hd', hgt]; simp only; rw [if_neg hcond, if_neg hfz]
            have hbu := burn_on w f a mb _ hg hfz hok.fuse1 hok.fuse2
            have hokb : FsOk a.burn := ⟨hok.names, hok.sorted, hok.fls, hok.sum, (burn_fuse a hok.fuse1 hok.fuse2).1, (burn_fuse a hok.fuse1 hok.fuse2).2⟩
            obtain ⟨k1, k2, hk⟩ : ∃ k1 k2, less gs m = k1 ++ ⟨n, x, g, xbl⟩ :: k2 := List.append_of_mem (List.mem_filter.2 ⟨hxm, by simpa using fun e => hmn e.symm⟩)
            have hkap : (k1 ++ (⟨n, x, g, xbl⟩ : Gh) :: k2).Pairwise fun x y => x.name ≠ y.name := by rw [← hk]; exact hg.apart.filter _
            have hkm : ∀ y ∈ k1 ++ k2, y.name ≠ m := fun y hy => by
              have : y ∈ less gs m := by rw [hk]; rcases List.mem_append.1 hy with h | h <;> simp [h]
              simpa using (List.mem_filter.1 this).2
            have hmiss := Gh.kv_miss hkm
            have hins : insF (delF (delF a.files m) n) m { x with stamp := a.stamp + 1 } = ((k1 ++ k2).filter (fun y => nlt y.name m) ++ ⟨m, { x with stamp := a.stamp + 1 }, g, xbl⟩ :: (k1 ++ k2).filter (fun y => !nlt y.name m)).map Gh.fst := by
              rw [hg.2.1, delF_less, hk, delF_less, show less (k1 ++ ⟨n, x, g, xbl⟩ :: k2) n = k1 ++ k2 from less_split hkap, insF_map _ _ _ g xbl]
            have hst2 : (a.burn.remove m).stamp < 4611686018427387904 := hst
            have E := Lib.hid e
            have HK := Lib.hid hk
            have HI := Lib.hid hins
            clear e hd hd' hgt hfz hr hcond hk hins hkm hkap hgs
            go_enter Try.func44, Try.ntmps44
            go_wp2_with (first
              | (go_at_call 74; refine hfi.mono ?_; rintro e w' ⟨rfl, rfl⟩)
              | (go_at_call 70; refine (hri _ hm).mono ?_; rintro e w' ⟨rfl, rfl⟩)
              | (go_at_call 71; refine hbu.mono ?_; rintro e w1 ⟨rfl, hg1, hT1⟩)
              | (go_at_call 81; (refine (remove_any w1 f _ mb _ m hg1 hokb hm).mono ?_); rintro e w2 ⟨rfl, hg2, hT2⟩; rw [HK.out] at hg2 hT2; have h20 := hg2.2.2.1.cell (i := 0) rfl; have hm2 := hg2.2.2.2.1)
              | (at_mapUpdate; refine wpList_put_new _ rfl _ _ _ 71 rfl 9 99 strKey Try.underlying71 mb _ rfl hm3 (.string m) (.pointer (some ⟨g, 0, none⟩)) _ rfl rfl (key_str m hm) hmiss ?_; intro w4 hm4 hb4;
                  have had := hdr.1.add ⟨m, x, g, xbl⟩ _ (ins_perm (k1 ++ k2) m ⟨m, x, g, xbl⟩) hb4 hm4 _ rfl hdr.2.2.1 hdr.2.2.2)
              | ((with_reducible (refine at_none_ ?_)); refine wpList_drop_hit _ rfl (.tmp 38) (.tmp 39) 71 9 rfl 99 strKey Try.underlying71 mb _ _ _ rfl hm2 _ _ rfl (key_str n hn) (kv_split (x := ⟨n, x, g, xbl⟩)) ?_; intro w3 hm3 hb3; have hdr := hg2.drop hb3 hm3; have h30 := hdr.1.2.2.1.cell (i := 0) rfl)
              | (go_at_call 73; refine (mark_any _ f _ mb _ _ ⟨m, x, g, xbl⟩ had.1 hst2 _ rfl).mono ?_; rintro e w5 ⟨rfl, hg5, hT5⟩))
            go_ret
            rw [E.out, HI.out]
            refine Did.mk_ hg5 0 (((((hT1.trans hT2).trans hdr.2.1).to fun b hb => ?_).trans had.2).trans ?_)
            · rcases List.mem_append.1 hb with h | h
              · refine .inl ?_
                simp only [fsBlocks, List.mem_cons, List.mem_flatMap]
                exact .inr (.inr ⟨_, hxm, h⟩)
              · exact ((hT1.trans hT2).trans hdr.2.1).sub b h
            · have eb : fsBlocks f mb ((k1 ++ k2).filter (fun y => nlt y.name m) ++ ⟨m, { x with stamp := a.stamp + 1 }, g, xbl⟩ :: (k1 ++ k2).filter (fun y => !nlt y.name m)) = fsBlocks f mb ((k1 ++ k2).filter (fun y => nlt y.name m) ++ ⟨m, x, g, xbl⟩ :: (k1 ++ k2).filter (fun y => !nlt y.name m)) := by simp [fsBlocks]
              exact eb ▸ hT5
end Go.Proofs.Ytelghdfikcodmaa.vfs
