/-
  The contract of the reference's Rename. My own text.
-/
import Derived.Test.YtelghdfikcodmaaRefRow
namespace Go.Proofs.Ytelghdfikcodmaa.vref
open Go.RowKit Go.Maps Go.Proofs.Ytelghdfikcodmaa.base Go.Proofs.Ytelghdfikcodmaa.vfsnum Go.Proofs.Ytelghdfikcodmaa.vfs
set_option linter.unusedVariables false

theorem RefG.at_ {w : World} {f m : Nat} {a : Fs} {b off c : Nat} {gs : List Gh} (h : RefG w f m a (some ⟨b, off, none⟩) c gs) {k : Nat} {x : Gh} (hk : gs[k]? = some x) : w.cell? ⟨b, off + k, none⟩ = some (.pointer (some ⟨x.g, 0, none⟩)) := by
  obtain ⟨b2, off2, e, hc⟩ := h.elem hk
  injection e with e
  injection e with e1 e2
  subst e1; subst e2
  exact hc
theorem split_gs {gs : List Gh} {n : ByteArray} (hs : gs.Pairwise fun x y => nlt x.name y.name = true) (hno : ∀ x ∈ gs, x.name ≠ n) : ∃ g1 g2, gs = g1 ++ g2 ∧ (∀ y ∈ g1, nlt y.name n = true) ∧ (∀ y ∈ g2, nlt n y.name = true) := by
  induction gs with
  | nil => exact ⟨[], [], rfl, by simp, by simp⟩
  | cons y r ih =>
    rw [List.pairwise_cons] at hs
    obtain ⟨g1, g2, e, h1, h2⟩ := ih hs.2 (fun x hx => hno x (by simp [hx]))
    rcases nlt_total (hno y (by simp)) with hlt | hlt
    · refine ⟨y :: g1, g2, by rw [e]; rfl, fun z hz => ?_, h2⟩
      rcases List.mem_cons.1 hz with rfl | hz
      · exact hlt
      · exact h1 z hz
    · refine ⟨[], y :: r, rfl, by simp, fun z hz => ?_⟩
      rcases List.mem_cons.1 hz with rfl | hz
      · exact hlt
      · exact nlt_trans hlt (hs.1 z hz)
theorem less_comm (gs : List Gh) (n m : ByteArray) : less (less gs n) m = less (less gs m) n := by
  unfold less
  rw [List.filter_filter, List.filter_filter]
  congr 1
  funext x
  exact Bool.and_comm _ _
theorem less_two {g1 g2 : List Gh} {x : Gh} (h1 : ∀ y ∈ g1, y.name ≠ x.name) (h2 : ∀ y ∈ g2, y.name ≠ x.name) : less (g1 ++ x :: g2) x.name = g1 ++ g2 := by
  unfold less
  rw [List.filter_append, List.filter_cons, if_neg (by simp), List.filter_eq_self.2 fun y hy => by simpa using h1 y hy, List.filter_eq_self.2 fun y hy => by simpa using h2 y hy]
theorem RefG.sorted {w : World} {f m : Nat} {a : Fs} {A : Option Addr} {c : Nat} {gs : List Gh} (h : RefG w f m a A c gs) (hok : FsOk a) : gs.Pairwise fun x y => nlt x.name y.name = true := by
  have hs := hok.sorted
  rw [h.2.1, List.pairwise_map] at hs
  exact hs
theorem most_rename {a : Fs} (hok : FsOk a) {n m : ByteArray} {x : Fl} (hg : getF a.files n = some x) (hmn : n ≠ m) (s : Nat) : most { a.burn.remove m with files := insF (delF (delF a.files m) n) m { x with stamp := s }, stamp := s } = most a := by
  have hf := FsOk.flist hok
  have h1 := sum_del (apart_of_sorted hok.sorted) m
  have h2 := sum_del (apart_of_sorted (flist_del hf m).2.1) n
  rw [(getF_del_other hf hmn).trans hg] at h2
  have h3 := sum_ins (delF (delF a.files m) n) m { x with stamp := s }
  have h4 : tk { x with stamp := s } = tk x := rfl
  have h5 : tkOf (some x) = tk x := rfl
  have h6 : most { a.burn.remove m with files := insF (delF (delF a.files m) n) m { x with stamp := s }, stamp := s } = a.room + tkOf (getF a.files m) + ((insF (delF (delF a.files m) n) m { x with stamp := s }).map fun p => tk p.2).sum := rfl
  have h7 : most a = a.room + (a.files.map fun p => tk p.2).sum := rfl
  rw [h6, h7, h3]
  omega
/-- the other name is written -/
theorem renamed {w : World} {f m : Nat} {a : Fs} {A : Option Addr} {c : Nat} {gs : List Gh} {g : Nat} {n : ByteArray} {r : RRaw} {bl : List Nat} (h : RefG w f m a A c gs) (hr : RFile w g n r bl) (hap : ∀ b ∈ bl, b ∉ rsBlocks f A gs) (t : ByteArray) :
    RefG (w.setCell ⟨g, 0, none⟩ (.string t)) f m a A c gs ∧ RFile (w.setCell ⟨g, 0, none⟩ (.string t)) g t r bl ∧ Turn (bl ++ rsBlocks f A gs) (bl ++ rsBlocks f A gs) w (w.setCell ⟨g, 0, none⟩ (.string t)) :=
  ⟨h.keep fun b hb => Below.heap_setCell w ⟨g, 0, none⟩ _ b (fun e => hap g hr.head.1 ((show b = g from e) ▸ hb)), hr.named t, Turn.but (But.put w _) (by simp [hr.head.1])⟩

set_option maxRecDepth 100000 in
set_option maxHeartbeats 2000000 in
theorem rename_r (w : World) (f : Nat) (a : Fs) (bl : List Nat) (n m : ByteArray) (h : RefAt w f a bl) (hok : FsOk a) (hlen : a.files.length ≤ 1048576) (hst : a.stamp < 4611686018427387904) (hm : m.size ≤ maxLen) :
    Calls Try.prog 51 #[.pointer (some ⟨f, 0, none⟩), .string n, .string m] w (RDid w f bl (a.rename n m)) := by
  obtain ⟨A, c, gs, rfl, hg⟩ := h
  have h4 : w.cell? ⟨f, 4, none⟩ = some (.bool a.down) := hg.2.2.1.cell rfl
  have hri := right_r m w hm
  cases hd : a.down with
  | true =>
    have e : a.rename n m = (9, a) := by unfold Fs.rename; rw [if_pos hd]
    rw [e]; rw [hd] at h4
    clear e hd
    go_enter Try.func51, Try.ntmps51
    go_wp2
    go_ret
    exact RDid.same hg 9
  | false =>
    have hd' : ¬ a.down = true := by rw [hd]; simp
    rw [hd] at h4
    cases hgt : getF a.files n with
    | none =>
      have e : a.rename n m = (6, a) := by unfold Fs.rename; rw [if_neg hd', hgt]
      have hfi := find_no w f _ a A c gs n hg (hg.get_none hgt) (by rw [hg.len]; exact hlen)
      rw [e]
      clear e hd hd' hgt
      go_enter Try.func51, Try.ntmps51
      go_wp2_with (go_at_call 84; refine hfi.mono ?_; rintro e w' ⟨rfl, rfl⟩)
      go_ret
      exact RDid.same hg 6
    | some x =>
      obtain ⟨g1, g, xbl, g2, rfl, hn1, hn2⟩ := hg.get_some hok hgt
      have hln : (g1 ++ (⟨n, x, g, xbl⟩ : Gh) :: g2).length ≤ 1048576 := by rw [hg.len]; exact hlen
      have hfi := find_at w f _ a A c g1 g2 ⟨n, x, g, xbl⟩ hg hn1 hln
      cases hr : rightB m with
      | false =>
        have e : a.rename n m = (1, a) := by unfold Fs.rename; rw [if_neg hd', hgt]; simp only; rw [if_pos (.inl hr)]
        rw [e]; rw [hr] at hri
        clear e hd hd' hgt hr
        go_enter Try.func51, Try.ntmps51
        go_wp2_with (first
          | (go_at_call 84; refine hfi.mono ?_; rintro e w' ⟨rfl, rfl⟩)
          | (go_at_call 83; refine hri.mono ?_; rintro e w' ⟨rfl, rfl⟩))
        go_ret
        exact RDid.same hg 1
      | true =>
        rw [hr] at hri
        by_cases hmn : m = n
        · have e : a.rename n m = (1, a) := by unfold Fs.rename; rw [if_neg hd', hgt]; simp only; rw [if_pos (.inr hmn)]
          rw [e]
          subst hmn
          clear e hd hd' hgt hr
          go_enter Try.func51, Try.ntmps51
          go_wp2_with (first
            | (go_at_call 84; refine hfi.mono ?_; rintro e w' ⟨rfl, rfl⟩)
            | (go_at_call 83; refine hri.mono ?_; rintro e w' ⟨rfl, rfl⟩))
          go_ret
          exact RDid.same hg 1
        · have hcond : ¬ (rightB m = false ∨ m = n) := by rw [hr]; simp [hmn]
          have hmb := str_ne hmn
          by_cases hfz : a.fuse = 0
          · have e : a.rename n m = (9, a.fall) := by unfold Fs.rename; rw [if_neg hd', hgt]; simp only; rw [if_neg hcond, if_pos hfz]
            have hbu := burn_out w f _ a A c _ hg hfz
            rw [e]
            clear e hd hd' hgt hfz hr hcond
            go_enter Try.func51, Try.ntmps51
            go_wp2_with (first
              | (go_at_call 84; refine hfi.mono ?_; rintro e w' ⟨rfl, rfl⟩)
              | (go_at_call 83; refine hri.mono ?_; rintro e w' ⟨rfl, rfl⟩)
              | (go_at_call 85; refine hbu.mono ?_; rintro e w1 ⟨rfl, hg1, hT1⟩))
            go_ret
            exact RDid.mk_ hg1 9 hT1 rfl
          · have e : a.rename n m = (0, { a.burn.remove m with files := insF (delF (delF a.files m) n) m { x with stamp := a.stamp + 1 }, stamp := a.stamp + 1 }) := by unfold Fs.rename; rw [if_neg hd', hgt]; simp only; rw [if_neg hcond, if_neg hfz]
            have hbu := burn_on w f _ a A c _ hg hfz hok.fuse1 hok.fuse2
            have hmo := most_rename hok hgt (fun e => hmn e.symm) (a.stamp + 1)
            have hsr := hg.sorted hok
            have hidx : (g1 ++ (⟨n, x, g, xbl⟩ : Gh) :: g2)[g1.length]? = some ⟨n, x, g, xbl⟩ := by rw [List.getElem?_append_right (Nat.le_refl _), Nat.sub_self]; rfl
            obtain ⟨b0, off0, rfl, _⟩ := hg.elem hidx
            have hle1 : less (g1 ++ (⟨n, x, g, xbl⟩ : Gh) :: g2) n = g1 ++ g2 := less_two (x := ⟨n, x, g, xbl⟩) hn1 hn2
            have hfiles : delF (delF a.files m) n = (less (g1 ++ g2) m).map Gh.fst := by rw [hg.2.1, delF_less, delF_less, less_comm, hle1]
            have hsub : (g1 ++ g2).Sublist (g1 ++ (⟨n, x, g, xbl⟩ : Gh) :: g2) := List.Sublist.append_left (List.sublist_cons_self _ _) _
            have hsr2 := hsr.sublist hsub
            have hlt1 : g1.length < (g1 ++ (⟨n, x, g, xbl⟩ : Gh) :: g2).length := by simp
            have hln2 : (g1 ++ g2).length ≤ 1048576 := by have := hsub.length_le; omega
            have hst2 : a.burn.stamp < 4611686018427387904 := hst
            have h0 : ∀ w1, RefG w1 f (most a) a.burn (some ⟨b0, off0, none⟩) c (g1 ++ (⟨n, x, g, xbl⟩ : Gh) :: g2) → w1.cell? ⟨f, 0, none⟩ = some (.slice (some ⟨b0, off0, none⟩) (g1 ++ (⟨n, x, g, xbl⟩ : Gh) :: g2).length c) := fun w1 h => h.2.2.1.cell rfl
            obtain ⟨N, hN⟩ : ∃ N, (g1 ++ (⟨n, x, g, xbl⟩ : Gh) :: g2).length = N := ⟨_, rfl⟩
            rw [hN] at h0 hlt1
            obtain ⟨K, hK⟩ : ∃ K, g1.length = K := ⟨_, rfl⟩
            have hdr := fun w1 h => drop_r w1 f (most a) a.burn (some ⟨b0, off0, none⟩) c g1 g2 ⟨n, x, g, xbl⟩ h hln
            rw [hK] at hfi hlt1 hidx hdr
            have HI := Lib.hid hidx
            have E := Lib.hid e
            have HFI := Lib.hid hfiles
            have HMO := Lib.hid hmo
            have HSR := Lib.hid hsr2
            have H0 := Lib.hid h0
            have HDR := Lib.hid hdr
            have hKb : K ≤ 1048576 := by omega
            cases hgm : (g1 ++ g2).find? fun y => decide (y.name = m) with
            | none =>
              have hno : ∀ y ∈ g1 ++ g2, y.name ≠ m := fun y hy => by simpa using List.find?_eq_none.1 hgm y hy
              obtain ⟨k1, k2, hkk, hl1, hl2⟩ := split_gs hsr2 hno
              have HL : Hid (less (g1 ++ g2) m = k1 ++ k2) := (less_miss hno).trans hkk
              have HNO := Lib.hid hno
              have HKK := Lib.hid hkk
              clear e hd hd' hgt hfz hr hcond hidx hfiles hmo hsr hsr2 h0 hdr hgm hno hN hK hsub hle1 hkk
              go_enter Try.func51, Try.ntmps51
              go_wp2_with (first
                | (go_at_call 84; (with_reducible refine hfi.mono ?_); rintro e w' ⟨rfl, rfl⟩; clear hfi)
                | (go_at_call 83; refine hri.mono ?_; rintro e w' ⟨rfl, rfl⟩)
                | (go_at_call 85; refine hbu.mono ?_; rintro e w1 ⟨rfl, hg1, hT1⟩; have h01 := H0.out w1 hg1; have hc1 := hg1.at_ HI.out; have hdr1 := HDR.out w1 hg1)
                | (go_at_call 89; (with_reducible refine hdr1.mono ?_); rintro e w2 ⟨rfl, A2, c2, hg2, hT2, hr2, hap2⟩; clear hdr1; have hf2 := find_no w2 f _ _ A2 c2 _ m hg2 HNO.out hln2; obtain ⟨ht2, hz2⟩ := hr2.title; have hrn := renamed hg2 hr2 hap2 m; rw [HKK.out] at hrn; have HRN := Lib.hid hrn; clear hrn)
                | (go_at_call 84; (with_reducible refine hf2.mono ?_); rintro e w' ⟨rfl, rfl⟩; clear hf2)
                | (go_at_call 87; refine (insert_r _ f _ _ A2 c2 k1 k2 ⟨m, x, g, xbl⟩ HRN.out.1 (by rw [← HKK.out]; exact hln2) hl1 hl2 HRN.out.2.1 (by rw [← HKK.out]; exact hap2)).mono ?_; rintro e w3 ⟨rfl, A3, c3, hg3, hT3⟩)
                | (go_at_call 86; refine (stamped_r w3 f _ _ A3 c3 k1 k2 ⟨m, x, g, xbl⟩ hg3 hst2 _ rfl).mono ?_; rintro e w4 ⟨rfl, hg4, hT4⟩))
              rw [HKK.out] at hT2
              have TT := hT1.trans hT2
              go_ret
              rw [E.out]
              have e3 : insF (delF (delF a.files m) n) m { x with stamp := a.stamp + 1 } = (k1 ++ ⟨m, { x with stamp := a.stamp + 1 }, g, xbl⟩ :: k2).map Gh.fst := by rw [HFI.out, HL.out]; exact ins_split hl1 hl2 _ g xbl
              have hmo := HMO.out
              rw [e3] at hmo ⊢
              have hg5 : RefG w4 f (most a) { a.burn.remove m with files := (k1 ++ ⟨m, { x with stamp := a.stamp + 1 }, g, xbl⟩ :: k2).map Gh.fst, stamp := a.stamp + 1 } A3 c3 (k1 ++ ⟨m, { x with stamp := a.stamp + 1 }, g, xbl⟩ :: k2) := ⟨hg4.1, rfl, hg4.2.2.1, hg4.2.2.2.1, hg4.2.2.2.2⟩
              have eb : rsBlocks f A3 (k1 ++ ⟨m, { x with stamp := a.stamp + 1 }, g, xbl⟩ :: k2) = rsBlocks f A3 (k1 ++ ⟨m, x, g, xbl⟩ :: k2) := by simp [rsBlocks]
              refine RDid.mk_ hg5 0 (eb ▸ ((((TT.to fun b hb => ?_).trans HRN.out.2.2).trans hT3).trans hT4)) hmo.symm
              rcases List.mem_append.1 hb with h | h
              · refine .inl ?_
                simp only [rsBlocks, List.flatMap_append, List.flatMap_cons, List.mem_cons, List.mem_append]
                exact .inr (.inr (.inr (.inl h)))
              · exact TT.sub b h
            | some Y =>
              obtain ⟨p1, p2, hpp⟩ := List.append_of_mem (List.mem_of_find?_eq_some hgm)
              have hYm : Y.name = m := by simpa using List.find?_some hgm
              subst hYm
              have hsp := hsr2
              rw [hpp, List.pairwise_append, List.pairwise_cons] at hsp
              have hp1 : ∀ y ∈ p1, y.name ≠ Y.name := fun y hy => nlt_ne (hsp.2.2 y hy Y (by simp))
              have hp2 : ∀ y ∈ p2, y.name ≠ Y.name := fun y hy e => nlt_ne (hsp.2.1.1 y hy) e.symm
              have hl3 : less (g1 ++ g2) Y.name = p1 ++ p2 := by rw [hpp]; exact less_two hp1 hp2
              have hsub3 : (p1 ++ p2).Sublist (g1 ++ g2) := by rw [hpp]; exact List.Sublist.append_left (List.sublist_cons_self _ _) _
              have hno : ∀ y ∈ p1 ++ p2, y.name ≠ Y.name := fun y hy => by rcases List.mem_append.1 hy with h | h; exact hp1 y h; exact hp2 y h
              obtain ⟨k1, k2, hkk, hl1, hl2⟩ := split_gs (hsr2.sublist hsub3) hno
              have HL : Hid (less (g1 ++ g2) Y.name = k1 ++ k2) := hl3.trans hkk
              have HKK := Lib.hid hkk
              have HPP := Lib.hid hpp
              have HP1 := Lib.hid hp1
              have hln3 : (p1 ++ p2).length ≤ 1048576 := by have := hsub3.length_le; omega
              have hln4 : (p1 ++ Y :: p2).length ≤ 1048576 := by rw [← hpp]; exact hln2
              clear e hd hd' hgt hfz hr hcond hidx hfiles hmo hsr hsr2 h0 hdr hgm hno hN hK hsub hle1 hkk hsp hp1 hp2 hl3 hsub3 hpp
              go_enter Try.func51, Try.ntmps51
              go_wp2_with (first
                | (go_at_call 84; (with_reducible refine hfi.mono ?_); rintro e w' ⟨rfl, rfl⟩; clear hfi)
                | (go_at_call 83; refine hri.mono ?_; rintro e w' ⟨rfl, rfl⟩)
                | (go_at_call 85; refine hbu.mono ?_; rintro e w1 ⟨rfl, hg1, hT1⟩; have h01 := H0.out w1 hg1; have hc1 := hg1.at_ HI.out; have hdr1 := HDR.out w1 hg1)
                | (go_at_call 89; (with_reducible refine hdr1.mono ?_); rintro e w2 ⟨rfl, A2, c2, hg2, hT2, hr2, hap2⟩; clear hdr1; rw [HPP.out] at hg2 hT2 hap2; have hf2 := find_at w2 f _ _ A2 c2 p1 p2 Y hg2 HP1.out hln4; have hdr2 := drop_r w2 f _ _ A2 c2 p1 p2 Y hg2 hln4)
                | (go_at_call 84; (with_reducible refine hf2.mono ?_); rintro e w' ⟨rfl, rfl⟩; clear hf2)
                | (go_at_call 89; (with_reducible refine hdr2.mono ?_); rintro e w5 ⟨rfl, A5, c5, hg5, hT5, _, _⟩; clear hdr2; have hr5 := hr2.keep (w' := w5) (fun b hb => hT5.block b (hr2.inside b hb) (hap2 b hb)); have hap5 : ∀ b ∈ xbl, b ∉ rsBlocks f A5 (p1 ++ p2) := (fun b hb => hT5.apart (hr2.inside b hb) (hap2 b hb)); obtain ⟨ht2, hz2⟩ := hr5.title; have hrn := renamed hg5 hr5 hap5 Y.name; rw [HKK.out] at hrn; have HRN := Lib.hid hrn; clear hrn)
                | (go_at_call 87; refine (insert_r _ f _ _ A5 c5 k1 k2 ⟨Y.name, x, g, xbl⟩ HRN.out.1 (by rw [← HKK.out]; exact hln3) hl1 hl2 HRN.out.2.1 (by rw [← HKK.out]; exact hap5)).mono ?_; rintro e w3 ⟨rfl, A3, c3, hg3, hT3⟩)
                | (go_at_call 86; refine (stamped_r w3 f _ _ A3 c3 k1 k2 ⟨Y.name, x, g, xbl⟩ hg3 hst2 _ rfl).mono ?_; rintro e w4 ⟨rfl, hg4, hT4⟩))
              rw [HKK.out] at hT5
              have TT := (hT1.trans hT2).trans hT5
              go_ret
              rw [E.out]
              have e3 : insF (delF (delF a.files Y.name) n) Y.name { x with stamp := a.stamp + 1 } = (k1 ++ ⟨Y.name, { x with stamp := a.stamp + 1 }, g, xbl⟩ :: k2).map Gh.fst := by rw [HFI.out, HL.out]; exact ins_split hl1 hl2 _ g xbl
              have hmo := HMO.out
              rw [e3] at hmo ⊢
              have hg6 : RefG w4 f (most a) { a.burn.remove Y.name with files := (k1 ++ ⟨Y.name, { x with stamp := a.stamp + 1 }, g, xbl⟩ :: k2).map Gh.fst, stamp := a.stamp + 1 } A3 c3 (k1 ++ ⟨Y.name, { x with stamp := a.stamp + 1 }, g, xbl⟩ :: k2) := ⟨hg4.1, rfl, hg4.2.2.1, hg4.2.2.2.1, hg4.2.2.2.2⟩
              have eb : rsBlocks f A3 (k1 ++ ⟨Y.name, { x with stamp := a.stamp + 1 }, g, xbl⟩ :: k2) = rsBlocks f A3 (k1 ++ ⟨Y.name, x, g, xbl⟩ :: k2) := by simp [rsBlocks]
              refine RDid.mk_ hg6 0 (eb ▸ ((((TT.to fun b hb => ?_).trans HRN.out.2.2).trans hT3).trans hT4)) hmo.symm
              rcases List.mem_append.1 hb with h | h
              · refine .inl ?_
                simp only [rsBlocks, List.flatMap_append, List.flatMap_cons, List.mem_cons, List.mem_append]
                exact .inr (.inr (.inr (.inl h)))
              · exact TT.sub b h
end Go.Proofs.Ytelghdfikcodmaa.vref
