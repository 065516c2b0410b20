import Derived.Test.YtppgceighgpgoaaGreatDoorMgInfE
/- Several of my own texts, one behind the other. -/
namespace Go.Proofs.YtppgceighgpgoaaGreatDoor.infp
open Go.RowKit Go.Proofs.YtppgceighgpgoaaGreatDoor.base Go.Proofs.YtppgceighgpgoaaGreatDoor.num Go.Proofs.YtppgceighgpgoaaGreatDoor.bitnum Go.Proofs.YtppgceighgpgoaaGreatDoor.bitp Go.Proofs.YtppgceighgpgoaaGreatDoor.huffnum Go.Proofs.YtppgceighgpgoaaGreatDoor.huffp Go.Proofs.YtppgceighgpgoaaGreatDoor.infnum
set_option linter.unusedVariables false

section
variable {S0 : List Nat} {w0 w w' : World} {g o p k P M : Nat} {v : V} {b H H0 : List UInt8} {rl wl : List Nat} {s : At}
theorem UnIs.next {e : Ending} (h : UnIs S0 w g b H0 M e w') : ∃ x : Nat, w'.cell? ⟨g, 5, none⟩ = some (iv x) := by
  obtain ⟨A, n, c, Y, er, rfl, hnM, hOw, hst⟩ := h
  rcases hst with ⟨_, v2, wl, s, P, hD⟩ | ⟨_, _, v2, o, p, k, rl, wl, s, hC, _⟩ | ⟨_, v2, o, p, k, rl, wl, s, hC, _⟩ | ⟨_, v2, wl, s, P, hW⟩
  · exact ⟨v2.next, hD.inf.cell rfl⟩
  · exact ⟨v2.next, hC.st.inf.cell rfl⟩
  · exact ⟨v2.next, hC.st.inf.cell rfl⟩
  · exact ⟨v2.next, hW.bd.inf.cell rfl⟩
set_option maxHeartbeats 4000000 in
set_option maxRecDepth 100000 in
theorem done_live (h : Live S0 w w g b v H0) (hH : H0.length ≤ 17179869184) :
    Calls Tryz.prog 16 #[ptr g] w fun e w' => ∃ e1 x, UnIs S0 w g b H0 0 e1 w' ∧ w'.cell? ⟨g, 5, none⟩ = some (iv (x : Nat)) ∧ ∃ t, e = .returned (.bool t) ∧ (t = true ↔ x = 4) := by
  have hu : Calls Tryz.prog 34 #[ptr g, .int .i64 0] w (UnIs S0 w g b H0 0) := unpack_live (M := 0) h (by omega) hH
  have HU := Lib.hid hu
  clear hu h
  go_enter Tryz.func16, Tryz.ntmps16
  go_wp2_with (go_at_call 34; refine HU.out.mono ?_; rintro e w2 hun; have HUN := Lib.hid hun; obtain ⟨x, hc5⟩ := hun.next; have HC5 := Lib.hid hc5; obtain ⟨A, n, c, Y, er, rfl, hnM, hOw, hst⟩ := hun; clear hOw hst)
  all_goals try go_wp2
  all_goals go_ret
  exact ⟨_, x, HUN.out, HC5.out, _, rfl, by simp only [beq_iff_eq]; omega⟩
end
end Go.Proofs.YtppgceighgpgoaaGreatDoor.infp
namespace Go.Proofs.YtppgceighgpgoaaGreatDoor.infp
open Go.RowKit Go.Proofs.YtppgceighgpgoaaGreatDoor.base Go.Proofs.YtppgceighgpgoaaGreatDoor.num Go.Proofs.YtppgceighgpgoaaGreatDoor.bitnum Go.Proofs.YtppgceighgpgoaaGreatDoor.bitp Go.Proofs.YtppgceighgpgoaaGreatDoor.huffnum Go.Proofs.YtppgceighgpgoaaGreatDoor.huffp Go.Proofs.YtppgceighgpgoaaGreatDoor.infnum
set_option linter.unusedVariables false

section
variable {S0 : List Nat} {w0 w w' : World} {g o p k P M : Nat} {v : V} {b H H0 : List UInt8} {rl wl : List Nat} {s : At}
theorem UnIs.back {e : Ending} (h : UnIs S0 w g b H0 M e w') : ∃ y : Nat, w'.cell? ⟨g, 14, none⟩ = some (iv y) := by
  obtain ⟨A, n, c, Y, er, rfl, hnM, hOw, hst⟩ := h
  rcases hst with ⟨_, v2, wl, s, P, hD⟩ | ⟨_, _, v2, o, p, k, rl, wl, s, hC, _⟩ | ⟨_, v2, o, p, k, rl, wl, s, hC, _⟩ | ⟨_, v2, wl, s, P, hW⟩
  · exact ⟨v2.behind, hD.inf.cell rfl⟩
  · exact ⟨v2.behind, hC.st.inf.cell rfl⟩
  · exact ⟨v2.behind, hC.st.inf.cell rfl⟩
  · exact ⟨v2.behind, hW.bd.inf.cell rfl⟩
set_option maxHeartbeats 4000000 in
set_option maxRecDepth 100000 in
theorem rest_live (h : Live S0 w w g b v H0) (hH : H0.length ≤ 17179869184) :
    Calls Tryz.prog 18 #[ptr g] w fun e w' => ∃ e1 x y, UnIs S0 w g b H0 0 e1 w' ∧ w'.cell? ⟨g, 5, none⟩ = some (iv (x : Nat)) ∧ w'.cell? ⟨g, 14, none⟩ = some (iv (y : Nat)) ∧ e = .returned (.int .i64 (if x = 4 then (y : Int) else 0)) := by
  have hd := done_live h hH
  have HD := Lib.hid hd
  clear hd h
  go_enter Tryz.func18, Tryz.ntmps18
  go_wp2_with (go_at_call 16; refine HD.out.mono ?_; rintro e w2 ⟨e1, x, hun, hc5, t, rfl, ht⟩; have HUN := Lib.hid hun; obtain ⟨y, hc14⟩ := hun.back; have HC5 := Lib.hid hc5; have HC14 := Lib.hid hc14; have HT := Lib.hid ht; clear hun hc5 ht; cases t)
  all_goals try go_wp2
  all_goals go_ret
  · have h4 : ¬ x = 4 := fun e => by have := HT.out.2 e; cases this
    exact ⟨e1, x, y, HUN.out, HC5.out, HC14.out, by rw [if_neg h4]; rfl⟩
  · have h4 : x = 4 := by simpa using HT.out
    exact ⟨e1, x, y, HUN.out, HC5.out, HC14.out, by rw [if_pos h4]; rfl⟩
end
end Go.Proofs.YtppgceighgpgoaaGreatDoor.infp
/-
  New, Put onto a new unpacker; an unpacker between calls, apart from other rows. My own text.
-/
namespace Go.Proofs.YtppgceighgpgoaaGreatDoor.infp
open Go.RowKit Go.Proofs.YtppgceighgpgoaaGreatDoor.base Go.Proofs.YtppgceighgpgoaaGreatDoor.num Go.Proofs.YtppgceighgpgoaaGreatDoor.bitnum Go.Proofs.YtppgceighgpgoaaGreatDoor.bitp Go.Proofs.YtppgceighgpgoaaGreatDoor.huffnum Go.Proofs.YtppgceighgpgoaaGreatDoor.huffp Go.Proofs.YtppgceighgpgoaaGreatDoor.infnum
set_option linter.unusedVariables false

/-- an unpacker without input -/
def v0 : V := ⟨.slice none 0 0, 0, .pointer none, .slice none 0 0, 0, 0, false, 0, 0, 0, .pointer none, .pointer none, .pointer none, .pointer none, 0, false⟩
theorem new_any (w : World) : Calls Tryz.prog 14 #[] w fun e w' => e = .returned (ptr w.heap.size) ∧ InfAt w' w.heap.size v0 ∧ Fresh w w' := by
  go_enter Tryz.func14, Tryz.ntmps14
  go_wp2
  go_ret
  exact ⟨rfl, Bk.made w tInf _, Fresh.alloc _ _⟩
section
variable {S0 : List Nat} {w0 w w' : World} {g o p k P M : Nat} {v : V} {b H H0 : List UInt8} {rl wl : List Nat} {s : At}
theorem Own.rowAt {base n c : Nat} {A : Option Addr} {xs : List UInt8} (h : Own w base 5 A n c (xs.map bv)) : RowAt w (blkOf (.slice A n c)) A n c xs := by
  have hl : xs.length = n := by have := h.1; simpa using this
  obtain ⟨h1, h2⟩ := h.cap
  refine ⟨hl, h1, h2, fun hn => ?_⟩
  obtain ⟨q, cap, hv, hb, hlt⟩ := World.ownsRow.form h hn
  injection hv with hA _ _
  subst hA
  refine ⟨0, rfl, hlt, fun j x hx => ?_⟩
  have := World.ownsRow.cells h (g := q) rfl j (bv x) (by rw [List.getElem?_map, hx]; rfl)
  have hadd : (⟨q, 0, none⟩ : Addr).add j = ⟨q, 0 + j, none⟩ := by unfold Addr.add; split <;> simp_all
  rwa [hadd] at this
/-- the block of a row that is the call's own: none, or one that is new -/
theorem Own.blk {base n c : Nat} {A : Option Addr} {e : TypeId} {xs : List Value} (h : Own w base e A n c xs) : blkOf (.slice A n c) = 0 ∨ (base ≤ blkOf (.slice A n c) ∧ blkOf (.slice A n c) < w.heap.size ∧ (Value.slice A n c).ownBlock = some (blkOf (.slice A n c))) := by
  rcases h.2 with ⟨hv, hn⟩ | ⟨q, cap, cur, hv, hb, hg, r⟩
  · injection hv with hA _ _
    subst hA
    exact .inl rfl
  · injection hv with hA _ _
    subst hA
    exact .inr ⟨hb, (Array.getElem?_eq_some_iff.1 hg).1, rfl⟩
set_option maxRecDepth 100000 in
theorem put_src (g : Nat) (v : V) (w : World) (A : Option Addr) (n c B : Nat) (bs : List UInt8) (hb : InfAt w g v) (hv : v.rest = .slice none 0 0) (hr : Rd w B A n (bs.map bv)) (hn : n ≤ 16777216) :
    Calls Tryz.prog 33 #[ptr g, .slice A n c] w fun e w' => e = .returned (.tuple #[]) ∧
      ∃ A1 c1, InfAt w' g { v with rest := .slice A1 n c1 } ∧ Own w' w.heap.size 5 A1 n c1 (bs.map bv) ∧ Turn [g] [g] w w' := by
  obtain ⟨i0, hi0, hz0, hz1, hz2⟩ := info_parts info_byte
  have h0 : w.cell? ⟨g, 0, none⟩ = some (.slice none 0 0) := by rw [← hv]; exact hb.cell rfl
  have hf0 := hb.free 0
  have hin := hb.inside
  have HB := Lib.hid hb
  have HR := Lib.hid hr
  have hz : (0 : Nat) + n = n := by omega
  clear hb hr
  go_enter Tryz.func33, Tryz.ntmps33
  go_wp2_with (first
    | (at_builtin; go_loud (refine wpList_append_rdx _ rfl _ _ 24 rfl w.heap.size 5 i0 _ 1 Tryz.underlying24 hi0 hz0 hz1 hz2 rfl none 0 0 [] rfl (Own.nil _ _ _) B A n c (bs.map bv) rfl HR.out (bv_one bs) (by unfold maxLen; omega) (by omega) (Nat.le_refl _) ?_); intro A1 c1 w1 ho1 hg1 hw1; rw [hz] at ho1 hw1 ⊢; have hb1 := HB.out.grown hg1 (by simp [Value.ownBlock]); have hf1 := hb1.free 0; have hc0 : w1.cell? ⟨g, 0, none⟩ = some (.slice none 0 0) := (by rw [← hv]; exact hb1.cell rfl)))
  go_end0
  rw [List.nil_append] at ho1
  have hne1 := ho1.ne_block hb1 (by decide)
  refine ⟨rfl, A1, c1, hb1.put 0 _, ho1.but (But.put _ _) hne1, ?_⟩
  exact (Turn.of_grown hg1 (by simp [Value.ownBlock])).trans (Turn.but (But.put _ _) (by simp))
set_option maxRecDepth 100000 in
/-- bytes handed in to a new unpacker -/
theorem put_new (g : Nat) (w : World) (A : Option Addr) (n c B : Nat) (bs : List UInt8) (hb : InfAt w g v0) (hr : Rd w B A n (bs.map bv)) (hn : n ≤ 16777216) :
    Calls Tryz.prog 15 #[ptr g, .slice A n c] w fun e w' => e = .returned (.tuple #[]) ∧
      ∃ A1 c1, InfAt w' g { v0 with rest := .slice A1 n c1 } ∧ Own w' w.heap.size 5 A1 n c1 (bs.map bv) ∧ Turn [g] [g] w w' := by
  have h5 : w.cell? ⟨g, 5, none⟩ = some (iv (0 : Nat)) := hb.cell rfl
  have hp := put_src g v0 w A n c B bs hb rfl hr hn
  have HP := Lib.hid hp
  clear hb hr hp
  go_enter Tryz.func15, Tryz.ntmps15
  go_wp2_with (go_at_call 33; refine HP.out.mono ?_; rintro e w2 ⟨rfl, A1, c1, hi, ho, hT⟩)
  go_end0
  exact ⟨rfl, A1, c1, hi, ho, hT⟩
/-- an unpacker between calls, its blocks from N on; apart from the blocks R -/
def LiveX (w : World) (g : Nat) (b : List UInt8) (v : V) (H : List UInt8) (R : List Nat) (N : Nat) : Prop :=
  1 < N ∧ ∃ S, Live S w w g b v H ∧ (∀ x ∈ S, N ≤ x) ∧ ∀ x ∈ R, x ∉ S ∧ 1 < x ∧ x < w.heap.size ∧ x ≠ blkOf v.rest
/-- an unpacker that has its input -/
theorem LiveX.begin_ {A : Option Addr} {n c N : Nat} {bs : List UInt8} (hi : InfAt w' g { v0 with rest := .slice A n c }) (ho : Own w' w.heap.size 5 A n c (bs.map bv)) (hT : Turn [g] [g] w w') (hg : g < w.heap.size) (hgN : N ≤ g) (hN : 1 < N) (hO : Ord w) (hn : bs.length ≤ 16777216) :
    LiveX w' g bs { v0 with rest := .slice A n c } [] [] N := by
  have hg0 : 1 < g := by omega
  have hl : bs.length = n := by have := ho.1; simpa using this
  have hk : blkOf (.slice A n c) ≠ g ∧ blkOf (.slice A n c) < w'.heap.size := by
    have := hi.inside
    rcases Own.blk ho with h | ⟨h1, h2, _⟩
    · rw [h]; omega
    · omega
  refine ⟨hN, [g], .inr (.inl ⟨0, 0, blkOf (.slice A n c), [], [], infnum.start, ⟨⟨hi, ⟨A, n, c, rfl, Own.rowAt ho⟩, hn, Nat.zero_le _, .inl ⟨rfl, rfl, rfl⟩, Nat.le_refl _, WinAt.nil _, rfl, by simp, by simp, hk.1, by simp, rfl⟩, .inl rfl, ?_, hg0, by simp, by simp, hk.2, Turn.refl _ _, .refl _, hi.cell rfl, ⟨_, hi.cell rfl, rfl⟩⟩, .inl ⟨rfl, rfl⟩⟩), by simpa using hgN, fun x hx => by cases hx⟩
  exact hO.keep (hT.block _ (Nat.lt_trans hg0 hg) (by rw [List.mem_singleton]; omega))
end
end Go.Proofs.YtppgceighgpgoaaGreatDoor.infp
/-
  Get, Done, Rest of an unpacker between calls, apart from other rows. My own text.
-/
namespace Go.Proofs.YtppgceighgpgoaaGreatDoor.infp
open Go.RowKit Go.Proofs.YtppgceighgpgoaaGreatDoor.base Go.Proofs.YtppgceighgpgoaaGreatDoor.num Go.Proofs.YtppgceighgpgoaaGreatDoor.bitnum Go.Proofs.YtppgceighgpgoaaGreatDoor.bitp Go.Proofs.YtppgceighgpgoaaGreatDoor.huffnum Go.Proofs.YtppgceighgpgoaaGreatDoor.huffp Go.Proofs.YtppgceighgpgoaaGreatDoor.infnum
set_option linter.unusedVariables false

set_option maxHeartbeats 4000000 in
set_option maxRecDepth 100000 in
theorem done_dn (w : World) (g : Nat) (hn : w.cell? ⟨g, 5, none⟩ = some (iv (4 : Nat))) : Calls Tryz.prog 16 #[ptr g] w fun e w' => e = .returned (.bool true) ∧ Fresh w w' := by
  have hu := unpack_done w g 0 hn
  have HU := Lib.hid hu
  have HN := Lib.hid hn
  have hin : ∀ w', Fresh w w' → w'.cell? ⟨g, 5, none⟩ = some (iv (4 : Nat)) := fun w' f => by
    by_cases hlt : g < w.heap.size
    · exact (World.cell?_of_block (f.block g hlt)).trans HN.out
    · exfalso
      have := HN.out
      simp [World.cell?, Array.getElem?_eq_none (Nat.not_lt.1 hlt)] at this
  have HIN := Lib.hid hin
  clear hu hin
  go_enter Tryz.func16, Tryz.ntmps16
  go_wp2_with (go_at_call 34; refine HU.out.mono ?_; rintro e w2 ⟨rfl, hf⟩; have h5 := HIN.out _ hf)
  go_ret
  exact ⟨rfl, hf⟩
/-- what isn't right, or lacks, behind X -/
def Bad (b X : List UInt8) (er : Nat) : Prop := ∃ s P, infnum.Steps (num b) (8 * b.length) (infnum.start, 0) (s, P) ∧ ¬ Fin s ∧ infnum.one s (num b) (8 * b.length) P = .error er ∧ s.out = X
theorem fin_no {s : At} {U T p e : Nat} (h : infnum.one s U T p = .error e) (he : e ≠ 0) : ¬ Fin s := fun hf => by
  unfold infnum.one at h
  rw [hf.1] at h
  simp only [hf.2, if_true] at h
  injection h with h
  exact he h.symm
section
variable {S S' S0 R R' : List Nat} {w0 w w' : World} {g o p k P M N : Nat} {v : V} {b H H0 X : List UInt8} {rl wl : List Nat} {s : At}
theorem Core.subs (h : Core S w w g b v o p H k rl wl s) : ∀ x ∈ g :: (rl ++ wl), x ∈ S ∧ x < w.heap.size := fun x hx => by
  have hlt : x < w.heap.size := by
    rcases List.mem_cons.1 hx with rfl | hx
    · exact h.st.inf.inside
    · rcases List.mem_append.1 hx with hx | hx
      · exact h.st.rin x hx
      · exact h.st.win.inside x hx
  rcases h.turn.sub x hx with h1 | h1
  · exact ⟨h1, hlt⟩
  · omega
theorem row_subs (hi : InfAt w g v) (hw : WinAt w v.win H wl) (hT : Turn S (g :: wl) w w) : ∀ x ∈ g :: wl, x ∈ S ∧ x < w.heap.size := fun x hx => by
  have hlt : x < w.heap.size := by
    rcases List.mem_cons.1 hx with rfl | hx
    · exact hi.inside
    · exact hw.inside x hx
  rcases hT.sub x hx with h1 | h1
  · exact ⟨h1, hlt⟩
  · omega
theorem Live.inf (h : Live S w w g b v H) : InfAt w g v := by
  rcases h with ⟨wl, s, P, h⟩ | ⟨o, p, k, rl, wl, s, h, ha⟩ | ⟨wl, s, P, h⟩
  · exact h.inf
  · exact h.st.inf
  · exact h.bd.inf
theorem Any.next (h : Any w v s H) : v.next ≠ 4 := by
  rcases h with h | h | ⟨a, b, _, h, _⟩ | ⟨a, b, X, _, h, _⟩
  · rw [h.2]; decide
  · rw [h.2.1]; decide
  · rw [h]; decide
  · rw [h]; decide
theorem Pend.le {X : List UInt8} (h : Pend v H X) : H.length ≤ X.length := by
  rcases h with ⟨_, _, rfl⟩ | ⟨_, _, rfl⟩
  · rw [List.length_append]; omega
  · obtain ⟨m, hm, _⟩ := infnum.copied_more v.back v.left H
    rw [hm, List.length_append]; omega
theorem Any.out (h : Any w v s H) : H.length ≤ s.out.length := by
  rcases h with h | h | ⟨a, b, h, _⟩ | ⟨a, b, X, h, _, _, hp, _⟩
  · rw [h.1]; exact Nat.le_refl _
  · rw [h.1]; exact Nat.le_refl _
  · rw [h]; exact Nat.le_refl _
  · rw [h]; exact hp.le
/-- so much, at least, is unpacked -/
theorem Live.reach (h : Live S w w g b v H) : ∃ s P, infnum.Steps (num b) (8 * b.length) (infnum.start, 0) (s, P) ∧ H.length ≤ s.out.length := by
  rcases h with ⟨wl, s, P, h⟩ | ⟨o, p, k, rl, wl, s, h, ha⟩ | ⟨wl, s, P, h⟩
  · exact ⟨s, P, h.way, by rw [h.out]; exact Nat.le_refl _⟩
  · exact ⟨s, _, h.way, ha.out⟩
  · exact ⟨s, P, h.bd.way, by rw [h.bd.out]; exact Nat.le_refl _⟩
/-- all is unpacked -/
theorem Live.done (h : Live S w w g b v H) (hn : v.next = 4) : Unp b H (b.length - v.behind) ∧ v.behind ≤ b.length := by
  rcases h with ⟨wl, s, P, h⟩ | ⟨o, p, k, rl, wl, s, h, ha⟩ | ⟨wl, s, P, h⟩
  · have hb := h.behind
    have hle := h.le
    exact ⟨⟨s, P, h.way, h.fin, h.out, by omega, h.le⟩, by omega⟩
  · exact absurd hn ha.next
  · rw [h.next] at hn; cases hn
theorem LiveX.inf (h : LiveX w g b v H R N) : InfAt w g v := by
  obtain ⟨_, S, h, _⟩ := h
  exact h.inf
/-- another row of bytes has turned -/
theorem Core.past (h : Core S0 w0 w g b v o p H k rl wl s) (t : Turn R R w w') (hR : ∀ x ∈ R, x ∉ g :: (rl ++ wl) ∧ x ≠ k ∧ 1 < x) (hT : ∀ x ∈ R, Ty w x 5) : Core (g :: (rl ++ wl)) w' w' g b v o p H k rl wl s := by
  have hg : g ∉ R := fun hx => (hR g hx).1 (by simp)
  have hr : ∀ x ∈ rl, x ∉ R := fun x hx hm => (hR x hm).1 (by simp [hx])
  have hw : ∀ x ∈ wl, x ∉ R := fun x hx hm => (hR x hm).1 (by simp [hx])
  have hk : k ∉ R := fun hx => (hR k hx).2.1 rfl
  have h0 : 1 ∉ R := fun hx => by have := (hR 1 hx).2.2; omega
  have hi := h.st.inf.old (t.block g h.st.inf.inside hg)
  refine { h with st := { h.st with inf := hi, rest := ?_, bits := ?_, win := h.st.win.turn t hw }, fix := ?_, ord := h.ord.keep (t.block 1 h.w0_ h0), kin := Nat.lt_of_lt_of_le h.kin t.size, turn := Turn.refl _ _, tol := hi.cell rfl, kb := ⟨_, hi.cell rfl, h.st.kk⟩ }
  · obtain ⟨A, n, c, e, hrow⟩ := h.st.rest
    exact ⟨A, n, c, e, hrow.turn t hk⟩
  · exact h.st.bits.imp id fun ⟨q, e, hR'⟩ => ⟨q, e, hR'.turn t hr⟩
  · rcases h.fix with hU | ⟨s, d, sbl, dbl, h1, h2, hCs, hCd⟩
    · exact .inl hU
    · exact .inr ⟨s, d, sbl, dbl, h1, h2, hCs.turn t (code_row hT hCs), hCd.turn t (code_row hT hCd)⟩
theorem Any.past (ha : Any w v s H) (t : Turn R R w w') (hT : ∀ x ∈ R, Ty w x 5) : Any w' v s H := by
  rcases ha with ha | ha | ⟨xa, xb, e, hn, hU, hq⟩ | ⟨xa, xb, X, e, hn, hU, hP, hl, hq⟩
  · exact .inl ha
  · exact .inr (.inl ha)
  · exact .inr (.inr (.inl ⟨xa, xb, e, hn, UseAt.aside (v' := v) hU t hT rfl rfl, hq⟩))
  · exact .inr (.inr (.inr ⟨xa, xb, X, e, hn, UseAt.aside (v' := v) hU t hT rfl rfl, hP, hl, hq⟩))
/-- the same, with another row of bytes that has turned, or is new -/
theorem LiveX.past (h : LiveX w g b v H R N) (t : Turn R R w w') (hT : ∀ x ∈ R, Ty w x 5) (hR' : ∀ x ∈ R', x ∈ R ∨ (w.heap.size ≤ x ∧ x < w'.heap.size)) : LiveX w' g b v H R' N := by
  obtain ⟨hGN, S, hL, hN, hR⟩ := h
  have hi0 := hL.inf
  have hin := hi0.inside
  have key : ∀ Z : List Nat, (∀ x ∈ Z, x ∈ S ∧ x < w.heap.size) → g ∈ Z → blkOf v.rest < w.heap.size → (∀ x ∈ R, x ∉ Z) ∧ (∀ x ∈ Z, N ≤ x) ∧ ∀ x ∈ R', x ∉ Z ∧ 1 < x ∧ x < w'.heap.size ∧ x ≠ blkOf v.rest := fun Z hZ hgZ hb => by
    have hNg := hN g (hZ g hgZ).1
    refine ⟨fun x hx h' => (hR x hx).1 (hZ x h').1, fun x hx => hN x (hZ x hx).1, fun x hx => ?_⟩
    rcases hR' x hx with h2 | h2
    · exact ⟨fun h' => (hR x h2).1 (hZ x h').1, (hR x h2).2.1, Nat.lt_of_lt_of_le (hR x h2).2.2.1 t.size, (hR x h2).2.2.2⟩
    · exact ⟨fun h' => (by have := (hZ x h').2; omega), by omega, h2.2, by omega⟩
  rcases hL with ⟨wl, s, P, h⟩ | ⟨o, p, k, rl, wl, s, h, ha⟩ | ⟨wl, s, P, h⟩
  · obtain ⟨k1, k2, k3⟩ := key _ (row_subs h.inf h.win h.turn) (by simp) (by rw [h.nr]; omega)
    have hi := h.inf.old (t.block g h.inf.inside (fun hx => k1 g hx (by simp)))
    exact ⟨hGN, g :: wl, .inl ⟨wl, s, P, { h with inf := hi, win := h.win.turn t (fun x hx hm => k1 x hm (by simp [hx])), turn := Turn.refl _ _, tol := hi.cell rfl }⟩, k2, k3⟩
  · obtain ⟨k1, k2, k3⟩ := key _ h.subs (by simp) (by rw [h.st.kk]; exact h.kin)
    have hC := h.past t (fun x hx => ⟨k1 x hx, by rw [← h.st.kk]; exact (hR x hx).2.2.2, (hR x hx).2.1⟩) hT
    exact ⟨hGN, _, .inr (.inl ⟨o, p, k, rl, wl, s, hC, ha.past t hT⟩), k2, k3⟩
  · obtain ⟨k1, k2, k3⟩ := key _ (row_subs h.bd.inf h.bd.win h.bd.turn) (by simp) (by rw [h.nr]; omega)
    have hi := h.bd.inf.old (t.block g h.bd.inf.inside (fun hx => k1 g hx (by simp)))
    exact ⟨hGN, g :: wl, .inr (.inr ⟨wl, s, P, { h with bd := { h.bd with inf := hi, win := h.bd.win.turn t (fun x hx hm => k1 x hm (by simp [hx])), turn := Turn.refl _ _, tol := hi.cell rfl } }⟩), k2, k3⟩
theorem LiveX.fresh (h : LiveX w g b v H R N) (f : Fresh w w') : LiveX w' g b v H R N := by
  obtain ⟨hGN, S, hL, hN, hR⟩ := h
  have hR2 : ∀ x ∈ R, x < w'.heap.size := fun x hx => Nat.lt_of_lt_of_le (hR x hx).2.2.1 f.size
  have key : ∀ Z : List Nat, (∀ x ∈ Z, x ∈ S ∧ x < w.heap.size) → (∀ x ∈ Z, N ≤ x) ∧ ∀ x ∈ R, x ∉ Z ∧ 1 < x ∧ x < w'.heap.size ∧ x ≠ blkOf v.rest := fun Z hZ =>
    ⟨fun x hx => hN x (hZ x hx).1, fun x hx => ⟨fun h' => (hR x hx).1 (hZ x h').1, (hR x hx).2.1, hR2 x hx, (hR x hx).2.2.2⟩⟩
  rcases hL with ⟨wl, s, P, h⟩ | ⟨o, p, k, rl, wl, s, h, ha⟩ | ⟨wl, s, P, h⟩
  · obtain ⟨k2, k3⟩ := key _ (row_subs h.inf h.win h.turn)
    exact ⟨hGN, _, .inl ⟨wl, s, P, (h.fresh f).here⟩, k2, k3⟩
  · obtain ⟨k2, k3⟩ := key _ h.subs
    refine ⟨hGN, _, .inr (.inl ⟨o, p, k, rl, wl, s, (h.fresh f).here, ?_⟩), k2, k3⟩
    exact ha.past (R := []) (Turn.fresh f) (by simp)
  · obtain ⟨k2, k3⟩ := key _ (row_subs h.bd.inf h.bd.win h.bd.turn)
    exact ⟨hGN, _, .inr (.inr ⟨wl, s, P, (h.fresh f).here⟩), k2, k3⟩
/-- what unpack told, and the unpacker behind it -/
theorem UnIs.go (hL : LiveX w g b v H R N) : ∃ S, Live S w w g b v H ∧ (∀ x ∈ S, N ≤ x) ∧ (∀ x ∈ R, x ∉ S) ∧ ∀ e w' M, UnIs S w g b H M e w' →
    ∃ A n c Y er, e = .returned (.tuple #[.slice A n c, .int .i64 (er : Nat)]) ∧ n ≤ M ∧ Own w' w.heap.size 5 A n c (Y.map bv) ∧ Y.length = n ∧ (∃ S', g ∈ S' ∧ Turn S S' w w') ∧
      (∃ v', v'.told = v.told ∧ LiveX w' g b v' (H ++ Y) R N ∧ (er = 0 → v'.next = 4 ∨ n = M)) ∧ (er ≠ 0 → Bad b (H ++ Y) er) := by
  obtain ⟨hGN, S, hL, hN, hR⟩ := hL
  have hi0 := hL.inf
  have hin := hi0.inside
  have h0 : w.cell? ⟨g, 0, none⟩ = some v.rest := hi0.cell rfl
  have h15 : w.cell? ⟨g, 15, none⟩ = some (.bool v.told) := hi0.cell rfl
  have told : ∀ v' : V, w.cell? ⟨g, 15, none⟩ = some (.bool v'.told) → v'.told = v.told := fun v' h => by
    rw [h15] at h
    injection h with h
    injection h with h
    exact h.symm
  refine ⟨S, hL, hN, fun x hx => (hR x hx).1, ?_⟩
  rintro e w' M ⟨A, n, c, Y, er, rfl, hnM, hOw, hst⟩
  have hYl : Y.length = n := by have := hOw.1; simpa using this
  have hNg : N ≤ g := by
    rcases hL with ⟨wl, s, P, h⟩ | ⟨o, p, k, rl, wl, s, h, ha⟩ | ⟨wl, s, P, h⟩
    · exact hN g (row_subs h.inf h.win h.turn g (by simp)).1
    · exact hN g (h.subs g (by simp)).1
    · exact hN g (row_subs h.bd.inf h.bd.win h.bd.turn g (by simp)).1
  have key : ∀ (Z : List Nat) (K : Nat), Turn S Z w w' → (K = 0 ∨ K = blkOf v.rest) → (∀ x ∈ Z, N ≤ x) ∧ ∀ x ∈ R, x ∉ Z ∧ 1 < x ∧ x < w'.heap.size ∧ x ≠ K := fun Z K hT hK =>
    ⟨fun x hx => (by
      rcases hT.sub x hx with h1 | h1
      · exact hN x h1
      · omega), fun x hx => ⟨hT.apart (hR x hx).2.2.1 (hR x hx).1, (hR x hx).2.1, Nat.lt_of_lt_of_le (hR x hx).2.2.1 hT.size, by
        rcases hK with e | e
        · have := (hR x hx).2.1; omega
        · rw [e]; exact (hR x hx).2.2.2⟩⟩
  refine ⟨A, n, c, Y, er, rfl, hnM, hOw, hYl, ?_⟩
  have core : ∀ {v' : V} {o p k : Nat} {rl wl : List Nat} {s : At}, Core S w w' g b v' o p (H ++ Y) k rl wl s → Any w' v' s (H ++ Y) → v'.told = v.told ∧ LiveX w' g b v' (H ++ Y) R N := fun hC ha => by
    obtain ⟨r0, e0, ek⟩ := hC.kb
    rw [h0] at e0
    injection e0 with e0
    subst e0
    obtain ⟨k2, k3⟩ := key _ _ hC.turn (.inr ek.symm)
    exact ⟨told _ hC.tol, hGN, _, .inr (.inl ⟨_, _, _, _, _, _, hC.here, ha⟩), k2, by rw [hC.st.kk]; exact k3⟩
  rcases hst with ⟨rfl, v2, wl, s, P, hD⟩ | ⟨rfl, hn, v2, o, p, k, rl, wl, s, hC, ha⟩ | ⟨rfl, v2, o, p, k, rl, wl, s, hC, hp, hbad⟩ | ⟨rfl, v2, wl, s, P, hW⟩
  · obtain ⟨k2, k3⟩ := key _ 0 hD.turn (.inl rfl)
    exact ⟨⟨_, by simp, hD.turn⟩, ⟨v2, told _ hD.tol, ⟨hGN, _, .inl ⟨wl, s, P, hD.here⟩, k2, by rw [hD.nr]; exact k3⟩, fun _ => .inl hD.next⟩, fun h => absurd rfl h⟩
  · obtain ⟨c1, c2⟩ := core hC ha
    exact ⟨⟨_, by simp, hC.turn⟩, ⟨v2, c1, c2, fun _ => .inr hn⟩, fun h => absurd rfl h⟩
  · have ha : Any w' v2 s (H ++ Y) := by
      rcases hp with h | h | h
      · exact .inl h
      · exact .inr (.inl h)
      · exact .inr (.inr (.inl h))
    obtain ⟨c1, c2⟩ := core hC ha
    refine ⟨⟨_, by simp, hC.turn⟩, ⟨v2, c1, c2, fun h => by cases h⟩, fun _ => ⟨s, _, hC.way, fin_no hbad (by decide), hbad, ?_⟩⟩
    rcases hp with h | h | ⟨_, _, h, _⟩
    · rw [h.1]
    · rw [h.1]
    · rw [h]
  · obtain ⟨k2, k3⟩ := key _ 0 hW.bd.turn (.inl rfl)
    exact ⟨⟨_, by simp, hW.bd.turn⟩, ⟨v2, told _ hW.bd.tol, ⟨hGN, _, .inr (.inr ⟨wl, s, P, hW.here⟩), k2, by rw [hW.nr]; exact k3⟩, fun h => by cases h⟩, fun _ => ⟨s, P, hW.bd.way, fin_no hW.bd.bad (by decide), hW.bd.bad, hW.bd.out⟩⟩
/-- the sign that ErrData was told, when all is unpacked -/
theorem LiveX.sign (h : LiveX w g b v H R N) (hn : v.next = 4) (t : Bool) : LiveX (w.setCell ⟨g, 15, none⟩ (.bool t)) g b { v with told := t } H R N := by
  obtain ⟨hGN, S, hL, hN, hR⟩ := h
  have hsz : w.heap.size ≤ (w.setCell ⟨g, 15, none⟩ (.bool t)).heap.size := (But.put (g := g) (i := 15) w (.bool t)).size
  have key : ∀ Z : List Nat, (∀ x ∈ Z, x ∈ S ∧ x < w.heap.size) → (∀ x ∈ Z, N ≤ x) ∧ ∀ x ∈ R, x ∉ Z ∧ 1 < x ∧ x < (w.setCell ⟨g, 15, none⟩ (.bool t)).heap.size ∧ x ≠ blkOf v.rest := fun Z hZ =>
    ⟨fun x hx => hN x (hZ x hx).1, fun x hx => ⟨fun h' => (hR x hx).1 (hZ x h').1, (hR x hx).2.1, Nat.lt_of_lt_of_le (hR x hx).2.2.1 hsz, (hR x hx).2.2.2⟩⟩
  rcases hL with ⟨wl, s, P, h⟩ | ⟨o, p, k, rl, wl, s, h, ha⟩ | ⟨wl, s, P, h⟩
  · obtain ⟨k2, k3⟩ := key _ (row_subs h.inf h.win h.turn)
    exact ⟨hGN, _, .inl ⟨wl, s, P, h.sign t⟩, k2, k3⟩
  · exact absurd hn ha.next
  · rw [h.next] at hn; cases hn
theorem LiveX.done (h : LiveX w g b v H R N) (hn : v.next = 4) : Unp b H (b.length - v.behind) ∧ v.behind ≤ b.length := by
  obtain ⟨_, S, h, _⟩ := h
  exact h.done hn
theorem LiveX.reach (h : LiveX w g b v H R N) : ∃ s P, infnum.Steps (num b) (8 * b.length) (infnum.start, 0) (s, P) ∧ H.length ≤ s.out.length := by
  obtain ⟨_, S, h, _⟩ := h
  exact h.reach
/-- of what was there only blocks from N on have turned, and none of R -/
def TurnX (w w' : World) (R : List Nat) (N : Nat) : Prop := ∃ S S', Turn S S' w w' ∧ (∀ x ∈ S, N ≤ x) ∧ ∀ x ∈ R, x ∉ S
theorem get_x (h : LiveX w g b v H R N) (ht : v.told = false) (Z : Nat) (hZ : Z ≤ 1099511627776) (hH : H.length ≤ 17179869184) (M : Nat) (hM : min Z 65536 = M) :
    Calls Tryz.prog 17 #[ptr g, .int .i64 Z] w fun e w' => ∃ A n c Y er, e = .returned (.tuple #[.slice A n c, .int .i64 (er : Nat)]) ∧ n ≤ M ∧ Own w' w.heap.size 5 A n c (Y.map bv) ∧ Y.length = n ∧ TurnX w w' R N ∧
      ((er = 0 ∧ ∃ v', v'.told = false ∧ LiveX w' g b v' (H ++ Y) R N ∧ (v'.next = 4 ∨ n = M)) ∨ (er ≠ 0 ∧ Bad b (H ++ Y) er)) := by
  obtain ⟨S, hL, hN, hR, hgo⟩ := UnIs.go h
  refine (get_live hL ht Z hZ hH).mono ?_
  rw [hM]
  rintro e w' ⟨A, n, c, er, w1, hu, hst⟩
  obtain ⟨A', n', c', Y, er', he, hnM, hOw, hY, ⟨S', hgS, hT⟩, ⟨v', hv1, hv2, hv3⟩, hbad⟩ := hgo _ _ _ hu
  injection he with he
  injection he with he
  have h1 := congrArg (fun a : Array Value => a[0]?) he
  have h2 := congrArg (fun a : Array Value => a[1]?) he
  simp only [List.getElem?_toArray, List.getElem?_cons_zero, List.getElem?_cons_succ, Option.some.injEq, Value.slice.injEq, Value.int.injEq, true_and] at h1 h2
  obtain ⟨rfl, rfl, rfl⟩ := h1
  obtain rfl : er = er' := by omega
  rcases hst with ⟨e1, rfl, rfl⟩ | ⟨e1, rfl, t, rfl, htt⟩
  · exact ⟨A, n, c, Y, 0, rfl, hnM, hOw, hY, ⟨S, S', hT, hN, hR⟩, .inl ⟨rfl, v', by rw [hv1, ht], hv2, .inr e1⟩⟩
  · have hT2 : Turn S S' w (w1.setCell ⟨g, 15, none⟩ (.bool t)) := hT.trans (Turn.but (But.put _ _) hgS)
    have hOw2 := hOw.but (But.put (g := g) (i := 15) w1 (.bool t)) (hOw.ne_block hv2.inf (by decide))
    refine ⟨A, n, c, Y, er, rfl, hnM, hOw2, hY, ⟨S, S', hT2, hN, hR⟩, ?_⟩
    by_cases h0 : er = 0
    · subst h0
      have hn4 : v'.next = 4 := by
        rcases hv3 rfl with h | h
        · exact h
        · exact absurd h e1
      have ht0 : t = false := by
        cases t with
        | false => rfl
        | true => exact absurd (htt.1 rfl) (by decide)
      subst ht0
      exact .inl ⟨rfl, _, rfl, hv2.sign hn4 false, .inl hn4⟩
    · exact .inr ⟨h0, hbad h0⟩
theorem done_x (h : LiveX w g b v H R N) (hH : H.length ≤ 17179869184) :
    Calls Tryz.prog 16 #[ptr g] w fun e w' => ∃ v', e = .returned (.bool (decide (v'.next = 4))) ∧ v'.told = v.told ∧ (v.next = 4 → v'.next = 4) ∧ LiveX w' g b v' H R N ∧ TurnX w w' R N := by
  by_cases h4 : v.next = 4
  · have h5 : w.cell? ⟨g, 5, none⟩ = some (iv (4 : Nat)) := by rw [← h4]; exact h.inf.cell rfl
    refine (done_dn w g h5).mono ?_
    rintro e w' ⟨rfl, hf⟩
    exact ⟨v, by rw [h4]; rfl, rfl, fun _ => h4, h.fresh hf, [], [], Turn.fresh hf, by simp, by simp⟩
  obtain ⟨S, hL, hN, hR, hgo⟩ := UnIs.go h
  refine (done_live hL hH).mono ?_
  rintro e w' ⟨e1, x, hu, hc, t, rfl, htx⟩
  obtain ⟨A', n', c', Y, er', he, hnM, hOw, hY, ⟨S', hgS, hT⟩, ⟨v', hv1, hv2, hv3⟩, hbad⟩ := hgo _ _ _ hu
  have hY0 : Y = [] := List.eq_nil_of_length_eq_zero (by omega)
  subst hY0
  rw [List.append_nil] at hv2
  have h5 : w'.cell? ⟨g, 5, none⟩ = some (iv v'.next) := hv2.inf.cell rfl
  rw [hc] at h5
  have hx : x = v'.next := by
    injection h5 with h5
    injection h5 with _ h5
    omega
  refine ⟨v', ?_, hv1, fun h => absurd h h4, hv2, S, S', hT, hN, hR⟩
  rw [← hx]
  have : t = decide (x = 4) := by
    cases t with
    | false => symm; rw [decide_eq_false_iff_not]; intro h; have := htx.2 h; cases this
    | true => symm; rw [decide_eq_true_iff]; exact htx.1 rfl
  rw [this]
end
/-! when all is unpacked -/
set_option maxHeartbeats 4000000 in
set_option maxRecDepth 100000 in
theorem rest_dn (w : World) (g : Nat) (v : V) (hi : InfAt w g v) (hn : v.next = 4) : Calls Tryz.prog 18 #[ptr g] w fun e w' => e = .returned (.int .i64 (v.behind : Nat)) ∧ Fresh w w' := by
  have h5 : w.cell? ⟨g, 5, none⟩ = some (iv (4 : Nat)) := by rw [← hn]; exact hi.cell rfl
  have hd := done_dn w g h5
  have HD := Lib.hid hd
  have HI := Lib.hid hi
  clear hd hi h5
  go_enter Tryz.func18, Tryz.ntmps18
  go_wp2_with (go_at_call 16; refine HD.out.mono ?_; rintro e w2 ⟨rfl, hf⟩; have h14 : w2.cell? ⟨g, 14, none⟩ = some (iv v.behind) := (HI.out.fresh hf).cell rfl)
  go_ret
  exact ⟨rfl, hf⟩
end Go.Proofs.YtppgceighgpgoaaGreatDoor.infp
/-
  The contract of All. My own text.
-/
namespace Go.Proofs.YtppgceighgpgoaaGreatDoor.infp
open Go.RowKit Go.Proofs.YtppgceighgpgoaaGreatDoor.base Go.Proofs.YtppgceighgpgoaaGreatDoor.num Go.Proofs.YtppgceighgpgoaaGreatDoor.bitnum Go.Proofs.YtppgceighgpgoaaGreatDoor.bitp Go.Proofs.YtppgceighgpgoaaGreatDoor.huffnum Go.Proofs.YtppgceighgpgoaaGreatDoor.huffp Go.Proofs.YtppgceighgpgoaaGreatDoor.infnum
set_option linter.unusedVariables false

theorem results_tmp3 {fn : Func} {t u v : Tmp} (h : fn.results = #[.tmp t, .tmp u, .tmp v]) (tmps : Array Value) (P : Program) (w : World) :
    (results fn tmps).run P w = .ok (.tuple #[tmps.getD t undef, tmps.getD u undef, tmps.getD v undef]) w := by
  simp [results, h]
/-- how long a slice is -/
def lenOf : Value → Nat
  | .slice _ n _ => n
  | _ => 0
/-- 0 if an unpacker has ended, by the memory -/
def openAt (g : Nat) (w : World) : Nat := match w.cell? ⟨g, 5, none⟩ with
  | some (.int _ z) => if z = 4 then 0 else 1
  | _ => 1
theorem openAt_is {w : World} {g : Nat} {v : V} (h : InfAt w g v) : openAt g w = if v.next = 4 then 0 else 1 := by
  unfold openAt
  have : w.cell? ⟨g, 5, none⟩ = some (iv v.next) := h.cell rfl
  rw [this]
  simp only
  by_cases h4 : v.next = 4
  · rw [if_pos h4, if_pos (by omega)]
  · rw [if_neg h4, if_neg (by omega)]
theorem Ord.in {w : World} (h : Ord w) : 1 < w.heap.size := by
  have := h 0 16 rfl
  by_cases hlt : 1 < w.heap.size
  · exact hlt
  · simp [World.cell?, Array.getElem?_eq_none (Nat.not_lt.1 hlt)] at this
theorem TurnX.fresh {W w w' : World} {R : List Nat} (h : TurnX w w' R W.heap.size) (hf : Fresh W w) : Fresh W w' := by
  obtain ⟨S, S', hT, hN, _⟩ := h
  exact hT.new hf hN
theorem TurnX.own {w w' : World} {base n c N : Nat} {e : TypeId} {A : Option Addr} {xs : List Value} (h : TurnX w w' (rb A n c) N) (ho : Own w base e A n c xs) : Own w' base e A n c xs := by
  obtain ⟨S, S', hT, _, hR⟩ := h
  exact bitp.Own.turn ho hT fun x hx e => hR x (by simp [rb, e]) hx
/-- what All tells -/
def AllIs (w : World) (b : List UInt8) (most : Nat) (e : Ending) (w' : World) : Prop :=
  Fresh w w' ∧ ∃ a, Tells b most a ∧ match a with
    | .ok x n => ∃ A c, e = .returned (.tuple #[.slice A x.length c, .int .i64 (n : Nat), .int .i64 0]) ∧ Own w' w.heap.size 5 A x.length c (x.map bv)
    | .long => e = .returned (.tuple #[.slice none 0 0, .int .i64 0, .int .i64 10])
    | .bad er => er ≠ 0 ∧ e = .returned (.tuple #[.slice none 0 0, .int .i64 0, .int .i64 (er : Nat)])
set_option maxHeartbeats 8000000 in
set_option maxRecDepth 100000 in
theorem all_any (A : Option Addr) (n c : Nat) (bs : List UInt8) (w : World) (B : Nat) (hr : Rd w B A n (bs.map bv)) (hB : B ≤ w.heap.size) (hn : n ≤ 16777216) (hO : Ord w) (most : Nat) (hm : most ≤ 16777216) :
    Calls Tryz.prog 8 #[.slice A n c, .int .i64 most] w (AllIs w bs most) := by
  obtain ⟨i0, hi0, hz0, hz1, hz2⟩ := info_parts info_byte
  have hl : bs.length = n := by have := hr.1; rwa [List.length_map] at this
  have hGN := Ord.in hO
  have HL := Lib.hid hl
  have HR := Lib.hid hr
  have HO := Lib.hid hO
  have HGN := Lib.hid hGN
  clear hl hr hO hGN
  go_enter Tryz.func8, Tryz.ntmps8
  go_upto_region 1 with (fail)
  go_cut [1] (fun s wx => s = .int .i64 (most : Nat) ∧ w = wx)
  case first =>
    go_wp2
    all_goals go_meet
    all_goals exact ⟨by congr 1 <;> omega, rfl⟩
  case rest =>
  obtain ⟨rfl, rfl⟩ := hcut
  go_wp2_with (first
    | (go_at_call 14; refine (new_any _).mono ?_; rintro e w1 ⟨rfl, hi1, hf1⟩)
    | (go_at_call 15; refine (put_new _ w1 A n c B bs hi1 (HR.out.below hf1 hB) hn).mono ?_; rintro e w2 ⟨rfl, A1, c1, hi2, ho2, hT2⟩))
  obtain ⟨g, hg⟩ : ∃ g, w.heap.size = g := ⟨_, rfl⟩
  have hgw : w.heap.size ≤ g := by omega
  rw [hg] at hi1 hi2 hT2 ⊢
  have hX : LiveX w2 g bs { v0 with rest := .slice A1 n c1 } [] [] w.heap.size := LiveX.begin_ hi2 ho2 hT2 hi1.inside hgw HGN.out (HO.out.keep (hf1.block _ HGN.out)) (by rw [HL.out]; exact hn)
  have hf2 : Fresh w w2 := hT2.new hf1 (by simpa using hgw)
  have HX := Lib.hid hX
  have HF2 := Lib.hid hf2
  clear hX hf2 hi2 ho2 hT2 hi1 hf1 hgw hg
  go_loopw [8] (fun i wr => ∃ (A : Option Addr) (n c : Nat) (H : List UInt8) (v : V), i = .slice A n c ∧ n ≤ most ∧ Hid (H.length = n) ∧ Hid (v.told = false) ∧ LiveX wr g bs v H (rb A n c) w.heap.size ∧ Own wr w.heap.size 5 A n c (H.map bv) ∧ Fresh w wr) (fun i wr => 2 * (most + 1 - lenOf i) + openAt g wr)
  case atStart => exact ⟨none, 0, 0, [], { v0 with rest := .slice A1 n c1 }, rfl, Nat.zero_le _, rfl, rfl, HX.out, Own.nil _ _ _, HF2.out⟩
  case round =>
    clear HX HF2
    obtain ⟨A, na, c, H, v, rfl, hna, hHl, htold, hX, hOw, hfr⟩ := hrel
    have hH : H.length ≤ 17179869184 := by rw [hHl.out]; omega
    have hd := done_x hX hH
    have hcap := hOw.cap
    unfold maxLen at hcap
    have hmea : openAt g wr ≤ 1 := by unfold openAt; split <;> (try split) <;> omega
    have hop : v.next ≠ 4 → openAt g wr = 1 := fun h => by rw [openAt_is hX.inf, if_neg h]
    have HOP := Lib.hid hop
    have HD := Lib.hid hd
    have HOw := Lib.hid hOw
    clear hd hX hOw hop
    go_wp2_with (go_at_call 16; refine HD.out.mono ?_; rintro e w3 ⟨v3, he, hv3, hst3, hX3, hT3⟩; have HT3 := Lib.hid hT3; have HX3 := Lib.hid hX3; clear hT3 hX3; (by_cases h4 : v3.next = 4); (all_goals (simp only [h4, decide_true, decide_false] at he)); (all_goals subst he))
    · -- all is unpacked
      have hun := HX3.out.done h4
      have hb5 := hun.2
      have HUN := Lib.hid hun.1
      have hfr3 := HT3.out.fresh hfr
      have hOw3 := HT3.out.own HOw.out
      have HOw3 := Lib.hid hOw3
      have hrs := rest_dn w3 g v3 HX3.out.inf h4
      have HRS := Lib.hid hrs
      obtain ⟨Z, hZ⟩ : ∃ Z, n - v3.behind = Z := ⟨_, rfl⟩
      rw [HL.out] at hb5
      have hZ1 : (n : Int) - (v3.behind : Int) = (Z : Int) := by omega
      clear hun hOw3 hrs
      go_wp2_with (go_at_call 18; refine HRS.out.mono ?_; rintro e w4 ⟨rfl, hf4⟩)
      ((try simp only [Exit.inBlock, Exit.then]); refine bodyPost_ret (results_tmp3 rfl _ _ _) rfl ?_)
      have h6 := HUN.out
      rw [HL.out, hZ] at h6
      have h7 := HOw3.out.fresh hf4
      obtain rfl : H.length = na := hHl.out
      exact ⟨hfr3.trans hf4, .ok H Z, ⟨h6, hna⟩, A, c, rfl, h7⟩
    · -- more is asked for
      obtain ⟨Z, hZ⟩ : ∃ Z, most + 1 - na = Z := ⟨_, rfl⟩
      obtain ⟨M, hM⟩ : ∃ M, min Z 65536 = M := ⟨_, rfl⟩
      have hZ1 : (most : Int) + 1 - (na : Int) = (Z : Int) := by omega
      have hfr3 := HT3.out.fresh hfr
      have hOw3 := HT3.out.own HOw.out
      have HOw3 := Lib.hid hOw3
      have HFR3 := Lib.hid hfr3
      have hg3 := get_x HX3.out (hv3.trans htold.out) Z (by omega) hH M hM
      have hg3' : ∀ z : Int, z = (Z : Int) → Calls Tryz.prog 17 #[ptr g, .int .i64 z] w3 _ := fun z hz => by rw [hz]; exact hg3
      have HG3 := Lib.hid hg3'
      have HH4 : Hid (openAt g wr = 1) := HOP.out fun h => h4 (hst3 h)
      clear hg3 hg3' hOw3 hfr3 h4 hst3
      go_wp2_with (first
        | (go_at_call 17; refine (HG3.out _ (by omega)).mono ?_; rintro e w4 ⟨Ap, m, cp, Y, er, rfl, hmM, hOp, hYm, hT4, hres⟩; have hfr4 := hT4.fresh HFR3.out; have hOw4 := hT4.own HOw3.out; have HRES := Lib.hid hres; have HYM := Lib.hid hYm; have hmZ : m ≤ 65536 := (by omega); have hmZ2 : m ≤ Z := (by omega); clear hres hT4 hYm)
        | (at_builtin; refine wpList_append_rdx _ rfl _ _ 24 rfl w.heap.size 5 i0 _ 1 Tryz.underlying24 hi0 hz0 hz1 hz2 rfl A na c (H.map bv) rfl hOw4 w4.heap.size Ap m cp (Y.map bv) rfl hOp.rd (bv_one Y) (by unfold maxLen; omega) (by omega) hfr4.size ?_; intro A5 c5 w5 hO5 hg5 hw5; rw [← List.map_append] at hO5; have hfr5 := hfr4.append hOw4 (Nat.le_refl _) hg5; have HO5 := Lib.hid hO5; have HG5 := Lib.hid hg5; have HW5 := Lib.hid hw5; clear hO5 hg5 hw5))
      · ((try simp only [Exit.inBlock, Exit.then]); refine bodyPost_ret (results_tmp3 rfl _ _ _) rfl ?_)
        refine ⟨hfr5, .long, ?_, rfl⟩
        have hYl := HYM.out
        have hHl' := hHl.out
        rcases HRES.out with ⟨_, v5, _, hX5, _⟩ | ⟨_, s, P, h1, _, _, h4⟩
        · obtain ⟨s, P, h1, h2⟩ := hX5.reach
          exact ⟨s, P, h1, by rw [List.length_append] at h2; omega⟩
        · exact ⟨s, P, h1, by rw [h4, List.length_append]; omega⟩
      · ((try simp only [Exit.inBlock, Exit.then]); refine bodyPost_ret (results_tmp3 rfl _ _ _) rfl ?_)
        have hYl := HYM.out
        have hHl' := hHl.out
        rename_i hle her
        have hne : er ≠ 0 := by intro h; subst h; simp at her
        rcases HRES.out with ⟨h0, _⟩ | ⟨h0, s, P, h1, h2, h3, h4⟩
        · exact absurd h0 hne
        · exact ⟨hfr5, .bad er, ⟨s, P, h1, h2, h3, by rw [h4, List.length_append]; omega⟩, h0, rfl⟩
      · rename_i hle her
        have hne : er = 0 := by simpa using her
        have hYl := HYM.out
        have hHl' := hHl.out
        rcases HRES.out with ⟨_, v5, ht5, hX5, hor⟩ | ⟨h0, _⟩
        · have hX6 : LiveX w5 g bs v5 (H ++ Y) (rb A5 (na + m) c5) w.heap.size := hX5.past (Turn.of_grown HG5.out (S := rb A na c) (fun g h => by simp [rb, h])) (fun x hx => Own.ty hOw4 x (by simpa [rb] using hx)) (fun x hx => by
            have hx' : (Value.slice A5 (na + m) c5).ownBlock = some x := by simpa [rb] using hx
            rcases HW5.out with h | h
            · exact .inl (by simp [rb, ← h, hx'])
            · rw [h] at hx'
              injection hx' with hx'
              exact .inr ⟨by omega, (World.ownsRow.lt HO5.out x (by rw [h, hx'])).2⟩)
          have hme := openAt_is hX6.inf
          have hme1 : openAt g w5 ≤ 1 := by rw [hme]; split <;> omega
          have hop1 := HH4.out
          clear HG3 HD HOP HRES
          go_roundw
          case rel => exact ⟨A5, na + m, c5, H ++ Y, v5, rfl, by omega, by show _ = _; rw [List.length_append]; omega, ht5, hX6, HO5.out, hfr5⟩
          case measure =>
            show 2 * (most + 1 - (na + m)) + openAt g w5 < 2 * (most + 1 - na) + openAt g wr
            rw [hop1]
            rcases hor with h | h
            · rw [hme, if_pos h]; omega
            · omega
        · exact absurd hne h0
end Go.Proofs.YtppgceighgpgoaaGreatDoor.infp
