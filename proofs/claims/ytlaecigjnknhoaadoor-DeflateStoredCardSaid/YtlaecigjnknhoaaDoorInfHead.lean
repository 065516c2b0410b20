/-
  The contract of takeHead. My own text.
-/
import Derived.Test.YtlaecigjnknhoaaDoorInfUse
namespace Go.Proofs.YtlaecigjnknhoaaDoor.infp
open Go.RowKit Go.Proofs.YtlaecigjnknhoaaDoor.base Go.Proofs.YtlaecigjnknhoaaDoor.num Go.Proofs.YtlaecigjnknhoaaDoor.bitnum Go.Proofs.YtlaecigjnknhoaaDoor.bitp Go.Proofs.YtlaecigjnknhoaaDoor.huffnum Go.Proofs.YtlaecigjnknhoaaDoor.huffp Go.Proofs.YtlaecigjnknhoaaDoor.infnum
set_option linter.unusedVariables false

/-- behind a head: bytes that are stored, or symbols -/
def PhAt (w : World) (v : V) (s : At) : Prop :=
  match s.ph with
  | .head => False
  | .raw n => v.next = 1 ∧ v.left = n ∧ v.last = s.last
  | .sy a b => v.next = 2 ∧ v.last = s.last ∧ UseAt w v a b
def HeadIs (w : World) (g : Nat) (v : V) (q : Nat) (bs : List UInt8) (p : Nat) (rl : List Nat) (r : Except Nat (At × Nat)) (e : Ending) (w' : World) : Prop :=
  match r with
  | .ok (s, p') => e = .returned (.int .i64 0) ∧ ∃ N L F S D F0 F1, PhAt w' { v with next := N, last := L, left := F, sy := S, di := D, f0 := F0, f1 := F1 } s ∧ FixAt w' { v with next := N, last := L, left := F, sy := S, di := D, f0 := F0, f1 := F1 } ∧
      SrcIs w g { v with next := N, last := L, left := F, sy := S, di := D, f0 := F0, f1 := F1 } q bs p' rl w'
  | .error k => e = .returned (.int .i64 (k : Nat)) ∧ ∃ p' L, p ≤ p' ∧ FixAt w' v ∧ SrcIs w g { v with last := L } q bs p' rl w'
theorem headP_len (out : List UInt8) (x : Nat) (U T p : Nat) :
    also align (fun _ => also (take 16) fun n => also (take 16) fun t => if n + t = 65535 then give (⟨.raw n, decide (x % 2 = 1), out⟩ : At) else fail 12) U T p = also lenP (fun n => give ⟨.raw n, decide (x % 2 = 1), out⟩) U T p := by
  unfold lenP
  simp only [also_also]
  unfold also align
  simp only
  cases h1 : take 16 U T ((p + 7) / 8 * 8) with
  | error e => rfl
  | ok y =>
    obtain ⟨n, p2⟩ := y
    simp only
    cases h2 : take 16 U T p2 with
    | error e => rfl
    | ok z =>
      obtain ⟨t, p3⟩ := z
      simp only
      split <;> rfl
section
variable {w : World} {g q p : Nat} {v : V} {bs : List UInt8} {rl : List Nat}
theorem takeLength_no {k : Nat} (h : Src w g v q bs p rl) (hr : lenP (num bs) (8 * bs.length) p = .error k) :
    Calls Tryd.prog 53 #[ptr g] w fun e w' => e = .returned (.int .i64 k) ∧ ∃ p', p ≤ p' ∧ SrcIs w g v q bs p' rl w' := takeLength_any h hr
theorem takeLength_ok {n p' : Nat} (h : Src w g v q bs p rl) (hr : lenP (num bs) (8 * bs.length) p = .ok (n, p')) :
    Calls Tryd.prog 53 #[ptr g] w fun e w' => e = .returned (.int .i64 0) ∧ SrcIs w g { v with left := n, next := 1 } q bs p' rl w' := takeLength_any h hr
theorem FixAt.by_ {w' : World} {v2 : V} {rl' : List Nat} (hF : FixAt w v) (h : Src w g v2 q bs p rl) (k : Turn (g :: rl) (g :: rl') w w') : FixAt w' v := by
  rcases hF with hF | ⟨s, d, sbl, dbl, h0, h1, hs, hd⟩
  · exact .inl hF
  · exact .inr ⟨s, d, sbl, dbl, h0, h1, CodeAt.src hs h k, CodeAt.src hd h k⟩
theorem FixAt.last {L : Bool} (h : FixAt w v) : FixAt w { v with last := L } := h
set_option maxHeartbeats 8000000 in
set_option maxRecDepth 100000 in
theorem takeHead_any (h : Src w g v q bs p rl) (hO : Ord w) (hg : 1 < g) (hrl : ∀ b ∈ rl, 1 < b) (hfx : FixAt w v) (out : List UInt8) {r : Except Nat (At × Nat)} (hr : headP out (num bs) (8 * bs.length) p = r) :
    Calls Tryd.prog 30 #[ptr g] w (HeadIs w g v q bs p rl r) := by
  have hc := h.bits2
  have hw0 : 1 < w.heap.size := Nat.lt_trans hg h.inf.inside
  unfold headP at hr
  cases ht : take 3 (num bs) (8 * bs.length) p with
  | error e1 =>
    rw [also_no ht] at hr
    have he := take_err ht
    subst he; subst hr
    have hb := bits_take_no q bs p rl 3 3 w h.rdr h.le h.sm (by omega) ht
    go_enter Tryd.func30, Tryd.ntmps30
    go_wp2_with (go_at_call 52; refine hb.mono ?_; rintro e w1 ⟨rfl, hR⟩)
    go_ret
    obtain ⟨rl1, hS1, hT1⟩ := h.moved hR h.le
    exact ⟨rfl, p, v.last, Nat.le_refl _, FixAt.src hfx h hT1, rl1, hS1, hT1⟩
  | ok x =>
    obtain ⟨x, p1⟩ := x
    rw [also_ok ht] at hr
    obtain ⟨hx, hp1, hle1⟩ := take_lt ht
    have hb := bits_take_ok q bs p rl 3 x p1 w h.rdr h.sm (by omega) ht
    obtain ⟨L, hL⟩ : ∃ L, decide (x % 2 = 1) = L := ⟨_, rfl⟩
    obtain ⟨c, hc2⟩ : ∃ c, x % 2 = c := ⟨_, rfl⟩
    obtain ⟨k, hk⟩ : ∃ k, x / 2 = k := ⟨_, rfl⟩
    have e1 : bits .and .i64 (x : Int) 1 = (c : Int) := by rw [and_one]; omega
    have e2 : (x : Int) / 2 = (k : Int) := by omega
    have e3 : ((c : Int) == 1) = L := by
      rw [← hL, hc2]
      rcases (show c = 0 ∨ c = 1 by omega) with rfl | rfl <;> rfl
    have hk4 : k < 4 := by omega
    have hpp : p ≤ p1 := by omega
    have hst : ∀ w1, RdrIs w q bs p1 rl w1 → ∃ rl1, Src w1 g v q bs p1 rl1 ∧ Turn (g :: rl) (g :: rl1) w w1 ∧ Src (w1.setCell ⟨g, 6, none⟩ (.bool L)) g { v with last := L } q bs p1 rl1 ∧ Turn (g :: rl) (g :: rl1) w (w1.setCell ⟨g, 6, none⟩ (.bool L)) ∧ FixAt (w1.setCell ⟨g, 6, none⟩ (.bool L)) v ∧ Ord (w1.setCell ⟨g, 6, none⟩ (.bool L)) ∧ ∀ b ∈ rl1, 1 < b := fun w1 hR => by
      obtain ⟨rl1, hS1, hT1⟩ := h.moved hR hle1
      have hi2 : InfAt (w1.setCell ⟨g, 6, none⟩ (.bool L)) g { v with last := L } := hS1.inf.put 6 _
      have hTp : Turn (g :: rl1) (g :: rl1) w1 (w1.setCell ⟨g, 6, none⟩ (.bool L)) := Turn.but (But.put _ _) (by simp)
      have hR2 : RdrAt (w1.setCell ⟨g, 6, none⟩ (.bool L)) q bs p1 rl1 := hS1.rdr.turn (S := [g]) (Turn.but (But.put _ _) (by simp)) (fun b hb' hx => by rw [List.mem_singleton] at hx; subst hx; exact hS1.off hb')
      have hT2 := hT1.trans hTp
      refine ⟨rl1, hS1, hT1, ⟨hi2, h.bit, hR2, hle1, h.sm⟩, hT2, FixAt.src hfx h hT2, hO.keep (hT2.block 1 hw0 (fun hx => ?_)), fun b hb' => ?_⟩
      · rcases List.mem_cons.1 hx with e | hx
        · omega
        · have := hrl 1 hx; omega
      · rcases hT2.sub b (List.mem_cons_of_mem _ hb') with h' | h'
        · rcases List.mem_cons.1 h' with e | h'
          · omega
          · exact hrl b h'
        · omega
    have HST := Lib.hid hst
    rw [hL] at hr
    have hc6 : ∀ w1 rl1, Src w1 g v q bs p1 rl1 → w1.cell? ⟨g, 6, none⟩ = some (.bool v.last) ∧ w1.frozen? ⟨g, 6, none⟩ = false := fun w1 rl1 hS1 => ⟨hS1.inf.cell rfl, hS1.inf.free 6⟩
    have HC6 := Lib.hid hc6
    have HL := Lib.hid hL
    have hk' := Lib.hid hk
    clear hst hc6 ht hx hp1 hc2 hL
    rw [hk'.out] at hr
    clear hk
    rcases (show k = 0 ∨ k = 1 ∨ k = 2 ∨ k = 3 by omega) with rfl | rfl | rfl | rfl
    · rw [if_pos rfl] at hr
      have hr2 : also lenP (fun n => give (⟨.raw n, L, out⟩ : At)) (num bs) (8 * bs.length) p1 = r := by
        rw [← hr, ← HL.out, headP_len]
      clear hr
      cases hl : lenP (num bs) (8 * bs.length) p1 with
      | error e5 =>
        rw [also_no hl] at hr2
        subst hr2
        go_enter Tryd.func30, Tryd.ntmps30
        go_wp2_with (first
          | (go_at_call 52; refine hb.mono ?_; rintro e w1 ⟨rfl, hR⟩; obtain ⟨rl1, hS1, hT1, hS2, hT2, hF2, hO2, hrl2⟩ := HST.out w1 hR; obtain ⟨hcc6, hff6⟩ := HC6.out w1 rl1 hS1)
          | (go_at_call 53; refine (takeLength_no hS2 hl).mono ?_; rintro e w3 ⟨rfl, p3, hp3, rl3, hS3, hT3⟩))
        go_ret
        exact ⟨rfl, p3, L, by omega, FixAt.by_ hF2 hS2 hT3, rl3, hS3, hT2.trans hT3⟩
      | ok y =>
        obtain ⟨n, p2⟩ := y
        rw [also_ok hl] at hr2
        change Except.ok (_, p2) = r at hr2
        subst hr2
        go_enter Tryd.func30, Tryd.ntmps30
        go_wp2_with (first
          | (go_at_call 52; refine hb.mono ?_; rintro e w1 ⟨rfl, hR⟩; obtain ⟨rl1, hS1, hT1, hS2, hT2, hF2, hO2, hrl2⟩ := HST.out w1 hR; obtain ⟨hcc6, hff6⟩ := HC6.out w1 rl1 hS1)
          | (go_at_call 53; refine (takeLength_ok hS2 hl).mono ?_; rintro e w3 ⟨rfl, rl3, hS3, hT3⟩))
        go_ret
        exact ⟨rfl, 1, L, n, v.sy, v.di, v.f0, v.f1, ⟨rfl, rfl, rfl⟩, FixAt.by_ hF2 hS2 hT3, rl3, hS3, hT2.trans hT3⟩
    · rw [if_neg (by omega), if_pos rfl] at hr
      change Except.ok (⟨.sy fixedLits fixedDist, L, out⟩, p1) = r at hr
      subst hr
      have huf : ∀ w2 rl2, Src w2 g { v with last := L } q bs p1 rl2 → FixAt w2 v → Calls Tryd.prog 54 #[ptr g] w2 fun e w' => e = .returned (.int .i64 0) ∧ ∃ s d sbl dbl, CodeAt w' s fixedLits sbl ∧ CodeAt w' d fixedDist dbl ∧ SrcIs w2 g { v with last := L, next := 2, sy := ptr s, di := ptr d, f0 := ptr s, f1 := ptr d } q bs p1 rl2 w' := fun w2 rl2 hS2 hF2 =>
        useFixed_any fixedLits fixedDist fit_lits fit_dist fixed_any hS2 hF2
      have HUF := Lib.hid huf
      clear huf
      go_enter Tryd.func30, Tryd.ntmps30
      go_wp2_with (first
        | (go_at_call 52; refine hb.mono ?_; rintro e w1 ⟨rfl, hR⟩; obtain ⟨rl1, hS1, hT1, hS2, hT2, hF2, hO2, hrl2⟩ := HST.out w1 hR; obtain ⟨hcc6, hff6⟩ := HC6.out w1 rl1 hS1)
        | (go_at_call 54; refine (HUF.out _ rl1 hS2 hF2).mono ?_; rintro e w3 ⟨rfl, s, d, sbl, dbl, hCs, hCd, rl3, hS3, hT3⟩))
      go_ret
      exact ⟨rfl, 2, L, v.left, ptr s, ptr d, ptr s, ptr d, ⟨rfl, rfl, s, d, sbl, dbl, rfl, rfl, hCs, hCd, fit_lits, fit_dist⟩, .inr ⟨s, d, sbl, dbl, rfl, rfl, hCs, hCd⟩, rl3, hS3, hT2.trans hT3⟩
    · rw [if_neg (by omega), if_neg (by omega), if_pos rfl] at hr
      cases hl : codes (num bs) (8 * bs.length) p1 with
      | error e5 =>
        rw [also_no hl] at hr
        subst hr
        go_enter Tryd.func30, Tryd.ntmps30
        go_wp2_with (first
          | (go_at_call 52; refine hb.mono ?_; rintro e w1 ⟨rfl, hR⟩; obtain ⟨rl1, hS1, hT1, hS2, hT2, hF2, hO2, hrl2⟩ := HST.out w1 hR; obtain ⟨hcc6, hff6⟩ := HC6.out w1 rl1 hS1)
          | (go_at_call 55; refine (takeCodes_any hS2 hO2 hg hrl2 hl).mono ?_; rintro e w3 hU; obtain ⟨rfl, p3, hp3, rl3, hS3, hT3⟩ := hU.no))
        go_ret
        exact ⟨rfl, p3, L, by omega, FixAt.by_ hF2 hS2 hT3, rl3, hS3, hT2.trans hT3⟩
      | ok y =>
        obtain ⟨⟨a, b⟩, p2⟩ := y
        rw [also_ok hl] at hr
        change Except.ok (⟨.sy a b, L, out⟩, p2) = r at hr
        subst hr
        go_enter Tryd.func30, Tryd.ntmps30
        go_wp2_with (first
          | (go_at_call 52; refine hb.mono ?_; rintro e w1 ⟨rfl, hR⟩; obtain ⟨rl1, hS1, hT1, hS2, hT2, hF2, hO2, hrl2⟩ := HST.out w1 hR; obtain ⟨hcc6, hff6⟩ := HC6.out w1 rl1 hS1)
          | (go_at_call 55; refine (takeCodes_any hS2 hO2 hg hrl2 hl).mono ?_; rintro e w3 hU; obtain ⟨rfl, s, d, sbl, dbl, hCs, hCd, hFs, hFd, rl3, hS3, hT3⟩ := hU.ok))
        go_ret
        exact ⟨rfl, 2, L, v.left, ptr s, ptr d, v.f0, v.f1, ⟨rfl, rfl, s, d, sbl, dbl, rfl, rfl, hCs, hCd, hFs, hFd⟩, FixAt.by_ hF2 hS2 hT3, rl3, hS3, hT2.trans hT3⟩
    · rw [if_neg (by omega), if_neg (by omega), if_neg (by omega)] at hr
      change Except.error 12 = r at hr
      subst hr
      go_enter Tryd.func30, Tryd.ntmps30
      go_wp2_with (go_at_call 52; refine hb.mono ?_; rintro e w1 ⟨rfl, hR⟩; obtain ⟨rl1, hS1, hT1, hS2, hT2, hF2, hO2, hrl2⟩ := HST.out w1 hR; obtain ⟨hcc6, hff6⟩ := HC6.out w1 rl1 hS1)
      go_ret
      exact ⟨rfl, p1, L, hpp, hF2, rl1, hS2, hT2⟩
end
end Go.Proofs.YtlaecigjnknhoaaDoor.infp
