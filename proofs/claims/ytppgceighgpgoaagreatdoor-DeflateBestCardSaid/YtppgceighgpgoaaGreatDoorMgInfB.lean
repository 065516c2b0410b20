import Derived.Test.YtppgceighgpgoaaGreatDoorInfSpread
import Derived.Deep.RegionWith
/- Several of my own texts, one behind the other. -/
/-
  The contracts of takeCopy, takeSymbol. My own text.
-/
namespace Go.Proofs.YtppgceighgpgoaaGreatDoor.infp
open Go.RowKit Go.Proofs.YtppgceighgpgoaaGreatDoor.base Go.Proofs.YtppgceighgpgoaaGreatDoor.num Go.Proofs.YtppgceighgpgoaaGreatDoor.bitnum Go.Proofs.YtppgceighgpgoaaGreatDoor.bitp Go.Proofs.YtppgceighgpgoaaGreatDoor.huffnum Go.Proofs.YtppgceighgpgoaaGreatDoor.huffp Go.Proofs.YtppgceighgpgoaaGreatDoor.infnum
set_option linter.unusedVariables false

/-- of 'takeCopy' and its like: an error, and what the fields hold then -/
def ErrIs {α : Type} (w : World) (g : Nat) (v : V) (q : Nat) (bs : List UInt8) (p : Nat) (rl : List Nat) (vn : α → V) (r : Except Nat (α × Nat)) (e : Ending) (w' : World) : Prop :=
  match r with
  | .ok (x, p') => e = .returned (.int .i64 0) ∧ SrcIs w g (vn x) q bs p' rl w'
  | .error k => e = .returned (.int .i64 (k : Nat)) ∧ ∃ p', p ≤ p' ∧ SrcIs w g v q bs p' rl w'
theorem also_ok {α β : Type} {f : Part α} {g : α → Part β} {U T p q : Nat} {a : α} (h : f U T p = .ok (a, q)) : also f g U T p = g a U T q := by unfold also; rw [h]
theorem also_no {α β : Type} {f : Part α} {g : α → Part β} {U T p e : Nat} (h : f U T p = .error e) : also f g U T p = .error e := by unfold also; rw [h]
section
variable {w : World} {g q p : Nat} {v : V} {bs : List UInt8} {rl : List Nat}
theorem many_is (h : InfAt w g v) {A : Option Addr} {n c : Nat} (hv : v.win = .slice A n c) : Calls Tryz.prog 100 #[.pointer (some ⟨g, 3, none⟩)] w fun e w' => e = .returned (.int .i64 n) ∧ w = w' := by
  have h3 : w.cell? ⟨g, 3, none⟩ = some (.slice A n c) := by rw [← hv]; exact h.cell rfl
  go_enter Tryz.func100, Tryz.ntmps100
  go_wp2
  go_ret
  exact ⟨rfl, rfl⟩
theorem NumIs.ok {r : Nat × Nat} {e : Ending} {w' : World} (h : NumIs w g v q bs p rl (.ok r) e w') : e = .returned (.tuple #[.int .i64 (r.1 : Nat), .int .i64 0]) ∧ SrcIs w g v q bs r.2 rl w' := h
theorem NumIs.no {k : Nat} {e : Ending} {w' : World} (h : NumIs w g v q bs p rl (.error k) e w') : e = .returned (.tuple #[.int .i64 0, .int .i64 (k : Nat)]) ∧ SrcIs w g v q bs p rl w' := h
theorem not_zero {f : Part Nat} (hf : infnum.Good f) {U T p k : Nat} (h : f U T p = .error k) : ¬ (k : Int) = 0 := by
  rcases hf.ev _ _ _ _ h with h | h <;> omega

set_option maxHeartbeats 8000000 in
set_option maxRecDepth 100000 in
theorem takeCopy_any (h : Src w g v q bs p rl) (k : Nat) (hk1 : 256 < k) (hk2 : k ≤ 285) {d : Nat} {b dbl : List Nat} (hdi : v.di = ptr d) (hC : CodeAt w d b dbl) (hF : Fit b) {A : Option Addr} {n c : Nat} (hv : v.win = .slice A n c)
    {r : Except Nat ((Nat × Nat) × Nat)} (hr : copyP k n b (num bs) (8 * bs.length) p = r) :
    Calls Tryz.prog 81 #[ptr g, .int .i64 k] w (ErrIs w g v q bs p rl (fun x => { v with left := x.1, back := x.2 }) r) := by
  have hc := h.bits2
  have hc11 : w.cell? ⟨g, 11, none⟩ = some (ptr d) := by rw [← hdi]; exact h.inf.cell rfl
  have hfz7 := h.inf.free 7
  have hfz8 := h.inf.free 8
  unfold copyP at hr
  obtain ⟨K1, hK1⟩ : ∃ K1, k - 256 = K1 := ⟨_, rfl⟩
  obtain ⟨K, hK⟩ : ∃ K, k - 257 = K := ⟨_, rfl⟩
  have hi1 : (k : Int) - 256 = (K1 : Int) := by omega
  have hi2 : (K1 : Int) - 1 = (K : Int) := by omega
  rw [hK] at hr
  -- the length
  cases hl : (if k < 285 then spreadP K 4 else also (take 0) fun v => give (255 + v)) (num bs) (8 * bs.length) p with
  | error e1 =>
    rw [also_no hl] at hr
    subst hr
    have hk : k < 285 := by
      refine Decidable.byContradiction fun hn => ?_
      rw [if_neg hn] at hl
      unfold also take at hl
      rw [if_pos (by have := h.le; omega)] at hl
      cases hl
    rw [if_pos hk] at hl
    have hne := not_zero (infnum.Good.spread K 4) hl
    have hki : (k : Int) < 285 := by omega
    have hK28 : K < 28 := by omega
    clear hk hk1 hk2 hK hK1
    go_enter Tryz.func81, Tryz.ntmps81
    go_wp2_with (go_at_call 99; refine (spread_four h K hK28 hl).mono ?_; rintro e w1 hN; obtain ⟨rfl, hS1⟩ := hN.no)
    go_ret
    exact ⟨rfl, p, Nat.le_refl _, hS1⟩
  | ok x =>
    obtain ⟨L, p1⟩ := x
    rw [also_ok hl] at hr
    -- where the distance's symbol is taken: behind the length's own bits, or at once
    have way : ∃ hp1 : p1 ≤ 8 * bs.length, p ≤ p1 ∧ L < 300000 ∧ ((k < 285 ∧ K < 28 ∧ spreadP K 4 (num bs) (8 * bs.length) p = .ok (L, p1)) ∨ (k = 285 ∧ L = 255 ∧ p1 = p)) := by
      by_cases hk : k < 285
      · rw [if_pos hk] at hl
        exact ⟨(infnum.Good.spread K 4).bd _ _ _ _ _ (by omega) h.le hl, ((infnum.Good.spread K 4).loc _ _ _ _ _ hl).1, spread_lt (by omega) (by omega) (by omega) hl, .inl ⟨hk, by omega, hl⟩⟩
      · rw [if_neg hk] at hl
        have hle := h.le
        unfold also take at hl
        rw [if_pos (by omega), Nat.pow_zero, Nat.mod_one] at hl
        change Except.ok (255, p) = _ at hl
        injection hl with hl
        injection hl with e1 e2
        exact ⟨by omega, by omega, by omega, .inr ⟨by omega, e1.symm, e2.symm⟩⟩
    obtain ⟨hp1, hpp, hL, way⟩ := way
    have hLi : (L : Int) ≤ 300000 := by omega
    clear hl hK hK1 hL
    cases hs : sym b (num bs) (8 * bs.length) p1 with
    | error e1 =>
      rw [also_no hs] at hr
      subst hr
      have hne := not_zero (infnum.Good.sym b) hs
      rcases way with ⟨hk, hK28, hl⟩ | ⟨rfl, rfl, rfl⟩
      · have hki : (k : Int) < 285 := by omega
        clear hk hk1 hk2
        go_enter Tryz.func81, Tryz.ntmps81
        go_wp2_with (go_at_call 99; (clear hki; refine (spread_four h K hK28 hl).mono ?_); rintro e w1 hN; obtain ⟨rfl, rl1, hS1, hT1⟩ := hN.ok; have hC1 := CodeAt.src hC h hT1; have hc1 := hS1.bits2; have hd1 : w1.cell? ⟨g, 11, none⟩ = some (ptr d) := (by rw [← hdi]; exact hS1.inf.cell rfl))
        go_region_with (go_at_call 80; refine (next_src (hS1.fresh (Fresh.drew _)) (hC1.fresh (Fresh.drew _)) hF hs).mono ?_; rintro e w2 hN2; obtain ⟨rfl, rl2, hS2, hT2⟩ := hN2.no; have hT3 := hT1.trans ((Turn.fresh (Fresh.drew w1)).trans hT2))
        all_goals
          go_wp2
          go_ret
          exact ⟨rfl, p1, by omega, rl2, hS2, hT3⟩
      · clear hk1 hk2 hpp
        go_enter Tryz.func81, Tryz.ntmps81
        go_wp2
        go_region_with (go_at_call 80; refine (next_src (h.fresh (Fresh.drew _)) (hC.fresh (Fresh.drew _)) hF hs).mono ?_; rintro e w2 hN2; obtain ⟨rfl, rl2, hS2, hT2⟩ := hN2.no; have hT3 := (Turn.fresh (Fresh.drew w)).trans hT2)
        all_goals
          go_wp2
          go_ret
          exact ⟨rfl, p1, by omega, rl2, hS2, hT3⟩
    | ok x =>
      obtain ⟨D, p2⟩ := x
      rw [also_ok hs] at hr
      obtain ⟨hDl, hp12⟩ := sym_lt hs
      have hp2 := (infnum.Good.sym b).bd _ _ _ _ _ (by omega) hp1 hs
      by_cases hD : 29 < D
      · rw [if_pos hD] at hr
        change Except.error 12 = r at hr
        subst hr
        have hDi : (D : Int) > 29 := by omega
        clear hD hDl
        rcases way with ⟨hk, hK28, hl⟩ | ⟨rfl, rfl, rfl⟩
        · have hki : (k : Int) < 285 := by omega
          clear hk hk1 hk2
          go_enter Tryz.func81, Tryz.ntmps81
          go_wp2_with (go_at_call 99; (clear hki; refine (spread_four h K hK28 hl).mono ?_); rintro e w1 hN; obtain ⟨rfl, rl1, hS1, hT1⟩ := hN.ok; have hC1 := CodeAt.src hC h hT1; have hc1 := hS1.bits2; have hd1 : w1.cell? ⟨g, 11, none⟩ = some (ptr d) := (by rw [← hdi]; exact hS1.inf.cell rfl))
          go_region_with (go_at_call 80; refine (next_src (hS1.fresh (Fresh.drew _)) (hC1.fresh (Fresh.drew _)) hF hs).mono ?_; rintro e w2 hN2; obtain ⟨rfl, rl2, hS2, hT2⟩ := hN2.ok; have hT3 := hT1.trans ((Turn.fresh (Fresh.drew w1)).trans hT2))
          all_goals
            go_wp2
            go_ret
            exact ⟨rfl, p2, by omega, rl2, hS2, hT3⟩
        · clear hk1 hk2 hpp
          go_enter Tryz.func81, Tryz.ntmps81
          go_wp2
          go_region_with (go_at_call 80; refine (next_src (h.fresh (Fresh.drew _)) (hC.fresh (Fresh.drew _)) hF hs).mono ?_; rintro e w2 hN2; obtain ⟨rfl, rl2, hS2, hT2⟩ := hN2.ok; have hT3 := (Turn.fresh (Fresh.drew w)).trans hT2)
          all_goals
            go_wp2
            go_ret
            exact ⟨rfl, p2, by omega, rl2, hS2, hT3⟩
      · rw [if_neg hD] at hr
        have hDi : ¬ (D : Int) > 29 := by omega
        have hD30 : D < 30 := by omega
        clear hD hDl
        cases hb : spreadP D 2 (num bs) (8 * bs.length) p2 with
        | error e3 =>
          rw [also_no hb] at hr
          subst hr
          have hne := not_zero (infnum.Good.spread D 2) hb
          rcases way with ⟨hk, hK28, hl⟩ | ⟨rfl, rfl, rfl⟩
          · have hki : (k : Int) < 285 := by omega
            clear hk hk1 hk2
            go_enter Tryz.func81, Tryz.ntmps81
            go_wp2_with (go_at_call 99; (clear hki; refine (spread_four h K hK28 hl).mono ?_); rintro e w1 hN; obtain ⟨rfl, rl1, hS1, hT1⟩ := hN.ok; have hC1 := CodeAt.src hC h hT1; have hc1 := hS1.bits2; have hd1 : w1.cell? ⟨g, 11, none⟩ = some (ptr d) := (by rw [← hdi]; exact hS1.inf.cell rfl))
            go_region_with (go_at_call 80; refine (next_src (hS1.fresh (Fresh.drew _)) (hC1.fresh (Fresh.drew _)) hF hs).mono ?_; rintro e w2 hN2; obtain ⟨rfl, rl2, hS2, hT2⟩ := hN2.ok; have hT3 := hT1.trans ((Turn.fresh (Fresh.drew w1)).trans hT2))
            all_goals
              go_wp2_with (go_at_call 99; refine (spread_two hS2 D hD30 hb).mono ?_; rintro e w3 hN3; obtain ⟨rfl, rl3, hS3, hT4⟩ := hN3.no)
              go_ret
              exact ⟨rfl, p2, by omega, rl3, hS3, hT3.trans hT4⟩
          · clear hk1 hk2 hpp
            go_enter Tryz.func81, Tryz.ntmps81
            go_wp2
            go_region_with (go_at_call 80; refine (next_src (h.fresh (Fresh.drew _)) (hC.fresh (Fresh.drew _)) hF hs).mono ?_; rintro e w2 hN2; obtain ⟨rfl, rl2, hS2, hT2⟩ := hN2.ok; have hT3 := (Turn.fresh (Fresh.drew w)).trans hT2)
            all_goals
              go_wp2_with (go_at_call 99; refine (spread_two hS2 D hD30 hb).mono ?_; rintro e w3 hN3; obtain ⟨rfl, rl3, hS3, hT4⟩ := hN3.no)
              go_ret
              exact ⟨rfl, p2, by omega, rl3, hS3, hT3.trans hT4⟩
        | ok x =>
          obtain ⟨B, p3⟩ := x
          rw [also_ok hb] at hr
          have hp3 := (infnum.Good.spread D 2).bd _ _ _ _ _ (by omega) hp2 hb
          have hp23 := ((infnum.Good.spread D 2).loc _ _ _ _ _ hb).1
          have hBl := spread_lt (by omega) (by omega) (by omega) hb
          have hBi : (B : Int) ≤ 300000 := by omega
          clear hBl
          by_cases hfar : n < B + 1
          · rw [if_pos hfar] at hr
            change Except.error 12 = r at hr
            subst hr
            have hfi : (B : Int) + 1 > (n : Int) := by omega
            clear hfar
            rcases way with ⟨hk, hK28, hl⟩ | ⟨rfl, rfl, rfl⟩
            · have hki : (k : Int) < 285 := by omega
              clear hk hk1 hk2
              go_enter Tryz.func81, Tryz.ntmps81
              go_wp2_with (go_at_call 99; (clear hki; refine (spread_four h K hK28 hl).mono ?_); rintro e w1 hN; obtain ⟨rfl, rl1, hS1, hT1⟩ := hN.ok; have hC1 := CodeAt.src hC h hT1; have hc1 := hS1.bits2; have hd1 : w1.cell? ⟨g, 11, none⟩ = some (ptr d) := (by rw [← hdi]; exact hS1.inf.cell rfl))
              go_region_with (go_at_call 80; refine (next_src (hS1.fresh (Fresh.drew _)) (hC1.fresh (Fresh.drew _)) hF hs).mono ?_; rintro e w2 hN2; obtain ⟨rfl, rl2, hS2, hT2⟩ := hN2.ok; have hT3 := hT1.trans ((Turn.fresh (Fresh.drew w1)).trans hT2))
              all_goals
                go_wp2_with (first | (go_at_call 99; (refine (spread_two hS2 D hD30 hb).mono ?_); rintro e w3 hN3; obtain ⟨rfl, rl3, hS3, hT4⟩ := hN3.ok; have hz7 := hS3.inf.free 7; have hz8 := hS3.inf.free 8; have hc7 : w3.cell? ⟨g, 7, none⟩ = some (iv v.left) := hS3.inf.cell rfl; have hc8 : w3.cell? ⟨g, 8, none⟩ = some (iv v.back) := hS3.inf.cell rfl) | (go_at_call 100; refine (many_is hS3.inf hv).mono ?_; rintro e w4 ⟨rfl, rfl⟩))
                go_ret
                exact ⟨rfl, p3, by omega, rl3, hS3, hT3.trans hT4⟩
            · clear hk1 hk2 hpp
              go_enter Tryz.func81, Tryz.ntmps81
              go_wp2
              go_region_with (go_at_call 80; refine (next_src (h.fresh (Fresh.drew _)) (hC.fresh (Fresh.drew _)) hF hs).mono ?_; rintro e w2 hN2; obtain ⟨rfl, rl2, hS2, hT2⟩ := hN2.ok; have hT3 := (Turn.fresh (Fresh.drew w)).trans hT2)
              all_goals
                go_wp2_with (first | (go_at_call 99; (refine (spread_two hS2 D hD30 hb).mono ?_); rintro e w3 hN3; obtain ⟨rfl, rl3, hS3, hT4⟩ := hN3.ok; have hz7 := hS3.inf.free 7; have hz8 := hS3.inf.free 8; have hc7 : w3.cell? ⟨g, 7, none⟩ = some (iv v.left) := hS3.inf.cell rfl; have hc8 : w3.cell? ⟨g, 8, none⟩ = some (iv v.back) := hS3.inf.cell rfl) | (go_at_call 100; refine (many_is hS3.inf hv).mono ?_; rintro e w4 ⟨rfl, rfl⟩))
                go_ret
                exact ⟨rfl, p3, by omega, rl3, hS3, hT3.trans hT4⟩
          · rw [if_neg hfar] at hr
            change Except.ok ((L + 3, B + 1), p3) = r at hr
            subst hr
            have hfi : ¬ (B : Int) + 1 > (n : Int) := by omega
            clear hfar
            rcases way with ⟨hk, hK28, hl⟩ | ⟨rfl, rfl, rfl⟩
            · have hki : (k : Int) < 285 := by omega
              clear hk hk1 hk2
              go_enter Tryz.func81, Tryz.ntmps81
              go_wp2_with (go_at_call 99; (clear hki; refine (spread_four h K hK28 hl).mono ?_); rintro e w1 hN; obtain ⟨rfl, rl1, hS1, hT1⟩ := hN.ok; have hC1 := CodeAt.src hC h hT1; have hc1 := hS1.bits2; have hd1 : w1.cell? ⟨g, 11, none⟩ = some (ptr d) := (by rw [← hdi]; exact hS1.inf.cell rfl))
              go_region_with (go_at_call 80; refine (next_src (hS1.fresh (Fresh.drew _)) (hC1.fresh (Fresh.drew _)) hF hs).mono ?_; rintro e w2 hN2; obtain ⟨rfl, rl2, hS2, hT2⟩ := hN2.ok; have hT3 := hT1.trans ((Turn.fresh (Fresh.drew w1)).trans hT2))
              all_goals
                go_wp2_with (first | (go_at_call 99; (refine (spread_two hS2 D hD30 hb).mono ?_); rintro e w3 hN3; obtain ⟨rfl, rl3, hS3, hT4⟩ := hN3.ok; have hz7 := hS3.inf.free 7; have hz8 := hS3.inf.free 8; have hc7 : w3.cell? ⟨g, 7, none⟩ = some (iv v.left) := hS3.inf.cell rfl; have hc8 : w3.cell? ⟨g, 8, none⟩ = some (iv v.back) := hS3.inf.cell rfl) | (go_at_call 100; refine (many_is hS3.inf hv).mono ?_; rintro e w4 ⟨rfl, rfl⟩))
                go_ret
                exact ⟨rfl, SrcIs.then ⟨rl3, hS3, hT3.trans hT4⟩ fun rl' h' => SrcIs.then (h'.put (v' := { v with left := L + 3 }) 7 _ rfl rfl) fun rl2 h2 => h2.put 8 _ rfl rfl⟩
            · clear hk1 hk2 hpp
              go_enter Tryz.func81, Tryz.ntmps81
              go_wp2
              go_region_with (go_at_call 80; refine (next_src (h.fresh (Fresh.drew _)) (hC.fresh (Fresh.drew _)) hF hs).mono ?_; rintro e w2 hN2; obtain ⟨rfl, rl2, hS2, hT2⟩ := hN2.ok; have hT3 := (Turn.fresh (Fresh.drew w)).trans hT2)
              all_goals
                go_wp2_with (first | (go_at_call 99; (refine (spread_two hS2 D hD30 hb).mono ?_); rintro e w3 hN3; obtain ⟨rfl, rl3, hS3, hT4⟩ := hN3.ok; have hz7 := hS3.inf.free 7; have hz8 := hS3.inf.free 8; have hc7 : w3.cell? ⟨g, 7, none⟩ = some (iv v.left) := hS3.inf.cell rfl; have hc8 : w3.cell? ⟨g, 8, none⟩ = some (iv v.back) := hS3.inf.cell rfl) | (go_at_call 100; refine (many_is hS3.inf hv).mono ?_; rintro e w4 ⟨rfl, rfl⟩))
                go_ret
                exact ⟨rfl, SrcIs.then ⟨rl3, hS3, hT3.trans hT4⟩ fun rl' h' => SrcIs.then (h'.put (v' := { v with left := 255 + 3 }) 7 _ rfl rfl) fun rl2 h2 => h2.put 8 _ rfl rfl⟩
end
end Go.Proofs.YtppgceighgpgoaaGreatDoor.infp
/-
  The contract of takeSymbol. My own text.
-/
namespace Go.Proofs.YtppgceighgpgoaaGreatDoor.infp
open Go.RowKit Go.Proofs.YtppgceighgpgoaaGreatDoor.base Go.Proofs.YtppgceighgpgoaaGreatDoor.num Go.Proofs.YtppgceighgpgoaaGreatDoor.bitnum Go.Proofs.YtppgceighgpgoaaGreatDoor.bitp Go.Proofs.YtppgceighgpgoaaGreatDoor.huffnum Go.Proofs.YtppgceighgpgoaaGreatDoor.huffp Go.Proofs.YtppgceighgpgoaaGreatDoor.infnum
set_option linter.unusedVariables false

section
variable {w : World} {g q p : Nat} {v : V} {bs : List UInt8} {rl : List Nat}
theorem ErrIs.ok {α : Type} {vn : α → V} {r : α × Nat} {e : Ending} {w' : World} (h : ErrIs w g v q bs p rl vn (.ok r) e w') : e = .returned (.int .i64 0) ∧ SrcIs w g (vn r.1) q bs r.2 rl w' := h
theorem ErrIs.no {α : Type} {vn : α → V} {k : Nat} {e : Ending} {w' : World} (h : ErrIs w g v q bs p rl vn (.error k) e w') : e = .returned (.int .i64 (k : Nat)) ∧ ∃ p', p ≤ p' ∧ SrcIs w g v q bs p' rl w' := h
theorem also_of {α β : Type} {f : Part α} {g : α → Part β} {U T p q : Nat} {b : β} (h : also f g U T p = .ok (b, q)) : ∃ a m, f U T p = .ok (a, m) ∧ g a U T m = .ok (b, q) := by
  cases hf : f U T p with
  | error e => rw [also_no hf] at h; cases h
  | ok x =>
    obtain ⟨a, m⟩ := x
    rw [also_ok hf] at h
    exact ⟨a, m, rfl, h⟩
theorem copyP_pos {k n : Nat} {b : List Nat} {U T p l f p' : Nat} (h : copyP k n b U T p = .ok ((l, f), p')) : l ≠ 0 ∧ f ≠ 0 := by
  unfold copyP at h
  obtain ⟨a, m, _, h⟩ := also_of h
  obtain ⟨d, m2, _, h⟩ := also_of h
  split at h
  · cases h
  · obtain ⟨f2, m3, _, h⟩ := also_of h
    split at h
    · cases h
    · injection h with h
      injection h with h _
      injection h with h1 h2
      omega
/-- what the fields hold behind a symbol -/
def symV (v : V) (x : Nat × Nat × UInt8) : V := if x.1 = 0 then { v with left := 0 } else if x.2.1 = 0 then { v with left := x.1, back := 0, one := x.2.2 } else { v with left := x.1, back := x.2.1 }
set_option maxHeartbeats 4000000 in
set_option maxRecDepth 100000 in
theorem takeSymbol_any (h : Src w g v q bs p rl) {s d : Nat} {a b sbl dbl : List Nat} (hsy : v.sy = ptr s) (hCs : CodeAt w s a sbl) (hFs : Fit a) (hdi : v.di = ptr d) (hC : CodeAt w d b dbl) (hF : Fit b) {A : Option Addr} {n c : Nat} (hv : v.win = .slice A n c)
    {r : Except Nat ((Nat × Nat × UInt8) × Nat)} (hr : symP n a b (num bs) (8 * bs.length) p = r) :
    Calls Tryz.prog 58 #[ptr g] w (ErrIs w g v q bs p rl (symV v) r) := by
  have hc := h.bits2
  have hc10 : w.cell? ⟨g, 10, none⟩ = some (ptr s) := by rw [← hsy]; exact h.inf.cell rfl
  unfold symP at hr
  cases hs : sym a (num bs) (8 * bs.length) p with
  | error e1 =>
    rw [also_no hs] at hr
    subst hr
    have hne := not_zero (infnum.Good.sym a) hs
    go_enter Tryz.func58, Tryz.ntmps58
    go_wp2
    go_region_with (go_at_call 80; refine (next_src (h.fresh (Fresh.drew _)) (hCs.fresh (Fresh.drew _)) hFs hs).mono ?_; rintro e w2 hN2; obtain ⟨rfl, rl2, hS2, hT2⟩ := hN2.no; have hT3 := (Turn.fresh (Fresh.drew w)).trans hT2)
    all_goals
      go_wp2
      go_ret
      exact ⟨rfl, p, Nat.le_refl _, rl2, hS2, hT3⟩
  | ok x =>
    obtain ⟨k, p1⟩ := x
    rw [also_ok hs] at hr
    obtain ⟨_, hpp⟩ := sym_lt hs
    have hp1 := (infnum.Good.sym a).bd _ _ _ _ _ (by omega) h.le hs
    by_cases hk1 : k < 256
    · rw [if_pos hk1] at hr
      change Except.ok ((1, 0, UInt8.ofNat k), p1) = r at hr
      subst hr
      have hki : (k : Int) < 256 := by omega
      have hw8 : IntKind.u8.wrap (k : Int) = ((UInt8.ofNat k).toNat : Int) := by
        rw [IntKind.wrap_u8, UInt8.toNat_ofNat']; omega
      clear hk1
      go_enter Tryz.func58, Tryz.ntmps58
      go_wp2
      go_region_with (go_at_call 80; refine (next_src (h.fresh (Fresh.drew _)) (hCs.fresh (Fresh.drew _)) hFs hs).mono ?_; rintro e w2 hN2; obtain ⟨rfl, rl2, hS2, hT2⟩ := hN2.ok; have hT3 := (Turn.fresh (Fresh.drew w)).trans hT2; have hz7 := hS2.inf.free 7; have hz8 := hS2.inf.free 8; have hz9 := hS2.inf.free 9; have hc7 : w2.cell? ⟨g, 7, none⟩ = some (iv v.left) := hS2.inf.cell rfl; have hc8 : w2.cell? ⟨g, 8, none⟩ = some (iv v.back) := hS2.inf.cell rfl; have hc9 : w2.cell? ⟨g, 9, none⟩ = some (bv v.one) := hS2.inf.cell rfl)
      all_goals
        go_wp2
        go_ret
        refine ⟨rfl, SrcIs.then ⟨rl2, hS2, hT3⟩ fun rl' h' => SrcIs.then (h'.put (v' := { v with left := 1 }) 7 _ rfl rfl) fun rl2 h2 => SrcIs.then (h2.put (v' := { v with left := 1, back := 0 }) 8 _ rfl rfl) fun rl3 h3 => h3.put 9 _ ?_ rfl⟩
        simp only [symV, V.cells, List.set, bv]
        rfl
    · rw [if_neg hk1] at hr
      by_cases hk2 : k = 256
      · subst hk2
        rw [if_pos rfl] at hr
        change Except.ok ((0, 0, 0), p1) = r at hr
        subst hr
        clear hk1
        go_enter Tryz.func58, Tryz.ntmps58
        go_wp2
        go_region_with (go_at_call 80; refine (next_src (h.fresh (Fresh.drew _)) (hCs.fresh (Fresh.drew _)) hFs hs).mono ?_; rintro e w2 hN2; obtain ⟨rfl, rl2, hS2, hT2⟩ := hN2.ok; have hT3 := (Turn.fresh (Fresh.drew w)).trans hT2; have hz7 := hS2.inf.free 7; have hc7 : w2.cell? ⟨g, 7, none⟩ = some (iv v.left) := hS2.inf.cell rfl)
        all_goals
          go_wp2
          go_ret
          exact ⟨rfl, SrcIs.then ⟨rl2, hS2, hT3⟩ fun rl' h' => h'.put 7 _ rfl rfl⟩
      · rw [if_neg hk2] at hr
        have hki : ¬ (k : Int) < 256 := by omega
        have hkj : ¬ (k : Int) = 256 := by omega
        by_cases hk3 : 285 < k
        · rw [if_pos hk3] at hr
          change Except.error 12 = r at hr
          subst hr
          have hkl : (k : Int) > 285 := by omega
          clear hk1 hk2 hk3
          go_enter Tryz.func58, Tryz.ntmps58
          go_wp2
          go_region_with (go_at_call 80; refine (next_src (h.fresh (Fresh.drew _)) (hCs.fresh (Fresh.drew _)) hFs hs).mono ?_; rintro e w2 hN2; obtain ⟨rfl, rl2, hS2, hT2⟩ := hN2.ok; have hT3 := (Turn.fresh (Fresh.drew w)).trans hT2)
          all_goals
            go_wp2
            go_ret
            exact ⟨rfl, p1, by omega, rl2, hS2, hT3⟩
        · rw [if_neg hk3] at hr
          have hkl : ¬ (k : Int) > 285 := by omega
          have hka : 256 < k := by omega
          have hkb : k ≤ 285 := by omega
          clear hk1 hk2 hk3
          cases hrc : copyP k n b (num bs) (8 * bs.length) p1 with
          | error e1 =>
            rw [also_no hrc] at hr
            subst hr
            go_enter Tryz.func58, Tryz.ntmps58
            go_wp2
            go_region_with (go_at_call 80; refine (next_src (h.fresh (Fresh.drew _)) (hCs.fresh (Fresh.drew _)) hFs hs).mono ?_; rintro e w2 hN2; obtain ⟨rfl, rl2, hS2, hT2⟩ := hN2.ok; have hT3 := (Turn.fresh (Fresh.drew w)).trans hT2; have hC2 := CodeAt.src hC h hT3)
            all_goals
              go_wp2_with (go_at_call 81; refine (takeCopy_any hS2 k hka hkb hdi hC2 hF hv hrc).mono ?_; rintro e w3 hE; obtain ⟨rfl, p2, hle2, rl3, hS3, hT4⟩ := hE.no)
              go_ret
              exact ⟨rfl, p2, by omega, rl3, hS3, hT3.trans hT4⟩
          | ok x =>
            obtain ⟨⟨l, f⟩, p2⟩ := x
            rw [also_ok hrc] at hr
            change Except.ok ((l, f, 0), p2) = r at hr
            subst hr
            obtain ⟨hl0, hf0⟩ := copyP_pos hrc
            have hsv : symV v (l, f, 0) = { v with left := l, back := f } := by
              unfold symV
              rw [if_neg hl0, if_neg hf0]
            go_enter Tryz.func58, Tryz.ntmps58
            go_wp2
            go_region_with (go_at_call 80; refine (next_src (h.fresh (Fresh.drew _)) (hCs.fresh (Fresh.drew _)) hFs hs).mono ?_; rintro e w2 hN2; obtain ⟨rfl, rl2, hS2, hT2⟩ := hN2.ok; have hT3 := (Turn.fresh (Fresh.drew w)).trans hT2; have hC2 := CodeAt.src hC h hT3)
            all_goals
              go_wp2_with (go_at_call 81; refine (takeCopy_any hS2 k hka hkb hdi hC2 hF hv hrc).mono ?_; rintro e w3 hE; obtain ⟨rfl, rl3, hS3, hT4⟩ := hE.ok)
              go_ret
              exact ⟨rfl, by rw [hsv]; exact ⟨rl3, hS3, hT3.trans hT4⟩⟩
end
end Go.Proofs.YtppgceighgpgoaaGreatDoor.infp
