/-
  The contract of takeSymbol. My own text.
-/
import Derived.Test.YtlaecigjnknhoaaDoorInfSym
namespace Go.Proofs.YtlaecigjnknhoaaDoor.infp
open Go.RowKit Go.Proofs.YtlaecigjnknhoaaDoor.base Go.Proofs.YtlaecigjnknhoaaDoor.num Go.Proofs.YtlaecigjnknhoaaDoor.bitnum Go.Proofs.YtlaecigjnknhoaaDoor.bitp Go.Proofs.YtlaecigjnknhoaaDoor.huffnum Go.Proofs.YtlaecigjnknhoaaDoor.huffp Go.Proofs.YtlaecigjnknhoaaDoor.infnum
set_option linter.unusedVariables false

section
variable {w : World} {g q p : Nat} {v : V} {bs : List UInt8} {rl : List Nat}
theorem ErrIs.ok {α : Type} {vn : α → V} {r : α × Nat} {e : Ending} {w' : World} (h : ErrIs w g v q bs p rl vn (.ok r) e w') : e = .returned (.int .i64 0) ∧ SrcIs w g (vn r.1) q bs r.2 rl w' := h
theorem ErrIs.no {α : Type} {vn : α → V} {k : Nat} {e : Ending} {w' : World} (h : ErrIs w g v q bs p rl vn (.error k) e w') : e = .returned (.int .i64 (k : Nat)) ∧ ∃ p', p ≤ p' ∧ SrcIs w g v q bs p' rl w' := h
theorem also_of {α β : Type} {f : Part α} {g : α → Part β} {U T p q : Nat} {b : β} (h : also f g U T p = .ok (b, q)) : ∃ a m, f U T p = .ok (a, m) ∧ g a U T m = .ok (b, q) := by
  cases hf : f U T p with
  | error e => rw [also_no hf] at h; cases h
  | ok x =>
    obtain ⟨a, m⟩ := x
    rw [also_ok hf] at h
    exact ⟨a, m, rfl, h⟩
theorem copyP_pos {k n : Nat} {b : List Nat} {U T p l f p' : Nat} (h : copyP k n b U T p = .ok ((l, f), p')) : l ≠ 0 ∧ f ≠ 0 := by
  unfold copyP at h
  obtain ⟨a, m, _, h⟩ := also_of h
  obtain ⟨d, m2, _, h⟩ := also_of h
  split at h
  · cases h
  · obtain ⟨f2, m3, _, h⟩ := also_of h
    split at h
    · cases h
    · injection h with h
      injection h with h _
      injection h with h1 h2
      omega
/-- what the fields hold behind a symbol -/
def symV (v : V) (x : Nat × Nat × UInt8) : V := if x.1 = 0 then { v with left := 0 } else if x.2.1 = 0 then { v with left := x.1, back := 0, one := x.2.2 } else { v with left := x.1, back := x.2.1 }
set_option maxHeartbeats 4000000 in
set_option maxRecDepth 100000 in
theorem takeSymbol_any (h : Src w g v q bs p rl) {s d : Nat} {a b sbl dbl : List Nat} (hsy : v.sy = ptr s) (hCs : CodeAt w s a sbl) (hFs : Fit a) (hdi : v.di = ptr d) (hC : CodeAt w d b dbl) (hF : Fit b) {A : Option Addr} {n c : Nat} (hv : v.win = .slice A n c)
    {r : Except Nat ((Nat × Nat × UInt8) × Nat)} (hr : symP n a b (num bs) (8 * bs.length) p = r) :
    Calls Tryd.prog 33 #[ptr g] w (ErrIs w g v q bs p rl (symV v) r) := by
  have hc := h.bits2
  have hc10 : w.cell? ⟨g, 10, none⟩ = some (ptr s) := by rw [← hsy]; exact h.inf.cell rfl
  unfold symP at hr
  cases hs : sym a (num bs) (8 * bs.length) p with
  | error e1 =>
    rw [also_no hs] at hr
    subst hr
    have hne := not_zero (infnum.Good.sym a) hs
    go_enter Tryd.func33, Tryd.ntmps33
    go_wp2
    go_region_with (go_at_call 56; refine (next_src (h.fresh (Fresh.drew _)) (hCs.fresh (Fresh.drew _)) hFs hs).mono ?_; rintro e w2 hN2; obtain ⟨rfl, rl2, hS2, hT2⟩ := hN2.no; have hT3 := (Turn.fresh (Fresh.drew w)).trans hT2)
    all_goals
      go_wp2
      go_ret
      exact ⟨rfl, p, Nat.le_refl _, rl2, hS2, hT3⟩
  | ok x =>
    obtain ⟨k, p1⟩ := x
    rw [also_ok hs] at hr
    obtain ⟨_, hpp⟩ := sym_lt hs
    have hp1 := (infnum.Good.sym a).bd _ _ _ _ _ (by omega) h.le hs
    by_cases hk1 : k < 256
    · rw [if_pos hk1] at hr
      change Except.ok ((1, 0, UInt8.ofNat k), p1) = r at hr
      subst hr
      have hki : (k : Int) < 256 := by omega
      have hw8 : IntKind.u8.wrap (k : Int) = ((UInt8.ofNat k).toNat : Int) := by
        rw [IntKind.wrap_u8, UInt8.toNat_ofNat']; omega
      clear hk1
      go_enter Tryd.func33, Tryd.ntmps33
      go_wp2
      go_region_with (go_at_call 56; refine (next_src (h.fresh (Fresh.drew _)) (hCs.fresh (Fresh.drew _)) hFs hs).mono ?_; rintro e w2 hN2; obtain ⟨rfl, rl2, hS2, hT2⟩ := hN2.ok; have hT3 := (Turn.fresh (Fresh.drew w)).trans hT2; have hz7 := hS2.inf.free 7; have hz8 := hS2.inf.free 8; have hz9 := hS2.inf.free 9; have hc7 : w2.cell? ⟨g, 7, none⟩ = some (iv v.left) := hS2.inf.cell rfl; have hc8 : w2.cell? ⟨g, 8, none⟩ = some (iv v.back) := hS2.inf.cell rfl; have hc9 : w2.cell? ⟨g, 9, none⟩ = some (bv v.one) := hS2.inf.cell rfl)
      all_goals
        go_wp2
        go_ret
        refine ⟨rfl, SrcIs.then ⟨rl2, hS2, hT3⟩ fun rl' h' => SrcIs.then (h'.put (v' := { v with left := 1 }) 7 _ rfl rfl) fun rl2 h2 => SrcIs.then (h2.put (v' := { v with left := 1, back := 0 }) 8 _ rfl rfl) fun rl3 h3 => h3.put 9 _ ?_ rfl⟩
        simp only [symV, V.cells, List.set, bv]
        rfl
    · rw [if_neg hk1] at hr
      by_cases hk2 : k = 256
      · subst hk2
        rw [if_pos rfl] at hr
        change Except.ok ((0, 0, 0), p1) = r at hr
        subst hr
        clear hk1
        go_enter Tryd.func33, Tryd.ntmps33
        go_wp2
        go_region_with (go_at_call 56; refine (next_src (h.fresh (Fresh.drew _)) (hCs.fresh (Fresh.drew _)) hFs hs).mono ?_; rintro e w2 hN2; obtain ⟨rfl, rl2, hS2, hT2⟩ := hN2.ok; have hT3 := (Turn.fresh (Fresh.drew w)).trans hT2; have hz7 := hS2.inf.free 7; have hc7 : w2.cell? ⟨g, 7, none⟩ = some (iv v.left) := hS2.inf.cell rfl)
        all_goals
          go_wp2
          go_ret
          exact ⟨rfl, SrcIs.then ⟨rl2, hS2, hT3⟩ fun rl' h' => h'.put 7 _ rfl rfl⟩
      · rw [if_neg hk2] at hr
        have hki : ¬ (k : Int) < 256 := by omega
        have hkj : ¬ (k : Int) = 256 := by omega
        by_cases hk3 : 285 < k
        · rw [if_pos hk3] at hr
          change Except.error 12 = r at hr
          subst hr
          have hkl : (k : Int) > 285 := by omega
          clear hk1 hk2 hk3
          go_enter Tryd.func33, Tryd.ntmps33
          go_wp2
          go_region_with (go_at_call 56; refine (next_src (h.fresh (Fresh.drew _)) (hCs.fresh (Fresh.drew _)) hFs hs).mono ?_; rintro e w2 hN2; obtain ⟨rfl, rl2, hS2, hT2⟩ := hN2.ok; have hT3 := (Turn.fresh (Fresh.drew w)).trans hT2)
          all_goals
            go_wp2
            go_ret
            exact ⟨rfl, p1, by omega, rl2, hS2, hT3⟩
        · rw [if_neg hk3] at hr
          have hkl : ¬ (k : Int) > 285 := by omega
          have hka : 256 < k := by omega
          have hkb : k ≤ 285 := by omega
          clear hk1 hk2 hk3
          cases hrc : copyP k n b (num bs) (8 * bs.length) p1 with
          | error e1 =>
            rw [also_no hrc] at hr
            subst hr
            go_enter Tryd.func33, Tryd.ntmps33
            go_wp2
            go_region_with (go_at_call 56; refine (next_src (h.fresh (Fresh.drew _)) (hCs.fresh (Fresh.drew _)) hFs hs).mono ?_; rintro e w2 hN2; obtain ⟨rfl, rl2, hS2, hT2⟩ := hN2.ok; have hT3 := (Turn.fresh (Fresh.drew w)).trans hT2; have hC2 := CodeAt.src hC h hT3)
            all_goals
              go_wp2_with (go_at_call 57; refine (takeCopy_any hS2 k hka hkb hdi hC2 hF hv hrc).mono ?_; rintro e w3 hE; obtain ⟨rfl, p2, hle2, rl3, hS3, hT4⟩ := hE.no)
              go_ret
              exact ⟨rfl, p2, by omega, rl3, hS3, hT3.trans hT4⟩
          | ok x =>
            obtain ⟨⟨l, f⟩, p2⟩ := x
            rw [also_ok hrc] at hr
            change Except.ok ((l, f, 0), p2) = r at hr
            subst hr
            obtain ⟨hl0, hf0⟩ := copyP_pos hrc
            have hsv : symV v (l, f, 0) = { v with left := l, back := f } := by
              unfold symV
              rw [if_neg hl0, if_neg hf0]
            go_enter Tryd.func33, Tryd.ntmps33
            go_wp2
            go_region_with (go_at_call 56; refine (next_src (h.fresh (Fresh.drew _)) (hCs.fresh (Fresh.drew _)) hFs hs).mono ?_; rintro e w2 hN2; obtain ⟨rfl, rl2, hS2, hT2⟩ := hN2.ok; have hT3 := (Turn.fresh (Fresh.drew w)).trans hT2; have hC2 := CodeAt.src hC h hT3)
            all_goals
              go_wp2_with (go_at_call 57; refine (takeCopy_any hS2 k hka hkb hdi hC2 hF hv hrc).mono ?_; rintro e w3 hE; obtain ⟨rfl, rl3, hS3, hT4⟩ := hE.ok)
              go_ret
              exact ⟨rfl, by rw [hsv]; exact ⟨rl3, hS3, hT3.trans hT4⟩⟩
end
end Go.Proofs.YtlaecigjnknhoaaDoor.infp
