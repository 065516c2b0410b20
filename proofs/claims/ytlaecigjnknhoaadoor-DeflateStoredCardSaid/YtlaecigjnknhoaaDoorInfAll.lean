import Derived.Test.YtlaecigjnknhoaaDoorInfLive
/-
  The contract of All. My own text.
-/
namespace Go.Proofs.YtlaecigjnknhoaaDoor.infp
open Go.RowKit Go.Proofs.YtlaecigjnknhoaaDoor.base Go.Proofs.YtlaecigjnknhoaaDoor.num Go.Proofs.YtlaecigjnknhoaaDoor.bitnum Go.Proofs.YtlaecigjnknhoaaDoor.bitp Go.Proofs.YtlaecigjnknhoaaDoor.huffnum Go.Proofs.YtlaecigjnknhoaaDoor.huffp Go.Proofs.YtlaecigjnknhoaaDoor.infnum
set_option linter.unusedVariables false

theorem results_tmp3 {fn : Func} {t u v : Tmp} (h : fn.results = #[.tmp t, .tmp u, .tmp v]) (tmps : Array Value) (P : Program) (w : World) :
    (results fn tmps).run P w = .ok (.tuple #[tmps.getD t undef, tmps.getD u undef, tmps.getD v undef]) w := by
  simp [results, h]
/-- how long a slice is -/
def lenOf : Value → Nat
  | .slice _ n _ => n
  | _ => 0
/-- 0 if an unpacker has ended, by the memory -/
def openAt (g : Nat) (w : World) : Nat := match w.cell? ⟨g, 5, none⟩ with
  | some (.int _ z) => if z = 4 then 0 else 1
  | _ => 1
theorem openAt_is {w : World} {g : Nat} {v : V} (h : InfAt w g v) : openAt g w = if v.next = 4 then 0 else 1 := by
  unfold openAt
  have : w.cell? ⟨g, 5, none⟩ = some (iv v.next) := h.cell rfl
  rw [this]
  simp only
  by_cases h4 : v.next = 4
  · rw [if_pos h4, if_pos (by omega)]
  · rw [if_neg h4, if_neg (by omega)]
theorem Ord.in {w : World} (h : Ord w) : 1 < w.heap.size := by
  have := h 0 16 rfl
  by_cases hlt : 1 < w.heap.size
  · exact hlt
  · simp [World.cell?, Array.getElem?_eq_none (Nat.not_lt.1 hlt)] at this
theorem TurnX.fresh {W w w' : World} {R : List Nat} (h : TurnX w w' R W.heap.size) (hf : Fresh W w) : Fresh W w' := by
  obtain ⟨S, S', hT, hN, _⟩ := h
  exact hT.new hf hN
theorem TurnX.own {w w' : World} {base n c N : Nat} {e : TypeId} {A : Option Addr} {xs : List Value} (h : TurnX w w' (rb A n c) N) (ho : Own w base e A n c xs) : Own w' base e A n c xs := by
  obtain ⟨S, S', hT, _, hR⟩ := h
  exact bitp.Own.turn ho hT fun x hx e => hR x (by simp [rb, e]) hx
/-- what All tells -/
def AllIs (w : World) (b : List UInt8) (most : Nat) (e : Ending) (w' : World) : Prop :=
  Fresh w w' ∧ ∃ a, Tells b most a ∧ match a with
    | .ok x n => ∃ A c, e = .returned (.tuple #[.slice A x.length c, .int .i64 (n : Nat), .int .i64 0]) ∧ Own w' w.heap.size 5 A x.length c (x.map bv)
    | .long => e = .returned (.tuple #[.slice none 0 0, .int .i64 0, .int .i64 10])
    | .bad er => er ≠ 0 ∧ e = .returned (.tuple #[.slice none 0 0, .int .i64 0, .int .i64 (er : Nat)])
set_option maxHeartbeats 8000000 in
set_option maxRecDepth 100000 in
theorem all_any (A : Option Addr) (n c : Nat) (bs : List UInt8) (w : World) (B : Nat) (hr : Rd w B A n (bs.map bv)) (hB : B ≤ w.heap.size) (hn : n ≤ 16777216) (hO : Ord w) (most : Nat) (hm : most ≤ 16777216) :
    Calls Tryd.prog 10 #[.slice A n c, .int .i64 most] w (AllIs w bs most) := by
  obtain ⟨i0, hi0, hz0, hz1, hz2⟩ := info_parts info_byte
  have hl : bs.length = n := by have := hr.1; rwa [List.length_map] at this
  have hGN := Ord.in hO
  have HL := Lib.hid hl
  have HR := Lib.hid hr
  have HO := Lib.hid hO
  have HGN := Lib.hid hGN
  clear hl hr hO hGN
  go_enter Tryd.func10, Tryd.ntmps10
  go_upto_region 1 with (fail)
  go_cut [1] (fun s wx => s = .int .i64 (most : Nat) ∧ w = wx)
  case first =>
    go_wp2
    all_goals go_meet
    all_goals exact ⟨by congr 1 <;> omega, rfl⟩
  case rest =>
  obtain ⟨rfl, rfl⟩ := hcut
  go_wp2_with (first
    | (go_at_call 21; refine (new_any _).mono ?_; rintro e w1 ⟨rfl, hi1, hf1⟩)
    | (go_at_call 12; refine (put_new _ w1 A n c B bs hi1 (HR.out.below hf1 hB) hn).mono ?_; rintro e w2 ⟨rfl, A1, c1, hi2, ho2, hT2⟩))
  obtain ⟨g, hg⟩ : ∃ g, w.heap.size = g := ⟨_, rfl⟩
  have hgw : w.heap.size ≤ g := by omega
  rw [hg] at hi1 hi2 hT2 ⊢
  have hX : LiveX w2 g bs { v0 with rest := .slice A1 n c1 } [] [] w.heap.size := LiveX.begin_ hi2 ho2 hT2 hi1.inside hgw HGN.out (HO.out.keep (hf1.block _ HGN.out)) (by rw [HL.out]; exact hn)
  have hf2 : Fresh w w2 := hT2.new hf1 (by simpa using hgw)
  have HX := Lib.hid hX
  have HF2 := Lib.hid hf2
  clear hX hf2 hi2 ho2 hT2 hi1 hf1 hgw hg
  go_loopw [8] (fun i wr => ∃ (A : Option Addr) (n c : Nat) (H : List UInt8) (v : V), i = .slice A n c ∧ n ≤ most ∧ Hid (H.length = n) ∧ Hid (v.told = false) ∧ LiveX wr g bs v H (rb A n c) w.heap.size ∧ Own wr w.heap.size 5 A n c (H.map bv) ∧ Fresh w wr) (fun i wr => 2 * (most + 1 - lenOf i) + openAt g wr)
  case atStart => exact ⟨none, 0, 0, [], { v0 with rest := .slice A1 n c1 }, rfl, Nat.zero_le _, rfl, rfl, HX.out, Own.nil _ _ _, HF2.out⟩
  case round =>
    clear HX HF2
    obtain ⟨A, na, c, H, v, rfl, hna, hHl, htold, hX, hOw, hfr⟩ := hrel
    have hH : H.length ≤ 17179869184 := by rw [hHl.out]; omega
    have hd := done_x hX hH
    have hcap := hOw.cap
    unfold maxLen at hcap
    have hmea : openAt g wr ≤ 1 := by unfold openAt; split <;> (try split) <;> omega
    have hop : v.next ≠ 4 → openAt g wr = 1 := fun h => by rw [openAt_is hX.inf, if_neg h]
    have HOP := Lib.hid hop
    have HD := Lib.hid hd
    have HOw := Lib.hid hOw
    clear hd hX hOw hop
    go_wp2_with (go_at_call 14; refine HD.out.mono ?_; rintro e w3 ⟨v3, he, hv3, hst3, hX3, hT3⟩; have HT3 := Lib.hid hT3; have HX3 := Lib.hid hX3; clear hT3 hX3; (by_cases h4 : v3.next = 4); (all_goals (simp only [h4, decide_true, decide_false] at he)); (all_goals subst he))
    · -- all is unpacked
      have hun := HX3.out.done h4
      have hb5 := hun.2
      have HUN := Lib.hid hun.1
      have hfr3 := HT3.out.fresh hfr
      have hOw3 := HT3.out.own HOw.out
      have HOw3 := Lib.hid hOw3
      have hrs := rest_dn w3 g v3 HX3.out.inf h4
      have HRS := Lib.hid hrs
      obtain ⟨Z, hZ⟩ : ∃ Z, n - v3.behind = Z := ⟨_, rfl⟩
      rw [HL.out] at hb5
      have hZ1 : (n : Int) - (v3.behind : Int) = (Z : Int) := by omega
      clear hun hOw3 hrs
      go_wp2_with (go_at_call 15; refine HRS.out.mono ?_; rintro e w4 ⟨rfl, hf4⟩)
      ((try simp only [Exit.inBlock, Exit.then]); refine bodyPost_ret (results_tmp3 rfl _ _ _) rfl ?_)
      have h6 := HUN.out
      rw [HL.out, hZ] at h6
      have h7 := HOw3.out.fresh hf4
      obtain rfl : H.length = na := hHl.out
      exact ⟨hfr3.trans hf4, .ok H Z, ⟨h6, hna⟩, A, c, rfl, h7⟩
    · -- more is asked for
      obtain ⟨Z, hZ⟩ : ∃ Z, most + 1 - na = Z := ⟨_, rfl⟩
      obtain ⟨M, hM⟩ : ∃ M, min Z 65536 = M := ⟨_, rfl⟩
      have hZ1 : (most : Int) + 1 - (na : Int) = (Z : Int) := by omega
      have hfr3 := HT3.out.fresh hfr
      have hOw3 := HT3.out.own HOw.out
      have HOw3 := Lib.hid hOw3
      have HFR3 := Lib.hid hfr3
      have hg3 := get_x HX3.out (hv3.trans htold.out) Z (by omega) hH M hM
      have hg3' : ∀ z : Int, z = (Z : Int) → Calls Tryd.prog 13 #[ptr g, .int .i64 z] w3 _ := fun z hz => by rw [hz]; exact hg3
      have HG3 := Lib.hid hg3'
      have HH4 : Hid (openAt g wr = 1) := HOP.out fun h => h4 (hst3 h)
      clear hg3 hg3' hOw3 hfr3 h4 hst3
      go_wp2_with (first
        | (go_at_call 13; refine (HG3.out _ (by omega)).mono ?_; rintro e w4 ⟨Ap, m, cp, Y, er, rfl, hmM, hOp, hYm, hT4, hres⟩; have hfr4 := hT4.fresh HFR3.out; have hOw4 := hT4.own HOw3.out; have HRES := Lib.hid hres; have HYM := Lib.hid hYm; have hmZ : m ≤ 65536 := (by omega); have hmZ2 : m ≤ Z := (by omega); clear hres hT4 hYm)
        | (at_builtin; refine wpList_append_rdx _ rfl _ _ 22 rfl w.heap.size 5 i0 _ 1 Tryd.underlying22 hi0 hz0 hz1 hz2 rfl A na c (H.map bv) rfl hOw4 w4.heap.size Ap m cp (Y.map bv) rfl hOp.rd (bv_one Y) (by unfold maxLen; omega) (by omega) hfr4.size ?_; intro A5 c5 w5 hO5 hg5 hw5; rw [← List.map_append] at hO5; have hfr5 := hfr4.append hOw4 (Nat.le_refl _) hg5; have HO5 := Lib.hid hO5; have HG5 := Lib.hid hg5; have HW5 := Lib.hid hw5; clear hO5 hg5 hw5))
      · ((try simp only [Exit.inBlock, Exit.then]); refine bodyPost_ret (results_tmp3 rfl _ _ _) rfl ?_)
        refine ⟨hfr5, .long, ?_, rfl⟩
        have hYl := HYM.out
        have hHl' := hHl.out
        rcases HRES.out with ⟨_, v5, _, hX5, _⟩ | ⟨_, s, P, h1, _, _, h4⟩
        · obtain ⟨s, P, h1, h2⟩ := hX5.reach
          exact ⟨s, P, h1, by rw [List.length_append] at h2; omega⟩
        · exact ⟨s, P, h1, by rw [h4, List.length_append]; omega⟩
      · ((try simp only [Exit.inBlock, Exit.then]); refine bodyPost_ret (results_tmp3 rfl _ _ _) rfl ?_)
        have hYl := HYM.out
        have hHl' := hHl.out
        rename_i hle her
        have hne : er ≠ 0 := by intro h; subst h; simp at her
        rcases HRES.out with ⟨h0, _⟩ | ⟨h0, s, P, h1, h2, h3, h4⟩
        · exact absurd h0 hne
        · exact ⟨hfr5, .bad er, ⟨s, P, h1, h2, h3, by rw [h4, List.length_append]; omega⟩, h0, rfl⟩
      · rename_i hle her
        have hne : er = 0 := by simpa using her
        have hYl := HYM.out
        have hHl' := hHl.out
        rcases HRES.out with ⟨_, v5, ht5, hX5, hor⟩ | ⟨h0, _⟩
        · have hX6 : LiveX w5 g bs v5 (H ++ Y) (rb A5 (na + m) c5) w.heap.size := hX5.past (Turn.of_grown HG5.out (S := rb A na c) (fun g h => by simp [rb, h])) (fun x hx => Own.ty hOw4 x (by simpa [rb] using hx)) (fun x hx => by
            have hx' : (Value.slice A5 (na + m) c5).ownBlock = some x := by simpa [rb] using hx
            rcases HW5.out with h | h
            · exact .inl (by simp [rb, ← h, hx'])
            · rw [h] at hx'
              injection hx' with hx'
              exact .inr ⟨by omega, (World.ownsRow.lt HO5.out x (by rw [h, hx'])).2⟩)
          have hme := openAt_is hX6.inf
          have hme1 : openAt g w5 ≤ 1 := by rw [hme]; split <;> omega
          have hop1 := HH4.out
          clear HG3 HD HOP HRES
          go_roundw
          case rel => exact ⟨A5, na + m, c5, H ++ Y, v5, rfl, by omega, by show _ = _; rw [List.length_append]; omega, ht5, hX6, HO5.out, hfr5⟩
          case measure =>
            show 2 * (most + 1 - (na + m)) + openAt g w5 < 2 * (most + 1 - na) + openAt g wr
            rw [hop1]
            rcases hor with h | h
            · rw [hme, if_pos h]; omega
            · omega
        · exact absurd hne h0
end Go.Proofs.YtlaecigjnknhoaaDoor.infp
