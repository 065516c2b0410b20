import Derived.Test.YtppgceighgpgoaaGreatDoorDefFind
import Derived.Deep.RegionWith
/-
  The contract of find. My own text.
-/
namespace Go.Proofs.YtppgceighgpgoaaGreatDoor.defp
open Go.RowKit Go.Maps Go.Proofs.YtppgceighgpgoaaGreatDoor.base Go.Proofs.YtppgceighgpgoaaGreatDoor.num Go.Proofs.YtppgceighgpgoaaGreatDoor.bitnum Go.Proofs.YtppgceighgpgoaaGreatDoor.bitp Go.Proofs.YtppgceighgpgoaaGreatDoor.infp
set_option linter.unusedVariables false

/-- as many bytes are alike from p and from i on, at most 'most', three at least -/
def IsLong (b : List UInt8) (p i most l : Nat) : Prop := 3 ≤ l ∧ l ≤ most ∧ (∀ j, 3 ≤ j → j < l → b.getD (p + j) 0 = b.getD (i + j) 0) ∧ (l < most → b.getD (p + l) 0 ≠ b.getD (i + l) 0)
theorem IsLong.uniq {b : List UInt8} {p i most l l' : Nat} (h : IsLong b p i most l) (h' : IsLong b p i most l') : l = l' := by
  rcases Nat.lt_trichotomy l l' with e | e | e
  · exact absurd (h'.2.2.1 l h.1 e) (h.2.2.2 (by have := h'.2.1; omega))
  · exact e
  · exact absurd (h.2.2.1 l' h'.1 e) (h'.2.2.2 (by have := h.2.1; omega))
/-- what find tells -/
def Found (b : List UInt8) (i l back : Nat) : Prop :=
  (l = 0 ∧ back = 0 ∧ (b.length < i + 3 ∨ ∀ p, ¬ IsLast b i (at3 b i) p)) ∨
  (i + 3 ≤ b.length ∧ ∃ p, IsLast b i (at3 b i) p ∧ back = i - p ∧ IsLong b p i (min 258 (b.length - i)) l)
theorem Found.uniq {b : List UInt8} {i l l' k k' : Nat} (h : Found b i l k) (h' : Found b i l' k') : l = l' ∧ k = k' := by
  rcases h with ⟨rfl, rfl, h⟩ | ⟨h1, p, hp, rfl, hl⟩
  · rcases h' with ⟨rfl, rfl, h'⟩ | ⟨h1', p', hp', rfl, hl'⟩
    · exact ⟨rfl, rfl⟩
    · rcases h with h | h
      · omega
      · exact absurd hp' (h p')
  · rcases h' with ⟨rfl, rfl, h'⟩ | ⟨h1', p', hp', rfl, hl'⟩
    · rcases h' with h' | h'
      · omega
      · exact absurd hp (h' p)
    · obtain rfl := hp.uniq hp'
      exact ⟨hl.uniq hl', rfl⟩
theorem intZero (w : World) : (zeroValue 3).run Tryz.prog w = .ok (.int .i64 0) w := by kernel_rfl
section
variable {w w' : World} {f B n c m i : Nat} {A : Option Addr} {b : List UInt8}
set_option maxRecDepth 100000 in
set_option maxHeartbeats 4000000 in
theorem find_any (h : FindAt w f B A n c b m i) (hi : i ≤ n) : Calls Tryz.prog 20 #[.pointer (some ⟨f, 0, none⟩), .int .i64 i] w fun e w' => ∃ l k, e = .returned (.tuple #[.int .i64 (l : Nat), .int .i64 (k : Nat)]) ∧ Found b i l k ∧ Fresh w w' := by
  have hlen := h.len
  have hn := h.big
  have hwh := whole_any h i (by omega)
  have HWH := Lib.hid hwh
  have H := Lib.hid h
  clear hwh h
  by_cases hw : i + 3 ≤ n
  · have hd : decide (i + 3 ≤ n) = true := decide_eq_true hw
    have hth : ∀ W, Fresh w W → Calls Tryz.prog 36 #[.pointer (some ⟨f, 0, none⟩), .int .i64 i] W fun e w' => e = .returned (K3.val (at3 b i)) ∧ Fresh W w' := fun W k => three_any (H.out.fresh k) i hw
    have hc1 : ∀ W, Fresh w W → W.cell? ⟨f, 1, none⟩ = some (.map (some m)) := fun W k => ((H.out.fresh k).cells).cell rfl
    have HTH := Lib.hid hth
    have HC1 := Lib.hid hc1
    clear hth hc1
    by_cases hx : ∃ p, IsLast b i (at3 b i) p
    · obtain ⟨p, hp⟩ := hx
      have hlook : ∀ W, Fresh w W → ∃ kv, MapOf Tryz.prog tThree W m kv ∧ (K3.val (at3 b i), iv (p : Nat)) ∈ kv := fun W k => by
        obtain ⟨kv, h1, h2⟩ := (H.out.fresh k).map
        exact ⟨kv, h1, (h2 (by omega)).2 _ _ hp⟩
      have HLOOK := Lib.hid hlook
      clear hlook
      have hc0 : ∀ W, Fresh w W → W.cell? ⟨f, 0, none⟩ = some (.slice A n c) := fun W k => ((H.out.fresh k).cells).cell rfl
      have HC0 := Lib.hid hc0
      obtain ⟨L, hL⟩ : ∃ L, n - i = L := ⟨_, rfl⟩
      have hL1 : (n : Int) - (i : Int) = (L : Int) := by omega
      clear hc0
      by_cases hM : L < 258
      · have m1 : (L : Int) < 258 := by omega
        have m2 : ¬ (258 : Int) < (L : Int) := by omega
        have m3 : ¬ (258 : Int) ≤ (L : Int) := by omega
        go_enter Tryz.func20, Tryz.ntmps20
        go_upto_region 3 with (go_at_call 35; rw [hd] at HWH; (with_reducible refine HWH.out.mono ?_); rintro e w1 ⟨rfl, hf1⟩; have hk1 := HC1.out _ hf1; have hk2 := HC1.out _ (hf1.trans (Fresh.drew w1)))
        go_cut [6, 7] (fun s t wx => s = .int .i64 (p : Nat) ∧ t = .bool true ∧ Fresh w wx)
        case first =>
          go_region_with (go_at_call 36; refine (HTH.out _ (hf1.trans (Fresh.drew _))).mono ?_; rintro e w2 ⟨rfl, hf2⟩; have hf3 := (hf1.trans (Fresh.drew _)).trans hf2; obtain ⟨kv, hmap, hin⟩ := HLOOK.out _ hf3; have hrun : (Instr.lookup tMap (.map (some m)) (K3.val (at3 b i)) true).run Tryz.prog w2 = .ok (.tuple #[.int .i64 (p : Nat), .bool true]) w2 := hmap.look_hit keyed3 Tryz.underlying47 (key3 _) hin true; have hk3 := HC1.out _ hf3)
          all_goals go_wp2
          all_goals go_meet
          all_goals exact ⟨rfl, rfl, hf3⟩
        case rest =>
          obtain ⟨rfl, rfl, hf⟩ := hcut
          have HF := Lib.hid hf
          have hk0 := HC0.out _ hf
          clear hf
          go_wp2
          go_loopw [9] (fun t wr => ∃ j, t = .int .i64 (j : Nat) ∧ 3 ≤ j ∧ j ≤ L ∧ Hid (∀ x, 3 ≤ x → x < j → b.getD (p + x) 0 = b.getD (i + x) 0) ∧ Fresh w wr) (fun t _ => L - (intOf t).toNat)
          case atStart => exact ⟨3, rfl, Nat.le_refl _, by omega, fun x h1 h2 => by omega, HF.out⟩
          case round =>
            obtain ⟨j, rfl, hj3, hjM, hsame, hfr⟩ := hrel
            have HFR := Lib.hid hfr
            by_cases hjlt : j < L
            · have hjl : (j : Int) < (L : Int) := by omega
              have hrd := (H.out.fresh hfr).rd
              have hk0 := HC0.out _ hfr
              have hpi := hp.1
              obtain ⟨q, off, rfl, hq, ka⟩ := cell_get hrd (j := p + j) (by omega)
              obtain ⟨q', off', e', hq', kb⟩ := cell_get hrd (j := i + j) (by omega)
              injection e' with e'
              injection e' with e1 e2 _
              subst e1; subst e2
              obtain ⟨x, hx⟩ : ∃ x, p + j = x := ⟨_, rfl⟩
              obtain ⟨y, hy⟩ : ∃ y, i + j = y := ⟨_, rfl⟩
              have hx1 : (p : Int) + (j : Int) = (x : Int) := by omega
              have hy1 : (i : Int) + (j : Int) = (y : Int) := by omega
              have hx2 : (x : Int) < (n : Int) := by omega
              have hy2 : (y : Int) < (n : Int) := by omega
              have hx3 : (0 : Int) ≤ (x : Int) := by omega
              have hy3 : (0 : Int) ≤ (y : Int) := by omega
              have hx4 : IntKind.i64.wrap ((p : Int) + (j : Int)) = (x : Int) := by rw [IntWalk.i64_in _ (by omega)]; omega
              have hy4 : IntKind.i64.wrap ((i : Int) + (j : Int)) = (y : Int) := by rw [IntWalk.i64_in _ (by omega)]; omega
              have hdiff : b.getD x 0 = b.getD y 0 → b.getD (p + j) 0 = b.getD (i + j) 0 := fun h => by rw [hx, hy]; exact h
              have hdiff2 : b.getD x 0 ≠ b.getD y 0 → b.getD (p + j) 0 ≠ b.getD (i + j) 0 := fun h => by rw [hx, hy]; exact h
              rw [hx] at ka
              rw [hy] at kb
              have HD1 := Lib.hid hdiff
              have HD2 := Lib.hid hdiff2
              clear hrd hdiff hdiff2 hx hy
              generalize b.getD x 0 = u at *
              generalize b.getD y 0 = v at *
              by_cases huv : u = v
              · subst huv
                have hs1 : ∀ x, 3 ≤ x → x < j + 1 → b.getD (p + x) 0 = b.getD (i + x) 0 := fun x h1 h2 => by
                  rcases Nat.lt_or_ge x j with h | h
                  · exact hsame.out x h1 h
                  · obtain rfl : x = j := by omega
                    exact HD1.out rfl
                have HS1 := Lib.hid hs1
                clear hs1
                go_wp2
                go_quiet (fail)
                go_wp2
                go_roundw
                case rel => exact ⟨j + 1, by go_num, by omega, by omega, HS1.out, HFR.out.trans (Fresh.drewN _ _)⟩
                case measure => simp [intOf]; omega
              · have huv' : ¬ (u.toNat : Int) = (v.toNat : Int) := fun h => huv (UInt8.toNat_inj.1 (by omega))
                have hlong : IsLong b p i (min 258 (b.length - i)) j := ⟨hj3, by rw [hlen]; omega, hsame.out, fun _ => HD2.out huv⟩
                have HLONG := Lib.hid hlong
                obtain ⟨K, hK⟩ : ∃ K, i - p = K := ⟨_, rfl⟩
                have hK1 : (i : Int) - (p : Int) = (K : Int) := by omega
                clear hlong
                go_wp2
                go_quiet (fail)
                go_wp2
                go_ret2
                exact ⟨j, K, rfl, .inr ⟨by rw [hlen]; exact hw, p, hp, hK.symm, HLONG.out⟩, HFR.out.trans (Fresh.drewN _ _)⟩
            · have hjl : ¬ (j : Int) < (L : Int) := by omega
              have hlong : IsLong b p i (min 258 (b.length - i)) j := ⟨hj3, by rw [hlen]; omega, hsame.out, fun h => by rw [hlen] at h; omega⟩
              have HLONG := Lib.hid hlong
              have hpi := hp.1
              obtain ⟨K, hK⟩ : ∃ K, i - p = K := ⟨_, rfl⟩
              have hK1 : (i : Int) - (p : Int) = (K : Int) := by omega
              clear hlong
              go_wp2
              go_quiet (fail)
              go_wp2
              go_ret2
              exact ⟨j, K, rfl, .inr ⟨by rw [hlen]; exact hw, p, hp, hK.symm, HLONG.out⟩, HFR.out.trans (Fresh.drewN _ _)⟩
      · have m1 : ¬ (L : Int) < 258 := by omega
        have m3 : (258 : Int) ≤ (L : Int) := by omega
        go_enter Tryz.func20, Tryz.ntmps20
        go_upto_region 3 with (go_at_call 35; rw [hd] at HWH; (with_reducible refine HWH.out.mono ?_); rintro e w1 ⟨rfl, hf1⟩; have hk1 := HC1.out _ hf1; have hk2 := HC1.out _ (hf1.trans (Fresh.drew w1)))
        go_cut [6, 7] (fun s t wx => s = .int .i64 (p : Nat) ∧ t = .bool true ∧ Fresh w wx)
        case first =>
          go_region_with (go_at_call 36; refine (HTH.out _ (hf1.trans (Fresh.drew _))).mono ?_; rintro e w2 ⟨rfl, hf2⟩; have hf3 := (hf1.trans (Fresh.drew _)).trans hf2; obtain ⟨kv, hmap, hin⟩ := HLOOK.out _ hf3; have hrun : (Instr.lookup tMap (.map (some m)) (K3.val (at3 b i)) true).run Tryz.prog w2 = .ok (.tuple #[.int .i64 (p : Nat), .bool true]) w2 := hmap.look_hit keyed3 Tryz.underlying47 (key3 _) hin true; have hk3 := HC1.out _ hf3)
          all_goals go_wp2
          all_goals go_meet
          all_goals exact ⟨rfl, rfl, hf3⟩
        case rest =>
          obtain ⟨rfl, rfl, hf⟩ := hcut
          have HF := Lib.hid hf
          have hk0 := HC0.out _ hf
          clear hf
          go_wp2
          go_loopw [9] (fun t wr => ∃ j, t = .int .i64 (j : Nat) ∧ 3 ≤ j ∧ j ≤ 258 ∧ Hid (∀ x, 3 ≤ x → x < j → b.getD (p + x) 0 = b.getD (i + x) 0) ∧ Fresh w wr) (fun t _ => 258 - (intOf t).toNat)
          case atStart => exact ⟨3, rfl, Nat.le_refl _, by omega, fun x h1 h2 => by omega, HF.out⟩
          case round =>
            obtain ⟨j, rfl, hj3, hjM, hsame, hfr⟩ := hrel
            have HFR := Lib.hid hfr
            by_cases hjlt : j < 258
            · have hjl : (j : Int) < 258 := by omega
              have hrd := (H.out.fresh hfr).rd
              have hk0 := HC0.out _ hfr
              have hpi := hp.1
              obtain ⟨q, off, rfl, hq, ka⟩ := cell_get hrd (j := p + j) (by omega)
              obtain ⟨q', off', e', hq', kb⟩ := cell_get hrd (j := i + j) (by omega)
              injection e' with e'
              injection e' with e1 e2 _
              subst e1; subst e2
              obtain ⟨x, hx⟩ : ∃ x, p + j = x := ⟨_, rfl⟩
              obtain ⟨y, hy⟩ : ∃ y, i + j = y := ⟨_, rfl⟩
              have hx1 : (p : Int) + (j : Int) = (x : Int) := by omega
              have hy1 : (i : Int) + (j : Int) = (y : Int) := by omega
              have hx2 : (x : Int) < (n : Int) := by omega
              have hy2 : (y : Int) < (n : Int) := by omega
              have hx3 : (0 : Int) ≤ (x : Int) := by omega
              have hy3 : (0 : Int) ≤ (y : Int) := by omega
              have hx4 : IntKind.i64.wrap ((p : Int) + (j : Int)) = (x : Int) := by rw [IntWalk.i64_in _ (by omega)]; omega
              have hy4 : IntKind.i64.wrap ((i : Int) + (j : Int)) = (y : Int) := by rw [IntWalk.i64_in _ (by omega)]; omega
              have hdiff : b.getD x 0 = b.getD y 0 → b.getD (p + j) 0 = b.getD (i + j) 0 := fun h => by rw [hx, hy]; exact h
              have hdiff2 : b.getD x 0 ≠ b.getD y 0 → b.getD (p + j) 0 ≠ b.getD (i + j) 0 := fun h => by rw [hx, hy]; exact h
              rw [hx] at ka
              rw [hy] at kb
              have HD1 := Lib.hid hdiff
              have HD2 := Lib.hid hdiff2
              clear hrd hdiff hdiff2 hx hy
              generalize b.getD x 0 = u at *
              generalize b.getD y 0 = v at *
              by_cases huv : u = v
              · subst huv
                have hs1 : ∀ x, 3 ≤ x → x < j + 1 → b.getD (p + x) 0 = b.getD (i + x) 0 := fun x h1 h2 => by
                  rcases Nat.lt_or_ge x j with h | h
                  · exact hsame.out x h1 h
                  · obtain rfl : x = j := by omega
                    exact HD1.out rfl
                have HS1 := Lib.hid hs1
                clear hs1
                go_wp2
                go_quiet (fail)
                go_wp2
                go_roundw
                case rel => exact ⟨j + 1, by go_num, by omega, by omega, HS1.out, HFR.out.trans (Fresh.drewN _ _)⟩
                case measure => simp [intOf]; omega
              · have huv' : ¬ (u.toNat : Int) = (v.toNat : Int) := fun h => huv (UInt8.toNat_inj.1 (by omega))
                have hlong : IsLong b p i (min 258 (b.length - i)) j := ⟨hj3, by rw [hlen]; omega, hsame.out, fun _ => HD2.out huv⟩
                have HLONG := Lib.hid hlong
                obtain ⟨K, hK⟩ : ∃ K, i - p = K := ⟨_, rfl⟩
                have hK1 : (i : Int) - (p : Int) = (K : Int) := by omega
                clear hlong
                go_wp2
                go_quiet (fail)
                go_wp2
                go_ret2
                exact ⟨j, K, rfl, .inr ⟨by rw [hlen]; exact hw, p, hp, hK.symm, HLONG.out⟩, HFR.out.trans (Fresh.drewN _ _)⟩
            · have hjl : ¬ (j : Int) < 258 := by omega
              have hjl2 : (258 : Int) ≤ (j : Int) := by omega
              have hjl3 : decide ((j : Int) < 258) = false := decide_eq_false hjl
              have hlong : IsLong b p i (min 258 (b.length - i)) j := ⟨hj3, by rw [hlen]; omega, hsame.out, fun h => by rw [hlen] at h; omega⟩
              have HLONG := Lib.hid hlong
              have hpi := hp.1
              obtain ⟨K, hK⟩ : ∃ K, i - p = K := ⟨_, rfl⟩
              have hK1 : (i : Int) - (p : Int) = (K : Int) := by omega
              clear hlong
              go_wp2
              go_quiet (fail)
              go_wp2
              go_ret2
              exact ⟨j, K, rfl, .inr ⟨by rw [hlen]; exact hw, p, hp, hK.symm, HLONG.out⟩, HFR.out.trans (Fresh.drewN _ _)⟩
    · have hno : ∀ p, ¬ IsLast b i (at3 b i) p := fun p hp => hx ⟨p, hp⟩
      have hlook : ∀ W, Fresh w W → ∃ kv, MapOf Tryz.prog tThree W m kv ∧ ∀ x ∈ kv, x.1 ≠ K3.val (at3 b i) := fun W k => by
        obtain ⟨kv, h1, h2⟩ := (H.out.fresh k).map
        exact ⟨kv, h1, (h2 (by omega)).miss hno⟩
      have HLOOK := Lib.hid hlook
      have HNO := Lib.hid hno
      clear hlook hno hx
      go_enter Tryz.func20, Tryz.ntmps20
      go_upto_region 3 with (go_at_call 35; rw [hd] at HWH; (with_reducible refine HWH.out.mono ?_); rintro e w1 ⟨rfl, hf1⟩; have hk1 := HC1.out _ hf1; have hk2 := HC1.out _ (hf1.trans (Fresh.drew w1)))
      go_cut [6, 7] (fun s t wx => t = .bool false ∧ Fresh w wx)
      case first =>
        go_region_with (go_at_call 36; refine (HTH.out _ (hf1.trans (Fresh.drew _))).mono ?_; rintro e w2 ⟨rfl, hf2⟩; have hf3 := (hf1.trans (Fresh.drew _)).trans hf2; obtain ⟨kv, hmap, hin⟩ := HLOOK.out _ hf3; have hrun : (Instr.lookup tMap (.map (some m)) (K3.val (at3 b i)) true).run Tryz.prog w2 = .ok (.tuple #[.int .i64 0, .bool false]) w2 := hmap.look_miss keyed3 Tryz.underlying47 (intZero _) (key3 _) hin true; have hk3 := HC1.out _ hf3)
        all_goals go_wp2
        all_goals go_meet
        all_goals exact ⟨rfl, hf3⟩
      case rest =>
        obtain ⟨rfl, hf⟩ := hcut
        go_wp2
        go_ret2
        exact ⟨0, 0, rfl, .inl ⟨rfl, rfl, .inr HNO.out⟩, hf⟩
  · have hd : decide (i + 3 ≤ n) = false := decide_eq_false hw
    rw [hd] at HWH
    go_enter Tryz.func20, Tryz.ntmps20
    go_wp2_with (go_at_call 35; (with_reducible refine HWH.out.mono ?_); rintro e w1 ⟨rfl, hf1⟩)
    go_ret2
    exact ⟨0, 0, rfl, .inl ⟨rfl, rfl, .inl (by rw [hlen]; omega)⟩, hf1⟩
end
end Go.Proofs.YtppgceighgpgoaaGreatDoor.defp
