import Derived.Test.YtppgceighgpgoaaGreatDoorMgLnB
/- Several of my own texts, one behind the other. -/
/-
  slices.SortStableFunc of symbols: symMerge where one row has one symbol. My own text.
-/
namespace Go.Proofs.YtppgceighgpgoaaGreatDoor.sortp
open Go.RowKit Go.Proofs.YtppgceighgpgoaaGreatDoor.base Go.Proofs.YtppgceighgpgoaaGreatDoor.sortnum
set_option linter.unusedVariables false

section
variable {g n c a m b q B : Nat} {R : List Value} {cs : List Int} {f : Nat → Int} {w : World}
set_option maxHeartbeats 16000000 in
set_option maxRecDepth 100000 in
theorem sym_left (h : DAt w g n R f) (ham1 : a + 1 ≤ m) (ham2 : m ≤ a + 1) (hmb : m < b) (hb : b ≤ n) (hn : n ≤ 1000) (hC : Cnt w q B cs) (hBg : B ≤ g) (hok : ∀ i, i < n → ok cs (f i)) (hs : Srt (kf cs f) m b) (hlr : Lr f a m b) :
    Calls Tryz.prog 105 #[.slice (some ⟨g, 0, none⟩) n c, .int .i64 a, .int .i64 m, .int .i64 b, kv q] w fun e w' => e = .returned (.tuple #[]) ∧ ∃ f', DAt w' g n R f' ∧ Wn a b n f f' ∧ Srt (kf cs f') a b ∧ But g w w' := by
  have hgw := h.inside
  have HC := Lib.hid hC
  have HOK := Lib.hid hok
  have HS := Lib.hid hs
  have HH := Lib.hid h
  have ha := h.at_ (i := a) (by omega)
  have t1 : ((m : Int) - (a : Int) == 1) = true := by rw [beq_iff_eq]; omega
  obtain ⟨va, hva⟩ : ∃ va, f a = va := ⟨_, rfl⟩
  rw [hva] at ha
  have hoka := hok a (by omega)
  rw [hva] at hoka
  have HVA := Lib.hid hva
  have HOKA := Lib.hid hoka
  have HLR := Lib.hid hlr
  clear hC hok hs h hva hoka hlr
  have a0 : (0 : Int) ≤ (a : Int) := by omega
  have a1 : (a : Int) < (n : Int) := by omega
  have em : IntKind.i64.wrap ((m : Int) - (a : Int)) = (m : Int) - (a : Int) := IntWalk.i64_in _ (by omega)
  go_enter Tryz.func105, Tryz.ntmps105
  go_wp2
  go_loopw [10, 11] (fun vi vj wr => ∃ (i j p : Nat), vi = .int .i64 i ∧ vj = .int .i64 j ∧ m ≤ i ∧ i ≤ j ∧ j ≤ b ∧ Hid (∀ x, m ≤ x → x < i → key2 cs (f x) < key2 cs va) ∧ Hid (∀ x, j ≤ x → x < b → key2 cs va ≤ key2 cs (f x)) ∧ wr = w.drewN p) (fun vi vj _ => (intOf vj - intOf vi).toNat)
  case atStart => exact ⟨m, b, 0, rfl, rfl, by omega, by omega, by omega, fun x h1 h2 => absurd h2 (by omega), fun x h1 h2 => absurd h2 (by omega), rfl⟩
  case round =>
    obtain ⟨i, j, p, rfl, rfl, hi, hij, hj, hlo, hhi, rfl⟩ := hrel
    clear t1 em
    by_cases hlt : i < j
    · obtain ⟨x, hx⟩ : ∃ x, (i + j) / 2 = x := ⟨_, rfl⟩
      have ex : ((i : Int) + (j : Int)) / 2 = (x : Int) := by omega
      have hx1 : i ≤ x ∧ x < j := by omega
      have cx := HH.out.at_ (i := x) (by omega)
      obtain ⟨u, hu⟩ : ∃ u, f x = u := ⟨_, rfl⟩
      rw [hu] at cx
      have hoku := HOK.out x (by omega)
      rw [hu] at hoku
      obtain ⟨r, hr⟩ : ∃ r, cmp3 (key cs u) (key cs va) = r := ⟨_, rfl⟩
      have hcmp := fun mm => cmp_quiet (W := w.drewN p) (m := mm) (HC.out.drewN p) hoku HOKA.out
      have cx : (w.drewN p).cell? ⟨g, x, none⟩ = some (.int .i64 u) := cx
      have ca : (w.drewN p).cell? ⟨g, a, none⟩ = some (.int .i64 va) := ha
      obtain ⟨W, hW⟩ : ∃ W, w.drewN p = W := ⟨_, rfl⟩
      have HWW := Lib.hid hW
      rw [hW] at cx ca ⊢
      rw [hW] at hcmp
      clear hW ha
      have hlt3 := cmp3_lt2 (cs := cs) hoku HOKA.out (by rw [← hu, ← HVA.out]; exact HLR.out a x (Nat.le_refl _) (by omega) (by omega) (by omega))
      rw [hr] at hcmp hlt3
      have HCMP := Lib.hid hcmp
      have HU := Lib.hid hu
      have HX := Lib.hid hx
      have x0 : (0 : Int) ≤ (x : Int) := by omega
      have x1 : (x : Int) < (n : Int) := by omega
      clear hcmp hu hoku hr hx
      by_cases hk : key2 cs u < key2 cs va
      · have tr : decide (r < 0) = true := by rw [hlt3]; exact decide_eq_true hk
        have HK := Lib.hid hk
        clear hlt3 hk
        go_wp2
        go_quiet (with_reducible exact HCMP.out _)
        go_wp2
        go_roundw
        case rel =>
          refine ⟨x + 1, j, _, by go_num, rfl, by omega, by omega, hj, ?_, hhi, by rw [← HWW.out, World.drewN_drewN]⟩
          intro y hy1 hy2
          refine Int.lt_of_le_of_lt (HS.out y x hy1 (by omega) (by omega)) ?_
          show key2 cs (f x) < _
          rw [HU.out]; exact HK.out
        case measure => simp [intOf]; omega
      · have tr : decide (r < 0) = false := by rw [hlt3]; exact decide_eq_false hk
        have HK := Lib.hid hk
        clear hlt3 hk
        go_wp2
        go_quiet (with_reducible exact HCMP.out _)
        go_wp2
        go_roundw
        case rel =>
          refine ⟨i, x, _, rfl, rfl, hi, by omega, by omega, hlo, ?_, by rw [← HWW.out, World.drewN_drewN]⟩
          intro y hy1 hy2
          refine Int.le_trans ?_ (HS.out x y (by omega) hy1 hy2)
          show _ ≤ key2 cs (f x)
          rw [HU.out]
          have := HK.out
          omega
        case measure => simp [intOf]; omega
    · obtain rfl : i = j := by omega
      have hD := HH.out.fresh (Fresh.drewN w p)
      have hB : But g w (w.drewN p) := But.drewN w p
      generalize w.drewN p = w1 at *
      obtain ⟨z, hz⟩ : ∃ z, i - 1 = z := ⟨_, rfl⟩
      have ez : (i : Int) - 1 = (z : Int) := by omega
      go_wp2
      go_loopw [13] (fun vk wr => ∃ k : Nat, vk = .int .i64 k ∧ a ≤ k ∧ k ≤ z ∧ DAt wr g n R (mvr f a k) ∧ Hid (Wn a b n f (mvr f a k)) ∧ But g w wr) (fun vk _ => z - (intOf vk).toNat)
      case atStart => exact ⟨a, rfl, by omega, by omega, by rw [mvr_start]; exact hD, by rw [mvr_start]; exact Wn.refl _ _ _ _, hB⟩
      case round =>
        obtain ⟨k, rfl, hk1, hk2, hD2, hW2, hB2⟩ := hrel
        by_cases hkz : k < z
        · obtain ⟨y, hy⟩ : ∃ y, k + 1 = y := ⟨_, rfl⟩
          have ey : IntKind.i64.wrap ((k : Int) + 1) = (y : Int) := by rw [IntWalk.i64_in _ (by omega)]; omega
          have cx := hD2.at_ (i := k) (by omega)
          have cy := hD2.at_ (i := y) (by omega)
          have fx := hD2.free k
          have fy := hD2.free y
          have hs := DAt.swap hD2 (i := k) (j := y) (by omega) (by omega)
          have hW3 := hW2.out.trans (Wn.sw (mvr f a k) (i := k) (j := y) (a := a) (b := b) ⟨by omega, by omega⟩ ⟨by omega, by omega⟩ hb)
          have hst := mvr_step f hk1
          rw [hy] at hst
          rw [hst] at hs hW3
          obtain ⟨u, hu⟩ : ∃ u, mvr f a k k = u := ⟨_, rfl⟩
          obtain ⟨v, hv⟩ : ∃ v, mvr f a k y = v := ⟨_, rfl⟩
          rw [hu] at cx hs
          rw [hv] at cy hs
          have x0 : (0 : Int) ≤ (k : Int) := by omega
          have y0 : (0 : Int) ≤ (y : Int) := by omega
          have x1 : (k : Int) < (n : Int) := by omega
          have y1 : (y : Int) < (n : Int) := by omega
          have hne : (k = y) = False := by simp; omega
          have hne2 : (y = k) = False := by simp; omega
          have HSW := Lib.hid hs
          have HB := Lib.hid hB2
          have HW3 := Lib.hid hW3
          have HY := Lib.hid hy
          clear hD2 hst hs hu hv hB2 hy hD hB hW3 hW2 ha
          go_wp2
          go_region
          have hD3 := HSW.out.fresh (Fresh.drew _)
          have hB3 := (HB.out.trans (But.two (g := g) (i := k) (j := y) wr (.int .i64 v) (.int .i64 u))).trans (But.of_fresh (Fresh.drew _))
          have HD3 := Lib.hid hD3
          have HB3 := Lib.hid hB3
          clear hD3 hB3 cx cy fx fy
          generalize ((wr.setCell ⟨g, k, none⟩ (.int .i64 v)).setCell ⟨g, y, none⟩ (.int .i64 u)).drew = V at *
          go_wp2
          go_roundw
          case rel => exact ⟨y, by go_num, by have := HY.out; omega, by have := HY.out; omega, HD3.out, HW3.out, HB3.out⟩
          case measure => simp [intOf]; have := HY.out; omega
        · obtain rfl : k = z := by omega
          go_wp2
          refine bodyPost_ret (results_none rfl _ _ _) rfl ?_
          refine ⟨rfl, _, hD2, hW2.out, ?_, hB2⟩
          have := mvr_srt (key := key2 cs) (f := f) (a := a) (b := b) (i := i) (by rw [show a + 1 = m by omega]; exact HS.out) (by omega) hj (fun x h1 h2 => by have := hlo.out x (by omega) h2; rw [HVA.out]; exact this) (fun x h1 h2 => by rw [HVA.out]; exact hhi.out x h1 h2)
          rw [hz] at this
          exact this
set_option maxHeartbeats 16000000 in
set_option maxRecDepth 100000 in
theorem sym_right (h : DAt w g n R f) (ham : a < m) (ham2 : m - a ≠ 1) (hmb1 : m + 1 ≤ b) (hmb2 : b ≤ m + 1) (hb : b ≤ n) (hn : n ≤ 1000) (hC : Cnt w q B cs) (hBg : B ≤ g) (hok : ∀ i, i < n → ok cs (f i)) (hs : Srt (kf cs f) a m) (hlr : Lr f a m b) :
    Calls Tryz.prog 105 #[.slice (some ⟨g, 0, none⟩) n c, .int .i64 a, .int .i64 m, .int .i64 b, kv q] w fun e w' => e = .returned (.tuple #[]) ∧ ∃ f', DAt w' g n R f' ∧ Wn a b n f f' ∧ Srt (kf cs f') a b ∧ But g w w' := by
  have hgw := h.inside
  have HC := Lib.hid hC
  have HOK := Lib.hid hok
  have HS := Lib.hid hs
  have HH := Lib.hid h
  have ha := h.at_ (i := m) (by omega)
  have t1 : ((m : Int) - (a : Int) == 1) = false := by rw [beq_eq_false_iff_ne]; omega
  have t2 : ((b : Int) - (m : Int) == 1) = true := by rw [beq_iff_eq]; omega
  obtain ⟨va, hva⟩ : ∃ va, f m = va := ⟨_, rfl⟩
  rw [hva] at ha
  have hoka := hok m (by omega)
  rw [hva] at hoka
  have HVA := Lib.hid hva
  have HOKA := Lib.hid hoka
  have HLR := Lib.hid hlr
  clear hC hok hs h hva hoka hlr
  have a0 : (0 : Int) ≤ (m : Int) := by omega
  have a1 : (m : Int) < (n : Int) := by omega
  have em : IntKind.i64.wrap ((m : Int) - (a : Int)) = (m : Int) - (a : Int) := IntWalk.i64_in _ (by omega)
  have em2 : IntKind.i64.wrap ((b : Int) - (m : Int)) = (b : Int) - (m : Int) := IntWalk.i64_in _ (by omega)
  go_enter Tryz.func105, Tryz.ntmps105
  go_wp2
  go_loopw [14, 15] (fun vi vj wr => ∃ (i j p : Nat), vi = .int .i64 i ∧ vj = .int .i64 j ∧ a ≤ i ∧ i ≤ j ∧ j ≤ m ∧ Hid (∀ x, a ≤ x → x < i → key2 cs (f x) ≤ key2 cs va) ∧ Hid (∀ x, j ≤ x → x < m → key2 cs va < key2 cs (f x)) ∧ wr = w.drewN p) (fun vi vj _ => (intOf vj - intOf vi).toNat)
  case atStart => exact ⟨a, m, 0, rfl, rfl, by omega, by omega, by omega, fun x h1 h2 => absurd h2 (by omega), fun x h1 h2 => absurd h2 (by omega), rfl⟩
  case round =>
    obtain ⟨i, j, p, rfl, rfl, hi, hij, hj, hlo, hhi, rfl⟩ := hrel
    clear t1 em t2 em2
    by_cases hlt : i < j
    · obtain ⟨x, hx⟩ : ∃ x, (i + j) / 2 = x := ⟨_, rfl⟩
      have ex : ((i : Int) + (j : Int)) / 2 = (x : Int) := by omega
      have hx1 : i ≤ x ∧ x < j := by omega
      have cx := HH.out.at_ (i := x) (by omega)
      obtain ⟨u, hu⟩ : ∃ u, f x = u := ⟨_, rfl⟩
      rw [hu] at cx
      have hoku := HOK.out x (by omega)
      rw [hu] at hoku
      obtain ⟨r, hr⟩ : ∃ r, cmp3 (key cs va) (key cs u) = r := ⟨_, rfl⟩
      have hcmp := fun mm => cmp_quiet (W := w.drewN p) (m := mm) (HC.out.drewN p) HOKA.out hoku
      have cx : (w.drewN p).cell? ⟨g, x, none⟩ = some (.int .i64 u) := cx
      have ca : (w.drewN p).cell? ⟨g, m, none⟩ = some (.int .i64 va) := ha
      obtain ⟨W, hW⟩ : ∃ W, w.drewN p = W := ⟨_, rfl⟩
      have HWW := Lib.hid hW
      rw [hW] at cx ca ⊢
      rw [hW] at hcmp
      clear hW ha
      have hlt3 := cmp3_lt2 (cs := cs) HOKA.out hoku (by rw [← hu, ← HVA.out]; exact HLR.out x m (by omega) (by omega) (Nat.le_refl _) (by omega))
      rw [hr] at hcmp hlt3
      have HCMP := Lib.hid hcmp
      have HU := Lib.hid hu
      have HX := Lib.hid hx
      have x0 : (0 : Int) ≤ (x : Int) := by omega
      have x1 : (x : Int) < (n : Int) := by omega
      clear hcmp hu hoku hr hx
      by_cases hk : key2 cs va < key2 cs u
      · have tr : decide (r < 0) = true := by rw [hlt3]; exact decide_eq_true hk
        have HK := Lib.hid hk
        clear hlt3 hk
        go_wp2
        go_quiet (with_reducible exact HCMP.out _)
        go_wp2
        go_roundw
        case rel =>
          refine ⟨i, x, _, rfl, rfl, hi, by omega, by omega, hlo, ?_, by rw [← HWW.out, World.drewN_drewN]⟩
          intro y hy1 hy2
          refine Int.lt_of_lt_of_le ?_ (HS.out x y (by omega) hy1 hy2)
          show _ < key2 cs (f x)
          rw [HU.out]; exact HK.out
        case measure => simp [intOf]; omega
      · have tr : decide (r < 0) = false := by rw [hlt3]; exact decide_eq_false hk
        have HK := Lib.hid hk
        clear hlt3 hk
        go_wp2
        go_quiet (with_reducible exact HCMP.out _)
        go_wp2
        go_roundw
        case rel =>
          refine ⟨x + 1, j, _, by go_num, rfl, by omega, by omega, hj, ?_, hhi, by rw [← HWW.out, World.drewN_drewN]⟩
          intro y hy1 hy2
          refine Int.le_trans (HS.out y x hy1 (by omega) (by omega)) ?_
          show key2 cs (f x) ≤ _
          rw [HU.out]
          have := HK.out
          omega
        case measure => simp [intOf]; omega
    · obtain rfl : i = j := by omega
      have hD := HH.out.fresh (Fresh.drewN w p)
      have hB : But g w (w.drewN p) := But.drewN w p
      generalize w.drewN p = w1 at *
      go_wp2
      go_loopw [17] (fun vk wr => ∃ k : Nat, vk = .int .i64 k ∧ i ≤ k ∧ k ≤ m ∧ DAt wr g n R (mvl f m k) ∧ Hid (Wn a b n f (mvl f m k)) ∧ But g w wr) (fun vk _ => (intOf vk).toNat)
      case atStart => exact ⟨m, rfl, by omega, by omega, by rw [mvl_start]; exact hD, by rw [mvl_start]; exact Wn.refl _ _ _ _, hB⟩
      case round =>
        obtain ⟨k, rfl, hk1, hk2, hD2, hW2, hB2⟩ := hrel
        by_cases hkz : i < k
        · obtain ⟨y, hy⟩ : ∃ y, k - 1 = y := ⟨_, rfl⟩
          have ey : IntKind.i64.wrap ((k : Int) - 1) = (y : Int) := by rw [IntWalk.i64_in _ (by omega)]; omega
          have cx := hD2.at_ (i := k) (by omega)
          have cy := hD2.at_ (i := y) (by omega)
          have fx := hD2.free k
          have fy := hD2.free y
          have hs := DAt.swap hD2 (i := k) (j := y) (by omega) (by omega)
          have hW3 := hW2.out.trans (Wn.sw (mvl f m k) (i := k) (j := y) (a := a) (b := b) ⟨by omega, by omega⟩ ⟨by omega, by omega⟩ hb)
          have hst := mvl_step f (m := m) (k := y) (by omega)
          rw [show y + 1 = k by omega] at hst
          rw [hst] at hs hW3
          obtain ⟨u, hu⟩ : ∃ u, mvl f m k k = u := ⟨_, rfl⟩
          obtain ⟨v, hv⟩ : ∃ v, mvl f m k y = v := ⟨_, rfl⟩
          rw [hu] at cx hs
          rw [hv] at cy hs
          have x0 : (0 : Int) ≤ (k : Int) := by omega
          have y0 : (0 : Int) ≤ (y : Int) := by omega
          have x1 : (k : Int) < (n : Int) := by omega
          have y1 : (y : Int) < (n : Int) := by omega
          have hne : (k = y) = False := by simp; omega
          have hne2 : (y = k) = False := by simp; omega
          have HSW := Lib.hid hs
          have HB := Lib.hid hB2
          have HW3 := Lib.hid hW3
          have HY := Lib.hid hy
          clear hD2 hst hs hu hv hB2 hy hD hB hW3 hW2 ha
          go_wp2
          go_region
          have hD3 := HSW.out.fresh (Fresh.drew _)
          have hB3 := (HB.out.trans (But.two (g := g) (i := k) (j := y) wr (.int .i64 v) (.int .i64 u))).trans (But.of_fresh (Fresh.drew _))
          have HD3 := Lib.hid hD3
          have HB3 := Lib.hid hB3
          clear hD3 hB3 cx cy fx fy
          generalize ((wr.setCell ⟨g, k, none⟩ (.int .i64 v)).setCell ⟨g, y, none⟩ (.int .i64 u)).drew = V at *
          go_wp2
          go_roundw
          case rel => exact ⟨y, by first | rfl | go_num, by have := HY.out; omega, by have := HY.out; omega, HD3.out, HW3.out, HB3.out⟩
          case measure => simp [intOf]; have := HY.out; omega
        · obtain rfl : i = k := by omega
          go_wp2
          refine bodyPost_ret (results_none rfl _ _ _) rfl ?_
          refine ⟨rfl, _, hD2, hW2.out, ?_, hB2⟩
          have := mvl_srt (key := key2 cs) (f := f) (a := a) (m := m) (i := i) HS.out hi hj (fun x h1 h2 => by rw [HVA.out]; exact hlo.out x h1 h2) (fun x h1 h2 => by rw [HVA.out]; exact hhi.out x h1 h2)
          rwa [show m + 1 = b by omega] at this
end
end Go.Proofs.YtppgceighgpgoaaGreatDoor.sortp
/-
  symMerge: what both ways share. My own text.
-/
namespace Go.Proofs.YtppgceighgpgoaaGreatDoor.sortp
open Go.RowKit Go.Proofs.YtppgceighgpgoaaGreatDoor.base Go.Proofs.YtppgceighgpgoaaGreatDoor.sortnum
set_option linter.unusedVariables false

theorem fin_wn {a mid b n : Nat} {f G F1 F2 : Nat → Int} (h : Wn a b n f G) (h1 : Wn a mid n G F1) (h2 : Wn mid b n F1 F2) (ha : a ≤ mid) (hb : mid ≤ b) : Wn a b n f F2 := (h.trans (h1.mono (Nat.le_refl _) hb)).trans (h2.mono ha (Nat.le_refl _))
theorem fin_srt {key : Int → Int} {a mid b n : Nat} {G F1 F2 : Nat → Int} (ha : a ≤ mid) (hb : mid ≤ b) (h1 : Wn a mid n G F1) (h2 : Wn mid b n F1 F2) (s1 : Srt (fun x => key (F1 x)) a mid) (s2 : Srt (fun x => key (F2 x)) mid b)
    (hc : ∀ p r, a ≤ p → p < mid → mid ≤ r → r < b → key (G p) ≤ key (G r)) : Srt (fun x => key (F2 x)) a b :=
  srt_join ha hb ⟨F1, h1, h2⟩ (Srt.same s1 fun x _ hx => h2.out x (Or.inl hx)) s2 hc
theorem Lr.left {f : Nat → Int} {a m b s e mid : Nat} (h : Lr f a m b) (h1 : s ≤ m) (h2 : m ≤ e) (h3 : e ≤ b) (h4 : s + e = mid + m) (h5 : s ≤ mid) : Lr (exch f s (m - s) (e - m)) a s mid := fun p r p1 p2 r1 r2 => by
  simp only [exch]
  rw [if_neg (by omega), if_neg (by omega), if_pos (by omega)]
  exact h p _ p1 (by omega) (by omega) (by omega)
theorem Lr.right {f : Nat → Int} {a m b s e mid : Nat} (h : Lr f a m b) (h0 : a ≤ s) (h1 : s ≤ m) (h2 : m ≤ e) (h3 : e ≤ b) (h4 : s + e = mid + m) (h5 : mid ≤ e) : Lr (exch f s (m - s) (e - m)) mid e b := fun p r p1 p2 r1 r2 => by
  simp only [exch]
  rw [if_neg (by omega), if_pos (by omega), if_neg (by omega), if_neg (by omega)]
  exact h _ r (by omega) (by omega) (by omega) r2
theorem Lr.same {f g : Nat → Int} {a m b : Nat} (h : Lr f a m b) (he : ∀ x, a ≤ x → x < b → g x = f x) : Lr g a m b := fun p r p1 p2 r1 r2 => by
  rw [he p p1 (by omega), he r (by omega) r2]
  exact h p r p1 p2 r1 r2
/-- symMerge's contract of rows of so many -/
def Upto (g n c q B : Nat) (R : List Value) (cs : List Int) (N : Nat) : Prop := ∀ (a m b : Nat) (f : Nat → Int) (w : World), b - a ≤ N → DAt w g n R f → a < m → m < b → b ≤ n → n ≤ 1000 → Cnt w q B cs → B ≤ g → (∀ i, i < n → ok cs (f i)) → Srt (kf cs f) a m → Srt (kf cs f) m b → Lr f a m b →
    Calls Tryz.prog 105 #[.slice (some ⟨g, 0, none⟩) n c, .int .i64 a, .int .i64 m, .int .i64 b, kv q] w fun e w' => e = .returned (.tuple #[]) ∧ ∃ f', DAt w' g n R f' ∧ Wn a b n f f' ∧ Srt (kf cs f') a b ∧ But g w w'
end Go.Proofs.YtppgceighgpgoaaGreatDoor.sortp
/-
  symMerge where the middle is ahead of the second row. My own text.
-/
namespace Go.Proofs.YtppgceighgpgoaaGreatDoor.sortp
open Go.RowKit Go.Proofs.YtppgceighgpgoaaGreatDoor.base Go.Proofs.YtppgceighgpgoaaGreatDoor.sortnum
set_option linter.unusedVariables false

section
variable {g n c q B : Nat} {R : List Value} {cs : List Int}
set_option maxRecDepth 100000 in
set_option maxHeartbeats 64000000 in
theorem sym_a (N a m b : Nat) (f : Nat → Int) (w : World) (IH : Upto g n c q B R cs N) (hN : b - a ≤ N + 1) (h : DAt w g n R f) (ham : a < m) (hmb : m < b) (hb : b ≤ n) (hn : n ≤ 1000) (hC : Cnt w q B cs) (hBg : B ≤ g) (hok : ∀ i, i < n → ok cs (f i)) (hs1 : Srt (kf cs f) a m) (hs2 : Srt (kf cs f) m b) (hlr : Lr f a m b) (ha1 : ¬ m - a = 1) (hb1 : ¬ b - m = 1) (hcase : (a + b) / 2 < m) :
    Calls Tryz.prog 105 #[.slice (some ⟨g, 0, none⟩) n c, .int .i64 a, .int .i64 m, .int .i64 b, kv q] w fun e w' => e = .returned (.tuple #[]) ∧ ∃ f', DAt w' g n R f' ∧ Wn a b n f f' ∧ Srt (kf cs f') a b ∧ But g w w' := by
  have hgw := h.inside
  have HIH := Lib.hid IH
  obtain ⟨mid, hmid⟩ : ∃ mid, (a + b) / 2 = mid := ⟨_, rfl⟩
  obtain ⟨P, hP⟩ : ∃ P, mid + m - 1 = P := ⟨_, rfl⟩
  obtain ⟨s0, hs0⟩ : ∃ s0, (if mid < m then mid + m - b else a) = s0 := ⟨_, rfl⟩
  obtain ⟨r0, hr0⟩ : ∃ r0, (if mid < m then mid else m) = r0 := ⟨_, rfl⟩
  have hbds := bds ham hmb hmid.symm hs0.symm hr0.symm
  have emid : ((a : Int) + (b : Int)) / 2 = (mid : Int) := by omega
  have eP : (mid : Int) + (m : Int) - 1 = (P : Int) := by omega
  have t1 : ((m : Int) - (a : Int) == 1) = false := by rw [beq_eq_false_iff_ne]; omega
  have t2 : ((b : Int) - (m : Int) == 1) = false := by rw [beq_eq_false_iff_ne]; omega
  have HC := Lib.hid hC
  have HOK := Lib.hid hok
  have HS1 := Lib.hid hs1
  have HS2 := Lib.hid hs2
  have HH := Lib.hid h
  have HMID := Lib.hid hmid
  have HLR := Lib.hid hlr
  clear hlr
  have HP := Lib.hid hP
  have HS0 := Lib.hid hs0
  have HR0 := Lib.hid hr0
  have hamid : a < mid ∧ mid < b := by omega
  obtain ⟨n0, hn0⟩ : ∃ n0, mid + m = n0 := ⟨_, rfl⟩
  have en0 : (mid : Int) + (m : Int) = (n0 : Int) := by omega
  have eP2 : (n0 : Int) - 1 = (P : Int) := by omega
  have HN0 := Lib.hid hn0
  clear hC hok hs1 hs2 h IH hmid hP hs0 hr0 ha1 hb1 eP hn0
  have hc : mid < m := by rw [← HMID.out]; exact hcase
  clear hcase
  have h1 := HS0.out
  have h2 := HR0.out
  rw [if_pos hc] at h1 h2
  have e1 : (n0 : Int) - (b : Int) = (s0 : Int) := by have := HN0.out; omega
  have H2 := Lib.hid h2
  clear h1 h2
  go_enter Tryz.func105, Tryz.ntmps105
  go_wp2
  go_loopw [20, 21] (fun vi vj wr => ∃ (i j p : Nat), vi = .int .i64 i ∧ vj = .int .i64 j ∧ s0 ≤ i ∧ i ≤ j ∧ j ≤ r0 ∧ Hid (∀ x, s0 ≤ x → x < i → kf cs f x ≤ kf cs f (mid + m - 1 - x)) ∧ Hid (∀ x, j ≤ x → x < r0 → kf cs f (mid + m - 1 - x) < kf cs f x) ∧ wr = w.drewN p) (fun vi vj _ => (intOf vj - intOf vi).toNat)
  case atStart => exact ⟨s0, r0, 0, rfl, by rw [← H2.out], by omega, by omega, by omega, fun x h1 h2 => absurd h2 (by omega), fun x h1 h2 => absurd h2 (by omega), rfl⟩
  case round =>
    obtain ⟨i, j, p, rfl, rfl, hi, hij, hj, hlo, hhi, rfl⟩ := hrel
    by_cases hlt : i < j
    · obtain ⟨x, hx⟩ : ∃ x, (i + j) / 2 = x := ⟨_, rfl⟩
      have ex : ((i : Int) + (j : Int)) / 2 = (x : Int) := by omega
      have hx1 : i ≤ x ∧ x < j := by omega
      obtain ⟨d, hd⟩ : ∃ d, mid + m - 1 - x = d := ⟨_, rfl⟩
      have hn0' := HN0.out
      have ed : (P : Int) - (x : Int) = (d : Int) := by omega
      have hdn : d < n := by omega
      have cx := HH.out.at_ (i := x) (by omega)
      have cd := HH.out.at_ (i := d) hdn
      obtain ⟨u, hu⟩ : ∃ u, f x = u := ⟨_, rfl⟩
      obtain ⟨v, hv⟩ : ∃ v, f d = v := ⟨_, rfl⟩
      rw [hu] at cx
      rw [hv] at cd
      have hoku := HOK.out x (by omega)
      have hokv := HOK.out d hdn
      rw [hu] at hoku
      rw [hv] at hokv
      obtain ⟨r, hr⟩ : ∃ r, cmp3 (key cs v) (key cs u) = r := ⟨_, rfl⟩
      have hcmp := fun mm => cmp_quiet (W := w.drewN p) (m := mm) (HC.out.drewN p) hokv hoku
      have cx : (w.drewN p).cell? ⟨g, x, none⟩ = some (.int .i64 u) := cx
      have cd : (w.drewN p).cell? ⟨g, d, none⟩ = some (.int .i64 v) := cd
      obtain ⟨W, hW⟩ : ∃ W, w.drewN p = W := ⟨_, rfl⟩
      have HWW := Lib.hid hW
      rw [hW] at cx cd hcmp ⊢
      have hlt3 := cmp3_lt2 (cs := cs) hokv hoku (by rw [← hu, ← hv]; exact HLR.out x d (by omega) (by omega) (by omega) (by omega))
      rw [hr] at hcmp hlt3
      have HCMP := Lib.hid hcmp
      have HU := Lib.hid (And.intro hu hv)
      have HX := Lib.hid (And.intro hx hd)
      have x0 : (0 : Int) ≤ (x : Int) := by omega
      have x1 : (x : Int) < (n : Int) := by omega
      have d0 : (0 : Int) ≤ (d : Int) := by omega
      have d1 : (d : Int) < (n : Int) := by omega
      clear hcmp hu hv hoku hokv hr hx hd hW hn0' hdn
      by_cases hk : key2 cs v < key2 cs u
      · have tr : decide (r < 0) = true := by rw [hlt3]; exact decide_eq_true hk
        have HK := Lib.hid hk
        clear hlt3 hk
        go_wp2
        go_quiet (with_reducible exact HCMP.out _)
        go_wp2
        go_roundw
        case rel =>
          refine ⟨i, x, _, rfl, rfl, hi, by omega, by omega, hlo, ?_, by rw [← HWW.out, World.drewN_drewN]⟩
          exact found_left ham hmb HMID.out.symm HS1.out HS2.out HS0.out.symm HR0.out.symm ⟨by omega, by omega⟩ (by rw [HX.out.2]; show key2 cs (f d) < key2 cs (f x); rw [HU.out.1, HU.out.2]; exact HK.out)
        case measure => simp [intOf]; omega
      · have tr : decide (r < 0) = false := by rw [hlt3]; exact decide_eq_false hk
        have HK := Lib.hid hk
        clear hlt3 hk
        go_wp2
        go_quiet (with_reducible exact HCMP.out _)
        go_wp2
        go_roundw
        case rel =>
          refine ⟨x + 1, j, _, by go_num, rfl, by omega, by omega, hj, ?_, hhi, by rw [← HWW.out, World.drewN_drewN]⟩
          exact found_right ham hmb HMID.out.symm HS1.out HS2.out HS0.out.symm HR0.out.symm ⟨by omega, by omega⟩ (by rw [HX.out.2]; show key2 cs (f x) ≤ key2 cs (f d); rw [HU.out.1, HU.out.2]; have := HK.out; omega)
        case measure => simp [intOf]; omega
    · obtain rfl : i = j := by omega
      obtain ⟨s, hsi⟩ : ∃ s, s = i := ⟨_, rfl⟩
      subst hsi
      have hcut := Cut.found ham hmb HMID.out.symm HS1.out HS2.out HS0.out.symm HR0.out.symm ⟨hi, hj⟩ hlo.out hhi.out
      obtain ⟨e, he⟩ : ∃ e, mid + m - s = e := ⟨_, rfl⟩
      rw [he] at hcut
      have hpt := Cut.parts hcut HS1.out HS2.out
      have ee : (n0 : Int) - (s : Int) = (e : Int) := by have := HN0.out; omega
      have hGW : Wn a b n f (exch f s (m - s) (e - m)) := (Wn.exch (lo := a) (hi := b) (n := n) hb _ f s (m - s) (e - m) (Nat.le_refl _) hcut.as_ (by have := hcut.sm; have := hcut.me; have := hcut.eb; omega))
      obtain ⟨c1, c2, c3, c4, c5, c6, c7, _, _⟩ := hcut
      have hDW := HH.out.fresh (Fresh.drewN w p)
      have hBW : But g w (w.drewN p) := But.drewN w p
      obtain ⟨W, hW⟩ : ∃ W, w.drewN p = W := ⟨_, rfl⟩
      rw [hW] at hDW hBW ⊢
      have hD0 : ¬ (s < m ∧ m < e) → DAt W g n R (exch f s (m - s) (e - m)) := fun hh => by rw [exch_none f s (m - s) (e - m) (by omega)]; exact hDW
      have hL0 : ¬ (a < s ∧ s < mid) → Srt (fun x => key2 cs (exch f s (m - s) (e - m) x)) a mid := fun hh => by
        by_cases q1 : s = a
        · have := hpt.2.1; rwa [q1] at this ⊢
        · have q2 : s = mid := by omega
          have := hpt.1
          rw [q2] at this
          rw [q2]
          exact this
      have hR0 : ¬ (mid < e ∧ e < b) → Srt (fun x => key2 cs (exch f s (m - s) (e - m) x)) mid b := fun hh => by
        by_cases q1 : e = mid
        · have := hpt.2.2.2.1
          rw [q1] at this ⊢
          exact this
        · have q2 : e = b := by omega
          have := hpt.2.2.1
          rw [q2] at this ⊢
          exact this
      obtain ⟨hp1, hp2, hp3, hp4, hp5⟩ := hpt
      have HOKG := Lib.hid (hGW.all (P := ok cs) HOK.out hb)
      have HGW := Lib.hid hGW
      have HDW := Lib.hid hDW
      have HBW := Lib.hid hBW
      have HP1 := Lib.hid hp1
      have HP2 := Lib.hid hp2
      have HP3 := Lib.hid hp3
      have HP4 := Lib.hid hp4
      have HP5 := Lib.hid hp5
      clear hp1 hp2 hp3 hp4 hp5 hGW hDW hBW hlo hhi hW he
      have HLL0 := Lib.hid (Lr.left HLR.out (s := s) (e := e) (mid := mid) (by omega) (by omega) (by omega) (by omega) (by omega))
      have HRR0 := Lib.hid (Lr.right HLR.out (s := s) (e := e) (mid := mid) (by omega) (by omega) (by omega) (by omega) (by omega) (by omega))
      have HLL := Lib.hid (fun (h1 : a < s) (h2 : s < mid) (W' : World) (hD' : DAt W' g n R (exch f s (m - s) (e - m))) (hB' : But g w W') => HIH.out a s mid (exch f s (m - s) (e - m)) W' (by omega) hD' h1 h2 (by omega) hn (HC.out.but hBg hgw hB') hBg HOKG.out HP1.out HP2.out HLL0.out)
      have HRR := Lib.hid (fun (h1 : mid < e) (h2 : e < b) (W' : World) (F : Nat → Int) (hD' : DAt W' g n R F) (hB' : But g w W') (hW' : Wn a mid n (exch f s (m - s) (e - m)) F) => HIH.out mid e b F W' (by omega) hD' h1 h2 hb hn (HC.out.but hBg hgw hB') hBg (hW'.all HOKG.out (by omega)) (Srt.same HP3.out fun x h1 h2 => hW'.out x (Or.inr h1)) (Srt.same HP4.out fun x h1 h2 => hW'.out x (Or.inr (by omega))) (Lr.same HRR0.out fun x h1 h2 => hW'.out x (Or.inr h1)))
      by_cases hrot : s < m ∧ m < e
      · by_cases hleft : a < s ∧ s < mid
        · by_cases hright : mid < e ∧ e < b
          · clear hD0 hL0 hR0
            go_wp2_with (first
              | (go_at_call 110; (with_reducible refine (rotate_any g n c s m e q R f W HDW.out (by omega) (by omega) (by omega) hn).mono ?_); rintro e1 w1 ⟨rfl, hD1, hB1⟩; have HD1 := Lib.hid hD1; have HB1 := Lib.hid (HBW.out.trans hB1); clear hD1 hB1)
              | (go_at_call 105; (with_reducible refine (HLL.out hleft.1 hleft.2 _ HD1.out HB1.out).mono ?_); rintro e2 w2 ⟨rfl, F1, hD2, hW2, hS2, hB2⟩; have HD2 := Lib.hid hD2; have HW2 := Lib.hid hW2; have HS2' := Lib.hid hS2; have HB2 := Lib.hid (HB1.out.trans hB2); clear hD2 hW2 hS2 hB2)
              | (go_at_call 105; (with_reducible refine (HRR.out hright.1 hright.2 _ _ HD2.out HB2.out HW2.out).mono ?_); rintro e3 w3 ⟨rfl, F2, hD3, hW3, hS3, hB3⟩; have HD3 := Lib.hid hD3; have HW3 := Lib.hid hW3; have HS3 := Lib.hid hS3; have HB3 := Lib.hid (HB2.out.trans hB3); clear hD3 hW3 hS3 hB3))
            all_goals go_end0
            all_goals exact ⟨rfl, _, HD3.out, fin_wn HGW.out HW2.out HW3.out (by omega) (by omega), fin_srt (by omega) (by omega) HW2.out HW3.out HS2'.out HS3.out HP5.out, HB3.out⟩
          · have HR0' := Lib.hid (hR0 hright)
            clear hD0 hL0 hR0
            go_wp2_with (first
              | (go_at_call 110; (with_reducible refine (rotate_any g n c s m e q R f W HDW.out (by omega) (by omega) (by omega) hn).mono ?_); rintro e1 w1 ⟨rfl, hD1, hB1⟩; have HD1 := Lib.hid hD1; have HB1 := Lib.hid (HBW.out.trans hB1); clear hD1 hB1)
              | (go_at_call 105; (with_reducible refine (HLL.out hleft.1 hleft.2 _ HD1.out HB1.out).mono ?_); rintro e2 w2 ⟨rfl, F1, hD2, hW2, hS2, hB2⟩; have HD2 := Lib.hid hD2; have HW2 := Lib.hid hW2; have HS2' := Lib.hid hS2; have HB2 := Lib.hid (HB1.out.trans hB2); clear hD2 hW2 hS2 hB2))
            all_goals go_end0
            all_goals exact ⟨rfl, _, HD2.out, fin_wn HGW.out HW2.out (Wn.refl _ _ _ _) (by omega) (by omega), fin_srt (by omega) (by omega) HW2.out (Wn.refl mid b n _) HS2'.out (Srt.same HR0'.out fun x h1 h2 => HW2.out.out x (Or.inr h1)) HP5.out, HB2.out⟩
        · by_cases hright : mid < e ∧ e < b
          · have HL0 := Lib.hid (hL0 hleft)
            clear hD0 hL0 hR0
            go_wp2_with (first
              | (go_at_call 110; (with_reducible refine (rotate_any g n c s m e q R f W HDW.out (by omega) (by omega) (by omega) hn).mono ?_); rintro e1 w1 ⟨rfl, hD1, hB1⟩; have HD1 := Lib.hid hD1; have HB1 := Lib.hid (HBW.out.trans hB1); clear hD1 hB1)
              | (go_at_call 105; (with_reducible refine (HRR.out hright.1 hright.2 _ _ HD1.out HB1.out (Wn.refl _ _ _ _)).mono ?_); rintro e3 w3 ⟨rfl, F2, hD3, hW3, hS3, hB3⟩; have HD3 := Lib.hid hD3; have HW3 := Lib.hid hW3; have HS3 := Lib.hid hS3; have HB3 := Lib.hid (HB1.out.trans hB3); clear hD3 hW3 hS3 hB3))
            all_goals go_end0
            all_goals exact ⟨rfl, _, HD3.out, fin_wn HGW.out (Wn.refl _ _ _ _) HW3.out (by omega) (by omega), fin_srt (by omega) (by omega) (Wn.refl _ _ _ _) HW3.out HL0.out HS3.out HP5.out, HB3.out⟩
          · have HL0 := Lib.hid (hL0 hleft)
            have HR0' := Lib.hid (hR0 hright)
            clear hD0 hL0 hR0
            go_wp2_with (first
              | (go_at_call 110; (with_reducible refine (rotate_any g n c s m e q R f W HDW.out (by omega) (by omega) (by omega) hn).mono ?_); rintro e1 w1 ⟨rfl, hD1, hB1⟩; have HD1 := Lib.hid hD1; have HB1 := Lib.hid (HBW.out.trans hB1); clear hD1 hB1))
            all_goals go_end0
            all_goals exact ⟨rfl, _, HD1.out, fin_wn HGW.out (Wn.refl _ _ _ _) (Wn.refl _ _ _ _) (by omega) (by omega), fin_srt (by omega) (by omega) (Wn.refl _ _ _ _) (Wn.refl mid b n _) HL0.out (Srt.same HR0'.out fun x h1 h2 => (Wn.refl a mid n _).out x (Or.inr h1)) HP5.out, HB1.out⟩
      · by_cases hleft : a < s ∧ s < mid
        · by_cases hright : mid < e ∧ e < b
          · have HD0 := Lib.hid (hD0 hrot)
            clear hD0 hL0 hR0
            go_wp2_with (first
              | (go_at_call 105; (with_reducible refine (HLL.out hleft.1 hleft.2 _ HD0.out HBW.out).mono ?_); rintro e2 w2 ⟨rfl, F1, hD2, hW2, hS2, hB2⟩; have HD2 := Lib.hid hD2; have HW2 := Lib.hid hW2; have HS2' := Lib.hid hS2; have HB2 := Lib.hid (HBW.out.trans hB2); clear hD2 hW2 hS2 hB2)
              | (go_at_call 105; (with_reducible refine (HRR.out hright.1 hright.2 _ _ HD2.out HB2.out HW2.out).mono ?_); rintro e3 w3 ⟨rfl, F2, hD3, hW3, hS3, hB3⟩; have HD3 := Lib.hid hD3; have HW3 := Lib.hid hW3; have HS3 := Lib.hid hS3; have HB3 := Lib.hid (HB2.out.trans hB3); clear hD3 hW3 hS3 hB3))
            all_goals go_end0
            all_goals exact ⟨rfl, _, HD3.out, fin_wn HGW.out HW2.out HW3.out (by omega) (by omega), fin_srt (by omega) (by omega) HW2.out HW3.out HS2'.out HS3.out HP5.out, HB3.out⟩
          · have HD0 := Lib.hid (hD0 hrot)
            have HR0' := Lib.hid (hR0 hright)
            clear hD0 hL0 hR0
            go_wp2_with (first
              | (go_at_call 105; (with_reducible refine (HLL.out hleft.1 hleft.2 _ HD0.out HBW.out).mono ?_); rintro e2 w2 ⟨rfl, F1, hD2, hW2, hS2, hB2⟩; have HD2 := Lib.hid hD2; have HW2 := Lib.hid hW2; have HS2' := Lib.hid hS2; have HB2 := Lib.hid (HBW.out.trans hB2); clear hD2 hW2 hS2 hB2))
            all_goals go_end0
            all_goals exact ⟨rfl, _, HD2.out, fin_wn HGW.out HW2.out (Wn.refl _ _ _ _) (by omega) (by omega), fin_srt (by omega) (by omega) HW2.out (Wn.refl mid b n _) HS2'.out (Srt.same HR0'.out fun x h1 h2 => HW2.out.out x (Or.inr h1)) HP5.out, HB2.out⟩
        · by_cases hright : mid < e ∧ e < b
          · have HD0 := Lib.hid (hD0 hrot)
            have HL0 := Lib.hid (hL0 hleft)
            clear hD0 hL0 hR0
            go_wp2_with (first
              | (go_at_call 105; (with_reducible refine (HRR.out hright.1 hright.2 _ _ HD0.out HBW.out (Wn.refl _ _ _ _)).mono ?_); rintro e3 w3 ⟨rfl, F2, hD3, hW3, hS3, hB3⟩; have HD3 := Lib.hid hD3; have HW3 := Lib.hid hW3; have HS3 := Lib.hid hS3; have HB3 := Lib.hid (HBW.out.trans hB3); clear hD3 hW3 hS3 hB3))
            all_goals go_end0
            all_goals exact ⟨rfl, _, HD3.out, fin_wn HGW.out (Wn.refl _ _ _ _) HW3.out (by omega) (by omega), fin_srt (by omega) (by omega) (Wn.refl _ _ _ _) HW3.out HL0.out HS3.out HP5.out, HB3.out⟩
          · have HD0 := Lib.hid (hD0 hrot)
            have HL0 := Lib.hid (hL0 hleft)
            have HR0' := Lib.hid (hR0 hright)
            clear hD0 hL0 hR0
            go_wp2
            all_goals go_end0
            all_goals exact ⟨rfl, _, HD0.out, fin_wn HGW.out (Wn.refl _ _ _ _) (Wn.refl _ _ _ _) (by omega) (by omega), fin_srt (by omega) (by omega) (Wn.refl _ _ _ _) (Wn.refl mid b n _) HL0.out (Srt.same HR0'.out fun x h1 h2 => (Wn.refl a mid n _).out x (Or.inr h1)) HP5.out, HBW.out⟩

end
end Go.Proofs.YtppgceighgpgoaaGreatDoor.sortp
/-
  symMerge where the middle is not ahead of the second row. My own text.
-/
namespace Go.Proofs.YtppgceighgpgoaaGreatDoor.sortp
open Go.RowKit Go.Proofs.YtppgceighgpgoaaGreatDoor.base Go.Proofs.YtppgceighgpgoaaGreatDoor.sortnum
set_option linter.unusedVariables false

section
variable {g n c q B : Nat} {R : List Value} {cs : List Int}
set_option maxRecDepth 100000 in
set_option maxHeartbeats 64000000 in
theorem sym_b (N a m b : Nat) (f : Nat → Int) (w : World) (IH : Upto g n c q B R cs N) (hN : b - a ≤ N + 1) (h : DAt w g n R f) (ham : a < m) (hmb : m < b) (hb : b ≤ n) (hn : n ≤ 1000) (hC : Cnt w q B cs) (hBg : B ≤ g) (hok : ∀ i, i < n → ok cs (f i)) (hs1 : Srt (kf cs f) a m) (hs2 : Srt (kf cs f) m b) (hlr : Lr f a m b) (ha1 : ¬ m - a = 1) (hb1 : ¬ b - m = 1) (hcase : ¬ ((a + b) / 2 < m)) :
    Calls Tryz.prog 105 #[.slice (some ⟨g, 0, none⟩) n c, .int .i64 a, .int .i64 m, .int .i64 b, kv q] w fun e w' => e = .returned (.tuple #[]) ∧ ∃ f', DAt w' g n R f' ∧ Wn a b n f f' ∧ Srt (kf cs f') a b ∧ But g w w' := by
  have hgw := h.inside
  have HIH := Lib.hid IH
  obtain ⟨mid, hmid⟩ : ∃ mid, (a + b) / 2 = mid := ⟨_, rfl⟩
  obtain ⟨P, hP⟩ : ∃ P, mid + m - 1 = P := ⟨_, rfl⟩
  obtain ⟨s0, hs0⟩ : ∃ s0, (if mid < m then mid + m - b else a) = s0 := ⟨_, rfl⟩
  obtain ⟨r0, hr0⟩ : ∃ r0, (if mid < m then mid else m) = r0 := ⟨_, rfl⟩
  have hbds := bds ham hmb hmid.symm hs0.symm hr0.symm
  have emid : ((a : Int) + (b : Int)) / 2 = (mid : Int) := by omega
  have eP : (mid : Int) + (m : Int) - 1 = (P : Int) := by omega
  have t1 : ((m : Int) - (a : Int) == 1) = false := by rw [beq_eq_false_iff_ne]; omega
  have t2 : ((b : Int) - (m : Int) == 1) = false := by rw [beq_eq_false_iff_ne]; omega
  have HC := Lib.hid hC
  have HOK := Lib.hid hok
  have HS1 := Lib.hid hs1
  have HS2 := Lib.hid hs2
  have HH := Lib.hid h
  have HMID := Lib.hid hmid
  have HLR := Lib.hid hlr
  clear hlr
  have HP := Lib.hid hP
  have HS0 := Lib.hid hs0
  have HR0 := Lib.hid hr0
  have hamid : a < mid ∧ mid < b := by omega
  obtain ⟨n0, hn0⟩ : ∃ n0, mid + m = n0 := ⟨_, rfl⟩
  have en0 : (mid : Int) + (m : Int) = (n0 : Int) := by omega
  have eP2 : (n0 : Int) - 1 = (P : Int) := by omega
  have HN0 := Lib.hid hn0
  clear hC hok hs1 hs2 h IH hmid hP hs0 hr0 ha1 hb1 eP hn0
  have hc : ¬ mid < m := by rw [← HMID.out]; exact hcase
  clear hcase
  have h1 := HS0.out
  have h2 := HR0.out
  rw [if_neg hc] at h1 h2
  have H2 := Lib.hid (And.intro h1 h2)
  clear h1 h2
  go_enter Tryz.func105, Tryz.ntmps105
  go_wp2
  go_loopw [20, 21] (fun vi vj wr => ∃ (i j p : Nat), vi = .int .i64 i ∧ vj = .int .i64 j ∧ s0 ≤ i ∧ i ≤ j ∧ j ≤ r0 ∧ Hid (∀ x, s0 ≤ x → x < i → kf cs f x ≤ kf cs f (mid + m - 1 - x)) ∧ Hid (∀ x, j ≤ x → x < r0 → kf cs f (mid + m - 1 - x) < kf cs f x) ∧ wr = w.drewN p) (fun vi vj _ => (intOf vj - intOf vi).toNat)
  case atStart => exact ⟨s0, r0, 0, by rw [← H2.out.1], by rw [← H2.out.2], by omega, by omega, by omega, fun x h1 h2 => absurd h2 (by omega), fun x h1 h2 => absurd h2 (by omega), rfl⟩
  case round =>
    obtain ⟨i, j, p, rfl, rfl, hi, hij, hj, hlo, hhi, rfl⟩ := hrel
    by_cases hlt : i < j
    · obtain ⟨x, hx⟩ : ∃ x, (i + j) / 2 = x := ⟨_, rfl⟩
      have ex : ((i : Int) + (j : Int)) / 2 = (x : Int) := by omega
      have hx1 : i ≤ x ∧ x < j := by omega
      obtain ⟨d, hd⟩ : ∃ d, mid + m - 1 - x = d := ⟨_, rfl⟩
      have hn0' := HN0.out
      have ed : (P : Int) - (x : Int) = (d : Int) := by omega
      have hdn : d < n := by omega
      have cx := HH.out.at_ (i := x) (by omega)
      have cd := HH.out.at_ (i := d) hdn
      obtain ⟨u, hu⟩ : ∃ u, f x = u := ⟨_, rfl⟩
      obtain ⟨v, hv⟩ : ∃ v, f d = v := ⟨_, rfl⟩
      rw [hu] at cx
      rw [hv] at cd
      have hoku := HOK.out x (by omega)
      have hokv := HOK.out d hdn
      rw [hu] at hoku
      rw [hv] at hokv
      obtain ⟨r, hr⟩ : ∃ r, cmp3 (key cs v) (key cs u) = r := ⟨_, rfl⟩
      have hcmp := fun mm => cmp_quiet (W := w.drewN p) (m := mm) (HC.out.drewN p) hokv hoku
      have cx : (w.drewN p).cell? ⟨g, x, none⟩ = some (.int .i64 u) := cx
      have cd : (w.drewN p).cell? ⟨g, d, none⟩ = some (.int .i64 v) := cd
      obtain ⟨W, hW⟩ : ∃ W, w.drewN p = W := ⟨_, rfl⟩
      have HWW := Lib.hid hW
      rw [hW] at cx cd hcmp ⊢
      have hlt3 := cmp3_lt2 (cs := cs) hokv hoku (by rw [← hu, ← hv]; exact HLR.out x d (by omega) (by omega) (by omega) (by omega))
      rw [hr] at hcmp hlt3
      have HCMP := Lib.hid hcmp
      have HU := Lib.hid (And.intro hu hv)
      have HX := Lib.hid (And.intro hx hd)
      have x0 : (0 : Int) ≤ (x : Int) := by omega
      have x1 : (x : Int) < (n : Int) := by omega
      have d0 : (0 : Int) ≤ (d : Int) := by omega
      have d1 : (d : Int) < (n : Int) := by omega
      clear hcmp hu hv hoku hokv hr hx hd hW hn0' hdn
      by_cases hk : key2 cs v < key2 cs u
      · have tr : decide (r < 0) = true := by rw [hlt3]; exact decide_eq_true hk
        have HK := Lib.hid hk
        clear hlt3 hk
        go_wp2
        go_quiet (with_reducible exact HCMP.out _)
        go_wp2
        go_roundw
        case rel =>
          refine ⟨i, x, _, rfl, rfl, hi, by omega, by omega, hlo, ?_, by rw [← HWW.out, World.drewN_drewN]⟩
          exact found_left ham hmb HMID.out.symm HS1.out HS2.out HS0.out.symm HR0.out.symm ⟨by omega, by omega⟩ (by rw [HX.out.2]; show key2 cs (f d) < key2 cs (f x); rw [HU.out.1, HU.out.2]; exact HK.out)
        case measure => simp [intOf]; omega
      · have tr : decide (r < 0) = false := by rw [hlt3]; exact decide_eq_false hk
        have HK := Lib.hid hk
        clear hlt3 hk
        go_wp2
        go_quiet (with_reducible exact HCMP.out _)
        go_wp2
        go_roundw
        case rel =>
          refine ⟨x + 1, j, _, by go_num, rfl, by omega, by omega, hj, ?_, hhi, by rw [← HWW.out, World.drewN_drewN]⟩
          exact found_right ham hmb HMID.out.symm HS1.out HS2.out HS0.out.symm HR0.out.symm ⟨by omega, by omega⟩ (by rw [HX.out.2]; show key2 cs (f x) ≤ key2 cs (f d); rw [HU.out.1, HU.out.2]; have := HK.out; omega)
        case measure => simp [intOf]; omega
    · obtain rfl : i = j := by omega
      obtain ⟨s, hsi⟩ : ∃ s, s = i := ⟨_, rfl⟩
      subst hsi
      have hcut := Cut.found ham hmb HMID.out.symm HS1.out HS2.out HS0.out.symm HR0.out.symm ⟨hi, hj⟩ hlo.out hhi.out
      obtain ⟨e, he⟩ : ∃ e, mid + m - s = e := ⟨_, rfl⟩
      rw [he] at hcut
      have hpt := Cut.parts hcut HS1.out HS2.out
      have ee : (n0 : Int) - (s : Int) = (e : Int) := by have := HN0.out; omega
      have hGW : Wn a b n f (exch f s (m - s) (e - m)) := (Wn.exch (lo := a) (hi := b) (n := n) hb _ f s (m - s) (e - m) (Nat.le_refl _) hcut.as_ (by have := hcut.sm; have := hcut.me; have := hcut.eb; omega))
      obtain ⟨c1, c2, c3, c4, c5, c6, c7, _, _⟩ := hcut
      have hDW := HH.out.fresh (Fresh.drewN w p)
      have hBW : But g w (w.drewN p) := But.drewN w p
      obtain ⟨W, hW⟩ : ∃ W, w.drewN p = W := ⟨_, rfl⟩
      rw [hW] at hDW hBW ⊢
      have hD0 : ¬ (s < m ∧ m < e) → DAt W g n R (exch f s (m - s) (e - m)) := fun hh => by rw [exch_none f s (m - s) (e - m) (by omega)]; exact hDW
      have hL0 : ¬ (a < s ∧ s < mid) → Srt (fun x => key2 cs (exch f s (m - s) (e - m) x)) a mid := fun hh => by
        by_cases q1 : s = a
        · have := hpt.2.1; rwa [q1] at this ⊢
        · have q2 : s = mid := by omega
          have := hpt.1
          rw [q2] at this
          rw [q2]
          exact this
      have hR0 : ¬ (mid < e ∧ e < b) → Srt (fun x => key2 cs (exch f s (m - s) (e - m) x)) mid b := fun hh => by
        by_cases q1 : e = mid
        · have := hpt.2.2.2.1
          rw [q1] at this ⊢
          exact this
        · have q2 : e = b := by omega
          have := hpt.2.2.1
          rw [q2] at this ⊢
          exact this
      obtain ⟨hp1, hp2, hp3, hp4, hp5⟩ := hpt
      have HOKG := Lib.hid (hGW.all (P := ok cs) HOK.out hb)
      have HGW := Lib.hid hGW
      have HDW := Lib.hid hDW
      have HBW := Lib.hid hBW
      have HP1 := Lib.hid hp1
      have HP2 := Lib.hid hp2
      have HP3 := Lib.hid hp3
      have HP4 := Lib.hid hp4
      have HP5 := Lib.hid hp5
      clear hp1 hp2 hp3 hp4 hp5 hGW hDW hBW hlo hhi hW he
      have HLL0 := Lib.hid (Lr.left HLR.out (s := s) (e := e) (mid := mid) (by omega) (by omega) (by omega) (by omega) (by omega))
      have HRR0 := Lib.hid (Lr.right HLR.out (s := s) (e := e) (mid := mid) (by omega) (by omega) (by omega) (by omega) (by omega) (by omega))
      have HLL := Lib.hid (fun (h1 : a < s) (h2 : s < mid) (W' : World) (hD' : DAt W' g n R (exch f s (m - s) (e - m))) (hB' : But g w W') => HIH.out a s mid (exch f s (m - s) (e - m)) W' (by omega) hD' h1 h2 (by omega) hn (HC.out.but hBg hgw hB') hBg HOKG.out HP1.out HP2.out HLL0.out)
      have HRR := Lib.hid (fun (h1 : mid < e) (h2 : e < b) (W' : World) (F : Nat → Int) (hD' : DAt W' g n R F) (hB' : But g w W') (hW' : Wn a mid n (exch f s (m - s) (e - m)) F) => HIH.out mid e b F W' (by omega) hD' h1 h2 hb hn (HC.out.but hBg hgw hB') hBg (hW'.all HOKG.out (by omega)) (Srt.same HP3.out fun x h1 h2 => hW'.out x (Or.inr h1)) (Srt.same HP4.out fun x h1 h2 => hW'.out x (Or.inr (by omega))) (Lr.same HRR0.out fun x h1 h2 => hW'.out x (Or.inr h1)))
      by_cases hrot : s < m ∧ m < e
      · by_cases hleft : a < s ∧ s < mid
        · by_cases hright : mid < e ∧ e < b
          · clear hD0 hL0 hR0
            go_wp2_with (first
              | (go_at_call 110; (with_reducible refine (rotate_any g n c s m e q R f W HDW.out (by omega) (by omega) (by omega) hn).mono ?_); rintro e1 w1 ⟨rfl, hD1, hB1⟩; have HD1 := Lib.hid hD1; have HB1 := Lib.hid (HBW.out.trans hB1); clear hD1 hB1)
              | (go_at_call 105; (with_reducible refine (HLL.out hleft.1 hleft.2 _ HD1.out HB1.out).mono ?_); rintro e2 w2 ⟨rfl, F1, hD2, hW2, hS2, hB2⟩; have HD2 := Lib.hid hD2; have HW2 := Lib.hid hW2; have HS2' := Lib.hid hS2; have HB2 := Lib.hid (HB1.out.trans hB2); clear hD2 hW2 hS2 hB2)
              | (go_at_call 105; (with_reducible refine (HRR.out hright.1 hright.2 _ _ HD2.out HB2.out HW2.out).mono ?_); rintro e3 w3 ⟨rfl, F2, hD3, hW3, hS3, hB3⟩; have HD3 := Lib.hid hD3; have HW3 := Lib.hid hW3; have HS3 := Lib.hid hS3; have HB3 := Lib.hid (HB2.out.trans hB3); clear hD3 hW3 hS3 hB3))
            all_goals go_end0
            all_goals exact ⟨rfl, _, HD3.out, fin_wn HGW.out HW2.out HW3.out (by omega) (by omega), fin_srt (by omega) (by omega) HW2.out HW3.out HS2'.out HS3.out HP5.out, HB3.out⟩
          · have HR0' := Lib.hid (hR0 hright)
            clear hD0 hL0 hR0
            go_wp2_with (first
              | (go_at_call 110; (with_reducible refine (rotate_any g n c s m e q R f W HDW.out (by omega) (by omega) (by omega) hn).mono ?_); rintro e1 w1 ⟨rfl, hD1, hB1⟩; have HD1 := Lib.hid hD1; have HB1 := Lib.hid (HBW.out.trans hB1); clear hD1 hB1)
              | (go_at_call 105; (with_reducible refine (HLL.out hleft.1 hleft.2 _ HD1.out HB1.out).mono ?_); rintro e2 w2 ⟨rfl, F1, hD2, hW2, hS2, hB2⟩; have HD2 := Lib.hid hD2; have HW2 := Lib.hid hW2; have HS2' := Lib.hid hS2; have HB2 := Lib.hid (HB1.out.trans hB2); clear hD2 hW2 hS2 hB2))
            all_goals go_end0
            all_goals exact ⟨rfl, _, HD2.out, fin_wn HGW.out HW2.out (Wn.refl _ _ _ _) (by omega) (by omega), fin_srt (by omega) (by omega) HW2.out (Wn.refl mid b n _) HS2'.out (Srt.same HR0'.out fun x h1 h2 => HW2.out.out x (Or.inr h1)) HP5.out, HB2.out⟩
        · by_cases hright : mid < e ∧ e < b
          · have HL0 := Lib.hid (hL0 hleft)
            clear hD0 hL0 hR0
            go_wp2_with (first
              | (go_at_call 110; (with_reducible refine (rotate_any g n c s m e q R f W HDW.out (by omega) (by omega) (by omega) hn).mono ?_); rintro e1 w1 ⟨rfl, hD1, hB1⟩; have HD1 := Lib.hid hD1; have HB1 := Lib.hid (HBW.out.trans hB1); clear hD1 hB1)
              | (go_at_call 105; (with_reducible refine (HRR.out hright.1 hright.2 _ _ HD1.out HB1.out (Wn.refl _ _ _ _)).mono ?_); rintro e3 w3 ⟨rfl, F2, hD3, hW3, hS3, hB3⟩; have HD3 := Lib.hid hD3; have HW3 := Lib.hid hW3; have HS3 := Lib.hid hS3; have HB3 := Lib.hid (HB1.out.trans hB3); clear hD3 hW3 hS3 hB3))
            all_goals go_end0
            all_goals exact ⟨rfl, _, HD3.out, fin_wn HGW.out (Wn.refl _ _ _ _) HW3.out (by omega) (by omega), fin_srt (by omega) (by omega) (Wn.refl _ _ _ _) HW3.out HL0.out HS3.out HP5.out, HB3.out⟩
          · have HL0 := Lib.hid (hL0 hleft)
            have HR0' := Lib.hid (hR0 hright)
            clear hD0 hL0 hR0
            go_wp2_with (first
              | (go_at_call 110; (with_reducible refine (rotate_any g n c s m e q R f W HDW.out (by omega) (by omega) (by omega) hn).mono ?_); rintro e1 w1 ⟨rfl, hD1, hB1⟩; have HD1 := Lib.hid hD1; have HB1 := Lib.hid (HBW.out.trans hB1); clear hD1 hB1))
            all_goals go_end0
            all_goals exact ⟨rfl, _, HD1.out, fin_wn HGW.out (Wn.refl _ _ _ _) (Wn.refl _ _ _ _) (by omega) (by omega), fin_srt (by omega) (by omega) (Wn.refl _ _ _ _) (Wn.refl mid b n _) HL0.out (Srt.same HR0'.out fun x h1 h2 => (Wn.refl a mid n _).out x (Or.inr h1)) HP5.out, HB1.out⟩
      · by_cases hleft : a < s ∧ s < mid
        · by_cases hright : mid < e ∧ e < b
          · have HD0 := Lib.hid (hD0 hrot)
            clear hD0 hL0 hR0
            go_wp2_with (first
              | (go_at_call 105; (with_reducible refine (HLL.out hleft.1 hleft.2 _ HD0.out HBW.out).mono ?_); rintro e2 w2 ⟨rfl, F1, hD2, hW2, hS2, hB2⟩; have HD2 := Lib.hid hD2; have HW2 := Lib.hid hW2; have HS2' := Lib.hid hS2; have HB2 := Lib.hid (HBW.out.trans hB2); clear hD2 hW2 hS2 hB2)
              | (go_at_call 105; (with_reducible refine (HRR.out hright.1 hright.2 _ _ HD2.out HB2.out HW2.out).mono ?_); rintro e3 w3 ⟨rfl, F2, hD3, hW3, hS3, hB3⟩; have HD3 := Lib.hid hD3; have HW3 := Lib.hid hW3; have HS3 := Lib.hid hS3; have HB3 := Lib.hid (HB2.out.trans hB3); clear hD3 hW3 hS3 hB3))
            all_goals go_end0
            all_goals exact ⟨rfl, _, HD3.out, fin_wn HGW.out HW2.out HW3.out (by omega) (by omega), fin_srt (by omega) (by omega) HW2.out HW3.out HS2'.out HS3.out HP5.out, HB3.out⟩
          · have HD0 := Lib.hid (hD0 hrot)
            have HR0' := Lib.hid (hR0 hright)
            clear hD0 hL0 hR0
            go_wp2_with (first
              | (go_at_call 105; (with_reducible refine (HLL.out hleft.1 hleft.2 _ HD0.out HBW.out).mono ?_); rintro e2 w2 ⟨rfl, F1, hD2, hW2, hS2, hB2⟩; have HD2 := Lib.hid hD2; have HW2 := Lib.hid hW2; have HS2' := Lib.hid hS2; have HB2 := Lib.hid (HBW.out.trans hB2); clear hD2 hW2 hS2 hB2))
            all_goals go_end0
            all_goals exact ⟨rfl, _, HD2.out, fin_wn HGW.out HW2.out (Wn.refl _ _ _ _) (by omega) (by omega), fin_srt (by omega) (by omega) HW2.out (Wn.refl mid b n _) HS2'.out (Srt.same HR0'.out fun x h1 h2 => HW2.out.out x (Or.inr h1)) HP5.out, HB2.out⟩
        · by_cases hright : mid < e ∧ e < b
          · have HD0 := Lib.hid (hD0 hrot)
            have HL0 := Lib.hid (hL0 hleft)
            clear hD0 hL0 hR0
            go_wp2_with (first
              | (go_at_call 105; (with_reducible refine (HRR.out hright.1 hright.2 _ _ HD0.out HBW.out (Wn.refl _ _ _ _)).mono ?_); rintro e3 w3 ⟨rfl, F2, hD3, hW3, hS3, hB3⟩; have HD3 := Lib.hid hD3; have HW3 := Lib.hid hW3; have HS3 := Lib.hid hS3; have HB3 := Lib.hid (HBW.out.trans hB3); clear hD3 hW3 hS3 hB3))
            all_goals go_end0
            all_goals exact ⟨rfl, _, HD3.out, fin_wn HGW.out (Wn.refl _ _ _ _) HW3.out (by omega) (by omega), fin_srt (by omega) (by omega) (Wn.refl _ _ _ _) HW3.out HL0.out HS3.out HP5.out, HB3.out⟩
          · have HD0 := Lib.hid (hD0 hrot)
            have HL0 := Lib.hid (hL0 hleft)
            have HR0' := Lib.hid (hR0 hright)
            clear hD0 hL0 hR0
            go_wp2
            all_goals go_end0
            all_goals exact ⟨rfl, _, HD0.out, fin_wn HGW.out (Wn.refl _ _ _ _) (Wn.refl _ _ _ _) (by omega) (by omega), fin_srt (by omega) (by omega) (Wn.refl _ _ _ _) (Wn.refl mid b n _) HL0.out (Srt.same HR0'.out fun x h1 h2 => (Wn.refl a mid n _).out x (Or.inr h1)) HP5.out, HBW.out⟩

end
end Go.Proofs.YtppgceighgpgoaaGreatDoor.sortp
/-
  symMerge, by induction; SortStableFunc. My own text.
-/
namespace Go.Proofs.YtppgceighgpgoaaGreatDoor.sortp
open Go.RowKit Go.Proofs.YtppgceighgpgoaaGreatDoor.base Go.Proofs.YtppgceighgpgoaaGreatDoor.sortnum
set_option linter.unusedVariables false

section
variable {g n c q B : Nat} {R : List Value} {cs : List Int}
theorem sym_upto : ∀ N, Upto g n c q B R cs N
  | 0, a, m, b, f, w, hN, _, ham, hmb, _, _, _, _, _, _, _, _ => absurd hN (by omega)
  | N + 1, a, m, b, f, w, hN, h, ham, hmb, hb, hn, hC, hBg, hok, hs1, hs2, hlr => by
    by_cases ha1 : m - a = 1
    · exact sym_left h (by omega) (by omega) hmb hb hn hC hBg hok hs2 hlr
    by_cases hb1 : b - m = 1
    · exact sym_right h ham ha1 (by omega) (by omega) hb hn hC hBg hok hs1 hlr
    by_cases hc : (a + b) / 2 < m
    · exact sym_a N a m b f w (sym_upto N) hN h ham hmb hb hn hC hBg hok hs1 hs2 hlr ha1 hb1 hc
    · exact sym_b N a m b f w (sym_upto N) hN h ham hmb hb hn hC hBg hok hs1 hs2 hlr ha1 hb1 hc
theorem merges : Merges g n c q B R cs := fun a m b f w h1 h2 h3 h4 h5 h6 h7 h8 h9 h10 h11 => sym_upto (b - a) a m b f w (Nat.le_refl _) h1 h2 h3 h4 h5 h6 h7 h8 h9 h10 h11
end
end Go.Proofs.YtppgceighgpgoaaGreatDoor.sortp
