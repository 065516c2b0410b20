/-
  The law AhoApart's walk. My own text.
-/
import Derived.Test.YtgbffkneidnmfaaAhoLaw
namespace Go.Proofs.Ytgbffkneidnmfaa.ahoApart
open Go.RowKit Go.Proofs.Ytgbffkneidnmfaa.base Go.Proofs.Ytgbffkneidnmfaa.aho Go.Proofs.Ytgbffkneidnmfaa.ahop
set_option linter.unusedVariables false
abbrev tRow : TypeId := 32
theorem rowInfo : (Try.prog.info? 32).map (fun i => (i.zero, i.size, i.bytes)) = some (some (.slice none 0 0), 1, 24) := by kernel_rfl
theorem val_one (l : List Row) : ∀ u ∈ l.map Row.val, u.oneCell' = true := by
  intro u hu
  obtain ⟨x, _, rfl⟩ := List.mem_map.1 hu
  rfl
/-- a row of its own -/
def RowOk (w : World) (B : Nat) (r : Row) : Prop := r.bs.length = r.len ∧ Own w B tU8 r.at_ r.len r.cap (r.bs.map bv)
theorem own_beside {w w' : World} {B B' n c m d : Nat} {A E : Option Addr} {e t : TypeId} {xs ys : List Value} (h : Own w B e A n c xs) (ho : Own w B' t E m d ys) (hne : e ≠ t) (hg : w.grownBy w' (Value.slice E m d).ownBlock) : Own w' B e A n c xs :=
  own_keep h fun g hb => hg.block g (World.ownsRow.lt h g hb).2 fun e1 => by
    rcases ho.2 with ⟨h2, _⟩ | ⟨q, cap, cur, hv, _, hq, _⟩
    · rw [h2] at e1; cases e1
    · rw [hv] at e1
      injection e1 with e1
      simp only at e1
      subst e1
      exact own_ne_cells h hq hne hb
theorem RowOk.beside {w w' : World} {B B' m d : Nat} {E : Option Addr} {ys : List Value} {r : Row} (h : RowOk w B r) (ho : Own w B' tRow E m d ys) (hg : w.grownBy w' (Value.slice E m d).ownBlock) : RowOk w' B r :=
  ⟨h.1, own_beside h.2 ho (by decide) hg⟩
theorem RowOk.fresh {w w' : World} {B : Nat} {r : Row} (h : RowOk w B r) (hf : Fresh w w') : RowOk w' B r := ⟨h.1, h.2.fresh hf⟩
/-- a row whose bytes may turn -/
def RowB (w : World) (B : Nat) (r : Row) : Prop := r.len = 0 ∨ ∃ b cs, r.at_ = some ⟨b, 0, none⟩ ∧ Bk w b tU8 cs ∧ (∀ k, k < r.len → ∃ v : UInt8, cs[k]? = some (bv v)) ∧ B ≤ b
theorem RowOk.rowB {w : World} {B : Nat} {r : Row} (h : RowOk w B r) : RowB w B r := by
  obtain ⟨h1, h2⟩ := h
  rcases h2.2 with ⟨hv, hn⟩ | ⟨g, cap, cur, hv, hb, hg, h3, h4, h5, h6⟩
  · exact .inl hn
  · injection hv with hA _ _
    refine .inr ⟨g, cur.toList, hA, by simpa [Bk] using hg, fun k hk => ?_, hb⟩
    obtain ⟨v, hv⟩ : ∃ v, r.bs[k]? = some v := ⟨_, List.getElem?_eq_getElem (by omega)⟩
    refine ⟨v, ?_⟩
    have h7 : (r.bs.map bv)[k]? = some (bv v) := by rw [List.getElem?_map, hv]; rfl
    rw [← h6, List.getElem?_take] at h7
    split at h7
    · exact h7
    · cases h7
theorem RowB.put {w : World} {B b j : Nat} {r : Row} {cs : List Value} (h : RowB w B r) (hb : Bk w b tU8 cs) (v : UInt8) : RowB (w.setCell ⟨b, j, none⟩ (bv v)) B r := by
  rcases h with h | ⟨b', cs', h1, h2, h3, h4⟩
  · exact .inl h
  · by_cases e : b' = b
    · subst e
      refine .inr ⟨b', cs'.set j (bv v), h1, h2.put j _, fun k hk => ?_, h4⟩
      obtain ⟨u, hu⟩ := h3 k hk
      by_cases e2 : j = k
      · subst e2
        exact ⟨v, List.getElem?_set_self (List.getElem?_eq_some_iff.1 hu).1⟩
      · exact ⟨u, by rw [List.getElem?_set_ne e2]; exact hu⟩
    · exact .inr ⟨b', cs', h1, h2.apart (p := ⟨b, j, none⟩) e _, h3, h4⟩
theorem inc_u8 (v : UInt8) : IntKind.u8.wrap ((v.toNat : Int) + 1) = ((v + 1 : UInt8).toNat : Int) := by
  rw [IntKind.wrap_u8, UInt8.toNat_add]
  have := v.toNat_lt
  simp
theorem own_put {w : World} {base n c i q : Nat} {e : TypeId} {A : Option Addr} {xs : List Value} (h : Own w base e A n c xs) (hA : A = some ⟨q, 0, none⟩) (v : Value) : Own (w.setCell ⟨q, i, none⟩ v) base e A n c (xs.set i v) := by
  refine ⟨by rw [List.length_set]; exact h.1, ?_⟩
  rcases h.2 with ⟨hv, hn⟩ | ⟨g', cap, cur, hv, hb, hg, h1, h2, h3, h4⟩
  · rw [hA] at hv; cases hv
  · rw [hA] at hv
    injection hv with hA' hn' hc'
    injection hA' with hA'
    injection hA' with hg'
    subst hg'
    refine .inr ⟨q, cap, cur.setIfInBounds i v, by rw [hA, hc'], hb, ?_, h1, h2, by simpa using h3, ?_⟩
    · simp [World.setCell, Array.getElem?_modify, hg]
    · rw [Array.toList_setIfInBounds, List.take_set, h4]
theorem own_free {w : World} {base n c i q : Nat} {e : TypeId} {A : Option Addr} {xs : List Value} (h : Own w base e A n c xs) (hA : A = some ⟨q, 0, none⟩) : w.frozen? ⟨q, i, none⟩ = false := by
  rcases h.2 with ⟨hv, hn⟩ | ⟨g', cap, cur, hv, hb, hg, h1, h2, h3, h4⟩
  · rw [hA] at hv; cases hv
  · rw [hA] at hv
    injection hv with hA' hn' hc'
    injection hA' with hA'
    injection hA' with hg'
    subst hg'
    simp [World.frozen?, hg]
set_option maxRecDepth 100000 in
set_option maxHeartbeats 4000000 in
theorem ahoApart_walk (A0 : Option Addr) (n0 c0 : Nat) (x0 : List Row) (A1 : Option Addr) (n1 c1 : Nat) (x1 : List UInt8) (A2 : Option Addr) (n2 c2 : Nat) (x2 : List UInt8) (w : World) (b0 : InRows w A0 n0 c0 x0) (b1 : InBytes w A1 n1 c1 x1) (b2 : InBytes w A2 n2 c2 x2) :
    Calls Try.prog 4 #[.slice A0 n0 c0, .slice A1 n1 c1, .slice A2 n2 c2] w fun e w' => e = .returned (.bool true) ∧ Below w.heap.size w w' := by
  obtain ⟨i0, hi0, hz0, hz1, hz2⟩ := info_parts rowInfo
  obtain ⟨j0, hj0, hy0, hy1, hy2⟩ := info_parts byteInfo
  obtain ⟨hr0, hm0, hM0, _⟩ := b0
  obtain ⟨hr1, hm1, hM1⟩ := b1
  obtain ⟨hr2, hm2, hM2⟩ := b2
  obtain ⟨hl0, hb0⟩ := rows_len hr0
  have hx1l : x1.length = n1 := by have := hr1.1; rwa [List.length_map] at this
  have hx2l : x2.length = n2 := by have := hr2.1; rwa [List.length_map] at this
  have hwk := wakes_any w
  have hlg0 : ∀ V, Fresh w V → Calls Try.prog 9 #[.slice A0 n0 c0, .int .i64 100] V fun e w' => e = .returned (.bool (longB x0 100)) ∧ w' = V := fun V hV => long_any x0 A0 n0 c0 w.heap.size 100 V (hr0.fresh (Nat.le_refl _) hV) (by omega) (by omega)
  have HR0 := Lib.hid hr0
  have HR1 := Lib.hid hr1
  have HR2 := Lib.hid hr2
  have HL0 := Lib.hid hl0
  have HB0 := Lib.hid hb0
  have HX1 := Lib.hid hx1l
  have HX2 := Lib.hid hx2l
  have HWK := Lib.hid hwk
  clear hr0 hr1 hr2 hb0 hl0 hwk hx1l hx2l
  cases g0 : longB x0 100 with
  | true =>
    rw [g0] at hlg0
    have HLG0 := Lib.hid hlg0
    clear hlg0 g0
    go_enter Try.func4, Try.ntmps4
    go_wp2_with (first
      | (go_at_call 8; (refine HWK.out.mono ?_); rintro e w1 ⟨rfl, hf1⟩; have HF1 := Lib.hid hf1; clear hf1)
      | (go_at_call 9; (with_reducible refine (HLG0.out _ HF1.out).mono ?_); rintro e w2 ⟨rfl, hw2⟩; replace hw2 := hw2.symm; subst hw2))
    go_ret
    exact ⟨rfl, HF1.out⟩
  | false =>
  obtain ⟨q0, r0⟩ := long_false g0
  rw [HL0.out] at r0
  rw [g0] at hlg0
  have HLG0 := Lib.hid hlg0
  have HQ0 := Lib.hid q0
  clear hlg0 g0 q0
  by_cases h301 : 300 < n1
  · have t1 : decide ((n1 : Int) > 300) = true := by rw [decide_eq_true_iff]; omega
    go_enter Try.func4, Try.ntmps4
    go_wp2_with (first
      | (go_at_call 8; (refine HWK.out.mono ?_); rintro e w1 ⟨rfl, hf1⟩; have HF1 := Lib.hid hf1; clear hf1)
      | (go_at_call 9; (with_reducible refine (HLG0.out _ HF1.out).mono ?_); rintro e w2 ⟨rfl, hw2⟩; replace hw2 := hw2.symm; subst hw2))
    go_ret
    exact ⟨rfl, HF1.out⟩
  have t1 : decide ((n1 : Int) > 300) = false := by rw [decide_eq_false_iff_not]; omega
  by_cases h302 : 300 < n2
  · have t2 : decide ((n2 : Int) > 300) = true := by rw [decide_eq_true_iff]; omega
    go_enter Try.func4, Try.ntmps4
    go_wp2_with (first
      | (go_at_call 8; (refine HWK.out.mono ?_); rintro e w1 ⟨rfl, hf1⟩; have HF1 := Lib.hid hf1; clear hf1)
      | (go_at_call 9; (with_reducible refine (HLG0.out _ HF1.out).mono ?_); rintro e w2 ⟨rfl, hw2⟩; replace hw2 := hw2.symm; subst hw2))
    go_ret
    exact ⟨rfl, HF1.out⟩
  have t2 : decide ((n2 : Int) > 300) = false := by rw [decide_eq_false_iff_not]; omega
  obtain ⟨E, hE⟩ : ∃ E, errA (lens x0) = E := ⟨_, rfl⟩
  have HE := Lib.hid hE
  clear hE
  go_enter Try.func4, Try.ntmps4
  go_wp2_with (first
    | (go_at_call 8; (refine HWK.out.mono ?_); rintro e w1 ⟨rfl, hf1⟩; have HF1 := Lib.hid hf1; clear hf1)
    | (go_at_call 9; (with_reducible refine (HLG0.out _ HF1.out).mono ?_); rintro e w2 ⟨rfl, hw2⟩; replace hw2 := hw2.symm; subst hw2))
  obtain ⟨B, hB⟩ : ∃ B, w1.heap.size = B := ⟨_, rfl⟩
  have hBw : w.heap.size ≤ B := by rw [← hB]; exact HF1.out.size
  have HBB := Lib.hid hB
  clear hB
  go_loopw [7, 37] (fun v u wr => ∃ (k c7 : Nat) (A7 : Option Addr) (rows : List Row), v = .slice A7 k c7 ∧ u = iv (k : Nat) ∧ k ≤ n0 ∧ Hid (rows.length = k ∧ rows.map (·.bs) = (x0.take k).map (·.bs)) ∧ Hid (Own wr B tRow A7 k c7 (rows.map Row.val)) ∧ Hid (∀ r ∈ rows, RowOk wr B r) ∧ Hid (Fresh w1 wr) ∧ B ≤ wr.heap.size) (fun _ u _ => n0 - (intOf u).toNat)
  case atStart => exact ⟨0, 0, none, [], rfl, rfl, Nat.zero_le _, Lib.hid ⟨rfl, rfl⟩, Lib.hid (Own.nil _ _ _), Lib.hid (fun r hr => by cases hr), Lib.hid (Fresh.refl _), by rw [HBB.out]; exact Nat.le_refl _⟩
  case round =>
    obtain ⟨k, c7, A7, rows, rfl, rfl, hk, hrows, hown, hok, hfr, hBr⟩ := hrel
    by_cases hlt : k < n0
    · obtain ⟨x, hx⟩ : ∃ x, x0[k]? = some x := ⟨_, List.getElem?_eq_getElem (by rw [HL0.out]; exact hlt)⟩
      have hxm := List.mem_of_getElem? hx
      obtain ⟨vb, vo, hA0, hvb, hvc⟩ := HR0.out.1.2 (by omega)
      subst hA0
      have hf1r : Fresh w wr := HF1.out.trans hfr.out
      have hcx : wr.cell? ⟨vb, vo + k, none⟩ = some (.slice x.at_ x.len x.cap) := (World.cell?_of_block (hf1r.block vb hvb)).trans (hvc k _ (by rw [List.getElem?_map, hx]; rfl))
      have hfa : Fresh wr (wr.alloc (.cells #[] tU8)) := Fresh.alloc _ _
      have hrx : Rd (wr.alloc (.cells #[] tU8)) w.heap.size x.at_ x.len (x.bs.map bv) := (HR0.out.2 x hxm).below (hf1r.trans hfa) (Nat.le_refl _)
      have hmade : Own (wr.alloc (.cells #[] tU8)) wr.heap.size tU8 (some ⟨wr.heap.size, 0, none⟩) 0 0 [] := Own.made wr tU8 #[] 0 rfl (by unfold maxLen; omega)
      have hxl := HB0.out x hxm
      have hx100 := HQ0.out x hxm
      have htk : (x0.take (k + 1)).map (·.bs) = (x0.take k).map (·.bs) ++ [x.bs] := by rw [List.take_add_one, hx, List.map_append]; rfl
      have hza := hfa.size
      have HRX := Lib.hid hrx
      have HMADE := Lib.hid hmade
      have HXL := Lib.hid hxl
      have HTK := Lib.hid htk
      have HFA := Lib.hid hfa
      have hl0 : 0 + x.len = x.len := Nat.zero_add _
      clear hx hxm hvc hf1r hrx hmade hxl htk hfa
      go_wp2_with (first
        | ((with_reducible (refine at_slot_ 44 ?_)); refine wpList_append_rd _ rfl (.tmp 42) (.tmp 43) 32 rfl wr.heap.size tU8 j0 _ 1 Try.underlying32 hj0 hy0 hy1 hy2 rfl (some ⟨wr.heap.size, 0, none⟩) 0 0 [] rfl HMADE.out w.heap.size x.at_ x.len x.cap (x.bs.map bv) rfl HRX.out (bv_one _) (by unfold maxLen; omega) (by omega) hza ?_; intro A4 c4 w4 h2 h3; rw [Nat.zero_add, List.nil_append] at h2; rw [Nat.zero_add]; have HO4 := Lib.hid h2; have HF4 := Lib.hid (Fresh.append HFA.out HMADE.out (Nat.le_refl _) h3); clear h2 h3)
        | ((with_reducible (refine at_slot_ 46 ?_)); refine wpList_append_rdx _ rfl (.tmp 41) (.tmp 45) 22 rfl B tRow i0 _ 24 Try.underlying22 hi0 hz0 hz1 hz2 rfl A7 k c7 (rows.map Row.val) rfl ((hown.out.fresh HF4.out).fresh (Fresh.alloc w4 _)) (w4.heap.size + 1) (some ⟨w4.heap.size, 0, none⟩) 1 1 [.slice A4 x.len c4] rfl (Rd.lit w4 #[.slice A4 x.len c4] tRow) (by simp; rfl) (by unfold maxLen; omega) (by omega) (by have := HF4.out.size; simp; omega) ?_; intro A5 c5 w5 h4 h5 h6; have HO5 := Lib.hid h4; have HG5 := Lib.hid h5; clear h4 h5 h6))
      have hfb : Fresh w4 (w4.alloc (.cells #[.slice A4 x.len c4] tRow)) := Fresh.alloc _ _
      have hown2 := (hown.out.fresh HF4.out).fresh hfb
      have hok5 : ∀ r ∈ rows ++ [⟨A4, x.len, c4, x.bs⟩], RowOk w5 B r := fun r hr => by
        rw [List.mem_append, List.mem_singleton] at hr
        rcases hr with hr | rfl
        · exact (((hok.out r hr).fresh HF4.out).fresh hfb).beside hown2 HG5.out
        · exact ⟨HXL.out, own_beside ((own_low HO4.out hBr).fresh hfb) hown2 (by decide) HG5.out⟩
      have hf5 : Fresh w1 w5 := Fresh.append ((hfr.out.trans HF4.out).trans hfb) hown2 (by rw [HBB.out]; exact Nat.le_refl _) HG5.out
      have hB5 : B ≤ w5.heap.size := by rw [← HBB.out]; exact hf5.size
      have HOK5 := Lib.hid hok5
      have HF5 := Lib.hid hf5
      clear hfb hown2 hok5 hf5
      go_roundw
      case rel => exact ⟨k + 1, c5, A5, rows ++ [⟨A4, x.len, c4, x.bs⟩], rfl, by go_num, by omega, Lib.hid ⟨by rw [List.length_append, hrows.out.1]; rfl, by rw [HTK.out, List.map_append, hrows.out.2]; rfl⟩, Lib.hid (by rw [List.map_append]; exact HO5.out), HOK5, HF5, hB5⟩
      case measure => simp [intOf]; omega
    · have hkn : k = n0 := by omega
      subst hkn
      obtain ⟨hrl, hrb⟩ := hrows.out
      rw [List.take_of_length_le (by rw [HL0.out]; exact Nat.le_refl _)] at hrb
      have hwords : wordsOf rows = wordsOf x0 := hrb
      have hlens : lens rows = lens x0 := by
        have h1 : lens rows = (rows.map (·.bs)).map List.length := by
          unfold lens
          rw [List.map_map]
          exact List.map_congr_left fun r hr => ((hok.out r hr).1).symm
        have h2 : lens x0 = (x0.map (·.bs)).map List.length := by
          unfold lens
          rw [List.map_map]
          exact List.map_congr_left fun r hr => (HB0.out r hr).symm
        rw [h1, h2, hrb]
      have hr100 : ∀ r ∈ rows, r.len ≤ 100 := fun r hr => by
        have h1 : r.bs ∈ x0.map (·.bs) := by rw [← hrb]; exact List.mem_map.2 ⟨r, hr, rfl⟩
        obtain ⟨y, hy, he⟩ := List.mem_map.1 h1
        have h2 := HQ0.out y hy
        have h3 := HB0.out y hy
        have h4 := (hok.out r hr).1
        have h5 : y.bs.length = r.bs.length := by rw [he]
        omega
      have HR100 := Lib.hid hr100
      clear hr100
      have hrr : RdRows wr wr.heap.size A7 k rows := ⟨hown.out.rd, fun r hr => (hok.out r hr).2.rd⟩
      have hEr : errA (lens rows) = E := by rw [hlens]; exact HE.out
      have hfw : Fresh w wr := HF1.out.trans hfr.out
      have HFW := Lib.hid hfw
      by_cases hE0 : E = 0
      · subst hE0
        have hnw := new_ok rows A7 k c7 wr.heap.size wr hrr (Nat.le_refl _) (by omega) hEr
        rw [hwords] at hnw
        have HNW := Lib.hid hnw
        have HRL := Lib.hid hrl
        clear hrl hrb hwords hlens hrr hEr hfw hnw hrows
        go_wp2_with (go_at_call 10; (refine HNW.out.mono ?_); rintro e w3 ⟨q, N, n, c, P, A, T, rfl, hf3, hq3, hwd⟩; have HF3 := Lib.hid hf3; have HWD := Lib.hid hwd; clear hf3 hwd)
        have hrb3 : ∀ r ∈ rows, RowB w3 B r := fun r hr => ((hok.out r hr).fresh HF3.out).rowB
        have hown3 := hown.out.fresh HF3.out
        have hfw3 := HFW.out.trans HF3.out
        have HRB3 := Lib.hid hrb3
        have HOWN3 := Lib.hid hown3
        have HFW3 := Lib.hid hfw3
        obtain ⟨WA, hWA⟩ : ∃ V : World, V = wr := ⟨wr, rfl⟩
        subst hWA
        clear hrb3 hown3 hfw3 hown hok hfr HFW
        go_loopw [57] (fun v wr => ∃ i : Nat, v = iv (i : Nat) ∧ i ≤ k ∧ Hid (∀ r ∈ rows, RowB wr B r) ∧ Hid (Own wr B tRow A7 k c7 (rows.map Row.val)) ∧ Hid (WdAt wr q N (wordsOf x0) P A n c T) ∧ Hid (Fresh w wr)) (fun v _ => k - (intOf v).toNat)
        case atStart => exact ⟨0, rfl, Nat.zero_le _, HRB3, HOWN3, HWD, HFW3⟩
        case round =>
          obtain ⟨i, rfl, hi, hrb, hown, hwd, hfr⟩ := hrel
          by_cases hlt2 : i < k
          · obtain ⟨r, hr⟩ : ∃ r, rows[i]? = some r := ⟨_, List.getElem?_eq_getElem (by rw [HRL.out]; exact hlt2)⟩
            have hrm := List.mem_of_getElem? hr
            obtain ⟨q7, hA7, hc7⟩ := own_at hown.out (i := i) (v := r.val) (by rw [List.getElem?_map, hr]; rfl)
            subst hA7
            rw [Row.val] at hc7
            obtain ⟨WB, hWB⟩ : ∃ V : World, V = wr := ⟨wr, rfl⟩
            subst hWB
            have hrl100 := HR100.out r hrm
            have HR := Lib.hid hr
            have HRM := Lib.hid hrm
            clear hr hrm
            go_wp2
            go_loopw [65] (fun v wr => ∃ j : Nat, v = iv (j : Nat) ∧ j ≤ r.len ∧ Hid (∀ r ∈ rows, RowB wr B r) ∧ Hid (Own wr B tRow (some ⟨q7, 0, none⟩) k c7 (rows.map Row.val)) ∧ Hid (WdAt wr q N (wordsOf x0) P A n c T) ∧ Hid (Fresh w wr)) (fun v _ => r.len - (intOf v).toNat)
            case atStart => exact ⟨0, rfl, Nat.zero_le _, hrb, hown, hwd, hfr⟩
            case round =>
              clear hrb hown hwd hfr hc7
              obtain ⟨j, rfl, hj, hrb, hown, hwd, hfr⟩ := hrel
              by_cases hlt3 : j < r.len
              · obtain ⟨b, cs, hat, hbk, hval, hBb⟩ : ∃ b cs, r.at_ = some ⟨b, 0, none⟩ ∧ Bk wr b tU8 cs ∧ (∀ k, k < r.len → ∃ v : UInt8, cs[k]? = some (bv v)) ∧ B ≤ b := by
                  rcases hrb.out r HRM.out with h | h
                  · omega
                  · exact h
                obtain ⟨v, hv⟩ := hval j hlt3
                have hcv := hbk.cell hv
                have hfv := hbk.free j
                obtain ⟨q8, hq8, hc8⟩ := own_at hown.out (i := i) (v := r.val) (by rw [List.getElem?_map, HR.out]; rfl)
                injection hq8 with hq8
                injection hq8 with hq8
                subst hq8
                rw [Row.val, hat] at hc8
                have hinc := inc_u8 v
                have hput : But b wr (wr.setCell ⟨b, j, none⟩ (bv (v + 1))) := But.put _ _
                have HRB2 : Hid (∀ r ∈ rows, RowB (wr.setCell ⟨b, j, none⟩ (bv (v + 1))) B r) := Lib.hid fun r' hr' => (hrb.out r' hr').put hbk (v + 1)
                have HOW2 : Hid (Own (wr.setCell ⟨b, j, none⟩ (bv (v + 1))) B tRow (some ⟨q7, 0, none⟩) k c7 (rows.map Row.val)) := Lib.hid (hown.out.but hput (hown.out.ne_block hbk (by decide)))
                have HWD2 := Lib.hid (hwd.out.bytes hput hbk)
                have HFR2 := Lib.hid (hfr.out.but (Nat.le_trans hBw hBb) hput)
                clear hrb hown hwd hfr hbk hval hv hat hput
                obtain ⟨vz, hvz⟩ : ∃ vz : Int, ((v + 1 : UInt8).toNat : Int) = vz := ⟨_, rfl⟩
                have hbz : bv (v + 1) = .int .u8 vz := by rw [bv, hvz]
                rw [hbz] at HRB2 HOW2 HWD2 HFR2
                rw [hvz] at hinc
                clear hvz hbz
                go_wp2
                go_roundw
                case rel => exact ⟨j + 1, by go_num, by omega, HRB2, HOW2, HWD2, HFR2⟩
                case measure => simp [intOf]; omega
              · have hjl : j = r.len := by omega
                go_wp2
                go_roundw
                case rel => exact ⟨i + 1, by go_num, by omega, hrb, hown, hwd, hfr⟩
                case measure => simp [intOf]; omega
          · have hik : i = k := by omega
            subst hik
            obtain ⟨WM, hWM⟩ : ∃ V : World, V = wr := ⟨wr, rfl⟩
            subst hWM
            have hsc : ∀ V, Fresh WM V → _ := fun V hV => scan_any q N (wordsOf x0) P A n c T V (hwd.out.fresh hV)
            have HSC := Lib.hid hsc
            have hlow := hwd.out.low
            have hin := hwd.out.bk.inside
            have HFM := hfr
            clear hsc hrb hown hwd hfr
            go_upto_region 24 with (first
              | (go_at_call 12; (refine (HSC.out _ HF4.out).mono ?_); rintro e w5 ⟨p2, g2, rfl, hs5, hp5, hg5, hf5⟩; have HS5 := Lib.hid hs5; have HF5 := Lib.hid hf5; clear hs5 hf5)
              | (go_at_call 12; (refine (HSC.out _ (Fresh.refl _)).mono ?_); rintro e w4 ⟨p1, g1, rfl, hs4, hp4, hg4, hf4⟩; have HS4 := Lib.hid hs4; have HF4 := Lib.hid hf4; clear hs4 hf4))
            obtain ⟨l1, l2⟩ := HS4.out.low
            obtain ⟨l3, l4⟩ := HS5.out.low
            obtain ⟨e1, e2, e3⟩ := HS4.out.inside
            obtain ⟨e4, e5, e6⟩ := HS5.out.inside
            have zM := HFM.out.size
            have z4 := HF4.out.size
            have z5 := HF5.out.size
            have hfw5 : Fresh w w5 := (HFM.out.trans HF4.out).trans HF5.out
            have hpg1 : w.heap.size ≤ p1 ∧ w.heap.size ≤ g1 := by omega
            have hpg2 : w.heap.size ≤ p2 ∧ w.heap.size ≤ g2 := by omega
            have hput1 := put_any A1 n1 c1 x1 (HS4.out.fresh HF5.out) (rdA_in HR1.out hfw5 hpg1.1 hpg1.2) (by omega) (by simp)
            rw [List.nil_append] at hput1
            have HPUT1 := Lib.hid hput1
            have HFW5 := Lib.hid hfw5
            clear hput1 hfw5 HSC
            go_upto_region 25 with (go_at_call 13; (refine HPUT1.out.mono ?_); rintro e w6 ⟨R1, rfl, hR1, hs6, ht6⟩; have HS6 := Lib.hid hs6; have HT6 := Lib.hid ht6; clear hR1 hs6 ht6)
            have hs25 : ScAt w6 p2 g2 N (wordsOf x0) P A n c T [] := ScAt.turn HS5.out HT6.out l1 l2 (by omega) (by omega) (by omega) (by omega)
            have hfw6 : Fresh w w6 := HT6.out.new HFW5.out (by simp; exact hpg1)
            have hput2 := put_any A2 n2 c2 x2 hs25 (rdA_in HR2.out hfw6 hpg2.1 hpg2.2) (by omega) (by simp)
            rw [List.nil_append] at hput2
            have HPUT2 := Lib.hid hput2
            have HFW6 := Lib.hid hfw6
            clear hput2 hfw6 hs25 HPUT1
            go_upto_region 26 with (go_at_call 13; (refine HPUT2.out.mono ?_); rintro e w7 ⟨R2, rfl, hR2, hs7, ht7⟩; have HS7 := Lib.hid hs7; have HT7 := Lib.hid ht7; clear hR2 hs7 ht7)
            have hs17 : ScAt w7 p1 g1 N (wordsOf x0) P A n c T x1 := ScAt.turn HS6.out HT7.out l3 l4 (by omega) (by omega) (by omega) (by omega)
            have hfw7 : Fresh w w7 := HT7.out.new HFW6.out (by simp; exact hpg2)
            have hWl : (wordsOf x0).length = i := by unfold wordsOf; rw [List.length_map]; exact HL0.out
            have hfa : ∀ V, Fresh w7 V → _ := fun V hV => first_any (hs17.fresh hV)
            have hfb : ∀ V, Fresh w7 V → _ := fun V hV => first_any (HS7.out.fresh hV)
            obtain ⟨Fa, hFa⟩ : ∃ Fa, fvs (wordsOf x0) x1 = Fa := ⟨_, rfl⟩
            obtain ⟨Fb, hFb⟩ : ∃ Fb, fvs (wordsOf x0) x2 = Fb := ⟨_, rfl⟩
            rw [hFa, hWl] at hfa
            rw [hFb, hWl] at hfb
            have hFal : Fa.length = i := by rw [← hFa, first_len]; exact hWl
            have hFbl : Fb.length = i := by rw [← hFb, first_len]; exact hWl
            have hFat : ∀ (j : Nat) (y : Row), x0[j]? = some y → Fa[j]? = some (fv y.bs x1) ∧ Fb[j]? = some (fv y.bs x2) := fun j y hy => by
              rw [← hFa, ← hFb]
              unfold fvs wordsOf
              refine ⟨?_, ?_⟩
              · rw [List.getElem?_map, List.getElem?_map, hy]; rfl
              · rw [List.getElem?_map, List.getElem?_map, hy]; rfl
            have HFA := Lib.hid hfa
            have HFB := Lib.hid hfb
            have HFW7 := Lib.hid hfw7
            have HFAL := Lib.hid hFal
            have HFBL := Lib.hid hFbl
            have HFAT := Lib.hid hFat
            clear hs17 hfw7 hWl hfa hfb hFa hFb hFal hFbl hFat HPUT2
            go_wp2_with (go_at_call 16; (with_reducible refine (HFA.out _ (Fresh.refl _)).mono ?_); rintro e w8 ⟨A16, c16, rfl, ho8, hf8⟩; have HO8 := Lib.hid ho8; have HF8 := Lib.hid hf8; clear ho8 hf8)
            have hfw8 : Fresh w w8 := HFW7.out.trans HF8.out
            obtain ⟨qf, hqf⟩ : ∃ qf, A16 = some ⟨qf, 0, none⟩ ∨ i = 0 := by
              rcases HO8.out.2 with ⟨_, h⟩ | ⟨g, cap, cur, hv, _⟩
              · exact ⟨0, .inr h⟩
              · injection hv with hv _ _
                exact ⟨g, .inl hv⟩
            have HQF := Lib.hid hqf
            have HFW8 := Lib.hid hfw8
            clear hqf hfw8
            go_loopw [93] (fun v wr => ∃ (j : Nat) (G : List Int), v = iv (j : Nat) ∧ j ≤ i ∧ Hid (Own wr w7.heap.size tInt A16 i c16 (G.map iv)) ∧ Hid (G.length = i ∧ ∀ m, j ≤ m → G[m]? = Fa[m]?) ∧ Hid (Fresh w7 wr)) (fun v _ => i - (intOf v).toNat)
            case atStart => exact ⟨0, Fa, rfl, Nat.zero_le _, HO8, Lib.hid ⟨HFAL.out, fun m _ => rfl⟩, HF8⟩
            case round =>
              obtain ⟨j, G, rfl, hj, hown, hG, hfr⟩ := hrel
              by_cases hlt4 : j < i
              · obtain ⟨y, hy⟩ : ∃ y, x0[j]? = some y := ⟨_, List.getElem?_eq_getElem (by rw [HL0.out]; exact hlt4)⟩
                have hym := List.mem_of_getElem? hy
                obtain ⟨ub, uo, hA0, hub, huc⟩ := HR0.out.1.2 (by omega)
                subst hA0
                have hfwr : Fresh w wr := HFW7.out.trans hfr.out
                have hcy : wr.cell? ⟨ub, uo + j, none⟩ = some (.slice y.at_ y.len y.cap) := (World.cell?_of_block (hfwr.block ub hub)).trans (huc j _ (by rw [List.getElem?_map, hy]; rfl))
                have hyl := HQ0.out y hym
                obtain ⟨ha, hb⟩ := HFAT.out j y hy
                obtain ⟨za, hza⟩ : ∃ za, fv y.bs x1 = za := ⟨_, rfl⟩
                obtain ⟨zb, hzb⟩ : ∃ zb, fv y.bs x2 = zb := ⟨_, rfl⟩
                rw [hza] at ha
                rw [hzb] at hb
                have hra : ∀ V, Fresh w V → Calls Try.prog 14 #[.slice A1 n1 c1, .slice y.at_ y.len y.cap] V fun e w' => e = .returned (iv za) ∧ Fresh V w' := fun V hV => (refFirst_any A1 y.at_ n1 y.len c1 y.cap w.heap.size x1 y.bs V (HR1.out.below hV (Nat.le_refl _)) ((HR0.out.2 y hym).below hV (Nat.le_refl _)) (by omega) (by omega)).mono fun e w' ⟨h1, qq, h2⟩ => ⟨by rw [h1, hza], h2 ▸ Fresh.drewN _ _⟩
                have hrb : ∀ V, Fresh w V → Calls Try.prog 14 #[.slice A2 n2 c2, .slice y.at_ y.len y.cap] V fun e w' => e = .returned (iv zb) ∧ Fresh V w' := fun V hV => (refFirst_any A2 y.at_ n2 y.len c2 y.cap w.heap.size x2 y.bs V (HR2.out.below hV (Nat.le_refl _)) ((HR0.out.2 y hym).below hV (Nat.le_refl _)) (by omega) (by omega)).mono fun e w' ⟨h1, qq, h2⟩ => ⟨by rw [h1, hzb], h2 ▸ Fresh.drewN _ _⟩
                have hA16 : A16 = some ⟨qf, 0, none⟩ := HQF.out.resolve_right (by omega)
                have hGj : (G.map iv)[j]? = some (iv za) := by rw [List.getElem?_map, hG.out.2 j (Nat.le_refl _), ha]; rfl
                have hcell : ∀ V, Fresh wr V → V.cell? ⟨qf, j, none⟩ = some (iv za) := fun V hV => by
                  obtain ⟨q', h1, h2⟩ := own_at (hown.out.fresh hV) hGj
                  rw [hA16] at h1
                  injection h1 with h1
                  injection h1 with h1
                  subst h1
                  exact h2
                have hb2 : (Fb.map iv)[j]? = some (iv zb) := by rw [List.getElem?_map, hb]; rfl
                subst hA16
                have hfd : Fresh wr wr.drew := Fresh.drew _
                have k1 := hcell _ hfd
                have HRA := Lib.hid hra
                have HRBB := Lib.hid hrb
                have HCELL := Lib.hid hcell
                have HB2 := Lib.hid hb2
                have HFD := Lib.hid hfd
                have HFWR := Lib.hid hfwr
                clear hy hym huc ha hb hza hzb hra hrb hGj hcell hb2 hfd hfwr
                go_wp2
                go_region_law (first
                  | ((with_reducible refine ast_slot_ 104 ?_); go_simp; (refine (HRA.out _ (HFWR.out.trans HFD.out)).mono ?_); rintro e w12 ⟨rfl, hf12⟩; have HF12 := Lib.hid (HFD.out.trans hf12); have k2 := HCELL.out _ HF12.out; clear hf12)
                  | ((with_reducible refine ast_slot_ 108 ?_); go_simp; (refine (HFB.out _ (hfr.out.trans HF12.out)).mono ?_); rintro e w13 ⟨A13, c13, rfl, ho, hf⟩; obtain ⟨q13, hq13, kk3⟩ := own_at ho HB2.out; subst hq13; have HO13 := Lib.hid ho; have HF13 := Lib.hid (HF12.out.trans hf); clear ho hf)
                  | ((with_reducible refine ast_slot_ 114 ?_); go_simp; (refine (HRBB.out _ (HFWR.out.trans HF13.out)).mono ?_); rintro e w14 ⟨rfl, hf14⟩; obtain ⟨q14, hq14, kk4⟩ := own_at (HO13.out.fresh hf14) HB2.out; injection hq14 with hq14; injection hq14 with hq14; subst hq14; have HF14 := Lib.hid (HF13.out.trans hf14); clear hf14))
                all_goals
                  have hfw14 : Fresh w7 w14 := hfr.out.trans HF14.out
                  have hown14 := hown.out.fresh HF14.out
                  have k5 := HCELL.out _ HF14.out
                  have kf5 : w14.frozen? ⟨qf, j, none⟩ = false := own_free hown14 rfl
                  have hqf := (World.ownsRow.lt hown14 qf rfl).1
                  have hown15 := own_put (i := j) hown14 rfl (iv 77)
                  rw [← List.map_set] at hown15
                  have hfw15 : Fresh w7 (w14.setCell ⟨qf, j, none⟩ (iv 77)) := hfw14.but hqf (But.put _ _)
                  have HO15 := Lib.hid hown15
                  have HF15 := Lib.hid hfw15
                  have HG15 : Hid ((G.set j 77).length = i ∧ ∀ m, j + 1 ≤ m → (G.set j 77)[m]? = Fa[m]?) := Lib.hid ⟨by rw [List.length_set]; exact hG.out.1, fun m hm => by rw [List.getElem?_set_ne (by omega)]; exact hG.out.2 m (by omega)⟩
                  clear hfw14 hown14 hown15 hfw15 k1 k2 kk3 kk4
                  go_wp2
                  go_roundw
                  case rel => exact ⟨j + 1, G.set j 77, by go_num, by omega, HO15, HG15, HF15⟩
                  case measure => simp [intOf]; omega
              · have hji : j = i := by omega
                subst hji
                clear hown hG
                obtain ⟨WC, hWC⟩ : ∃ V : World, V = wr := ⟨wr, rfl⟩
                subst hWC
                go_wp2
                go_loopw [123] (fun v wr => ∃ m : Nat, v = iv (m : Nat) ∧ m ≤ j ∧ Hid (Fresh w7 wr)) (fun v _ => j - (intOf v).toNat)
                case atStart => exact ⟨0, rfl, Nat.zero_le _, hfr⟩
                case round =>
                  clear hfr
                  obtain ⟨m, rfl, hm, hfr⟩ := hrel
                  by_cases hlt5 : m < j
                  · obtain ⟨y, hy⟩ : ∃ y, x0[m]? = some y := ⟨_, List.getElem?_eq_getElem (by rw [HL0.out]; exact hlt5)⟩
                    have hym := List.mem_of_getElem? hy
                    obtain ⟨ub, uo, hA0, hub, huc⟩ := HR0.out.1.2 (by omega)
                    subst hA0
                    have hfwr : Fresh w wr := HFW7.out.trans hfr.out
                    have hcy : wr.cell? ⟨ub, uo + m, none⟩ = some (.slice y.at_ y.len y.cap) := (World.cell?_of_block (hfwr.block ub hub)).trans (huc m _ (by rw [List.getElem?_map, hy]; rfl))
                    have hyl := HQ0.out y hym
                    obtain ⟨ha, hb⟩ := HFAT.out m y hy
                    obtain ⟨za, hza⟩ : ∃ za, fv y.bs x1 = za := ⟨_, rfl⟩
                    rw [hza] at ha
                    have hra : ∀ V, Fresh w V → Calls Try.prog 14 #[.slice A1 n1 c1, .slice y.at_ y.len y.cap] V fun e w' => e = .returned (iv za) ∧ Fresh V w' := fun V hV => (refFirst_any A1 y.at_ n1 y.len c1 y.cap w.heap.size x1 y.bs V (HR1.out.below hV (Nat.le_refl _)) ((HR0.out.2 y hym).below hV (Nat.le_refl _)) (by omega) (by omega)).mono fun e w' ⟨h1, qq, h2⟩ => ⟨by rw [h1, hza], h2 ▸ Fresh.drewN _ _⟩
                    have ha2 : (Fa.map iv)[m]? = some (iv za) := by rw [List.getElem?_map, ha]; rfl
                    have hfd : Fresh wr wr.drew := Fresh.drew _
                    have HRA := Lib.hid hra
                    have HA2 := Lib.hid ha2
                    have HFD := Lib.hid hfd
                    have HFWR := Lib.hid hfwr
                    clear hy hym huc ha hb hza hra ha2 hfd hfwr
                    go_wp2
                    go_region_law (first
                      | ((with_reducible refine ast_slot_ 129 ?_); go_simp; (refine (HFA.out _ (hfr.out.trans HFD.out)).mono ?_); rintro e w13 ⟨A13, c13, rfl, ho, hf⟩; obtain ⟨q13, hq13, kk3⟩ := own_at ho HA2.out; subst hq13; have HO13 := Lib.hid ho; have HF13 := Lib.hid (HFD.out.trans hf); clear ho hf)
                      | ((with_reducible refine ast_slot_ 135 ?_); go_simp; (refine (HRA.out _ (HFWR.out.trans HF13.out)).mono ?_); rintro e w14 ⟨rfl, hf14⟩; obtain ⟨q14, hq14, kk4⟩ := own_at (HO13.out.fresh hf14) HA2.out; injection hq14 with hq14; injection hq14 with hq14; subst hq14; have HF14 := Lib.hid (HF13.out.trans hf14); clear hf14))
                    all_goals go_wp2
                    all_goals
                      go_roundw
                      case rel => exact ⟨m + 1, by go_num, by omega, Lib.hid (hfr.out.trans HF14.out)⟩
                      case measure => simp [intOf]; omega
                  · have hmj : m = j := by omega
                    subst hmj
                    go_wp2
                    go_ret
                    exact ⟨rfl, HFW7.out.trans hfr.out⟩
      · have hnw := new_bad rows A7 k c7 wr.heap.size E wr hrr (Nat.le_refl _) (by omega) hEr hE0
        have hE1 : ((E : Int) != 0) = true := by rw [bne_iff_ne]; omega
        have HNW := Lib.hid hnw
        clear hrl hrb hwords hlens hrr hEr hfw hnw hrows hE0
        go_wp2_with (go_at_call 10; (refine HNW.out.mono ?_); rintro e w3 ⟨rfl, hf3⟩; have HF3 := Lib.hid (HFW.out.trans hf3); clear hf3)
        go_ret
        exact ⟨rfl, HF3.out⟩
end Go.Proofs.Ytgbffkneidnmfaa.ahoApart
