/-
  Layer 9's reference: Read. My own text.
-/
import Derived.Test.YtkkkjadfhimahaaDoorNamNext2
namespace Go.Proofs.YtkkkjadfhimahaaDoor.namp
open Go.RowKit Go.Proofs.YtkkkjadfhimahaaDoor.base Go.Proofs.YtkkkjadfhimahaaDoor.nam
set_option linter.unusedVariables false

abbrev tRunes : TypeId := 43
abbrev rv (l : List Nat) : List Value := l.map fun x : Nat => iv (x : Int)
/-- what Read tells of a text that begins with these runes, and then with what is none -/
def ReadIs (rs : List Nat) (u : List UInt8) (w : World) (e : Ending) (w' : World) : Prop :=
  ∃ A m c, e = .returned (.agg #[.slice A m c, .bool (decide (u = []))]) ∧ Fresh w w' ∧ m ≤ c ∧ (u = [] → m = rs.length ∧ Rd w' w'.heap.size A m (rv rs))
theorem Own.low9 {w : World} {base base' : Nat} {e : TypeId} {A : Option Addr} {n c : Nat} {xs : List Value} (h : Own w base e A n c xs) (hb : base' ≤ base) : Own w base' e A n c xs :=
  ⟨h.1, h.2.imp id fun ⟨g, cap, cur, h1, h2, h3⟩ => ⟨g, cap, cur, h1, Nat.le_trans hb h2, h3⟩⟩
theorem readIs_bad {rs : List Nat} {u : List UInt8} {w w' : World} (hu : Bad u) (hf : Fresh w w') : ReadIs rs u w (.returned (.agg #[.slice none 0 0, .bool false])) w' :=
  ⟨none, 0, 0, by rw [decide_eq_false hu.1], hf, Nat.le_refl _, fun h => absurd h hu.1⟩
theorem readIs_ok {rs : List Nat} {u : List UInt8} {w w' : World} {A : Option Addr} {m c : Nat} (hu : u = []) (hf : Fresh w w') (hmc : m ≤ c) (hm : m = rs.length) (hr : Rd w' w'.heap.size A m (rv rs)) : ReadIs rs u w (.returned (.agg #[.slice A m c, .bool true])) w' :=
  ⟨A, m, c, by rw [decide_eq_true hu], hf, hmc, fun _ => ⟨hm, hr⟩⟩
set_option maxHeartbeats 4000000 in
set_option maxRecDepth 100000 in
theorem read_any (A : Option Addr) (n c : Nat) (t : List UInt8) (rs : List Nat) (u : List UInt8) (ht : t = tx rs ++ u) (hrn : ∀ r ∈ rs, Rn r) (hu : u = [] ∨ Bad u) (w : World) (B : Nat) (hr : Rd w B A n (t.map bv)) (hB : B ≤ w.heap.size) (hm : n ≤ 4294967296) (hc : n ≤ c) (hcm : c ≤ maxLen) :
    Calls Tryd.prog 17 #[.slice A n c] w (ReadIs rs u w) := by
  obtain ⟨i0, hi0, hz0, hz1, hz2⟩ := info_parts info_int
  have hl : t.length = n := by have := hr.1; rwa [List.length_map] at this
  have hcm2 : c ≤ 9223372036854775807 := by unfold maxLen at hcm; omega
  have b1 := Bk.made w tRunes #[.slice none 0 0, .bool false]
  have b2 := b1.alloc (.cells #[.slice none 0 0, .bool true] tRunes)
  have b3 := Bk.made (w.alloc (.cells #[.slice none 0 0, .bool false] tRunes)) tRunes #[.slice none 0 0, .bool true]
  have hs1 : (w.alloc (.cells #[.slice none 0 0, .bool false] tRunes)).heap.size = w.heap.size + 1 := by simp
  rw [hs1] at b3
  have HL := Lib.hid hl
  have HT := Lib.hid ht
  have HRN := Lib.hid hrn
  have HU := Lib.hid hu
  have HR := Lib.hid hr
  clear hl ht hrn hu hr hcm b1 hs1
  go_enter Tryd.func17, Tryd.ntmps17
  go_wp2
  have hf0 : Fresh w ((w.alloc (.cells #[.slice none 0 0, .bool false] tRunes)).alloc (.cells #[.slice none 0 0, .bool true] tRunes)) := (Fresh.alloc w _).trans (Fresh.alloc _ _)
  go_loopw [4] (fun v wr => ∃ (done rest : List Nat) (P k c1 : Nat) (A1 : Option Addr), Hid (rs = done ++ rest) ∧ v = .int .i64 P ∧ Hid (P = (tx done).length) ∧ Hid (k = done.length) ∧ k ≤ n ∧ P ≤ n ∧ Bk wr w.heap.size tRunes [.slice none 0 0, .bool false] ∧ Bk wr (w.heap.size + 1) tRunes [.slice A1 k c1, .bool true] ∧ Own wr (w.heap.size + 2) 3 A1 k c1 (rv done) ∧ Fresh w wr) (fun v _ => n - (intOf v).toNat)
  case atStart => exact ⟨[], rs, 0, 0, 0, none, rfl, rfl, rfl, rfl, by omega, by omega, b2, b3, Own.nil _ _ _, hf0⟩
  case round =>
    obtain ⟨done, rest, P, k, c1, A1, hdr, rfl, hP, hk, hkn, hPn, hb1, hb2, hown, hfr⟩ := hrel
    clear b2 b3 hf0
    have hsz := hb2.inside
    by_cases hlt : P < n
    · obtain ⟨b, off, x, e0, hbB, hx, hcx⟩ := HR.out.at_ hlt
      subst e0
      have hcut := (HR.out.below (w' := wr) hfr hB).cut (lo := P) (hi := n) (cap := c) (by omega) (Nat.le_refl _) hc
      rw [if_neg (show ¬ c = P by omega)] at hcut
      have hne : ¬ c = P := by omega
      have hcut2 : Rd wr B (some ⟨b, off + P, none⟩) (n - P) ((t.drop P).map bv) := by
        rw [Option.map_some, Addr.add_mid] at hcut
        rwa [← List.map_drop, List.take_of_length_le (by rw [List.length_map, List.length_drop, HL.out]; exact Nat.le_refl _)] at hcut
      have hnx := fun cc => next_any _ (n - P) cc (t.drop P) wr B hcut2 (by have := hfr.size; omega) (by omega)
      have hdrop : t.drop P = tx rest ++ u := by
        have h1 := HT.out
        rw [hdr.out, tx_append, List.append_assoc] at h1
        rw [h1, hP.out, List.drop_left]
      rw [hdrop] at hnx
      have HB1 := Lib.hid hb1
      have HB2 := Lib.hid hb2
      have HO := Lib.hid hown
      have HF := Lib.hid hfr
      clear hx hcx hcut hcut2 hb1 hb2 hown hfr
      cases rest with
      | nil =>
        have hub : Bad u := by
          rcases HU.out with h | h
          · exfalso
            have h1 := congrArg List.length hdrop
            rw [List.length_drop, HL.out, h] at h1
            simp at h1
            omega
          · exact h
        have hres : nxI (tx [] ++ u) = -1 := nxI_bad hub
        rw [hres] at hnx
        have HNX := Lib.hid hnx
        have HUB := Lib.hid hub
        clear hnx hres hub hdrop
        go_wp2_with (first
          | (go_at_call 25; (refine (HNX.out _).mono ?_); rintro e w1 ⟨rfl, hf1⟩)
          | ((with_reducible refine at_store_ 2 17 ?_); refine wpList_store_blk rfl _ _ _ rfl w.heap.size 0 tRunes _ [.slice none 0 0, .bool false] rfl rfl (HB1.out.fresh hf1) (by simp) (by intro v hv; simp at hv; rcases hv with rfl | rfl <;> rfl) (by kernel_rfl) ?_; intro w2 hb3 hbut2))
        have hb4 : w2.heap[w.heap.size]? = some (.cells #[.slice none 0 0, .bool false] tRunes (0, 0)) := hb3
        refine bodyPost_ret (results_cell_row (p := 2) (by kernel_rfl) _ _ w.heap.size tRunes #[.slice none 0 0, .bool false] (0, 0) _ rfl hb4 Tryd.underlying43 rfl (by kernel_rfl)) rfl ?_
        exact readIs_bad HUB.out (Fresh.but (HF.out.trans hf1) (Nat.le_refl _) hbut2)
      | cons r rest =>
        have hrr : Rn r := HRN.out r (by rw [hdr.out]; simp)
        have hres : nxI (tx (r :: rest) ++ u) = (r : Nat) := by rw [tx_cons, List.append_assoc]; exact nxI_good hrr _
        rw [hres] at hnx
        have hrl := hrr.le
        have hut := fun W => utf_any r (by omega) W
        have hPW : P + wid r ≤ n := by
          have h1 := congrArg List.length hdrop
          rw [List.length_drop, HL.out, tx_cons, List.append_assoc, List.length_append, en_len] at h1
          omega
        obtain ⟨W, hW⟩ : ∃ W, wid r = W := ⟨_, rfl⟩
        have hW1 := (wid_bd r).1
        rw [hW] at hut hPW hW1
        have HNX := Lib.hid hnx
        have HUT := Lib.hid hut
        have HWD := Lib.hid hW
        have hr0 : ¬ (r : Int) < 0 := by omega
        clear hnx hres hdrop hut hW hrr
        go_wp2_with (first
          | (go_at_call 25; (refine (HNX.out _).mono ?_); rintro e w1 ⟨rfl, hf1⟩; have hb3 := HB2.out.fresh hf1; have k1 := hb3.cell (i := 0) rfl; have HB3 := Lib.hid hb3; have HF1 := Lib.hid hf1; clear hb3 hf1)
          | (at_builtin; refine wpList_append_rd _ rfl _ _ 34 rfl (w.heap.size + 2) 3 i0 _ 8 Tryd.underlying34 hi0 hz0 hz1 hz2 rfl A1 k c1 _ rfl (Own.fresh (Own.fresh HO.out HF1.out) (Fresh.alloc _ _)) (w1.heap.size + 1) (some ⟨w1.heap.size, 0, none⟩) 1 1 [.int .i64 (r : Nat)] rfl (Rd.lit w1 #[.int .i64 (r : Nat)] 3) (one_one _ _) (by unfold maxLen; omega) (by omega) (by have := HB3.out.inside; simp; omega) ?_; intro A3 c3 w3 hown3 hg3; have hne3 := Own.ne_block (Own.fresh (Own.fresh HO.out HF1.out) (Fresh.alloc w1 (.cells #[.int .i64 (r : Nat)] 3))) (HB3.out.alloc (.cells #[.int .i64 (r : Nat)] 3)) (by decide); have hb5 := (HB3.out.alloc (.cells #[.int .i64 (r : Nat)] 3)).grown hg3 hne3; have k3 := hb5.cell (i := 0) rfl; have f3 := hb5.free 0; have HB5 := Lib.hid hb5; have HO3 := Lib.hid hown3; have HG3 := Lib.hid hg3; have HN3 := Lib.hid hne3; clear hb5 hown3 hg3 hne3)
          | (go_at_call 26; (refine (HUT.out _).mono ?_); rintro e w5 ⟨A5, c5, rfl, hf5, ho5⟩))
        have e0 : Below (w.heap.size + 2) wr w3 := ((HF1.out.mono (by omega)).alloc (by have := HF1.out.size; omega) (.cells #[.int .i64 (r : Nat)] 3)).grown HG3.out (by have := HF1.out.size; simp; omega) (Own.row HO.out)
        have e1 : Fresh w w3 := Below.trans HF.out (e0.mono (by omega))
        have e2 : Fresh w (w3.setCell ⟨w.heap.size + 1, 0, none⟩ (.slice A3 (k + 1) c3)) := e1.but (by omega) (But.put (g := w.heap.size + 1) (i := 0) w3 _)
        have e3 : Fresh w w5 := e2.trans hf5
        have g1 : Bk w3 w.heap.size tRunes [.slice none 0 0, .bool false] := HB1.out.below e0 (by omega)
        have g2 := (g1.apart (p := ⟨w.heap.size + 1, 0, none⟩) (by simp) (.slice A3 (k + 1) c3)).fresh hf5
        have g3 := (HB5.out.put 0 (.slice A3 (k + 1) c3)).fresh hf5
        have g4 := (Own.fresh (HO3.out.but (But.put (g := w.heap.size + 1) (i := 0) w3 (.slice A3 (k + 1) c3)) (Own.ne_block HO3.out HB5.out (by decide))) hf5)
        have hlist : rv done ++ [Value.int .i64 (r : Nat)] = rv (done ++ [r]) := by simp [rv]
        rw [hlist] at g4
        have hkk : k + 1 ≤ n := by
          have h1 := tx_le (done ++ [r])
          have h2 : (tx (done ++ [r])).length = P + W := by rw [tx_snoc, List.length_append, en_len, ← hP.out, HWD.out]
          have h3 : (done ++ [r]).length = k + 1 := by rw [List.length_append, ← hk.out]; rfl
          omega
        go_roundw
        case rel => exact ⟨done ++ [r], rest, P + W, k + 1, c3, A3, by have := hdr.out; show _ = _; rw [this]; simp, by go_num, by show _ = _; rw [tx_snoc, List.length_append, en_len, ← hP.out, HWD.out], by have := hk.out; show _ = _; simp; omega, hkk, hPW, g2, g3, g4, e3⟩
        case measure => simp [intOf]; omega
    · have hrest : rest = [] ∧ u = [] := by
        have h1 := congrArg List.length HT.out
        rw [HL.out, hdr.out, tx_append, List.append_assoc, List.length_append, List.length_append, ← hP.out] at h1
        have h2 := tx_le rest
        exact ⟨List.eq_nil_of_length_eq_zero (by omega), List.eq_nil_of_length_eq_zero (by omega)⟩
      obtain ⟨rfl, hu0⟩ := hrest
      have hrd : rs = done := by have := hdr.out; rwa [List.append_nil] at this
      subst hrd
      have HB1 := Lib.hid hb1
      have HB2 := Lib.hid hb2
      have HO := Lib.hid hown
      have HF := Lib.hid hfr
      have HU0 := Lib.hid hu0
      clear hb1 hb2 hown hfr hu0
      go_wp2_with (first
        | ((with_reducible refine at_slot_ 29 ?_); refine wpList_load_blk rfl tRunes _ rfl (w.heap.size + 1) 0 2 tRunes [.slice A1 k c1, .bool true] rfl HB2.out (by simp) _ Tryd.underlying43 rfl (by kernel_rfl) ?_)
        | ((with_reducible refine at_store_ 2 29 ?_); refine wpList_store_blk rfl _ _ _ rfl w.heap.size 0 tRunes _ [.slice A1 k c1, .bool true] rfl rfl HB1.out (by simp) (by intro v hv; simp at hv; rcases hv with rfl | rfl <;> rfl) (by kernel_rfl) ?_; intro w2 hb3 hbut2))
      have hb4 : w2.heap[w.heap.size]? = some (.cells #[.slice A1 k c1, .bool true] tRunes (0, 0)) := hb3
      refine bodyPost_ret (results_cell_row (p := 2) (by kernel_rfl) _ _ w.heap.size tRunes #[.slice A1 k c1, .bool true] (0, 0) _ rfl hb4 Tryd.underlying43 rfl (by kernel_rfl)) rfl ?_
      have hob : Own w2 (w.heap.size + 2) 3 A1 k c1 (rv rs) := HO.out.but hbut2 (Own.ne_block HO.out HB1.out (by decide))
      have hfin : ReadIs rs u w (.returned (.agg #[.slice A1 k c1, .bool true])) w2 := readIs_ok HU0.out (Fresh.but HF.out (Nat.le_refl _) hbut2) hob.cap.1 hk.out hob.rd
      exact hfin
end Go.Proofs.YtkkkjadfhimahaaDoor.namp
