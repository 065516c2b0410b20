import Derived.Test.YtfpicifjjedlaaaGreatDoorMgRfA
/- Several of my own texts, one behind the other. -/
/-
  Layer 6's reference: lengths. My own text.
-/
namespace Go.Proofs.YtfpicifjjedlaaaGreatDoor.refp
open Go.RowKit Go.Proofs.YtfpicifjjedlaaaGreatDoor.base Go.Proofs.YtfpicifjjedlaaaGreatDoor.num Go.Proofs.YtfpicifjjedlaaaGreatDoor.bitnum Go.Proofs.YtfpicifjjedlaaaGreatDoor.bitp Go.Proofs.YtfpicifjjedlaaaGreatDoor.huffnum Go.Proofs.YtfpicifjjedlaaaGreatDoor.infnum
set_option linter.unusedVariables false
theorem also_ok {α β : Type} {f : Part α} {h : α → Part β} {U T p : Nat} {r : β × Nat} (hh : also f h U T p = .ok r) : ∃ a q, f U T p = .ok (a, q) ∧ h a U T q = .ok r := by
  unfold also at hh
  cases hf : f U T p with
  | error e => rw [hf] at hh; cases hh
  | ok x => rw [hf] at hh; exact ⟨x.1, x.2, rfl, hh⟩
/-- one round of lengths -/
inductive RepIs (c : List Nat) (n f : Nat) (l : List Nat) (U T p k p1 : Nat) (a : List Nat) (q : Nat) : Prop where
  | last (v t p2 : Nat) (hk : k = 16) (hl : l.getLast? = some v) (ht : take 2 U T p1 = .ok (t, p2)) (hr : rep c n f (l ++ List.replicate (3 + t) v) U T p2 = .ok (a, q))
  | few (t p2 : Nat) (hk : k = 17) (ht : take 3 U T p1 = .ok (t, p2)) (hr : rep c n f (l ++ List.replicate (3 + t) 0) U T p2 = .ok (a, q))
  | many (t p2 : Nat) (hk : k = 18) (ht : take 7 U T p1 = .ok (t, p2)) (hr : rep c n f (l ++ List.replicate (11 + t) 0) U T p2 = .ok (a, q))
  | one (h16 : k ≠ 16) (h17 : k ≠ 17) (h18 : k ≠ 18) (hr : rep c n f (l ++ [k]) U T p1 = .ok (a, q))
theorem rep_step {c : List Nat} {n f : Nat} {l : List Nat} {U T p : Nat} {a : List Nat} {q : Nat} (h : rep c n f l U T p = .ok (a, q)) :
    (l.length = n ∧ a = l ∧ q = p) ∨ (l.length < n ∧ ∃ f' k p1, sym c U T p = .ok (k, p1) ∧ RepIs c n f' l U T p k p1 a q) := by
  cases f with
  | zero => cases h
  | succ f =>
    unfold rep at h
    split at h
    · cases h
    · rename_i h1
      split at h
      · rename_i h2
        injection h with h
        injection h with h3 h4
        exact .inl ⟨h2.symm, h3.symm, h4.symm⟩
      · rename_i h2
        refine .inr ⟨by omega, f, ?_⟩
        obtain ⟨k, p1, hs, hh⟩ := also_ok h
        refine ⟨k, p1, hs, ?_⟩
        split at hh
        · rename_i hk
          cases hl : l.getLast? with
          | none => rw [hl] at hh; cases hh
          | some v =>
            rw [hl] at hh
            obtain ⟨t, p2, ht, hr⟩ := also_ok hh
            exact .last v t p2 hk hl ht hr
        · rename_i h16
          split at hh
          · rename_i hk
            obtain ⟨t, p2, ht, hr⟩ := also_ok hh
            exact .few t p2 hk ht hr
          · rename_i h17
            split at hh
            · rename_i hk
              obtain ⟨t, p2, ht, hr⟩ := also_ok hh
              exact .many t p2 hk ht hr
            · rename_i h18
              exact .one h16 h17 h18 hh
section
variable {w0 w W W' : World} {g U T p base m c : Nat} {out : List UInt8} {A : Option Addr} {xs : List Value}
/-- a row of ints of one's own has grown: the state is as it was -/
theorem StAt.row (h : StAt w0 g U T p out W) (ho : Own W base tI A m c xs) (hb : g < base) (hg : W.grownBy W' (Value.slice A m c).ownBlock) : StAt w0 g U T p out W' := by
  obtain ⟨A2, cA, m2, O, cO, h1, h2, h3, h4, h5, h6⟩ := h.ex
  refine ⟨⟨A2, cA, m2, O, cO, h1, h2.grown hg (ho.ne_block h2 (by decide)), h3.block fun b hbg => hg.block b (by have := h2.inside; omega) fun e => ?_, h4, h5, ?_⟩, h.lo, Fresh.append h.fr ho (by have := h.lo; omega) hg⟩
  · have := (World.ownsRow.lt ho b e.symm).1
    omega
  · exact World.ownsRow.kept h6 hg (by
      cases hq : (Value.slice O m2 cO).ownBlock with
      | none => exact .inl rfl
      | some b => exact .inr fun e1 => Own.ne_own h6 ho (by decide) b hq e1.symm)
theorem KeepX.row (h : KeepX w W) (ho : Own W base tI A m c xs) (hb : w.heap.size ≤ base) (hg : W.grownBy W' (Value.slice A m c).ownBlock) : KeepX w W' :=
  ⟨Nat.le_trans h.1 hg.size, fun t h1 h2 b cs fr hbk => by
    have hi := (Array.getElem?_eq_some_iff.1 hbk).1
    refine (hg.block b (Nat.lt_of_lt_of_le hi h.1) fun e => ?_).trans (h.2 t h1 h2 b cs fr hbk)
    have := (World.ownsRow.lt ho b e.symm).1
    omega⟩
theorem StAt.e0 (h : StAt w0 g U T p out W) : W.cell? ⟨g, 3, none⟩ = some (iv 0) := by
  obtain ⟨A2, cA, m2, O, cO, h1, h2, _⟩ := h.ex
  exact h2.cell (i := 3) rfl
theorem StAt.inside (h : StAt w0 g U T p out W) : g < W.heap.size := by
  obtain ⟨A2, cA, m2, O, cO, h1, h2, _⟩ := h.ex
  exact h2.inside
end
theorem own_keepx {W W' : World} {base n c : Nat} {A : Option Addr} {xs : List Value} (h : Own W base tI A n c xs) (k : KeepX W W') : Own W' base tI A n c xs :=
  ⟨h.1, h.2.imp id fun ⟨g, cap, cur, h1, h2, h3, h4⟩ => ⟨g, cap, cur, h1, h2, k.2 tI (by decide) (by decide) _ _ _ h3, h4⟩⟩
theorem vn_more (cur : List Nat) (j v : Nat) : vn cur ++ List.replicate j (.int .i64 (v : Nat)) ++ [.int .i64 (v : Nat)] = vn cur ++ List.replicate (j + 1) (.int .i64 (v : Nat)) := by
  rw [List.append_assoc, ← List.replicate_succ']
theorem vn_all (cur : List Nat) (j v : Nat) : vn cur ++ List.replicate j (.int .i64 (v : Nat)) = vn (cur ++ List.replicate j v) := by
  rw [vn, vn, List.map_append, List.map_replicate]
theorem vn_moreX (xs : List Value) (j : Nat) (X : Value) : xs ++ List.replicate j X ++ [X] = xs ++ List.replicate (j + 1) X := by
  rw [List.append_assoc, ← List.replicate_succ']
theorem vn_allX (cur : List Nat) (j v : Nat) (X : Value) (hX : iv ((v : Nat) : Int) = X) : vn cur ++ List.replicate j X = vn (cur ++ List.replicate j v) := by
  subst hX
  rw [vn, vn, List.map_append, List.map_replicate]
set_option maxHeartbeats 8000000 in
set_option maxRecDepth 100000 in
theorem lengths_any (w0 : World) (g U T p n f q : Nat) (out : List UInt8) (w : World) (hs : StAt w0 g U T p out w) (ls a : List Nat) (vc : Value) (hc : CodeR w ls vc) (hf : tx ls 15 ≤ 32768) (h15 : ∀ x ∈ ls, x ≤ 15) (hn : ls.length ≤ 320) (hn2 : n ≤ 320) (hT : T ≤ 4294967296) (h : rep ls n f [] U T p = .ok (a, q)) :
    Calls Tryz.prog 47 #[pg g, vc, .int .i64 (n : Nat)] w fun e w' => ∃ (A : Option Addr) (c : Nat), e = .returned (.slice A n c) ∧ a.length = n ∧ Own w' w.heap.size tI A n c (vn a) ∧ StAt w0 g U T q out w' ∧ KeepX w w' := by
  obtain ⟨i0, hi0, hz0, hz1, hz2⟩ := info_parts info_int
  obtain ⟨L, R, F, rfl, hbits⟩ := hc
  obtain ⟨N, hN⟩ : ∃ N, ls.length = N := ⟨_, rfl⟩
  have hc : CodeR w ls (.agg #[.slice (some ⟨L, 0, none⟩) N N, .int .i64 (F : Nat)]) := ⟨L, R, F, by rw [hN], hbits⟩
  rw [hN]
  have hgw := hs.inside
  have hb1 := Bk.made w tCodes #[.slice (some ⟨L, 0, none⟩) N N, .int .i64 (F : Nat)]
  have hf1 := Fresh.alloc w (.cells #[.slice (some ⟨L, 0, none⟩) N N, .int .i64 (F : Nat)] tCodes)
  obtain ⟨wb, hwb⟩ : ∃ wb, w.alloc (.cells #[.slice (some ⟨L, 0, none⟩) N N, .int .i64 (F : Nat)] tCodes) = wb := ⟨_, rfl⟩
  rw [hwb] at hb1 hf1
  have hsb := hs.fresh hf1
  have hnext : ∀ V p s q, StAt w0 g U T p out V → KeepX wb V → sym ls U T p = .ok (s, q) → Calls Tryz.prog 43 #[pg g, .agg #[.slice (some ⟨L, 0, none⟩) N N, .int .i64 (F : Nat)]] V fun e w' => e = .returned (.int .i64 (s : Nat)) ∧ StAt w0 g U T q out w' ∧ KeepX V w' := fun V p s q h1 h2 h3 => next_any w0 g U T p s q out V h1 ls _ ((hc.fresh hf1).keep h2) hf h15 hn hT h3
  have hgb : g < wb.heap.size := Nat.lt_of_lt_of_le hgw hf1.size
  have HNEXT := Lib.hid hnext
  have HB1 := Lib.hid hb1
  have HF1 := Lib.hid hf1
  have HSB := Lib.hid hsb
  have HWB := Lib.hid hwb
  have HREP := Lib.hid h
  clear hnext hb1 hf1 hsb hwb hs hc hbits hf h15 h hN
  go_enter Tryz.func47, Tryz.ntmps47
  go_upto_region 2 with (fail)
  rw [HWB.out]
  go_loopw [7] (fun v wr => ∃ (f p m c : Nat) (A : Option Addr) (cur : List Nat), v = .slice A m c ∧ m ≤ n ∧ Hid (cur.length = m) ∧ Own wr wb.heap.size tI A m c (vn cur) ∧ StAt w0 g U T p out wr ∧ KeepX wb wr ∧ Hid (rep ls n f cur U T p = .ok (a, q))) (fun v _ => n - (match v with | .slice _ m _ => m | _ => 0))
  case atStart => exact ⟨f, p, 0, 0, none, [], rfl, Nat.zero_le _, rfl, Own.nil _ _ _, HSB.out, KeepX.refl _, HREP⟩
  case round =>
    obtain ⟨f, p, m, c, A, cur, rfl, hmn, hcm, hown, hst, hkx, hrep⟩ := hrel
    have k3 := hst.e0
    rcases rep_step hrep.out with ⟨e1, e2, e3⟩ | ⟨hlt, f', k, p1, hsym, hri⟩
    · rw [hcm.out] at e1
      subst e1
      have HO := Lib.hid (show Own wr wb.heap.size tI A m c (vn a) from by rw [e2]; exact hown)
      have HST := Lib.hid (show StAt w0 g U T q out wr from by rw [e3]; exact hst)
      have HKX := Lib.hid hkx
      have HA := Lib.hid (show a.length = m from by rw [e2]; exact hcm.out)
      clear e2 e3 hown hst hkx hrep
      go_wp2
      go_ret
      exact ⟨A, c, rfl, HA.out, Own.low_ HO.out HF1.out.size, HST.out, (KeepX.fresh HF1.out).trans HKX.out⟩
    · rw [hcm.out] at hlt
      have p0 : (m : Int) < (n : Int) := by omega
      have hbx := hkx.bk (by decide) (by decide) HB1.out
      have HBX := Lib.hid hbx
      have hnx := HNEXT.out wr p k p1 hst hkx hsym
      have HNX := Lib.hid hnx
      have HO := Lib.hid hown
      have HKX := Lib.hid hkx
      have HCM := Lib.hid hcm.out
      clear hbx hnx hown hkx hst hrep hsym hcm
      have hmle : ∀ l p, rep ls n f' l U T p = .ok (a, q) → l.length ≤ n := fun l p h => by
        rcases rep_step h with ⟨h1, _⟩ | ⟨h1, _⟩ <;> omega
      cases hri with
      | last v t p2 hk hl ht hr =>
        subst hk
        have hle := hmle _ _ hr
        rw [List.length_append, List.length_replicate, HCM.out] at hle
        obtain ⟨m', rfl⟩ : ∃ m', m = m' + 1 := ⟨m - 1, by
          cases m with
          | zero => rw [List.eq_nil_of_length_eq_zero HCM.out] at hl; cases hl
          | succ m => omega⟩
        rw [List.getLast?_eq_getElem?, HCM.out, Nat.add_sub_cancel] at hl
        have htk : ∀ V, StAt w0 g U T p1 out V → Calls Tryz.prog 19 #[pg g, .int .i64 2] V fun e w' => e = .returned (.int .i64 (t : Nat)) ∧ StAt w0 g U T p2 out w' ∧ KeepX V w' := fun V hV => take_any w0 g U T p1 2 t p2 out V hV (by omega) hT ht
        have HTAKE := Lib.hid htk
        obtain ⟨b, off, x, rfl, hbb, hx, hcx⟩ := HO.out.rd.at_ (enc := fun x : Nat => iv (x : Int)) (k := m') (by omega)
        rw [hl] at hx
        injection hx with hx
        subst hx
        have hcl : ∀ V, KeepX wr V → V.cell? ⟨b, off + m', none⟩ = some (iv (v : Nat)) := fun V hV => by
          obtain ⟨b', off', x', e', _, hx', hc'⟩ := (own_keepx HO.out hV).rd.at_ (enc := fun x : Nat => iv (x : Int)) (k := m') (by omega)
          injection e' with e'
          injection e' with e2 e3 _
          subst e2; subst e3
          rw [hl] at hx'
          injection hx' with hx'
          subst hx'
          exact hc'
        have HCL := Lib.hid hcl
        clear hcl hcx hl
        obtain ⟨tm, htm⟩ : ∃ tm, 3 + t = tm := ⟨_, rfl⟩
        rw [htm] at hr hle
        have HLE := Lib.hid hle
        have hlm : 1 ≤ tm := by omega
        have HLM := Lib.hid hlm
        have HRN := Lib.hid hr
        have ew : IntKind.i64.wrap (3 + (t : Int)) = (tm : Int) := by rw [IntWalk.i64_in _ (by omega)]; omega
        have e9 : ((m' + 1 : Nat) : Int) - 1 = (m' : Int) := by omega
        have e8 : (((m' + 1 : Nat) : Int) == 0) = false := by rw [beq_eq_false_iff_ne]; omega
        have e7 : IntKind.i64.wrap (((m' + 1 : Nat) : Int) - 1) = (m' : Int) := by rw [IntWalk.i64_in _ (by omega)]; omega
        clear htk htm ht hr hmle
        go_upto_region 20 with (first
          | ((with_reducible refine at_slot_ 24 ?_); refine wpList_load_blk rfl tCodes (.tmp 4) rfl w.heap.size 0 2 tCodes [.slice (some ⟨L, 0, none⟩) N N, .int .i64 (F : Nat)] rfl HBX.out (by simp) _ Tryz.underlying91 rfl (by kernel_rfl) ?_)
          | (go_at_call 43; (with_reducible refine HNX.out.mono ?_); rintro e w1 ⟨rfl, hs1, hk1⟩; have k31 := hs1.e0; have kl1 := HCL.out w1 hk1; have HS1 := Lib.hid hs1; have HK1 := Lib.hid hk1; clear hs1 hk1)
          | (go_at_call 19; (with_reducible refine (HTAKE.out w1 HS1.out).mono ?_); rintro e w2 ⟨rfl, hs2, hk2⟩; have HS2 := Lib.hid hs2; have HK2 := Lib.hid (HK1.out.trans hk2); clear hs2 hk2))
        go_wp2
        go_loopw [7, 11] (fun vl i wr => ∃ (j m2 c : Nat) (A : Option Addr), j ≤ tm ∧ i = .int .i64 (j : Nat) ∧ vl = .slice A m2 c ∧ Hid (m2 = m' + 1 + j) ∧ m2 ≤ 1000 ∧ Own wr wb.heap.size tI A m2 c (vn cur ++ List.replicate j (.int .i64 ((v : Nat) : Int))) ∧ StAt w0 g U T p2 out wr ∧ KeepX wb wr) (fun _ i _ => tm - (intOf i).toNat)
        case atStart => exact ⟨0, m' + 1, c, _, Nat.zero_le _, rfl, rfl, rfl, by omega, by simpa using own_keepx HO.out HK2.out, HS2.out, HKX.out.trans HK2.out⟩
        case round =>
          rename World => w5
          obtain ⟨j, m2, c2, A2, hj, rfl, rfl, hm2, hmb, hown2, hst2, hkx2⟩ := hrel
          have HM2 := Lib.hid hm2.out
          have HO2 := Lib.hid hown2
          have HST2 := Lib.hid hst2
          have HKX2 := Lib.hid hkx2
          have hsz := hkx2.1
          have hsz0 := HF1.out.size
          clear hown2 hst2 hkx2 hm2
          by_cases hlt2 : j < tm
          · have p1 : (j : Int) < (tm : Int) := by omega
            go_wp2_with ((with_reducible refine at_slot_ 67 ?_); go_loud (refine wpList_append_rd _ rfl (.tmp 64) (.tmp 66) 44 rfl wb.heap.size tI i0 _ 8 Tryz.underlying44 hi0 hz0 hz1 hz2 rfl A2 m2 c2 _ rfl (Own.fresh HO2.out (Fresh.alloc _ _)) (w5.heap.size + 1) (some ⟨w5.heap.size, 0, none⟩) 1 1 [.int .i64 (v : Nat)] rfl (Rd.lit w5 #[.int .i64 (v : Nat)] tI) (one_one _ _) (by unfold maxLen; omega) (by omega) (by simp; omega) ?_); intro A3 c3 w3 hown3 hg3; go_loud (have hst3 := (HST2.out.fresh (Fresh.alloc _ _)).row (Own.fresh HO2.out (Fresh.alloc _ _)) hgb hg3); go_loud (have hkx3 := (HKX2.out.trans (KeepX.fresh (Fresh.alloc _ _))).row (Own.fresh HO2.out (Fresh.alloc _ _)) (Nat.le_refl _) hg3); have HO3 := Lib.hid hown3; have HST3 := Lib.hid hst3; have HKX3 := Lib.hid hkx3; clear hown3 hg3 hst3 hkx3)
            have ho3 := HO3.out
            rw [vn_more] at ho3
            have HO4 := Lib.hid ho3
            clear ho3
            go_roundw
            case rel => exact ⟨j + 1, m2 + 1, c3, A3, by omega, by go_num, rfl, show _ = _ by have h1 := HM2.out; omega, by have h1 := HM2.out; have h2 := HLE.out; omega, HO4.out, HST3.out, HKX3.out⟩
            case measure => simp [intOf]; omega
          · have hjt : j = tm := by omega
            have ho2 := HO2.out
            rw [vn_all, hjt] at ho2
            have HO4 := Lib.hid ho2
            have hl4 : (cur ++ List.replicate (tm) v).length = m2 := by have h1 := HM2.out; rw [List.length_append, List.length_replicate, HCM.out]; omega
            have HL4 := Lib.hid hl4
            have hm4 : m2 ≤ n := by have h1 := HM2.out; have h2 := HLE.out; omega
            have HM4 := Lib.hid hm4
            have hmm : m' + 1 < m2 := by have h1 := HM2.out; have h2 := HLM.out; omega
            have HMM := Lib.hid hmm
            clear ho2 hl4 hjt hm4 hmm
            go_wp2
            go_roundw
            case rel => exact ⟨f', p2, m2, c2, A2, _, rfl, HM4.out, HL4.out, HO4.out, HST2.out, HKX2.out, HRN.out⟩
            case measure => show n - m2 < n - (m' + 1); have h1 := HMM.out; have h2 := HM4.out; omega
      | few t p2 hk ht hr =>
        subst hk
        have hle := hmle _ _ hr
        rw [List.length_append, List.length_replicate, HCM.out] at hle
        have htk : ∀ V, StAt w0 g U T p1 out V → Calls Tryz.prog 19 #[pg g, .int .i64 3] V fun e w' => e = .returned (.int .i64 (t : Nat)) ∧ StAt w0 g U T p2 out w' ∧ KeepX V w' := fun V hV => take_any w0 g U T p1 3 t p2 out V hV (by omega) hT ht
        have HTAKE := Lib.hid htk
        obtain ⟨tm, htm⟩ : ∃ tm, 3 + t = tm := ⟨_, rfl⟩
        rw [htm] at hr hle
        have HLE := Lib.hid hle
        have hlm : 1 ≤ tm := by omega
        have HLM := Lib.hid hlm
        have HRN := Lib.hid hr
        have ew : IntKind.i64.wrap (3 + (t : Int)) = (tm : Int) := by rw [IntWalk.i64_in _ (by omega)]; omega
        clear htk htm ht hr hmle
        go_upto_region 20 with (first
          | ((with_reducible refine at_slot_ 24 ?_); refine wpList_load_blk rfl tCodes (.tmp 4) rfl w.heap.size 0 2 tCodes [.slice (some ⟨L, 0, none⟩) N N, .int .i64 (F : Nat)] rfl HBX.out (by simp) _ Tryz.underlying91 rfl (by kernel_rfl) ?_)
          | (go_at_call 43; (with_reducible refine HNX.out.mono ?_); rintro e w1 ⟨rfl, hs1, hk1⟩; have k31 := hs1.e0; have HS1 := Lib.hid hs1; have HK1 := Lib.hid hk1; clear hs1 hk1)
          | (go_at_call 19; (with_reducible refine (HTAKE.out w1 HS1.out).mono ?_); rintro e w2 ⟨rfl, hs2, hk2⟩; have HS2 := Lib.hid hs2; have HK2 := Lib.hid (HK1.out.trans hk2); clear hs2 hk2))
        go_wp2
        go_loopw [7, 11] (fun vl i wr => ∃ (j m2 c : Nat) (A : Option Addr), j ≤ tm ∧ i = .int .i64 (j : Nat) ∧ vl = .slice A m2 c ∧ Hid (m2 = m + j) ∧ m2 ≤ 1000 ∧ Own wr wb.heap.size tI A m2 c (vn cur ++ List.replicate j (.int .i64 0)) ∧ StAt w0 g U T p2 out wr ∧ KeepX wb wr) (fun _ i _ => tm - (intOf i).toNat)
        case atStart => exact ⟨0, m, c, A, Nat.zero_le _, rfl, rfl, rfl, by omega, by simpa using own_keepx HO.out HK2.out, HS2.out, HKX.out.trans HK2.out⟩
        case round =>
          rename World => w5
          obtain ⟨j, m2, c2, A2, hj, rfl, rfl, hm2, hmb, hown2, hst2, hkx2⟩ := hrel
          have HM2 := Lib.hid hm2.out
          have HO2 := Lib.hid hown2
          have HST2 := Lib.hid hst2
          have HKX2 := Lib.hid hkx2
          have hsz := hkx2.1
          have hsz0 := HF1.out.size
          clear hown2 hst2 hkx2 hm2
          by_cases hlt2 : j < tm
          · have p1 : (j : Int) < (tm : Int) := by omega
            go_wp2_with ((with_reducible refine at_slot_ 67 ?_); go_loud (refine wpList_append_rd _ rfl (.tmp 64) (.tmp 66) 44 rfl wb.heap.size tI i0 _ 8 Tryz.underlying44 hi0 hz0 hz1 hz2 rfl A2 m2 c2 _ rfl (Own.fresh HO2.out (Fresh.alloc _ _)) (w5.heap.size + 1) (some ⟨w5.heap.size, 0, none⟩) 1 1 [.int .i64 0] rfl (Rd.lit w5 #[.int .i64 0] tI) (one_one _ _) (by unfold maxLen; omega) (by omega) (by simp; omega) ?_); intro A3 c3 w3 hown3 hg3; go_loud (have hst3 := (HST2.out.fresh (Fresh.alloc _ _)).row (Own.fresh HO2.out (Fresh.alloc _ _)) hgb hg3); go_loud (have hkx3 := (HKX2.out.trans (KeepX.fresh (Fresh.alloc _ _))).row (Own.fresh HO2.out (Fresh.alloc _ _)) (Nat.le_refl _) hg3); have HO3 := Lib.hid hown3; have HST3 := Lib.hid hst3; have HKX3 := Lib.hid hkx3; clear hown3 hg3 hst3 hkx3)
            have ho3 := HO3.out
            rw [vn_moreX] at ho3
            have HO4 := Lib.hid ho3
            clear ho3
            go_roundw
            case rel => exact ⟨j + 1, m2 + 1, c3, A3, by omega, by go_num, rfl, show _ = _ by have h1 := HM2.out; omega, by have h1 := HM2.out; have h2 := HLE.out; omega, HO4.out, HST3.out, HKX3.out⟩
            case measure => simp [intOf]; omega
          · have hjt : j = tm := by omega
            have ho2 := HO2.out
            rw [vn_allX cur _ 0 (.int .i64 0) rfl, hjt] at ho2
            have HO4 := Lib.hid ho2
            have hl4 : (cur ++ List.replicate (tm) 0).length = m2 := by have h1 := HM2.out; rw [List.length_append, List.length_replicate, HCM.out]; omega
            have HL4 := Lib.hid hl4
            have hm4 : m2 ≤ n := by have h1 := HM2.out; have h2 := HLE.out; omega
            have HM4 := Lib.hid hm4
            have hmm : m < m2 := by have h1 := HM2.out; have h2 := HLM.out; omega
            have HMM := Lib.hid hmm
            clear ho2 hl4 hjt hm4 hmm
            go_wp2
            go_roundw
            case rel => exact ⟨f', p2, m2, c2, A2, _, rfl, HM4.out, HL4.out, HO4.out, HST2.out, HKX2.out, HRN.out⟩
            case measure => show n - m2 < n - m; have h1 := HMM.out; have h2 := HM4.out; omega
      | many t p2 hk ht hr =>
        subst hk
        have hle := hmle _ _ hr
        rw [List.length_append, List.length_replicate, HCM.out] at hle
        have htk : ∀ V, StAt w0 g U T p1 out V → Calls Tryz.prog 19 #[pg g, .int .i64 7] V fun e w' => e = .returned (.int .i64 (t : Nat)) ∧ StAt w0 g U T p2 out w' ∧ KeepX V w' := fun V hV => take_any w0 g U T p1 7 t p2 out V hV (by omega) hT ht
        have HTAKE := Lib.hid htk
        obtain ⟨tm, htm⟩ : ∃ tm, 11 + t = tm := ⟨_, rfl⟩
        rw [htm] at hr hle
        have HLE := Lib.hid hle
        have hlm : 1 ≤ tm := by omega
        have HLM := Lib.hid hlm
        have HRN := Lib.hid hr
        have ew : IntKind.i64.wrap (11 + (t : Int)) = (tm : Int) := by rw [IntWalk.i64_in _ (by omega)]; omega
        clear htk htm ht hr hmle
        go_upto_region 20 with (first
          | ((with_reducible refine at_slot_ 24 ?_); refine wpList_load_blk rfl tCodes (.tmp 4) rfl w.heap.size 0 2 tCodes [.slice (some ⟨L, 0, none⟩) N N, .int .i64 (F : Nat)] rfl HBX.out (by simp) _ Tryz.underlying91 rfl (by kernel_rfl) ?_)
          | (go_at_call 43; (with_reducible refine HNX.out.mono ?_); rintro e w1 ⟨rfl, hs1, hk1⟩; have k31 := hs1.e0; have HS1 := Lib.hid hs1; have HK1 := Lib.hid hk1; clear hs1 hk1)
          | (go_at_call 19; (with_reducible refine (HTAKE.out w1 HS1.out).mono ?_); rintro e w2 ⟨rfl, hs2, hk2⟩; have HS2 := Lib.hid hs2; have HK2 := Lib.hid (HK1.out.trans hk2); clear hs2 hk2))
        go_wp2
        go_loopw [7, 11] (fun vl i wr => ∃ (j m2 c : Nat) (A : Option Addr), j ≤ tm ∧ i = .int .i64 (j : Nat) ∧ vl = .slice A m2 c ∧ Hid (m2 = m + j) ∧ m2 ≤ 1000 ∧ Own wr wb.heap.size tI A m2 c (vn cur ++ List.replicate j (.int .i64 0)) ∧ StAt w0 g U T p2 out wr ∧ KeepX wb wr) (fun _ i _ => tm - (intOf i).toNat)
        case atStart => exact ⟨0, m, c, A, Nat.zero_le _, rfl, rfl, rfl, by omega, by simpa using own_keepx HO.out HK2.out, HS2.out, HKX.out.trans HK2.out⟩
        case round =>
          rename World => w5
          obtain ⟨j, m2, c2, A2, hj, rfl, rfl, hm2, hmb, hown2, hst2, hkx2⟩ := hrel
          have HM2 := Lib.hid hm2.out
          have HO2 := Lib.hid hown2
          have HST2 := Lib.hid hst2
          have HKX2 := Lib.hid hkx2
          have hsz := hkx2.1
          have hsz0 := HF1.out.size
          clear hown2 hst2 hkx2 hm2
          by_cases hlt2 : j < tm
          · have p1 : (j : Int) < (tm : Int) := by omega
            go_wp2_with ((with_reducible refine at_slot_ 67 ?_); go_loud (refine wpList_append_rd _ rfl (.tmp 64) (.tmp 66) 44 rfl wb.heap.size tI i0 _ 8 Tryz.underlying44 hi0 hz0 hz1 hz2 rfl A2 m2 c2 _ rfl (Own.fresh HO2.out (Fresh.alloc _ _)) (w5.heap.size + 1) (some ⟨w5.heap.size, 0, none⟩) 1 1 [.int .i64 0] rfl (Rd.lit w5 #[.int .i64 0] tI) (one_one _ _) (by unfold maxLen; omega) (by omega) (by simp; omega) ?_); intro A3 c3 w3 hown3 hg3; go_loud (have hst3 := (HST2.out.fresh (Fresh.alloc _ _)).row (Own.fresh HO2.out (Fresh.alloc _ _)) hgb hg3); go_loud (have hkx3 := (HKX2.out.trans (KeepX.fresh (Fresh.alloc _ _))).row (Own.fresh HO2.out (Fresh.alloc _ _)) (Nat.le_refl _) hg3); have HO3 := Lib.hid hown3; have HST3 := Lib.hid hst3; have HKX3 := Lib.hid hkx3; clear hown3 hg3 hst3 hkx3)
            have ho3 := HO3.out
            rw [vn_moreX] at ho3
            have HO4 := Lib.hid ho3
            clear ho3
            go_roundw
            case rel => exact ⟨j + 1, m2 + 1, c3, A3, by omega, by go_num, rfl, show _ = _ by have h1 := HM2.out; omega, by have h1 := HM2.out; have h2 := HLE.out; omega, HO4.out, HST3.out, HKX3.out⟩
            case measure => simp [intOf]; omega
          · have hjt : j = tm := by omega
            have ho2 := HO2.out
            rw [vn_allX cur _ 0 (.int .i64 0) rfl, hjt] at ho2
            have HO4 := Lib.hid ho2
            have hl4 : (cur ++ List.replicate (tm) 0).length = m2 := by have h1 := HM2.out; rw [List.length_append, List.length_replicate, HCM.out]; omega
            have HL4 := Lib.hid hl4
            have hm4 : m2 ≤ n := by have h1 := HM2.out; have h2 := HLE.out; omega
            have HM4 := Lib.hid hm4
            have hmm : m < m2 := by have h1 := HM2.out; have h2 := HLM.out; omega
            have HMM := Lib.hid hmm
            clear ho2 hl4 hjt hm4 hmm
            go_wp2
            go_roundw
            case rel => exact ⟨f', p2, m2, c2, A2, _, rfl, HM4.out, HL4.out, HO4.out, HST2.out, HKX2.out, HRN.out⟩
            case measure => show n - m2 < n - m; have h1 := HMM.out; have h2 := HM4.out; omega
      | one h16 h17 h18 hr =>
        have hle := hmle _ _ hr
        rw [List.length_append, List.length_singleton, HCM.out] at hle
        have HLE := Lib.hid hle
        have HLM := Lib.hid (Nat.le_refl 1)
        have HRN := Lib.hid hr
        have e16 : ((k : Int) == 16) = false := by rw [beq_eq_false_iff_ne]; omega
        have e17 : ((k : Int) == 17) = false := by rw [beq_eq_false_iff_ne]; omega
        have e18 : ((k : Int) == 18) = false := by rw [beq_eq_false_iff_ne]; omega
        clear hr hmle h16 h17 h18
        go_upto_region 20 with (first
          | ((with_reducible refine at_slot_ 24 ?_); refine wpList_load_blk rfl tCodes (.tmp 4) rfl w.heap.size 0 2 tCodes [.slice (some ⟨L, 0, none⟩) N N, .int .i64 (F : Nat)] rfl HBX.out (by simp) _ Tryz.underlying91 rfl (by kernel_rfl) ?_)
          | (go_at_call 43; (with_reducible refine HNX.out.mono ?_); rintro e w1 ⟨rfl, hs1, hk1⟩; have k31 := hs1.e0; have HS1 := Lib.hid hs1; have HK1 := Lib.hid hk1; clear hs1 hk1))
        go_wp2
        go_loopw [7, 11] (fun vl i wr => ∃ (j m2 c : Nat) (A : Option Addr), j ≤ 1 ∧ i = .int .i64 (j : Nat) ∧ vl = .slice A m2 c ∧ Hid (m2 = m + j) ∧ m2 ≤ 1000 ∧ Own wr wb.heap.size tI A m2 c (vn cur ++ List.replicate j (.int .i64 (k : Nat))) ∧ StAt w0 g U T p1 out wr ∧ KeepX wb wr) (fun _ i _ => 1 - (intOf i).toNat)
        case atStart => exact ⟨0, m, c, A, Nat.zero_le _, rfl, rfl, rfl, by omega, by simpa using own_keepx HO.out HK1.out, HS1.out, HKX.out.trans HK1.out⟩
        case round =>
          rename World => w5
          obtain ⟨j, m2, c2, A2, hj, rfl, rfl, hm2, hmb, hown2, hst2, hkx2⟩ := hrel
          have HM2 := Lib.hid hm2.out
          have HO2 := Lib.hid hown2
          have HST2 := Lib.hid hst2
          have HKX2 := Lib.hid hkx2
          have hsz := hkx2.1
          have hsz0 := HF1.out.size
          clear hown2 hst2 hkx2 hm2
          by_cases hlt2 : j < 1
          · have p1 : (j : Int) < 1 := by omega
            go_wp2_with ((with_reducible refine at_slot_ 67 ?_); go_loud (refine wpList_append_rd _ rfl (.tmp 64) (.tmp 66) 44 rfl wb.heap.size tI i0 _ 8 Tryz.underlying44 hi0 hz0 hz1 hz2 rfl A2 m2 c2 _ rfl (Own.fresh HO2.out (Fresh.alloc _ _)) (w5.heap.size + 1) (some ⟨w5.heap.size, 0, none⟩) 1 1 [.int .i64 (k : Nat)] rfl (Rd.lit w5 #[.int .i64 (k : Nat)] tI) (one_one _ _) (by unfold maxLen; omega) (by omega) (by simp; omega) ?_); intro A3 c3 w3 hown3 hg3; go_loud (have hst3 := (HST2.out.fresh (Fresh.alloc _ _)).row (Own.fresh HO2.out (Fresh.alloc _ _)) hgb hg3); go_loud (have hkx3 := (HKX2.out.trans (KeepX.fresh (Fresh.alloc _ _))).row (Own.fresh HO2.out (Fresh.alloc _ _)) (Nat.le_refl _) hg3); have HO3 := Lib.hid hown3; have HST3 := Lib.hid hst3; have HKX3 := Lib.hid hkx3; clear hown3 hg3 hst3 hkx3)
            have ho3 := HO3.out
            rw [vn_moreX] at ho3
            have HO4 := Lib.hid ho3
            clear ho3
            go_roundw
            case rel => exact ⟨j + 1, m2 + 1, c3, A3, by omega, by go_num, rfl, show _ = _ by have h1 := HM2.out; omega, by have h1 := HM2.out; have h2 := HLE.out; omega, HO4.out, HST3.out, HKX3.out⟩
            case measure => simp [intOf]; omega
          · have hjt : j = 1 := by omega
            have ho2 := HO2.out
            rw [vn_allX cur _ k (.int .i64 (k : Nat)) rfl, hjt] at ho2
            have HO4 := Lib.hid ho2
            have hl4 : (cur ++ List.replicate (1) k).length = m2 := by have h1 := HM2.out; rw [List.length_append, List.length_replicate, HCM.out]; omega
            have HL4 := Lib.hid hl4
            have hm4 : m2 ≤ n := by have h1 := HM2.out; have h2 := HLE.out; omega
            have HM4 := Lib.hid hm4
            have hmm : m < m2 := by have h1 := HM2.out; have h2 := HLM.out; omega
            have HMM := Lib.hid hmm
            clear ho2 hl4 hjt hm4 hmm
            go_wp2
            go_roundw
            case rel => exact ⟨f', p1, m2, c2, A2, _, rfl, HM4.out, HL4.out, HO4.out, HST2.out, HKX2.out, HRN.out⟩
            case measure => show n - m2 < n - m; have h1 := HMM.out; have h2 := HM4.out; omega
end Go.Proofs.YtfpicifjjedlaaaGreatDoor.refp
/-
  Layer 6's reference: a byte more; stored. My own text.
-/
namespace Go.Proofs.YtfpicifjjedlaaaGreatDoor.refp
open Go.RowKit Go.Proofs.YtfpicifjjedlaaaGreatDoor.base Go.Proofs.YtfpicifjjedlaaaGreatDoor.num Go.Proofs.YtfpicifjjedlaaaGreatDoor.bitnum Go.Proofs.YtfpicifjjedlaaaGreatDoor.bitp Go.Proofs.YtfpicifjjedlaaaGreatDoor.huffnum Go.Proofs.YtfpicifjjedlaaaGreatDoor.infnum
set_option linter.unusedVariables false
/-- bytes as they stand -/
def raws : Nat → List UInt8 → Part (List UInt8)
  | 0, o => give o
  | n + 1, o => also (take 8) fun v => raws n (o ++ [UInt8.ofNat v])
theorem raws_len : ∀ (n : Nat) (o a : List UInt8) (U T p q : Nat), raws n o U T p = .ok (a, q) → a.length = o.length + n
  | 0, o, a, U, T, p, q, h => by
    injection h with h
    injection h with h1 _
    subst h1; rfl
  | n + 1, o, a, U, T, p, q, h => by
    obtain ⟨v, p1, _, h2⟩ := also_ok h
    have := raws_len n _ a U T p1 q h2
    rw [this, List.length_append, List.length_singleton]
    omega
section
variable {w0 W w3 : World} {g U T p m c' : Nat} {out : List UInt8} {O' : Option Addr} {x : UInt8}
/-- the row of what came out, as the state holds it -/
theorem StAt.got (h : StAt w0 g U T p out W) : ∃ O cO, W.cell? ⟨g, 2, none⟩ = some (.slice O out.length cO) ∧ Own W w0.heap.size tB O out.length cO (out.map bv) ∧
    ∀ W1 w3 O' c' x, Fresh W W1 → Own w3 w0.heap.size tB O' (out.length + 1) c' (out.map bv ++ [bv x]) → W1.grownBy w3 (Value.slice O out.length cO).ownBlock →
      w3.cell? ⟨g, 2, none⟩ = some (.slice O out.length cO) ∧ w3.frozen? ⟨g, 2, none⟩ = false ∧ StAt w0 g U T p (out ++ [x]) (w3.setCell ⟨g, 2, none⟩ (.slice O' (out.length + 1) c')) ∧ KeepX W (w3.setCell ⟨g, 2, none⟩ (.slice O' (out.length + 1) c')) := by
  obtain ⟨A, cA, m, O, cO, rfl, h2, h3, h4, h5, h6⟩ := h.ex
  refine ⟨O, cO, h2.cell (i := 2) rfl, h6, fun W1 w3 O' c' x hf1 ho hg => ?_⟩
  replace h3 := h3.fresh hf1 (Nat.le_of_lt h2.inside)
  replace h2 := h2.fresh hf1
  replace h6 := h6.fresh hf1
  have hfr := h.fr.trans hf1
  refine (fun (z : _ ∧ _ ∧ _ ∧ KeepX W1 _) => ⟨z.1, z.2.1, z.2.2.1, (KeepX.fresh hf1).trans z.2.2.2⟩) ?_
  have h23 := h2.grown hg (h6.ne_block h2 (by decide))
  have hb := But.put (g := g) (i := 2) w3 (.slice O' (out.length + 1) c')
  have hbits : BitsAt w3 g A T U := by
    refine ⟨h3.1.keep (KeepT.own1 hg h6 (by decide)), ?_⟩
    have hk := h3.1.keep (KeepT.own1 hg h6 (by decide))
    refine ⟨h3.2.1, fun h0 => ?_⟩
    obtain ⟨b, off, e1, hlt, hc⟩ := h3.2.2 h0
    refine ⟨b, off, e1, hlt, fun j u hu => ?_⟩
    obtain ⟨b', off', e2, hc'⟩ := hk.cell hu
    rw [e1] at e2
    injection e2 with e2
    injection e2 with e3 e4 _
    subst e3; subst e4
    exact hc'
  refine ⟨h23.cell (i := 2) rfl, h23.free 2, ⟨⟨A, cA, out.length + 1, O', c', by rw [List.length_append]; rfl, h23.put 2 _, hbits.but hb (Nat.le_of_lt h23.inside), h4, h5, ?_⟩, h.lo, Fresh.but (Fresh.append hfr h6 (Nat.le_refl _) hg) h.lo hb⟩, ?_⟩
  · rw [List.map_append]
    exact ho.but hb (ho.ne_block h23 (by decide))
  · exact KeepX.trans ⟨hg.size, fun t h1 hb2 => KeepT.own1 hg h6 (fun e => hb2 e.symm)⟩ (KeepX.but hb h23)
end
set_option maxHeartbeats 8000000 in
set_option maxRecDepth 100000 in
theorem stored_any (w0 : World) (g U T p n t p1 p2 q most : Nat) (out a : List UInt8) (w : World) (hs : StAt w0 g U T p out w) (hT : T ≤ 4294967296) (hp : p ≤ T) (h1 : take 16 U T ((p + 7) / 8 * 8) = .ok (n, p1)) (h2 : take 16 U T p1 = .ok (t, p2)) (hnt : n + t = 65535) (hr : raws n out U T p2 = .ok (a, q)) (hm : a.length ≤ most) (hmm : most ≤ 4294967296) :
    Calls Tryz.prog 20 #[pg g, .int .i64 (most : Nat)] w fun e w' => e = .returned (.tuple #[]) ∧ StAt w0 g U T q a w' ∧ KeepX w w' := by
  obtain ⟨i0, hi0, hz0, hz1, hz2⟩ := info_parts info_byte
  obtain ⟨c1, _, cf, _⟩ := hs.cells
  have f1 := cf 1
  obtain ⟨P, hP⟩ : ∃ P, (p + 7) / 8 * 8 = P := ⟨_, rfl⟩
  rw [hP] at h1
  have hsa := hs.at_ P
  have ea : IntKind.i64.wrap ((p : Int) + 7) = (p : Int) + 7 := by rw [IntWalk.i64_in _ (by omega)]
  have eb : IntKind.i64.wrap (((p : Int) + 7) / 8) = ((p : Int) + 7) / 8 := by rw [IntWalk.i64_in _ (by omega)]
  have ec : IntKind.i64.wrap (((p : Int) + 7) / 8 * 8) = (P : Int) := by rw [IntWalk.i64_in _ (by omega)]; omega
  have ed : ((p : Int) + 7) / 8 * 8 = (P : Int) := by omega
  have et : IntKind.i64.wrap ((n : Int) + (t : Int)) = 65535 := by rw [IntWalk.i64_in _ (by omega)]; omega
  have et2 : (n : Int) + (t : Int) = 65535 := by omega
  have HSA := Lib.hid hsa
  have hk1 : ∀ V, StAt w0 g U T P out V → Calls Tryz.prog 19 #[pg g, .int .i64 16] V fun e w' => e = .returned (.int .i64 (n : Nat)) ∧ StAt w0 g U T p1 out w' ∧ KeepX V w' := fun V hV => take_any w0 g U T P 16 n p1 out V hV (by omega) hT h1
  have hk2 : ∀ V, StAt w0 g U T p1 out V → Calls Tryz.prog 19 #[pg g, .int .i64 16] V fun e w' => e = .returned (.int .i64 (t : Nat)) ∧ StAt w0 g U T p2 out w' ∧ KeepX V w' := fun V hV => take_any w0 g U T p1 16 t p2 out V hV (by omega) hT h2
  have HK1 := Lib.hid hk1
  have HK2 := Lib.hid hk2
  have HR := Lib.hid hr
  have HM := Lib.hid hm
  have HAL := Lib.hid (raws_len n out a U T p2 q hr)
  have hn6 : n ≤ 65535 := by omega
  clear hs hsa hk1 hk2 h1 h2 hr hm hP cf
  go_enter Tryz.func20, Tryz.ntmps20
  go_upto_region 1 with (fail)
  first | rw [ed] | skip
  generalize w.setCell ⟨g, 1, none⟩ (.int .i64 (P : Int)) = wa at *
  clear c1 f1
  go_upto_region 3 with (first
    | (go_at_call 19; (with_reducible refine (HK1.out wa HSA.out.1).mono ?_); rintro e w1 ⟨rfl, hs1, hx1⟩; have HS1 := Lib.hid hs1; have HX1 := Lib.hid (HSA.out.2.trans hx1); clear hs1 hx1)
    | (go_at_call 19; (with_reducible refine (HK2.out w1 HS1.out).mono ?_); rintro e w2 ⟨rfl, hs2, hx2⟩; have k32 := hs2.e0; have HS2 := Lib.hid hs2; have HX2 := Lib.hid (HX1.out.trans hx2); clear hs2 hx2))
  go_wp2
  go_loopw [6] (fun i wr => ∃ (j p : Nat) (cur : List UInt8), i = .int .i64 (j : Nat) ∧ j ≤ n ∧ StAt w0 g U T p cur wr ∧ KeepX w wr ∧ Hid (cur.length = out.length + j) ∧ Hid (raws (n - j) cur U T p = .ok (a, q))) (fun i _ => n - (intOf i).toNat)
  case atStart => exact ⟨0, p2, out, rfl, Nat.zero_le _, HS2.out, HX2.out, rfl, HR⟩
  case round =>
    obtain ⟨j, p, cur, rfl, hj, hst, hkx, hlen, hrw⟩ := hrel
    have k3 := hst.e0
    obtain ⟨O, cO, k2, hown, hgot⟩ := hst.got
    have hcl : cur.length ≤ most := by have h1 := hlen.out; have h2 := HAL.out; have h3 := HM.out; omega
    have hcl2 : decide ((cur.length : Int) ≤ (most : Int)) = true := by rw [decide_eq_true_iff]; omega
    by_cases hlt : j < n
    · obtain ⟨d, hd⟩ : ∃ d, n - j = d + 1 := ⟨n - j - 1, by omega⟩
      have hrw2 := hrw.out
      rw [hd] at hrw2
      obtain ⟨v, pv, htk, hnext⟩ := also_ok hrw2
      have hv : v < 256 := by
        obtain ⟨_, rfl, _⟩ := take_of htk
        exact Nat.mod_lt _ (by omega)
      have hnj : n - (j + 1) = d := by omega
      rw [← hnj] at hnext
      have hk8 : Calls Tryz.prog 19 #[pg g, .int .i64 8] wr fun e w' => e = .returned (.int .i64 (v : Nat)) ∧ StAt w0 g U T pv cur w' ∧ KeepX wr w' := take_any w0 g U T p 8 v pv cur wr hst (by omega) hT htk
      have HK8 := Lib.hid hk8
      have HNX := Lib.hid hnext
      have HKX := Lib.hid hkx
      have p0 : (j : Int) < (n : Int) := by omega
      have hbx : bv (UInt8.ofNat v) = .int .u8 (v : Nat) := by
        show Value.int .u8 (((UInt8.ofNat v).toNat : Nat) : Int) = _
        rw [UInt8.toNat_ofNat_of_lt' (by show v < 256; exact hv)]
      have HBX := Lib.hid hbx
      have ew : IntKind.u8.wrap (v : Int) = (v : Int) := by
        simp [IntKind.wrap, IntKind.signed, IntKind.bits]
        omega
      clear hnext htk hrw2 hkx hst hgot hown hbx hrw
      go_upto_region 9 with (go_at_call 19; (with_reducible refine HK8.out.mono ?_); rintro e w5 ⟨rfl, hs5, hx5⟩; have HS5 := Lib.hid hs5; have HX5 := Lib.hid (HKX.out.trans hx5); clear hs5 hx5)
      have k35 := HS5.out.e0
      obtain ⟨O5, cO5, k25, hown5, hgot5⟩ := HS5.out.got
      obtain ⟨m5, hm5⟩ : ∃ m5, cur.length = m5 := ⟨_, rfl⟩
      rw [hm5] at k25 hown5 hgot5
      have HM5 := Lib.hid hm5
      have HO5 := Lib.hid hown5
      have HG5 := Lib.hid hgot5
      have hm6 : m5 ≤ 4294967296 := by have h1 := hcl; omega
      have hgl := HS5.out.inside
      have hfr5 := HS5.out.fr.size
      clear hown5 hgot5 hm5 hcl hcl2 k2 k3
      go_wp2_with ((with_reducible refine at_slot_ 71 ?_); refine wpList_append_rd _ rfl (.tmp 67) (.tmp 70) 22 rfl w0.heap.size tB i0 _ 1 Tryz.underlying22 hi0 hz0 hz1 hz2 rfl O5 m5 cO5 _ rfl (Own.fresh HO5.out (Fresh.alloc _ _)) (w5.heap.size + 1) (some ⟨w5.heap.size, 0, none⟩) 1 1 [.int .u8 (v : Nat)] rfl (Rd.lit w5 #[.int .u8 (v : Nat)] tB) (one_one _ _) (by unfold maxLen; omega) (by omega) (by simp; omega) ?_; intro A6 c6 w6 hown6 hg6; rw [← HBX.out] at hown6; obtain ⟨z1, z2, z3, z4⟩ := HG5.out _ w6 A6 c6 (UInt8.ofNat v) (Fresh.alloc _ _) hown6 hg6; have HZ3 := Lib.hid z3; have HZ4 := Lib.hid (HX5.out.trans z4); clear hown6 hg6 z3 z4)
      go_roundw
      case rel => exact ⟨j + 1, pv, cur ++ [UInt8.ofNat v], by go_num, by omega, HZ3.out, HZ4.out, show _ = _ by have h1 := hlen.out; rw [List.length_append, List.length_singleton]; omega, HNX⟩
      case measure => simp [intOf]; omega
    · have hjn : j = n := by omega
      have hrw2 := hrw.out
      rw [hjn, Nat.sub_self] at hrw2
      simp only [raws, give, Except.ok.injEq, Prod.mk.injEq] at hrw2
      obtain ⟨e1, e2⟩ := hrw2
      have HST := Lib.hid (show StAt w0 g U T q a wr from by rw [← e1, ← e2]; exact hst)
      have HKX := Lib.hid hkx
      have p0 : decide ((j : Int) < (n : Int)) = false := by rw [decide_eq_false_iff_not]; omega
      clear hrw e1 e2 hst hkx hgot hown
      go_wp2
      go_end0
      exact ⟨rfl, HST.out, HKX.out⟩
end Go.Proofs.YtfpicifjjedlaaaGreatDoor.refp
/-
  The way through a packed row, block by block: plain mathematics for the reference's loops. My own text.
-/
namespace Go.Proofs.YtfpicifjjedlaaaGreatDoor.refp
open Go.Proofs.YtfpicifjjedlaaaGreatDoor.num Go.Proofs.YtfpicifjjedlaaaGreatDoor.bitnum Go.Proofs.YtfpicifjjedlaaaGreatDoor.huffnum Go.Proofs.YtfpicifjjedlaaaGreatDoor.infnum
set_option linter.unusedVariables false
theorem give_ok {α : Type} {a b : α} {U T p q : Nat} (h : give a U T p = .ok (b, q)) : b = a ∧ q = p := by
  simp only [give, Except.ok.injEq, Prod.mk.injEq] at h
  exact ⟨h.1.symm, h.2.symm⟩
/-- the symbols of a block, up to its end -/
inductive Sy (a b : List Nat) (U T : Nat) : List UInt8 → Nat → List UInt8 → Nat → Prop where
  | fin {o : List UInt8} {p q : Nat} (h : sym a U T p = .ok (256, q)) : Sy a b U T o p o q
  | lit {o o' : List UInt8} {k p p1 q : Nat} (h : sym a U T p = .ok (k, p1)) (hk : k < 256) (r : Sy a b U T (o ++ [UInt8.ofNat k]) p1 o' q) : Sy a b U T o p o' q
  | copy {o o' : List UInt8} {k e d x p p1 p2 p3 p4 q : Nat} (h : sym a U T p = .ok (k, p1)) (h1 : 256 < k) (h2 : k ≤ 285) (he : take (longMore.getD (k - 257) 0) U T p1 = .ok (e, p2)) (hd : sym b U T p2 = .ok (d, p3)) (h3 : d ≤ 29)
      (hx : take (farMore d) U T p3 = .ok (x, p4)) (h4 : farBase.getD d 0 + x ≤ o.length) (h5 : farBase.getD d 0 + x ≤ 32768) (r : Sy a b U T (copied (farBase.getD d 0 + x) (longBase.getD (k - 257) 0 + e) o) p4 o' q) : Sy a b U T o p o' q
/-- from within symbols on to the block's end -/
theorem steps_sy {U T : Nat} {y : At × Nat} {s : At} {q : Nat} (hy : y = (s, q)) (hf : infnum.Fin s) : ∀ {x : At × Nat}, infnum.Steps U T x y → ∀ {a b : List Nat} {last : Bool} {o : List UInt8} {p : Nat}, x = (⟨.sy a b, last, o⟩, p) → ∃ o' p', Sy a b U T o p o' p' ∧ infnum.Steps U T (⟨.head, last, o'⟩, p') (s, q) := by
  intro x hst
  induction hst with
  | refl x =>
    intro a b last o p hx
    rw [hx] at hy
    injection hy with h1 h2
    rw [← h1] at hf
    exact absurd hf.1 (by intro h; cases h)
  | more h r ih =>
    intro a b last o p hx
    injection hx with hx1 hx2
    subst hx1; subst hx2
    unfold one at h
    simp only at h
    obtain ⟨k, p1, hs, hh⟩ := also_ok h
    split at hh
    · rename_i hk
      obtain ⟨rfl, rfl⟩ := give_ok hh
      obtain ⟨o', p', h1, h2⟩ := ih hy rfl
      exact ⟨o', p', .lit hs hk h1, h2⟩
    · rename_i hk
      split at hh
      · rename_i hk2
        obtain ⟨rfl, rfl⟩ := give_ok hh
        subst hk2
        subst hy
        exact ⟨o, _, .fin hs, r⟩
      · rename_i hk2
        split at hh
        · cases hh
        · rename_i hk3
          obtain ⟨e, p2, he, hh⟩ := also_ok hh
          obtain ⟨d, p3, hd, hh⟩ := also_ok hh
          split at hh
          · cases hh
          · rename_i hd2
            obtain ⟨x, p4, hx, hh⟩ := also_ok hh
            split at hh
            · cases hh
            · rename_i hx2
              obtain ⟨rfl, rfl⟩ := give_ok hh
              obtain ⟨o', p', h1, h2⟩ := ih hy rfl
              exact ⟨o', p', .copy hs (by omega) (by omega) he hd (by omega) hx (by omega) (by omega) h1, h2⟩
/-- from within stored bytes on to the block's end -/
theorem steps_raw {U T : Nat} {s : At} {q : Nat} (hf : infnum.Fin s) : ∀ (n : Nat) {last : Bool} {o : List UInt8} {p : Nat}, infnum.Steps U T (⟨.raw n, last, o⟩, p) (s, q) → ∃ o' p', raws n o U T p = .ok (o', p') ∧ infnum.Steps U T (⟨.head, last, o'⟩, p') (s, q)
  | 0, last, o, p, h => by
    cases h with
    | refl => exact absurd hf.1 (by intro h; cases h)
    | more h1 r =>
      unfold one at h1
      simp only at h1
      obtain ⟨rfl, rfl⟩ := give_ok h1
      exact ⟨o, _, rfl, r⟩
  | n + 1, last, o, p, h => by
    cases h with
    | refl => exact absurd hf.1 (by intro h; cases h)
    | more h1 r =>
      unfold one at h1
      simp only at h1
      obtain ⟨v, p1, hv, hh⟩ := also_ok h1
      obtain ⟨rfl, rfl⟩ := give_ok hh
      obtain ⟨o', p', h2, h3⟩ := steps_raw hf n r
      refine ⟨o', p', ?_, h3⟩
      unfold raws also
      rw [hv]
      exact h2
/-- a block from its head on -/
inductive Blk (U T : Nat) (o : List UInt8) (p : Nat) (l : Nat) (p2 : Nat) (o' : List UInt8) (q : Nat) : Nat → Prop where
  | stored {n t p3 p4 : Nat} (h1 : take 16 U T ((p2 + 7) / 8 * 8) = .ok (n, p3)) (h2 : take 16 U T p3 = .ok (t, p4)) (h3 : n + t = 65535) (h4 : raws n o U T p4 = .ok (o', q)) : Blk U T o p l p2 o' q 0
  | fixed (h : Sy fixedLits fixedDist U T o p2 o' q) : Blk U T o p l p2 o' q 1
  | own {a b : List Nat} {p3 : Nat} (h1 : codes U T p2 = .ok ((a, b), p3)) (h : Sy a b U T o p3 o' q) : Blk U T o p l p2 o' q 2
/-- from a head that is not the end: one block, and on -/
theorem steps_head {U T : Nat} {s : At} {q : Nat} (hf : infnum.Fin s) {o : List UInt8} {p : Nat} (h : infnum.Steps U T (⟨.head, false, o⟩, p) (s, q)) :
    ∃ l p1 k p2 o' p', take 1 U T p = .ok (l, p1) ∧ take 2 U T p1 = .ok (k, p2) ∧ Blk U T o p l p2 o' p' k ∧ infnum.Steps U T (⟨.head, decide (l = 1), o'⟩, p') (s, q) := by
  cases h with
  | refl => exact absurd hf.2 (by intro h; cases h)
  | more h1 r =>
    unfold one at h1
    simp only [Bool.false_eq_true, if_false] at h1
    obtain ⟨l, p1, hl, hh⟩ := also_ok h1
    obtain ⟨k, p2, hk, hh⟩ := also_ok hh
    split at hh
    · rename_i hk0
      obtain ⟨_, p3, ha, hh⟩ := also_ok hh
      obtain ⟨n, p4, hn, hh⟩ := also_ok hh
      obtain ⟨t, p5, ht, hh⟩ := also_ok hh
      split at hh
      · rename_i hnt
        obtain ⟨rfl, rfl⟩ := give_ok hh
        have hp3 : p3 = (p2 + 7) / 8 * 8 := by
          simp only [align, Except.ok.injEq, Prod.mk.injEq] at ha
          exact ha.2.symm
        subst hp3
        obtain ⟨o', p', h2, h3⟩ := steps_raw hf n r
        exact ⟨l, p1, k, p2, o', p', hl, hk, hk0 ▸ .stored hn ht hnt h2, h3⟩
      · cases hh
    · split at hh
      · rename_i hk1
        obtain ⟨rfl, rfl⟩ := give_ok hh
        obtain ⟨o', p', h2, h3⟩ := steps_sy rfl hf r rfl
        exact ⟨l, p1, k, _, o', p', hl, hk, hk1 ▸ .fixed h2, h3⟩
      · split at hh
        · rename_i hk2
          obtain ⟨⟨a, b⟩, p3, hc, hh⟩ := also_ok hh
          obtain ⟨rfl, rfl⟩ := give_ok hh
          obtain ⟨o', p', h2, h3⟩ := steps_sy rfl hf r rfl
          exact ⟨l, p1, k, p2, o', p', hl, hk, hk2 ▸ .own hc h2, h3⟩
        · cases hh
end Go.Proofs.YtfpicifjjedlaaaGreatDoor.refp
/-
  What codes, rep and times tell, step by step: plain mathematics for the reference's loops. My own text.
-/
namespace Go.Proofs.YtfpicifjjedlaaaGreatDoor.refp
open Go.Proofs.YtfpicifjjedlaaaGreatDoor.num Go.Proofs.YtfpicifjjedlaaaGreatDoor.bitnum Go.Proofs.YtfpicifjjedlaaaGreatDoor.huffnum Go.Proofs.YtfpicifjjedlaaaGreatDoor.infnum
set_option linter.unusedVariables false
theorem copied_len (f : Nat) : ∀ (n : Nat) (o : List UInt8), (copied f n o).length = o.length + n := fun n o => by
  obtain ⟨m, h, hl⟩ := copied_more f n o
  rw [h, List.length_append, hl]
theorem sy_len {a b : List Nat} {U T p q : Nat} {o o' : List UInt8} (h : Sy a b U T o p o' q) : o.length ≤ o'.length := by
  induction h with
  | fin h => exact Nat.le_refl _
  | lit h hk r ih => rw [List.length_append, List.length_singleton] at ih; omega
  | copy h h1 h2 he hd h3 hx h4 h5 r ih => rw [copied_len] at ih; omega
theorem times_step {α : Type} {f : Part α} {n U T p q : Nat} {l : List α} (h : times f (n + 1) U T p = .ok (l, q)) : ∃ x p1 r, f U T p = .ok (x, p1) ∧ times f n U T p1 = .ok (r, q) ∧ l = x :: r := by
  unfold times at h
  obtain ⟨x, p1, hx, h⟩ := also_ok h
  obtain ⟨r, p2, hr, h⟩ := also_ok h
  obtain ⟨rfl, rfl⟩ := give_ok h
  exact ⟨x, p1, r, hx, hr, rfl⟩
theorem times_len {α : Type} {f : Part α} : ∀ (n : Nat) {U T p q : Nat} {l : List α}, times f n U T p = .ok (l, q) → l.length = n
  | 0, U, T, p, q, l, h => by
    obtain ⟨rfl, _⟩ := give_ok h
    rfl
  | n + 1, U, T, p, q, l, h => by
    obtain ⟨x, p1, r, _, hr, rfl⟩ := times_step h
    rw [List.length_cons, times_len n hr]
theorem codes_of {U T p q : Nat} {a b : List Nat} (h : codes U T p = .ok ((a, b), q)) :
    ∃ n d k p1 p2 p3 l p4 r, take 5 U T p = .ok (n, p1) ∧ take 5 U T p1 = .ok (d, p2) ∧ take 4 U T p2 = .ok (k, p3) ∧ 257 + n ≤ 286 ∧ 1 + d ≤ 30 ∧ times (take 3) (4 + k) U T p3 = .ok (l, p4) ∧ mayBe (laid l) false = true ∧
      rep (laid l) (258 + n + d) (259 + n + d) [] U T p4 = .ok (r, q) ∧ r.getD 256 0 ≠ 0 ∧ mayBe (r.take (257 + n)) false = true ∧ mayBe (r.drop (257 + n)) true = true ∧ a = r.take (257 + n) ∧ b = r.drop (257 + n) := by
  unfold codes at h
  obtain ⟨n, p1, h1, h⟩ := also_ok h
  obtain ⟨d, p2, h2, h⟩ := also_ok h
  obtain ⟨k, p3, h3, h⟩ := also_ok h
  split at h
  · cases h
  · rename_i hnd
    obtain ⟨l, p4, h4, h⟩ := also_ok h
    split at h
    · cases h
    · rename_i hm
      obtain ⟨r, p5, h5, h⟩ := also_ok h
      split at h
      · cases h
      · rename_i hr
        obtain ⟨e, rfl⟩ := give_ok h
        injection e with e1 e2
        refine ⟨n, d, k, p1, p2, p3, l, p4, r, h1, h2, h3, by omega, by omega, h4, by simpa using hm, h5, fun h0 => hr (.inl h0), ?_, ?_, e1, e2⟩
        · cases hx : mayBe (r.take (257 + n)) false with
          | true => rfl
          | false => exact absurd (.inr (.inl hx)) hr
        · cases hx : mayBe (r.drop (257 + n)) true with
          | true => rfl
          | false => exact absurd (.inr (.inr hx)) hr
theorem sym_lt {ls : List Nat} {U T p s q : Nat} (hf : tx ls 15 ≤ 32768) (h15 : ∀ x ∈ ls, x ≤ 15) (h : sym ls U T p = .ok (s, q)) : s < ls.length := by
  obtain ⟨_, _, k, _, _, _, _, _, _, _, hs, _⟩ := sym_of hf h15 h
  exact syms_lt s (List.mem_of_getElem? hs)
theorem rep_15 {c : List Nat} {n U T q : Nat} {a : List Nat} (hf : tx c 15 ≤ 32768) (hc : ∀ x ∈ c, x ≤ 15) (h19 : c.length ≤ 19) : ∀ (m f : Nat) (l : List Nat) (p : Nat), n - l.length ≤ m → (∀ x ∈ l, x ≤ 15) → rep c n f l U T p = .ok (a, q) → ∀ x ∈ a, x ≤ 15 := by
  intro m
  induction m with
  | zero =>
    intro f l p hm hl h
    rcases rep_step h with ⟨_, rfl, _⟩ | ⟨hlt, _⟩
    · exact hl
    · omega
  | succ m ih =>
    intro f l p hm hl h
    rcases rep_step h with ⟨_, rfl, _⟩ | ⟨hlt, f', k, p1, hs, hri⟩
    · exact hl
    · have hk := sym_lt hf hc hs
      have key : ∀ (r v p2 : Nat), v ≤ 15 → 1 ≤ r → rep c n f' (l ++ List.replicate r v) U T p2 = .ok (a, q) → ∀ x ∈ a, x ≤ 15 := fun r v p2 hv hr h => by
        refine ih f' _ p2 (by rw [List.length_append, List.length_replicate]; omega) (fun x hx => ?_) h
        rcases List.mem_append.1 hx with hx | hx
        · exact hl x hx
        · rw [(List.mem_replicate.1 hx).2]; exact hv
      cases hri with
      | last v t p2 hk hlv ht hr => exact key _ v p2 (hl v (List.mem_of_getLast? hlv)) (by omega) hr
      | few t p2 hk ht hr => exact key _ 0 p2 (by omega) (by omega) hr
      | many t p2 hk ht hr => exact key _ 0 p2 (by omega) (by omega) hr
      | one h16 h17 h18 hr => exact key 1 k p1 (by omega) (by omega) hr
end Go.Proofs.YtfpicifjjedlaaaGreatDoor.refp
/-
  Layer 6's reference: codes. My own text.
-/
namespace Go.Proofs.YtfpicifjjedlaaaGreatDoor.refp
open Go.RowKit Go.Proofs.YtfpicifjjedlaaaGreatDoor.base Go.Proofs.YtfpicifjjedlaaaGreatDoor.num Go.Proofs.YtfpicifjjedlaaaGreatDoor.bitnum Go.Proofs.YtfpicifjjedlaaaGreatDoor.bitp Go.Proofs.YtfpicifjjedlaaaGreatDoor.huffnum Go.Proofs.YtfpicifjjedlaaaGreatDoor.infnum
set_option linter.unusedVariables false
abbrev tPair : TypeId := 53
theorem laid_len (l : List Nat) : (laid l).length = 19 := by simp [laid]
def laidTo (j : Nat) (l : List Nat) : List Nat := (List.range 19).map fun s => if order.idxOf s < j then l.getD (order.idxOf s) 0 else 0
theorem laidTo_len (j : Nat) (l : List Nat) : (laidTo j l).length = 19 := by simp [laidTo]
theorem laidTo_zero (l : List Nat) : laidTo 0 l = List.replicate 19 0 := by
  unfold laidTo
  simp only [Nat.not_lt_zero, if_false]
  rfl
theorem laidTo_all {j : Nat} {l : List Nat} (h : l.length ≤ j) : laidTo j l = laid l := by
  unfold laidTo laid
  apply List.map_congr_left
  intro s _
  by_cases h1 : order.idxOf s < j
  · rw [if_pos h1]
  · rw [if_neg h1, List.getD_eq_getElem?_getD, List.getElem?_eq_none (by omega)]
    rfl
theorem order_at : ∀ j : Fin 19, ∀ s : Fin 19, (order.idxOf s.1 = j.1 ↔ order.getD j.1 0 = s.1) := by decide
theorem order_lt : ∀ j : Fin 19, order.getD j.1 0 < 19 := by decide
theorem laidTo_step {j : Nat} (l : List Nat) (hj : j < 19) : (laidTo j l).set (order.getD j 0) (l.getD j 0) = laidTo (j + 1) l := by
  apply List.ext_getElem?
  intro s
  by_cases hs : s < 19
  · have h1 := order_at ⟨j, hj⟩ ⟨s, hs⟩
    simp only at h1
    have hat : ∀ m, (laidTo m l)[s]? = some (if order.idxOf s < m then l.getD (order.idxOf s) 0 else 0) := fun m => by
      unfold laidTo
      rw [List.getElem?_map, List.getElem?_range hs]
      rfl
    rw [List.getElem?_set, hat, hat, laidTo_len]
    by_cases h2 : order.getD j 0 = s
    · have h3 := h1.2 h2
      rw [if_pos h2, if_pos (by rw [h2]; exact hs), h3, if_pos (by omega)]
    · have h3 : order.idxOf s ≠ j := fun h => h2 (h1.1 h)
      rw [if_neg h2]
      by_cases h4 : order.idxOf s < j
      · rw [if_pos h4, if_pos (by omega)]
      · rw [if_neg h4, if_neg (by omega)]
  · rw [List.getElem?_eq_none (by rw [List.length_set, laidTo_len]; omega), List.getElem?_eq_none (by rw [laidTo_len]; omega)]
theorem take_lt {n U T p x q : Nat} (h : take n U T p = .ok (x, q)) : x < 2 ^ n := by
  obtain ⟨_, rfl, _⟩ := take_of h
  exact Nat.mod_lt _ (Nat.two_pow_pos n)
theorem times_lt {k U T : Nat} : ∀ (n : Nat) {p q : Nat} {l : List Nat}, times (take k) n U T p = .ok (l, q) → ∀ x ∈ l, x < 2 ^ k
  | 0, p, q, l, h => by
    obtain ⟨rfl, _⟩ := give_ok h
    intro x hx; cases hx
  | n + 1, p, q, l, h => by
    obtain ⟨x, p1, r, h1, hr, rfl⟩ := times_step h
    intro y hy
    rcases List.mem_cons.1 hy with rfl | hy
    · exact take_lt h1
    · exact times_lt n hr y hy
theorem laid_le {l : List Nat} {k : Nat} (h : ∀ x ∈ l, x ≤ k) : ∀ x ∈ laid l, x ≤ k := by
  intro x hx
  unfold laid at hx
  obtain ⟨s, _, rfl⟩ := List.mem_map.1 hx
  rw [List.getD_eq_getElem?_getD]
  cases hq : l[order.idxOf s]? with
  | none => exact Nat.zero_le _
  | some y => exact h y (List.mem_of_getElem? hq)
theorem mayBe_tx {ls : List Nat} {b : Bool} (h : mayBe ls b = true) : tx ls 15 ≤ 32768 := by
  unfold mayBe at h
  rw [Bool.and_eq_true, decide_eq_true_iff] at h
  exact h.1
theorem vn_set (ls : List Nat) (i x : Nat) : (vn ls).set i (iv (x : Nat)) = vn (ls.set i x) := by
  unfold vn
  rw [List.map_set]
theorem rep_n {c : List Nat} {n : Nat} : ∀ {f : Nat} {l m : List Nat} {U T p p' : Nat}, rep c n f l U T p = .ok (m, p') → m.length = n := by
  intro f
  induction f with
  | zero => intro l m U T p p' h; cases h
  | succ f ih =>
    intro l m U T p p' h
    unfold rep at h
    split at h
    · cases h
    · split at h
      · rename_i h2
        obtain ⟨rfl, _⟩ := give_ok h
        exact h2.symm
      · obtain ⟨k, p1, _, h⟩ := also_ok h
        split at h
        · cases hg : l.getLast? with
          | none => rw [hg] at h; cases h
          | some v =>
            rw [hg] at h
            obtain ⟨t, p2, _, h⟩ := also_ok h; exact ih h
        · split at h
          · obtain ⟨t, p2, _, h⟩ := also_ok h; exact ih h
          · split at h
            · obtain ⟨t, p2, _, h⟩ := also_ok h; exact ih h
            · exact ih h
/-- what two codes' lengths are, that were read -/
theorem codes_fit {U T p q : Nat} {a b : List Nat} (h : codes U T p = .ok ((a, b), q)) : (∀ x ∈ a, x ≤ 15) ∧ (∀ x ∈ b, x ≤ 15) ∧ tx a 15 ≤ 32768 ∧ tx b 15 ≤ 32768 ∧ a.length ≤ 320 ∧ b.length ≤ 320 := by
  obtain ⟨n, d, k, p1, p2, p3, l, p4, r, h1, h2, h3, hn, hd, h4, h5, h6, h7, h8, h9, rfl, rfl⟩ := codes_of h
  have hl : ∀ x ∈ laid l, x ≤ 15 := laid_le fun x hx => by have := times_lt _ h4 x hx; omega
  have hr := rep_15 (mayBe_tx h5) hl (by rw [laid_len]; omega) _ _ [] p4 (Nat.le_refl _) (fun x hx => by cases hx) h6
  have hlen := rep_n h6
  refine ⟨fun x hx => hr x (List.mem_of_mem_take hx), fun x hx => hr x (List.mem_of_mem_drop hx), mayBe_tx h8, mayBe_tx h9, ?_, ?_⟩
  · rw [List.length_take]; omega
  · rw [List.length_drop]; omega
/-- a row in two -/
theorem halves {W : World} {B b off M nl nd : Nat} {r : List Nat} (h : Rd W B (some ⟨b, off, none⟩) M (vn r)) (hM : nl + nd = M) : Rd W B (some ⟨b, off, none⟩) nl (vn (r.take nl)) ∧ Rd W B (some ⟨b, off + nl, none⟩) nd (vn (r.drop nl)) := by
  have hl : r.length = M := by have := h.1; unfold vn at this; rwa [List.length_map] at this
  refine ⟨⟨by unfold vn; rw [List.length_map, List.length_take]; omega, fun h0 => ?_⟩, ⟨by unfold vn; rw [List.length_map, List.length_drop]; omega, fun h0 => ?_⟩⟩
  all_goals
    obtain ⟨b', off', e1', hbb', hcells⟩ := h.2 (by omega)
    injection e1' with e1'
    injection e1' with ea1 ea2 _
    subst ea1; subst ea2
  · refine ⟨b, off, rfl, hbb', fun i u hu => hcells i u ?_⟩
    unfold vn at hu
    rw [List.map_take, List.getElem?_take] at hu
    split at hu
    · exact hu
    · cases hu
  · refine ⟨b, off + nl, rfl, hbb', fun i u hu => ?_⟩
    have h1 := hcells (nl + i) u (by unfold vn at hu; rw [List.map_drop, List.getElem?_drop] at hu; exact hu)
    rwa [← Nat.add_assoc] at h1
section
variable {w0 w W V : World} {g gl U T p i : Nat} {out : List UInt8} {t : TypeId} {cs : List Value} {v : Value}
theorem StAt.apart (h : StAt w0 g U T p out W) (hb : Bk W gl t cs) (h1 : t ≠ tState) (h2 : t ≠ tB) (hlt : g < gl) : StAt w0 g U T p out (W.setCell ⟨gl, i, none⟩ v) := by
  obtain ⟨A, cA, m, O, cO, e1, e2, e3, e4, e5, e6⟩ := h.ex
  have hB := But.put (g := gl) (i := i) W v
  have hne : g ≠ gl := by omega
  refine ⟨⟨A, cA, m, O, cO, e1, e2.apart (p := ⟨gl, i, none⟩) hne v, e3.block fun b hbg => hB.block b (by have := e2.inside; omega) fun e => by injection e with e; omega, e4, e5, e6.but hB (e6.ne_block hb (fun e => h2 e.symm))⟩, h.lo, Fresh.but h.fr (by have := h.lo; omega) hB⟩
theorem KeepX.put (h : KeepX w W) (hb : w.heap.size ≤ gl) : KeepX w (W.setCell ⟨gl, i, none⟩ v) := by
  have hB := But.put (g := gl) (i := i) W v
  exact ⟨Nat.le_trans h.1 hB.size, fun t h1 h2 b cs fr hbk => by
    have hi := (Array.getElem?_eq_some_iff.1 hbk).1
    refine (hB.block b (Nat.lt_of_lt_of_le hi h.1) fun e => ?_).trans (h.2 t h1 h2 b cs fr hbk)
    injection e with e
    omega⟩
end
end Go.Proofs.YtfpicifjjedlaaaGreatDoor.refp
