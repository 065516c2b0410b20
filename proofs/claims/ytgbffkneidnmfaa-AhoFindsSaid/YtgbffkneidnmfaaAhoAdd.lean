/-
  Layer 14: newState, add. My own text.
-/
import Derived.Test.YtgbffkneidnmfaaAhoBd
import Derived.Deep.RegionLaw
import Derived.Deep.DeepCutAuto
namespace Go.Proofs.Ytgbffkneidnmfaa.ahop
open Go.RowKit Go.Maps Go.Proofs.Ytgbffkneidnmfaa.base Go.Proofs.Ytgbffkneidnmfaa.aho
set_option linter.unusedVariables false
theorem ast_slot_ {P : Program} {ops : Array Oper} {a : Act} {w : World} {K : Act → World → Prop} {Q : Exit → Act → World → Prop} {E : Prop} {t : TypeId} (d : Nat) {op : Op} {ps : String} {af gd} (h : if Region.wanted (⟨some d, op, t, ps, af, gd⟩ : Oper) (yielded ops a.tmps) = true then Oper.wp P ⟨some d, op, t, ps, af, gd⟩ a w K Q else E) :
    if Region.wanted (⟨some d, op, t, ps, af, gd⟩ : Oper) (yielded ops a.tmps) = true then Oper.wp P ⟨some d, op, t, ps, af, gd⟩ a w K Q else E := h
theorem info_parts {P : Program} {t : TypeId} {z : Value} {k b : Nat} (h : (P.info? t).map (fun i => (i.zero, i.size, i.bytes)) = some (some z, k, b)) : ∃ i, P.info? t = some i ∧ i.zero = some z ∧ i.size = k ∧ i.bytes = b := by
  cases hq : P.info? t with
  | none => rw [hq] at h; simp at h
  | some i =>
    rw [hq] at h
    simp only [Option.map_some, Option.some.injEq, Prod.mk.injEq] at h
    exact ⟨i, rfl, h.1, h.2.1, h.2.2⟩
theorem stateInfo : (Try.prog.info? tState).map (fun i => (i.zero, i.size, i.bytes)) = some (some (.agg #[.map none, .int .i64 0, .slice none 0 0]), 3, 40) := by kernel_rfl
theorem intInfo : (Try.prog.info? tInt).map (fun i => (i.zero, i.size, i.bytes)) = some (some (.int .i64 0), 1, 8) := by kernel_rfl
/-- 'append(row, x)', x an element that stands in a block of its own, in a region that draws -/
theorem step_append_cells {α : Type} {P : Program} {w : World} {ops : Array Oper} {o : Oper} {a : Act} {K : Act → World → Prop} {Q : Exit → Act → World → Prop} {E : Prop} (hgd : o.guard = none) (s x : Operand) (t : TypeId)
    (ho : o.op = .call { callee := .builtin .append, args := #[s, x], argTypes := #[t, t] })
    (base : Nat) (e : TypeId) (i : TypeInfo) (z : Value) (k bytes : Nat) (ht : P.underlying t = some (.slice e)) (hi : P.info? e = some i) (hz : i.zero = some z)
    (hsize : i.size = k) (hby : i.bytes = bytes) (hzs : z.cells.size = k) (hk0 : 0 < k) (f : α → List Value)
    (A : Option Addr) (n c : Nat) (l : List α) (hs : a.eval s = .slice A n c) (hown : OwnK w base e k A n c f l)
    (g : Nat) (p : α) (hx : a.eval x = .slice (some ⟨g, 0, none⟩) 1 1) (hg : Bk w g e (f p)) (hl : (f p).length = k) (h1 : ∀ u ∈ f p, u.oneCell' = true) (h63 : n ≤ 1099511627776) (hbytes : (n + 1) * bytes ≤ 140737488355328) (hbase : base ≤ w.heap.size)
    (h : ∀ A' c' w', OwnK w' base e k A' (n + 1) c' f (l ++ [p]) → w.grownBy w' (Value.slice A n c).ownBlock → ((Value.slice A' (n + 1) c').ownBlock = (Value.slice A n c).ownBlock ∨ (Value.slice A' (n + 1) c').ownBlock = some w.heap.size) → K (a.put o.dst (.slice A' (n + 1) c')) w') :
    if Region.wanted o (yielded ops a.tmps) = true then Oper.wp P o a w K Q else E := by
  have hw : Region.wanted o (yielded ops a.tmps) = true := by simp [Region.wanted, hgd]
  rw [if_pos hw]
  have hcells : ∀ j u, (f p)[j]? = some u → w.cell? ((⟨g, 0, none⟩ : Addr).add j) = some u := fun j u hu => by
    have hadd : (⟨g, 0, none⟩ : Addr).add j = ⟨g, 0 + j, none⟩ := by unfold Addr.add; split <;> simp_all
    rw [hadd, Nat.zero_add]
    exact hg.cell hu
  obtain ⟨v', w', hrun, h2, h3, _, h5⟩ := run_append_own_at (P := P) w base t o.type e i z k bytes ht hi hz hsize hby hzs hk0 (.slice A n c) n (l.flatMap f) hown ⟨g, 0, none⟩ 1 1 (f p) (by rw [hl, Nat.one_mul]) hcells h1 (by unfold maxLen; omega) hbytes hbase
  have hsn : l.flatMap f ++ f p = (l ++ [p]).flatMap f := by simp
  rw [hsn] at h2
  have hform : ∃ A' c', v' = .slice A' (n + 1) c' := by
    rcases h2.2 with ⟨hv, hn⟩ | ⟨g, cap, cur, hv, _⟩
    · omega
    · exact ⟨_, cap, hv⟩
  obtain ⟨A', c', rfl⟩ := hform
  unfold Oper.wp execOp
  simp only [ho, resolve, invoke, builtin, Sem.run_bind, Sem.run_pure, Result.andThen_ok, List.map_toArray, List.map_cons, List.map_nil, hs, hx, hrun]
  exact h A' c' w' h2 h3 h5
theorem mkMap (W : World) : (Instr.makeMap tMap none).run Try.prog W = .ok (.map (some W.heap.size)) (W.alloc (.map #[] 0)) := by simp [Instr.makeMap]
theorem newState_any (w : World) : Calls Try.prog 30 #[] w fun e w' => ∃ mb, e = .returned (.agg #[.map (some mb), .int .i64 0, .slice none 0 0]) ∧ w.heap.size ≤ mb ∧ MapOf Try.prog tU8 w' mb (kvs []) ∧ Fresh w w' := by
  have hmk := fun W => mkMap W
  obtain ⟨w1, hw1⟩ : ∃ w1, w1 = w.alloc (.cells #[.map none, .int .i64 0, .slice none 0 0] tState) := ⟨_, rfl⟩
  have hb1 : Bk w1 w.heap.size tState [.map none, .int .i64 0, .slice none 0 0] := by rw [hw1]; exact Bk.made w tState _
  have hb2 := hb1.alloc (.map #[] 0)
  have hm2 := MapOf.made Try.prog tU8 w1
  have hs1 : w1.heap.size = w.heap.size + 1 := by rw [hw1]; simp
  have hf2 : Fresh w (w1.alloc (.map #[] 0)) := by rw [hw1]; exact (Fresh.alloc _ _).trans (Fresh.alloc _ _)
  have HB2 := Lib.hid hb2
  have HM2 := Lib.hid hm2
  have HF2 := Lib.hid hf2
  have HS1 := Lib.hid hs1
  have HW1 := Lib.hid hw1
  clear hb1 hb2 hm2 hf2 hs1 hw1
  go_enter Try.func30, Try.ntmps30
  go_upto_region 1 with (fail)
  rw [← HW1.out]
  go_wp2_with ((with_reducible (refine at_store_ 0 2 ?_)); refine wpList_store_blk rfl tState (.tmp 0) (.tmp 2) rfl w.heap.size 0 tState [.map none, .int .i64 0, .slice none 0 0] [.map (some w1.heap.size), .int .i64 0, .slice none 0 0] rfl rfl HB2.out (by simp) (by simp; exact ⟨rfl, rfl, rfl⟩) (by kernel_rfl) ?_; intro w3 hb3 hbut3)
  refine bodyPost_ret (results_cell_row (p := 0) (by kernel_rfl) _ _ w.heap.size tState #[.map (some w1.heap.size), .int .i64 0, .slice none 0 0] (0, 0) _ rfl hb3 Try.underlying58 rfl (by kernel_rfl)) rfl ⟨_, rfl, by rw [HS1.out]; omega, ?_, HF2.out.but (Nat.le_refl _) hbut3⟩
  exact HM2.out.old (hbut3.block _ HM2.out.inside fun e => by injection e with e; have := HS1.out; omega)
theorem below_but {base g : Nat} {a b c : World} (h : Below base a b) (hg : base ≤ g) (hb : base ≤ b.heap.size) (k : But g b c) : Below base a c := h.grown k hb fun q hq => by injection hq with hq; omega
theorem below_fresh {base : Nat} {a b c : World} (h : Below base a b) (hb : base ≤ b.heap.size) (k : Fresh b c) : Below base a c := h.grown (k.grown none) hb fun q hq => by cases hq
set_option maxRecDepth 100000 in
theorem add_any (W : List Bs) (mm : Nat) (word : Bs) (base sb : Nat) (WA : Option Addr) (wl wc : Nat) (A0 : Option Addr) (n0 c0 : Nat) (T0 : List Sv) (P0 : List Bs) (w : World) (hb : Bk w sb tStates [.slice A0 n0 c0]) (hbd : Bd w base A0 n0 c0 T0) (hB : Bld W mm P0 T0)
    (hr : Rd w base WA wl (word.map bv)) (hbw : base ≤ w.heap.size) (hsb : base ≤ sb) (hwl : wl ≤ 1000) (hn0 : n0 ≤ 100000) :
    Calls Try.prog 31 #[.pointer (some ⟨sb, 0, none⟩), .slice WA wl wc] w fun e w' => ∃ (A' : Option Addr) (n' c' : Nat) (T' : List Sv) (P' : List Bs) (j : Nat), e = .returned (iv (j : Nat)) ∧ Bk w' sb tStates [.slice A' n' c'] ∧ Bd w' base A' n' c' T' ∧ Bld W mm P' T' ∧ P'[j]? = some word ∧ n' ≤ n0 + wl ∧ Below base w w' ∧ w.heap.size ≤ w'.heap.size := by
  obtain ⟨i0, hi0, hz0, hz1, hz2⟩ := info_parts stateInfo
  have hwlen : word.length = wl := by have := hr.1; rwa [List.length_map] at this
  have HR := Lib.hid hr
  have HB0 := Lib.hid hb
  have HD0 := Lib.hid hbd
  have HL0 := Lib.hid hB
  have HWL := Lib.hid hwlen
  clear hr hb hbd hB hwlen
  go_enter Try.func31, Try.ntmps31
  go_wp2
  go_loopw [5, 11] (fun v u wr => ∃ (k j : Nat) (A : Option Addr) (n c : Nat) (T : List Sv) (P : List Bs), v = iv (j : Nat) ∧ u = iv (k : Nat) ∧ k ≤ wl ∧ Hid (Bk wr sb tStates [.slice A n c]) ∧ Hid (Bd wr base A n c T) ∧ Hid (Bld W mm P T) ∧ Hid (P[j]? = some (word.take k)) ∧ n ≤ n0 + k ∧ Hid (Below base w wr) ∧ w.heap.size ≤ wr.heap.size) (fun _ u _ => wl - (intOf u).toNat)
  case atStart => exact ⟨0, 0, A0, n0, c0, T0, P0, rfl, rfl, Nat.zero_le _, HB0, HD0, HL0, Lib.hid (by rw [List.take_zero]; exact HL0.out.trie.zero), Nat.le_refl _, Lib.hid (Below.refl _ _), Nat.le_refl _⟩
  case round =>
    obtain ⟨k, j, A, n, c, T, P, rfl, rfl, hk, hB, hD, hL, hP, hn, hBel, hsz⟩ := hrel
    by_cases hlt : k < wl
    · obtain ⟨x, hx⟩ : ∃ x, word[k]? = some x := ⟨_, List.getElem?_eq_getElem (by rw [HWL.out]; exact hlt)⟩
      obtain ⟨wb, wo, hWA, hwb, hwc⟩ := HR.out.2 (by omega)
      subst hWA
      have hwx : wr.cell? ⟨wb, wo + k, none⟩ = some (bv x) := by
        have h1 := hwc k (bv x) (by rw [List.getElem?_map, hx]; rfl)
        exact (World.cell?_of_block (hBel.out.block wb hwb)).trans h1
      obtain ⟨s, hs⟩ := hL.out.trie.sv hP.out
      obtain ⟨g, hA, hbg, hgw, hjn, ⟨cs0, hcs0⟩, p0, p1, p2⟩ := hD.out.place hs
      subst hA
      have hk0 := hB.out.cell (i := 0) rfl
      have hlk := look_run (hD.out.map s (List.mem_of_getElem? hs)).1 x
      have htk : word.take (k + 1) = word.take k ++ [x] := by rw [List.take_add_one, hx]; rfl
      have HTK := Lib.hid htk
      have HS := Lib.hid hs
      have HWC := Lib.hid hwc
      have HCS0 := Lib.hid hcs0
      have HX := Lib.hid hx
      rcases hL.out.trie.look_iff (c := x) hs hP.out with ⟨h1, h2⟩ | ⟨h1, h2⟩
      · obtain ⟨j2, hj2⟩ : ∃ j2, wlk s.ways x = j2 := ⟨_, rfl⟩
        rw [hj2] at h1 h2 hlk
        have hj20 : ((j2 : Int) == 0) = false := by rw [beq_eq_false_iff_ne]; omega
        have H2 := Lib.hid h2
        clear h1 h2 hj2 hwc hcs0 hs hx htk
        go_wp2
        go_roundw
        case rel => exact ⟨k + 1, j2, some ⟨g, 0, none⟩, n, c, T, P, rfl, by go_num, by omega, hB, hD, hL, Lib.hid (by rw [HTK.out]; exact H2.out), by omega, hBel, hsz⟩
        case measure => simp [intOf]; omega
      · rw [h1] at hlk
        have hno : ∀ p ∈ kvs s.ways, p.1 ≠ bv x := fun p hp e => by
          obtain ⟨y, hy, rfl⟩ := List.mem_map.1 hp
          have e2 := bv_inj e
          have h3 := (hL.out.trie.way j s _ HS.out hP.out x y.2).1 (by rw [← e2]; exact hy)
          exact h2 (List.mem_of_getElem? h3)
        have hlen := hD.out.len
        have hmp := hD.out.map s (List.mem_of_getElem? hs)
        have HNO := Lib.hid hno
        have HMP := Lib.hid hmp
        have HN2 := Lib.hid h2
        have HLEN := Lib.hid hlen
        clear h1 h2 hwc hcs0 hs hx htk hno hmp hlen
        go_wp2_with (at_mapUpdate; refine wpList_put_new _ rfl _ _ _ tMap rfl tU8 tInt byteKey Try.underlying56 s.mb (kvs s.ways) rfl HMP.out.1 (bv x) (iv (n : Nat)) _ rfl rfl (key_byte x) HNO.out ?_; intro w2 hm2 hbut2; have HM2 := Lib.hid hm2; have HBUT2 := Lib.hid hbut2; clear hm2 hbut2)
        have hm2 : MapOf Try.prog tU8 w2 s.mb (kvs ((x, n) :: s.ways)) := HM2.out
        have hd2 := hD.out.way HS.out hm2 HBUT2.out
        have hb2 : Bk w2 sb tStates [.slice (some ⟨g, 0, none⟩) n c] := hB.out.old (HBUT2.out.block sb hB.out.inside fun e => by
          injection e with e
          exact HMP.out.1.ne_cells hB.out e.symm)
        have hbel2 := below_but hBel.out HMP.out.2 (by omega) HBUT2.out
        have hsz2 : w.heap.size ≤ w2.heap.size := Nat.le_trans hsz HBUT2.out.size
        have HD2 := Lib.hid hd2
        have HB2 := Lib.hid hb2
        have HBEL2 := Lib.hid hbel2
        have hk1 : w2.drew.cell? ⟨sb, 0, none⟩ = some (.slice (some ⟨g, 0, none⟩) n c) := (hb2.fresh (Fresh.drew _)).cell (i := 0) rfl
        have hns := newState_any w2.drew
        have HNSA := Lib.hid hns
        clear hm2 hd2 hb2 hbel2 hns hk0 p0 p1 p2 hlk
        go_region_law (first
          | ((with_reducible refine ast_slot_ 43 ?_); go_simp; (refine HNSA.out.mono ?_); rintro e w3 ⟨mb, rfl, hmb, hm3, hf3⟩; have hf3' := (Fresh.drew w2).trans hf3; have HMB := Lib.hid hmb; have HM3 := Lib.hid hm3; have HF3 := Lib.hid hf3'; have k3 := (HB2.out.fresh hf3').cell (i := 0) rfl; have k4 := ((HB2.out.fresh hf3').alloc (.cells #[.map (some mb), .int .i64 0, .slice none 0 0] tState)).cell (i := 0) rfl; clear hmb hm3 hf3 hf3')
          | ((with_reducible refine ast_slot_ 45 ?_); refine step_append_cells (by rfl) (.tmp 42) (.tmp 44) tStates (by rfl) base tState i0 _ 3 40 Try.underlying47 hi0 hz0 hz1 hz2 rfl (by omega) sv (some ⟨g, 0, none⟩) n c _ (by rfl) ((HD2.out.fresh HF3.out).fresh (Fresh.alloc _ (.cells #[.map (some mb), .int .i64 0, .slice none 0 0] tState))).row w3.heap.size ⟨mb, [], 0, none, 0, []⟩ (by rfl) (Bk.made w3 tState #[.map (some mb), .int .i64 0, .slice none 0 0]) rfl (by simp [sv]; exact ⟨rfl, rfl, rfl⟩) (by omega) (by omega) (by have := HF3.out.size; simp; omega) ?_; intro A4 c4 w4 hown4 hg4 hat4; have hb4 := Bk.grown ((HB2.out.fresh HF3.out).alloc (.cells #[.map (some mb), .int .i64 0, .slice none 0 0] tState)) hg4 (OwnK.ne ((HD2.out.fresh HF3.out).fresh (Fresh.alloc _ (.cells #[.map (some mb), .int .i64 0, .slice none 0 0] tState))).row ((HB2.out.fresh HF3.out).alloc (.cells #[.map (some mb), .int .i64 0, .slice none 0 0] tState)) (by decide)); have k5 := hb4.cell (i := 0) rfl; have k6 := hb4.free 0; have HB4 := Lib.hid hb4; have HO4 := Lib.hid hown4; have HG4 := Lib.hid hg4; clear hb4 hown4 hg4 hat4))
        all_goals
          have fa : Fresh w3 (w3.alloc (.cells #[.map (some mb), .int .i64 0, .slice none 0 0] tState)) := Fresh.alloc _ _
          have hd4 := (HD2.out.fresh HF3.out).fresh fa
          have hm4 : MapOf Try.prog tU8 (w3.alloc (.cells #[.map (some mb), .int .i64 0, .slice none 0 0] tState)) mb (kvs []) := HM3.out.old (fa.block _ HM3.out.inside)
          have hmb2 : w2.heap.size ≤ mb := HMB.out
          have hd5 := hd4.more hm4 (by omega) (fun t ht e => by
            have h1 := (HD2.out.map t ht).1.inside
            omega) HO4.out HG4.out
          have hd6 := hd5.but (But.put (g := sb) (i := 0) w4 (.slice A4 (n + 1) c4)) HB4.out (by decide) (by decide)
          have hb6 := HB4.out.put 0 (.slice A4 (n + 1) c4)
          have hL6 := hL.out.more HS.out hP.out HLEN.out HN2.out { s with ways := (x, n) :: s.ways } ⟨mb, [], 0, none, 0, []⟩ rfl rfl rfl rfl rfl rfl
          have hs3 := HF3.out.size
          have hs4 := fa.size
          have hs5 : w3.heap.size ≤ w4.heap.size := Nat.le_trans fa.size HG4.out.size
          have hbel4 : Below base w w4 := (below_fresh (below_fresh HBEL2.out (by omega) HF3.out) (by omega) fa).grown HG4.out (by omega) fun q hq => (hd4.row.block q hq).1
          have hbel6 := below_but hbel4 hsb (by omega) (But.put (g := sb) (i := 0) w4 (.slice A4 (n + 1) c4))
          have hPn : (P ++ [word.take k ++ [x]])[n]? = some (word.take (k + 1)) := by
            have hl := hL.out.trie.len.trans HLEN.out
            rw [List.getElem?_append_right (by omega), hl, Nat.sub_self, HTK.out]
            rfl
          have hs6 : w.heap.size ≤ (w4.setCell ⟨sb, 0, none⟩ (.slice A4 (n + 1) c4)).heap.size := by simp [World.setCell]; omega
          have HD6 := Lib.hid hd6
          have HB6 := Lib.hid hb6
          have HL6 := Lib.hid hL6
          have HBEL6 := Lib.hid hbel6
          have HPN := Lib.hid hPn
          clear fa hd4 hm4 hd5 hd6 hb6 hL6 hbel4 hbel6 hPn k3 k4 k5 k6 hk1
          generalize w4.setCell ⟨sb, 0, none⟩ (.slice A4 (n + 1) c4) = W4 at *
          go_wp2
          go_roundw
          case rel => exact ⟨k + 1, n, A4, n + 1, c4, _, _, rfl, by go_num, by omega, HB6, HD6, HL6, HPN, by omega, HBEL6, hs6⟩
          case measure => simp [intOf]; omega
    · have hkw : k = wl := by omega
      subst hkw
      have htk : word.take k = word := List.take_of_length_le (by rw [HWL.out]; exact Nat.le_refl _)
      rw [htk] at hP
      clear htk
      go_wp2
      go_ret
      exact ⟨A, n, c, T, P, j, rfl, hB.out, hD.out, hL.out, hP.out, hn, hBel.out, hsz⟩
end Go.Proofs.Ytgbffkneidnmfaa.ahop
