/-
  The reference's widen: my own text.
-/
import Derived.Test.YtmnejphdjnlbjaaDoorRecItem
namespace Go.Proofs.YtmnejphdjnlbjaaDoor.recp
open Go.RowKit Go.Proofs.YtmnejphdjnlbjaaDoor.base Go.Proofs.YtmnejphdjnlbjaaDoor.num Go.Proofs.YtmnejphdjnlbjaaDoor.word Go.Proofs.YtmnejphdjnlbjaaDoor.recn
set_option linter.unusedVariables false
theorem int_inf : (Tryd.prog.info? 3).map (fun i => (i.zero, i.size, i.bytes)) = some (some (.int .i64 0), 1, 8) := by kernel_rfl
def nvs (l : List Nat) : List Value := l.map fun x => iv (x : Nat)
def b2n (b : Bool) : Nat := if b then 1 else 0
def RWidIs (l : List Nat) (w : World) (r : Option (List Nat)) (e : Ending) (w' : World) : Prop :=
  Fresh w w' ∧ match r with
  | none => e = .returned (.slice none 0 0)
  | some vs => ∃ a c, e = .returned (.slice (some a) (vs.length + 1) c) ∧ Own w' w.heap.size tInt (some a) (vs.length + 1) c (nvs (vs ++ [b2n (l.any isOnes)]))
structure RWidAt (B : Nat) (l : List Nat) (F : Option Addr) (nF cF : Nat) (f : List UInt8) (w : World) (g k p : Nat) (O : Option Addr) (cO : Nat) (vs : List Nat) (wr : World) : Prop where
  bes : ∃ is, Bk wr g tBes [.slice F nF cF, .bool is, .bool true]
  rdF : Rd wr B F nF (f.map bv)
  own : Own wr w.heap.size tInt O k cO (nvs vs)
  fresh : Fresh w wr
  le : p ≤ nF
  lv : vs.length = k
  same : (wd (l.drop k) (f.drop p)).map (vs ++ ·) = wd l f
theorem any_b2n (l : List Nat) (j z : Nat) (h : l[j]? = some z) : b2n ((l.take (j + 1)).any isOnes) = if z = 4294967295 then 1 else b2n ((l.take j).any isOnes) := by
  rw [any_snoc l j z h]
  unfold isOnes
  by_cases hz : z = 4294967295
  · subst hz; simp [b2n]
  · rw [if_neg hz, show (z == 4294967295) = false from by rw [beq_eq_false_iff_ne]; exact hz, Bool.or_false]
theorem RWidAt.push {B : Nat} {l : List Nat} {F : Option Addr} {nF cF : Nat} {f : List UInt8} {w : World} {g k p : Nat} {O : Option Addr} {cO : Nat} {vs : List Nat} {wr : World} (h : RWidAt B l F nF cF f w g k p O cO vs wr) (hB : B ≤ w.heap.size) (hg : w.heap.size ≤ g)
    {z p' : Nat} (hp : p' ≤ nF) (hs : (wd (l.drop (k + 1)) (f.drop p')).map ((vs ++ [z]) ++ ·) = wd l f) {A2 : Option Addr} {c2 : Nat} {w2 : World} (ho : Own w2 w.heap.size tInt A2 (k + 1) c2 (nvs vs ++ [iv (z : Nat)])) (hg2 : (wr.alloc (.cells #[iv (z : Nat)] tInt)).grownBy w2 (Value.slice O k cO).ownBlock) :
    RWidAt B l F nF cF f w g (k + 1) p' A2 c2 (vs ++ [z]) w2 := by
  have hal : Fresh wr (wr.alloc (.cells #[iv (z : Nat)] tInt)) := Fresh.alloc _ _
  have hfr2 : Fresh w w2 := (h.fresh.trans hal).append (Own.fresh h.own hal) (Nat.le_refl _) hg2
  obtain ⟨is, hb⟩ := h.bes
  refine ⟨⟨is, (hb.fresh hal).grown hg2 ((Own.fresh h.own hal).ne_block (hb.fresh hal) (by decide))⟩, ?_, ?_, hfr2, hp, by simp [h.lv], hs⟩
  · exact h.rdF.keep fun i hi => (hfr2.block i (by omega)).trans (h.fresh.block i (by omega)).symm
  · unfold nvs at ho ⊢
    rw [List.map_append]
    exact ho
set_option maxRecDepth 100000 in
set_option maxHeartbeats 4000000 in
theorem rwiden_any (A : Option Addr) (n c : Nat) (xs : List UInt8) (D : Option Addr) (m d : Nat) (l : List Nat) (w : World) (B B' : Nat) (hr : Rd w B A n (xs.map bv)) (hB : B ≤ w.heap.size) (hc : n ≤ c) (hm : c ≤ maxLen) (hn : n ≤ 65535)
    (hd : Rd w B' D m (nvs l)) (hB' : B' ≤ w.heap.size) (hm8 : m ≤ 8) :
    Calls Tryd.prog 34 #[.slice A n c, .slice D m d] w (RWidIs l w (widn xs l)) := by
  have hlm : l.length = m := by have := hd.1; unfold nvs at this; rwa [List.length_map] at this
  have hit := item_any A n c xs w B hr hB hc hm hn
  obtain ⟨i0, hi0, hz0, hz1, hz2⟩ := info_parts int_inf
  have HD := Lib.hid hd
  have HLM := Lib.hid hlm
  clear hd hlm
  cases hx : items xs false [] with
  | none =>
    rw [hx] at hit
    have hres : widn xs l = none := by unfold widn; rw [hx]; rfl
    rw [hres]
    have HIT := Lib.hid hit
    clear hit hres hx
    go_enter Tryd.func34, Tryd.ntmps34
    go_wp2_with (go_at_call 55; (refine HIT.out.mono ?_); rintro e w1 ⟨hf1, hE⟩; simp only at hE; subst hE)
    go_ret
    exact ⟨hf1.trans (Fresh.alloc _ _), rfl⟩
  | some f =>
    rw [hx] at hit
    have hres : widn xs l = wd l f := by unfold widn; rw [hx]; rfl
    rw [hres]
    have HIT := Lib.hid hit
    clear hit hres hx
    go_enter Tryd.func34, Tryd.ntmps34
    go_wp2_with (go_at_call 55; (refine HIT.out.mono ?_); rintro e w1 ⟨hf1, F, cF, is, rfl, hcF, hmF, hlF, hrF⟩; have HF1 := Lib.hid hf1; have HRF := Lib.hid hrF; have HMF := Lib.hid hmF; clear hf1 hrF hmF)
    obtain ⟨nF, hnF⟩ : ∃ nF, f.length = nF := ⟨_, rfl⟩
    have hst : RWidAt B l F nF cF f w w1.heap.size 0 0 none 0 [] (w1.alloc (.cells #[.slice F nF cF, .bool is, .bool true] tBes)) := ⟨⟨is, Bk.made w1 tBes _⟩, by rw [← hnF]; exact HRF.out.alloc (Nat.le_trans hB HF1.out.size) _, Own.nil _ _ _, HF1.out.trans (Fresh.alloc _ _), Nat.zero_le _, rfl, by simp⟩
    rw [hnF] at hcF hlF
    rw [hnF]
    have HST := Lib.hid hst
    have HNF := Lib.hid hnF
    clear hst hnF HRF
    have hgs : w.heap.size ≤ w1.heap.size := HF1.out.size
    generalize w1.alloc (.cells #[.slice F nF cF, .bool is, .bool true] tBes) = W1 at *
    generalize w1.heap.size = g at *
    go_loopw [6, 7, 8, 9] (fun vp vw vo vk wr => ∃ (k p cO : Nat) (O : Option Addr) (vs : List Nat), k ≤ m ∧ vk = .int .i64 k ∧ vp = .int .i64 p ∧ vw = .int .i64 (b2n ((l.take k).any isOnes) : Nat) ∧ vo = .slice O k cO ∧ p ≤ 65535 ∧ Hid (RWidAt B l F nF cF f w g k p O cO vs wr)) (fun _ _ _ vk _ => m - (intOf vk).toNat)
    case atStart => exact ⟨0, 0, 0, none, [], by omega, rfl, rfl, rfl, rfl, by omega, HST⟩
    case round =>
      obtain ⟨k, p, cO, O, vs, hk, rfl, rfl, rfl, rfl, hpB, hAt⟩ := hrel
      by_cases hlt : k < m
      · obtain ⟨b, off, z, rfl, _, hz, hcz⟩ := (show Rd wr B' D m (l.map fun x => iv (x : Nat)) from HD.out.keep fun i hi => hAt.out.fresh.block i (by omega)).at_ hlt
        have hown := hAt.out.own
        have hfr := hAt.out.fresh
        have hb2 := any_b2n l k z hz
        have hle := hAt.out.le
        by_cases h1 : z = 4294967295
        · subst h1
          rw [if_pos rfl] at hb2
          have hon := wd_ones l (f.drop p) k hz
          have hld : (f.drop p).length = nF - p := by rw [List.length_drop, HNF.out]
          have hs := hAt.out.same
          rw [hon, hld] at hs
          obtain ⟨is2, hbes⟩ := hAt.out.bes
          have k0 := hbes.cell (i := 0) rfl
          have hat := at8 F nF cF f (p : Int) p wr B hAt.out.rdF rfl hcF HMF.out (by omega)
          have e8 : nm (f.drop p) 0 8 = nm f p 8 := nm_drop _ _ _ _
          rw [e8, List.drop_drop] at hs
          unfold nm8v at hat
          generalize nm f p 8 = U at *
          by_cases h8 : nF - p < 8
          · rw [if_pos h8] at hs
            have HS := Lib.hid hs
            clear hs hon hld hat hbes hb2 hz e8
            generalize b2n ((l.take k).any isOnes) = Q at *
            go_wp2
            go_ret
            refine ⟨hfr, ?_⟩
            rw [← HS.out]
            rfl
          · rw [if_neg h8] at hs
            by_cases hU : U < 281474976710656
            · rw [if_neg (by omega)] at hs
              rw [if_pos hU] at hat
              have HAT := Lib.hid (hat (by omega))
              have HPS := Lib.hid (fun A2 c2 w2 => hAt.out.push hB hgs (z := U) (p' := p + 8) (A2 := A2) (c2 := c2) (w2 := w2) (by omega) (by rw [← hs, Option.map_map]; congr 1; funext x; simp))
              have HB2 := Lib.hid hb2
              have HUB := Lib.hid hU
              clear hs hon hld hat hbes hb2 hz e8 hU
              generalize b2n ((l.take k).any isOnes) = Q at *
              go_wp2_with (first
                | (go_at_call 30; ((with_reducible refine HAT.out.mono ?_); rintro e w1 ⟨rfl, rfl⟩))
                | (at_builtin; refine wpList_append_rd _ rfl _ _ 88 rfl w.heap.size 3 i0 _ 8 Tryd.underlying88 hi0 hz0 hz1 hz2 rfl O k cO _ rfl (Own.fresh hown (Fresh.alloc _ _)) (wr.heap.size + 1) (some ⟨wr.heap.size, 0, none⟩) 1 1 [iv (U : Nat)] rfl (Rd.lit wr #[iv (U : Nat)] 3) (one_one _ _) (by unfold maxLen; omega) (by omega) (by have := hfr.size; simp; omega) ?_; intro A2 c2 w2 hown2 hg2))
              go_roundw
              case rel => exact ⟨k + 1, p + 8, c2, A2, vs ++ [U], by omega, by go_num, by go_num, by rw [HB2.out]; rfl, rfl, by omega, Lib.hid (HPS.out _ _ _ hown2 hg2)⟩
              case measure => simp [intOf]; omega
            · rw [if_pos (by omega)] at hs
              rw [if_neg hU] at hat
              have HAT := Lib.hid (hat (by omega))
              have HS := Lib.hid hs
              clear hs hon hld hat hbes hb2 hz e8 hU
              generalize b2n ((l.take k).any isOnes) = Q at *
              go_wp2_with (go_at_call 30; ((with_reducible refine HAT.out.mono ?_); rintro e w1 ⟨rfl, rfl⟩))
              go_ret
              refine ⟨hfr, ?_⟩
              rw [← HS.out]
              rfl
        · rw [if_neg h1] at hb2
          have hne : ((z : Int) == 4294967295) = false := by rw [beq_eq_false_iff_ne]; omega
          have hon := wd_same l (f.drop p) k z hz h1
          have hs := hAt.out.same
          rw [hon] at hs
          have HPS := Lib.hid (fun A2 c2 w2 => hAt.out.push hB hgs (z := z) (p' := p) (A2 := A2) (c2 := c2) (w2 := w2) hle (by rw [← hs, Option.map_map]; congr 1; funext x; simp))
          have HB2 := Lib.hid hb2
          clear hs hon hb2 hz h1
          generalize b2n ((l.take k).any isOnes) = Q at *
          go_wp2_with (at_builtin; refine wpList_append_rd _ rfl _ _ 88 rfl w.heap.size 3 i0 _ 8 Tryd.underlying88 hi0 hz0 hz1 hz2 rfl O k cO _ rfl (Own.fresh hown (Fresh.alloc _ _)) (wr.heap.size + 1) (some ⟨wr.heap.size, 0, none⟩) 1 1 [iv (z : Nat)] rfl (Rd.lit wr #[iv (z : Nat)] 3) (one_one _ _) (by unfold maxLen; omega) (by omega) (by have := hfr.size; simp; omega) ?_; intro A2 c2 w2 hown2 hg2)
          go_roundw
          case rel => exact ⟨k + 1, p, c2, A2, vs ++ [z], by omega, by go_num, rfl, by rw [HB2.out], rfl, hpB, Lib.hid (HPS.out _ _ _ hown2 hg2)⟩
          case measure => simp [intOf]; omega
      · have h0 : k = m := by omega
        subst h0
        have hlj : l.take k = l := List.take_of_length_le (Nat.le_of_eq HLM.out)
        rw [hlj]
        clear hlj
        have hs := hAt.out.same
        rw [List.drop_of_length_le (Nat.le_of_eq HLM.out)] at hs
        simp only [wd, Option.map_some, List.append_nil] at hs
        have HS := Lib.hid hs
        have hown := hAt.out.own
        have hfr := hAt.out.fresh
        clear hs
        generalize hq : b2n (l.any isOnes) = Q at *
        have HQ := Lib.hid hq
        clear hq
        go_wp2_with (at_builtin; refine wpList_append_rd _ rfl _ _ 88 rfl w.heap.size 3 i0 _ 8 Tryd.underlying88 hi0 hz0 hz1 hz2 rfl O k cO _ rfl (Own.fresh hown (Fresh.alloc _ _)) (wr.heap.size + 1) (some ⟨wr.heap.size, 0, none⟩) 1 1 [iv (Q : Nat)] rfl (Rd.lit wr #[iv (Q : Nat)] 3) (one_one _ _) (by unfold maxLen; omega) (by omega) (by have := hfr.size; simp; omega) ?_; intro A2 c2 w2 hown2 hg2)
        go_ret
        have hl := hAt.out.lv
        refine ⟨(hfr.trans (Fresh.alloc _ _)).append (Own.fresh hown (Fresh.alloc _ _)) (Nat.le_refl _) hg2, ?_⟩
        rw [← HS.out]
        obtain ⟨b2, off2, e2, _, _⟩ := hown2.rd.2 (by omega)
        subst e2
        refine ⟨_, c2, by rw [hl]; rfl, ?_⟩
        rw [hl, HQ.out]
        unfold nvs at hown2 ⊢
        rw [List.map_append]
        exact hown2
end Go.Proofs.YtmnejphdjnlbjaaDoor.recp
