/-
  The walk of the law WalTurned. My own text.
-/
import Derived.Test.YtcfijppfccfbdaaWalLaw
import Derived.Test.YtcfijppfccfbdaaWalRef2
import Derived.Test.YtcfijppfccfbdaaWalOpen
import Derived.Laws.BitsAllLaws
namespace Go.Proofs.Ytcfijppfccfbdaa.walTurned
open Go.RowKit Go.Proofs.Ytcfijppfccfbdaa.base Go.Proofs.Ytcfijppfccfbdaa.num Go.Proofs.Ytcfijppfccfbdaa.word Go.Proofs.Ytcfijppfccfbdaa.waln Go.Proofs.Ytcfijppfccfbdaa.walp
set_option linter.unusedVariables false
open Go.Proofs.Ytcfijppfccfbdaa.crcnum (turn turn_ahead turn_length)

theorem u8_turn (x w j : Nat) (hx : x < 256) : bits .xor .u8 (x : Int) ((w : Int) / 2 ^ (8 * j) % 256) = ((x ^^^ (w / 256 ^ j % 256) : Nat) : Int) := by
  have e : (w : Int) / 2 ^ (8 * j) % 256 = ((w / 256 ^ j % 256 : Nat) : Int) := by
    have : (2 : Int) ^ (8 * j) = ((256 ^ j : Nat) : Int) := by rw [Int.pow_mul]; simp
    rw [this]; omega
  rw [e, u8_xor_nat _ _ hx (Nat.mod_lt _ (by omega))]
theorem bv_turn (x w j : Nat) (hx : x < 256) : bv (UInt8.ofNat (x ^^^ (w / 256 ^ j % 256))) = .int .u8 ((x ^^^ (w / 256 ^ j % 256) : Nat) : Int) := by
  rw [bv, crcnum.ofNat_toNat _ (Nat.xor_lt_two_pow (n := 8) hx (Nat.mod_lt _ (by omega)))]
/-- a row of the call's own, as a block known whole -/
theorem Own.bk {w : World} {b0 n c : Nat} {e : TypeId} {A : Option Addr} {xs : List Value} (h : base.Own w b0 e A n c xs) (hn : 0 < n) : ∃ g rest, A = some ⟨g, 0, none⟩ ∧ b0 ≤ g ∧ Bk w g e (xs ++ rest) ∧ n ≤ c ∧ c ≤ maxLen := by
  rcases h.2 with ⟨_, h0⟩ | ⟨g, cap, cur, hv, hb, hg, h1, h2, h3, h4⟩
  · omega
  · injection hv with hA _ hc
    subst hc
    refine ⟨g, cur.toList.drop n, hA, hb, ?_, h1, h2⟩
    rw [Nat.mul_one] at h4
    rw [← h4, List.take_append_drop]
    simpa [Bk] using hg
theorem bk_rdr {w : World} {g n : Nat} {t : TypeId} {xs : List UInt8} {rest : List Value} (h : Bk w g t (xs.map bv ++ rest)) (hn : xs.length = n) : Rd w w.heap.size (some ⟨g, 0, none⟩) n (xs.map bv) :=
  ⟨by rw [List.length_map, hn], fun _ => ⟨g, 0, rfl, h.inside, fun j u hu => by rw [Nat.zero_add]; exact h.cell (by rw [List.getElem?_append_left (List.getElem?_eq_some_iff.1 hu).1]; exact hu)⟩⟩

set_option maxRecDepth 100000 in
set_option maxHeartbeats 2000000 in
theorem walTurned_walk (A0 : Option Addr) (n0 c0 : Nat) (l0 : List walp.Wp) (a1 : Int) (a2 : Int) (w : World) (b0 : walp.InWs w A0 n0 c0 l0) (w1 : (Lit.int .u16 a1).wf = true) (w2 : (Lit.int .u32 a2).wf = true) :
    Calls Try.prog 6 #[.slice A0 n0 c0, .int .u16 a1, .int .u32 a2] w fun e w' => e = .returned (.bool true) ∧ Below w.heap.size w w' := by
  obtain ⟨r0, hc0, hm0⟩ := b0
  have h1 : 0 ≤ a1 ∧ a1 ≤ 65535 := by simpa [Lit.wf, IntKind.min, IntKind.max, IntKind.signed, IntKind.bits] using w1
  have h2 : 0 ≤ a2 ∧ a2 ≤ 4294967295 := by simpa [Lit.wf, IntKind.min, IntKind.max, IntKind.signed, IntKind.bits] using w2
  obtain ⟨at_, rfl⟩ := Int.eq_ofNat_of_zero_le h1.1
  obtain ⟨by_, rfl⟩ := Int.eq_ofNat_of_zero_le h2.1
  unfold maxLen at hm0
  have HW := Lib.hid (wakes_any w)
  have hcw : IntKind.i64.wrap (at_ : Int) = (at_ : Int) := by rw [IntKind.wrap_i64]; omega
  have HQ := Lib.hid (fun (W : World) (hf : Fresh w W) => right_any A0 n0 c0 l0 W W.heap.size (r0.fresh hf) (Nat.le_refl _) (by omega) _ rfl)
  clear w1 w2
  by_cases hbig : 5 < n0
  · have hd : decide (5 < (n0 : Int)) = true := decide_eq_true (by omega)
    clear r0
    go_enter Try.func6, Try.ntmps6
    go_wp2_with (go_at_call 7; (refine HW.out.mono ?_); rintro e w1 ⟨rfl, hf1⟩)
    go_ret
    exact ⟨rfl, hf1⟩
  · have hd : decide (5 < (n0 : Int)) = false := decide_eq_false (by omega)
    by_cases hz : by_ = 0
    · subst hz
      clear r0
      go_enter Try.func6, Try.ntmps6
      go_wp2_with (go_at_call 7; (refine HW.out.mono ?_); rintro e w1 ⟨rfl, hf1⟩)
      go_ret
      exact ⟨rfl, hf1⟩
    · have hzb : ((by_ : Int) == 0) = false := by rw [beq_eq_false_iff_ne]; omega
      cases hrt : right (l0.map Wp.pg) with
      | false =>
        rw [hrt] at HQ
        clear r0
        go_enter Try.func6, Try.ntmps6
        go_wp2_with (first
          | (go_at_call 7; (refine HW.out.mono ?_); rintro e w1 ⟨rfl, hf1⟩; have HF1 := Lib.hid hf1; clear hf1)
          | (go_at_call 9; (refine (HQ.out _ HF1.out).mono ?_); rintro e w2 ⟨rfl, hf2⟩))
        go_ret
        exact ⟨rfl, HF1.out.trans hf2⟩
      | true =>
        rw [hrt] at HQ
        obtain ⟨N, hN⟩ : ∃ N, 12 + 516 * n0 = N := ⟨_, rfl⟩
        have hNb : N ≤ 4000 := by omega
        have hN0 : 12 ≤ N := by omega
        obtain ⟨ra, rb, rc⟩ := right_all hrt
        have hbl := batch_len (l0.map Wp.pg) ra
        rw [List.length_map, r0.1, hN] at hbl
        have HBY := Lib.hid (fun (W : World) (hf : Fresh w W) => refBytes_any A0 n0 c0 l0 W (r0.fresh hf) (by omega) hrt N hN)
        obtain ⟨k, hk⟩ : ∃ k, k = at_ % (N - 3) := ⟨_, rfl⟩
        have hkN : k + 4 ≤ N := by have := Nat.mod_lt at_ (show 0 < N - 3 by omega); omega
        have hN3 : ((N : Int) - 3) = ((N - 3 : Nat) : Int) := by omega
        have hki : (at_ : Int) % ((N - 3 : Nat) : Int) = (k : Int) := by rw [hk]; rfl
        have hne : ¬ ((N : Int) - 3) = 0 := by omega
        have htl : (turn (batch (l0.map Wp.pg)) k by_ 4).length = N := by rw [turn_length, hbl]
        have hgt := fun h8 : 8 ≤ k => get_turn (l0.map Wp.pg) hrt k by_ h8 (by omega) (by omega) hz
        have HG := Lib.hid (fun (W : World) (g c : Nat) (rest : List Value) (hb : Bk W g tB ((turn (batch (l0.map Wp.pg)) k by_ 4).map bv ++ rest)) (hc : N ≤ c) (hm : c ≤ maxLen) => get_any (some ⟨g, 0, none⟩) N c _ W (bk_rdr hb htl) hc hm (by omega))
        generalize hgo : waln.get (turn (batch (l0.map Wp.pg)) k by_ 4) = go at *
        generalize batch (l0.map Wp.pg) = bt at *
        have HGT := Lib.hid hgt
        have HBL := Lib.hid hbl
        clear r0 hgt hbl htl hk hN ra rb rc hrt hgo hz
        go_enter Try.func6, Try.ntmps6
        go_wp2_with (first
          | (go_at_call 7; (refine HW.out.mono ?_); rintro e w1 ⟨rfl, hf1⟩; have HF1 := Lib.hid hf1; clear hf1)
          | (go_at_call 9; (refine (HQ.out _ HF1.out).mono ?_); rintro e w2 ⟨rfl, hf2⟩; have HF2 := Lib.hid (HF1.out.trans hf2); clear hf2)
          | (go_at_call 11; (refine (HBY.out _ HF2.out).mono ?_); rintro e w3 ⟨A3, c3, rfl, hf3, ho3⟩; obtain ⟨g, rest, rfl, hg, hb3, hc3, hm3⟩ := Own.bk ho3 (by omega); have HF3 := Lib.hid (HF2.out.trans hf3); have HG3 := Lib.hid (Nat.le_trans HF2.out.size hg); have HB3 := Lib.hid hb3; clear hf3 ho3 hg hb3))
        rw [hki]
        clear hki hN3 hne
        go_loopw [34] (fun i wr => ∃ j : Nat, j ≤ 4 ∧ i = .int .i64 j ∧ Bk wr g tB ((turn bt k by_ j).map bv ++ rest) ∧ Fresh w wr) (fun i _ => 4 - (intOf i).toNat)
        case atStart => exact ⟨0, by omega, rfl, HB3.out, HF3.out⟩
        case round =>
          obtain ⟨j, hj, rfl, hb, hf⟩ := hrel
          by_cases hlt : j < 4
          · have hx : bt[k + j]? = some (bt.getD (k + j) 0) := by
              rw [List.getD_eq_getElem?_getD, List.getElem?_eq_getElem (by have := HBL.out; omega)]; rfl
            have hxt : (turn bt k by_ j)[k + j]? = some (bt.getD (k + j) 0) := by rw [turn_ahead _ _ _ _ _ (by omega)]; exact hx
            have hll : k + j < ((turn bt k by_ j).map bv).length := by rw [List.length_map, turn_length, HBL.out]; omega
            have hcx : wr.cell? ⟨g, k + j, none⟩ = some (.int .u8 ((bt.getD (k + j) 0).toNat : Nat)) := hb.cell (by rw [List.getElem?_append_left hll, List.getElem?_map, hxt]; rfl)
            have hfz := hb.free (k + j)
            have hxb := (bt.getD (k + j) 0).toNat_lt
            have hso := hb.put (k + j) (bv (UInt8.ofNat ((bt.getD (k + j) 0).toNat ^^^ (by_ / 256 ^ j % 256))))
            rw [List.set_append_left _ _ hll, ← List.map_set, bv_turn _ _ _ hxb] at hso
            have hkj : (k : Int) + (j : Int) < (N : Int) := by omega
            generalize hX : bt.getD (k + j) 0 = X at *
            have e1 := u8_turn X.toNat by_ j hxb
            have HX := Lib.hid hX
            have HSO := Lib.hid hso
            have HB := Lib.hid hb
            clear hX hso hb hx hxt hll
            go_wp2
            go_region
            go_wp2
            go_roundw
            case rel => exact ⟨j + 1, by omega, by go_num, by rw [turn, HX.out]; exact HSO.out, (hf.but HG3.out (But.put _ _)).trans (Fresh.drew _)⟩
            case measure => simp [intOf]; omega
          · have h4 : j = 4 := by omega
            subst h4
            have HB := Lib.hid hb
            clear hb
            by_cases h8 : 8 ≤ k
            · obtain ⟨e0, he0⟩ := HGT.out h8
              have hG := HG.out wr g c3 rest HB.out hc3 hm3
              rw [he0] at hG
              have HGG := Lib.hid hG
              clear hG
              have hne2 : (((e0 + 1 : Nat) : Int) != 0) = true := by rw [bne_iff_ne]; omega
              have hne3 : (((e0 : Nat) : Int) + 1 != 0) = true := by rw [bne_iff_ne]; omega
              go_wp2_with (go_at_call 13; ((refine HGG.out.mono ?_); rintro e w5 ⟨hf5, hq5⟩; cases hq5))
              go_ret
              exact ⟨rfl, hf.trans hf5⟩
            · have hk8 : decide ((k : Int) < 8) = true := decide_eq_true (by omega)
              have HGG := Lib.hid (HG.out wr g c3 rest HB.out hc3 hm3)
              clear HGT HG
              cases go with
              | bad e0 =>
                by_cases he0 : e0 = 0
                · subst he0
                  go_wp2_with (go_at_call 13; ((refine HGG.out.mono ?_); rintro e w5 ⟨hf5, hq5⟩; cases hq5))
                  go_ret
                  exact ⟨rfl, hf.trans hf5⟩
                · have hne2 : ((e0 : Int) != 0) = true := by rw [bne_iff_ne]; omega
                  go_wp2_with (go_at_call 13; ((refine HGG.out.mono ?_); rintro e w5 ⟨hf5, hq5⟩; cases hq5))
                  go_ret
                  exact ⟨rfl, hf.trans hf5⟩
              | ok lg =>
                go_wp2_with (go_at_call 13; ((refine HGG.out.mono ?_); rintro e w5 ⟨hf5, A5, m5, c5, ws5, rfl, _, _, _, _⟩))
                go_ret
                exact ⟨rfl, hf.trans hf5⟩
end Go.Proofs.Ytcfijppfccfbdaa.walTurned
