/-
  wal.Get. My own text.
-/
import Derived.Test.YtcfijppfccfbdaaWalPages
import Derived.Test.YtcfijppfccfbdaaWalPut
import Derived.Deep.RegionLaw
import Derived.Deep.RegionHeld3
namespace Go.Proofs.Ytcfijppfccfbdaa.walp
open Go.RowKit Go.Proofs.Ytcfijppfccfbdaa.base Go.Proofs.Ytcfijppfccfbdaa.num Go.Proofs.Ytcfijppfccfbdaa.word Go.Proofs.Ytcfijppfccfbdaa.waln
set_option linter.unusedVariables false

/-- what Get tells -/
def GotIs (w' : World) (e : Ending) : Got → Prop
  | .bad k => e = .returned (.tuple #[.slice none 0 0, .int .i64 (k : Nat)])
  | .ok l => ∃ A m cc ws, e = .returned (.tuple #[.slice A m cc, .int .i64 0]) ∧ WsAt w' w'.heap.size A m ws ∧ ws.map Wp.pg = l ∧ m ≤ cc ∧ cc ≤ maxLen

theorem get_bad (bs : List UInt8) (h : ¬ (waln.told bs).2 = 0) : waln.get bs = .bad (waln.told bs).2 := by unfold waln.get; rw [if_neg h]
theorem get_behind (bs : List UInt8) (h : (waln.told bs).2 = 0) : waln.get bs = behind (waln.told bs).1 bs := by unfold waln.get; rw [if_pos h]
theorem take_rd {w : World} {B n b off : Nat} {bs : List UInt8} (h : Rd w B (some ⟨b, off, none⟩) n (bs.map bv)) (lo k : Nat) (hk : lo + k ≤ n) (h0 : 0 < n) : Rd w B (some ⟨b, off + lo, none⟩) k (((bs.drop lo).take k).map bv) := by
  have hl := Rd.len8 h
  obtain ⟨b', off', e, hb, hc⟩ := h.2 h0
  cases e
  refine ⟨by rw [List.length_map, List.length_take, List.length_drop]; omega, fun _ => ⟨b, off + lo, rfl, hb, fun j u hu => ?_⟩⟩
  rw [Nat.add_assoc]
  refine hc _ _ ?_
  rw [List.map_take, List.map_drop, List.getElem?_take] at hu
  split at hu
  · rwa [List.getElem?_drop] at hu
  · cases hu

theorem pg_take (c : List UInt8) (m i : Nat) (hi : i < m) : pg (c.take (516 * m)) i = pg c i := by
  unfold pg
  rw [List.drop_take, List.take_take, Nat.min_eq_left (by omega), List.drop_take, List.take_take, Nat.min_eq_left (by omega)]
theorem pgs_take (c : List UInt8) (m : Nat) : pgs m (c.take (516 * m)) = pgs m c := by
  unfold pgs
  exact List.map_congr_left fun i hi => pg_take c m i (List.mem_range.1 hi)
theorem right_pgs (c : List UInt8) (m : Nat) (hm : m ≤ 4096) (hc : 516 * m ≤ c.length) : right (pgs m c) = rise (-1) ((pgs m c).map Prod.fst) := by
  have h1 : ((pgs m c).all fun p => decide (p.2.length = 512)) = true := by
    rw [List.all_eq_true]
    intro p hp
    obtain ⟨i, hi, rfl⟩ := List.mem_map.1 hp
    have := List.mem_range.1 hi
    rw [decide_eq_true_iff]
    show ((c.drop (516 * i + 4)).take 512).length = 512
    rw [List.length_take, List.length_drop]
    omega
  unfold right
  rw [h1, pgs_len, decide_eq_true hm]
  rfl

set_option maxRecDepth 100000 in
set_option maxHeartbeats 4000000 in
theorem get_any (A : Option Addr) (n c : Nat) (bs : List UInt8) (w : World) (hr : Rd w w.heap.size A n (bs.map bv)) (hc : n ≤ c) (hm : c ≤ maxLen) (hn : n ≤ 65536) :
    Calls Try.prog 13 #[.slice A n c] w fun e w' => Fresh w w' ∧ GotIs w' e (waln.get bs) := by
  have hl := Rd.len8 hr
  have HT := Lib.hid (told_any A n c bs w _ hr hc hm)
  have hle := told_le bs
  by_cases h0 : (waln.told bs).2 = 0
  · rw [get_behind bs h0]
    rw [h0] at HT
    generalize (waln.told bs).1 = m at *
    obtain ⟨E, hE⟩ : ∃ E : Nat, E = 8 + 516 * m := ⟨_, rfl⟩
    have HS := Lib.hid (fun W : World => size_nat m m W hle rfl ((E : Int) + 4) (by omega))
    unfold behind
    by_cases h1 : n < 12 + 516 * m
    · rw [if_pos (by omega)]
      have h1' : (n : Int) < (E : Int) + 4 := by omega
      have hEb : E ≤ 3000000 := by omega
      clear hr
      go_enter Try.func13, Try.ntmps13
      go_wp2_with (first
        | (go_at_call 22; (refine HT.out.mono ?_); rintro e w1 ⟨rfl, rfl⟩)
        | (go_at_call 12; (refine (HS.out _).mono ?_); rintro e w1 ⟨rfl, rfl⟩))
      go_ret2
      exact ⟨Fresh.refl _, rfl⟩
    · rw [if_neg (by omega)]
      have h1' : ¬ (n : Int) < (E : Int) + 4 := by omega
      obtain ⟨b, off, rfl, hb, hcell⟩ := hr.2 (by omega)
      have hE4 : E + 4 ≤ n := by omega
      have b1 : (E : Int) ≤ (c : Int) := by omega
      have b2 : (E : Int) + 4 ≤ (c : Int) := by omega
      have b3 : (0 : Int) ≤ (E : Int) + 4 := by omega
      have b4 : ((E : Int) + 4).toNat = E + 4 := by omega
      have b5 : ¬ c = E := by omega
      have b6 : IntKind.i64.wrap ((E : Int) + 4) = (E : Int) + 4 := by rw [IntKind.wrap_i64]; omega
      have b7 : (E : Int) ≤ (E : Int) + 4 := by omega
      have b8 : E + 4 - E = 4 := by omega
      have b9 : (8 : Int) ≤ (E : Int) := by omega
      have b10 : ¬ c = 8 := by omega
      have r1 := take_rd hr 0 E (by omega) (by omega)
      rw [List.drop_zero, Nat.add_zero] at r1
      have r2 := take_rd hr E 4 (by omega) (by omega)
      have r3 := take_rd hr 8 (516 * m) (by omega) (by omega)
      rw [← hE]
      have hlt4 : ((bs.drop E).take 4).length = 4 := by rw [List.length_take, List.length_drop]; omega
      have hsl := crcnum.sum_lt (bs.take E)
      have HSU := Lib.hid (fun (W : World) (hf : Fresh w W) (d : Nat) => sum_any (some ⟨b, off, none⟩) E d (bs.take E) W w.heap.size _ (r1.below hf (Nat.le_refl _)) hf.size (by omega) rfl)
      have hse := sum_bytes ((bs.drop E).take 4) hlt4 (crcnum.sum (bs.take E)) hsl
      generalize crcnum.sum (bs.take E) = S at *
      have HEQ := Lib.hid (fun (W : World) (hf : Fresh w W) (A' : Option Addr) (c' d : Nat) (hra : Rd W W.heap.size A' 4 ((low 4 S).map bv)) (t : Bool) (ht : decide (low 4 S = (bs.drop E).take 4) = t) => equal_any A' (some ⟨b, off + E, none⟩) 4 4 c' d (low 4 S) ((bs.drop E).take 4) W _ w.heap.size hra (r2.below hf (Nat.le_refl _)) t ht)
      have hrp := right_pgs (bs.drop 8) m hle (by rw [List.length_drop]; omega)
      have HPA := Lib.hid (fun (W : World) (hf : Fresh w W) (d : Nat) (hd : 516 * m ≤ d) (hd2 : d ≤ maxLen) (M : Nat) (hM : 516 * m = M) => pages_any (some ⟨b, off + 8, none⟩) m d M ((bs.drop 8).take (516 * m)) W hM (by rw [← hM]; exact (r3.below hf (Nat.le_refl _)).up hf.size) (by omega) hd2 hle)
      simp only [pgs_take] at HPA
      generalize pgs m (bs.drop 8) = L at *
      unfold maxLen at hm
      by_cases h2 : num ((bs.drop E).take 4) = S
      · rw [if_pos h2]
        have hdt := decide_eq_true (hse.2 h2)
        rw [← hrp]
        have hMA := fun (W : World) (A : Option Addr) (n c : Nat) (ws : List Wp) (hw : WsAt W W.heap.size A n ws) (hq : ws.map Wp.pg = L) => may_any A n c ws W _ hw (Nat.le_refl _) (right L) (by rw [hq])
        generalize right L = t at *
        have HMA := Lib.hid hMA
        clear hMA hrp hse r1 r2 r3 hr hcell hsl hlt4 hl h2
        have HDT := Lib.hid hdt
        have HE := Lib.hid hE
        clear hdt hE h1
        cases t with
        | true =>
          go_enter Try.func13, Try.ntmps13
          go_wp2_with (first
            | (go_at_call 22; (refine HT.out.mono ?_); rintro e w1 ⟨rfl, rfl⟩)
            | (go_at_call 12; (refine (HS.out _).mono ?_); rintro e w1 ⟨rfl, rfl⟩))
          go_region_held3 (fun _ => True) (exact trivial) (first
            | (go_at_call 18; ((with_reducible refine (HSU.out _ (Fresh.drew _) _).mono ?_); rintro e w2 ⟨A2, c2, rfl, hf2, hr2⟩; have HF2 := Lib.hid ((Fresh.drew w).trans hf2); have HR2 := Lib.hid hr2; clear hf2 hr2))
            | (go_at_call 23; ((with_reducible refine (HEQ.out _ HF2.out _ _ _ HR2.out _ HDT.out).mono ?_); rintro e w3 ⟨rfl, rfl⟩)))
          go_wp2_with (first
            | (go_at_call 24; ((refine (HPA.out _ HF2.out _ (by have := HE.out; omega) (by unfold maxLen; omega) _ (by have := HE.out; omega)).mono ?_); rintro e w4 ⟨A4, c4, ws, rfl, hf4, hw4, hq4, hc4, hd4⟩; have HF4 := Lib.hid (HF2.out.trans hf4); have HW4 := Lib.hid hw4; have HQ4 := Lib.hid hq4; have HC4 := Lib.hid hc4; have HD4 := Lib.hid hd4; clear hf4 hw4 hq4 hc4 hd4))
            | (go_at_call 16; ((refine (HMA.out _ _ _ _ _ HW4.out HQ4.out).mono ?_); rintro e w5 ⟨rfl, hf5⟩; have HF5 := Lib.hid (HF4.out.trans hf5); have HW5 := Lib.hid (HW4.out.fresh hf5); clear hf5)))
          go_ret2
          exact ⟨HF5.out, A4, m, c4, ws, rfl, HW5.out, HQ4.out, HC4.out, HD4.out⟩
        | false =>
          go_enter Try.func13, Try.ntmps13
          go_wp2_with (first
            | (go_at_call 22; (refine HT.out.mono ?_); rintro e w1 ⟨rfl, rfl⟩)
            | (go_at_call 12; (refine (HS.out _).mono ?_); rintro e w1 ⟨rfl, rfl⟩))
          go_region_held3 (fun _ => True) (exact trivial) (first
            | (go_at_call 18; ((with_reducible refine (HSU.out _ (Fresh.drew _) _).mono ?_); rintro e w2 ⟨A2, c2, rfl, hf2, hr2⟩; have HF2 := Lib.hid ((Fresh.drew w).trans hf2); have HR2 := Lib.hid hr2; clear hf2 hr2))
            | (go_at_call 23; ((with_reducible refine (HEQ.out _ HF2.out _ _ _ HR2.out _ HDT.out).mono ?_); rintro e w3 ⟨rfl, rfl⟩)))
          go_wp2_with (first
            | (go_at_call 24; ((refine (HPA.out _ HF2.out _ (by have := HE.out; omega) (by unfold maxLen; omega) _ (by have := HE.out; omega)).mono ?_); rintro e w4 ⟨A4, c4, ws, rfl, hf4, hw4, hq4, hc4, hd4⟩; have HF4 := Lib.hid (HF2.out.trans hf4); have HW4 := Lib.hid hw4; have HQ4 := Lib.hid hq4; have HC4 := Lib.hid hc4; have HD4 := Lib.hid hd4; clear hf4 hw4 hq4 hc4 hd4))
            | (go_at_call 16; ((refine (HMA.out _ _ _ _ _ HW4.out HQ4.out).mono ?_); rintro e w5 ⟨rfl, hf5⟩; have HF5 := Lib.hid (HF4.out.trans hf5); have HW5 := Lib.hid (HW4.out.fresh hf5); clear hf5)))
          go_ret2
          exact ⟨HF5.out, rfl⟩
      · rw [if_neg h2]
        have hdf := decide_eq_false (fun e => h2 (hse.1 e))
        clear hrp hse r1 r2 r3 hr hcell hsl hlt4 hl h2 HPA
        have HDT := Lib.hid hdf
        have HE := Lib.hid hE
        clear hdf hE h1
        go_enter Try.func13, Try.ntmps13
        go_wp2_with (first
          | (go_at_call 22; (refine HT.out.mono ?_); rintro e w1 ⟨rfl, rfl⟩)
          | (go_at_call 12; (refine (HS.out _).mono ?_); rintro e w1 ⟨rfl, rfl⟩))
        go_region_held3 (fun _ => True) (exact trivial) (first
          | (go_at_call 18; ((with_reducible refine (HSU.out _ (Fresh.drew _) _).mono ?_); rintro e w2 ⟨A2, c2, rfl, hf2, hr2⟩; have HF2 := Lib.hid ((Fresh.drew w).trans hf2); have HR2 := Lib.hid hr2; clear hf2 hr2))
          | (go_at_call 23; ((with_reducible refine (HEQ.out _ HF2.out _ _ _ HR2.out _ HDT.out).mono ?_); rintro e w3 ⟨rfl, rfl⟩)))
        go_wp2
        go_ret2
        exact ⟨HF2.out, rfl⟩
  · rw [get_bad bs h0]
    generalize (waln.told bs).2 = k at *
    generalize (waln.told bs).1 = m at *
    have hk : ((k : Int) != 0) = true := by rw [bne_iff_ne]; omega
    clear hr
    go_enter Try.func13, Try.ntmps13
    go_wp2_with (go_at_call 22; (refine HT.out.mono ?_); rintro e w1 ⟨rfl, rfl⟩)
    go_ret2
    exact ⟨Fresh.refl _, rfl⟩
end Go.Proofs.Ytcfijppfccfbdaa.walp
