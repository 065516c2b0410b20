/-
  The walk of the law HuffReads. My own text.
-/
import Derived.Test.YtdcdkafpmnlgoaaHuffStep
import Derived.Test.YtdcdkafpmnlgoaaOpen
namespace Go.Proofs.Ytdcdkafpmnlgoaa.huffReads
open Go.RowKit Go.Proofs.Ytdcdkafpmnlgoaa.base Go.Proofs.Ytdcdkafpmnlgoaa.num Go.Proofs.Ytdcdkafpmnlgoaa.bitnum Go.Proofs.Ytdcdkafpmnlgoaa.bitp Go.Proofs.Ytdcdkafpmnlgoaa.huffnum Go.Proofs.Ytdcdkafpmnlgoaa.huffp
set_option linter.unusedVariables false

/-- how long a slice is -/
def lenOf : Value → Nat
  | .slice _ n _ => n
  | _ => 0
theorem left_N (g : Nat) (bs : List UInt8) (p N : Nat) (bl : List Nat) (w : World) (h : RdrAt w g bs p bl) (hp : p ≤ 8 * bs.length) (hn : bs.length ≤ 1099511627776) (hN : 8 * bs.length - p = N) :
    Calls Try.prog 16 #[ptr g] w fun e w' => e = .returned (.int .i64 N) ∧ Fresh w w' := by
  subst hN
  exact left_any g bs p bl w h hp hn
theorem read_is (A : Option Addr) (n c : Nat) (bs : List UInt8) (w : World) (B : Nat) (hr : Rd w B A n (bs.map bv)) (hB : B ≤ w.heap.size) (hn : n ≤ 65536) (g : Nat) (hg : g = w.heap.size) :
    Calls Try.prog 12 #[.slice (some ⟨g, 0, none⟩) 1 1] (w.alloc (.cells #[.slice A n c] 36)) (RdrNew w bs) := read_one A n c bs w B hr hB hn g hg
theorem refNew_ok (A : Option Addr) (n c : Nat) (zs : List Int) (ls : List Nat) (w : World) (B : Nat) (hr : Rd w B A n (zs.map iv)) (hB : B ≤ w.heap.size) (hn : n ≤ 320) (hm : May zs) (hls : zs.map Int.toNat = ls) (ho : tx ls 15 ≤ 32768) (hln : ls.length = n) :
    Calls Try.prog 9 #[.slice A n c] w fun e w' => ∃ L R F, e = .returned (.agg #[.slice (some ⟨L, 0, none⟩) n n, .int .i64 (F : Nat)]) ∧ Bits w' L ls R 16 0 ∧ Fresh w w' := by
  refine (refNew_any A n c zs ls w B hr hB hn hm hls).mono ?_
  rintro e w' ⟨hf, (⟨h, _⟩ | ⟨_, A, L, R, F, he, hF, ha⟩)⟩
  · omega
  · rw [ha.at_, hln] at he
    exact ⟨L, R, F, he, ha.all, hf⟩

set_option maxRecDepth 100000 in
set_option maxHeartbeats 8000000 in
theorem huffReads_walk (A0 : Option Addr) (n0 c0 : Nat) (z0 : List Int) (A1 : Option Addr) (n1 c1 : Nat) (x1 : List UInt8) (w : World) (r0 : InRow .i64 w A0 n0 c0 z0) (b1 : InBytes w A1 n1 c1 x1) :
    Calls Try.prog 4 #[.slice A0 n0 c0, .slice A1 n1 c1] w fun e w' => e = .returned (.bool true) ∧ Below w.heap.size w w' := by
  obtain ⟨hr0, hn0, hm0, hz0⟩ := r0
  obtain ⟨hrb, hnb, hmb⟩ := b1
  have hr : Rd w w.heap.size A0 n0 (z0.map iv) := hr0
  have hlz : z0.length = n0 := by have := hr0.1; rwa [List.length_map] at this
  have hlx : x1.length = n1 := by have := hrb.1; rwa [List.length_map] at this
  have hm : n0 ≤ maxLen := by omega
  have hm1 : n1 ≤ maxLen := by omega
  have HM := Lib.hid hm
  unfold maxLen at hm hm1
  clear hr0 hz0 hm0 hmb
  by_cases hbig : 400 < n0
  · go_enter Try.func4, Try.ntmps4
    go_wp2_with (go_at_call 6; refine (wakes_any _).mono ?_; rintro e wA ⟨rfl, hfA⟩)
    go_ret
    exact ⟨rfl, hfA⟩
  by_cases hbig1 : 100 < n1
  · go_enter Try.func4, Try.ntmps4
    go_wp2_with (go_at_call 6; refine (wakes_any _).mono ?_; rintro e wA ⟨rfl, hfA⟩)
    go_ret
    exact ⟨rfl, hfA⟩
  have HR := Lib.hid hr
  have HRB := Lib.hid hrb
  have HLX := Lib.hid hlx
  by_cases hmay : May z0 ∧ n0 ≤ 320
  · have hls : ∀ n ∈ z0.map Int.toNat, n ≤ 15 := by
      intro n hn
      obtain ⟨z, hz, rfl⟩ := List.mem_map.1 hn
      have := hmay.1 z hz; omega
    have hll : (z0.map Int.toNat).length = n0 := by rw [List.length_map, hlz]
    obtain ⟨ls, hlse⟩ : ∃ ls, z0.map Int.toNat = ls := ⟨_, rfl⟩
    rw [hlse] at hls hll
    obtain ⟨hmay, hn320⟩ := hmay
    have HLSE := Lib.hid hlse
    have HLL := Lib.hid hll
    have HLS := Lib.hid hls
    have HMAY := Lib.hid hmay
    clear hlse hll hls hmay hlz hr hrb hlx
    by_cases hov : 32768 < tx ls 15
    · have HOV := Lib.hid hov
      clear hov
      go_enter Try.func4, Try.ntmps4
      go_wp2_with (first
        | (go_at_call 6; refine (wakes_any _).mono ?_; rintro e wA ⟨rfl, hfA⟩)
        | (go_at_call 8; refine (may_any A0 n0 c0 z0 wA w.heap.size (HR.out.below hfA (Nat.le_refl _)) HM.out true ⟨fun _ => ⟨HMAY.out, by omega⟩, fun _ => rfl⟩).mono ?_; rintro e wB ⟨rfl, rfl⟩)
        | (go_at_call 7; refine (new_over A0 n0 c0 z0 ls wA w.heap.size (HR.out.below hfA (Nat.le_refl _)) hfA.size (by omega) HMAY.out HLSE.out HOV.out).mono ?_; rintro e w1 ⟨rfl, hf1⟩))
      go_ret
      exact ⟨rfl, hfA.trans hf1⟩
    · have HOV : Hid (tx ls 15 ≤ 32768) := Nat.not_lt.1 hov
      clear hov
      go_enter Try.func4, Try.ntmps4
      go_wp2_with (first
        | (go_at_call 6; refine (wakes_any _).mono ?_; rintro e wA ⟨rfl, hfA⟩)
        | (go_at_call 8; refine (may_any A0 n0 c0 z0 wA w.heap.size (HR.out.below hfA (Nat.le_refl _)) HM.out true ⟨fun _ => ⟨HMAY.out, by omega⟩, fun _ => rfl⟩).mono ?_; rintro e wB ⟨rfl, rfl⟩)
        | (go_at_call 7; refine (new_ok A0 n0 c0 z0 ls wA w.heap.size (HR.out.below hfA (Nat.le_refl _)) hfA.size (by omega) HMAY.out HLSE.out HOV.out).mono ?_; rintro e w1 ⟨g, bl, rfl, hC1, hS1⟩; have hfB := hfA.trans hS1.1)
        | (go_at_call 9; refine (refNew_ok A0 n0 c0 z0 ls w1 w.heap.size (HR.out.below hfB (Nat.le_refl _)) hfB.size (by omega) HMAY.out HLSE.out HOV.out HLL.out).mono ?_; rintro e w2 ⟨L, R, F, rfl, hB2, hf2⟩; have hX2 := Bk.made w2 tRef #[.slice (some ⟨L, 0, none⟩) n0 n0, .int .i64 (F : Nat)]; have hfC := (hfB.trans hf2).trans (Fresh.alloc w2 (.cells #[.slice (some ⟨L, 0, none⟩) n0 n0, .int .i64 (F : Nat)] tRef)))
        | (go_at_call 12; refine (read_is A1 n1 c1 x1 (w2.alloc (.cells #[.slice (some ⟨L, 0, none⟩) n0 n0, .int .i64 (F : Nat)] tRef)) w.heap.size (HRB.out.below hfC (Nat.le_refl _)) hfC.size (by omega) _ (by simp)).mono ?_; rintro e w4 ⟨q, rl, rfl, hR4, hS4⟩; have hfD := hfC.trans hS4.1)
        | (go_at_call 13; refine (Bits_any A1 n1 c1 x1 w4 w.heap.size (HRB.out.below hfD (Nat.le_refl _)) hfD.size (by omega)).mono ?_; rintro e w5 ⟨AA, cc, rfl, hf5, ho5⟩))
      obtain ⟨X, hX⟩ : ∃ X, w2.heap.size = X := ⟨_, rfl⟩
      have hC3' := (hC1.fresh hf2).fresh (Fresh.alloc w2 (.cells #[.slice (some ⟨L, 0, none⟩) n0 n0, .int .i64 (F : Nat)] tRef))
      have hB3' := hB2.fresh (Fresh.alloc w2 (.cells #[.slice (some ⟨L, 0, none⟩) n0 n0, .int .i64 (F : Nat)] tRef))
      rw [hX] at hX2 ⊢
      have ho5' : Own w5 w4.heap.size tInt AA (8 * n1) cc (huffp.nv (lb (8 * n1) (num x1))) := ho5
      generalize (w2.alloc (.cells #[.slice (some ⟨L, 0, none⟩) n0 n0, .int .i64 (F : Nat)] tRef)) = w3 at *
      have hXin := hX2.inside
      have hblin := hC3'.inside
      have hcap := ho5'.cap
      have hS5 := hS4.fresh hf5
      obtain ⟨ab, habX, habs0, hRb0⟩ := Own.rdb ho5' X (Nat.lt_of_lt_of_le hXin (Nat.le_trans hS4.1.size hf5.size))
      have hab0 : ab ∉ rl := fun h => by
        have h1 := hS4.2 ab h
        have h2 := hR4.inside ab h
        rcases habX with e | e <;> omega
      have hR5 := hR4.fresh hf5
      have HC3 := Lib.hid hC3'
      have HB3 := Lib.hid hB3'
      have HX3 := Lib.hid hX2
      have HRB0 := Lib.hid hRb0
      have HBL := Lib.hid hblin
      clear hC1 hB2 hX2 hS1 ho5 ho5' hC3' hB3' hS4 hR4 hRb0 hblin habX hX hf5 hf2 hfB hfD hXin
      go_loopw [9] (fun a wr => ∃ (p N c : Nat) (A : Option Addr) (rl : List Nat), a = .slice A N c ∧ Hid (p + N = 8 * n1) ∧ N ≤ 800 ∧ N ≤ c ∧ Hid (c ≤ maxLen) ∧ RdrAt wr q x1 p rl ∧ Since w3 wr rl ∧ ab ∉ rl ∧ ab < wr.heap.size ∧ RdB wr ab A N (huffp.nv (lb N (num x1 / 2 ^ p)))) (fun a _ => lenOf a)
      case atStart => exact ⟨0, 8 * n1, cc, AA, rl, rfl, by simp [Hid], by omega, hcap.1, hcap.2, hR5, hS5, hab0, habs0, by rw [Nat.pow_zero, Nat.div_one]; exact HRB0.out⟩
      case round =>
        obtain ⟨p, N, c, A, rl, rfl, hpN, hN8, hNc, hcm, hR, hS, hab, habs, hRb⟩ := hrel
        have hC3 := HC3.out
        have hB3 := HB3.out
        have hX3 := HX3.out
        obtain ⟨U, hUe⟩ : ∃ U, Hid (U = num x1 / 2 ^ p) := ⟨_, Lib.hid rfl⟩
        rw [← hUe.out] at hRb
        obtain ⟨many, hmany⟩ : ∃ many, many = min 15 N := ⟨_, rfl⟩
        obtain ⟨t, ht⟩ : ∃ t, t = rev 15 (U % 2 ^ many) := ⟨_, rfl⟩
        have hnx : Nxt ls many U t := ⟨by omega, ht, HOV.out, HLS.out⟩
        have HNX := Lib.hid hnx
        have HNE : Hid (8 * x1.length - p = N) := by show _ = _; rw [HLX.out]; have := hpN.out; omega
        have HPL : Hid (p ≤ 8 * x1.length) := by show _ ≤ _; rw [HLX.out]; have := hpN.out; omega
        have HOFF : Hid (∀ b ∈ bl, b ∉ rl) := fun b hb h => by have h1 := hS.2 b h; have h2 := HBL.out b hb; omega
        have HMY := Lib.hid hmany
        have HRBN := Lib.hid hRb
        clear hnx hmany ht
        by_cases hd : tx ls 15 ≤ t
        · have HD := Lib.hid hd
          clear hd
          go_wp2_with (first
              | (go_at_call 14; refine (next_data g q p many N U t ls bl rl x1 wr (hC3.fresh hS.1) hR HPL.out (by rw [HLX.out]; omega) HOFF.out HNE.out HMY.out hUe.out HNX.out HD.out).mono ?_; rintro e w6 ⟨rfl, rl6, hR6, hT6⟩; have hS6 := hS.turn hT6; have hab6 := hT6.apart habs hab; have hRb6 := hRb.keep (hT6.block ab habs hab); have habs6 := Nat.lt_of_lt_of_le habs hT6.size; have hX6 := hX3.fresh hS6.1; have hx0 : w6.cell? ⟨X, 0, none⟩ = some (.slice (some ⟨L, 0, none⟩) n0 n0) := hX6.cell rfl; have hx1 : w6.cell? ⟨X, 1, none⟩ = some (.int .i64 (F : Nat)) := hX6.cell rfl)
              | (go_at_call 15; refine (refNext_data L n0 F ls R A N c U many t w6 w6.heap.size (hB3.fresh hS6.1) (hRb6.rd habs6) (Nat.le_refl _) (by omega) HLL.out hn320 HLS.out HMY.out HNX.out HD.out).mono ?_; rintro e w7 ⟨rfl, hf7⟩; have hR7 := (hR6.fresh hf7).fresh (Fresh.alloc w7 (.cells #[.int .i64 0, .int .i64 0, .int .i64 12] tGot)))
              | (go_at_call 16; refine (left_N q x1 p N rl6 _ hR7 HPL.out (by rw [HLX.out]; omega) HNE.out).mono ?_; rintro e w8 ⟨rfl, hf8⟩))
          go_ret
          exact ⟨rfl, (((hfC.trans hS6.1).trans hf7).trans (Fresh.alloc _ _)).trans hf8⟩
        · obtain ⟨k, hk1, hk15, hlo, hhi⟩ := find ls 15 (Nat.le_refl _) (Nat.not_le.1 hd)
          have HLO := Lib.hid hlo
          have HHI := Lib.hid hhi
          clear hd hlo hhi
          by_cases hkm : many < k
          · have HKM := Lib.hid hkm
            go_wp2_with (first
              | (go_at_call 14; refine (next_end g q p many N U t ls bl rl x1 wr (hC3.fresh hS.1) hR HPL.out (by rw [HLX.out]; omega) HOFF.out HNE.out HMY.out hUe.out HNX.out hk1 hk15 HLO.out HHI.out HKM.out).mono ?_; rintro e w6 ⟨rfl, rl6, hR6, hT6⟩; have hS6 := hS.turn hT6; have hab6 := hT6.apart habs hab; have hRb6 := hRb.keep (hT6.block ab habs hab); have habs6 := Nat.lt_of_lt_of_le habs hT6.size; have hX6 := hX3.fresh hS6.1; have hx0 : w6.cell? ⟨X, 0, none⟩ = some (.slice (some ⟨L, 0, none⟩) n0 n0) := hX6.cell rfl; have hx1 : w6.cell? ⟨X, 1, none⟩ = some (.int .i64 (F : Nat)) := hX6.cell rfl)
              | (go_at_call 15; refine (refNext_end L n0 F ls R A N c U many t w6 w6.heap.size (hB3.fresh hS6.1) (hRb6.rd habs6) (Nat.le_refl _) (by omega) HLL.out hn320 HLS.out HMY.out HNX.out hk1 hk15 HLO.out HHI.out HKM.out).mono ?_; rintro e w7 ⟨rfl, hf7⟩; have hR7 := (hR6.fresh hf7).fresh (Fresh.alloc w7 (.cells #[.int .i64 0, .int .i64 0, .int .i64 3] tGot)))
              | (go_at_call 16; refine (left_N q x1 p N rl6 _ hR7 HPL.out (by rw [HLX.out]; omega) HNE.out).mono ?_; rintro e w8 ⟨rfl, hf8⟩))
            go_ret
            exact ⟨rfl, (((hfC.trans hS6.1).trans hf7).trans (Fresh.alloc _ _)).trans hf8⟩
          · have hkle : k ≤ many := Nat.not_lt.1 hkm
            have hkN : k ≤ N := by have := HMY.out; omega
            obtain ⟨s, hs, _⟩ := HNX.out.comes hk1 hk15 HLO.out HHI.out hkle
            have HS := Lib.hid hs
            have hs320 : s < 320 := by
              have := syms_lt s (List.mem_of_getElem? hs)
              rw [HLL.out] at this; omega
            have HKLE := Lib.hid hkle
            have HP2 : Hid (p + k ≤ 8 * x1.length) := by show _ ≤ _; rw [HLX.out]; have := hpN.out; omega
            have HN2 : Hid (8 * x1.length - (p + k) = N - k) := by show _ = _; have := HNE.out; omega
            clear hs hkm hkle
            go_wp2_with (first
              | (go_at_call 14; refine (next_ok g q p many N U t ls bl rl x1 wr (hC3.fresh hS.1) hR HPL.out (by rw [HLX.out]; omega) HOFF.out HNE.out HMY.out hUe.out HNX.out hk1 hk15 HLO.out HHI.out HKLE.out HS.out).mono ?_; rintro e w6 ⟨rfl, rl6, hR6, hT6⟩; have hS6 := hS.turn hT6; have hab6 := hT6.apart habs hab; have hRb6 := hRb.keep (hT6.block ab habs hab); have habs6 := Nat.lt_of_lt_of_le habs hT6.size; have hX6 := hX3.fresh hS6.1; have hx0 : w6.cell? ⟨X, 0, none⟩ = some (.slice (some ⟨L, 0, none⟩) n0 n0) := hX6.cell rfl; have hx1 : w6.cell? ⟨X, 1, none⟩ = some (.int .i64 (F : Nat)) := hX6.cell rfl)
              | (go_at_call 15; refine (refNext_ok L n0 F ls R A N c U many t w6 w6.heap.size (hB3.fresh hS6.1) (hRb6.rd habs6) (Nat.le_refl _) (by omega) HLL.out hn320 HLS.out HMY.out HNX.out hk1 hk15 HLO.out HHI.out HKLE.out HS.out).mono ?_; rintro e w7 ⟨rfl, hf7⟩; have hR7 := (hR6.fresh hf7).fresh (Fresh.alloc w7 (.cells #[.int .i64 (s : Nat), .int .i64 (k : Nat), .int .i64 0] tGot)))
              | (go_at_call 16; refine (left_N q x1 (p + k) (N - k) rl6 _ hR7 HP2.out (by rw [HLX.out]; omega) HN2.out).mono ?_; rintro e w8 ⟨rfl, hf8⟩))
            have hF8 : Fresh w6 w8 := (hf7.trans (Fresh.alloc w7 (.cells #[.int .i64 (s : Nat), .int .i64 (k : Nat), .int .i64 0] tGot))).trans hf8
            have hRb8 := (hRb6.keep (hF8.block ab habs6)).cut (lo := k) (cap := c) hkN hNc
            have hUk : U / 2 ^ k = num x1 / 2 ^ (p + k) := by rw [hUe.out, Nat.div_div_eq_div_mul, ← Nat.pow_add]
            have e : (huffp.nv (lb N U)).drop k = huffp.nv (lb (N - k) (num x1 / 2 ^ (p + k))) := by rw [nv_drop N k U hkN, hUk]
            rw [e] at hRb8
            refine ⟨⟨p + k, N - k, c - k, _, rl6, rfl, ?_, by omega, by omega, ?_, hR7.fresh hf8, hS6.fresh hF8, hab6, Nat.lt_of_lt_of_le habs6 hF8.size, hRb8⟩, ?_⟩
            · show _ = _
              have := hpN.out; omega
            · show _ ≤ _
              have := hcm.out; omega
            · show N - k < N
              omega
  · have HMAY := Lib.hid hmay
    clear hmay
    go_enter Try.func4, Try.ntmps4
    go_wp2_with (first
      | (go_at_call 6; refine (wakes_any _).mono ?_; rintro e wA ⟨rfl, hfA⟩)
      | (go_at_call 8; refine (may_any A0 n0 c0 z0 wA w.heap.size (HR.out.below hfA (Nat.le_refl _)) HM.out false ⟨fun h => Bool.noConfusion h, fun h => absurd h HMAY.out⟩).mono ?_; rintro e wB ⟨rfl, rfl⟩))
    go_ret
    exact ⟨rfl, hfA⟩
end Go.Proofs.Ytdcdkafpmnlgoaa.huffReads
