/-
  The reference's Find: my own text.
-/
import Derived.Test.YtmnegmebkmihhaaGreatDoorRecTlE
import Derived.Test.YtmnegmebkmihhaaGreatDoorRecTlB
namespace Go.Proofs.YtmnegmebkmihhaaGreatDoor.recp
open Go.RowKit Go.Proofs.YtmnegmebkmihhaaGreatDoor.base Go.Proofs.YtmnegmebkmihhaaGreatDoor.num Go.Proofs.YtmnegmebkmihhaaGreatDoor.word Go.Proofs.YtmnegmebkmihhaaGreatDoor.recn
set_option linter.unusedVariables false
theorem find_none {xs : List UInt8} {n : Nat} (hn : xs.length = n) (h : lastAt xs (n - 65557) (n - 21) = none) : find xs = none := by
  unfold find; rw [hn, h]
theorem find_some {xs : List UInt8} {n p : Nat} (hn : xs.length = n) (h : lastAt xs (n - 65557) (n - 21) = some p) :
    find xs = if nm xs (p + 10) 2 = 65535 ∨ nm xs (p + 12) 4 = 4294967295 ∨ nm xs (p + 16) 4 = 4294967295 then wideTl xs p
      else some ⟨nm xs (p + 10) 2, nm xs (p + 12) 4, nm xs (p + 16) 4, false⟩ := by
  unfold find; rw [hn, h]
set_option maxRecDepth 100000 in
set_option maxHeartbeats 8000000 in
theorem refFind_any (A : Option Addr) (n c : Nat) (xs : List UInt8) (w : World) (B : Nat) (hr : Rd w B A n (xs.map bv)) (hB : B ≤ w.heap.size) (hc : n ≤ c) (hm : c ≤ maxLen) (hn : n ≤ 1099511627776) (r : Option Tl) (hres : find xs = r) :
    Calls Tryz.prog 39 #[.slice A n c] w fun e w' => FoundIs r e ∧ Fresh w w' := by
  have hlx : xs.length = n := by have := hr.1; rwa [List.length_map] at this
  have hz := Bk.made w tFound #[iv 0, iv 0, iv 0, .bool false, .bool false]
  have hf := Fresh.alloc w (.cells #[iv 0, iv 0, iv 0, .bool false, .bool false] tFound)
  have hr0 := hr.alloc hB (.cells #[iv 0, iv 0, iv 0, .bool false, .bool false] tFound)
  have HLX := Lib.hid hlx
  have HMX : RowKit.Hid (c ≤ maxLen) := hm
  have HRES := Lib.hid hres
  clear hm
  obtain ⟨lo, hlo⟩ : ∃ lo, n - 65557 = lo := ⟨_, rfl⟩
  have hl1 : (lo : Int) = (n : Int) - 65557 ∨ ((n : Int) ≤ 65557 ∧ lo = 0) := by omega
  have HLO := Lib.hid hlo
  clear hlx hr hres hlo
  go_enter Tryz.func39, Tryz.ntmps39
  go_upto_region 1 with (fail)
  generalize w.alloc (.cells #[.int .i64 0, .int .i64 0, .int .i64 0, .bool false, .bool false] tFound) = W at *
  have HZ := Lib.hid hz
  have HF := Lib.hid hf
  have HR := Lib.hid hr0
  clear hz hf hr0
  go_wp2
  go_loopw [3] (fun i wr => ∃ (k : Nat) (z : Int), k ≤ n - 21 ∧ i = .int .i64 z ∧ ((z = (k : Int) - 1) ∨ (z = (n : Int) - 22 ∧ n < 22 ∧ k = 0)) ∧ Hid (lastAt xs lo k = lastAt xs lo (n - 21)) ∧ Hid (wr = W)) (fun i _ => (intOf i + 1).toNat)
  case atStart => exact ⟨n - 21, _, Nat.le_refl _, rfl, by omega, Lib.hid rfl, Lib.hid rfl⟩
  case round =>
    obtain ⟨k, z, hk, rfl, hz, hL, hW⟩ := hrel
    have hw := hW.out
    subst hw
    clear hW
    by_cases hlk : lo < k
    · obtain ⟨j, rfl⟩ : ∃ j, k = j + 1 := ⟨k - 1, by omega⟩
      obtain rfl : z = (j : Int) := by omega
      have hj22 : j + 22 ≤ n := by omega
      have hjlo : (n : Int) - 65557 ≤ (j : Int) := by omega
      clear hz hk hl1
      have hs1 : Calls Tryz.prog 74 #[.slice A n c, .int .i64 (j : Int), .int .u8 5, .int .u8 6] wr fun e w' => e = .returned (.bool (sg xs j 5 6)) ∧ wr = w' := signed_any A n c xs _ j 5 6 wr B HR.out rfl hc HMX.out hn (by omega)
      by_cases hsg : sg xs j 5 6 = false
      · have he : ends xs j = false := by unfold ends; rw [hsg]; rfl
        rw [hsg] at hs1
        have HE := Lib.hid he
        have HS1 := Lib.hid hs1
        clear hs1 hsg he
        go_wp2_with (go_at_call 74; ((with_reducible refine HS1.out.mono ?_); rintro e w1 ⟨rfl, rfl⟩))
        go_roundw
        case rel => exact ⟨j, _, by omega, rfl, .inl (by go_num), Lib.hid (by rw [← hL.out, lastAt_next (by omega) HE.out]), Lib.hid (by first | rfl | trivial)⟩
        case measure => simp [intOf]
      have hsg' : sg xs j 5 6 = true := by simpa using hsg
      rw [hsg'] at hs1
      have ha1 : Calls Tryz.prog 75 #[.slice A n c, .int .i64 ((j : Int) + 20), .int .i64 2] wr fun e w' => e = .returned (.int .i64 (nm xs (j + 20) 2 : Nat)) ∧ wr = w' := at24 A n c xs _ (j + 20) 2 wr B HR.out (by omega) hc HMX.out hn (.inl rfl) (by omega)
      have hen : ends xs j = decide (j + 22 + nm xs (j + 20) 2 = n) := by unfold ends; rw [hsg', HLX.out]; rfl
      have hb2 := nm2 xs (j + 20)
      generalize nm xs (j + 20) 2 = C at *
      by_cases hq : ¬ j + 22 + C = n
      · have he : ends xs j = false := by rw [hen, decide_eq_false hq]
        have HE := Lib.hid he
        have HS1 := Lib.hid hs1
        have HA1 := Lib.hid ha1
        have hq2 : ((j : Int) + 22 + (C : Int) != (n : Int)) = true := by rw [bne_iff_ne]; omega
        clear hs1 ha1 hsg hsg' he hen hq
        go_wp2_with (first
          | (go_at_call 74; ((with_reducible refine HS1.out.mono ?_); rintro e w1 ⟨rfl, rfl⟩))
          | (go_at_call 75; ((with_reducible refine HA1.out.mono ?_); rintro e w1 ⟨rfl, rfl⟩)))
        go_roundw
        case rel => exact ⟨j, _, by omega, rfl, .inl (by go_num), Lib.hid (by rw [← hL.out, lastAt_next (by omega) HE.out]), Lib.hid (by first | rfl | trivial)⟩
        case measure => simp [intOf]
      have hq1 : j + 22 + C = n := by omega
      have he : ends xs j = true := by rw [hen, decide_eq_true hq1]
      have hlast : lastAt xs (n - 65557) (n - 21) = some j := by rw [HLO.out, ← hL.out, lastAt_hit (by omega) he]
      have hfd := find_some HLX.out hlast
      have hq2 : (j : Int) + 22 + (C : Int) = (n : Int) := by omega
      have ha2 : Calls Tryz.prog 75 #[.slice A n c, .int .i64 ((j : Int) + 10), .int .i64 2] wr fun e w' => e = .returned (.int .i64 (nm xs (j + 10) 2 : Nat)) ∧ wr = w' := at24 A n c xs _ (j + 10) 2 wr B HR.out (by omega) hc HMX.out hn (.inl rfl) (by omega)
      have ha3 : Calls Tryz.prog 75 #[.slice A n c, .int .i64 ((j : Int) + 12), .int .i64 4] wr fun e w' => e = .returned (.int .i64 (nm xs (j + 12) 4 : Nat)) ∧ wr = w' := at24 A n c xs _ (j + 12) 4 wr B HR.out (by omega) hc HMX.out hn (.inr rfl) (by omega)
      have ha4 : Calls Tryz.prog 75 #[.slice A n c, .int .i64 ((j : Int) + 16), .int .i64 4] wr fun e w' => e = .returned (.int .i64 (nm xs (j + 16) 4 : Nat)) ∧ wr = w' := at24 A n c xs _ (j + 16) 4 wr B HR.out (by omega) hc HMX.out hn (.inr rfl) (by omega)
      have m2 := nm2 xs (j + 10)
      have m4 := nm4 xs (j + 12)
      have m5 := nm4 xs (j + 16)
      rw [HRES.out] at hfd
      generalize nm xs (j + 10) 2 = M at *
      generalize nm xs (j + 12) 4 = L at *
      generalize nm xs (j + 16) 4 = Q at *
      have hg := Bk.made wr tTail #[iv (M : Nat), iv (L : Nat), iv (Q : Nat), .bool false]
      have hf2 := HF.out.trans (Fresh.alloc wr (.cells #[iv (M : Nat), iv (L : Nat), iv (Q : Nat), .bool false] tTail))
      have hz2 := HZ.out.alloc (.cells #[iv (M : Nat), iv (L : Nat), iv (Q : Nat), .bool false] tTail)
      have hr2 := HR.out.keep (w' := wr.alloc (.cells #[iv (M : Nat), iv (L : Nat), iv (Q : Nat), .bool false] tTail)) fun i hi => (Fresh.alloc wr (.cells #[iv (M : Nat), iv (L : Nat), iv (Q : Nat), .bool false] tTail)).block i (by have := HF.out.size; omega)
      have HS1 := Lib.hid hs1
      have HA1 := Lib.hid ha1
      have HA2 := Lib.hid ha2
      have HA3 := Lib.hid ha3
      have HA4 := Lib.hid ha4
      have HR2 := Lib.hid hr2
      have HF2 := Lib.hid hf2
      have HZ2 := Lib.hid hz2
      have HG := Lib.hid hg
      have HFD := Lib.hid hfd
      clear hs1 ha1 ha2 ha3 ha4 hsg hsg' he hen hq hlast hfd hr2 hf2 hz2 hg hq1
      go_upto_region 6 with (first
        | (go_at_call 74; ((with_reducible refine HS1.out.mono ?_); rintro e w1 ⟨rfl, rfl⟩))
        | (go_at_call 75; ((with_reducible refine HA1.out.mono ?_); rintro e w1 ⟨rfl, rfl⟩))
        | (go_at_call 75; ((with_reducible refine HA2.out.mono ?_); rintro e w1 ⟨rfl, rfl⟩))
        | (go_at_call 75; ((with_reducible refine HA3.out.mono ?_); rintro e w1 ⟨rfl, rfl⟩))
        | (go_at_call 75; ((with_reducible refine HA4.out.mono ?_); rintro e w1 ⟨rfl, rfl⟩)))
      clear HS1 HA1 HA2 HA3 HA4 HR HF HZ
      have hbz : B ≤ (wr.alloc (.cells #[iv (M : Nat), iv (L : Nat), iv (Q : Nat), .bool false] tTail)).heap.size := Nat.le_trans hB HF2.out.size
      generalize wr.alloc (.cells #[.int .i64 (M : Nat), .int .i64 (L : Nat), .int .i64 (Q : Nat), .bool false] tTail) = V at *
      generalize wr.heap.size = g at *
      have k0 := HG.out.cell (i := 0) rfl
      have k1 := HG.out.cell (i := 1) rfl
      have k2 := HG.out.cell (i := 2) rfl
      have k3 := HG.out.cell (i := 3) rfl
      by_cases hone : ¬ (M = 65535 ∨ L = 4294967295 ∨ Q = 4294967295)
      · have hfd := HFD.out
        rw [if_neg hone] at hfd
        subst hfd
        have d0 : ((M : Int) == 65535) = false := by rw [beq_eq_false_iff_ne]; omega
        have d1 : ((L : Int) == 4294967295) = false := by rw [beq_eq_false_iff_ne]; omega
        have d2 : ((Q : Int) == 4294967295) = false := by rw [beq_eq_false_iff_ne]; omega
        clear HFD hone
        go_wp2_with (refine wpList_store_row (o := ⟨none, _, _, _, _, _⟩) rfl tFound (.tmp 2) (.tmp 71) rfl w.heap.size #[iv (M : Nat), iv (L : Nat), iv (Q : Nat), .bool false, .bool true] rfl rfl tFound _ HZ2.out (by kernel_rfl) (by rfl) (one5 _ _ _ _ _) ?_)
        exact bodyPost_ret (results_cell_row (p := 2) (by kernel_rfl) _ _ w.heap.size tFound #[iv (M : Nat), iv (L : Nat), iv (Q : Nat), .bool false, .bool true] (0, 0) _ rfl (HZ2.out.row _) Tryz.underlying88 rfl (by kernel_rfl)) rfl ⟨rfl, HF2.out.but (Nat.le_refl _) (But.row _ _ _)⟩
      have hfd := HFD.out
      rw [if_pos (by omega)] at hfd
      have hwd := refWide_any A n c xs j (j : Int) V B HR2.out hbz hc HMX.out hn (by omega) rfl r hfd.symm
      have HWD := Lib.hid hwd
      have hone1 : M = 65535 ∨ L = 4294967295 ∨ Q = 4294967295 := by omega
      clear hwd hfd HFD hone HRES
      cases r with
      | none =>
        by_cases d0 : (M : Int) = 65535
        · go_wp2_with (first
            | (go_at_call 76; ((with_reducible refine HWD.out.mono ?_); rintro e w5 ⟨⟨x, y, z, b, rfl⟩, hf5⟩; have HZ5 := Lib.hid ((HZ2.out.fresh hf5).alloc (.cells #[iv x, iv y, iv z, .bool b, .bool false] tFound)); have HF5 := Lib.hid ((HF2.out.trans hf5).trans (Fresh.alloc w5 (.cells #[iv x, iv y, iv z, .bool b, .bool false] tFound))); clear hf5))
            | (refine wpList_store_row (o := ⟨none, _, _, _, _, _⟩) rfl tFound (.tmp 2) (.tmp 68) rfl w.heap.size #[iv 0, iv 0, iv 0, .bool false, .bool false] rfl rfl tFound _ HZ5.out (by kernel_rfl) (by rfl) (by kernel_rfl) ?_))
          exact bodyPost_ret (results_cell_row (p := 2) (by kernel_rfl) _ _ w.heap.size tFound #[iv 0, iv 0, iv 0, .bool false, .bool false] (0, 0) _ rfl (HZ5.out.row _) Tryz.underlying88 rfl (by kernel_rfl)) rfl ⟨⟨0, 0, 0, false, rfl⟩, HF5.out.but (Nat.le_refl _) (But.row _ _ _)⟩
        · by_cases d1 : (L : Int) = 4294967295
          · go_wp2_with (first
              | (go_at_call 76; ((with_reducible refine HWD.out.mono ?_); rintro e w5 ⟨⟨x, y, z, b, rfl⟩, hf5⟩; have HZ5 := Lib.hid ((HZ2.out.fresh hf5).alloc (.cells #[iv x, iv y, iv z, .bool b, .bool false] tFound)); have HF5 := Lib.hid ((HF2.out.trans hf5).trans (Fresh.alloc w5 (.cells #[iv x, iv y, iv z, .bool b, .bool false] tFound))); clear hf5))
              | (refine wpList_store_row (o := ⟨none, _, _, _, _, _⟩) rfl tFound (.tmp 2) (.tmp 68) rfl w.heap.size #[iv 0, iv 0, iv 0, .bool false, .bool false] rfl rfl tFound _ HZ5.out (by kernel_rfl) (by rfl) (by kernel_rfl) ?_))
            exact bodyPost_ret (results_cell_row (p := 2) (by kernel_rfl) _ _ w.heap.size tFound #[iv 0, iv 0, iv 0, .bool false, .bool false] (0, 0) _ rfl (HZ5.out.row _) Tryz.underlying88 rfl (by kernel_rfl)) rfl ⟨⟨0, 0, 0, false, rfl⟩, HF5.out.but (Nat.le_refl _) (But.row _ _ _)⟩
          · have d2 : (Q : Int) = 4294967295 := by omega
            go_wp2_with (first
              | (go_at_call 76; ((with_reducible refine HWD.out.mono ?_); rintro e w5 ⟨⟨x, y, z, b, rfl⟩, hf5⟩; have HZ5 := Lib.hid ((HZ2.out.fresh hf5).alloc (.cells #[iv x, iv y, iv z, .bool b, .bool false] tFound)); have HF5 := Lib.hid ((HF2.out.trans hf5).trans (Fresh.alloc w5 (.cells #[iv x, iv y, iv z, .bool b, .bool false] tFound))); clear hf5))
              | (refine wpList_store_row (o := ⟨none, _, _, _, _, _⟩) rfl tFound (.tmp 2) (.tmp 68) rfl w.heap.size #[iv 0, iv 0, iv 0, .bool false, .bool false] rfl rfl tFound _ HZ5.out (by kernel_rfl) (by rfl) (by kernel_rfl) ?_))
            exact bodyPost_ret (results_cell_row (p := 2) (by kernel_rfl) _ _ w.heap.size tFound #[iv 0, iv 0, iv 0, .bool false, .bool false] (0, 0) _ rfl (HZ5.out.row _) Tryz.underlying88 rfl (by kernel_rfl)) rfl ⟨⟨0, 0, 0, false, rfl⟩, HF5.out.but (Nat.le_refl _) (But.row _ _ _)⟩
      | some t =>
        obtain ⟨tm, tl, ta, tw⟩ := t
        by_cases d0 : (M : Int) = 65535
        · go_wp2_with (first
            | (go_at_call 76; ((with_reducible refine HWD.out.mono ?_); rintro e w5 ⟨hE, hf5⟩; simp only [FoundIs] at hE; subst hE; have HZ5 := Lib.hid ((HZ2.out.fresh hf5).alloc (.cells #[iv (tm : Nat), iv (tl : Nat), iv (ta : Nat), .bool tw, .bool true] tFound)); have HF5 := Lib.hid ((HF2.out.trans hf5).trans (Fresh.alloc w5 (.cells #[iv (tm : Nat), iv (tl : Nat), iv (ta : Nat), .bool tw, .bool true] tFound))); clear hf5))
            | (refine wpList_store_row (o := ⟨none, _, _, _, _, _⟩) rfl tFound (.tmp 2) (.tmp 69) rfl w.heap.size #[iv (tm : Nat), iv (tl : Nat), iv (ta : Nat), .bool tw, .bool true] rfl rfl tFound _ HZ5.out (by kernel_rfl) (by rfl) (one5 _ _ _ _ _) ?_))
          exact bodyPost_ret (results_cell_row (p := 2) (by kernel_rfl) _ _ w.heap.size tFound #[iv (tm : Nat), iv (tl : Nat), iv (ta : Nat), .bool tw, .bool true] (0, 0) _ rfl (HZ5.out.row _) Tryz.underlying88 rfl (by kernel_rfl)) rfl ⟨rfl, HF5.out.but (Nat.le_refl _) (But.row _ _ _)⟩
        · by_cases d1 : (L : Int) = 4294967295
          · go_wp2_with (first
              | (go_at_call 76; ((with_reducible refine HWD.out.mono ?_); rintro e w5 ⟨hE, hf5⟩; simp only [FoundIs] at hE; subst hE; have HZ5 := Lib.hid ((HZ2.out.fresh hf5).alloc (.cells #[iv (tm : Nat), iv (tl : Nat), iv (ta : Nat), .bool tw, .bool true] tFound)); have HF5 := Lib.hid ((HF2.out.trans hf5).trans (Fresh.alloc w5 (.cells #[iv (tm : Nat), iv (tl : Nat), iv (ta : Nat), .bool tw, .bool true] tFound))); clear hf5))
              | (refine wpList_store_row (o := ⟨none, _, _, _, _, _⟩) rfl tFound (.tmp 2) (.tmp 69) rfl w.heap.size #[iv (tm : Nat), iv (tl : Nat), iv (ta : Nat), .bool tw, .bool true] rfl rfl tFound _ HZ5.out (by kernel_rfl) (by rfl) (one5 _ _ _ _ _) ?_))
            exact bodyPost_ret (results_cell_row (p := 2) (by kernel_rfl) _ _ w.heap.size tFound #[iv (tm : Nat), iv (tl : Nat), iv (ta : Nat), .bool tw, .bool true] (0, 0) _ rfl (HZ5.out.row _) Tryz.underlying88 rfl (by kernel_rfl)) rfl ⟨rfl, HF5.out.but (Nat.le_refl _) (But.row _ _ _)⟩
          · have d2 : (Q : Int) = 4294967295 := by omega
            go_wp2_with (first
              | (go_at_call 76; ((with_reducible refine HWD.out.mono ?_); rintro e w5 ⟨hE, hf5⟩; simp only [FoundIs] at hE; subst hE; have HZ5 := Lib.hid ((HZ2.out.fresh hf5).alloc (.cells #[iv (tm : Nat), iv (tl : Nat), iv (ta : Nat), .bool tw, .bool true] tFound)); have HF5 := Lib.hid ((HF2.out.trans hf5).trans (Fresh.alloc w5 (.cells #[iv (tm : Nat), iv (tl : Nat), iv (ta : Nat), .bool tw, .bool true] tFound))); clear hf5))
              | (refine wpList_store_row (o := ⟨none, _, _, _, _, _⟩) rfl tFound (.tmp 2) (.tmp 69) rfl w.heap.size #[iv (tm : Nat), iv (tl : Nat), iv (ta : Nat), .bool tw, .bool true] rfl rfl tFound _ HZ5.out (by kernel_rfl) (by rfl) (one5 _ _ _ _ _) ?_))
            exact bodyPost_ret (results_cell_row (p := 2) (by kernel_rfl) _ _ w.heap.size tFound #[iv (tm : Nat), iv (tl : Nat), iv (ta : Nat), .bool tw, .bool true] (0, 0) _ rfl (HZ5.out.row _) Tryz.underlying88 rfl (by kernel_rfl)) rfl ⟨rfl, HF5.out.but (Nat.le_refl _) (But.row _ _ _)⟩
    · have hno : r = none := by
        rw [← HRES.out]
        exact find_none HLX.out (by rw [HLO.out, ← hL.out]; exact lastAt_low (by omega))
      subst hno
      clear HRES
      by_cases hz0 : ¬ 0 ≤ z
      · clear hz hl1 hk hlk
        go_wp2_with (refine wpList_store_row (o := ⟨none, _, _, _, _, _⟩) rfl tFound (.tmp 2) (.tmp 72) rfl w.heap.size #[iv 0, iv 0, iv 0, .bool false, .bool false] rfl rfl tFound _ HZ.out (by kernel_rfl) (by rfl) (by kernel_rfl) ?_)
        exact bodyPost_ret (results_cell_row (p := 2) (by kernel_rfl) _ _ w.heap.size tFound #[iv 0, iv 0, iv 0, .bool false, .bool false] (0, 0) _ rfl (HZ.out.row _) Tryz.underlying88 rfl (by kernel_rfl)) rfl ⟨⟨0, 0, 0, false, rfl⟩, HF.out.but (Nat.le_refl _) (But.row _ _ _)⟩
      · have hz1 : ¬ (n : Int) - 65557 ≤ z := by omega
        have hz2 : 0 ≤ z := by omega
        clear hz0
        clear hz hl1 hk hlk
        go_wp2_with (refine wpList_store_row (o := ⟨none, _, _, _, _, _⟩) rfl tFound (.tmp 2) (.tmp 72) rfl w.heap.size #[iv 0, iv 0, iv 0, .bool false, .bool false] rfl rfl tFound _ HZ.out (by kernel_rfl) (by rfl) (by kernel_rfl) ?_)
        exact bodyPost_ret (results_cell_row (p := 2) (by kernel_rfl) _ _ w.heap.size tFound #[iv 0, iv 0, iv 0, .bool false, .bool false] (0, 0) _ rfl (HZ.out.row _) Tryz.underlying88 rfl (by kernel_rfl)) rfl ⟨⟨0, 0, 0, false, rfl⟩, HF.out.but (Nat.le_refl _) (But.row _ _ _)⟩
end Go.Proofs.YtmnegmebkmihhaaGreatDoor.recp
