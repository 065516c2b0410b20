import Derived.Test.YtmnegmebkmihhaaGreatDoorMgUzb
import Derived.Test.YtmnegmebkmihhaaGreatDoorMgRrf
/-
  The reference's wide: my own text.
-/
namespace Go.Proofs.YtmnegmebkmihhaaGreatDoor.recp
open Go.RowKit Go.Proofs.YtmnegmebkmihhaaGreatDoor.base Go.Proofs.YtmnegmebkmihhaaGreatDoor.num Go.Proofs.YtmnegmebkmihhaaGreatDoor.word Go.Proofs.YtmnegmebkmihhaaGreatDoor.recn
set_option linter.unusedVariables false
abbrev tFound : TypeId := 88
def FoundIs (r : Option Tl) (e : Ending) : Prop :=
  match r with
  | none => ∃ (x y z : Int) (b : Bool), e = .returned (.agg #[iv x, iv y, iv z, .bool b, .bool false])
  | some t => e = .returned (.agg #[iv (t.many : Nat), iv (t.long : Nat), iv (t.at_ : Nat), .bool t.wd, .bool true])
theorem one5 (x y z : Int) (b d : Bool) : (#[iv x, iv y, iv z, .bool b, .bool d] : Array Value).all (·.oneCell') = true := all_one _ (by
  intro v hv
  simp only [List.mem_cons, List.not_mem_nil, or_false] at hv
  rcases hv with rfl | rfl | rfl | rfl | rfl <;> rfl)
set_option maxRecDepth 100000 in
set_option maxHeartbeats 8000000 in
theorem refWide_any (A : Option Addr) (n c : Nat) (xs : List UInt8) (p : Nat) (z : Int) (w : World) (B : Nat) (hr : Rd w B A n (xs.map bv)) (hB : B ≤ w.heap.size) (hc : n ≤ c) (hm : c ≤ maxLen) (hn : n ≤ 1099511627776) (hp : p + 22 ≤ n) (hz9 : z = (p : Int)) (r : Option Tl) (hres : wideTl xs p = r) :
    Calls Tryz.prog 76 #[.slice A n c, .int .i64 z] w fun e w' => FoundIs r e ∧ Fresh w w' := by
  subst hz9
  have hlx : xs.length = n := by have := hr.1; rwa [List.length_map] at this
  have hz := Bk.made w tFound #[iv 0, iv 0, iv 0, .bool false, .bool false]
  have hf := Fresh.alloc w (.cells #[iv 0, iv 0, iv 0, .bool false, .bool false] tFound)
  have hr0 := hr.alloc hB (.cells #[iv 0, iv 0, iv 0, .bool false, .bool false] tFound)
  have HLX := Lib.hid hlx
  have HMX : RowKit.Hid (c ≤ maxLen) := hm
  unfold maxLen at hm
  clear hlx hr
  go_enter Tryz.func76, Tryz.ntmps76
  go_upto_region 1 with (fail)
  generalize w.alloc (.cells #[.int .i64 0, .int .i64 0, .int .i64 0, .bool false, .bool false] tFound) = W at *
  have HZ := Lib.hid hz
  have HF := Lib.hid hf
  have HR := Lib.hid hr0
  clear hz hf hr0
  by_cases h1 : p < 20
  · have hno : r = none := by rw [← hres]; unfold wideTl; rw [if_pos h1]
    subst hno
    clear hres
    go_wp2_with (refine wpList_store_row (o := ⟨none, _, _, _, _, _⟩) rfl tFound (.tmp 4) (.tmp 16) rfl w.heap.size #[iv 0, iv 0, iv 0, .bool false, .bool false] rfl rfl tFound _ HZ.out (by kernel_rfl) (by rfl) (by kernel_rfl) ?_)
    exact bodyPost_ret (results_cell_row (p := 4) (by kernel_rfl) _ _ w.heap.size tFound #[iv 0, iv 0, iv 0, .bool false, .bool false] (0, 0) _ rfl (HZ.out.row _) Tryz.underlying88 rfl (by kernel_rfl)) rfl ⟨⟨0, 0, 0, false, rfl⟩, HF.out.but (Nat.le_refl _) (But.row _ _ _)⟩
  have hs1 : Calls Tryz.prog 74 #[.slice A n c, .int .i64 ((p : Int) - 20), .int .u8 6, .int .u8 7] W fun e w' => e = .returned (.bool (sg xs (p - 20) 6 7)) ∧ W = w' := signed_any A n c xs _ (p - 20) 6 7 W B HR.out (by omega) hc HMX.out hn (by omega)
  by_cases h2 : sg xs (p - 20) 6 7 = false
  · have hno : r = none := by rw [← hres]; unfold wideTl; rw [if_neg h1, if_pos h2]
    subst hno
    rw [h2] at hs1
    have HS1 := Lib.hid hs1
    clear hres hs1 h2
    go_wp2_with (first
      | (go_at_call 74; ((with_reducible refine HS1.out.mono ?_); rintro e w1 ⟨rfl, rfl⟩))
      | (refine wpList_store_row (o := ⟨none, _, _, _, _, _⟩) rfl tFound (.tmp 4) (.tmp 16) rfl w.heap.size #[iv 0, iv 0, iv 0, .bool false, .bool false] rfl rfl tFound _ HZ.out (by kernel_rfl) (by rfl) (by kernel_rfl) ?_))
    exact bodyPost_ret (results_cell_row (p := 4) (by kernel_rfl) _ _ w.heap.size tFound #[iv 0, iv 0, iv 0, .bool false, .bool false] (0, 0) _ rfl (HZ.out.row _) Tryz.underlying88 rfl (by kernel_rfl)) rfl ⟨⟨0, 0, 0, false, rfl⟩, HF.out.but (Nat.le_refl _) (But.row _ _ _)⟩
  have h2' : sg xs (p - 20) 6 7 = true := by simpa using h2
  rw [h2'] at hs1
  have hwt : wideTl xs p = wideAt xs (nm xs (p - 12) 8) := by unfold wideTl wideAt; rw [if_neg h1, if_neg h2]
  rw [hwt] at hres
  have ha1 : Calls Tryz.prog 75 #[.slice A n c, .int .i64 ((p : Int) - 12), .int .i64 8] W fun e w' => e = .returned (.int .i64 (nm8v xs (p - 12))) ∧ W = w' := at8 A n c xs _ (p - 12) W B HR.out (by omega) hc HMX.out hn (by omega)
  unfold nm8v at ha1
  have hu := nm8_lt xs (p - 12)
  generalize nm xs (p - 12) 8 = u at *
  have HS1 := Lib.hid hs1
  clear hs1 h2 h2' hwt
  by_cases h3 : ¬ u < 281474976710656
  · have hno : r = none := by rw [← hres]; unfold wideAt; rw [if_pos (by rw [HLX.out]; omega)]
    subst hno
    rw [if_neg h3] at ha1
    have HA1 := Lib.hid ha1
    clear hres ha1 h3 hu
    go_wp2_with (first
      | (go_at_call 74; ((with_reducible refine HS1.out.mono ?_); rintro e w1 ⟨rfl, rfl⟩))
      | (go_at_call 75; ((with_reducible refine HA1.out.mono ?_); rintro e w1 ⟨rfl, rfl⟩))
      | (refine wpList_store_row (o := ⟨none, _, _, _, _, _⟩) rfl tFound (.tmp 4) (.tmp 42) rfl w.heap.size #[iv 0, iv 0, iv 0, .bool false, .bool false] rfl rfl tFound _ HZ.out (by kernel_rfl) (by rfl) (by kernel_rfl) ?_))
    exact bodyPost_ret (results_cell_row (p := 4) (by kernel_rfl) _ _ w.heap.size tFound #[iv 0, iv 0, iv 0, .bool false, .bool false] (0, 0) _ rfl (HZ.out.row _) Tryz.underlying88 rfl (by kernel_rfl)) rfl ⟨⟨0, 0, 0, false, rfl⟩, HF.out.but (Nat.le_refl _) (But.row _ _ _)⟩
  have h3 : u < 281474976710656 := by omega
  rw [if_pos h3] at ha1
  have HA1 := Lib.hid ha1
  clear ha1
  by_cases h4 : n < u + 56
  · have hno : r = none := by rw [← hres]; unfold wideAt; rw [if_pos (by rw [HLX.out]; exact h4)]
    subst hno
    clear hres
    by_cases h5 : n < u
    · go_wp2_with (first
        | (go_at_call 74; ((with_reducible refine HS1.out.mono ?_); rintro e w1 ⟨rfl, rfl⟩))
        | (go_at_call 75; ((with_reducible refine HA1.out.mono ?_); rintro e w1 ⟨rfl, rfl⟩))
        | (refine wpList_store_row (o := ⟨none, _, _, _, _, _⟩) rfl tFound (.tmp 4) (.tmp 42) rfl w.heap.size #[iv 0, iv 0, iv 0, .bool false, .bool false] rfl rfl tFound _ HZ.out (by kernel_rfl) (by rfl) (by kernel_rfl) ?_))
      exact bodyPost_ret (results_cell_row (p := 4) (by kernel_rfl) _ _ w.heap.size tFound #[iv 0, iv 0, iv 0, .bool false, .bool false] (0, 0) _ rfl (HZ.out.row _) Tryz.underlying88 rfl (by kernel_rfl)) rfl ⟨⟨0, 0, 0, false, rfl⟩, HF.out.but (Nat.le_refl _) (But.row _ _ _)⟩
    · go_wp2_with (first
        | (go_at_call 74; ((with_reducible refine HS1.out.mono ?_); rintro e w1 ⟨rfl, rfl⟩))
        | (go_at_call 75; ((with_reducible refine HA1.out.mono ?_); rintro e w1 ⟨rfl, rfl⟩))
        | (refine wpList_store_row (o := ⟨none, _, _, _, _, _⟩) rfl tFound (.tmp 4) (.tmp 42) rfl w.heap.size #[iv 0, iv 0, iv 0, .bool false, .bool false] rfl rfl tFound _ HZ.out (by kernel_rfl) (by rfl) (by kernel_rfl) ?_))
      exact bodyPost_ret (results_cell_row (p := 4) (by kernel_rfl) _ _ w.heap.size tFound #[iv 0, iv 0, iv 0, .bool false, .bool false] (0, 0) _ rfl (HZ.out.row _) Tryz.underlying88 rfl (by kernel_rfl)) rfl ⟨⟨0, 0, 0, false, rfl⟩, HF.out.but (Nat.le_refl _) (But.row _ _ _)⟩
  have hs2 : Calls Tryz.prog 74 #[.slice A n c, .int .i64 (u : Int), .int .u8 6, .int .u8 6] W fun e w' => e = .returned (.bool (sg xs u 6 6)) ∧ W = w' := signed_any A n c xs _ u 6 6 W B HR.out rfl hc HMX.out hn (by omega)
  by_cases h6 : sg xs u 6 6 = false
  · have hno : r = none := by rw [← hres]; unfold wideAt; rw [if_neg (by rw [HLX.out]; exact h4), if_pos h6]
    subst hno
    rw [h6] at hs2
    have HS2 := Lib.hid hs2
    clear hres hs2 h6
    go_wp2_with (first
      | (go_at_call 74; ((with_reducible refine HS1.out.mono ?_); rintro e w1 ⟨rfl, rfl⟩))
      | (go_at_call 74; ((with_reducible refine HS2.out.mono ?_); rintro e w1 ⟨rfl, rfl⟩))
      | (go_at_call 75; ((with_reducible refine HA1.out.mono ?_); rintro e w1 ⟨rfl, rfl⟩))
      | (refine wpList_store_row (o := ⟨none, _, _, _, _, _⟩) rfl tFound (.tmp 4) (.tmp 42) rfl w.heap.size #[iv 0, iv 0, iv 0, .bool false, .bool false] rfl rfl tFound _ HZ.out (by kernel_rfl) (by rfl) (by kernel_rfl) ?_))
    exact bodyPost_ret (results_cell_row (p := 4) (by kernel_rfl) _ _ w.heap.size tFound #[iv 0, iv 0, iv 0, .bool false, .bool false] (0, 0) _ rfl (HZ.out.row _) Tryz.underlying88 rfl (by kernel_rfl)) rfl ⟨⟨0, 0, 0, false, rfl⟩, HF.out.but (Nat.le_refl _) (But.row _ _ _)⟩
  have h6' : sg xs u 6 6 = true := by simpa using h6
  rw [h6'] at hs2
  have hwa : wideAt xs u = (if nm xs (u + 32) 8 < 281474976710656 ∧ nm xs (u + 40) 8 < 281474976710656 ∧ nm xs (u + 48) 8 < 281474976710656 then some ⟨nm xs (u + 32) 8, nm xs (u + 40) 8, nm xs (u + 48) 8, true⟩ else none) := by
    unfold wideAt; rw [if_neg (by rw [HLX.out]; exact h4), if_neg h6]
  rw [hwa] at hres
  have ha2 : Calls Tryz.prog 75 #[.slice A n c, .int .i64 ((u : Int) + 32), .int .i64 8] W fun e w' => e = .returned (.int .i64 (nm8v xs (u + 32))) ∧ W = w' := at8 A n c xs _ (u + 32) W B HR.out (by omega) hc HMX.out hn (by omega)
  have ha3 : Calls Tryz.prog 75 #[.slice A n c, .int .i64 ((u : Int) + 40), .int .i64 8] W fun e w' => e = .returned (.int .i64 (nm8v xs (u + 40))) ∧ W = w' := at8 A n c xs _ (u + 40) W B HR.out (by omega) hc HMX.out hn (by omega)
  have ha4 : Calls Tryz.prog 75 #[.slice A n c, .int .i64 ((u : Int) + 48), .int .i64 8] W fun e w' => e = .returned (.int .i64 (nm8v xs (u + 48))) ∧ W = w' := at8 A n c xs _ (u + 48) W B HR.out (by omega) hc HMX.out hn (by omega)
  obtain ⟨X, hX⟩ : ∃ X, nm8v xs (u + 32) = X := ⟨_, rfl⟩
  obtain ⟨Y, hY⟩ : ∃ X, nm8v xs (u + 40) = X := ⟨_, rfl⟩
  obtain ⟨Z, hZ⟩ : ∃ X, nm8v xs (u + 48) = X := ⟨_, rfl⟩
  rw [hX] at ha2
  rw [hY] at ha3
  rw [hZ] at ha4
  unfold nm8v at hX hY hZ
  have n0 := nm8_lt xs (u + 32)
  have n1 := nm8_lt xs (u + 40)
  have n2 := nm8_lt xs (u + 48)
  generalize nm xs (u + 32) 8 = M at *
  generalize nm xs (u + 40) 8 = L at *
  generalize nm xs (u + 48) 8 = Q at *
  have hXb : -1 ≤ X ∧ X ≤ 281474976710656 := by split at hX <;> omega
  have hYb : -1 ≤ Y ∧ Y ≤ 281474976710656 := by split at hY <;> omega
  have hZb : -1 ≤ Z ∧ Z ≤ 281474976710656 := by split at hZ <;> omega
  have hok : ∀ b : Bool, decide (0 ≤ X ∧ 0 ≤ Y ∧ 0 ≤ Z) = b → FoundIs r (.returned (.agg #[iv X, iv Y, iv Z, .bool true, .bool b])) := by
    intro b hb
    by_cases hall : M < 281474976710656 ∧ L < 281474976710656 ∧ Q < 281474976710656
    · rw [if_pos hall] at hres
      subst hres
      rw [if_pos hall.1] at hX
      rw [if_pos hall.2.1] at hY
      rw [if_pos hall.2.2] at hZ
      subst hX hY hZ
      rw [← hb, decide_eq_true (by omega)]
      rfl
    · rw [if_neg hall] at hres
      subst hres
      rw [← hb, decide_eq_false (by
        intro h
        apply hall
        split at hX <;> split at hY <;> split at hZ <;> omega)]
      exact ⟨_, _, _, _, rfl⟩
  have HS2 := Lib.hid hs2
  have HA2 := Lib.hid ha2
  have HA3 := Lib.hid ha3
  have HA4 := Lib.hid ha4
  have HOK := Lib.hid hok
  clear hs2 ha2 ha3 ha4 hok h6 h6' hwa hres hX hY hZ n0 n1 n2 hu h3
  go_upto_region 7 with (first
    | (go_at_call 74; ((with_reducible refine HS1.out.mono ?_); rintro e w1 ⟨rfl, rfl⟩))
    | (go_at_call 74; ((with_reducible refine HS2.out.mono ?_); rintro e w1 ⟨rfl, rfl⟩))
    | (go_at_call 75; ((with_reducible refine HA1.out.mono ?_); rintro e w1 ⟨rfl, rfl⟩))
    | (go_at_call 75; ((with_reducible refine HA2.out.mono ?_); rintro e w1 ⟨rfl, rfl⟩))
    | (go_at_call 75; ((with_reducible refine HA3.out.mono ?_); rintro e w1 ⟨rfl, rfl⟩))
    | (go_at_call 75; ((with_reducible refine HA4.out.mono ?_); rintro e w1 ⟨rfl, rfl⟩)))
  have hg := Bk.made W tTail #[iv X, iv Y, iv Z, .bool true]
  have hf2 := HF.out.trans (Fresh.alloc W (.cells #[iv X, iv Y, iv Z, .bool true] tTail))
  have hz2 := HZ.out.alloc (.cells #[iv X, iv Y, iv Z, .bool true] tTail)
  generalize W.alloc (.cells #[.int .i64 X, .int .i64 Y, .int .i64 Z, .bool true] tTail) = V at *
  generalize W.heap.size = g at *
  have k0 := hg.cell (i := 0) rfl
  have k1 := hg.cell (i := 1) rfl
  have k2 := hg.cell (i := 2) rfl
  have k3 := hg.cell (i := 3) rfl
  have HF2 := Lib.hid hf2
  have HZ2 := Lib.hid hz2
  clear hg hf2 hz2 HF HZ
  by_cases hx : 0 ≤ X
  · by_cases hy : 0 ≤ Y
    · by_cases hz : 0 ≤ Z
      · go_wp2_with (refine wpList_store_row (o := ⟨none, _, _, _, _, _⟩) rfl tFound (.tmp 4) (.tmp 70) rfl w.heap.size #[iv X, iv Y, iv Z, .bool true, .bool true] rfl rfl tFound _ HZ2.out (by kernel_rfl) (by rfl) (one5 _ _ _ _ _) ?_)
        exact bodyPost_ret (results_cell_row (p := 4) (by kernel_rfl) _ _ w.heap.size tFound #[iv X, iv Y, iv Z, .bool true, .bool true] (0, 0) _ rfl (HZ2.out.row _) Tryz.underlying88 rfl (by kernel_rfl)) rfl ⟨HOK.out true (decide_eq_true (by omega)), HF2.out.but (Nat.le_refl _) (But.row _ _ _)⟩
      · go_wp2_with (refine wpList_store_row (o := ⟨none, _, _, _, _, _⟩) rfl tFound (.tmp 4) (.tmp 70) rfl w.heap.size #[iv X, iv Y, iv Z, .bool true, .bool false] rfl rfl tFound _ HZ2.out (by kernel_rfl) (by rfl) (one5 _ _ _ _ _) ?_)
        exact bodyPost_ret (results_cell_row (p := 4) (by kernel_rfl) _ _ w.heap.size tFound #[iv X, iv Y, iv Z, .bool true, .bool false] (0, 0) _ rfl (HZ2.out.row _) Tryz.underlying88 rfl (by kernel_rfl)) rfl ⟨HOK.out false (decide_eq_false (by omega)), HF2.out.but (Nat.le_refl _) (But.row _ _ _)⟩
    · go_wp2_with (refine wpList_store_row (o := ⟨none, _, _, _, _, _⟩) rfl tFound (.tmp 4) (.tmp 70) rfl w.heap.size #[iv X, iv Y, iv Z, .bool true, .bool false] rfl rfl tFound _ HZ2.out (by kernel_rfl) (by rfl) (one5 _ _ _ _ _) ?_)
      exact bodyPost_ret (results_cell_row (p := 4) (by kernel_rfl) _ _ w.heap.size tFound #[iv X, iv Y, iv Z, .bool true, .bool false] (0, 0) _ rfl (HZ2.out.row _) Tryz.underlying88 rfl (by kernel_rfl)) rfl ⟨HOK.out false (decide_eq_false (by omega)), HF2.out.but (Nat.le_refl _) (But.row _ _ _)⟩
  · go_wp2_with (refine wpList_store_row (o := ⟨none, _, _, _, _, _⟩) rfl tFound (.tmp 4) (.tmp 70) rfl w.heap.size #[iv X, iv Y, iv Z, .bool true, .bool false] rfl rfl tFound _ HZ2.out (by kernel_rfl) (by rfl) (one5 _ _ _ _ _) ?_)
    exact bodyPost_ret (results_cell_row (p := 4) (by kernel_rfl) _ _ w.heap.size tFound #[iv X, iv Y, iv Z, .bool true, .bool false] (0, 0) _ rfl (HZ2.out.row _) Tryz.underlying88 rfl (by kernel_rfl)) rfl ⟨HOK.out false (decide_eq_false (by omega)), HF2.out.but (Nat.le_refl _) (But.row _ _ _)⟩
end Go.Proofs.YtmnegmebkmihhaaGreatDoor.recp
