import Derived.Test.YtmnegmebkmihhaaGreatDoorMgUzb
import Derived.Test.YtmnegmebkmihhaaGreatDoorRecTlF
import Derived.Deep.DeepCutAuto
/-
  record's Find: my own text.
-/
namespace Go.Proofs.YtmnegmebkmihhaaGreatDoor.recp
open Go.RowKit Go.Proofs.YtmnegmebkmihhaaGreatDoor.base Go.Proofs.YtmnegmebkmihhaaGreatDoor.num Go.Proofs.YtmnegmebkmihhaaGreatDoor.word Go.Proofs.YtmnegmebkmihhaaGreatDoor.recn
set_option linter.unusedVariables false
def FindIs (r : Option Tl) (e : Ending) : Prop :=
  match r with
  | none => e = .returned (.tuple #[.agg #[iv 0, iv 0, iv 0, .bool false], .int .i64 4])
  | some t => e = .returned (.tuple #[.agg #[iv (t.many : Nat), iv (t.long : Nat), iv (t.at_ : Nat), .bool t.wd], .int .i64 0])
theorem wideTl_wd {xs : List UInt8} {p : Nat} {t : Tl} (h : wideTl xs p = some t) : t.wd = true := by
  unfold wideTl at h
  split at h
  · cases h
  split at h
  · cases h
  simp only at h
  split at h
  · cases h
  split at h
  · cases h
  split at h
  · injection h with h; subst h; rfl
  · cases h
theorem may2 (M : Nat) (h : M ≤ 65535) : ([(M : Int)] : List Int).all (may 2) = !decide (M = 65535) := by
  rw [List.all_cons, List.all_nil, Bool.and_true]
  unfold may
  rw [decide_eq_true (by constructor <;> omega), Bool.true_and]
  congr 1
  rw [Bool.eq_iff_iff, beq_iff_eq, decide_eq_true_iff]
  omega
theorem may4 (L Q : Nat) (h : L ≤ 4294967295) (h' : Q ≤ 4294967295) : ([(L : Int), (Q : Int)] : List Int).all (may 4) = !decide (L = 4294967295 ∨ Q = 4294967295) := by
  have hm : ∀ z : Nat, z ≤ 4294967295 → may 4 (z : Int) = !decide (z = 4294967295) := fun z hz => by
    unfold may
    rw [decide_eq_true (by constructor <;> omega), Bool.true_and]
    congr 1
    rw [Bool.eq_iff_iff, beq_iff_eq, decide_eq_true_iff]
    omega
  rw [List.all_cons, List.all_cons, List.all_nil, Bool.and_true, hm _ h, hm _ h']
  by_cases h1 : L = 4294967295 <;> by_cases h2 : Q = 4294967295 <;> simp [h1, h2]
set_option maxRecDepth 100000 in
set_option maxHeartbeats 8000000 in
theorem find_any (A : Option Addr) (n c : Nat) (xs : List UInt8) (w : World) (B : Nat) (hr : Rd w B A n (xs.map bv)) (hB : B ≤ w.heap.size) (hc : n ≤ c) (hm : c ≤ maxLen) (hn : n ≤ 1099511627776) (r : Option Tl) (hres : find xs = r) :
    Calls Tryz.prog 36 #[.slice A n c] w fun e w' => FindIs r e ∧ Fresh w w' := by
  have hlx : xs.length = n := by have := hr.1; rwa [List.length_map] at this
  have hz := Bk.made w tTail #[iv 0, iv 0, iv 0, .bool false]
  have hf := Fresh.alloc w (.cells #[iv 0, iv 0, iv 0, .bool false] tTail)
  have hr0 := hr.alloc hB (.cells #[iv 0, iv 0, iv 0, .bool false] tTail)
  have HLX := Lib.hid hlx
  have HMX : RowKit.Hid (c ≤ maxLen) := hm
  unfold maxLen at hm
  clear hr
  go_enter Tryz.func36, Tryz.ntmps36
  go_upto_region 1 with (fail)
  have hbw : B ≤ (w.alloc (.cells #[iv 0, iv 0, iv 0, .bool false] tTail)).heap.size := Nat.le_trans hB hf.size
  generalize w.alloc (.cells #[.int .i64 0, .int .i64 0, .int .i64 0, .bool false] tTail) = W at *
  have hla := last_any A n c xs W B hr0 hbw hc HMX.out hn
  have HZ := Lib.hid hz
  have HF := Lib.hid hf
  have HR := Lib.hid hr0
  clear hz hf hr0
  cases hlast : lastAt xs (n - 65557) (n - 21) with
  | none =>
    rw [hlast] at hla
    rw [find_none hlx hlast] at hres
    subst hres
    have HLA := Lib.hid hla
    clear hla hlast hlx
    go_wp2_with (first
      | (go_at_call 65; ((with_reducible refine HLA.out.mono ?_); rintro e w1 ⟨hE, hf1⟩; simp only [LastIs] at hE; subst hE; have HZ1 := Lib.hid (HZ.out.fresh hf1); have HF1 := Lib.hid (HF.out.trans hf1); clear hf1))
      | (refine wpList_store_row (o := ⟨none, _, _, _, _, _⟩) rfl tTail (.tmp 2) (.tmp 14) rfl w.heap.size #[iv 0, iv 0, iv 0, .bool false] rfl rfl tTail _ HZ1.out (by kernel_rfl) (by rfl) (by kernel_rfl) ?_))
    exact bodyPost_ret (results_row_tmp (p := 2) (u := 3) (by kernel_rfl) _ _ w.heap.size tTail [iv 0, iv 0, iv 0, .bool false] _ rfl (HZ1.out.row _) Tryz.underlying76 rfl (by kernel_rfl)) rfl ⟨rfl, HF1.out.but (Nat.le_refl _) (But.row _ _ _)⟩
  | some p =>
    rw [hlast] at hla
    have hfd := find_some hlx hlast
    have hp := ends_long (lastAt_ends hlast).1
    rw [hlx] at hp
    rw [hres] at hfd
    have e0 : nm (xs.drop p) 10 2 = nm xs (p + 10) 2 := nm_drop _ _ _ _
    have e1 : nm (xs.drop p) 12 4 = nm xs (p + 12) 4 := nm_drop _ _ _ _
    have e2 : nm (xs.drop p) 16 4 = nm xs (p + 16) 4 := nm_drop _ _ _ _
    have m2 := nm2 xs (p + 10)
    have m4 := nm4 xs (p + 12)
    have m5 := nm4 xs (p + 16)
    have hge : ∀ W1, Fresh W W1 → Calls Tryz.prog 66 #[.slice (A.map (·.add p)) (n - p) (c - p)] W1 fun e w' => e = .returned (.agg #[iv (nm xs (p + 10) 2 : Nat), iv (nm xs (p + 12) 4 : Nat), iv (nm xs (p + 16) 4 : Nat), .bool false]) ∧ Fresh W1 w' := fun W1 h => by
      have ht := (HR.out.keep (w' := W1) fun i hi => h.block i (by omega)).cut (lo := p) (hi := n) (cap := c) (by omega) (Nat.le_refl _) hc
      rw [if_neg (by omega), ← List.map_drop, ← List.map_take, List.take_of_length_le (l := xs.drop p) (by rw [List.length_drop, hlx]; omega)] at ht
      exact getEnd_any _ (n - p) (c - p) (xs.drop p) W1 B ht (by have := h.size; omega) (by omega) (by have := HMX.out; unfold maxLen at *; omega) (by omega) (by omega) _ _ _ e0 e1 e2
    clear e0 e1 e2
    generalize nm xs (p + 10) 2 = M at *
    generalize nm xs (p + 12) 4 = L at *
    generalize nm xs (p + 16) 4 = Q at *
    have HLA := Lib.hid hla
    have HGE := Lib.hid hge
    have HFD := Lib.hid hfd
    clear hla hge hfd hlast hres
    go_upto_region 5 with (first
      | (go_at_call 65; ((with_reducible refine HLA.out.mono ?_); rintro e w1 ⟨hE, hf1⟩; simp only [LastIs] at hE; subst hE; have HZ1 := Lib.hid (HZ.out.fresh hf1); have HF1 := Lib.hid (HF.out.trans hf1); have HFW := Lib.hid hf1; clear hf1))
      | (go_at_call 66; ((with_reducible refine (HGE.out _ HFW.out).mono ?_); rintro e w2 ⟨rfl, hf2⟩; have hal := Fresh.alloc w2 (.cells #[iv (M : Nat), iv (L : Nat), iv (Q : Nat), .bool false] tTail); have HG2 := Lib.hid (Bk.made w2 tTail #[iv (M : Nat), iv (L : Nat), iv (Q : Nat), .bool false]); have HZ2 := Lib.hid ((HZ1.out.fresh hf2).fresh hal); have HF2 := Lib.hid ((HF1.out.trans hf2).trans hal); have HR2 := Lib.hid ((HR.out.keep (w' := w2.alloc (.cells #[iv (M : Nat), iv (L : Nat), iv (Q : Nat), .bool false] tTail)) fun i hi => ((HFW.out.trans hf2).trans hal).block i (by omega))); have hgz9 := (HZ1.out.fresh hf2).inside; clear hf2 hal)))
    have hbv : B ≤ (w2.alloc (.cells #[iv (M : Nat), iv (L : Nat), iv (Q : Nat), .bool false] tTail)).heap.size := Nat.le_trans hB HF2.out.size
    clear HLA HGE HZ1 HF1 HFW HZ HF HR hbw
    generalize w2.alloc (.cells #[.int .i64 (M : Nat), .int .i64 (L : Nat), .int .i64 (Q : Nat), .bool false] tTail) = V at *
    generalize w2.heap.size = g at *
    have hf2 : ∀ (W : World) (g : Nat), g = W.heap.size → Calls Tryz.prog 67 #[.bool false, .int .i64 2, .slice (some ⟨g, 0, none⟩) 1 1] (W.alloc (.cells #[.int .i64 (M : Nat)] tInt)) fun e w' => e = .returned (.bool (!decide (M = 65535))) ∧ Fresh (W.alloc (.cells #[.int .i64 (M : Nat)] tInt)) w' := fun W g hg => by
      subst hg
      rw [← may2 M m2]
      exact fitsN_any 2 (.inl rfl) _ 1 1 [(M : Int)] _ _ (Rd.lit W #[.int .i64 (M : Nat)] tInt) (by simp) (by omega) (by intro z hz; rw [List.mem_singleton] at hz; subst hz; omega)
    have hf4 : ∀ (W : World) (g : Nat), g = W.heap.size → Calls Tryz.prog 67 #[.bool false, .int .i64 4, .slice (some ⟨g, 0, none⟩) 2 2] (W.alloc (.cells #[.int .i64 (L : Nat), .int .i64 (Q : Nat)] tInt)) fun e w' => e = .returned (.bool (!decide (L = 4294967295 ∨ Q = 4294967295))) ∧ Fresh (W.alloc (.cells #[.int .i64 (L : Nat), .int .i64 (Q : Nat)] tInt)) w' := fun W g hg => by
      subst hg
      rw [← may4 L Q m4 m5]
      exact fitsN_any 4 (.inr rfl) _ 2 2 [(L : Int), (Q : Int)] _ _ (Rd.lit W #[.int .i64 (L : Nat), .int .i64 (Q : Nat)] tInt) (by simp) (by omega) (by intro z hz; simp only [List.mem_cons, List.not_mem_nil, or_false] at hz; rcases hz with rfl | rfl <;> omega)
    have k0 := HG2.out.cell (i := 0) rfl
    have HF2' := Lib.hid hf2
    have HF4' := Lib.hid hf4
    have HM2 := Lib.hid m2
    clear hf2 hf4 m2 m4 m5
    go_cut [30] (fun v wx => ∃ f, Hid (decide (M = 65535 ∨ L = 4294967295 ∨ Q = 4294967295) = f) ∧ v = .bool (!f) ∧ Hid (Fresh V wx))
    case first =>
      by_cases h1 : M = 65535
      · rw [decide_eq_true h1] at HF2'
        have HD := Lib.hid (decide_eq_true (p := M = 65535 ∨ L = 4294967295 ∨ Q = 4294967295) (.inl h1))
        clear h1
        go_wp2_with (go_at_call 67; ((with_reducible refine (HF2'.out _ _ (by simp)).mono ?_); rintro e w3 ⟨rfl, hf3⟩; have HF3 := Lib.hid ((Fresh.alloc V (.cells #[.int .i64 (M : Nat)] tInt)).trans hf3); clear hf3))
        all_goals go_meet
        all_goals exact ⟨true, HD, rfl, HF3⟩
      · rw [decide_eq_false h1] at HF2'
        have hd : decide (M = 65535 ∨ L = 4294967295 ∨ Q = 4294967295) = decide (L = 4294967295 ∨ Q = 4294967295) := by rw [decide_eq_decide]; omega
        generalize decide (L = 4294967295 ∨ Q = 4294967295) = b at *
        have HD := Lib.hid hd
        clear h1 hd
        cases b with
        | false =>
          go_wp2_with (first
            | (go_at_call 67; ((with_reducible refine (HF2'.out _ _ (by simp)).mono ?_); rintro e w3 ⟨rfl, hf3⟩; have hf3' := (Fresh.alloc V (.cells #[.int .i64 (M : Nat)] tInt)).trans hf3; have k1 : w3.cell? ⟨g, 1, none⟩ = some (iv (L : Nat)) := (HG2.out.fresh hf3').cell rfl; have k2 : w3.cell? ⟨g, 2, none⟩ = some (iv (Q : Nat)) := (HG2.out.fresh hf3').cell rfl; have HF3 := Lib.hid hf3'; clear hf3 hf3'))
            | (go_at_call 67; ((with_reducible refine (HF4'.out _ _ (by simp)).mono ?_); rintro e w4 ⟨rfl, hf4⟩; have HF4 := Lib.hid ((HF3.out.trans (Fresh.alloc w3 (.cells #[.int .i64 (L : Nat), .int .i64 (Q : Nat)] tInt))).trans hf4); clear hf4)))
          all_goals go_meet
          all_goals exact ⟨_, HD, rfl, HF4⟩
        | true =>
          go_wp2_with (first
            | (go_at_call 67; ((with_reducible refine (HF2'.out _ _ (by simp)).mono ?_); rintro e w3 ⟨rfl, hf3⟩; have hf3' := (Fresh.alloc V (.cells #[.int .i64 (M : Nat)] tInt)).trans hf3; have k1 : w3.cell? ⟨g, 1, none⟩ = some (iv (L : Nat)) := (HG2.out.fresh hf3').cell rfl; have k2 : w3.cell? ⟨g, 2, none⟩ = some (iv (Q : Nat)) := (HG2.out.fresh hf3').cell rfl; have HF3 := Lib.hid hf3'; clear hf3 hf3'))
            | (go_at_call 67; ((with_reducible refine (HF4'.out _ _ (by simp)).mono ?_); rintro e w4 ⟨rfl, hf4⟩; have HF4 := Lib.hid ((HF3.out.trans (Fresh.alloc w3 (.cells #[.int .i64 (L : Nat), .int .i64 (Q : Nat)] tInt))).trans hf4); clear hf4)))
          all_goals go_meet
          all_goals exact ⟨_, HD, rfl, HF4⟩
    case rest =>
    clear HF2' HF4' k0
    obtain ⟨f, hdf, rfl, HFC⟩ := hcut
    have HG3 := Lib.hid (HG2.out.fresh HFC.out)
    have HZ3 := Lib.hid (HZ2.out.fresh HFC.out)
    have HF3 := Lib.hid (HF2.out.trans HFC.out)
    have HR3 := Lib.hid (HR2.out.keep (w' := wc) fun i hi => HFC.out.block i (by omega))
    have hbc : B ≤ wc.heap.size := Nat.le_trans hbv HFC.out.size
    clear HFC HG2 HZ2 HF2 HR2 hbv
    by_cases hone : ¬ (M = 65535 ∨ L = 4294967295 ∨ Q = 4294967295)
    · have hfd := HFD.out
      rw [if_neg hone] at hfd
      subst hfd
      have hfv : f = false := by rw [← hdf.out, decide_eq_false hone]
      subst hfv
      clear HFD hone
      have k0 := HG3.out.cell (i := 0) rfl
      have k1 := HG3.out.cell (i := 1) rfl
      have k2 := HG3.out.cell (i := 2) rfl
      have k3 := HG3.out.cell (i := 3) rfl
      go_wp2_with (refine wpList_store_row (o := ⟨none, _, _, _, _, _⟩) rfl tTail (.tmp 2) (.tmp 31) rfl w.heap.size #[iv (M : Nat), iv (L : Nat), iv (Q : Nat), .bool false] rfl rfl tTail _ HZ3.out (by kernel_rfl) (by rfl) (one4 _ _ _ _) ?_)
      exact bodyPost_ret (results_row_tmp (p := 2) (u := 3) (by kernel_rfl) _ _ w.heap.size tTail [iv (M : Nat), iv (L : Nat), iv (Q : Nat), .bool false] _ rfl (HZ3.out.row _) Tryz.underlying76 rfl (by kernel_rfl)) rfl ⟨rfl, HF3.out.but (Nat.le_refl _) (But.row _ _ _)⟩
    · have hone1 : M = 65535 ∨ L = 4294967295 ∨ Q = 4294967295 := by omega
      have hfd := HFD.out
      rw [if_pos hone1] at hfd
      have hfv : f = true := by rw [← hdf.out, decide_eq_true hone1]
      subst hfv
      clear hone hone1 HFD
      have hwd := wideTail_any A n c xs p (p : Int) wc B HR3.out hbc hc HMX.out hn hp rfl r hfd.symm
      have HWD := Lib.hid hwd
      have hgz : g ≠ w.heap.size := by omega
      have hgz' : w.heap.size ≠ g := by omega
      cases r with
      | none =>
        clear hwd hfd
        go_upto_region 8 with (first
          | (go_at_call 68; ((with_reducible refine HWD.out.mono ?_); rintro e w5 ⟨⟨x, y, z, b, rfl⟩, hf5⟩; have HG5 := Lib.hid (HG3.out.fresh hf5); have HZ5 := Lib.hid (HZ3.out.fresh hf5); have HF5 := Lib.hid (HF3.out.trans hf5); clear hf5))
          | (refine wpList_store_row (o := ⟨none, _, _, _, _, _⟩) rfl tTail (.tmp 6) (.tmp 36) rfl g #[iv x, iv y, iv z, .bool b] rfl rfl tTail _ HG5.out (by kernel_rfl) (by rfl) (one4 _ _ _ _) ?_))
        have hz6 := HZ5.out.old ((But.row g w5 #[iv x, iv y, iv z, .bool b]).block _ HZ5.out.inside (by simp [hgz']))
        have hf6 := HF5.out.but (Nat.le_of_lt hgz9) (But.row g w5 #[iv x, iv y, iv z, .bool b])
        have HZ6 := Lib.hid hz6
        have HF6 := Lib.hid hf6
        clear hz6 hf6 HG5 HZ5 HF5
        generalize w5.setRow g #[iv x, iv y, iv z, .bool b] = w6 at *
        go_wp2_with (refine wpList_store_row (o := ⟨none, _, _, _, _, _⟩) rfl tTail (.tmp 2) (.tmp 40) rfl w.heap.size #[iv 0, iv 0, iv 0, .bool false] rfl rfl tTail _ HZ6.out (by kernel_rfl) (by rfl) (by kernel_rfl) ?_)
        exact bodyPost_ret (results_row_tmp (p := 2) (u := 3) (by kernel_rfl) _ _ w.heap.size tTail [iv 0, iv 0, iv 0, .bool false] _ rfl (HZ6.out.row _) Tryz.underlying76 rfl (by kernel_rfl)) rfl ⟨rfl, HF6.out.but (Nat.le_refl _) (But.row _ _ _)⟩
      | some t =>
        obtain ⟨tm, tl, ta, tw⟩ := t
        have htw : tw = true := wideTl_wd hfd.symm
        subst htw
        clear hwd hfd
        go_upto_region 8 with (first
          | (go_at_call 68; ((with_reducible refine HWD.out.mono ?_); rintro e w5 ⟨hE, hf5⟩; simp only [WideIs] at hE; subst hE; have HG5 := Lib.hid (HG3.out.fresh hf5); have HZ5 := Lib.hid (HZ3.out.fresh hf5); have HF5 := Lib.hid (HF3.out.trans hf5); clear hf5))
          | (refine wpList_store_row (o := ⟨none, _, _, _, _, _⟩) rfl tTail (.tmp 6) (.tmp 36) rfl g #[iv (tm : Nat), iv (tl : Nat), iv (ta : Nat), .bool true] rfl rfl tTail _ HG5.out (by kernel_rfl) (by rfl) (one4 _ _ _ _) ?_))
        have hz6 := HZ5.out.old ((But.row g w5 #[iv (tm : Nat), iv (tl : Nat), iv (ta : Nat), .bool true]).block _ HZ5.out.inside (by simp [hgz']))
        have hf6 := HF5.out.but (Nat.le_of_lt hgz9) (But.row g w5 #[iv (tm : Nat), iv (tl : Nat), iv (ta : Nat), .bool true])
        have hg6 := HG5.out.row #[iv (tm : Nat), iv (tl : Nat), iv (ta : Nat), .bool true]
        have HZ6 := Lib.hid hz6
        have HF6 := Lib.hid hf6
        have HG6 := Lib.hid hg6
        clear hz6 hf6 hg6 HG5 HZ5 HF5
        generalize w5.setRow g #[.int .i64 (tm : Nat), .int .i64 (tl : Nat), .int .i64 (ta : Nat), .bool true] = w6 at *
        have k0 := HG6.out.cell (i := 0) rfl
        have k1 := HG6.out.cell (i := 1) rfl
        have k2 := HG6.out.cell (i := 2) rfl
        have k3 := HG6.out.cell (i := 3) rfl
        go_wp2_with (refine wpList_store_row (o := ⟨none, _, _, _, _, _⟩) rfl tTail (.tmp 2) (.tmp 41) rfl w.heap.size #[iv (tm : Nat), iv (tl : Nat), iv (ta : Nat), .bool true] rfl rfl tTail _ HZ6.out (by kernel_rfl) (by rfl) (one4 _ _ _ _) ?_)
        exact bodyPost_ret (results_row_tmp (p := 2) (u := 3) (by kernel_rfl) _ _ w.heap.size tTail [iv (tm : Nat), iv (tl : Nat), iv (ta : Nat), .bool true] _ rfl (HZ6.out.row _) Tryz.underlying76 rfl (by kernel_rfl)) rfl ⟨rfl, HF6.out.but (Nat.le_refl _) (But.row _ _ _)⟩
end Go.Proofs.YtmnegmebkmihhaaGreatDoor.recp
