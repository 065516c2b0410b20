/-
  The reference's GetCentral: my own text.
-/
import Derived.Test.YtmnejphdjnlbjaaDoorRecRLoc
import Derived.Test.YtmnejphdjnlbjaaDoorRecCen
namespace Go.Proofs.YtmnejphdjnlbjaaDoor.recp
open Go.RowKit Go.Proofs.YtmnejphdjnlbjaaDoor.base Go.Proofs.YtmnejphdjnlbjaaDoor.num Go.Proofs.YtmnejphdjnlbjaaDoor.word Go.Proofs.YtmnejphdjnlbjaaDoor.recn
set_option linter.unusedVariables false
set_option maxRecDepth 100000 in
set_option maxHeartbeats 4000000 in
theorem refCentral_any (A : Option Addr) (n c : Nat) (xs : List UInt8) (p : Int) (w : World) (B : Nat) (hr : Rd w B A n (xs.map bv)) (hB : B ≤ w.heap.size) (hc : n ≤ c) (hm : c ≤ maxLen) (hn : n ≤ 1099511627776)
    (hp1 : -9223372036854775808 ≤ p) (hp2 : p ≤ 9223372036854775807) :
    Calls Tryd.prog 16 #[.slice A n c, .int .i64 p] w (GotIs w (cen xs p)) := by
  have hl : xs.length = n := by have := hr.1; rwa [List.length_map] at this
  have hz := Bk.made w tGot (gotZ 0).toArray
  have hf := Fresh.alloc w (.cells (gotZ 0).toArray tGot)
  have hfi : Calls Tryd.prog 32 #[.slice A n c, .int .i64 p, .int .u8 1, .int .u8 2] (w.alloc (.cells (gotZ 0).toArray tGot)) fun e w' => e = .returned (.int .i64 (fst4 xs p 1 2 : Nat)) ∧ (w.alloc (.cells (gotZ 0).toArray tGot)) = w' := first_any A n c xs p 1 2 (w.alloc (.cells (gotZ 0).toArray tGot)) B (hr.alloc hB _) hc hm hn hp1 hp2
  have hall : ∀ k : Int, (gotZ k).toArray.all (·.oneCell') = true := fun k => all_one (gotZ k) (by
    intro v hv
    unfold gotZ at hv
    simp only [List.mem_cons, List.not_mem_nil, or_false] at hv
    rcases hv with rfl | rfl | rfl | rfl | rfl | rfl | rfl | rfl | rfl | rfl | rfl <;> rfl)
  have HZ := Lib.hid hz
  have HF := Lib.hid hf
  have HALL := Lib.hid hall
  clear hz hf hall
  unfold gotZ at HZ HF HALL hfi
  by_cases h0 : fst4 xs p 1 2 = 0
  · obtain ⟨q, rfl, hq4, hbad, hgood⟩ := fst_good h0 46
    rw [h0] at hfi
    by_cases h30 : xs.length < q + 46
    · rw [cen_err (hbad h30)]
      have hs1 : decide ((n : Int) - (q : Int) < 46) = true := decide_eq_true (by omega)
      have HFI := Lib.hid hfi
      clear hfi hbad hgood h0 hr
      go_enter Tryd.func16, Tryd.ntmps16
      go_wp2_with (first
        | (go_at_call 32; ((with_reducible refine HFI.out.mono ?_); rintro e w1 ⟨rfl, rfl⟩))
        | (refine wpList_store_row (o := ⟨none, _, _, _, _, _⟩) rfl tGot (.tmp 4) (.tmp 23) rfl w.heap.size (gotZ 3).toArray rfl rfl tGot _ HZ.out (by kernel_rfl) (by rfl) (HALL.out 3) ?_))
      exact bodyPost_ret (results_cell_row (p := 4) (by kernel_rfl) _ _ w.heap.size tGot (gotZ 3).toArray (0, 0) _ rfl (HZ.out.row _) Tryd.underlying58 rfl (by kernel_rfl)) rfl ⟨HF.out.but (Nat.le_refl _) (But.row _ _ _), rfl⟩
    · obtain ⟨q', hqq, hq, _, hloc⟩ := cen_ok (hgood (by omega))
      have hqe : q' = q := by omega
      subst hqe
      have HLOC := Lib.hid hloc
      have HFI := Lib.hid hfi
      have hcore : ∀ W, Fresh w W → Calls Tryd.prog 33 #[.slice A n c, .int .i64 ((q' : Int) + 8)] W fun e w' => e = .returned (.agg (coreV xs (q' + 8)).toArray) ∧ Fresh W w' := fun W k =>
        core_any A n c xs ((q' : Int) + 8) (q' + 8) W B (hr.keep fun i hi => k.block i (by omega)) (Nat.le_trans hB k.size) (by omega) hc hm hn (by omega)
      have hatd : ∀ (z : Int) (d k : Nat) (kz : Int), kz = (k : Int) → z = ((q' + d : Nat) : Int) → (k = 2 ∨ k = 4) → d + k ≤ 46 → ∀ W, Fresh w W → Calls Tryd.prog 30 #[.slice A n c, .int .i64 z, .int .i64 kz] W fun e w' => e = .returned (.int .i64 (nm xs (q' + d) k : Nat)) ∧ W = w' := fun z d k kz hkz hz hk hd W hW => by
        subst hkz
        exact at24 A n c xs z (q' + d) k W B (hr.keep fun i hi => hW.block i (by omega)) hz hc hm hn hk (by omega)
      have hat28 := hatd ((q' : Int) + 28) 28 2 2 rfl (by omega) (.inl rfl) (by omega)
      have hat30 := hatd ((q' : Int) + 30) 30 2 2 rfl (by omega) (.inl rfl) (by omega)
      have hat32 := hatd ((q' : Int) + 32) 32 2 2 rfl (by omega) (.inl rfl) (by omega)
      have hat42 := hatd ((q' : Int) + 42) 42 4 4 rfl (by omega) (.inr rfl) (by omega)
      have hcv : coreV xs (q' + 8) = [iv (nm xs (q' + 8) 2 : Nat), iv (nm xs (q' + 10) 2 : Nat), iv (nm xs (q' + 12) 4 : Nat), .int .u32 (nm xs (q' + 16) 4 : Nat), iv (nm xs (q' + 20) 4 : Nat), iv (nm xs (q' + 24) 4 : Nat), iv 0, .slice none 0 0, .bool false] := rfl
      rw [hcv] at hcore
      have hnn := nm2 xs (q' + 28)
      have hkk := nm2 xs (q' + 30)
      have hmm := nm2 xs (q' + 32)
      clear hcv hloc hfi hbad hgood h0 hqq hatd
      generalize nm xs (q' + 8) 2 = fl at *
      generalize nm xs (q' + 10) 2 = me at *
      generalize nm xs (q' + 12) 4 = dt at *
      generalize nm xs (q' + 16) 4 = cr at *
      generalize nm xs (q' + 20) 4 = zc at *
      generalize nm xs (q' + 24) 4 = zs at *
      generalize nm xs (q' + 28) 2 = nn at *
      generalize nm xs (q' + 30) 2 = kk at *
      generalize nm xs (q' + 32) 2 = mm at *
      generalize nm xs (q' + 42) 4 = za at *
      have HCORE := Lib.hid hcore
      have HAT28 := Lib.hid hat28
      have HAT30 := Lib.hid hat30
      have HAT32 := Lib.hid hat32
      have HAT42 := Lib.hid hat42
      have HR := Lib.hid hr
      have HL := Lib.hid hl
      have hqn : q' + 46 ≤ n := by omega
      clear hcore hat28 hat30 hat32 hat42 hr
      by_cases hlen : n < q' + 46 + nn + kk + mm
      · clear hl
        go_enter Tryd.func16, Tryd.ntmps16
        go_wp2_with (first
          | (go_at_call 32; ((with_reducible refine HFI.out.mono ?_); rintro e w1 ⟨rfl, rfl⟩))
          | (go_at_call 33; ((with_reducible refine (HCORE.out _ HF.out).mono ?_); rintro e w2 ⟨rfl, hf2⟩; have HF2 := Lib.hid ((HF.out.trans hf2).trans (Fresh.alloc w2 (.cells #[iv (fl : Nat), iv (me : Nat), iv (dt : Nat), .int .u32 (cr : Nat), iv (zc : Nat), iv (zs : Nat), iv 0, .slice none 0 0, .bool false] tHead))); have HZ2 := Lib.hid ((HZ.out.fresh hf2).alloc (.cells #[iv (fl : Nat), iv (me : Nat), iv (dt : Nat), .int .u32 (cr : Nat), iv (zc : Nat), iv (zs : Nat), iv 0, .slice none 0 0, .bool false] tHead)); clear hf2))
          | (go_at_call 30; ((with_reducible refine (HAT28.out _ HF2.out).mono ?_); rintro e w1 ⟨rfl, rfl⟩))
          | (go_at_call 30; ((with_reducible refine (HAT30.out _ HF2.out).mono ?_); rintro e w1 ⟨rfl, rfl⟩))
          | (go_at_call 30; ((with_reducible refine (HAT32.out _ HF2.out).mono ?_); rintro e w1 ⟨rfl, rfl⟩))
          | (refine wpList_store_row (o := ⟨none, _, _, _, _, _⟩) rfl tGot (.tmp 4) (.tmp 51) rfl w.heap.size (gotZ 3).toArray rfl rfl tGot _ HZ2.out (by kernel_rfl) (by rfl) (HALL.out 3) ?_))
        exact bodyPost_ret (results_cell_row (p := 4) (by kernel_rfl) _ _ w.heap.size tGot (gotZ 3).toArray (0, 0) _ rfl (HZ2.out.row _) Tryd.underlying58 rfl (by kernel_rfl)) rfl ⟨HF2.out.but (Nat.le_refl _) (But.row _ _ _), by rw [HLOC.out, HL.out, if_pos hlen]; rfl⟩
      · have hwd := wd_len [zs, zc, za]
        obtain ⟨i0, hi0, hz0, hz1, hz2⟩ := info_parts byte_info
        go_enter Tryd.func16, Tryd.ntmps16
        go_upto_region 12 with (first
          | (go_at_call 32; ((with_reducible refine HFI.out.mono ?_); rintro e w1 ⟨rfl, rfl⟩))
          | (go_at_call 33; ((with_reducible refine (HCORE.out _ HF.out).mono ?_); rintro e w2 ⟨rfl, hf2⟩; have HF2 := Lib.hid ((HF.out.trans hf2).trans (Fresh.alloc w2 (.cells #[iv (fl : Nat), iv (me : Nat), iv (dt : Nat), .int .u32 (cr : Nat), iv (zc : Nat), iv (zs : Nat), iv 0, .slice none 0 0, .bool false] tHead))); have HZ2 := Lib.hid ((HZ.out.fresh hf2).alloc (.cells #[iv (fl : Nat), iv (me : Nat), iv (dt : Nat), .int .u32 (cr : Nat), iv (zc : Nat), iv (zs : Nat), iv 0, .slice none 0 0, .bool false] tHead)); have hg2 := (HZ.out.fresh hf2).inside; clear hf2))
          | (go_at_call 30; ((with_reducible refine (HAT28.out _ HF2.out).mono ?_); rintro e w1 ⟨rfl, rfl⟩))
          | (go_at_call 30; ((with_reducible refine (HAT30.out _ HF2.out).mono ?_); rintro e w1 ⟨rfl, rfl⟩))
          | (go_at_call 30; ((with_reducible refine (HAT32.out _ HF2.out).mono ?_); rintro e w1 ⟨rfl, rfl⟩)))
        have hb3 := Bk.made w2 tHead #[iv (fl : Nat), iv (me : Nat), iv (dt : Nat), .int .u32 (cr : Nat), iv (zc : Nat), iv (zs : Nat), iv 0, .slice none 0 0, .bool false]
        have hs3 : (w2.alloc (.cells #[iv (fl : Nat), iv (me : Nat), iv (dt : Nat), .int .u32 (cr : Nat), iv (zc : Nat), iv (zs : Nat), iv 0, .slice none 0 0, .bool false] tHead)).heap.size = w2.heap.size + 1 := by simp
        generalize w2.alloc (.cells #[iv (fl : Nat), iv (me : Nat), iv (dt : Nat), .int .u32 (cr : Nat), iv (zc : Nat), iv (zs : Nat), iv 0, .slice none 0 0, .bool false] tHead) = W3 at *
        generalize w2.heap.size = g at *
        have hf3d := HF2.out.trans (Fresh.drew W3)
        have hb3d : Bk W3.drew g tHead [iv (fl : Nat), iv (me : Nat), iv (dt : Nat), .int .u32 (cr : Nat), iv (zc : Nat), iv (zs : Nat), iv 0, .slice none 0 0, .bool false] := hb3.fresh (Fresh.drew W3)
        have hk7 : W3.drew.cell? ⟨g, 7, none⟩ = some (.slice none 0 0) := hb3d.cell rfl
        have hsrc : Rd W3.drew B (if c = q' + 46 then A else A.map (·.add (q' + 46))) nn (((xs.drop (q' + 46)).take nn).map bv) := cut_one (HR.out.keep fun i hi => hf3d.block i (by omega)) (by omega) hc
        have HSRC := Lib.hid hsrc
        have HB3 := Lib.hid hb3d
        have HF3 := Lib.hid hf3d
        have HS3 := Lib.hid hs3
        clear hb3 hb3d hf3d hsrc hs3
        unfold maxLen at hm
        have hsz4 : 0 + nn ≤ maxLen := by unfold maxLen; omega
        have hsb4 : (0 + nn) * 1 ≤ 140737488355328 := by omega
        have hw1 : IntKind.i64.wrap ((q' : Int) + 46) = (q' : Int) + 46 := IntWalk.i64_in _ (by omega)
        have hw2 : IntKind.i64.wrap ((q' : Int) + 46 + (nn : Int)) = (q' : Int) + 46 + (nn : Int) := IntWalk.i64_in _ (by omega)
        have p1 : 0 ≤ (q' : Int) + 46 := by omega
        have p2 : 0 ≤ (q' : Int) + 46 + (nn : Int) := by omega
        have p3 : (q' : Int) + 46 + (nn : Int) ≤ (c : Int) := by omega
        have p4 : (q' : Int) + 46 ≤ (q' : Int) + 46 + (nn : Int) := by omega
        have t1 : ((q' : Int) + 46).toNat = q' + 46 := by omega
        have t2 : ((q' : Int) + 46 + (nn : Int)).toNat = q' + 46 + nn := by omega
        have hmx : max ((q' : Int) + 46 + (nn : Int)) 0 = (q' : Int) + 46 + (nn : Int) := by omega
        have hbs : w.heap.size ≤ W3.drew.heap.size := HF3.out.size
        go_region_law ((refine step_append_rd (by rfl) (.tmp 53) (.tmp 61) 22 (by rfl) w.heap.size 5 i0 _ 1 Tryd.underlying22 hi0 hz0 hz1 hz2 rfl none 0 0 [] (by rfl) (Own.nil _ _ _) B _ nn _ _ (by rfl) HSRC.out (bv_one _) hsz4 hsb4 hbs ?_; intro A4 c4 w4 hown4 hg4; have hb4 := HB3.out.grown hg4 (by simp [Value.ownBlock]); have hk74 : w4.cell? ⟨g, 7, none⟩ = some (.slice none 0 0) := hb4.cell rfl; have hz74 := hb4.free 7; have HB4 := Lib.hid hb4; have HG4 := Lib.hid hg4; have HO4 := Lib.hid hown4; clear hb4 hg4 hown4))
        all_goals clear hw1 hw2 p1 p2 p3 p4 t1 t2 hmx hsz4 hsb4 hk7 hk74 hz74
        all_goals (generalize (if c = q' + 46 then A else Option.map (fun x => (⟨x.block, x.off + (q' + 45 + 1), none⟩ : Addr)) A) = D4)
        all_goals
          have hb5 : Bk (w4.setCell ⟨g, 7, none⟩ (.slice A4 nn c4)) g tHead [iv (fl : Nat), iv (me : Nat), iv (dt : Nat), .int .u32 (cr : Nat), iv (zc : Nat), iv (zs : Nat), iv 0, .slice A4 nn c4, .bool false] := HB4.out.put 7 _
          have ho4 := HO4.out
          rw [List.nil_append, Nat.zero_add] at ho4
          have hne4 := ho4.ne_block HB4.out (by decide)
          have ho5 := ho4.but (But.put (g := g) (i := 7) w4 (.slice A4 nn c4)) hne4
          have hf5 : Fresh w (w4.setCell ⟨g, 7, none⟩ (.slice A4 nn c4)) := (HF3.out.append (Own.nil _ _ 5) (Nat.le_refl _) HG4.out).but (by omega) (But.put (g := g) (i := 7) _ _)
          have hz5 : Bk (w4.setCell ⟨g, 7, none⟩ (.slice A4 nn c4)) w.heap.size tGot (gotZ 0) := ((HZ2.out.fresh (Fresh.drew _)).grown HG4.out (by simp [Value.ownBlock])).apart (p := ⟨g, 7, none⟩) (by simp; omega) _
          have HB5 := Lib.hid hb5
          have HO5 := Lib.hid ho5
          have HF5 := Lib.hid hf5
          have HZ5 := Lib.hid hz5
          clear hb5 ho4 hne4 ho5 hf5 hz5
        all_goals go_wp2
        all_goals
          generalize w4.setCell ⟨g, 7, none⟩ (.slice A4 nn c4) = w5 at *
          have hb5d := HB5.out.fresh (Fresh.drew w5)
          have hk5 : w5.drew.cell? ⟨g, 5, none⟩ = some (iv (zs : Nat)) ∧ w5.drew.cell? ⟨g, 4, none⟩ = some (iv (zc : Nat)) := ⟨hb5d.cell rfl, hb5d.cell rfl⟩
          have hal : Fresh w5 (w5.alloc (.cells #[iv (zs : Nat), iv (zc : Nat), iv (za : Nat)] tInt)).drew := (Fresh.alloc w5 (.cells #[iv (zs : Nat), iv (zc : Nat), iv (za : Nat)] tInt)).trans (Fresh.drew _)
          have hb6 := HB5.out.fresh hal
          have hk6 : (w5.alloc (.cells #[iv (zs : Nat), iv (zc : Nat), iv (za : Nat)] tInt)).drew.cell? ⟨g, 5, none⟩ = some (iv (zs : Nat)) ∧ (w5.alloc (.cells #[iv (zs : Nat), iv (zc : Nat), iv (za : Nat)] tInt)).drew.cell? ⟨g, 4, none⟩ = some (iv (zc : Nat)) := ⟨hb6.cell rfl, hb6.cell rfl⟩
          have hf6 := HF5.out.trans hal
          have hf5d := HF5.out.trans (Fresh.drew w5)
          have hat := HAT42.out _ hf5d
          have hsrc : Rd (w5.alloc (.cells #[iv (zs : Nat), iv (zc : Nat), iv (za : Nat)] tInt)).drew B (if c = q' + 46 + nn then A else A.map (·.add (q' + 46 + nn))) kk (((xs.drop (q' + 46 + nn)).take kk).map bv) := cut_one (HR.out.keep fun i hi => hf6.block i (by omega)) (by omega) hc
          have hrow : Rd (w5.alloc (.cells #[iv (zs : Nat), iv (zc : Nat), iv (za : Nat)] tInt)).drew (w5.heap.size + 1) (some ⟨w5.heap.size, 0, none⟩) 3 (nvs [zs, zc, za]) := (Rd.lit w5 #[iv (zs : Nat), iv (zc : Nat), iv (za : Nat)] tInt).keep fun i hi => rfl
          have hrw := rwiden_any _ kk (c - (q' + 46 + nn)) ((xs.drop (q' + 46 + nn)).take kk) _ 3 3 [zs, zc, za] _ B _ hsrc (by have := hf6.size; omega) (by omega) (by unfold maxLen; omega) (by omega) hrow (by simp) (by omega)
          have HRW := Lib.hid hrw
          have HAT := Lib.hid hat
          have HB6 := Lib.hid hb6
          have HO6 := Lib.hid (HO5.out.fresh hal)
          have HF6 := Lib.hid hf6
          have HZ6 := Lib.hid (HZ5.out.fresh hal)
          have hk50 := hk5.1
          have hk40 := hk5.2
          clear hk5
          have hw0 : IntKind.i64.wrap ((q' : Int) + 42) = (q' : Int) + 42 := IntWalk.i64_in _ (by omega)
          have hw1 : IntKind.i64.wrap ((q' : Int) + 46) = (q' : Int) + 46 := IntWalk.i64_in _ (by omega)
          have hw2 : IntKind.i64.wrap ((q' : Int) + 46 + (nn : Int)) = (q' : Int) + 46 + (nn : Int) := IntWalk.i64_in _ (by omega)
          have hw3 : IntKind.i64.wrap ((q' : Int) + 46 + (nn : Int) + (kk : Int)) = (q' : Int) + 46 + (nn : Int) + (kk : Int) := IntWalk.i64_in _ (by omega)
          have p1 : 0 ≤ (q' : Int) + 46 + (nn : Int) := by omega
          have p2 : 0 ≤ (q' : Int) + 46 + (nn : Int) + (kk : Int) := by omega
          have p3 : (q' : Int) + 46 + (nn : Int) + (kk : Int) ≤ (c : Int) := by omega
          have p4 : (q' : Int) + 46 + (nn : Int) ≤ (q' : Int) + 46 + (nn : Int) + (kk : Int) := by omega
          have t1 : ((q' : Int) + 46 + (nn : Int)).toNat = q' + 46 + nn := by omega
          have t2 : ((q' : Int) + 46 + (nn : Int) + (kk : Int)).toNat = q' + 46 + nn + kk := by omega
          have hmx : max ((q' : Int) + 46 + (nn : Int) + (kk : Int)) 0 = (q' : Int) + 46 + (nn : Int) + (kk : Int) := by omega
          clear hb5d hal hf6 hf5d hsrc hrow hrw hat hb6 hk6
          cases hwn : widn ((xs.drop (q' + 46 + nn)).take kk) [zs, zc, za] with
          | none =>
            rw [hwn] at HRW
            have HWN := Lib.hid hwn
            have heq := fun W => run_slice_is_nil (P := Tryd.prog) W 88 3 none 0 0 Tryd.underlying88
            clear hwn
            go_region_law (first | ((with_reducible refine st_slot_ 83 ?_); go_simp; (refine HAT.out.mono ?_); rintro e w1 ⟨rfl, rfl⟩) | ((with_reducible refine st_slot_ 85 ?_); go_simp; (refine HRW.out.mono ?_); rintro e w7 ⟨hf7, rfl⟩; have HF7 := Lib.hid (HF6.out.trans hf7); have HZ7 := Lib.hid (HZ6.out.fresh hf7); clear hf7))
            all_goals clear hw0 hw1 hw2 hw3 p1 p2 p3 p4 t1 t2 hmx hk50 hk40
            all_goals go_wp2_with (refine wpList_store_row (o := ⟨none, _, _, _, _, _⟩) rfl tGot (.tmp 4) (.tmp 88) rfl w.heap.size (gotZ 4).toArray rfl rfl tGot _ HZ7.out (by kernel_rfl) (by rfl) (HALL.out 4) ?_)
            all_goals exact bodyPost_ret (results_cell_row (p := 4) (by kernel_rfl) _ _ w.heap.size tGot (gotZ 4).toArray (0, 0) _ rfl (HZ7.out.row _) Tryd.underlying58 rfl (by kernel_rfl)) rfl ⟨HF7.out.but (Nat.le_refl _) (But.row _ _ _), by rw [HLOC.out, HL.out, if_neg hlen, HWN.out]; rfl⟩
          | some vs =>
            rw [hwn] at HRW
            obtain ⟨fw, _, hfw⟩ := Option.bind_eq_some_iff.1 hwn
            have hlv := hwd fw vs hfw
            clear hfw
            obtain ⟨va, vb, vc, rfl⟩ : ∃ va vb vc, vs = [va, vb, vc] := by
              match vs, hlv with
              | [va, vb, vc], _ => exact ⟨va, vb, vc, rfl⟩
            have HWN := Lib.hid hwn
            have hany : [zs, zc, za].any isOnes = (isOnes zs || isOnes zc || isOnes za) := by simp [Bool.or_assoc]
            generalize hQe : (isOnes zs || isOnes zc || isOnes za) = Q at *
            have HANY := Lib.hid hany
            have hq1 : (((b2n Q : Nat) : Int) == 1) = Q := by cases Q <;> rfl
            have heq := fun W a c7 => run_slice_is_nil (P := Tryd.prog) W 88 3 (some a) 4 c7 Tryd.underlying88
            have HEND := Lib.hid (show ((q' + 46 + nn + kk + mm : Nat) : Int) = (q' : Int) + 46 + (nn : Int) + (kk : Int) + (mm : Int) from by omega)
            obtain ⟨NM, hNM⟩ : ∃ NM, NM = Value.slice A4 nn c4 := ⟨_, rfl⟩
            have HNAM := Lib.hid hNM
            have hall11 : (#[iv (fl : Nat), iv (me : Nat), iv (dt : Nat), .int .u32 (cr : Nat), iv (vb : Nat), iv (va : Nat), iv (vc : Nat), NM, .bool Q, iv ((q' : Int) + 46 + (nn : Int) + (kk : Int) + (mm : Int)), iv 0] : Array Value).all (·.oneCell') = true := by
              subst hNM
              exact all_one _ (by
                intro v hv
                simp only [List.mem_cons, List.not_mem_nil, or_false] at hv
                rcases hv with rfl | rfl | rfl | rfl | rfl | rfl | rfl | rfl | rfl | rfl | rfl <;> rfl)
            have HALL11 := Lib.hid hall11
            have hb6n : Bk (w5.alloc (.cells #[iv (zs : Nat), iv (zc : Nat), iv (za : Nat)] tInt)).drew g tHead [iv (fl : Nat), iv (me : Nat), iv (dt : Nat), .int .u32 (cr : Nat), iv (zc : Nat), iv (zs : Nat), iv 0, NM, .bool false] := by rw [hNM]; exact HB6.out
            have HB6N := Lib.hid hb6n
            clear hwn hany hQe hNM hall11 hlv hb6n
            go_region_law (first | ((with_reducible refine st_slot_ 83 ?_); go_simp; (refine HAT.out.mono ?_); rintro e w1 ⟨rfl, rfl⟩) | ((with_reducible refine st_slot_ 85 ?_); go_simp; (refine HRW.out.mono ?_); rintro e w7 ⟨hf7, a7, c7, rfl, ho7⟩; have HF7 := Lib.hid (HF6.out.trans hf7); have HZ7 := Lib.hid (HZ6.out.fresh hf7); have HB7 := Lib.hid (HB6N.out.fresh hf7); have HO7 := Lib.hid ho7; have HN7 := Lib.hid (HO6.out.fresh hf7); have hg6 := HB6.out.inside; clear hf7 ho7))
            all_goals clear hw0 hw1 hw2 hw3 p1 p2 p3 p4 t1 t2 hmx hk50 hk40
            all_goals
              have ho7 := HO7.out
              rw [HANY.out] at ho7
              obtain ⟨ga, cap7, hv7, hbs7, hin7⟩ := World.ownsRow.form ho7 (by simp)
              injection hv7 with ea7 _ _
              injection ea7 with ea7
              subst ea7
              have hcl := World.ownsRow.cells ho7 (g := ga) rfl
              have hne7 : g ≠ ga := by omega
              have k0 : w7.cell? ⟨ga, 0, none⟩ = some (iv (va : Nat)) := hcl 0 _ rfl
              have k1 : w7.cell? ⟨ga, 1, none⟩ = some (iv (vb : Nat)) := hcl 1 _ rfl
              have k2 : w7.cell? ⟨ga, 2, none⟩ = some (iv (vc : Nat)) := hcl 2 _ rfl
              have k3 : w7.cell? ⟨ga, 3, none⟩ = some (iv (b2n Q : Nat)) := hcl 3 _ rfl
              have b7 := HB7.out
              have b8 := b7.put 5 (iv (va : Nat))
              have b9 := b8.put 4 (iv (vb : Nat))
              have b10 := b9.put 6 (iv (vc : Nat))
              have b11 : Bk ((((w7.setCell ⟨g, 5, none⟩ (iv (va : Nat))).setCell ⟨g, 4, none⟩ (iv (vb : Nat))).setCell ⟨g, 6, none⟩ (iv (vc : Nat))).setCell ⟨g, 8, none⟩ (.bool Q)) g tHead [iv (fl : Nat), iv (me : Nat), iv (dt : Nat), .int .u32 (cr : Nat), iv (vb : Nat), iv (va : Nat), iv (vc : Nat), NM, .bool Q] := b10.put 8 (.bool Q)
              have n11 := (((HN7.out.but (But.put (g := g) (i := 5) _ (iv (va : Nat))) (HN7.out.ne_block b7 (by decide))).but (But.put (g := g) (i := 4) _ (iv (vb : Nat))) (HN7.out.ne_block b7 (by decide))).but (But.put (g := g) (i := 6) _ (iv (vc : Nat))) (HN7.out.ne_block b7 (by decide))).but (But.put (g := g) (i := 8) _ (.bool Q)) (HN7.out.ne_block b7 (by decide))
              have z11 := (((HZ7.out.apart (p := ⟨g, 5, none⟩) (by simp; omega) (iv (va : Nat))).apart (p := ⟨g, 4, none⟩) (by simp; omega) (iv (vb : Nat))).apart (p := ⟨g, 6, none⟩) (by simp; omega) (iv (vc : Nat))).apart (p := ⟨g, 8, none⟩) (by simp; omega) (.bool Q)
              have f11 := (((HF7.out.but (by omega) (But.put (g := g) (i := 5) _ (iv (va : Nat)))).but (by omega) (But.put (g := g) (i := 4) _ (iv (vb : Nat)))).but (by omega) (But.put (g := g) (i := 6) _ (iv (vc : Nat)))).but (by omega) (But.put (g := g) (i := 8) _ (.bool Q))
              have k1' : (w7.setCell ⟨g, 5, none⟩ (iv (va : Nat))).cell? ⟨ga, 1, none⟩ = some (iv (vb : Nat)) := (World.cell?_of_block (Below.heap_setCell _ _ _ ga (Ne.symm hne7))).trans k1
              have k2' : ((w7.setCell ⟨g, 5, none⟩ (iv (va : Nat))).setCell ⟨g, 4, none⟩ (iv (vb : Nat))).cell? ⟨ga, 2, none⟩ = some (iv (vc : Nat)) := (World.cell?_of_block (Below.heap_setCell _ _ _ ga (Ne.symm hne7))).trans ((World.cell?_of_block (Below.heap_setCell _ _ _ ga (Ne.symm hne7))).trans k2)
              have k3' : (((w7.setCell ⟨g, 5, none⟩ (iv (va : Nat))).setCell ⟨g, 4, none⟩ (iv (vb : Nat))).setCell ⟨g, 6, none⟩ (iv (vc : Nat))).cell? ⟨ga, 3, none⟩ = some (iv (b2n Q : Nat)) := (World.cell?_of_block (Below.heap_setCell _ _ _ ga (Ne.symm hne7))).trans ((World.cell?_of_block (Below.heap_setCell _ _ _ ga (Ne.symm hne7))).trans ((World.cell?_of_block (Below.heap_setCell _ _ _ ga (Ne.symm hne7))).trans k3))
              have m5 := b7.cell (i := 5) rfl
              have m4 := b8.cell (i := 4) rfl
              have m6 := b9.cell (i := 6) rfl
              have m8 := b10.cell (i := 8) rfl
              have y5 := b7.free 5
              have y4 := b7.free 4
              have y8 := b7.free 8
              have y6 := b7.free 6
              have B11 := Lib.hid b11
              have N11 := Lib.hid n11
              have Z11 := Lib.hid z11
              have F11 := Lib.hid f11
              clear b7 b8 b9 b10 b11 n11 z11 f11 k1 k2 k3 hcl ho7 hbs7 hin7 hne7
              go_upto_region 20 with (fail)
            all_goals
              clear m5 m4 m8 m6 y5 y4 y8 y6 k0 k1' k2' k3'
              have b11 := B11.out
              have c0 := b11.cell (i := 0) rfl
              have c1' := b11.cell (i := 1) rfl
              have c2' := b11.cell (i := 2) rfl
              have c3' := b11.cell (i := 3) rfl
              have c4' := b11.cell (i := 4) rfl
              have c5' := b11.cell (i := 5) rfl
              have c6' := b11.cell (i := 6) rfl
              have c7' := b11.cell (i := 7) rfl
              have c8' := b11.cell (i := 8) rfl
              clear b11
              generalize (((w7.setCell ⟨g, 5, none⟩ (iv (va : Nat))).setCell ⟨g, 4, none⟩ (iv (vb : Nat))).setCell ⟨g, 6, none⟩ (iv (vc : Nat))).setCell ⟨g, 8, none⟩ (.bool Q) = w8 at *
              go_wp2_with (refine wpList_store_row (o := ⟨none, _, _, _, _, _⟩) rfl tGot (.tmp 4) (.tmp 115) rfl w.heap.size #[iv (fl : Nat), iv (me : Nat), iv (dt : Nat), .int .u32 (cr : Nat), iv (vb : Nat), iv (va : Nat), iv (vc : Nat), NM, .bool Q, iv ((q' : Int) + 46 + (nn : Int) + (kk : Int) + (mm : Int)), iv 0] rfl rfl tGot _ Z11.out (by kernel_rfl) (by rfl) HALL11.out ?_)
              all_goals have hl5 := N11.out.1
              all_goals rw [List.length_map, Nat.mul_one] at hl5
              all_goals exact bodyPost_ret (results_cell_row (p := 4) (by kernel_rfl) _ _ w.heap.size tGot #[iv (fl : Nat), iv (me : Nat), iv (dt : Nat), .int .u32 (cr : Nat), iv (vb : Nat), iv (va : Nat), iv (vc : Nat), NM, .bool Q, iv ((q' : Int) + 46 + (nn : Int) + (kk : Int) + (mm : Int)), iv 0] (0, 0) _ rfl (Z11.out.row _) Tryd.underlying58 rfl (by kernel_rfl)) rfl ⟨F11.out.but (Nat.le_refl _) (But.row _ _ _), by
                rw [HLOC.out, HL.out, if_neg hlen, HWN.out]
                have hcp := N11.out.cap
                refine ⟨A4, c4, ?_, by rw [hl5]; exact hcp.1, hcp.2, ?_⟩
                · unfold headV
                  simp only [hl5, HEND.out, HNAM.out]
                  rfl
                · simp only [hl5]
                  exact RdA.of_own (N11.out.but (But.row w.heap.size _ _) (N11.out.ne_block Z11.out (by decide))) fun i hi => List.mem_range.1 hi⟩
  · rw [cen_err (fst_bad h0 46)]
    generalize fst4 xs p 1 2 = k at *
    have hk : ((k : Int) != 0) = true := by rw [bne_iff_ne]; omega
    have HFI := Lib.hid hfi
    clear hfi h0 hr
    go_enter Tryd.func16, Tryd.ntmps16
    go_wp2_with (first
      | (go_at_call 32; ((with_reducible refine HFI.out.mono ?_); rintro e w1 ⟨rfl, rfl⟩))
      | (refine wpList_store_row (o := ⟨none, _, _, _, _, _⟩) rfl tGot (.tmp 4) (.tmp 17) rfl w.heap.size (gotZ k).toArray rfl rfl tGot _ HZ.out (by kernel_rfl) (by rfl) (HALL.out k) ?_))
    exact bodyPost_ret (results_cell_row (p := 4) (by kernel_rfl) _ _ w.heap.size tGot (gotZ k).toArray (0, 0) _ rfl (HZ.out.row _) Tryd.underlying58 rfl (by kernel_rfl)) rfl ⟨HF.out.but (Nat.le_refl _) (But.row _ _ _), rfl⟩
end Go.Proofs.YtmnejphdjnlbjaaDoor.recp
