/-
  The reference's GetLocal: my own text.
-/
import Derived.Test.YtmnejphdjnlbjaaDoorRecRWid
import Derived.Test.YtmnejphdjnlbjaaDoorRecHead
import Derived.Deep.RegionHeld3
import Derived.IntWalk
import Derived.Deep.DeepCutAuto
namespace Go.Proofs.YtmnejphdjnlbjaaDoor.recp
open Go.RowKit Go.Proofs.YtmnejphdjnlbjaaDoor.base Go.Proofs.YtmnejphdjnlbjaaDoor.num Go.Proofs.YtmnejphdjnlbjaaDoor.word Go.Proofs.YtmnejphdjnlbjaaDoor.recn
set_option linter.unusedVariables false
abbrev tGot : TypeId := 58
def gotZ (k : Int) : List Value := [iv 0, iv 0, iv 0, .int .u32 0, iv 0, iv 0, iv 0, .slice none 0 0, .bool false, iv 0, iv k]
def GotIs (w : World) (r : Except Nat (Hd × Nat)) (e : Ending) (w' : World) : Prop :=
  Fresh w w' ∧ match r with
  | .error k => e = .returned (.agg (gotZ (k : Nat)).toArray)
  | .ok x => ∃ A c, e = .returned (.agg (headV x.1 A c ++ [iv (x.2 : Nat), iv 0]).toArray) ∧ x.1.nm.length ≤ c ∧ c ≤ maxLen ∧ RdA w' (List.range w.heap.size) A x.1.nm.length (x.1.nm.map bv)
theorem fst_bad {xs : List UInt8} {p : Int} {u v : UInt8} (h : fst4 xs p u v ≠ 0) (long : Nat) : bg xs p [80, 75, u, v] long = .error (fst4 xs p u v) := by
  unfold fst4 at h ⊢
  unfold bg sg at *
  by_cases h1 : p < 0
  · rw [if_pos h1, if_pos h1]
  · rw [if_neg h1] at h ⊢
    rw [if_neg h1]
    by_cases h2 : xs.length < p.toNat + 4
    · rw [if_pos h2, if_pos h2]
    · rw [if_neg h2] at h ⊢
      rw [if_neg h2]
      by_cases h3 : ((xs.drop p.toNat).take 4 == [80, 75, u, v]) = false
      · rw [if_pos h3, if_pos h3]
      · rw [if_neg h3] at h
        exact absurd rfl h
theorem fst_good {xs : List UInt8} {p : Int} {u v : UInt8} (h : fst4 xs p u v = 0) (long : Nat) :
    ∃ q : Nat, p = (q : Int) ∧ q + 4 ≤ xs.length ∧ (xs.length < q + long → bg xs p [80, 75, u, v] long = .error 3) ∧ (q + long ≤ xs.length → bg xs p [80, 75, u, v] long = .ok ((xs.drop (q + 4)).take (long - 4))) := by
  unfold fst4 at h
  split at h
  · cases h
  split at h
  · cases h
  split at h
  · cases h
  next h1 h2 h3 =>
  obtain ⟨q, rfl⟩ : ∃ q : Nat, p = (q : Int) := ⟨p.toNat, by omega⟩
  rw [Int.toNat_natCast] at h2 h3
  refine ⟨q, rfl, by omega, fun h4 => ?_, fun h4 => ?_⟩
  · unfold bg
    rw [if_neg h1]
    simp only [Int.toNat_natCast]
    rw [if_neg h2, if_neg (by unfold sg at h3; exact h3), if_pos h4]
  · unfold bg
    rw [if_neg h1]
    simp only [Int.toNat_natCast]
    rw [if_neg h2, if_neg (by unfold sg at h3; exact h3), if_neg (by omega)]
theorem step_append_rd {P : Program} {ops : Array Oper} {o : Oper} {a : Act} {w : World} {K : Act → World → Prop} {Q : Exit → Act → World → Prop} {E : Prop} (hgd : o.guard = none) (s x : Operand) (t : TypeId)
    (ho : o.op = .call { callee := .builtin .append, args := #[s, x], argTypes := #[t, t] })
    (base : Nat) (e : TypeId) (i : TypeInfo) (z : Value) (bytes : Nat) (ht : P.underlying t = some (.slice e)) (hi : P.info? e = some i) (hz : i.zero = some z)
    (hsize : i.size = 1) (hby : i.bytes = bytes) (hzs : z.cells.size = 1)
    (A : Option Addr) (n c : Nat) (xs : List Value) (hs : a.eval s = .slice A n c) (hown : Own w base e A n c xs)
    (B : Nat) (D : Option Addr) (m d : Nat) (news : List Value) (hx : a.eval x = .slice D m d) (hr : Rd w B D m news) (h1 : ∀ u ∈ news, u.oneCell' = true)
    (h63 : n + m ≤ maxLen) (hbytes : (n + m) * bytes ≤ 140737488355328) (hbase : base ≤ w.heap.size)
    (h : ∀ A' c' w', Own w' base e A' (n + m) c' (xs ++ news) → w.grownBy w' (Value.slice A n c).ownBlock → K (a.put o.dst (.slice A' (n + m) c')) w') : if Region.wanted o (yielded ops a.tmps) = true then Oper.wp P o a w K Q else E := by
  have hw : Region.wanted o (yielded ops a.tmps) = true := by simp [Region.wanted, hgd]
  rw [if_pos hw]
  exact wp_append_rd w s x t ho base e i z bytes ht hi hz hsize hby hzs A n c xs hs hown B D m d news hx hr h1 h63 hbytes hbase h
theorem st_slot_ {P : Program} {ops : Array Oper} {a : Act} {w : World} {K : Act → World → Prop} {Q : Exit → Act → World → Prop} {E : Prop} {t : TypeId} (d : Nat) {op : Op} {ps : String} {af gd} (h : if Region.wanted (⟨some d, op, t, ps, af, gd⟩ : Oper) (yielded ops a.tmps) = true then Oper.wp P ⟨some d, op, t, ps, af, gd⟩ a w K Q else E) :
    if Region.wanted (⟨some d, op, t, ps, af, gd⟩ : Oper) (yielded ops a.tmps) = true then Oper.wp P ⟨some d, op, t, ps, af, gd⟩ a w K Q else E := h
set_option maxRecDepth 100000 in
set_option maxHeartbeats 4000000 in
theorem refLocal_any (A : Option Addr) (n c : Nat) (xs : List UInt8) (p : Int) (w : World) (B : Nat) (hr : Rd w B A n (xs.map bv)) (hB : B ≤ w.heap.size) (hc : n ≤ c) (hm : c ≤ maxLen) (hn : n ≤ 1099511627776)
    (hp1 : -9223372036854775808 ≤ p) (hp2 : p ≤ 9223372036854775807) :
    Calls Tryd.prog 37 #[.slice A n c, .int .i64 p] w (GotIs w (loc xs p)) := by
  have hl : xs.length = n := by have := hr.1; rwa [List.length_map] at this
  have hz := Bk.made w tGot (gotZ 0).toArray
  have hf := Fresh.alloc w (.cells (gotZ 0).toArray tGot)
  have hfi : Calls Tryd.prog 32 #[.slice A n c, .int .i64 p, .int .u8 3, .int .u8 4] (w.alloc (.cells (gotZ 0).toArray tGot)) fun e w' => e = .returned (.int .i64 (fst4 xs p 3 4 : Nat)) ∧ (w.alloc (.cells (gotZ 0).toArray tGot)) = w' := first_any A n c xs p 3 4 (w.alloc (.cells (gotZ 0).toArray tGot)) B (hr.alloc hB _) hc hm hn hp1 hp2
  have hall : ∀ k : Int, (gotZ k).toArray.all (·.oneCell') = true := fun k => all_one (gotZ k) (by
    intro v hv
    unfold gotZ at hv
    simp only [List.mem_cons, List.not_mem_nil, or_false] at hv
    rcases hv with rfl | rfl | rfl | rfl | rfl | rfl | rfl | rfl | rfl | rfl | rfl <;> rfl)
  have HZ := Lib.hid hz
  have HF := Lib.hid hf
  have HALL := Lib.hid hall
  clear hz hf hall
  unfold gotZ at HZ HF HALL hfi
  by_cases h0 : fst4 xs p 3 4 = 0
  · obtain ⟨q, rfl, hq4, hbad, hgood⟩ := fst_good h0 30
    rw [h0] at hfi
    by_cases h30 : xs.length < q + 30
    · rw [loc_err (hbad h30)]
      have hs1 : decide ((n : Int) - (q : Int) < 30) = true := decide_eq_true (by omega)
      have HFI := Lib.hid hfi
      clear hfi hbad hgood h0 hr
      go_enter Tryd.func37, Tryd.ntmps37
      go_wp2_with (first
        | (go_at_call 32; ((with_reducible refine HFI.out.mono ?_); rintro e w1 ⟨rfl, rfl⟩))
        | (refine wpList_store_row (o := ⟨none, _, _, _, _, _⟩) rfl tGot (.tmp 4) (.tmp 22) rfl w.heap.size (gotZ 3).toArray rfl rfl tGot _ HZ.out (by kernel_rfl) (by rfl) (HALL.out 3) ?_))
      exact bodyPost_ret (results_cell_row (p := 4) (by kernel_rfl) _ _ w.heap.size tGot (gotZ 3).toArray (0, 0) _ rfl (HZ.out.row _) Tryd.underlying58 rfl (by kernel_rfl)) rfl ⟨HF.out.but (Nat.le_refl _) (But.row _ _ _), rfl⟩
    · obtain ⟨q', hqq, hq, _, hloc⟩ := loc_ok (hgood (by omega))
      have hqe : q' = q := by omega
      subst hqe
      have HLOC := Lib.hid hloc
      have HFI := Lib.hid hfi
      have hcore : ∀ W, Fresh w W → Calls Tryd.prog 33 #[.slice A n c, .int .i64 ((q' : Int) + 6)] W fun e w' => e = .returned (.agg (coreV xs (q' + 6)).toArray) ∧ Fresh W w' := fun W k =>
        core_any A n c xs ((q' : Int) + 6) (q' + 6) W B (hr.keep fun i hi => k.block i (by omega)) (Nat.le_trans hB k.size) (by omega) hc hm hn (by omega)
      have hat26 : ∀ W, Fresh w W → Calls Tryd.prog 30 #[.slice A n c, .int .i64 ((q' : Int) + 26), .int .i64 2] W fun e w' => e = .returned (.int .i64 (nm xs (q' + 26) 2 : Nat)) ∧ W = w' := fun W k =>
        at24 A n c xs ((q' : Int) + 26) (q' + 26) 2 W B (hr.keep fun i hi => k.block i (by omega)) (by omega) hc hm hn (.inl rfl) (by omega)
      have hat28 : ∀ W, Fresh w W → Calls Tryd.prog 30 #[.slice A n c, .int .i64 ((q' : Int) + 28), .int .i64 2] W fun e w' => e = .returned (.int .i64 (nm xs (q' + 28) 2 : Nat)) ∧ W = w' := fun W k =>
        at24 A n c xs ((q' : Int) + 28) (q' + 28) 2 W B (hr.keep fun i hi => k.block i (by omega)) (by omega) hc hm hn (.inl rfl) (by omega)
      have hcv : coreV xs (q' + 6) = [iv (nm xs (q' + 6) 2 : Nat), iv (nm xs (q' + 8) 2 : Nat), iv (nm xs (q' + 10) 4 : Nat), .int .u32 (nm xs (q' + 14) 4 : Nat), iv (nm xs (q' + 18) 4 : Nat), iv (nm xs (q' + 22) 4 : Nat), iv 0, .slice none 0 0, .bool false] := rfl
      rw [hcv] at hcore
      have hnn := nm2 xs (q' + 26)
      have hkk := nm2 xs (q' + 28)
      clear hcv hloc hfi hbad hgood h0 hqq
      generalize nm xs (q' + 6) 2 = fl at *
      generalize nm xs (q' + 8) 2 = me at *
      generalize nm xs (q' + 10) 4 = dt at *
      generalize nm xs (q' + 14) 4 = cr at *
      generalize nm xs (q' + 18) 4 = zc at *
      generalize nm xs (q' + 22) 4 = zs at *
      generalize nm xs (q' + 26) 2 = nn at *
      generalize nm xs (q' + 28) 2 = kk at *
      have HCORE := Lib.hid hcore
      have HAT26 := Lib.hid hat26
      have HAT28 := Lib.hid hat28
      have HR := Lib.hid hr
      have HL := Lib.hid hl
      have hqn : q' + 30 ≤ n := by omega
      clear hcore hat26 hat28 hr
      by_cases hlen : n < q' + 30 + nn + kk
      · clear hl
        go_enter Tryd.func37, Tryd.ntmps37
        go_wp2_with (first
          | (go_at_call 32; ((with_reducible refine HFI.out.mono ?_); rintro e w1 ⟨rfl, rfl⟩))
          | (go_at_call 33; ((with_reducible refine (HCORE.out _ HF.out).mono ?_); rintro e w2 ⟨rfl, hf2⟩; have HF2 := Lib.hid ((HF.out.trans hf2).trans (Fresh.alloc w2 (.cells #[iv (fl : Nat), iv (me : Nat), iv (dt : Nat), .int .u32 (cr : Nat), iv (zc : Nat), iv (zs : Nat), iv 0, .slice none 0 0, .bool false] tHead))); have HZ2 := Lib.hid ((HZ.out.fresh hf2).alloc (.cells #[iv (fl : Nat), iv (me : Nat), iv (dt : Nat), .int .u32 (cr : Nat), iv (zc : Nat), iv (zs : Nat), iv 0, .slice none 0 0, .bool false] tHead)); clear hf2))
          | (go_at_call 30; ((with_reducible refine (HAT26.out _ HF2.out).mono ?_); rintro e w1 ⟨rfl, rfl⟩))
          | (go_at_call 30; ((with_reducible refine (HAT28.out _ HF2.out).mono ?_); rintro e w1 ⟨rfl, rfl⟩))
          | (refine wpList_store_row (o := ⟨none, _, _, _, _, _⟩) rfl tGot (.tmp 4) (.tmp 44) rfl w.heap.size (gotZ 3).toArray rfl rfl tGot _ HZ2.out (by kernel_rfl) (by rfl) (HALL.out 3) ?_))
        exact bodyPost_ret (results_cell_row (p := 4) (by kernel_rfl) _ _ w.heap.size tGot (gotZ 3).toArray (0, 0) _ rfl (HZ2.out.row _) Tryd.underlying58 rfl (by kernel_rfl)) rfl ⟨HF2.out.but (Nat.le_refl _) (But.row _ _ _), by rw [HLOC.out, HL.out, if_pos hlen]; rfl⟩
      · have hwd := wd_len [zs, zc]
        obtain ⟨i0, hi0, hz0, hz1, hz2⟩ := info_parts byte_info
        go_enter Tryd.func37, Tryd.ntmps37
        go_upto_region 11 with (first
          | (go_at_call 32; ((with_reducible refine HFI.out.mono ?_); rintro e w1 ⟨rfl, rfl⟩))
          | (go_at_call 33; ((with_reducible refine (HCORE.out _ HF.out).mono ?_); rintro e w2 ⟨rfl, hf2⟩; have HF2 := Lib.hid ((HF.out.trans hf2).trans (Fresh.alloc w2 (.cells #[iv (fl : Nat), iv (me : Nat), iv (dt : Nat), .int .u32 (cr : Nat), iv (zc : Nat), iv (zs : Nat), iv 0, .slice none 0 0, .bool false] tHead))); have HZ2 := Lib.hid ((HZ.out.fresh hf2).alloc (.cells #[iv (fl : Nat), iv (me : Nat), iv (dt : Nat), .int .u32 (cr : Nat), iv (zc : Nat), iv (zs : Nat), iv 0, .slice none 0 0, .bool false] tHead)); have hg2 := (HZ.out.fresh hf2).inside; clear hf2))
          | (go_at_call 30; ((with_reducible refine (HAT26.out _ HF2.out).mono ?_); rintro e w1 ⟨rfl, rfl⟩))
          | (go_at_call 30; ((with_reducible refine (HAT28.out _ HF2.out).mono ?_); rintro e w1 ⟨rfl, rfl⟩)))
        have hb3 := Bk.made w2 tHead #[iv (fl : Nat), iv (me : Nat), iv (dt : Nat), .int .u32 (cr : Nat), iv (zc : Nat), iv (zs : Nat), iv 0, .slice none 0 0, .bool false]
        have hs3 : (w2.alloc (.cells #[iv (fl : Nat), iv (me : Nat), iv (dt : Nat), .int .u32 (cr : Nat), iv (zc : Nat), iv (zs : Nat), iv 0, .slice none 0 0, .bool false] tHead)).heap.size = w2.heap.size + 1 := by simp
        generalize w2.alloc (.cells #[iv (fl : Nat), iv (me : Nat), iv (dt : Nat), .int .u32 (cr : Nat), iv (zc : Nat), iv (zs : Nat), iv 0, .slice none 0 0, .bool false] tHead) = W3 at *
        generalize w2.heap.size = g at *
        have hf3d := HF2.out.trans (Fresh.drew W3)
        have hb3d : Bk W3.drew g tHead [iv (fl : Nat), iv (me : Nat), iv (dt : Nat), .int .u32 (cr : Nat), iv (zc : Nat), iv (zs : Nat), iv 0, .slice none 0 0, .bool false] := hb3.fresh (Fresh.drew W3)
        have hk7 : W3.drew.cell? ⟨g, 7, none⟩ = some (.slice none 0 0) := hb3d.cell rfl
        have hsrc : Rd W3.drew B (if c = q' + 30 then A else A.map (·.add (q' + 30))) nn (((xs.drop (q' + 30)).take nn).map bv) := cut_one (HR.out.keep fun i hi => hf3d.block i (by omega)) (by omega) hc
        have HSRC := Lib.hid hsrc
        have HB3 := Lib.hid hb3d
        have HF3 := Lib.hid hf3d
        have HS3 := Lib.hid hs3
        clear hb3 hb3d hf3d hsrc hs3
        unfold maxLen at hm
        have hsz4 : 0 + nn ≤ maxLen := by unfold maxLen; omega
        have hsb4 : (0 + nn) * 1 ≤ 140737488355328 := by omega
        have hw1 : IntKind.i64.wrap ((q' : Int) + 30) = (q' : Int) + 30 := IntWalk.i64_in _ (by omega)
        have hw2 : IntKind.i64.wrap ((q' : Int) + 30 + (nn : Int)) = (q' : Int) + 30 + (nn : Int) := IntWalk.i64_in _ (by omega)
        have p1 : 0 ≤ (q' : Int) + 30 := by omega
        have p2 : 0 ≤ (q' : Int) + 30 + (nn : Int) := by omega
        have p3 : (q' : Int) + 30 + (nn : Int) ≤ (c : Int) := by omega
        have p4 : (q' : Int) + 30 ≤ (q' : Int) + 30 + (nn : Int) := by omega
        have t1 : ((q' : Int) + 30).toNat = q' + 30 := by omega
        have t2 : ((q' : Int) + 30 + (nn : Int)).toNat = q' + 30 + nn := by omega
        have hmx : max ((q' : Int) + 30 + (nn : Int)) 0 = (q' : Int) + 30 + (nn : Int) := by omega
        have hbs : w.heap.size ≤ W3.drew.heap.size := HF3.out.size
        go_region_law ((refine step_append_rd (by rfl) (.tmp 46) (.tmp 54) 22 (by rfl) w.heap.size 5 i0 _ 1 Tryd.underlying22 hi0 hz0 hz1 hz2 rfl none 0 0 [] (by rfl) (Own.nil _ _ _) B _ nn _ _ (by rfl) HSRC.out (bv_one _) hsz4 hsb4 hbs ?_; intro A4 c4 w4 hown4 hg4; have hb4 := HB3.out.grown hg4 (by simp [Value.ownBlock]); have hk74 : w4.cell? ⟨g, 7, none⟩ = some (.slice none 0 0) := hb4.cell rfl; have hz74 := hb4.free 7; have HB4 := Lib.hid hb4; have HG4 := Lib.hid hg4; have HO4 := Lib.hid hown4; clear hb4 hg4 hown4))
        all_goals clear hw1 hw2 p1 p2 p3 p4 t1 t2 hmx hsz4 hsb4 hk7 hk74 hz74
        all_goals (generalize (if c = q' + 30 then A else Option.map (fun x => (⟨x.block, x.off + (q' + 29 + 1), none⟩ : Addr)) A) = D4)
        all_goals
          have hb5 : Bk (w4.setCell ⟨g, 7, none⟩ (.slice A4 nn c4)) g tHead [iv (fl : Nat), iv (me : Nat), iv (dt : Nat), .int .u32 (cr : Nat), iv (zc : Nat), iv (zs : Nat), iv 0, .slice A4 nn c4, .bool false] := HB4.out.put 7 _
          have ho4 := HO4.out
          rw [List.nil_append, Nat.zero_add] at ho4
          have hne4 := ho4.ne_block HB4.out (by decide)
          have ho5 := ho4.but (But.put (g := g) (i := 7) w4 (.slice A4 nn c4)) hne4
          have hf5 : Fresh w (w4.setCell ⟨g, 7, none⟩ (.slice A4 nn c4)) := (HF3.out.append (Own.nil _ _ 5) (Nat.le_refl _) HG4.out).but (by omega) (But.put (g := g) (i := 7) _ _)
          have hz5 : Bk (w4.setCell ⟨g, 7, none⟩ (.slice A4 nn c4)) w.heap.size tGot (gotZ 0) := ((HZ2.out.fresh (Fresh.drew _)).grown HG4.out (by simp [Value.ownBlock])).apart (p := ⟨g, 7, none⟩) (by simp; omega) _
          have HB5 := Lib.hid hb5
          have HO5 := Lib.hid ho5
          have HF5 := Lib.hid hf5
          have HZ5 := Lib.hid hz5
          clear hb5 ho4 hne4 ho5 hf5 hz5
        all_goals go_wp2
        all_goals
          generalize w4.setCell ⟨g, 7, none⟩ (.slice A4 nn c4) = w5 at *
          have hb5d := HB5.out.fresh (Fresh.drew w5)
          have hk5 : w5.drew.cell? ⟨g, 5, none⟩ = some (iv (zs : Nat)) := hb5d.cell rfl
          have hk4 : w5.drew.cell? ⟨g, 4, none⟩ = some (iv (zc : Nat)) := hb5d.cell rfl
          have hal : Fresh w5 (w5.alloc (.cells #[iv (zs : Nat), iv (zc : Nat)] tInt)).drew := (Fresh.alloc w5 (.cells #[iv (zs : Nat), iv (zc : Nat)] tInt)).trans (Fresh.drew _)
          have hf6 := HF5.out.trans hal
          have hsrc : Rd (w5.alloc (.cells #[iv (zs : Nat), iv (zc : Nat)] tInt)).drew B (if c = q' + 30 + nn then A else A.map (·.add (q' + 30 + nn))) kk (((xs.drop (q' + 30 + nn)).take kk).map bv) := cut_one (HR.out.keep fun i hi => hf6.block i (by omega)) (by omega) hc
          have hrow : Rd (w5.alloc (.cells #[iv (zs : Nat), iv (zc : Nat)] tInt)).drew (w5.heap.size + 1) (some ⟨w5.heap.size, 0, none⟩) 2 (nvs [zs, zc]) := (Rd.lit w5 #[iv (zs : Nat), iv (zc : Nat)] tInt).keep fun i hi => rfl
          have hrw := rwiden_any _ kk (c - (q' + 30 + nn)) ((xs.drop (q' + 30 + nn)).take kk) _ 2 2 [zs, zc] _ B _ hsrc (by have := hf6.size; omega) (by omega) (by unfold maxLen; omega) (by omega) hrow (by simp) (by omega)
          have HRW := Lib.hid hrw
          have HB6 := Lib.hid (HB5.out.fresh hal)
          have HO6 := Lib.hid (HO5.out.fresh hal)
          have HF6 := Lib.hid hf6
          have HZ6 := Lib.hid (HZ5.out.fresh hal)
          have hw1 : IntKind.i64.wrap ((q' : Int) + 30) = (q' : Int) + 30 := IntWalk.i64_in _ (by omega)
          have hw2 : IntKind.i64.wrap ((q' : Int) + 30 + (nn : Int)) = (q' : Int) + 30 + (nn : Int) := IntWalk.i64_in _ (by omega)
          have hw3 : IntKind.i64.wrap ((q' : Int) + 30 + (nn : Int) + (kk : Int)) = (q' : Int) + 30 + (nn : Int) + (kk : Int) := IntWalk.i64_in _ (by omega)
          have p1 : 0 ≤ (q' : Int) + 30 + (nn : Int) := by omega
          have p2 : 0 ≤ (q' : Int) + 30 + (nn : Int) + (kk : Int) := by omega
          have p3 : (q' : Int) + 30 + (nn : Int) + (kk : Int) ≤ (c : Int) := by omega
          have p4 : (q' : Int) + 30 + (nn : Int) ≤ (q' : Int) + 30 + (nn : Int) + (kk : Int) := by omega
          have t1 : ((q' : Int) + 30 + (nn : Int)).toNat = q' + 30 + nn := by omega
          have t2 : ((q' : Int) + 30 + (nn : Int) + (kk : Int)).toNat = q' + 30 + nn + kk := by omega
          have hmx : max ((q' : Int) + 30 + (nn : Int) + (kk : Int)) 0 = (q' : Int) + 30 + (nn : Int) + (kk : Int) := by omega
          clear hb5d hal hf6 hsrc hrow hrw
          cases hwn : widn ((xs.drop (q' + 30 + nn)).take kk) [zs, zc] with
          | none =>
            rw [hwn] at HRW
            have HWN := Lib.hid hwn
            have heq := fun W => run_slice_is_nil (P := Tryd.prog) W 88 3 none 0 0 Tryd.underlying88
            clear hwn
            go_region_law (((with_reducible refine st_slot_ 74 ?_); go_simp; (refine HRW.out.mono ?_); rintro e w7 ⟨hf7, rfl⟩; have HF7 := Lib.hid (HF6.out.trans hf7); have HZ7 := Lib.hid (HZ6.out.fresh hf7); clear hf7))
            all_goals clear hw1 hw2 hw3 p1 p2 p3 p4 t1 t2 hmx hk5 hk4
            all_goals go_wp2_with (refine wpList_store_row (o := ⟨none, _, _, _, _, _⟩) rfl tGot (.tmp 4) (.tmp 77) rfl w.heap.size (gotZ 4).toArray rfl rfl tGot _ HZ7.out (by kernel_rfl) (by rfl) (HALL.out 4) ?_)
            all_goals exact bodyPost_ret (results_cell_row (p := 4) (by kernel_rfl) _ _ w.heap.size tGot (gotZ 4).toArray (0, 0) _ rfl (HZ7.out.row _) Tryd.underlying58 rfl (by kernel_rfl)) rfl ⟨HF7.out.but (Nat.le_refl _) (But.row _ _ _), by rw [HLOC.out, HL.out, if_neg hlen, HWN.out]; rfl⟩
          | some vs =>
            rw [hwn] at HRW
            obtain ⟨fw, _, hfw⟩ := Option.bind_eq_some_iff.1 hwn
            have hlv := hwd fw vs hfw
            clear hfw
            obtain ⟨va, vb, rfl⟩ : ∃ va vb, vs = [va, vb] := by
              match vs, hlv with
              | [va, vb], _ => exact ⟨va, vb, rfl⟩
            have HWN := Lib.hid hwn
            have hany : [zs, zc].any isOnes = (isOnes zs || isOnes zc) := by simp
            generalize hQe : (isOnes zs || isOnes zc) = Q at *
            have HANY := Lib.hid hany
            have hq1 : (((b2n Q : Nat) : Int) == 1) = Q := by cases Q <;> rfl
            have heq := fun W a c7 => run_slice_is_nil (P := Tryd.prog) W 88 3 (some a) 3 c7 Tryd.underlying88
            have HEND := Lib.hid (show ((q' + 30 + nn + kk : Nat) : Int) = (q' : Int) + 30 + (nn : Int) + (kk : Int) from by omega)
            obtain ⟨NM, hNM⟩ : ∃ NM, NM = Value.slice A4 nn c4 := ⟨_, rfl⟩
            have HNAM := Lib.hid hNM
            have hall11 : (#[iv (fl : Nat), iv (me : Nat), iv (dt : Nat), .int .u32 (cr : Nat), iv (vb : Nat), iv (va : Nat), iv (q' : Nat), NM, .bool Q, iv ((q' : Int) + 30 + (nn : Int) + (kk : Int)), iv 0] : Array Value).all (·.oneCell') = true := by
              subst hNM
              exact all_one _ (by
                intro v hv
                simp only [List.mem_cons, List.not_mem_nil, or_false] at hv
                rcases hv with rfl | rfl | rfl | rfl | rfl | rfl | rfl | rfl | rfl | rfl | rfl <;> rfl)
            have HALL11 := Lib.hid hall11
            have hb6n : Bk (w5.alloc (.cells #[iv (zs : Nat), iv (zc : Nat)] tInt)).drew g tHead [iv (fl : Nat), iv (me : Nat), iv (dt : Nat), .int .u32 (cr : Nat), iv (zc : Nat), iv (zs : Nat), iv 0, NM, .bool false] := by rw [hNM]; exact HB6.out
            have HB6N := Lib.hid hb6n
            clear hwn hany hQe hNM hall11 hlv hb6n
            go_region_law (((with_reducible refine st_slot_ 74 ?_); go_simp; (refine HRW.out.mono ?_); rintro e w7 ⟨hf7, a7, c7, rfl, ho7⟩; have HF7 := Lib.hid (HF6.out.trans hf7); have HZ7 := Lib.hid (HZ6.out.fresh hf7); have HB7 := Lib.hid (HB6N.out.fresh hf7); have HO7 := Lib.hid ho7; have HN7 := Lib.hid (HO6.out.fresh hf7); have hg6 := HB6.out.inside; clear hf7 ho7))
            all_goals clear hw1 hw2 hw3 p1 p2 p3 p4 t1 t2 hmx hk5 hk4
            all_goals
              have ho7 := HO7.out
              rw [HANY.out] at ho7
              obtain ⟨ga, cap7, hv7, hbs7, hin7⟩ := World.ownsRow.form ho7 (by simp)
              injection hv7 with ea7 _ _
              injection ea7 with ea7
              subst ea7
              have hcl := World.ownsRow.cells ho7 (g := ga) rfl
              have hne7 : g ≠ ga := by omega
              have k0 : w7.cell? ⟨ga, 0, none⟩ = some (iv (va : Nat)) := hcl 0 _ rfl
              have k1 : w7.cell? ⟨ga, 1, none⟩ = some (iv (vb : Nat)) := hcl 1 _ rfl
              have k2 : w7.cell? ⟨ga, 2, none⟩ = some (iv (b2n Q : Nat)) := hcl 2 _ rfl
              have b7 := HB7.out
              have b8 := b7.put 5 (iv (va : Nat))
              have b9 := b8.put 4 (iv (vb : Nat))
              have b10 := b9.put 8 (.bool Q)
              have b11 : Bk ((((w7.setCell ⟨g, 5, none⟩ (iv (va : Nat))).setCell ⟨g, 4, none⟩ (iv (vb : Nat))).setCell ⟨g, 8, none⟩ (.bool Q)).setCell ⟨g, 6, none⟩ (iv (q' : Nat))) g tHead [iv (fl : Nat), iv (me : Nat), iv (dt : Nat), .int .u32 (cr : Nat), iv (vb : Nat), iv (va : Nat), iv (q' : Nat), NM, .bool Q] := b10.put 6 (iv (q' : Nat))
              have n11 := (((HN7.out.but (But.put (g := g) (i := 5) _ (iv (va : Nat))) (HN7.out.ne_block b7 (by decide))).but (But.put (g := g) (i := 4) _ (iv (vb : Nat))) (HN7.out.ne_block b7 (by decide))).but (But.put (g := g) (i := 8) _ (.bool Q)) (HN7.out.ne_block b7 (by decide))).but (But.put (g := g) (i := 6) _ (iv (q' : Nat))) (HN7.out.ne_block b7 (by decide))
              have z11 := (((HZ7.out.apart (p := ⟨g, 5, none⟩) (by simp; omega) (iv (va : Nat))).apart (p := ⟨g, 4, none⟩) (by simp; omega) (iv (vb : Nat))).apart (p := ⟨g, 8, none⟩) (by simp; omega) (.bool Q)).apart (p := ⟨g, 6, none⟩) (by simp; omega) (iv (q' : Nat))
              have f11 := (((HF7.out.but (by omega) (But.put (g := g) (i := 5) _ (iv (va : Nat)))).but (by omega) (But.put (g := g) (i := 4) _ (iv (vb : Nat)))).but (by omega) (But.put (g := g) (i := 8) _ (.bool Q))).but (by omega) (But.put (g := g) (i := 6) _ (iv (q' : Nat)))
              have k1' : (w7.setCell ⟨g, 5, none⟩ (iv (va : Nat))).cell? ⟨ga, 1, none⟩ = some (iv (vb : Nat)) := (World.cell?_of_block (Below.heap_setCell _ _ _ ga (Ne.symm hne7))).trans k1
              have k2' : ((w7.setCell ⟨g, 5, none⟩ (iv (va : Nat))).setCell ⟨g, 4, none⟩ (iv (vb : Nat))).cell? ⟨ga, 2, none⟩ = some (iv (b2n Q : Nat)) := (World.cell?_of_block (Below.heap_setCell _ _ _ ga (Ne.symm hne7))).trans ((World.cell?_of_block (Below.heap_setCell _ _ _ ga (Ne.symm hne7))).trans k2)
              have m5 := b7.cell (i := 5) rfl
              have m4 := b8.cell (i := 4) rfl
              have m8 := b9.cell (i := 8) rfl
              have m6 := b10.cell (i := 6) rfl
              have y5 := b7.free 5
              have y4 := b7.free 4
              have y8 := b7.free 8
              have y6 := b7.free 6
              have B11 := Lib.hid b11
              have N11 := Lib.hid n11
              have Z11 := Lib.hid z11
              have F11 := Lib.hid f11
              clear b7 b8 b9 b10 b11 n11 z11 f11 k1 k2 hcl ho7 hbs7 hin7 hne7
              go_upto_region 19 with (fail)
            all_goals
              clear m5 m4 m8 m6 y5 y4 y8 y6 k0 k1' k2'
              have b11 := B11.out
              have c0 := b11.cell (i := 0) rfl
              have c1' := b11.cell (i := 1) rfl
              have c2' := b11.cell (i := 2) rfl
              have c3' := b11.cell (i := 3) rfl
              have c4' := b11.cell (i := 4) rfl
              have c5' := b11.cell (i := 5) rfl
              have c6' := b11.cell (i := 6) rfl
              have c7' := b11.cell (i := 7) rfl
              have c8' := b11.cell (i := 8) rfl
              clear b11
              generalize (((w7.setCell ⟨g, 5, none⟩ (iv (va : Nat))).setCell ⟨g, 4, none⟩ (iv (vb : Nat))).setCell ⟨g, 8, none⟩ (.bool Q)).setCell ⟨g, 6, none⟩ (iv (q' : Nat)) = w8 at *
              go_wp2_with (refine wpList_store_row (o := ⟨none, _, _, _, _, _⟩) rfl tGot (.tmp 4) (.tmp 100) rfl w.heap.size #[iv (fl : Nat), iv (me : Nat), iv (dt : Nat), .int .u32 (cr : Nat), iv (vb : Nat), iv (va : Nat), iv (q' : Nat), NM, .bool Q, iv ((q' : Int) + 30 + (nn : Int) + (kk : Int)), iv 0] rfl rfl tGot _ Z11.out (by kernel_rfl) (by rfl) HALL11.out ?_)
              all_goals have hl5 := N11.out.1
              all_goals rw [List.length_map, Nat.mul_one] at hl5
              all_goals exact bodyPost_ret (results_cell_row (p := 4) (by kernel_rfl) _ _ w.heap.size tGot #[iv (fl : Nat), iv (me : Nat), iv (dt : Nat), .int .u32 (cr : Nat), iv (vb : Nat), iv (va : Nat), iv (q' : Nat), NM, .bool Q, iv ((q' : Int) + 30 + (nn : Int) + (kk : Int)), iv 0] (0, 0) _ rfl (Z11.out.row _) Tryd.underlying58 rfl (by kernel_rfl)) rfl ⟨F11.out.but (Nat.le_refl _) (But.row _ _ _), by
                rw [HLOC.out, HL.out, if_neg hlen, HWN.out]
                have hcp := N11.out.cap
                refine ⟨A4, c4, ?_, by rw [hl5]; exact hcp.1, hcp.2, ?_⟩
                · unfold headV
                  simp only [hl5, HEND.out, HNAM.out]
                  rfl
                · simp only [hl5]
                  exact RdA.of_own (N11.out.but (But.row w.heap.size _ _) (N11.out.ne_block Z11.out (by decide))) fun i hi => List.mem_range.1 hi⟩
  · rw [loc_err (fst_bad h0 30)]
    generalize fst4 xs p 3 4 = k at *
    have hk : ((k : Int) != 0) = true := by rw [bne_iff_ne]; omega
    have HFI := Lib.hid hfi
    clear hfi h0 hr
    go_enter Tryd.func37, Tryd.ntmps37
    go_wp2_with (first
      | (go_at_call 32; ((with_reducible refine HFI.out.mono ?_); rintro e w1 ⟨rfl, rfl⟩))
      | (refine wpList_store_row (o := ⟨none, _, _, _, _, _⟩) rfl tGot (.tmp 4) (.tmp 16) rfl w.heap.size (gotZ k).toArray rfl rfl tGot _ HZ.out (by kernel_rfl) (by rfl) (HALL.out k) ?_))
    exact bodyPost_ret (results_cell_row (p := 4) (by kernel_rfl) _ _ w.heap.size tGot (gotZ k).toArray (0, 0) _ rfl (HZ.out.row _) Tryd.underlying58 rfl (by kernel_rfl)) rfl ⟨HF.out.but (Nat.le_refl _) (But.row _ _ _), rfl⟩
end Go.Proofs.YtmnejphdjnlbjaaDoor.recp
