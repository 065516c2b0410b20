/-
  The walk of the law VfsReads. My own text.
-/
import Derived.Test.YtnmffiejfmdnkaaVfsPut
namespace Go.Proofs.Ytnmffiejfmdnkaa.vfsReads
open Go.RowKit Go.Maps Go.Proofs.Ytnmffiejfmdnkaa.base Go.Proofs.Ytnmffiejfmdnkaa.vfsnum Go.Proofs.Ytnmffiejfmdnkaa.vfs
set_option linter.unusedVariables false

theorem readE_up {l : List (ByteArray × Fl)} {r s : Nat} {n : ByteArray} {x : Fl} (h : getF l n = some x) (t m : Int) : readE (up l r s) n t m = if t < 0 ∨ m < 0 then 1 else if (x.bs.length : Int) - t < m then 3 else 0 := by
  unfold readE
  rw [if_neg (by simp), show (up l r s).files = l from rfl, h]
theorem same_is (A D : Option Addr) (n n' c d : Nat) (xs : List UInt8) (w : World) (B B' : Nat) (ha : Rd w B A n (xs.map bv)) (hd : Rd w B' D n' (xs.map bv)) (hn : n ≤ maxLen) :
    Calls Try.prog 19 #[.slice A n c, .slice D n' d] w fun e w' => e = .returned (.bool true) ∧ Fresh w w' := by
  have h1 := ha.1
  have h2 := hd.1
  rw [h1] at h2
  subst h2
  exact same_yes A D n c d xs w B B' ha hd hn
theorem Bk.rd {w : World} {q : Nat} {t : TypeId} {xs : List Value} (h : Bk w q t xs) : Rd w (q + 1) (some ⟨q, 0, none⟩) xs.length xs :=
  ⟨rfl, fun _ => ⟨q, 0, rfl, by omega, fun j u hu => by rw [Nat.zero_add]; exact h.cell hu⟩⟩
theorem bv_ints (xs : List UInt8) : xs.map bv = (xs.map fun c => ((c.toNat : Nat) : Int)).map (Value.int .u8) := by rw [List.map_map]; rfl

set_option maxRecDepth 100000 in
set_option maxHeartbeats 2000000 in
theorem vfsReads_walk (A0 : Option Addr) (n0 c0 : Nat) (x0 : List UInt8) (a1 : Int) (a2 : Int) (w : World) (b0 : InBytes w A0 n0 c0 x0) (w1 : (Lit.int .i64 a1).wf = true) (w2 : (Lit.int .i64 a2).wf = true) :
    Calls Try.prog 4 #[.slice A0 n0 c0, .int .i64 a1, .int .i64 a2] w fun e w' => e = .returned (.bool true) ∧ Below w.heap.size w w' := by
  obtain ⟨i0, hi0, hz0, hz1, hz2⟩ := info_parts byte_info
  have h1 : -9223372036854775808 ≤ a1 ∧ a1 ≤ 9223372036854775807 := by simpa [Lit.wf, IntKind.min, IntKind.max, IntKind.signed, IntKind.bits] using w1
  have h2 : -9223372036854775808 ≤ a2 ∧ a2 ≤ 9223372036854775807 := by simpa [Lit.wf, IntKind.min, IntKind.max, IntKind.signed, IntKind.bits] using w2
  obtain ⟨r0, hc0, hm0⟩ := b0
  unfold maxLen at hm0
  clear w1 w2
  by_cases hl : 1000 < n0
  · go_enter Try.func4, Try.ntmps4
    go_wp2_with (go_at_call 9; refine (wakes_any _).mono ?_; rintro e wA ⟨rfl, hfA⟩)
    all_goals go_ret
    all_goals exact ⟨rfl, hfA⟩
  · have hlx : x0.length = n0 := by have := r0.1; rwa [List.length_map] at this
    have ok0 : FsOk (up [] 100 0) := new_ok 100 (by omega)
    have ok1 := up_create_ok (n := nm 120) (l' := [(nm 120, ⟨[], 1, noOld⟩)]) ok0 (by kernel_rfl) rfl rfl
    have OK0 := Lib.hid ok0
    have OK1 := Lib.hid ok1
    have HLX := Lib.hid hlx
    clear ok0 ok1 hlx
    go_enter Try.func4, Try.ntmps4
    go_wp2_with (first
      | (go_at_call 9; refine (wakes_any _).mono ?_; rintro e wA ⟨rfl, hfA⟩)
      | (go_at_call 11; refine (new_up _ 100 100 (by decide) (by decide) (by decide)).mono ?_; rintro e w1 ⟨f, bl, rfl, hF, hf1, hnew⟩)
      | (at_builtin; (refine wpList_append_rd _ rfl _ _ 29 rfl w1.heap.size 5 i0 _ 1 Try.underlying29 hi0 hz0 hz1 hz2 rfl (some ⟨w1.heap.size, 0, none⟩) 0 0 [] rfl (Own.made w1 5 #[] 0 rfl (Nat.zero_le _)) w.heap.size A0 n0 c0 (x0.map bv) rfl (r0.below ((hfA.trans hf1).trans (Fresh.alloc _ _)) (Nat.le_refl _)) (bv_one x0) (by unfold maxLen; omega) (by omega) (by simp) ?_); intro A3 c3 w3 ho3 hg3; rw [Nat.zero_add, List.nil_append] at ho3; have hf3 : Fresh w1 w3 := (Fresh.alloc _ _).append (Own.made w1 5 #[] 0 rfl (Nat.zero_le _)) (Nat.le_refl _) hg3)
      | (go_at_call 16; refine (create_up _ f _ [(nm 120, ⟨[], 1, noOld⟩)] _ _ (nm 120) bl (hF.fresh hf3) OK0.out (by omega) (by kernel_rfl) rfl rfl).mono ?_; rintro e w4 ⟨rfl, bl4, hF4, hT4⟩; have ho4 := Own.turn ho3 hT4 (Own.off ho3 hF.inside))
      | (go_at_call 17; refine (put_any _ f _ _ _ (nm 120) bl4 ⟨[], 1, noOld⟩ A3 n0 c3 x0 hF4 OK1.out (by omega) (nm_le _) rfl rfl (Own.rdOff ho4.1 ho4.2) (by rw [HLX.out]; unfold takes; omega) ho4.1.cap.1 ho4.1.cap.2).mono ?_; rintro e w5 ⟨rfl, y, r', s', bl5, hF5, hT5, ok5, hy, hr5, hs5⟩))
    have hy' : updF [(nm 120, ⟨[], 1, noOld⟩)] (nm 120) y = [(nm 120, y)] := rfl
    rw [hy'] at hF5 ok5
    have ho5 := Own.turn ho4.1 hT5 ho4.2
    have hsn := ((((Since.mk_ (hfA.trans hf1) fun i hi => Nat.le_trans hfA.size (hnew i hi)).fresh hf3).turn hT4).turn hT5).1
    have HY := Lib.hid hy
    have HOK := Lib.hid ok5
    have HOFF := Lib.hid ho5.2
    have hrow := ho5.1
    rw [bv_ints] at hrow
    have hA1 := hfA.size
    have hA2 := hf1.size
    clear hy' ok5 hr5 hs5 hy hT5 ho4 hT4 hF4 hF hf3 hg3 ho3 hnew ho5 OK0 OK1
    go_loopw [35] (fun t wr => ∃ (j : Nat) (zs : List Int), j ≤ n0 ∧ t = .int .i64 j ∧ Own wr w1.heap.size 5 A3 n0 c3 (zs.map (Value.int .u8)) ∧ FsAt wr f (up [(nm 120, y)] r' s') bl5 ∧ Fresh w wr) (fun t _ => n0 - (intOf t).toNat)
    case atStart => exact ⟨0, _, Nat.zero_le _, rfl, hrow, hF5, hsn⟩
    case round =>
      clear hF5 hsn hrow
      obtain ⟨j, zs, hj, rfl, ho, hF, hf⟩ := hrel
      by_cases hlt : j < n0
      · obtain ⟨g, cap, hv, hgb, hgl⟩ := World.ownsRow.form ho (by omega)
        injection hv with hA3 _ hcap
        subst hA3
        subst hcap
        have hzl : zs.length = n0 := by have := ho.1; simpa using this
        obtain ⟨z, hz⟩ : ∃ z, zs[j]? = some z := ⟨_, List.getElem?_eq_getElem (by omega)⟩
        have hcx : wr.cell? ⟨g, j, none⟩ = some (.int .u8 z) := by rw [World.ownsRow.cellAt ho j (by omega), List.getElem?_map, hz]; rfl
        have hfz := World.ownsRow.frozenAt ho j
        have hso := Own.store ho j hlt (.int .u8 ((z + 1) % 256))
        rw [← List.map_set] at hso
        have hFn := hF.but (But.put wr (g := g) (i := j) (.int .u8 ((z + 1) % 256))) (HOFF.out g rfl)
        have HSO := Lib.hid hso
        clear hso hz hzl
        go_wp2
        go_roundw
        case rel => exact ⟨j + 1, _, by omega, by go_num, HSO.out, hFn, hf.but (by omega) (But.put _ _)⟩
        case measure => simp [intOf]; omega
      · clear ho
        go_wp2
        go_loopw [45] (fun t wq => ∃ i : Nat, i ≤ 2 ∧ t = .int .i64 i ∧ FsAt wq f (up [(nm 120, y)] r' s') bl5 ∧ Fresh w wq) (fun t _ => 2 - (intOf t).toNat)
        case atStart => exact ⟨0, by omega, rfl, hF, hf⟩
        case round =>
          clear hF hf
          obtain ⟨i, hi, rfl, hF, hf⟩ := hrel
          by_cases hi2 : i < 2
          · skip
            have hrE := fun c he hc => read_bad wr f _ bl5 (nm 120) a1 a2 c hF HOK.out (nm_le _) h1.1 h1.2 h2.1 h2.2 ((readE_up (l := [(nm 120, y)]) (r := r') (s := s') (n := nm 120) rfl a1 a2).trans he) hc
            have hyl : y.bs.length = n0 := by rw [HY.out]; exact HLX.out
            rw [hyl] at hrE
            by_cases hn1 : a1 < 0
            · have hre := hrE 1 (if_pos (.inl hn1)) (by decide)
              clear hrE hyl
              go_wp2_with (go_at_call 18; refine hre.mono ?_; rintro e w' ⟨rfl, rfl⟩)
              go_ret
              exact ⟨rfl, hf⟩
            · by_cases hn2 : a2 < 0
              · have hre := hrE 1 (if_pos (.inr hn2)) (by decide)
                clear hrE hyl
                go_wp2_with (go_at_call 18; refine hre.mono ?_; rintro e w' ⟨rfl, rfl⟩)
                go_ret
                exact ⟨rfl, hf⟩
              · by_cases hlong : (n0 : Int) - a1 < a2
                · have hre := hrE 3 (by rw [if_neg (by omega), if_pos hlong]) (by decide)
                  clear hrE hyl
                  by_cases ha : (n0 : Int) < a1
                  · go_wp2_with (go_at_call 18; refine hre.mono ?_; rintro e w' ⟨rfl, rfl⟩)
                    go_ret
                    exact ⟨rfl, hf⟩
                  · go_wp2_with (go_at_call 18; refine hre.mono ?_; rintro e w' ⟨rfl, rfl⟩)
                    go_ret
                    exact ⟨rfl, hf⟩
                · obtain ⟨t, rfl⟩ := Int.eq_ofNat_of_zero_le (show 0 ≤ a1 by omega)
                  obtain ⟨m, rfl⟩ := Int.eq_ofNat_of_zero_le (show 0 ≤ a2 by omega)
                  have htm : t + m ≤ n0 := by omega
                  have hre := read_up wr f [(nm 120, y)] r' s' (nm 120) bl5 y t m ((x0.drop t).take m) hF HOK.out (nm_le _) rfl (by rw [hyl]; exact htm) (by rw [HY.out])
                  have hml : ((x0.drop t).take m).length = m := by rw [List.length_take, List.length_drop, HLX.out]; omega
                  have HML := Lib.hid hml
                  clear hrE hyl hml
                  go_wp2_with (first
                    | (go_at_call 18; refine hre.mono ?_; rintro e w7 ⟨q, rfl, hq, hbq, hfq⟩; have hcut := (r0.below (hf.trans hfq) (Nat.le_refl _)).cut (lo := t) (hi := t + m) (cap := c0) (Nat.le_add_right _ _) htm hc0; rw [Nat.add_sub_cancel_left, ← List.map_drop, ← List.map_take] at hcut; have hrq := Bk.rd hbq; rw [List.length_map, HML.out] at hrq)
                    | (go_at_call 19; refine (same_yes (some ⟨q, 0, none⟩) _ m m _ ((x0.drop t).take m) w7 (q + 1) w.heap.size hrq hcut (by unfold maxLen; omega)).mono ?_; rintro e w8 ⟨rfl, hf8⟩))
                  all_goals
                    try (have hs := h.symm; subst hs)
                    have hb8 := hbq.fresh hf8
                    rw [bv_ints] at hb8
                    have hF8 := hF.fresh (hfq.trans hf8)
                    have hw8 := hf.trans (hfq.trans hf8)
                    have HQ := Lib.hid (show q ∉ bl5 from fun h => by have := hF.inside q h; omega)
                    have hqw : w.heap.size ≤ q := Nat.le_trans hf.size hq
                    have hzl8 : (((x0.drop t).take m).map fun c => ((c.toNat : Nat) : Int)).length = m := by rw [List.length_map]; exact HML.out
                    clear hre hcut hrq hbq hf8 hfq hq hF hf
                    go_loopw [104] (fun v wq => ∃ (k : Nat) (zs : List Int), k ≤ m ∧ v = .int .i64 k ∧ Hid (zs.length = m) ∧ Bk wq q 5 (zs.map (Value.int .u8)) ∧ FsAt wq f (up [(nm 120, y)] r' s') bl5 ∧ Fresh w wq) (fun v _ => m - (intOf v).toNat)
                    case atStart => exact ⟨0, _, Nat.zero_le _, rfl, hzl8, hb8, hF8, hw8⟩
                    case round =>
                      clear hb8 hF8 hw8 hzl8
                      obtain ⟨k, zs, hk, rfl, hzl, hb, hF, hf⟩ := hrel
                      by_cases hkm : k < m
                      · try (exfalso; omega)
                        all_goals
                            obtain ⟨z, hz⟩ : ∃ z, zs[k]? = some z := ⟨_, List.getElem?_eq_getElem (by have := hzl.out; omega)⟩
                            have hcx := hb.cell (i := k) (v := .int .u8 z) (by rw [List.getElem?_map, hz]; rfl)
                            have hfz := hb.free k
                            have hso := hb.put k (.int .u8 ((z + 1) % 256))
                            rw [← List.map_set] at hso
                            have hFn := hF.but (But.put wr (g := q) (i := k) (.int .u8 ((z + 1) % 256))) HQ.out
                            have HZ := Lib.hid (show (zs.set k ((z + 1) % 256)).length = m by rw [List.length_set]; exact hzl.out)
                            have HSO := Lib.hid hso
                            clear hso hz
                            go_wp2
                            go_roundw
                            case rel => exact ⟨k + 1, _, by omega, by go_num, HZ.out, HSO.out, hFn, hf.but hqw (But.put _ _)⟩
                            case measure => simp [intOf]; omega
                      · go_wp2
                        go_roundw
                        case rel => exact ⟨i + 1, by omega, by go_num, hF, hf⟩
                        case measure => simp [intOf]; omega
          · have hre := read_bad wr f _ bl5 (nm 121) a1 a2 6 hF HOK.out (nm_le _) h1.1 h1.2 h2.1 h2.2 rfl (by decide)
            go_wp2_with (go_at_call 18; refine hre.mono ?_; rintro e w' ⟨rfl, rfl⟩)
            go_ret
            exact ⟨rfl, hf⟩
end Go.Proofs.Ytnmffiejfmdnkaa.vfsReads
