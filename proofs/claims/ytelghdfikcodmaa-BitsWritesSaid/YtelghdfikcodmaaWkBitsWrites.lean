/-
  The walk of the law BitsWrites. My own text.
-/
import Derived.Test.YtelghdfikcodmaaBitsRef
import Derived.Test.YtelghdfikcodmaaOpenActs
import Derived.Test.YtelghdfikcodmaaStore
namespace Go.Proofs.Ytelghdfikcodmaa.bitsWrites
open Go.RowKit Go.Proofs.Ytelghdfikcodmaa.base Go.Proofs.Ytelghdfikcodmaa.num Go.Proofs.Ytelghdfikcodmaa.bitnum Go.Proofs.Ytelghdfikcodmaa.bitp
set_option linter.unusedVariables false

abbrev tAct : TypeId := 45
theorem actInfo : (Try.prog.info? tAct).map (·.size) = some 4 := by kernel_rfl
theorem cells_one (a : BAct) : ∀ v ∈ a.cells, v.oneCell' = true := by
  intro v hv
  simp only [BAct.cells, List.mem_cons, List.not_mem_nil, or_false] at hv
  rcases hv with rfl | rfl | rfl | rfl <;> rfl

/-- both at once: the writer, and the bits in a row -/
structure St (wA wr : World) (g N m : Nat) (bl : List Nat) (A : Option Addr) (c : Nat) : Prop where
  wt : WtrAt wr g N m bl
  all : Own wr wA.heap.size 3 A m c (nv (lb m N))
  since : Since wA wr bl
theorem St.fresh {wA wr w' : World} {g N m : Nat} {bl : List Nat} {A : Option Addr} {c : Nat} (h : St wA wr g N m bl A c) (k : Fresh wr w') : St wA w' g N m bl A c :=
  ⟨h.wt.fresh k, Own.fresh h.all k, h.since.fresh k⟩
/-- the writer went on -/
structure Half (wA wr : World) (g N m N' m' : Nat) (bl : List Nat) (A : Option Addr) (c : Nat) : Prop where
  wt : WtrAt wr g N' m' bl
  all : Own wr wA.heap.size 3 A m c (nv (lb m N))
  since : Since wA wr bl
theorem St.half {wA wr w' : World} {g N m N' m' : Nat} {bl bl' : List Nat} {A : Option Addr} {c : Nat} (h : St wA wr g N m bl A c) (hW : WtrAt w' g N' m' bl') (hT : bitp.Turn bl bl' wr w') : Half wA w' g N m N' m' bl' A c :=
  ⟨hW, Own.turn h.all hT (h.wt.1.off h.all (by decide) (by decide)), h.since.turn hT⟩
theorem Half.fresh {wA wr w' : World} {g N m N' m' : Nat} {bl : List Nat} {A : Option Addr} {c : Nat} (h : Half wA wr g N m N' m' bl A c) (k : Fresh wr w') : Half wA w' g N m N' m' bl A c :=
  ⟨h.wt.fresh k, Own.fresh h.all k, h.since.fresh k⟩
/-- and the row behind it -/
theorem Half.done {wA wr w' : World} {g N m N' m' : Nat} {bl : List Nat} {A A' : Option Addr} {c c' : Nat} (h : Half wA wr g N m N' m' bl A c) (ho : Own w' wA.heap.size 3 A' m' c' (nv (lb m' N'))) (hg : wr.grownBy w' (Value.slice A m c).ownBlock) : St wA w' g N' m' bl A' c' :=
  ⟨⟨h.wt.1.grown hg (h.wt.1.off h.all (by decide) (by decide)), h.wt.2⟩, ho, h.since.grown hg fun k hk => (World.ownsRow.lt h.all k hk).1⟩
theorem Half.more {wA wr w' : World} {g N m m2 N' m' : Nat} {bl : List Nat} {A A' : Option Addr} {c c' : Nat} (h : Half wA wr g N m N' m' bl A c) (ho : Own w' wA.heap.size 3 A' m2 c' (nv (lb m2 N))) (hg : wr.grownBy w' (Value.slice A m c).ownBlock) : Half wA w' g N m2 N' m' bl A' c' :=
  ⟨⟨h.wt.1.grown hg (h.wt.1.off h.all (by decide) (by decide)), h.wt.2⟩, ho, h.since.grown hg fun k hk => (World.ownsRow.lt h.all k hk).1⟩
theorem nv_append {m N k u : Nat} (hN : N < 2 ^ m) : nv (lb m N) ++ nv (lb k u) = nv (lb (m + k) (N + 2 ^ m * (u % 2 ^ k))) := by
  rw [nv, nv, nv, ← List.map_append, ← lb_mod k u, lb_append, Nat.mod_eq_of_lt hN]
theorem nv_zero {m N : Nat} (hN : N < 2 ^ m) : nv (lb m N) ++ [.int .i64 0] = nv (lb (m + 1) N) := by
  rw [lb_snoc, Nat.div_eq_of_lt hN]; simp [nv]
def sliceLen : Value → Nat
  | .slice _ n _ => n
  | _ => 0

theorem left_is (g : Nat) (bs : List UInt8) (p : Nat) (bl : List Nat) (z : Int) (w : World) (h : RdrAt w g bs p bl) (hp : p ≤ 8 * bs.length) (hn : bs.length ≤ 1099511627776) (hz : ((8 * bs.length - p : Nat) : Int) = z) :
    Calls Try.prog 26 #[ptr g] w fun e w' => e = .returned (.int .i64 z) ∧ Fresh w w' := by
  subst hz
  exact left_any g bs p bl w h hp hn
theorem Bytes_is (A : Option Addr) (m c : Nat) (N L : Nat) (w : World) (B : Nat) (hr : Rd w B A m (nv (lb m N))) (hB : B ≤ w.heap.size) (hN : N < 2 ^ m) (hm : m ≤ 4294967296) (hL : (m + 7) / 8 = L) :
    Calls Try.prog 38 #[.slice A m c] w fun e w' => ∃ A c, e = .returned (.slice A L c) ∧ Fresh w w' ∧ Own w' w.heap.size 5 A L c ((low L N).map bv) := by
  subst hL
  exact Bytes_any A m c N w B hr hB hN hm

set_option maxRecDepth 100000 in
theorem bitsWrites_walk (A0 : Option Addr) (n0 c0 : Nat) (l0 : List BAct) (w : World) (b0 : InBActs w A0 n0 c0 l0) :
    Calls Try.prog 5 #[.slice A0 n0 c0] w fun e w' => e = .returned (.bool true) ∧ Below w.heap.size w w' := by
  obtain ⟨i0, hi0, hz0, hz1, hz2⟩ := info_parts info_int
  have hc0 := b0.1.2.2.1
  have hn0 := b0.1.2.1
  unfold maxLen at hc0
  by_cases hbig : 200 < n0
  · go_enter Try.func5, Try.ntmps5
    go_wp2_with (go_at_call 16; refine (wakes_any _).mono ?_; rintro e wA ⟨rfl, hfA⟩)
    go_ret
    exact ⟨rfl, hfA⟩
  go_enter Try.func5, Try.ntmps5
  go_wp2_with (first
    | (go_at_call 16; refine (wakes_any _).mono ?_; rintro e wA ⟨rfl, hfA⟩)
    | (go_at_call 29; (with_reducible refine (write_any wA).mono ?_); rintro e w1 ⟨g, bl, rfl, hW1, hS1⟩))
  go_loopw [4, 21] (fun s i wr => ∃ (j N m c : Nat) (A : Option Addr) (bl : List Nat), j ≤ n0 ∧ i = .int .i64 j ∧ s = .slice A m c ∧ m ≤ 31 * j ∧ St wA wr g N m bl A c) (fun _ i _ => n0 - (intOf i).toNat)
  case atStart => exact ⟨0, 0, 0, 0, none, bl, by omega, rfl, rfl, by omega, hW1, Own.nil _ _ _, hS1⟩
  case round =>
    obtain ⟨j, N, m, c, A, bl, hj, rfl, rfl, hm, hSt⟩ := hrel
    by_cases hlt : j < n0
    · obtain ⟨b, off, vs, rfl, hvs, hrange⟩ := (b0.keep (hfA.trans hSt.since.1)).at_ hlt
      obtain ⟨a, ha, hvs2⟩ : ∃ a, l0[j]? = some a ∧ vs = a.cells := by
        rw [List.getElem?_map] at hvs
        cases h : l0[j]? with
        | none => rw [h] at hvs; cases hvs
        | some a => rw [h] at hvs; exact ⟨a, rfl, by injection hvs with hvs; exact hvs.symm⟩
      subst hvs2
      obtain ⟨hw0, hw1, hw2, _⟩ := b0.2 a (List.mem_of_getElem? ha)
      obtain ⟨kd, n, v, sA, sl, sc, sb⟩ := a
      simp only at hw0 hw1 hw2
      simp only [BAct.cells] at hrange
      have HR := Lib.hid hrange
      have hoff : wr.heap.size ∉ bl := fun h => by have := hSt.wt.1.inside _ h; omega
      have hSt1 := hSt.fresh (Fresh.alloc wr (.cells #[.int .i64 kd, .int .i64 n, .int .i64 v, .slice sA sl sc] tAct))
      have hb1 := Bk.made wr tAct #[.int .i64 kd, .int .i64 n, .int .i64 v, .slice sA sl sc]
      have hk2 := hb1.inside
      have hc1 : (wr.alloc (.cells #[.int .i64 kd, .int .i64 n, .int .i64 v, .slice sA sl sc] tAct)).cell? ⟨wr.heap.size, 1, none⟩ = some (.int .i64 n) := hb1.cell rfl
      have hc2 : (wr.alloc (.cells #[.int .i64 kd, .int .i64 n, .int .i64 v, .slice sA sl sc] tAct)).cell? ⟨wr.heap.size, 2, none⟩ = some (.int .i64 v) := hb1.cell rfl
      have HC1 := Lib.hid hc1
      have HC2 := Lib.hid hc2
      clear hvs hrange ha hb1 hc1 hc2
      rcases (show kd = 0 ∨ kd = 1 ∨ kd = 2 ∨ (¬ kd = 0 ∧ ¬ kd = 1 ∧ ¬ kd = 2) by omega) with rfl | rfl | rfl | ⟨hkd0, hkd1, hkd2⟩
      · have hle := held_le n
        go_wp2_with (first
        | ((with_reducible (refine at_slot_ 24 ?_)); refine wpList_load_mid rfl tAct (.tmp 23) rfl b (off + j * 4) rfl _ _ HR.out Try.underlying45 rfl actInfo ?_)
        | (go_at_call 30; (with_reducible refine (put_any g N m (held n) _ n v bl _ hSt1.wt (by omega) rfl rfl).mono ?_); rintro e w2 ⟨rfl, bl2, hW2, hT2⟩; have hH2 := hSt1.half hW2 hT2; have hc1' := (World.cell?_of_block (hT2.block _ hk2 hoff)).trans HC1.out; have hc2' := (World.cell?_of_block (hT2.block _ hk2 hoff)).trans HC2.out)
        | (go_at_call 31; (with_reducible refine (Low_any n v w2).mono ?_); rintro e w3 ⟨A3, c3, rfl, hf3, ho3⟩; have hH3 := hH2.fresh hf3)
        | (at_builtin; go_loud (refine wpList_append_rd _ rfl (.tmp 35) (.tmp 40) 40 rfl wA.heap.size 3 i0 _ 8 Try.underlying40 hi0 hz0 hz1 hz2 rfl A m c _ rfl hH3.all w3.heap.size A3 (held n) c3 _ rfl ho3.rd (nv_one _) (by unfold maxLen; omega) (by omega) hH3.since.1.size ?_); intro A4 c4 w4 ho4 hg4))
        have hN2 := hSt.wt.2
        rw [nv_append hN2] at ho4
        have hSt4 := hH3.done ho4 hg4
        clear hH2 hH3 ho4 hg4
        go_wp2_with (go_at_call 35; (with_reducible refine (len_any g _ _ bl2 w4 hSt4.wt).mono ?_); rintro e w5 ⟨rfl, rfl⟩)
        go_roundw
        case rel => exact ⟨j + 1, _, m + held n, c4, A4, bl2, by omega, by go_num, rfl, by omega, hSt4⟩
        case measure => simp [intOf]; omega
      · have hle := held_le n
        go_wp2_with (first
        | ((with_reducible (refine at_slot_ 24 ?_)); refine wpList_load_mid rfl tAct (.tmp 23) rfl b (off + j * 4) rfl _ _ HR.out Try.underlying45 rfl actInfo ?_)
        | (go_at_call 32; (with_reducible refine (code_any g N m (held n) _ n v bl _ hSt1.wt (by omega) rfl rfl).mono ?_); rintro e w2 ⟨rfl, bl2, hW2, hT2⟩; have hH2 := hSt1.half hW2 hT2; have hc1' := (World.cell?_of_block (hT2.block _ hk2 hoff)).trans HC1.out; have hc2' := (World.cell?_of_block (hT2.block _ hk2 hoff)).trans HC2.out)
        | (go_at_call 33; (with_reducible refine (high_any n v w2).mono ?_); rintro e w3 ⟨A3, c3, rfl, hf3, ho3⟩; have hH3 := hH2.fresh hf3)
        | (at_builtin; go_loud (refine wpList_append_rd _ rfl (.tmp 50) (.tmp 55) 40 rfl wA.heap.size 3 i0 _ 8 Try.underlying40 hi0 hz0 hz1 hz2 rfl A m c _ rfl hH3.all w3.heap.size A3 (held n) c3 _ rfl ho3.rd (nv_one _) (by unfold maxLen; omega) (by omega) hH3.since.1.size ?_); intro A4 c4 w4 ho4 hg4))
        have hN2 := hSt.wt.2
        rw [nv_append hN2, Nat.mod_eq_of_lt (rev_lt _ _)] at ho4
        have hSt4 := hH3.done ho4 hg4
        clear hH2 hH3 ho4 hg4
        go_wp2_with (go_at_call 35; (with_reducible refine (len_any g _ _ bl2 w4 hSt4.wt).mono ?_); rintro e w5 ⟨rfl, rfl⟩)
        go_roundw
        case rel => exact ⟨j + 1, _, m + held n, c4, A4, bl2, by omega, by go_num, rfl, by omega, hSt4⟩
        case measure => simp [intOf]; omega
      · obtain ⟨K, hK⟩ : ∃ K, (8 - m % 8) % 8 = K := ⟨_, rfl⟩
        have hal := alignw_any g N m bl _ hSt1.wt (by omega)
        rw [hK] at hal
        have hK8 : K < 8 := by omega
        have hKm : Hid ((m + K) % 8 = 0) := by show _ = _; omega
        have hKs : Hid (∀ t, t ≤ K → ¬ t = K → ¬ (m + t) % 8 = 0) := fun t h1 h2 => by omega
        have HAL := Lib.hid hal
        clear hal hK
        go_wp2_with (first
        | ((with_reducible (refine at_slot_ 24 ?_)); refine wpList_load_mid rfl tAct (.tmp 23) rfl b (off + j * 4) rfl _ _ HR.out Try.underlying45 rfl actInfo ?_)
        | (go_at_call 34; (with_reducible refine HAL.out.mono ?_); rintro e w2 ⟨rfl, bl2, hW2, hT2⟩; have hH2 := hSt1.half hW2 hT2))
        go_loopw [4] (fun s wr' => ∃ (t c' : Nat) (A' : Option Addr), t ≤ K ∧ s = .slice A' (m + t) c' ∧ Half wA wr' g N (m + t) N (m + K) bl2 A' c') (fun s _ => (m + K) - sliceLen s)
        case atStart => exact ⟨0, c, A, by omega, rfl, hH2⟩
        case round =>
          obtain ⟨t, c', A', ht, rfl, hH⟩ := hrel
          by_cases hte : t = K
          · subst hte
            have h8 : ((m + t : Nat) : Int) % 8 = 0 := by have := hKm.out; omega
            have hSt4 : St wA wr g N (m + t) bl2 A' c' := ⟨hH.wt, hH.all, hH.since⟩
            go_wp2_with (go_at_call 35; (with_reducible refine (len_any g _ _ bl2 _ hSt4.wt).mono ?_); rintro e w5 ⟨rfl, rfl⟩)
            go_roundw
            case rel => exact ⟨j + 1, N, m + t, c', A', bl2, by omega, by go_num, rfl, by omega, hSt4⟩
            case measure => simp [intOf]; omega
          · have h8 : ¬ ((m + t : Nat) : Int) % 8 = 0 := by have := hKs.out t ht hte; omega
            have hlt3 : t < K := by omega
            go_wp2_with (at_builtin; go_loud (refine wpList_append_rd _ rfl (.tmp 65) (.tmp 66) 40 rfl wA.heap.size 3 i0 _ 8 Try.underlying40 hi0 hz0 hz1 hz2 rfl A' (m + t) c' _ rfl (Own.fresh hH.all (Fresh.alloc _ _)) (wr.heap.size + 1) (some ⟨wr.heap.size, 0, none⟩) 1 1 [.int .i64 0] rfl (Rd.lit wr #[.int .i64 0] 3) (one_one _ _) (by unfold maxLen; omega) (by omega) (by have := hH.since.1.size; simp; omega) ?_); intro A4 c4 w4 ho4 hg4)
            have hN3 : N < 2 ^ (m + t) := Nat.lt_of_lt_of_le hSt.wt.2 (Nat.pow_le_pow_right (by omega) (by omega))
            rw [nv_zero hN3] at ho4
            have hH4 := (hH.fresh (Fresh.alloc wr (.cells #[.int .i64 0] 3))).more ho4 hg4
            clear ho4 hg4
            go_roundw
            case rel => exact ⟨t + 1, c4, A4, by omega, by rw [Nat.add_assoc], hH4⟩
            case measure => simp [sliceLen]; omega
      · go_wp2_with (first
        | ((with_reducible (refine at_slot_ 24 ?_)); refine wpList_load_mid rfl tAct (.tmp 23) rfl b (off + j * 4) rfl _ _ HR.out Try.underlying45 rfl actInfo ?_)
        | (go_at_call 35; (with_reducible refine (len_any g _ _ bl _ hSt1.wt).mono ?_); rintro e w5 ⟨rfl, rfl⟩))
        go_roundw
        case rel => exact ⟨j + 1, N, m, c, A, bl, by omega, by go_num, rfl, by omega, hSt1⟩
        case measure => simp [intOf]; omega
    · have h0 : j = n0 := by omega
      subst h0
      obtain ⟨L, hL⟩ : ∃ L, (m + 7) / 8 = L := ⟨_, rfl⟩
      have hL5 : L ≤ 6000 := by omega
      have hLm : m ≤ 8 * L := by omega
      have hLm2 : 8 * L < m + 8 := by omega
      have hNL : num (low L N) = N := by rw [num_low, Nat.mod_eq_of_lt (lt_bytes' hSt.wt.2 (by omega))]
      have HL := Lib.hid hL
      have HNL := Lib.hid hNL
      clear hL hNL
      go_wp2_with (first
        | (go_at_call 36; (with_reducible refine (bytes_is g N m L _ bl wr hSt.wt (by omega) HL.out rfl).mono ?_); rintro e w5 ⟨A5, c5, rfl, hf5, ho5⟩; have hal5 := Own.fresh hSt.all hf5)
        | (go_at_call 18; refine (read_one A5 L c5 (low L N) w5 w5.heap.size ho5.rd (Nat.le_refl _) (by omega) _ rfl).mono ?_; rintro e w6 ⟨g6, bl6, rfl, hR6, hS6⟩))
      have hrd := hal5.rd
      have hrd5 := ho5.rd
      go_loopw [81] (fun i wr' => ∃ (t : Nat) (bl' : List Nat), t ≤ m ∧ i = .int .i64 t ∧ RdrAt wr' g6 (low L N) t bl' ∧ Since w5 wr' bl') (fun i _ => m - (intOf i).toNat)
      case atStart => exact ⟨0, bl6, by omega, rfl, hR6, hS6⟩
      case round =>
        obtain ⟨t, bl', ht, rfl, hR, hS⟩ := hrel
        have hll : (low L N).length = L := low_length _ _
        by_cases hlt2 : t < m
        · obtain ⟨b, off, x, rfl, hb, hx, hcx⟩ := (hrd.below hS.1 (Nat.le_refl _)).at_ (enc := fun x : Nat => iv (x : Int)) hlt2
          rw [lb_get hlt2] at hx
          injection hx with hx
          have hbit : num (low L N) / 2 ^ t % 2 ^ 1 = x := by rw [HNL.out]; exact hx
          have HB := Lib.hid hbit
          have HLL := Lib.hid hll
          clear hx hbit hll
          go_wp2_with (go_at_call 21; refine (bits_ok g6 (low L N) t bl' 1 1 x wr hR (by rw [HLL.out]; omega) rfl (by rw [HLL.out]; omega) HB.out).mono ?_; rintro e w7 ⟨rfl, bl7, hR7, hT7⟩)
          go_roundw
          case rel => exact ⟨t + 1, bl7, by omega, by go_num, hR7, hS.turn hT7⟩
          case measure => simp [intOf]; omega
        · obtain rfl : t = m := by omega
          obtain ⟨D, hD⟩ : ∃ D, 8 * L - t = D := ⟨_, rfl⟩
          have hD8 : (D : Int) < 8 := by omega
          have hz : ((8 * (low L N).length - t : Nat) : Int) = (D : Int) := by rw [hll]; omega
          have HZ := Lib.hid hz
          have HLL := Lib.hid hll
          have hrdw := hrd.below hS.1 (Nat.le_refl _)
          have hrd5w := hrd5.below hS.1 (Nat.le_refl _)
          have hN2 := hSt.wt.2
          have hsz := hS.1.size
          clear hz hll hD
          go_wp2_with (first
            | (go_at_call 38; (with_reducible refine (Bytes_is A t c N L wr w5.heap.size hrdw hsz hN2 (by omega) HL.out).mono ?_); rintro e w7 ⟨A7, c7, rfl, hf7, ho7⟩; have hR7 := hR.fresh hf7)
            | (go_at_call 37; (with_reducible refine (same_yes A5 A7 L _ _ (low L N) w7 _ _ (hrd5w.below hf7 hsz) ho7.rd (by unfold maxLen; omega)).mono ?_); rintro e w8 ⟨rfl, hf8⟩; have hR8 := hR7.fresh hf8)
            | (go_at_call 26; (with_reducible refine (left_is g6 (low L N) t bl' D w8 hR8 (by rw [HLL.out]; omega) (by rw [HLL.out]; omega) HZ.out).mono ?_); rintro e w9 ⟨rfl, hf9⟩))
          go_ret
          exact ⟨rfl, (((((hfA.trans hSt.since.1).trans hf5).trans hS.1).trans hf7).trans hf8).trans hf9⟩
end Go.Proofs.Ytelghdfikcodmaa.bitsWrites
