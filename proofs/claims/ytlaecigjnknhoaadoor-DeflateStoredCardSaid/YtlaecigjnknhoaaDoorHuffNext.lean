/-
  The contract of huff.Code's Next. My own text.
-/
import Derived.Test.YtlaecigjnknhoaaDoorHuffUse
import Derived.Deep.DeepCutAuto
namespace Go.Proofs.YtlaecigjnknhoaaDoor.huffp
open Go.RowKit Go.Proofs.YtlaecigjnknhoaaDoor.base Go.Proofs.YtlaecigjnknhoaaDoor.num Go.Proofs.YtlaecigjnknhoaaDoor.bitnum Go.Proofs.YtlaecigjnknhoaaDoor.bitp Go.Proofs.YtlaecigjnknhoaaDoor.huffnum
set_option linter.unusedVariables false

theorem highest_is (v t : Nat) (w : World) (hv : v < 32768) (ht : t = rev 15 v) :
    Calls Tryd.prog 87 #[.int .i64 v] w fun e w' => e = .returned (.int .i64 t) ∧ Fresh w w' := by
  have h := rev_top v 15 1
  rw [show 15 + 1 = 16 from rfl, Nat.pow_one, ← ht] at h
  have hl := rev_lt 16 v
  have h16 : ∀ w, Calls Tryd.prog 105 #[.int .u16 v] w fun e w' => e = .returned (.int .u16 (rev 16 v : Nat)) ∧ ∃ m, w' = w.drewN m := fun w => rev16 v w (by omega)
  generalize rev 16 v = c at *
  simp only [Nat.reducePow] at hl
  have hw : IntKind.u16.wrap (v : Int) = (v : Int) := by rw [IntKind.wrap_u16]; omega
  have hc : (c : Int) / 2 = (t : Int) := by omega
  have H16 := Lib.hid h16
  clear h16 h ht
  have hci : (c : Int) < 65536 := by omega
  clear hl
  go_enter Tryd.func87, Tryd.ntmps87
  go_wp2_with (go_at_call 105; refine (H16.out _).mono ?_; rintro e w1 ⟨rfl, m, rfl⟩)
  go_ret
  exact ⟨rfl, Fresh.drewN _ _⟩

/-- what Next tells -/
def NextIs (ls : List Nat) (many t : Nat) (w : World) (q : Nat) (bs : List UInt8) (p : Nat) (rl : List Nat) (e : Ending) (w' : World) : Prop :=
  (tx ls 15 ≤ t ∧ e = .returned (.tuple #[.int .i64 0, .int .i64 12]) ∧ Fresh w w') ∨
  (∃ n, 1 ≤ n ∧ n ≤ 15 ∧ tx ls (n - 1) ≤ t ∧ t < tx ls n ∧ many < n ∧ e = .returned (.tuple #[.int .i64 0, .int .i64 3]) ∧ Fresh w w') ∨
  (∃ n s, 1 ≤ n ∧ n ≤ 15 ∧ tx ls (n - 1) ≤ t ∧ t < tx ls n ∧ n ≤ many ∧ (syms ls n)[(t - tx ls (n - 1)) / 2 ^ (15 - n)]? = some s ∧ e = .returned (.tuple #[.int .i64 (s : Nat), .int .i64 0]) ∧ RdrIs w q bs (p + n) rl w')

theorem CodeAt.list {w : World} {g : Nat} {ls bl : List Nat} (h : CodeAt w g ls bl) {k r s : Nat} (h1 : 1 ≤ k) (h15 : k ≤ 15) (hs : (syms ls k)[r]? = some s) :
    ∃ b off N c, w.cell? ⟨g, k, none⟩ = some (.slice (some ⟨b, off, none⟩) N c) ∧ r < N ∧ N ≤ c ∧ w.cell? ⟨b, off + r, none⟩ = some (.int .i64 (s : Nat)) := by
  obtain ⟨R, d, rfl, h⟩ := h
  have hc := h.all.cell (cells_list R (Es ls 16) ⟨some ⟨d, 0, none⟩, ls.length, ls.length⟩ (k := k) (by omega))
  have hl := h.len k (by omega)
  have ho := h.own k (by omega)
  rw [lst_pos ls h1] at hl ho
  have hr : r < (R k).len := by rw [hl]; exact lt_of_get hs
  obtain ⟨b, off, x, hA, hb, hx, hcx⟩ := ho.rd.at_ (enc := fun x : Nat => iv (x : Int)) hr
  rw [hs] at hx
  injection hx with hx
  subst hx
  have hcap := ho.cap
  generalize R k = L at *
  obtain ⟨A, N, c⟩ := L
  simp only at hA
  subst hA
  exact ⟨b, off, N, c, hc, hr, hcap.1, hcx⟩

set_option maxRecDepth 100000 in
theorem next_any (g q p many U t : Nat) (ls bl rl : List Nat) (bs : List UInt8) (w : World) (h : CodeAt w g ls bl) (hR : RdrAt w q bs p rl) (hp : p ≤ 8 * bs.length) (hn : bs.length ≤ 1099511627776)
    (hoff : ∀ b ∈ bl, b ∉ rl) (hmany : many = min 15 (8 * bs.length - p)) (hU : U = num bs / 2 ^ p) (hw : Nxt ls many U t) :
    Calls Tryd.prog 56 #[.pointer (some ⟨g, 0, none⟩), ptr q] w (NextIs ls many t w q bs p rl) := by
  obtain ⟨L, hL⟩ : ∃ L, 8 * bs.length - p = L := ⟨_, rfl⟩
  rw [hL] at hmany
  have hlz : ((8 * bs.length - p : Nat) : Int) = (L : Int) := by omega
  have hleft : ∀ w, RdrAt w q bs p rl → Calls Tryd.prog 86 #[ptr q] w fun e w' => e = .returned (.int .i64 L) ∧ Fresh w w' := fun w h => by
    have := left_any q bs p rl w h hp hn
    rwa [hL] at this
  have hm15 : many ≤ 15 := by omega
  have hheld : held (many : Int) = many := held_nat many (by omega)
  obtain ⟨V, hV⟩ : ∃ V, U % 2 ^ many = V := ⟨_, rfl⟩
  have hVl : V < 32768 := by
    have h1 := Nat.mod_lt U (y := 2 ^ many) (Nat.pow_pos (by omega))
    have h2 : 2 ^ many ≤ 32768 := by have := Nat.pow_le_pow_right (n := 2) (by omega) hm15; simpa using this
    omega
  have hpk : ∀ w, RdrAt w q bs p rl → Calls Tryd.prog 80 #[ptr q, .int .i64 many] w fun e w' => e = .returned (.tuple #[.int .i64 V, .bool true]) ∧ Fresh w w' := fun w h => by
    have := peek_ok q bs p rl many w h hn (by rw [hheld]; omega)
    rw [hheld, ← hU, hV] at this
    exact this
  have ht : t = rev 15 V := by rw [← hV]; exact hw.text
  have HW := Lib.hid hw
  have HLEFT := Lib.hid hleft
  have HPK := Lib.hid hpk
  have HT := Lib.hid ht
  have HOFF := Lib.hid hoff
  have HH := Lib.hid hheld
  have HC := Lib.hid h
  have HR := Lib.hid hR
  have hfits : p + many ≤ 8 * bs.length := by omega
  have hmL : min (15 : Int) (L : Int) = (many : Int) := by omega
  have HMM := Lib.hid hmany
  clear hw hleft hpk ht hoff hheld h hR hU hV hL hlz hmany
  obtain ⟨T, hT⟩ : ∃ T, tx ls 15 = T := ⟨_, rfl⟩
  have HTT := Lib.hid hT
  clear hT
  go_enter Tryd.func56, Tryd.ntmps56
  go_upto_region 3 with (fail)
  go_cut [6] (fun s wx => s = .int .i64 (many : Nat) ∧ Fresh w wx)
  case first =>
    go_wp2_with (go_at_call 86; (with_reducible refine (HLEFT.out w HR.out).mono ?_); rintro e w1 ⟨rfl, hf1⟩)
    all_goals go_meet
    · exact ⟨by congr 1; omega, hf1⟩
    · exact ⟨by congr 1; omega, hf1⟩
  case rest =>
    rename_i wx
    obtain ⟨rfl, hf1⟩ := hcut
    clear hmL
    go_wp2_with (first
      | (go_at_call 80; (with_reducible refine (HPK.out _ (HR.out.fresh hf1)).mono ?_); rintro e w2 ⟨rfl, hf2⟩)
      | (go_at_call 87; (with_reducible refine (highest_is V t w2 hVl HT.out).mono ?_); rintro e w3 ⟨rfl, hf3⟩; have hc15 : w3.cell? ⟨g, 31, none⟩ = some (.int .i64 (T : Int)) := (by have := (((HC.out.fresh hf1).fresh hf2).fresh hf3).ends 15 (Nat.le_refl _); rw [HTT.out] at this; exact this)))
    · go_ret2
      rename_i hTt
      exact .inl ⟨by rw [HTT.out]; exact hTt, rfl, (hf1.trans hf2).trans hf3⟩
    · rename_i hTt
      have hf13 := (hf1.trans hf2).trans hf3
      have hC3 := HC.out.fresh hf13
      have hR3 := HR.out.fresh hf13
      go_loopw [10] (fun i wr => ∃ (k : Nat), 1 ≤ k ∧ k ≤ 15 ∧ i = .int .i64 k ∧ Hid (tx ls (k - 1) ≤ t) ∧ wr = w3) (fun i _ => 16 - (intOf i).toNat)
      case atStart => exact ⟨1, by omega, by omega, rfl, by show _ ≤ _; rw [tx_zero]; omega, rfl⟩
      case round =>
        obtain ⟨k, hk1, hk15, rfl, hlo, rfl⟩ := hrel
        obtain ⟨E, hE⟩ : ∃ E, tx ls k = E := ⟨_, rfl⟩
        have hcE := hC3.ends k hk15
        rw [hE] at hcE
        have HE := Lib.hid hE
        clear hE
        by_cases hge : E ≤ t
        · have hk14 : k ≤ 14 := by
            rcases Nat.lt_or_ge k 15 with h | h
            · omega
            · have : k = 15 := by omega
              subst this
              have := HE.out
              rw [HTT.out] at this
              omega
          go_wp2
          go_roundw
          case rel => exact ⟨k + 1, by omega, by omega, by go_num, by show _ ≤ _; rw [Nat.add_sub_cancel, HE.out]; exact hge, trivial⟩
          case measure => simp [intOf]; omega
        · have hhi : t < tx ls k := by rw [HE.out]; omega
          have HHI := Lib.hid hhi
          clear hhi
          by_cases hkm : many < k
          · go_wp2
            go_ret2
            exact .inr (.inl ⟨k, hk1, hk15, hlo.out, HHI.out, hkm, rfl, hf13⟩)
          · have hheld : held (k : Int) = k := held_nat k (by omega)
            obtain ⟨s, hs, _, _, _⟩ := HW.out.comes hk1 hk15 hlo.out HHI.out (by omega)
            obtain ⟨k1, hk1e⟩ : ∃ k1, k - 1 = k1 := ⟨_, rfl⟩
            have hki : (k : Int) - 1 = (k1 : Int) := by omega
            have hlo2 := hlo.out
            rw [hk1e] at hs hlo2
            obtain ⟨B1, hB1⟩ : ∃ B1, tx ls k1 = B1 := ⟨_, rfl⟩
            rw [hB1] at hs hlo2
            obtain ⟨D, hD⟩ : ∃ D, t - B1 = D := ⟨_, rfl⟩
            have hDi : (t : Int) - (B1 : Int) = (D : Int) := by omega
            obtain ⟨m, hm⟩ : ∃ m, 15 - k = m := ⟨_, rfl⟩
            have hmi : (15 : Int) - (k : Int) = (m : Int) := by omega
            have hm14 : m ≤ 14 := by omega
            rw [hD, hm] at hs
            obtain ⟨M, hM⟩ : ∃ M, 2 ^ m = M := ⟨_, rfl⟩
            have hMi : (2 : Int) ^ m = (M : Int) := by rw [pow2i, hM]
            rw [hM] at hs
            obtain ⟨r, hr⟩ : ∃ r, D / M = r := ⟨_, rfl⟩
            have hri : (D : Int) / (M : Int) = (r : Int) := by rw [← hr]; simp
            rw [hr] at hs
            have HS := Lib.hid hs
            have HB1 := Lib.hid hB1
            have HFIN : Hid ((syms ls k)[(t - tx ls (k - 1)) / 2 ^ (15 - k)]? = some s) := by
              show _ = _
              rw [hk1e, hB1, hD, hm, hM, hr]; exact hs
            have hk1b : k1 ≤ 14 := by omega
            have hD32 : D ≤ 32768 := by
              have := HT.out
              have := rev_lt 15 V
              omega
            clear hs hB1 hD hr hM hm hk1e
            go_wp2_with (go_at_call 52; (with_reducible refine (bits_ok q bs p rl _ k _ wr hR3 hn hheld (by omega) rfl).mono ?_); rintro e w4 ⟨rfl, rl4, hR4, hT4⟩)
            have hC4 := hC3.turn hT4 HOFF.out
            obtain ⟨b, off, N, c, hcl, hrN, hNc, hcs⟩ := hC4.list hk1 hk15 HS.out
            have hcE1 := hC4.ends k1 (by omega)
            rw [HB1.out] at hcE1
            have hr0 : (0 : Int) ≤ (r : Int) := by omega
            have hr1 : (r : Int) < (N : Int) := by omega
            have hka : (0 : Int) ≤ (k : Int) := by omega
            have hkb : (k : Int) < 16 := by omega
            have hkc : (k1 : Int) < 16 := by omega
            have HT4 := Lib.hid hT4
            have HR4 := Lib.hid hR4
            clear hC4 hC3 hR3 hT4 hR4 hcE
            go_quiet (fail)
            go_wp2
            go_ret2
            exact .inr (.inr ⟨k, s, hk1, hk15, hlo.out, HHI.out, by omega, HFIN.out, rfl, rl4, HR4.out.fresh (Fresh.drewN _ _), ((Turn.fresh hf13).trans HT4.out).trans (Turn.fresh (Fresh.drewN _ _))⟩)
end Go.Proofs.YtlaecigjnknhoaaDoor.huffp
