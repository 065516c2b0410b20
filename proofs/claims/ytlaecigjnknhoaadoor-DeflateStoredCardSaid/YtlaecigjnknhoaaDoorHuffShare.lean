/-
  The contract of (*huff.Code).share. My own text.
-/
import Derived.Test.YtlaecigjnknhoaaDoorHuffAt
import Derived.Deep.RegionHeld3
import Derived.Deep.AppendLies
namespace Go.Proofs.YtlaecigjnknhoaaDoor.huffp
open Go.RowKit Go.Proofs.YtlaecigjnknhoaaDoor.base Go.Proofs.YtlaecigjnknhoaaDoor.num Go.Proofs.YtlaecigjnknhoaaDoor.bitnum Go.Proofs.YtlaecigjnknhoaaDoor.bitp Go.Proofs.YtlaecigjnknhoaaDoor.huffnum
set_option linter.unusedVariables false

/-- the pairs of all symbols with fewer than n bits, and of the first r with n -/
def Fs (ls : List Nat) (n r : Nat) : Nat → Nat × Nat := fun s =>
  match ls[s]? with
  | some m => if 1 ≤ m ∧ (m < n ∨ (m = n ∧ rankOf ls s m < r)) then (m, cd ls s m) else (0, 0)
  | none => (0, 0)
def Es (ls : List Nat) (n : Nat) : Nat → Nat := fun k => if k < n then tx ls k else 0
theorem Es_one (ls : List Nat) : Es ls 1 = fun _ => 0 := by
  funext k
  unfold Es
  split
  · rw [show k = 0 by omega, tx_zero]
  · rfl
theorem Es_step (ls : List Nat) (k : Nat) : upd (Es ls k) k (tx ls k) = Es ls (k + 1) := by
  funext i
  unfold upd Es
  by_cases h : i = k
  · subst h; simp
  · rw [if_neg h]
    by_cases h2 : i < k
    · rw [if_pos h2, if_pos (by omega)]
    · rw [if_neg h2, if_neg (by omega)]
theorem Fs_one (ls : List Nat) : Fs ls 1 0 = fun _ => (0, 0) := by
  funext s
  unfold Fs
  split
  · rw [if_neg (by omega)]
  · rfl
theorem Fs_step {ls : List Nat} {k r s : Nat} (h1 : 1 ≤ k) (h : (lst ls k)[r]? = some s) : upd (Fs ls k r) s (k, cd ls s k) = Fs ls k (r + 1) := by
  rw [lst_pos ls h1] at h
  obtain ⟨hs, hr⟩ := syms_of h
  funext i
  unfold upd
  by_cases e : i = s
  · subst e
    rw [if_pos rfl]
    unfold Fs
    rw [hs]
    simp only
    rw [if_pos ⟨h1, .inr ⟨trivial, by omega⟩⟩]
  · rw [if_neg e]
    unfold Fs
    cases hi : ls[i]? with
    | none => rfl
    | some m =>
      simp only
      have hne : ¬ (m = k ∧ rankOf ls i m = r) := by
        rintro ⟨rfl, h2⟩
        have := syms_at hi
        rw [h2, h] at this
        injection this with this
        exact e this.symm
      have : (1 ≤ m ∧ (m < k ∨ (m = k ∧ rankOf ls i m < r))) ↔ (1 ≤ m ∧ (m < k ∨ (m = k ∧ rankOf ls i m < r + 1))) := by omega
      simp only [this]
theorem Fs_next (ls : List Nat) (k : Nat) : Fs ls k (ls.count k) = Fs ls (k + 1) 0 := by
  funext i
  unfold Fs
  cases hi : ls[i]? with
  | none => rfl
  | some m =>
    simp only
    have h := rankOf_lt hi
    have : (1 ≤ m ∧ (m < k ∨ (m = k ∧ rankOf ls i m < ls.count k))) ↔ (1 ≤ m ∧ (m < k + 1 ∨ (m = k + 1 ∧ rankOf ls i m < 0))) := by
      constructor
      · rintro ⟨a, b⟩; omega
      · rintro ⟨a, b⟩
        refine ⟨a, ?_⟩
        rcases b with b | b
        · by_cases e : m = k
          · subst e; exact .inr ⟨rfl, h⟩
          · exact .inl (by omega)
        · omega
    simp only [this]
theorem cd_div {ls : List Nat} {k r s : Nat} (h1 : 1 ≤ k) (h15 : k ≤ 15) (h : (lst ls k)[r]? = some s) : (tx ls (k - 1) + r * 2 ^ (15 - k)) / 2 ^ (15 - k) = cd ls s k := by
  rw [lst_pos ls h1] at h
  obtain ⟨hs, hr⟩ := syms_of h
  have := st_is (ls := ls) (s := s) h1 h15
  rw [hr] at this
  rw [← this, st, Nat.mul_div_cancel _ (Nat.pow_pos (by omega))]
theorem lst_len {ls : List Nat} {k : Nat} (h : 1 ≤ k) : (lst ls k).length = ls.count k := by rw [lst_pos ls h, syms_len]

theorem share_bound {ls : List Nat} {k r s : Nat} (h1 : 1 ≤ k) (h15 : k ≤ 15) (h : (lst ls k)[r]? = some s) : tx ls (k - 1) + r * 2 ^ (15 - k) + 2 ^ (15 - k) ≤ 15 * (16384 * ls.length) := by
  rw [lst_pos ls h1] at h
  obtain ⟨hs, hr⟩ := syms_of h
  have e := st_is (ls := ls) (s := s) h1 h15
  rw [hr] at e
  have h2 := st_hi hs h1
  have h3 := tx_bound ls k h15
  have h4 : k * (16384 * ls.length) ≤ 15 * (16384 * ls.length) := Nat.mul_le_mul_right _ h15
  omega
set_option maxRecDepth 100000 in
theorem share_any (base g d n : Nat) (ls : List Nat) (R : Nat → Sl) (w : World) (h : Mid w base g ls R (fun _ => 0) d n (fun _ => (0, 0))) (hn : n = ls.length) (hl : n ≤ 320) :
    Calls Tryd.prog 62 #[.pointer (some ⟨g, 0, none⟩)] w fun e w' => e = .returned (.tuple #[]) ∧ Mid w' base g ls R (Es ls 16) d n (Fs ls 16 0) ∧ Turn [g, d] [g, d] w w' := by
  have HN := Lib.hid hn
  clear hn
  go_enter Tryd.func62, Tryd.ntmps62
  go_wp2
  go_loopw [2, 3] (fun a i wr => ∃ (k q : Nat), 1 ≤ k ∧ k ≤ 16 ∧ i = .int .i64 k ∧ a = .int .i64 q ∧ Hid (q = tx ls (k - 1)) ∧ Mid wr base g ls R (Es ls k) d n (Fs ls k 0) ∧ Turn [g, d] [g, d] w wr) (fun _ i _ => 16 - (intOf i).toNat)
  case atStart => exact ⟨1, 0, by omega, by omega, rfl, rfl, (tx_zero ls).symm, by rw [Es_one, Fs_one]; exact h, Turn.refl _ _⟩
  case round =>
    obtain ⟨k, q, hk1, hk, rfl, rfl, hq, hM, hT⟩ := hrel
    by_cases hlt : k ≤ 15
    · have hc := hM.all.cell (cells_list R (Es ls k) ⟨some ⟨d, 0, none⟩, n, n⟩ (k := k) (by omega))
      obtain ⟨L, hL⟩ : ∃ L, R k = L := ⟨_, rfl⟩
      rw [hL] at hc
      have hlen := hM.len k (by omega)
      rw [hL] at hlen
      obtain ⟨A, N, c⟩ := L
      simp only [Sl.val] at hc hlen
      have hN : N ≤ 320 := by
        rw [hlen, lst_len hk1]
        have := List.count_le_length (a := k) (l := ls)
        have := HN.out
        omega
      have HL := Lib.hid hL
      have HLEN := Lib.hid hlen
      clear hL hlen
      obtain ⟨m, hm⟩ : ∃ m : Nat, 15 - k = m := ⟨_, rfl⟩
      have hmi : (15 : Int) - (k : Int) = (m : Int) := by omega
      have hm14 : m ≤ 14 := by omega
      have HM := Lib.hid hm
      have hrd := (hM.own k (by omega))
      rw [HL.out] at hrd
      simp only at hrd
      have HRD := Lib.hid hrd.rd
      clear hm hrd
      go_wp2
      go_loopw [2, 17] (fun a i ws => ∃ (r p : Nat), r ≤ N ∧ i = .int .i64 r ∧ a = .int .i64 p ∧ Hid (p = tx ls (k - 1) + r * 2 ^ m) ∧ Mid ws base g ls R (Es ls k) d n (Fs ls k r) ∧ Turn [g, d] [g, d] wr ws) (fun _ i _ => N - (intOf i).toNat)
      case atStart => exact ⟨0, q, by omega, rfl, rfl, by show _ = _; rw [hq.out]; simp, hM, Turn.refl _ _⟩
      case round =>
        obtain ⟨r, p, hr, rfl, rfl, hp, hM2, hT2⟩ := hrel
        by_cases hlt2 : r < N
        · have hrd2 := hM2.own k (by omega)
          rw [HL.out] at hrd2
          simp only at hrd2
          obtain ⟨b, off, s, rfl, hb, hx, hcx⟩ := hrd2.rd.at_ (enc := fun x : Nat => iv (x : Int)) hlt2
          have hcd := cd_div hk1 hlt hx
          have hF := Fs_step hk1 hx
          have hs : s < n := by
            rw [HN.out]
            rw [lst_pos ls hk1] at hx
            exact lt_of_get (syms_of hx).1
          have hpb := share_bound hk1 hlt hx
          rw [HM.out, ← hp.out] at hcd hpb
          rw [← HN.out] at hpb
          obtain ⟨C, hC⟩ : ∃ C, cd ls s k = C := ⟨_, rfl⟩
          rw [hC] at hcd hF
          obtain ⟨M, hM0⟩ : ∃ M, 2 ^ m = M := ⟨_, rfl⟩
          have hMi : (2 : Int) ^ m = (M : Int) := by rw [pow2i, hM0]
          rw [hM0] at hcd hpb
          have hpb2 : p + M ≤ 78643200 := by omega
          have hci : (p : Int) / (M : Int) = (C : Int) := by rw [← hcd]; simp
          have HM0 := Lib.hid hM0
          have HF := Lib.hid hF
          clear hx hcd hF hrd2 hC hM0 hpb
          have hc2 := hM2.all.cell (cells_codes R (Es ls k) ⟨some ⟨d, 0, none⟩, n, n⟩)
          simp only [Sl.val] at hc2
          have hf1 := hM2.codes.free (s * 2)
          have hf2 := hM2.codes.free (s * 2 + 1)
          have hp1 := hM2.codes.cell (pairs_fst (Fs ls k r) n hs)
          have hp2 := hM2.codes.cell (pairs_snd (Fs ls k r) n hs)
          have hs0 : (0 : Int) ≤ (s : Int) := by omega
          have hs1 : (s : Int) < (n : Int) := by omega
          go_wp2
          go_region
          go_wp2
          go_roundw
          case rel =>
            refine ⟨r + 1, p + M, by omega, by go_num, by go_num, ?_, ?_, ?_⟩
            · show _ = _
              rw [hp.out, ← HM0.out, Nat.succ_mul]; omega
            · have := (hM2.setPair s k C).fresh (Fresh.drew _)
              rw [HF.out] at this
              exact this
            · exact hT2.trans (((Turn.but (But.put _ _) (by simp)).trans (Turn.but (But.put _ _) (by simp))).trans (Turn.fresh (Fresh.drew _)))
          case measure => simp [intOf]; omega
        · obtain rfl : r = N := by omega
          have hpe : p = tx ls k := by
            have := tx_succ ls (n := k - 1) (by omega)
            rw [show k - 1 + 1 = k by omega, HM.out, ← lst_len hk1, ← HLEN.out] at this
            rw [hp.out, this]
          have HPE := Lib.hid hpe
          have hce := hM2.all.cell (cells_end R (Es ls k) ⟨some ⟨d, 0, none⟩, n, n⟩ (k := k) (by omega))
          have hfe := hM2.all.free (16 + k)
          clear hpe
          go_wp2
          go_roundw
          case rel =>
            refine ⟨k + 1, p, by omega, by omega, by go_num, rfl, HPE.out, ?_, ?_⟩
            · have h1 := hM2.setEnd k (by omega) p
              rw [HPE.out, Es_step, ← HPE.out] at h1
              rw [← Fs_next, ← lst_len hk1, ← HLEN.out]
              exact h1
            · exact hT.trans (hT2.trans (Turn.but (But.put _ _) (by simp)))
          case measure => simp [intOf]; omega
    · obtain rfl : k = 16 := by omega
      go_wp2
      go_end0
      exact ⟨rfl, hM, hT⟩
end Go.Proofs.YtlaecigjnknhoaaDoor.huffp
