/-
  The contract of the reference's last: a sector lasts as it is. My own text.
-/
import Derived.Test.YtelghdfikcodmaaRefCell
namespace Go.Proofs.Ytelghdfikcodmaa.vref
open Go.RowKit Go.Maps Go.Proofs.Ytelghdfikcodmaa.base Go.Proofs.Ytelghdfikcodmaa.vfsnum Go.Proofs.Ytelghdfikcodmaa.vfs
set_option linter.unusedVariables false

/-- the old row, when j bytes of sector k have been taken -/
def lastRow (b old : Bs) (k j : Nat) : Bs := (List.range old.length).map fun p => if 64 * k ≤ p ∧ p < 64 * k + j then b.getD p 0 else old.getD p 0
theorem lastRow_len (b old : Bs) (k j : Nat) : (lastRow b old k j).length = old.length := by simp [lastRow]
theorem lastRow_zero (b old : Bs) (k : Nat) : lastRow b old k 0 = old := by
  refine ext_gd (lastRow_len _ _ _ _) fun p hp => ?_
  rw [lastRow_len] at hp
  rw [lastRow, gd_range, if_pos hp, if_neg (by omega)]
theorem gd_set (l : Bs) (i p : Nat) (u : UInt8) (hi : i < l.length) : (l.set i u).getD p 0 = if p = i then u else l.getD p 0 := by
  rw [List.getD_eq_getElem?_getD, List.getElem?_set]
  by_cases h : p = i
  · subst h; rw [if_pos rfl, if_pos rfl, if_pos hi]; rfl
  · rw [if_neg (fun e => h e.symm), if_neg h, List.getD_eq_getElem?_getD]
theorem lastRow_step (b old : Bs) (k j : Nat) (h : 64 * k + j < old.length) : (lastRow b old k j).set (64 * k + j) (b.getD (64 * k + j) 0) = lastRow b old k (j + 1) := by
  refine ext_gd (by rw [List.length_set, lastRow_len, lastRow_len]) fun p hp => ?_
  rw [List.length_set, lastRow_len] at hp
  rw [gd_set _ _ _ _ (by rw [lastRow_len]; exact h), lastRow, lastRow, gd_range, gd_range, if_pos hp, if_pos hp]
  by_cases h1 : p = 64 * k + j
  · rw [if_pos h1, if_pos (by omega), h1]
  · rw [if_neg h1]
    by_cases h2 : 64 * k ≤ p ∧ p < 64 * k + j
    · rw [if_pos h2, if_pos (by omega)]
    · rw [if_neg h2, if_neg (by omega)]

set_option maxRecDepth 100000 in
set_option maxHeartbeats 2000000 in
theorem last_r (w : World) (g : Nat) (n : ByteArray) (r : RRaw) (bl : List Nat) (k : Nat) (h : RFile w g n r bl) (hk : k < r.wt.length) (ho : 64 * k + 64 ≤ r.old.length) (hol : r.old.length ≤ 16777216) (hbl : r.b.length ≤ 16777216) (hwl : r.wt.length ≤ 16777216) :
    Calls Try.prog 90 #[.pointer (some ⟨g, 0, none⟩), .int .i64 k] w fun e w' => e = .returned (.tuple #[]) ∧ RFile w' g n { r with old := lastRow r.b r.old k 64, wt := r.wt.set k false } bl ∧ Turn bl bl w w' := by
  have hkb : k ≤ 16777216 := by omega
  have HK := Lib.hid hk
  have HO := Lib.hid ho
  have HOL := Lib.hid hol
  have HBL := Lib.hid hbl
  have HWL := Lib.hid hwl
  clear hk ho hol hbl hwl
  go_enter Try.func90, Try.ntmps90
  go_wp2
  go_loopw [4] (fun t wr => ∃ j : Nat, j ≤ 64 ∧ t = .int .i64 (64 * k + j : Nat) ∧ RFile wr g n { r with old := lastRow r.b r.old k j } bl ∧ Turn bl bl w wr) (fun t _ => 64 * k + 64 - (intOf t).toNat)
  case atStart => exact ⟨0, Nat.zero_le _, congrArg (Value.int .i64) (by omega), by rw [lastRow_zero]; exact h, Turn.refl _ _⟩
  case round =>
    obtain ⟨j, hj, rfl, hf, hT⟩ := hrel
    by_cases hlt : j < 64
    · obtain ⟨q, c2, hc2, hqb, hcq, hfz, hst⟩ := hf.old_at (i := 64 * k + j) (by show _ < (lastRow _ _ _ _).length; rw [lastRow_len]; have := HO.out; omega)
      have hl : (lastRow r.b r.old k j).length = r.old.length := lastRow_len _ _ _ _
      obtain ⟨L, hL⟩ : ∃ L, r.old.length = L := ⟨_, rfl⟩
      have hc2' : wr.cell? ⟨g, 2, none⟩ = some (.slice (some ⟨q, 0, none⟩) L c2) := by rw [← hL, ← hl]; exact hc2
      have hLk : 64 * k + j < L := by have := HO.out; omega
      have hLb : L ≤ 16777216 := by rw [← hL]; exact HOL.out
      have hn := hst (r.b.getD (64 * k + j) 0)
      have hn2 : RFile (wr.setCell ⟨q, 64 * k + j, none⟩ (bv (r.b.getD (64 * k + j) 0))) g n { r with old := lastRow r.b r.old k (j + 1) } bl := by
        rw [← lastRow_step r.b r.old k j (by have := HO.out; omega)]; exact hn
      have HN2 := Lib.hid hn2
      have HF := Lib.hid hf
      have hby := byteAt_r wr.drew g n _ bl (64 * k + j) (hf.keep fun b hb => rfl) (by show r.b.length ≤ _; have := HBL.out; omega) (by omega)
      clear hn hn2 hc2 hl hL hst hf
      have hplt : 64 * k + j < 64 * k + 64 := by omega
      obtain ⟨p, hp⟩ : ∃ p, 64 * k + j = p := ⟨_, rfl⟩
      rw [hp] at hplt hLk hcq hfz hby HN2 ⊢
      have HP := Lib.hid hp
      clear hp
      obtain ⟨u, hu⟩ : ∃ u, r.b.getD p 0 = u := ⟨_, rfl⟩
      have hby' : Calls Try.prog 96 #[.pointer (some ⟨g, 0, none⟩), .int .i64 p] wr.drew fun e w' => e = .returned (bv u) ∧ w' = wr.drew := by rw [← hu]; exact hby
      rw [hu] at HN2
      clear hby hu
      go_wp2
      go_region_with (go_at_call 96; (refine hby'.mono ?_); rintro e w' ⟨rfl, rfl⟩)
      all_goals
        go_wp2
        go_roundw
        case rel =>
          refine ⟨j + 1, by omega, ?_, HN2.out.keep fun b hb => rfl, (hT.trans (Turn.but (But.put wr _) hqb)).trans (Turn.fresh (Fresh.drew _))⟩
          have := HP.out
          exact congrArg (Value.int .i64) (by omega)
        case measure => have := HP.out; simp [intOf]; omega
    · have hj64 : j = 64 := by omega
      subst hj64
      obtain ⟨q, c3, hc3, hqb, hcq, hfz, hst⟩ := hf.wt_at (i := k) HK.out
      have hn := hst false
      have HN := Lib.hid hn
      have hkw := HK.out
      clear hn hst hf
      obtain ⟨L, hL⟩ : ∃ L, r.wt.length = L := ⟨_, rfl⟩
      have hc3' : wr.cell? ⟨g, 3, none⟩ = some (.slice (some ⟨q, 0, none⟩) L c3) := by rw [← hL]; exact hc3
      rw [hL] at hkw
      clear hc3 hL
      go_wp2
      go_end0
      exact ⟨rfl, HN.out, hT.trans (Turn.but (But.put wr _) hqb)⟩
end Go.Proofs.Ytelghdfikcodmaa.vref
