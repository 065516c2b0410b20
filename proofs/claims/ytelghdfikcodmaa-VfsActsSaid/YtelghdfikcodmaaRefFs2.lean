/-
  The contracts of the reference's New, Right, stamped. My own text.
-/
import Derived.Test.YtelghdfikcodmaaRefList
namespace Go.Proofs.Ytelghdfikcodmaa.vref
open Go.RowKit Go.Maps Go.Proofs.Ytelghdfikcodmaa.base Go.Proofs.Ytelghdfikcodmaa.vfsnum Go.Proofs.Ytelghdfikcodmaa.vfs
set_option linter.unusedVariables false

theorem RFile.stamp {w : World} {g : Nat} {n : ByteArray} {x : Fl} {bl : List Nat} (h : RFile w g n (rawR x) bl) (s : Nat) : RFile (w.setCell ⟨g, 4, none⟩ (.int .i64 s)) g n (rawR { x with stamp := s }) bl := by
  obtain ⟨A1, c1, A2, c2, A3, c3, rfl, hnd, hb, h1, h2, h3⟩ := h
  have hne : ∀ b ∈ rb A1 ++ (rb A2 ++ rb A3), b ≠ g := fun b hbm e => by subst e; exact (List.nodup_cons.1 hnd).1 hbm
  exact ⟨A1, c1, A2, c2, A3, c3, rfl, hnd, hb.put 4 (.int .i64 s), Own.old h1 fun b hb => Below.heap_setCell w ⟨g, 4, none⟩ _ b (hne b (by simp [hb])), Own.old h2 fun b hb => Below.heap_setCell w ⟨g, 4, none⟩ _ b (hne b (by simp [hb])), Own.old h3 fun b hb => Below.heap_setCell w ⟨g, 4, none⟩ _ b (hne b (by simp [hb]))⟩
theorem RFile.head {w : World} {g : Nat} {n : ByteArray} {r : RRaw} {bl : List Nat} (h : RFile w g n r bl) : g ∈ bl ∧ (∃ v, w.cell? ⟨g, 4, none⟩ = some v) ∧ w.frozen? ⟨g, 4, none⟩ = false := by
  obtain ⟨A1, c1, A2, c2, A3, c3, rfl, hnd, hb, h1, h2, h3⟩ := h
  exact ⟨by simp, ⟨_, hb.cell (i := 4) rfl⟩, hb.free 4⟩
theorem stamped_r (w : World) (f m : Nat) (a : Fs) (A : Option Addr) (c : Nat) (g1 g2 : List Gh) (x : Gh) (h : RefG w f m a A c (g1 ++ x :: g2)) (hs : a.stamp < 4611686018427387904) (a' : Fs)
    (ha : a' = { a with stamp := a.stamp + 1, files := (g1 ++ { x with fl := { x.fl with stamp := a.stamp + 1 } } :: g2).map Gh.fst }) :
    Calls Try.prog 86 #[.pointer (some ⟨f, 0, none⟩), .pointer (some ⟨x.g, 0, none⟩)] w fun e w' => e = .returned (.tuple #[]) ∧ RefG w' f m a' A c (g1 ++ { x with fl := { x.fl with stamp := a.stamp + 1 } } :: g2) ∧ Turn (rsBlocks f A (g1 ++ x :: g2)) (rsBlocks f A (g1 ++ x :: g2)) w w' := by
  have h2 : w.cell? ⟨f, 2, none⟩ = some (.int .i64 a.stamp) := h.2.2.1.cell rfl
  have hf := h.2.2.1.free 2
  have hr := h.2.2.2.2 x (by simp)
  obtain ⟨hgm, ⟨v, h1⟩, hxf⟩ := hr.head
  have hne : x.g ≠ f := fun e => by
    apply (List.nodup_cons.1 h.1).1
    simp only [List.mem_append, List.mem_flatMap]
    exact .inr ⟨x, by simp, e ▸ hgm⟩
  have hp := h.put 2 (.int .i64 ((a.stamp + 1 : Nat) : Int)) { a with stamp := a.stamp + 1 } rfl rfl
  have hr' := (hp.1.2.2.2.2 x (by simp)).stamp (a.stamp + 1)
  have hT : Turn x.bl x.bl (w.setCell ⟨f, 2, none⟩ (.int .i64 ((a.stamp + 1 : Nat) : Int))) ((w.setCell ⟨f, 2, none⟩ (.int .i64 ((a.stamp + 1 : Nat) : Int))).setCell ⟨x.g, 4, none⟩ (.int .i64 ((a.stamp + 1 : Nat) : Int))) :=
    Turn.but (But.put _ _) hgm
  have hfin := hp.1.upd { x with fl := { x.fl with stamp := a.stamp + 1 } } rfl hr' hT a' ha
  have HE := Lib.hid (show ((a.stamp : Int) + 1) = ((a.stamp + 1 : Nat) : Int) by omega)
  have HF := Lib.hid hfin
  have HT := Lib.hid (hp.2.trans hfin.2)
  clear hfin hT hr' hp ha hr
  go_enter Try.func86, Try.ntmps86
  go_wp2
  go_end0
  rw [HE.out]
  have eb : rsBlocks f A (g1 ++ { x with fl := { x.fl with stamp := a.stamp + 1 } } :: g2) = rsBlocks f A (g1 ++ x :: g2) := by simp [rsBlocks]
  exact ⟨rfl, HF.out.1, eb ▸ HT.out⟩

/-- what New leaves -/
def RNewAt (w : World) (a : Fs) (e : Ending) (w' : World) : Prop := ∃ f bl, e = .returned (.pointer (some ⟨f, 0, none⟩)) ∧ RefAt w' f a bl ∧ Fresh w w' ∧ ∀ b ∈ bl, w.heap.size ≤ b
theorem rnew_at (n v : Int) (w : World) (hv : v = max 1 (min n 65536)) : RNewAt w ⟨[], (max 1 (min n 65536)).toNat, 0, -1, false⟩ (.returned (.pointer (some ⟨w.heap.size, 0, none⟩)))
    (w.alloc (.cells #[.slice none 0 0, .int .i64 v, .int .i64 0, .int .i64 (-1), .bool false] tFS)) := by
  have e : (((max 1 (min n 65536)).toNat : Nat) : Int) = v := by omega
  refine ⟨w.heap.size, [w.heap.size], rfl, ⟨none, 0, [], rfl, by simp [rsBlocks, rb], rfl, ?_, Own.nil _ _ _, by simp⟩, Fresh.alloc w _, by simp⟩
  have hb := Bk.made w tFS #[Value.slice none 0 0, Value.int IntKind.i64 v, Value.int IntKind.i64 0, Value.int IntKind.i64 (-1), Value.bool false]
  have hm : most ⟨[], (max 1 (min n 65536)).toNat, 0, -1, false⟩ = (max 1 (min n 65536)).toNat := by simp [most]
  show Bk _ _ _ [_, .int .i64 ((most _ : Nat) : Int), _, _, _]
  rw [hm, e]
  simpa using hb
theorem new_r (n : Int) (w : World) (h1 : -9223372036854775808 ≤ n) (h2 : n ≤ 9223372036854775807) :
    Calls Try.prog 12 #[.int .i64 n] w (RNewAt w ⟨[], (max 1 (min n 65536)).toNat, 0, -1, false⟩) := by
  go_enter Try.func12, Try.ntmps12
  go_wp2
  all_goals
    go_ret
    exact rnew_at n _ w (by omega)

set_option maxHeartbeats 2000000 in
theorem right_r (s : ByteArray) (w : World) (hs : s.size ≤ maxLen) : Calls Try.prog 83 #[.string s] w fun e w' => e = .returned (.bool (rightB s)) ∧ w = w' := by
  unfold maxLen at hs
  by_cases h1 : s.size < 1
  · have e : rightB s = false := by unfold rightB; simp; omega
    rw [e]
    clear e
    go_enter Try.func83, Try.ntmps83
    go_wp2
    all_goals go_ret
    all_goals exact ⟨rfl, rfl⟩
  · by_cases h2 : 24 < s.size
    · have e : rightB s = false := by unfold rightB; simp; omega
      rw [e]
      clear e
      go_enter Try.func83, Try.ntmps83
      go_wp2
      all_goals go_ret
      all_goals exact ⟨rfl, rfl⟩
    · have e : rightB s = s.data.toList.all okByte := by unfold rightB; simp; omega
      have E := Lib.hid e
      clear e
      have d1 : decide ((s.size : Int) < 1) = false := by simp; omega
      have d2 : decide ((24 : Int) < (s.size : Int)) = false := by simp; omega
      go_enter Try.func83, Try.ntmps83
      go_wp2
      go_loop [3] (fun t => ∃ k : Nat, k ≤ s.size ∧ t = .int .i64 k ∧ Hid ((s.data.toList.take k).all okByte = true)) (fun t => s.size - (intOf t).toNat)
      case atStart => exact ⟨0, Nat.zero_le _, rfl, rfl⟩
      case round =>
        obtain ⟨k, hk, rfl, hall⟩ := hrel
        by_cases hlt : k < s.size
        · have ht : s.data.toList.take (k + 1) = s.data.toList.take k ++ [s[k]] := by
            rw [List.take_succ_eq_append_getElem (by simpa using hlt)]; rfl
          have hsplit : s.data.toList = s.data.toList.take k ++ (s[k] :: s.data.toList.drop (k + 1)) := by
            have := List.take_append_drop (k + 1) s.data.toList
            rw [ht, List.append_assoc] at this
            exact this.symm
          have hn : (s[k]).toNat < 256 := (s[k]).toNat_lt
          cases hb : okByte s[k] with
          | true =>
            have HT := Lib.hid (show (s.data.toList.take (k + 1)).all okByte = true by rw [ht, List.all_append, hall.out]; simp [hb])
            have hc : (97 ≤ (s[k]).toNat ∧ (s[k]).toNat ≤ 122) ∨ (48 ≤ (s[k]).toNat ∧ (s[k]).toNat ≤ 57) ∨ (s[k]).toNat = 46 ∨ (s[k]).toNat = 45 ∨ (s[k]).toNat = 47 := by simpa [okByte, okN] using hb
            clear ht hsplit hb
            rcases hc with hc | hc | hc | hc | hc
            all_goals
              go_wp2
              go_round
              case rel => exact ⟨k + 1, by omega, by go_num, HT.out⟩
              case measure => simp [intOf]; omega
          | false =>
            have HT := Lib.hid (show s.data.toList.all okByte = false by rw [hsplit, List.all_append]; simp [hb])
            have hc : ¬ ((97 ≤ (s[k]).toNat ∧ (s[k]).toNat ≤ 122) ∨ (48 ≤ (s[k]).toNat ∧ (s[k]).toNat ≤ 57) ∨ (s[k]).toNat = 46 ∨ (s[k]).toNat = 45 ∨ (s[k]).toNat = 47) := by
              intro h
              have : okByte s[k] = true := by simpa [okByte, okN] using h
              rw [hb] at this
              cases this
            have hc2 : (s[k]).toNat < 45 ∨ (57 < (s[k]).toNat ∧ (s[k]).toNat < 97) ∨ 122 < (s[k]).toNat := by omega
            have b45 : (((s[k]).toNat : Int) == 45) = false := by rw [beq_eq_false_iff_ne]; omega
            have b46 : (((s[k]).toNat : Int) == 46) = false := by rw [beq_eq_false_iff_ne]; omega
            have b47 : (((s[k]).toNat : Int) == 47) = false := by rw [beq_eq_false_iff_ne]; omega
            clear ht hsplit hb hc
            rcases hc2 with hc | hc | hc
            · go_wp2
              go_ret
              exact ⟨ret_bool (by rw [E.out]; exact HT.out.symm), rfl⟩
            · have b57 : decide (((s[k]).toNat : Int) ≤ 57) = false := by simp; omega
              go_wp2
              go_ret
              exact ⟨ret_bool (by rw [E.out]; exact HT.out.symm), rfl⟩
            · have b57 : decide (((s[k]).toNat : Int) ≤ 57) = false := by simp; omega
              have b122 : decide (((s[k]).toNat : Int) ≤ 122) = false := by simp; omega
              go_wp2
              go_ret
              exact ⟨ret_bool (by rw [E.out]; exact HT.out.symm), rfl⟩
        · have hk2 : k = s.size := by omega
          have HT := Lib.hid (show s.data.toList.all okByte = true by have := hall.out; rwa [List.take_of_length_le (by simp; omega)] at this)
          go_wp2
          go_ret
          exact ⟨ret_bool (by rw [E.out]; exact HT.out.symm), rfl⟩
end Go.Proofs.Ytelghdfikcodmaa.vref
