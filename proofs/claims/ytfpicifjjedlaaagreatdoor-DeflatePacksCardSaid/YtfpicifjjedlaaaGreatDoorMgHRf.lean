import Derived.Test.YtfpicifjjedlaaaGreatDoorMgTrn
import Derived.Deep.RegionWith
import Derived.Test.YtfpicifjjedlaaaGreatDoorMgWtr
/- Several of my own texts, one behind the other. -/
/-
  The contracts of the reference's bitsOf, pow, New. My own text.
-/
namespace Go.Proofs.YtfpicifjjedlaaaGreatDoor.huffp
open Go.RowKit Go.Proofs.YtfpicifjjedlaaaGreatDoor.base Go.Proofs.YtfpicifjjedlaaaGreatDoor.num Go.Proofs.YtfpicifjjedlaaaGreatDoor.bitnum Go.Proofs.YtfpicifjjedlaaaGreatDoor.bitp Go.Proofs.YtfpicifjjedlaaaGreatDoor.huffnum
set_option linter.unusedVariables false

theorem bitsOf_is (n v x : Nat) (w : World) (hn : n ≤ 15) (hv : v ≤ 65536) (hx : rev n v = rev n x) :
    Calls Tryz.prog 75 #[.int .i64 n, .int .i64 v] w fun e w' => ∃ b, e = .returned (.slice (some ⟨b, 0, none⟩) n n) ∧ w.heap.size ≤ b ∧ Bk w' b tInt (nv (lb n (rev n x))) ∧ Fresh w w' := by
  obtain ⟨i0, hi0, hz0, hz1, hz2⟩ := info_parts info_int
  rw [← hx]
  clear hx
  go_enter Tryz.func75, Tryz.ntmps75
  go_wp2_with (with_reducible (refine at_slot_ 8 ?_); refine wpList_make_blk rfl 44 (.tmp 7) (.tmp 7) rfl 3 i0 _ Tryz.underlying44 hi0 hz0 hz1 rfl n rfl rfl (by rw [hz2]; omega) (by unfold maxLen; omega) w.heap.size rfl ?_; intro w1 hb1 hf1)
  go_loopw [1, 6] (fun a i wr => ∃ (k q : Nat), k ≤ n ∧ i = .int .i64 ((k : Int) - 1) ∧ a = .int .i64 q ∧ Hid (q = v / 2 ^ (n - k)) ∧ q ≤ 65536 ∧ Bk wr w.heap.size tInt (List.replicate k (iv 0) ++ nv (lb (n - k) v).reverse) ∧ Fresh w wr) (fun _ i _ => (intOf i + 1).toNat)
  case atStart => exact ⟨n, v, Nat.le_refl _, rfl, rfl, by simp [Hid], hv, by rw [Nat.sub_self, lb_zero]; simpa using hb1, hf1⟩
  case round =>
    obtain ⟨k, q, hk, rfl, rfl, hq, hql, hb, hfr⟩ := hrel
    by_cases h0 : k = 0
    · subst h0
      go_wp2
      go_ret
      refine ⟨w.heap.size, rfl, Nat.le_refl _, ?_, hfr⟩
      rw [List.replicate_zero, List.nil_append, Nat.sub_zero, lb_reverse] at hb
      exact hb
    · obtain ⟨j, rfl⟩ : ∃ j, k = j + 1 := ⟨k - 1, by omega⟩
      have e1 : ((j + 1 : Nat) : Int) - 1 = (j : Int) := by omega
      rw [e1]
      have hc : wr.cell? ⟨w.heap.size, j, none⟩ = some (iv 0) := hb.cell (by rw [List.getElem?_append_left (by simp), List.getElem?_replicate, if_pos (by omega)])
      have hf := hb.free j
      have hset : (List.replicate (j + 1) (iv 0) ++ nv (lb (n - (j + 1)) v).reverse).set j (iv ((q % 2 : Nat) : Int)) = List.replicate j (iv 0) ++ nv (lb (n - j) v).reverse := by
        rw [List.set_append_left _ _ (by simp), List.replicate_succ', List.set_append_right _ _ (by simp), List.length_replicate, Nat.sub_self, List.set_cons_zero, List.append_assoc]
        rw [show n - j = (n - (j + 1)) + 1 by omega, lb_snoc, List.reverse_append, List.reverse_singleton, ← hq.out]
        rfl
      have hb2 := hb.put j (iv ((q % 2 : Nat) : Int))
      rw [hset] at hb2
      have hq2 : Hid (q / 2 = v / 2 ^ (n - j)) := by
        show _ = _
        rw [hq.out, Nat.div_div_eq_div_mul, ← Nat.pow_succ, show (n - (j + 1)).succ = n - j by omega]
      have hqi : (q : Int) % 2 = ((q % 2 : Nat) : Int) := by omega
      rw [← hqi] at hb2
      have HB2 := Lib.hid hb2
      have hfr2 := hfr.but (g := w.heap.size) (Nat.le_refl _) (But.put (g := w.heap.size) (i := j) wr (iv ((q : Int) % 2)))
      clear hset e1 hqi hb2 hb
      go_wp2
      go_roundw
      case rel => exact ⟨j, q / 2, by omega, by go_num, by go_num, hq2, by omega, HB2.out, hfr2⟩
      case measure => simp [intOf]

theorem pow_is (n P : Nat) (w : World) (hn : n ≤ 15) (hP : 2 ^ n = P) : Calls Tryz.prog 76 #[.int .i64 n] w fun e w' => e = .returned (.int .i64 P) ∧ w = w' := by
  go_enter Tryz.func76, Tryz.ntmps76
  go_wp2
  go_loopw [3, 4] (fun a i wr => ∃ (k q : Nat), k ≤ n ∧ i = .int .i64 k ∧ a = .int .i64 q ∧ Hid (q = 2 ^ k) ∧ q ≤ 32768 ∧ wr = w) (fun _ i _ => n - (intOf i).toNat)
  case atStart => exact ⟨0, 1, by omega, rfl, rfl, rfl, by omega, rfl⟩
  case round =>
    obtain ⟨k, q, hk, rfl, rfl, hq, hql, rfl⟩ := hrel
    by_cases hlt : k < n
    · have h2 : Hid (2 * q = 2 ^ (k + 1)) := by show _ = _; rw [hq.out, Nat.pow_succ, Nat.mul_comm]
      have h3 : 2 * q ≤ 32768 := by
        rw [h2.out]
        have := Nat.pow_le_pow_right (n := 2) (by omega) (show k + 1 ≤ 15 by omega)
        simpa using this
      go_wp2
      go_roundw
      case rel => exact ⟨k + 1, 2 * q, by omega, by go_num, by go_num, h2, h3, trivial⟩
      case measure => simp [intOf]; omega
    · obtain rfl : k = n := by omega
      obtain rfl : q = P := by rw [hq.out, hP]
      go_wp2
      go_ret
      exact ⟨rfl, rfl⟩

abbrev tRow : TypeId := 44
abbrev tRef : TypeId := 91
/-- the code c of m bits, as it lies, the highest bit first -/
def CodeRow (w : World) (r : Sl) (m c : Nat) : Prop := r.len = m ∧ ∃ b, r.at_ = some ⟨b, 0, none⟩ ∧ Bk w b tInt (nv (lb m (rev m c)))
theorem CodeRow.fresh {w w' : World} {r : Sl} {m c : Nat} (h : CodeRow w r m c) (k : Fresh w w') : CodeRow w' r m c := by
  obtain ⟨hl, b, ha, hb⟩ := h
  exact ⟨hl, b, ha, hb.fresh k⟩
/-- a store into a block of another type -/
theorem CodeRow.put {w : World} {r : Sl} {m c g t i : Nat} {cs : List Value} (h : CodeRow w r m c) (hg : Bk w g t cs) (ht : t ≠ tInt) (u : Value) : CodeRow (w.setCell ⟨g, i, none⟩ u) r m c := by
  obtain ⟨hl, b, ha, hb⟩ := h
  refine ⟨hl, b, ha, hb.apart (fun e => ?_) u⟩
  have e' : b = g := e
  subst e'
  have h1 : w.heap[b]? = _ := hb
  have h2 : w.heap[b]? = _ := hg
  rw [h1] at h2
  injection h2 with h2
  injection h2 with _ h2
  exact ht h2.symm
/-- the lists of bits when all symbols with fewer than k bits, and those ahead of s with k, have their codes -/
structure Bits (w : World) (L : Nat) (ls : List Nat) (R : Nat → Sl) (k s : Nat) : Prop where
  rows : Bk w L tRow ((List.range ls.length).map fun i => (R i).val)
  done : ∀ i m, ls[i]? = some m → 1 ≤ m → (m < k ∨ (m = k ∧ i < s)) → CodeRow w (R i) m (cd ls i m)
  rest : ∀ i m, ls[i]? = some m → ¬ (1 ≤ m ∧ (m < k ∨ (m = k ∧ i < s))) → R i = Sl.nil
section
variable {w w' : World} {L : Nat} {ls : List Nat} {R : Nat → Sl} {k s : Nat}
theorem Bits.fresh (h : Bits w L ls R k s) (f : Fresh w w') : Bits w' L ls R k s :=
  { h with rows := h.rows.fresh f, done := fun i m a b c => (h.done i m a b c).fresh f }
theorem Bits.put (h : Bits w L ls R k s) {g t i : Nat} {cs : List Value} (hg : Bk w g t cs) (ht : t ≠ tInt) (hne : L ≠ g) (u : Value) : Bits (w.setCell ⟨g, i, none⟩ u) L ls R k s :=
  { h with rows := h.rows.apart hne u, done := fun i m a b c => (h.done i m a b c).put hg ht u }
/-- a symbol of another length is passed by -/
theorem Bits.pass (h : Bits w L ls R k s) {m : Nat} (hs : ls[s]? = some m) (hm : m ≠ k) : Bits w L ls R k (s + 1) :=
  { h with
    done := fun i m' a b c => h.done i m' a b (by
      rcases c with c | ⟨c1, c2⟩
      · exact .inl c
      · refine .inr ⟨c1, ?_⟩
        rcases Nat.lt_or_ge i s with h1 | h1
        · exact h1
        · have : i = s := by omega
          subst this
          rw [hs] at a; injection a with a; omega)
    rest := fun i m' a c => h.rest i m' a (fun ⟨c1, c2⟩ => c ⟨c1, by omega⟩) }
theorem Bits.next (h : Bits w L ls R k ls.length) : Bits w L ls R (k + 1) 0 :=
  { h with
    done := fun i m a b c => h.done i m a b (by have := lt_of_get a; omega)
    rest := fun i m a c => h.rest i m a (fun ⟨c1, c2⟩ => c ⟨c1, by omega⟩) }
theorem Bits.set (h : Bits w L ls R k s) {b : Nat} (hk : 1 ≤ k) (hs : ls[s]? = some k) (hc : CodeRow w ⟨some ⟨b, 0, none⟩, k, k⟩ k (cd ls s k)) :
    Bits (w.setCell ⟨L, s, none⟩ (.slice (some ⟨b, 0, none⟩) k k)) L ls (upd R s ⟨some ⟨b, 0, none⟩, k, k⟩) k (s + 1) := by
  have hlt := lt_of_get hs
  refine ⟨?_, fun i m a b1 c => ?_, fun i m a c => ?_⟩
  · have h1 := h.rows.put s (.slice (some ⟨b, 0, none⟩) k k)
    have e : (((List.range ls.length).map fun i => (R i).val).set s (.slice (some ⟨b, 0, none⟩) k k)) = (List.range ls.length).map fun i => (upd R s ⟨some ⟨b, 0, none⟩, k, k⟩ i).val := by
      apply List.ext_getElem?
      intro i
      rw [List.getElem?_set]
      by_cases hi : i < ls.length
      · by_cases e : s = i
        · subst e
          simp [hi, upd, Sl.val]
        · have e' : ¬ i = s := fun h => e h.symm
          simp [hi, e, e', upd]
      · by_cases e : s = i
        · omega
        · simp [hi, e]
    rw [e] at h1
    exact h1
  · by_cases e : i = s
    · subst e
      rw [upd_same]
      rw [hs] at a; injection a with a; subst a
      exact hc.put h.rows (by decide) _
    · rw [upd_ne R _ e]
      exact (h.done i m a b1 (by omega)).put h.rows (by decide) _
  · have e : i ≠ s := by
      intro e; subst e
      rw [hs] at a; injection a with a; subst a
      exact c ⟨hk, .inr ⟨rfl, by omega⟩⟩
    rw [upd_ne R _ e]
    exact h.rest i m a (fun ⟨c1, c2⟩ => c ⟨c1, by omega⟩)
end

/-- the reference's Codes, as they are handed out -/
structure RefAt (w : World) (A : Option Addr) (ls : List Nat) (L : Nat) (R : Nat → Sl) : Prop where
  at_ : A = some ⟨L, 0, none⟩
  all : Bits w L ls R 16 0
/-- what the reference's New tells -/
def RefIs (w : World) (ls : List Nat) (e : Ending) (w' : World) : Prop :=
  Fresh w w' ∧ ((32768 < tx ls 15 ∧ ∃ A, e = .returned (.agg #[.slice A ls.length ls.length, .int .i64 2])) ∨
    (tx ls 15 ≤ 32768 ∧ ∃ A L R F, e = .returned (.agg #[.slice A ls.length ls.length, .int .i64 (F : Nat)]) ∧ (F = if tx ls 15 < 32768 then 1 else 0) ∧ RefAt w' A ls L R))

theorem info_row : (Tryz.prog.info? 44).map (fun i => (i.zero, i.size, i.bytes)) = some (some (.slice none 0 0), 1, 24) := by kernel_rfl
set_option maxHeartbeats 2000000 in
set_option maxRecDepth 100000 in
theorem refNew_any (A : Option Addr) (n c : Nat) (zs : List Int) (ls : List Nat) (w : World) (B : Nat) (hr : Rd w B A n (zs.map iv)) (hB : B ≤ w.heap.size) (hn : n ≤ 320) (hm : May zs) (hls : zs.map Int.toNat = ls) :
    Calls Tryz.prog 42 #[.slice A n c] w (RefIs w ls) := by
  obtain ⟨i0, hi0, hz0, hz1, hz2⟩ := info_parts info_row
  have hlz : zs.length = n := by have := hr.1; rwa [List.length_map] at this
  have hln : ls.length = n := by rw [← hls, List.length_map, hlz]
  have HLN := Lib.hid hln
  have HLS := Lib.hid hls
  have HM := Lib.hid hm
  clear hlz hln hls hm
  go_enter Tryz.func42, Tryz.ntmps42
  go_wp2_with (with_reducible (refine at_slot_ 9 ?_); refine wpList_make_blk rfl 89 (.tmp 8) (.tmp 8) rfl 44 i0 _ Tryz.underlying89 hi0 hz0 hz1 rfl n rfl rfl (by rw [hz2]; omega) (by unfold maxLen; omega) (w.heap.size + 1) (by simp) ?_; intro w1 hb1 hf1)
  have hV1 : Bk w1 w.heap.size tRef [.slice none 0 0, .int .i64 0] := (Bk.made w tRef #[.slice none 0 0, .int .i64 0]).fresh hf1
  have hB1 : Bits w1 (w.heap.size + 1) ls (fun _ => Sl.nil) 1 0 := by
    refine ⟨?_, fun i m a b c => by omega, fun i m a b => rfl⟩
    have e : ((List.range ls.length).map fun i => (Sl.nil).val) = List.replicate n (.slice none 0 0) := by
      rw [HLN.out]; exact List.map_const' .. |>.trans (by rw [List.length_range]; rfl)
    rw [e]; exact hb1
  have hG : w.heap.size + 1 < w1.heap.size := hb1.inside
  obtain ⟨G, hGe⟩ : ∃ G, w1.heap.size = G := ⟨_, rfl⟩
  have hG1 := Bk.made w1 tRef #[.slice (some ⟨w.heap.size + 1, 0, none⟩) n n, .int .i64 1]
  rw [hGe] at hG1 hG ⊢
  have hf0 : Fresh w (w1.alloc (.cells #[.slice (some ⟨w.heap.size + 1, 0, none⟩) n n, .int .i64 1] tRef)) := ((Fresh.alloc w _).trans hf1).trans (Fresh.alloc _ _)
  have hBi := hB1.fresh (Fresh.alloc w1 (.cells #[.slice (some ⟨w.heap.size + 1, 0, none⟩) n n, .int .i64 1] tRef))
  have hVi := hV1.alloc (.cells #[.slice (some ⟨w.heap.size + 1, 0, none⟩) n n, .int .i64 1] tRef)
  clear hB1 hV1 hf1 hb1 hGe
  go_loopw [4, 5] (fun a i wr => ∃ (k q : Nat) (R : Nat → Sl), 1 ≤ k ∧ k ≤ 16 ∧ i = .int .i64 k ∧ a = .int .i64 q ∧ Hid (q = nx ls (k - 1)) ∧ Hid (q ≤ 2 ^ (k - 1)) ∧ Bits wr (w.heap.size + 1) ls R k 0 ∧ Bk wr w.heap.size tRef [.slice none 0 0, .int .i64 0] ∧ Bk wr G tRef [.slice (some ⟨w.heap.size + 1, 0, none⟩) n n, .int .i64 1] ∧ Fresh w wr) (fun _ i _ => 16 - (intOf i).toNat)
  case atStart => exact ⟨1, 0, _, by omega, by omega, rfl, rfl, rfl, by simp [Hid], hBi, hVi, hG1, hf0⟩
  case round =>
    obtain ⟨k, q, R, hk1, hk, rfl, rfl, hq, hql, hBt, hV, hGb, hfr⟩ := hrel
    by_cases hlt : k ≤ 15
    · have hq14 : q ≤ 16384 := by
        have h1 := hql.out
        have h2 := Nat.pow_le_pow_right (n := 2) (by omega) (show k - 1 ≤ 14 by omega)
        simp only [Nat.reducePow] at h2
        omega
      go_wp2
      go_loopw [4, 6] (fun a i wr => ∃ (s p : Nat) (R : Nat → Sl), s ≤ n ∧ i = .int .i64 s ∧ a = .int .i64 p ∧ Hid (p = 2 * q + (ls.take s).count k) ∧ p ≤ 33088 ∧ Bits wr (w.heap.size + 1) ls R k s ∧ Bk wr w.heap.size tRef [.slice none 0 0, .int .i64 0] ∧ Bk wr G tRef [.slice (some ⟨w.heap.size + 1, 0, none⟩) n n, .int .i64 1] ∧ Fresh w wr) (fun _ i _ => n - (intOf i).toNat)
      case atStart => exact ⟨0, 2 * q, R, by omega, by go_num, by go_num, by simp [Hid], by omega, hBt, hV, hGb, hfr⟩
      case round =>
        obtain ⟨s, p, R2, hs, rfl, rfl, hp, hpl, hB2, hV2, hGb2, hfr2⟩ := hrel
        by_cases hlt2 : s < n
        · obtain ⟨b, off, z, rfl, hb, hx, hcx⟩ := (hr.below hfr2 hB).at_ hlt2
          have hzb := HM.out z (List.mem_of_getElem? hx)
          obtain ⟨m, rfl⟩ := Int.eq_ofNat_of_zero_le hzb.1
          have hm15 : m ≤ 15 := by omega
          have hlm : ls[s]? = some m := by rw [← HLS.out, List.getElem?_map, hx]; rfl
          have hcm := count_more hlm k
          have HX := Lib.hid hlm
          clear hx hzb
          by_cases hmk : m = k
          · subst hmk
            rw [if_pos rfl] at hcm
            have hpc : p = cd ls s m := by rw [hp.out, hq.out]; rfl
            have hrv : rev m (p % 32768) = rev m (cd ls s m) := by
              rw [← hpc]
              exact rev_mod p (m := 15) hm15
            have hpb : p + 1 ≤ 33088 := by
              have h1 := List.count_le_length (a := m) (l := ls.take (s + 1))
              rw [List.length_take, HLN.out] at h1
              have := hp.out
              omega
            have hcL := hB2.rows.cell (i := s) (v := (R2 s).val) (by rw [List.getElem?_map, List.getElem?_range (by rw [HLN.out]; exact hlt2)]; rfl)
            have hfL := hB2.rows.free s
            have hcG : wr.cell? ⟨G, 0, none⟩ = some (.slice (some ⟨w.heap.size + 1, 0, none⟩) n n) := hGb2.cell rfl
            obtain ⟨pm, hpm⟩ : ∃ pm, p % 32768 = pm := ⟨_, rfl⟩
            have hpmi : (p : Int) % 32768 = (pm : Int) := by omega
            have hpmt : (p : Int).tmod 32768 = (pm : Int) := by rw [Int.tmod_eq_emod_of_nonneg (by omega)]; exact hpmi
            rw [hpm] at hrv
            have hpm2 : pm ≤ 65536 := by omega
            have hs0 : (0 : Int) ≤ (s : Int) := by omega
            have hs1 : (s : Int) < (n : Int) := by omega
            have HCM := Lib.hid hcm
            have HRV := Lib.hid hrv
            clear hcm hpc hrv hpm hlm
            go_wp2
            go_region_with (go_at_call 75; (with_reducible refine (bitsOf_is m pm (cd ls s m) _ hm15 hpm2 HRV.out).mono ?_); rintro e w2 ⟨bb, rfl, hbb, hbk2, hf2⟩; have hB3 := (hB2.fresh (Fresh.drew _)).fresh hf2; have hG3 := (hGb2.fresh (Fresh.drew _)).fresh hf2; have hcL2 := hB3.rows.cell (i := s) (v := (R2 s).val) (by rw [List.getElem?_map, List.getElem?_range (by rw [HLN.out]; exact hlt2)]; rfl); have hfL2 := hB3.rows.free s; have hcG2 : w2.cell? ⟨G, 0, none⟩ = some (.slice (some ⟨w.heap.size + 1, 0, none⟩) n n) := hG3.cell rfl)
            all_goals
              have hcr : CodeRow w2 ⟨some ⟨bb, 0, none⟩, m, m⟩ m (cd ls s m) := ⟨rfl, bb, rfl, hbk2⟩
              have hB4 := hB3.set hk1 HX.out hcr
              have hV4 := ((hV2.fresh (Fresh.drew _)).fresh hf2).apart (p := ⟨w.heap.size + 1, s, none⟩) (by simp) (.slice (some ⟨bb, 0, none⟩) m m)
              have hG4 := hG3.apart (p := ⟨w.heap.size + 1, s, none⟩) (by simp; omega) (.slice (some ⟨bb, 0, none⟩) m m)
              have hfr4 := ((hfr2.trans (Fresh.drew _)).trans hf2).but (g := w.heap.size + 1) (by omega) (But.put (g := w.heap.size + 1) (i := s) w2 (.slice (some ⟨bb, 0, none⟩) m m))
              clear hcr hB3 hbk2 hcL2 hfL2 hcG2 hG3 hcL hfL hcG
              go_wp2
              go_roundw
              case rel => exact ⟨s + 1, p + 1, _, by omega, by go_num, by go_num, by show _ = _; rw [HCM.out, hp.out]; omega, hpb, hB4, hV4, hG4, hfr4⟩
              case measure => simp [intOf]; omega
          · rw [if_neg hmk, Nat.add_zero] at hcm
            have HCM := Lib.hid hcm
            have hmki : ¬ (m : Int) = (k : Int) := by omega
            clear hcm hlm
            go_wp2
            go_roundw
            case rel => exact ⟨s + 1, p, R2, by omega, by go_num, rfl, by show _ = _; rw [HCM.out]; exact hp.out, hpl, hB2.pass HX.out hmk, hV2, hGb2, hfr2⟩
            case measure => simp [intOf]; omega
        · obtain rfl : s = n := by omega
          have hpx : p = nx ls k := by
            have h := hp.out
            rw [List.take_of_length_le (by rw [HLN.out]; omega), hq.out] at h
            obtain ⟨j, rfl⟩ : ∃ j, k = j + 1 := ⟨k - 1, by omega⟩
            rw [Nat.add_sub_cancel] at h
            rw [h, nx]
          have HPX := Lib.hid hpx
          clear hpx
          have hB4 := Bits.next (by rw [HLN.out]; exact hB2)
          obtain ⟨P, hP⟩ : ∃ P, 2 ^ k = P := ⟨_, rfl⟩
          have HP := Lib.hid hP
          clear hP
          by_cases hov : P < p
          · have hc0 : wr.cell? ⟨G, 0, none⟩ = some (.slice (some ⟨w.heap.size + 1, 0, none⟩) s s) := hGb2.cell rfl
            have hc1 : wr.cell? ⟨G, 1, none⟩ = some (.int .i64 1) := hGb2.cell rfl
            have hfc := hGb2.free 1
            have hv0 : wr.cell? ⟨w.heap.size, 0, none⟩ = some (.slice none 0 0) := hV2.cell rfl
            have hv1 : wr.cell? ⟨w.heap.size, 1, none⟩ = some (.int .i64 0) := hV2.cell rfl
            have hw0 := hV2.free 0
            have hw1 := hV2.free 1
            have hne1 : ¬ w.heap.size = G := by omega
            have hne2 : ¬ G = w.heap.size := by omega
            go_wp2_with (go_at_call 76; (refine (pow_is k P wr hlt HP.out).mono ?_); rintro e w2 ⟨rfl, rfl⟩)
            have hVa := hV2.apart (p := ⟨G, 1, none⟩) (by simpa using hne1) (.int .i64 2)
            have hVb := (hVa.put 0 (.slice (some ⟨w.heap.size + 1, 0, none⟩) s s)).put 1 (.int .i64 2)
            have hfe := ((hfr2.but (g := G) (by omega) (But.put (g := G) (i := 1) wr (.int .i64 2))).but (g := w.heap.size) (Nat.le_refl _) (But.put (g := w.heap.size) (i := 0) _ (.slice (some ⟨w.heap.size + 1, 0, none⟩) s s))).but (g := w.heap.size) (Nat.le_refl _) (But.put (g := w.heap.size) (i := 1) _ (.int .i64 2))
            refine bodyPost_ret (results_cell_row (p := 2) (by kernel_rfl) _ _ w.heap.size tRef #[.slice (some ⟨w.heap.size + 1, 0, none⟩) s s, .int .i64 2] (0, 0) _ rfl hVb Tryz.underlying91 rfl (by kernel_rfl)) rfl ⟨hfe, .inl ⟨nx_over hlt (by rw [HP.out, ← HPX.out]; exact hov), _, by rw [HLN.out]⟩⟩
          · go_wp2_with (go_at_call 76; (refine (pow_is k P wr hlt HP.out).mono ?_); rintro e w2 ⟨rfl, rfl⟩)
            go_roundw
            case rel => exact ⟨k + 1, p, R2, by omega, by omega, by go_num, rfl, HPX.out, by show _ ≤ _; rw [Nat.add_sub_cancel, HP.out]; omega, hB4, hV2, hGb2, hfr2⟩
            case measure => simp [intOf]; omega
    · obtain rfl : k = 16 := by omega
      have hfit : tx ls 15 ≤ 32768 := by
        rw [tx_15]
        have h1 := hql.out
        rw [hq.out] at h1
        exact h1
      have hqT : q = tx ls 15 := by rw [tx_15]; exact hq.out
      have HFIT := Lib.hid hfit
      have HQT := Lib.hid hqT
      have hql2 : q ≤ 32768 := by rw [hqT]; exact hfit
      clear hfit hqT
      have hc0 : wr.cell? ⟨G, 0, none⟩ = some (.slice (some ⟨w.heap.size + 1, 0, none⟩) n n) := hGb.cell rfl
      have hc1 : wr.cell? ⟨G, 1, none⟩ = some (.int .i64 1) := hGb.cell rfl
      have hfc := hGb.free 1
      have hv0 : wr.cell? ⟨w.heap.size, 0, none⟩ = some (.slice none 0 0) := hV.cell rfl
      have hv1 : wr.cell? ⟨w.heap.size, 1, none⟩ = some (.int .i64 0) := hV.cell rfl
      have hw0 := hV.free 0
      have hw1 := hV.free 1
      have hne1 : ¬ w.heap.size = G := by omega
      have hne2 : ¬ G = w.heap.size := by omega
      by_cases hwh : q = 32768
      · have hwi : (q : Int) = 32768 := by omega
        have hF : 0 = if tx ls 15 < 32768 then 1 else 0 := by rw [← HQT.out, hwh]; rfl
        have HF := Lib.hid hF
        clear hwh hF hql2
        go_wp2
        have hVa := hV.apart (p := ⟨G, 1, none⟩) (by simpa using hne1) (.int .i64 0)
        have hVb := (hVa.put 0 (.slice (some ⟨w.heap.size + 1, 0, none⟩) n n)).put 1 (.int .i64 0)
        have hfe := ((hfr.but (g := G) (by omega) (But.put (g := G) (i := 1) wr (.int .i64 0))).but (g := w.heap.size) (Nat.le_refl _) (But.put (g := w.heap.size) (i := 0) _ (.slice (some ⟨w.heap.size + 1, 0, none⟩) n n))).but (g := w.heap.size) (Nat.le_refl _) (But.put (g := w.heap.size) (i := 1) _ (.int .i64 0))
        have hBe := ((hBt.put (i := 1) hGb (by decide) (by omega) (.int .i64 0)).put (i := 0) hVa (by decide) (by omega) (.slice (some ⟨w.heap.size + 1, 0, none⟩) n n)).put (i := 1) (hVa.put 0 (.slice (some ⟨w.heap.size + 1, 0, none⟩) n n)) (by decide) (by omega) (.int .i64 0)
        refine bodyPost_ret (results_cell_row (p := 2) (by kernel_rfl) _ _ w.heap.size tRef #[.slice (some ⟨w.heap.size + 1, 0, none⟩) n n, .int .i64 0] (0, 0) _ rfl hVb Tryz.underlying91 rfl (by kernel_rfl)) rfl ⟨hfe, .inr ⟨HFIT.out, _, _, R, 0, by rw [HLN.out]; rfl, HF.out, rfl, hBe⟩⟩
      · have hwi : ¬ (q : Int) = 32768 := by omega
        have hF : 1 = if tx ls 15 < 32768 then 1 else 0 := by rw [← HQT.out, if_pos (by omega)]
        have HF := Lib.hid hF
        clear hwh hF hql2
        go_wp2
        have hVb := (hV.put 0 (.slice (some ⟨w.heap.size + 1, 0, none⟩) n n)).put 1 (.int .i64 1)
        have hfe := (hfr.but (g := w.heap.size) (Nat.le_refl _) (But.put (g := w.heap.size) (i := 0) _ (.slice (some ⟨w.heap.size + 1, 0, none⟩) n n))).but (g := w.heap.size) (Nat.le_refl _) (But.put (g := w.heap.size) (i := 1) _ (.int .i64 1))
        have hBe := (hBt.put (i := 0) hV (by decide) (by omega) (.slice (some ⟨w.heap.size + 1, 0, none⟩) n n)).put (i := 1) (hV.put 0 (.slice (some ⟨w.heap.size + 1, 0, none⟩) n n)) (by decide) (by omega) (.int .i64 1)
        refine bodyPost_ret (results_cell_row (p := 2) (by kernel_rfl) _ _ w.heap.size tRef #[.slice (some ⟨w.heap.size + 1, 0, none⟩) n n, .int .i64 1] (0, 0) _ rfl hVb Tryz.underlying91 rfl (by kernel_rfl)) rfl ⟨hfe, .inr ⟨HFIT.out, _, _, R, 1, by rw [HLN.out]; rfl, HF.out, rfl, hBe⟩⟩
end Go.Proofs.YtfpicifjjedlaaaGreatDoor.huffp
/-
  The contracts of the reference's begins and Next. My own text.
-/
namespace Go.Proofs.YtfpicifjjedlaaaGreatDoor.huffp
open Go.RowKit Go.Proofs.YtfpicifjjedlaaaGreatDoor.base Go.Proofs.YtfpicifjjedlaaaGreatDoor.num Go.Proofs.YtfpicifjjedlaaaGreatDoor.bitnum Go.Proofs.YtfpicifjjedlaaaGreatDoor.bitp Go.Proofs.YtfpicifjjedlaaaGreatDoor.huffnum
set_option linter.unusedVariables false

theorem bit_same {U K k j : Nat} (h : U % 2 ^ k = K % 2 ^ k) (hj : j < k) : U / 2 ^ j % 2 = K / 2 ^ j % 2 := by
  have e : lb k U = lb k K := by rw [← lb_mod k U, h, lb_mod]
  have h1 := lb_get (u := U) hj
  have h2 := lb_get (u := K) hj
  rw [e, h2] at h1
  injection h1 with h1
  exact h1.symm

theorem begins_is (A D : Option Addr) (N c m d U K : Nat) (w : World) (B B' : Nat) (ha : Rd w B A N (nv (lb N U))) (hd : Rd w B' D m (nv (lb m K))) (hN : N ≤ 65536) (hm : m ≤ 15) (b : Bool) (hb : b = true ↔ U % 2 ^ min m N = K % 2 ^ min m N) :
    Calls Tryz.prog 102 #[.slice A N c, .slice D m d] w fun e w' => e = .returned (.bool b) ∧ Fresh w w' := by
  have HB := Lib.hid hb
  clear hb
  go_enter Tryz.func102, Tryz.ntmps102
  go_wp2
  go_loopw [5] (fun i wr => ∃ (j q : Nat), j ≤ m ∧ j ≤ N ∧ i = .int .i64 j ∧ Hid (U % 2 ^ j = K % 2 ^ j) ∧ wr = w.drewN q) (fun i _ => m - (intOf i).toNat)
  case atStart => exact ⟨0, 0, by omega, by omega, rfl, by simp [Hid, Nat.mod_one], rfl⟩
  case round =>
    obtain ⟨j, q, hjm, hjN, rfl, hU, rfl⟩ := hrel
    by_cases hlt : j < m
    · by_cases hlt2 : j < N
      · obtain ⟨b1, off1, x1, rfl, hb1, hx1, hc1⟩ := ha.at_ (enc := fun x : Nat => iv (x : Int)) hlt2
        obtain ⟨b2, off2, x2, rfl, hb2, hx2, hc2⟩ := hd.at_ (enc := fun x : Nat => iv (x : Int)) hlt
        rw [lb_get hlt2] at hx1
        rw [lb_get hlt] at hx2
        injection hx1 with hx1
        injection hx2 with hx2
        have HX1 := Lib.hid hx1
        have HX2 := Lib.hid hx2
        have hj0 : (0 : Int) ≤ (j : Int) := by omega
        have hj1 : (j : Int) < (N : Int) := by omega
        have hj2 : (j : Int) < (m : Int) := by omega
        clear hx1 hx2 ha hd
        by_cases he : x1 = x2
        · subst he
          have hst : Hid (U % 2 ^ (j + 1) = K % 2 ^ (j + 1)) := by show _ = _; rw [mod_succ, mod_succ, hU.out, HX1.out, HX2.out]
          go_wp2
          go_quiet (fail)
          go_wp2
          go_roundw
          case rel => exact ⟨j + 1, _, by omega, by omega, by go_num, hst, rfl⟩
          case measure => simp [intOf]; omega
        · have hbf : b = false := by
            cases hb : b with
            | false => rfl
            | true =>
              have h := HB.out.1 hb
              have := bit_same h (j := j) (by omega)
              rw [HX1.out, HX2.out] at this
              exact absurd this he
          have hei : ¬ (x1 : Int) = (x2 : Int) := by omega
          have HBF := Lib.hid hbf
          clear hbf he
          go_wp2
          go_quiet (fail)
          go_wp2
          go_ret
          exact ⟨ret_bool HBF.out.symm, (Fresh.drewN _ _).trans (Fresh.drewN _ _)⟩
      · have hbt : b = true := HB.out.2 (by rw [show min m N = j by omega]; exact hU.out)
        have HBT := Lib.hid hbt
        clear hbt
        go_wp2
        go_ret
        exact ⟨ret_bool HBT.out.symm, Fresh.drewN _ _⟩
    · have hbt : b = true := HB.out.2 (by rw [show min m N = j by omega]; exact hU.out)
      have HBT := Lib.hid hbt
      clear hbt
      go_wp2
      go_ret
      exact ⟨ret_bool HBT.out.symm, Fresh.drewN _ _⟩

/-- the N bits U begin with the code of s, as far as both go -/
def Bg (ls : List Nat) (N U s m : Nat) : Prop := U % 2 ^ min m N = rev m (cd ls s m) % 2 ^ min m N
/-- the reference's answer -/
def got (s n e : Nat) : Ending := .returned (.agg #[.int .i64 (s : Int), .int .i64 (n : Int), .int .i64 (e : Int)])
def RefNextIs (ls : List Nat) (N U : Nat) (w : World) (e : Ending) (w' : World) : Prop :=
  Fresh w w' ∧ ((∃ s m, ls[s]? = some m ∧ 1 ≤ m ∧ Bg ls N U s m ∧ m ≤ N ∧ e = got s m 0) ∨
    ((∃ s m, ls[s]? = some m ∧ 1 ≤ m ∧ Bg ls N U s m) ∧ (∀ s m, ls[s]? = some m → 1 ≤ m → Bg ls N U s m → N < m) ∧ e = got 0 0 3) ∨
    ((∀ s m, ls[s]? = some m → 1 ≤ m → ¬ Bg ls N U s m) ∧ e = got 0 0 12))
/-- what was seen of the symbols ahead of j -/
def Seen (ls : List Nat) (N U j ev : Nat) : Prop :=
  (ev = 12 ∧ ∀ s m, s < j → ls[s]? = some m → 1 ≤ m → ¬ Bg ls N U s m) ∨
  (ev = 3 ∧ (∃ s m, ls[s]? = some m ∧ 1 ≤ m ∧ Bg ls N U s m) ∧ ∀ s m, s < j → ls[s]? = some m → 1 ≤ m → Bg ls N U s m → N < m)
theorem Seen.pass {ls : List Nat} {N U j ev m : Nat} (h : Seen ls N U j ev) (hj : ls[j]? = some m) (hn : 1 ≤ m → ¬ Bg ls N U j m) : Seen ls N U (j + 1) ev := by
  rcases h with ⟨e, h⟩ | ⟨e, h1, h2⟩
  · refine .inl ⟨e, fun s m' hs hm' h1 => ?_⟩
    by_cases hsj : s = j
    · subst hsj
      rw [hj] at hm'; injection hm' with hm'; subst hm'
      exact hn h1
    · exact h s m' (by omega) hm' h1
  · refine .inr ⟨e, h1, fun s m' hs hm' h3 hb => ?_⟩
    by_cases hsj : s = j
    · subst hsj
      rw [hj] at hm'; injection hm' with hm'; subst hm'
      exact absurd hb (hn h3)
    · exact h2 s m' (by omega) hm' h3 hb
theorem Seen.part {ls : List Nat} {N U j ev m : Nat} (h : Seen ls N U j ev) (hj : ls[j]? = some m) (h1 : 1 ≤ m) (hb : Bg ls N U j m) (hlt : N < m) : Seen ls N U (j + 1) 3 := by
  refine .inr ⟨rfl, ⟨j, m, hj, h1, hb⟩, fun s m' hs hm' h3 hb' => ?_⟩
  by_cases hsj : s = j
  · subst hsj
    rw [hj] at hm'; injection hm' with hm'; omega
  · rcases h with ⟨_, h⟩ | ⟨_, _, h⟩
    · exact absurd hb' (h s m' (by omega) hm' h3)
    · exact h s m' (by omega) hm' h3 hb'
theorem Seen.bound {ls : List Nat} {N U j ev : Nat} (h : Seen ls N U j ev) : ev ≤ 12 := by rcases h with ⟨e, _⟩ | ⟨e, _⟩ <;> omega

abbrev tGot : TypeId := 133
set_option maxRecDepth 100000 in
set_option maxHeartbeats 4000000 in
theorem refNext_any (L n F : Nat) (ls : List Nat) (R : Nat → Sl) (A : Option Addr) (N c U : Nat) (w : World) (B : Nat) (hB : Bits w L ls R 16 0) (hr : Rd w B A N (nv (lb N U))) (hBw : B ≤ w.heap.size) (hN : N ≤ 65536) (hn : ls.length = n) (hn4 : n ≤ 320) (h15 : ∀ m ∈ ls, m ≤ 15) :
    Calls Tryz.prog 77 #[.agg #[.slice (some ⟨L, 0, none⟩) n n, .int .i64 (F : Nat)], .slice A N c] w (RefNextIs ls N U w) := by
  have HN := Lib.hid hn
  have H15 := Lib.hid h15
  clear hn h15
  go_enter Tryz.func77, Tryz.ntmps77
  go_wp2
  have hC1 := (Bk.made w tRef #[.slice (some ⟨L, 0, none⟩) n n, .int .i64 (F : Nat)]).alloc (.cells #[.int .i64 0, .int .i64 0, .int .i64 0] tGot)
  have hG1 : Bk ((w.alloc (.cells #[.slice (some ⟨L, 0, none⟩) n n, .int .i64 (F : Nat)] tRef)).alloc (.cells #[.int .i64 0, .int .i64 0, .int .i64 0] tGot)) (w.heap.size + 1) tGot [.int .i64 0, .int .i64 0, .int .i64 0] := by
    have := Bk.made (w.alloc (.cells #[.slice (some ⟨L, 0, none⟩) n n, .int .i64 (F : Nat)] tRef)) tGot #[.int .i64 0, .int .i64 0, .int .i64 0]
    simpa using this
  have hf1 := (Fresh.alloc w (.cells #[.slice (some ⟨L, 0, none⟩) n n, .int .i64 (F : Nat)] tRef)).trans (Fresh.alloc _ (.cells #[.int .i64 0, .int .i64 0, .int .i64 0] tGot))
  go_loopw [5, 6] (fun a i wr => ∃ (j ev : Nat), j ≤ n ∧ i = .int .i64 j ∧ a = .int .i64 ev ∧ Hid (Seen ls N U j ev) ∧ ev ≤ 12 ∧ Bk wr w.heap.size tRef [.slice (some ⟨L, 0, none⟩) n n, .int .i64 (F : Nat)] ∧ Bk wr (w.heap.size + 1) tGot [.int .i64 0, .int .i64 0, .int .i64 0] ∧ Fresh w wr) (fun _ i _ => n - (intOf i).toNat)
  case atStart => exact ⟨0, 12, by omega, rfl, rfl, .inl ⟨rfl, fun s m h => by omega⟩, by omega, hC1, hG1, hf1⟩
  case round =>
    obtain ⟨j, ev, hj, rfl, rfl, hsn, hev, hC, hG, hf⟩ := hrel
    have hc0 : wr.cell? ⟨w.heap.size, 0, none⟩ = some (.slice (some ⟨L, 0, none⟩) n n) := hC.cell rfl
    by_cases hlt : j < n
    · have hjl : j < ls.length := by rw [HN.out]; exact hlt
      obtain ⟨m, hm⟩ : ∃ m, ls[j]? = some m := ⟨_, List.getElem?_eq_getElem hjl⟩
      have hm15 := H15.out m (List.mem_of_getElem? hm)
      have hBr := hB.fresh hf
      have hL := hBr.rows.cell (i := j) (v := (R j).val) (by rw [List.getElem?_map, List.getElem?_range hjl]; rfl)
      have HM := Lib.hid hm
      by_cases hm0 : m = 0
      · have hR := hBr.rest j m hm (by omega)
        rw [hR] at hL
        simp only [Sl.nil, Sl.val] at hL
        have hsn2 := hsn.out.pass hm (fun h => by omega)
        have HSN2 := Lib.hid hsn2
        clear hm hR hsn2
        go_wp2
        go_roundw
        case rel => exact ⟨j + 1, ev, by omega, by go_num, rfl, HSN2.out, hev, hC, hG, hf⟩
        case measure => simp [intOf]; omega
      · obtain ⟨hrl, bb, hra, hbk⟩ := hBr.done j m hm (by omega) (.inl (by omega))
        have hrow : (R j).val = .slice (some ⟨bb, 0, none⟩) m (R j).cap := by unfold Sl.val; rw [hra, hrl]
        rw [hrow] at hL
        generalize (R j).cap = cap at hL
        have hrd : Rd wr wr.heap.size (some ⟨bb, 0, none⟩) m (nv (lb m (rev m (cd ls j m)))) := by
          refine ⟨by simp [lb_len], fun h => ⟨bb, 0, rfl, hbk.inside, fun i u hu => ?_⟩⟩
          rw [Nat.zero_add]
          exact hbk.cell hu
        have hmi : ((m : Int) == 0) = false := by rw [beq_eq_false_iff_ne]; omega
        have hmi2 : ¬ (m : Int) = 0 := by omega
        have HRD := Lib.hid hrd
        clear hm hrl hra hbk hrow hrd
        by_cases hbg : Bg ls N U j m
        · have hb : (true = true ↔ U % 2 ^ min m N = rev m (cd ls j m) % 2 ^ min m N) := ⟨fun _ => hbg, fun _ => rfl⟩
          have HBB := Lib.hid hb
          have HBG := Lib.hid hbg
          clear hb hbg
          by_cases hmN : m ≤ N
          · go_wp2_with (go_at_call 102; refine (begins_is A _ N _ m _ U _ wr B wr.heap.size (hr.below hf hBw) HRD.out hN hm15 true HBB.out).mono ?_; rintro e w5 ⟨rfl, hf5⟩; have hc5 : w5.cell? ⟨w.heap.size, 0, none⟩ = some (.slice (some ⟨L, 0, none⟩) n n) := (hC.fresh hf5).cell rfl; have hL5 := (World.cell?_of_block (hf5.block L (World.block_lt_of_cell? _ _ hL))).trans hL; have hG5 := hG.fresh hf5; have hg0 : w5.cell? ⟨w.heap.size + 1, 0, none⟩ = some (.int .i64 0) := hG5.cell rfl; have hg1 : w5.cell? ⟨w.heap.size + 1, 1, none⟩ = some (.int .i64 0) := hG5.cell rfl; have hg2 : w5.cell? ⟨w.heap.size + 1, 2, none⟩ = some (.int .i64 0) := hG5.cell rfl; have hz0 := hG5.free 0; have hz1 := hG5.free 1; have hz2 := hG5.free 2)
            have hGe := ((hG5.put 0 (.int .i64 (j : Int))).put 1 (.int .i64 (m : Int))).put 2 (.int .i64 0)
            have hfe := (((hf.trans hf5).but (g := w.heap.size + 1) (by omega) (But.put (g := w.heap.size + 1) (i := 0) w5 (.int .i64 (j : Int)))).but (g := w.heap.size + 1) (by omega) (But.put (g := w.heap.size + 1) (i := 1) _ (.int .i64 (m : Int)))).but (g := w.heap.size + 1) (by omega) (But.put (g := w.heap.size + 1) (i := 2) _ (.int .i64 0))
            exact bodyPost_ret (results_cell_row (p := 4) (by kernel_rfl) _ _ (w.heap.size + 1) tGot #[.int .i64 (j : Int), .int .i64 (m : Int), .int .i64 0] (0, 0) _ rfl hGe Tryz.underlying133 rfl (by kernel_rfl)) rfl ⟨hfe, .inl ⟨j, m, HM.out, by omega, HBG.out, hmN, rfl⟩⟩
          · have HSN2 := Lib.hid (hsn.out.part HM.out (by omega) HBG.out (by omega))
            go_wp2_with (go_at_call 102; refine (begins_is A _ N _ m _ U _ wr B wr.heap.size (hr.below hf hBw) HRD.out hN hm15 true HBB.out).mono ?_; rintro e w5 ⟨rfl, hf5⟩; have hc5 : w5.cell? ⟨w.heap.size, 0, none⟩ = some (.slice (some ⟨L, 0, none⟩) n n) := (hC.fresh hf5).cell rfl; have hL5 := (World.cell?_of_block (hf5.block L (World.block_lt_of_cell? _ _ hL))).trans hL; have hG5 := hG.fresh hf5; have hg0 : w5.cell? ⟨w.heap.size + 1, 0, none⟩ = some (.int .i64 0) := hG5.cell rfl; have hg1 : w5.cell? ⟨w.heap.size + 1, 1, none⟩ = some (.int .i64 0) := hG5.cell rfl; have hg2 : w5.cell? ⟨w.heap.size + 1, 2, none⟩ = some (.int .i64 0) := hG5.cell rfl; have hz0 := hG5.free 0; have hz1 := hG5.free 1; have hz2 := hG5.free 2)
            go_roundw
            case rel => exact ⟨j + 1, 3, by omega, by go_num, rfl, HSN2.out, by omega, hC.fresh hf5, hG5, hf.trans hf5⟩
            case measure => simp [intOf]; omega
        · have hb : (false = true ↔ U % 2 ^ min m N = rev m (cd ls j m) % 2 ^ min m N) := ⟨fun h => Bool.noConfusion h, fun h => absurd h hbg⟩
          have hsn2 := hsn.out.pass HM.out (fun _ => hbg)
          have HSN2 := Lib.hid hsn2
          have HBB := Lib.hid hb
          clear hsn2 hb hbg
          go_wp2_with (go_at_call 102; refine (begins_is A _ N _ m _ U _ wr B wr.heap.size (hr.below hf hBw) HRD.out hN hm15 false HBB.out).mono ?_; rintro e w5 ⟨rfl, hf5⟩; have hc5 : w5.cell? ⟨w.heap.size, 0, none⟩ = some (.slice (some ⟨L, 0, none⟩) n n) := (hC.fresh hf5).cell rfl; have hL5 := (World.cell?_of_block (hf5.block L (World.block_lt_of_cell? _ _ hL))).trans hL; have hG5 := hG.fresh hf5; have hg0 : w5.cell? ⟨w.heap.size + 1, 0, none⟩ = some (.int .i64 0) := hG5.cell rfl; have hg1 : w5.cell? ⟨w.heap.size + 1, 1, none⟩ = some (.int .i64 0) := hG5.cell rfl; have hg2 : w5.cell? ⟨w.heap.size + 1, 2, none⟩ = some (.int .i64 0) := hG5.cell rfl; have hz0 := hG5.free 0; have hz1 := hG5.free 1; have hz2 := hG5.free 2)
          go_roundw
          case rel => exact ⟨j + 1, ev, by omega, by go_num, rfl, HSN2.out, hev, hC.fresh hf5, hG5, hf.trans hf5⟩
          case measure => simp [intOf]; omega
    · obtain rfl : j = n := by omega
      have hsnn := hsn.out
      have HSNN := Lib.hid hsnn
      have hg0 : wr.cell? ⟨w.heap.size + 1, 0, none⟩ = some (.int .i64 0) := hG.cell rfl
      have hg1 : wr.cell? ⟨w.heap.size + 1, 1, none⟩ = some (.int .i64 0) := hG.cell rfl
      have hg2 : wr.cell? ⟨w.heap.size + 1, 2, none⟩ = some (.int .i64 0) := hG.cell rfl
      have hz0 := hG.free 0
      have hz1 := hG.free 1
      have hz2 := hG.free 2
      clear hsnn
      go_wp2
      have hGe := ((hG.put 0 (.int .i64 0)).put 1 (.int .i64 0)).put 2 (.int .i64 (ev : Int))
      have hfe := ((hf.but (g := w.heap.size + 1) (by omega) (But.put (g := w.heap.size + 1) (i := 0) wr (.int .i64 0))).but (g := w.heap.size + 1) (by omega) (But.put (g := w.heap.size + 1) (i := 1) _ (.int .i64 0))).but (g := w.heap.size + 1) (by omega) (But.put (g := w.heap.size + 1) (i := 2) _ (.int .i64 (ev : Int)))
      refine bodyPost_ret (results_cell_row (p := 4) (by kernel_rfl) _ _ (w.heap.size + 1) tGot #[.int .i64 0, .int .i64 0, .int .i64 (ev : Int)] (0, 0) _ rfl hGe Tryz.underlying133 rfl (by kernel_rfl)) rfl ⟨hfe, ?_⟩
      have hall : ∀ s m, ls[s]? = some m → s < j := fun s m h => by have := lt_of_get h; rw [HN.out] at this; exact this
      rcases HSNN.out with ⟨e, h⟩ | ⟨e, h1, h2⟩
      · subst e
        exact .inr (.inr ⟨fun s m hs hm => h s m (hall s m hs) hs hm, rfl⟩)
      · subst e
        exact .inr (.inl ⟨h1, fun s m hs hm hb => h2 s m (hall s m hs) hs hm hb, rfl⟩)
end Go.Proofs.YtfpicifjjedlaaaGreatDoor.huffp
/-
  The contracts of the reference's Bits, High, Bytes. My own text.
-/
namespace Go.Proofs.YtfpicifjjedlaaaGreatDoor.bitp
open Go.RowKit Go.Proofs.YtfpicifjjedlaaaGreatDoor.base Go.Proofs.YtfpicifjjedlaaaGreatDoor.num Go.Proofs.YtfpicifjjedlaaaGreatDoor.bitnum
set_option linter.unusedVariables false

/-- bits as ints -/
abbrev nv (l : List Nat) : List Value := l.map fun x : Nat => iv (x : Int)
theorem nv_one (l : List Nat) : ∀ u ∈ nv l, u.oneCell' = true := by
  intro u hu
  obtain ⟨x, _, rfl⟩ := List.mem_map.1 hu
  rfl

theorem Own.low_ {w : World} {base base' : Nat} {e : TypeId} {A : Option Addr} {n c : Nat} {xs : List Value} (h : Own w base e A n c xs) (hb : base' ≤ base) : Own w base' e A n c xs :=
  ⟨h.1, h.2.imp id fun ⟨g, cap, cur, h1, h2, h3⟩ => ⟨g, cap, cur, h1, Nat.le_trans hb h2, h3⟩⟩

set_option maxRecDepth 100000 in
theorem Bits_any (A : Option Addr) (n c : Nat) (bs : List UInt8) (w : World) (B : Nat) (hr : Rd w B A n (bs.map bv)) (hB : B ≤ w.heap.size) (hn : n ≤ 4294967296) :
    Calls Tryz.prog 18 #[.slice A n c] w fun e w' => ∃ A c, e = .returned (.slice A (8 * n) c) ∧ Fresh w w' ∧ Own w' w.heap.size 3 A (8 * n) c (nv (lb (8 * n) (num bs))) := by
  obtain ⟨i0, hi0, hz0, hz1, hz2⟩ := info_parts info_int
  have hl : bs.length = n := by have := hr.1; rwa [List.length_map] at this
  have HL := Lib.hid hl
  clear hl
  go_enter Tryz.func18, Tryz.ntmps18
  go_wp2
  go_loopw [3, 4] (fun v i wr => ∃ (j N c : Nat) (A : Option Addr), j ≤ n ∧ i = .int .i64 j ∧ v = .slice A N c ∧ Hid (N = 8 * j) ∧ Fresh w wr ∧ Own wr w.heap.size 3 A N c (nv (lb N (num (bs.take j))))) (fun _ i _ => n - (intOf i).toNat)
  case atStart => exact ⟨0, 0, 0, none, by omega, rfl, rfl, rfl, Fresh.refl _, Own.nil _ _ _⟩
  case round =>
    obtain ⟨j, N, c1, A1, hj, rfl, rfl, hN, hfr, hown⟩ := hrel
    have hNb : N ≤ 34359738368 := by have := hN.out; omega
    by_cases hlt : j < n
    · obtain ⟨b, off, x, rfl, hb, hx, hcx⟩ := (hr.below hfr hB).at_ hlt
      have hxb := x.toNat_lt
      have hstep : nv (lb N (num (bs.take j))) ++ nv (lb 8 x.toNat) = nv (lb (N + 8) (num (bs.take (j + 1)))) := by
        have hlt2 : (bs.take j).length = j := by rw [List.length_take, HL.out]; omega
        have := lb_bytes (bs.take j) x
        rw [hlt2] at this
        rw [take_snoc _ _ _ hx, hN.out, nv, nv, nv, ← List.map_append, this, List.length_append, hlt2]
        rfl
      have HS := Lib.hid hstep
      clear hx hstep
      go_wp2
      go_loopw [3, 5, 6] (fun v t i wr => ∃ (k q M c : Nat) (A : Option Addr), k ≤ 8 ∧ i = .int .i64 k ∧ t = .int .i64 q ∧ Hid (q = x.toNat / 2 ^ k) ∧ q < 256 ∧ v = .slice A M c ∧ Hid (M = N + k) ∧ Fresh w wr ∧ Own wr w.heap.size 3 A M c (nv (lb N (num (bs.take j))) ++ nv (lb k x.toNat))) (fun _ _ i _ => 8 - (intOf i).toNat)
      case atStart => exact ⟨0, x.toNat, N, c1, A1, by omega, rfl, rfl, by simp [Hid], by omega, rfl, rfl, hfr, by simpa [lb_zero] using hown⟩
      case round =>
        obtain ⟨k, q, M, c2, A2, hk, rfl, rfl, hq, hql, rfl, hM, hfr2, hown2⟩ := hrel
        have hMb : M ≤ 34359738376 := by have := hM.out; omega
        by_cases hlt2 : k < 8
        · go_wp2_with (at_builtin; refine wpList_append_rd _ rfl _ _ 44 rfl w.heap.size 3 i0 _ 8 Tryz.underlying44 hi0 hz0 hz1 hz2 rfl A2 M c2 _ rfl (Own.fresh hown2 (Fresh.alloc _ _)) (wr.heap.size + 1) (some ⟨wr.heap.size, 0, none⟩) 1 1 [.int .i64 ((q : Int) % 2)] rfl (Rd.lit wr #[.int .i64 ((q : Int) % 2)] 3) (one_one _ _) (by unfold maxLen; omega) (by omega) (by have := hfr2.size; simp; omega) ?_; intro A3 c3 w3 hown3 hg3)
          have hl2 : nv (lb N (num (bs.take j))) ++ nv (lb k x.toNat) ++ [Value.int .i64 ((q : Int) % 2)] = nv (lb N (num (bs.take j))) ++ nv (lb (k + 1) x.toNat) := by
            have h1 : (q : Int) % 2 = ((q % 2 : Nat) : Int) := by omega
            rw [lb_snoc, List.append_assoc, nv, nv, nv, List.map_append, List.map_cons, List.map_nil, ← hq.out, h1]
          have hfr3 : Fresh w w3 := (hfr2.trans (Fresh.alloc _ _)).append (Own.fresh hown2 (Fresh.alloc _ _)) (Nat.le_refl _) hg3
          rw [hl2] at hown3
          have hd : Hid (q / 2 = x.toNat / 2 ^ (k + 1)) := by show _ = _; rw [hq.out, Nat.div_div_eq_div_mul, Nat.pow_succ]
          clear hl2 hg3
          go_roundw
          case rel => exact ⟨k + 1, q / 2, M + 1, c3, A3, by omega, by go_num, by go_num, hd, by omega, rfl, by have := hM.out; show _ = _; omega, hfr3, hown3⟩
          case measure => simp [intOf]; omega
        · obtain rfl : k = 8 := by omega
          rw [HS.out] at hown2
          obtain rfl : M = N + 8 := hM.out
          go_wp2
          go_roundw
          case rel => exact ⟨j + 1, N + 8, c2, A2, by omega, by go_num, rfl, by have := hN.out; show _ = _; omega, hfr2, hown2⟩
          case measure => simp [intOf]; omega
    · obtain rfl : j = n := by omega
      obtain rfl : N = 8 * j := hN.out
      go_wp2
      go_ret
      rw [List.take_of_length_le (Nat.le_of_eq HL.out)] at hown
      exact ⟨A1, c1, rfl, hfr, hown⟩

end Go.Proofs.YtfpicifjjedlaaaGreatDoor.bitp
/-
  What comes next, by the program and by the reference, way by way. My own text.
-/
namespace Go.Proofs.YtfpicifjjedlaaaGreatDoor.huffp
open Go.RowKit Go.Proofs.YtfpicifjjedlaaaGreatDoor.base Go.Proofs.YtfpicifjjedlaaaGreatDoor.num Go.Proofs.YtfpicifjjedlaaaGreatDoor.bitnum Go.Proofs.YtfpicifjjedlaaaGreatDoor.bitp Go.Proofs.YtfpicifjjedlaaaGreatDoor.huffnum
set_option linter.unusedVariables false

theorem level_uniq {ls : List Nat} {t n n' : Nat} (h1 : 1 ≤ n) (h15 : n ≤ 15) (hlo : tx ls (n - 1) ≤ t) (hhi : t < tx ls n) (h1' : 1 ≤ n') (h15' : n' ≤ 15) (hlo' : tx ls (n' - 1) ≤ t) (hhi' : t < tx ls n') : n = n' := by
  rcases Nat.lt_trichotomy n n' with h | h | h
  · have := tx_le ls (m := n) (n := n' - 1) (by omega) (by omega); omega
  · exact h
  · have := tx_le ls (m := n') (n := n - 1) (by omega) (by omega); omega
theorem bg_iff {ls : List Nat} {N many U s n : Nat} (hm : many = min 15 N) (hn : n ≤ 15) : Bg ls N U s n ↔ Begins ls many U s n := by
  unfold Bg Begins
  rw [show min n many = min n N by omega]

section
variable (g q p many N U t : Nat) (ls bl rl : List Nat) (bs : List UInt8) (w : World) (h : CodeAt w g ls bl) (hR : RdrAt w q bs p rl) (hp : p ≤ 8 * bs.length) (hn : bs.length ≤ 1099511627776)
  (hoff : ∀ b ∈ bl, b ∉ rl) (hN : 8 * bs.length - p = N) (hmany : many = min 15 N) (hU : U = num bs / 2 ^ p) (hw : Nxt ls many U t)
include h hR hp hn hoff hN hmany hU hw
theorem next_data (hd : tx ls 15 ≤ t) : Calls Tryz.prog 97 #[.pointer (some ⟨g, 0, none⟩), ptr q] w fun e w' => e = .returned (.tuple #[.int .i64 0, .int .i64 12]) ∧ RdrIs w q bs p rl w' := by
  refine (next_any g q p many U t ls bl rl bs w h hR hp hn hoff (by rw [hN]; exact hmany) hU hw).mono ?_
  rintro e w' (⟨_, he, hf⟩ | ⟨n, h1, h15, _, hhi, _⟩ | ⟨n, s, h1, h15, _, hhi, _⟩)
  · exact ⟨he, rl, hR.fresh hf, Turn.fresh hf⟩
  · have := tx_le ls h15 (Nat.le_refl 15); omega
  · have := tx_le ls h15 (Nat.le_refl 15); omega
theorem next_end {n : Nat} (h1 : 1 ≤ n) (h15 : n ≤ 15) (hlo : tx ls (n - 1) ≤ t) (hhi : t < tx ls n) (hlt : many < n) : Calls Tryz.prog 97 #[.pointer (some ⟨g, 0, none⟩), ptr q] w fun e w' => e = .returned (.tuple #[.int .i64 0, .int .i64 3]) ∧ RdrIs w q bs p rl w' := by
  refine (next_any g q p many U t ls bl rl bs w h hR hp hn hoff (by rw [hN]; exact hmany) hU hw).mono ?_
  rintro e w' (⟨hd, _⟩ | ⟨n', _, _, _, _, _, he, hf⟩ | ⟨n', s, h1', h15', hlo', hhi', hle, _⟩)
  · have := tx_le ls h15 (Nat.le_refl 15); omega
  · exact ⟨he, rl, hR.fresh hf, Turn.fresh hf⟩
  · have := level_uniq h1 h15 hlo hhi h1' h15' hlo' hhi'; omega
theorem next_ok {n s : Nat} (h1 : 1 ≤ n) (h15 : n ≤ 15) (hlo : tx ls (n - 1) ≤ t) (hhi : t < tx ls n) (hle : n ≤ many) (hs : (syms ls n)[(t - tx ls (n - 1)) / 2 ^ (15 - n)]? = some s) : Calls Tryz.prog 97 #[.pointer (some ⟨g, 0, none⟩), ptr q] w fun e w' => e = .returned (.tuple #[.int .i64 (s : Nat), .int .i64 0]) ∧ RdrIs w q bs (p + n) rl w' := by
  refine (next_any g q p many U t ls bl rl bs w h hR hp hn hoff (by rw [hN]; exact hmany) hU hw).mono ?_
  rintro e w' (⟨hd, _⟩ | ⟨n', h1', h15', hlo', hhi', hlt, _⟩ | ⟨n', s', h1', h15', hlo', hhi', _, hs', he, hR'⟩)
  · have := tx_le ls h15 (Nat.le_refl 15); omega
  · have := level_uniq h1 h15 hlo hhi h1' h15' hlo' hhi'; omega
  · have := level_uniq h1 h15 hlo hhi h1' h15' hlo' hhi'
    subst this
    rw [hs] at hs'
    injection hs' with hs'
    subst hs'
    exact ⟨he, hR'⟩
end
section
variable (L n F : Nat) (ls : List Nat) (R : Nat → Sl) (A : Option Addr) (N c U many t : Nat) (w : World) (B : Nat) (hB : Bits w L ls R 16 0) (hr : Rd w B A N (nv (lb N U))) (hBw : B ≤ w.heap.size) (hN : N ≤ 65536) (hn : ls.length = n) (hn4 : n ≤ 320) (h15 : ∀ m ∈ ls, m ≤ 15)
  (hmany : many = min 15 N) (hw : Nxt ls many U t)
include hB hr hBw hN hn hn4 h15 hmany hw
theorem refNext_data (hd : tx ls 15 ≤ t) : Calls Tryz.prog 77 #[.agg #[.slice (some ⟨L, 0, none⟩) n n, .int .i64 (F : Nat)], .slice A N c] w fun e w' => e = .returned (.agg #[.int .i64 0, .int .i64 0, .int .i64 12]) ∧ Fresh w w' := by
  refine (refNext_any L n F ls R A N c U w B hB hr hBw hN hn hn4 h15).mono ?_
  rintro e w' ⟨hf, (⟨s, m, hs, h1, hb, _⟩ | ⟨⟨s, m, hs, h1, hb⟩, _⟩ | ⟨_, he⟩)⟩
  · exact absurd ((bg_iff hmany (h15 m (List.mem_of_getElem? hs))).1 hb) (hw.data hd hs h1)
  · exact absurd ((bg_iff hmany (h15 m (List.mem_of_getElem? hs))).1 hb) (hw.data hd hs h1)
  · exact ⟨he, hf⟩
theorem refNext_end {k : Nat} (h1 : 1 ≤ k) (hk15 : k ≤ 15) (hlo : tx ls (k - 1) ≤ t) (hhi : t < tx ls k) (hlt : many < k) : Calls Tryz.prog 77 #[.agg #[.slice (some ⟨L, 0, none⟩) n n, .int .i64 (F : Nat)], .slice A N c] w fun e w' => e = .returned (.agg #[.int .i64 0, .int .i64 0, .int .i64 3]) ∧ Fresh w w' := by
  obtain ⟨⟨s0, hs0, hb0⟩, hall⟩ := hw.ends h1 hk15 hlo hhi hlt
  refine (refNext_any L n F ls R A N c U w B hB hr hBw hN hn hn4 h15).mono ?_
  rintro e w' ⟨hf, (⟨s, m, hs, hm1, hb, hle, _⟩ | ⟨_, _, he⟩ | ⟨h, _⟩)⟩
  · have hm := h15 m (List.mem_of_getElem? hs)
    have := hall s m hs hm1 ((bg_iff hmany hm).1 hb)
    omega
  · exact ⟨he, hf⟩
  · exact absurd ((bg_iff hmany hk15).2 hb0) (h s0 k hs0 h1)
theorem refNext_ok {k s : Nat} (h1 : 1 ≤ k) (hk15 : k ≤ 15) (hlo : tx ls (k - 1) ≤ t) (hhi : t < tx ls k) (hle : k ≤ many) (hs : (syms ls k)[(t - tx ls (k - 1)) / 2 ^ (15 - k)]? = some s) : Calls Tryz.prog 77 #[.agg #[.slice (some ⟨L, 0, none⟩) n n, .int .i64 (F : Nat)], .slice A N c] w fun e w' => e = .returned (.agg #[.int .i64 (s : Nat), .int .i64 (k : Nat), .int .i64 0]) ∧ Fresh w w' := by
  obtain ⟨s0, hg, hs0, hb0, huniq⟩ := hw.comes h1 hk15 hlo hhi hle
  rw [hs] at hg
  injection hg with hg
  subst hg
  refine (refNext_any L n F ls R A N c U w B hB hr hBw hN hn hn4 h15).mono ?_
  rintro e w' ⟨hf, (⟨s', m, hs', hm1, hb, hmN, he⟩ | ⟨_, h, _⟩ | ⟨h, _⟩)⟩
  · have hm := h15 m (List.mem_of_getElem? hs')
    have hss := huniq s' m hs' hm1 (by omega) ((bg_iff hmany hm).1 hb)
    subst hss
    rw [hs0] at hs'
    injection hs' with hs'
    subst hs'
    exact ⟨he, hf⟩
  · have := h s k hs0 h1 ((bg_iff hmany hk15).2 hb0); omega
  · exact absurd ((bg_iff hmany hk15).2 hb0) (h s k hs0 h1)
end

/-- a slice that lies in block b and reads as xs -/
def RdB (w : World) (b : Nat) (A : Option Addr) (n : Nat) (xs : List Value) : Prop := xs.length = n ∧ (0 < n → ∃ off, A = some ⟨b, off, none⟩ ∧ ∀ j u, xs[j]? = some u → w.cell? ⟨b, off + j, none⟩ = some u)
theorem RdB.keep {w w' : World} {b n : Nat} {A : Option Addr} {xs : List Value} (h : RdB w b A n xs) (hk : w'.heap[b]? = w.heap[b]?) : RdB w' b A n xs :=
  ⟨h.1, fun hn => by
    obtain ⟨off, e, hc⟩ := h.2 hn
    exact ⟨off, e, fun j u hu => (World.cell?_of_block hk).trans (hc j u hu)⟩⟩
theorem RdB.rd {w : World} {b n : Nat} {A : Option Addr} {xs : List Value} (h : RdB w b A n xs) (hb : b < w.heap.size) : Rd w w.heap.size A n xs :=
  ⟨h.1, fun hn => by
    obtain ⟨off, e, hc⟩ := h.2 hn
    exact ⟨b, off, e, hb, hc⟩⟩
theorem RdB.cut {w : World} {b n : Nat} {A : Option Addr} {xs : List Value} (h : RdB w b A n xs) {lo cap : Nat} (h1 : lo ≤ n) (hc : n ≤ cap) : RdB w b (if cap = lo then A else A.map (·.add lo)) (n - lo) (xs.drop lo) := by
  refine ⟨by rw [List.length_drop, h.1], fun hn => ?_⟩
  obtain ⟨off, rfl, hcell⟩ := h.2 (by omega)
  rw [if_neg (by omega)]
  refine ⟨off + lo, ?_, fun j u hu => ?_⟩
  · simp only [Option.map_some, Option.some.injEq]
    unfold Addr.add
    split
    · subst lo; rfl
    · rfl
  · rw [List.getElem?_drop] at hu
    have := hcell _ u hu
    rwa [← Nat.add_assoc] at this
theorem Own.rdb {w : World} {base : Nat} {e : TypeId} {A : Option Addr} {n c : Nat} {xs : List Value} (h : Own w base e A n c xs) (b0 : Nat) (hb0 : b0 < w.heap.size) : ∃ b, (b = b0 ∨ base ≤ b) ∧ b < w.heap.size ∧ RdB w b A n xs := by
  by_cases hn : 0 < n
  · obtain ⟨g, cap, hv, hb, hlt⟩ := World.ownsRow.form h hn
    injection hv with hA _ _
    subst hA
    refine ⟨g, .inr hb, hlt, by simpa using h.1, fun _ => ⟨0, rfl, fun j u hu => ?_⟩⟩
    have := World.ownsRow.cells h (g := g) rfl j u hu
    have hadd : (⟨g, 0, none⟩ : Addr).add j = ⟨g, 0 + j, none⟩ := by unfold Addr.add; split <;> simp_all
    rwa [hadd] at this
  · exact ⟨b0, .inl rfl, hb0, by simpa using h.1, fun h' => absurd h' hn⟩
theorem nv_drop (N k U : Nat) (h : k ≤ N) : (nv (lb N U)).drop k = nv (lb (N - k) (U / 2 ^ k)) := by
  rw [nv, ← List.map_drop]
  have := lb_cut (m := N) (N := U) (p := k) (n := N - k) (by omega)
  rw [List.take_of_length_le (by rw [List.length_drop, lb_len]; omega)] at this
  rw [this]
end Go.Proofs.YtfpicifjjedlaaaGreatDoor.huffp
