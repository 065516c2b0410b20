/-
  The contracts of the reference's bitsOf, pow, New. My own text.
-/
import Derived.Test.YtdcdkafpmnlgoaaHuffLaw
import Derived.Deep.RegionWith
namespace Go.Proofs.Ytdcdkafpmnlgoaa.huffp
open Go.RowKit Go.Proofs.Ytdcdkafpmnlgoaa.base Go.Proofs.Ytdcdkafpmnlgoaa.num Go.Proofs.Ytdcdkafpmnlgoaa.bitnum Go.Proofs.Ytdcdkafpmnlgoaa.bitp Go.Proofs.Ytdcdkafpmnlgoaa.huffnum
set_option linter.unusedVariables false

theorem bitsOf_is (n v x : Nat) (w : World) (hn : n ≤ 15) (hv : v ≤ 65536) (hx : rev n v = rev n x) :
    Calls Try.prog 18 #[.int .i64 n, .int .i64 v] w fun e w' => ∃ b, e = .returned (.slice (some ⟨b, 0, none⟩) n n) ∧ w.heap.size ≤ b ∧ Bk w' b tInt (nv (lb n (rev n x))) ∧ Fresh w w' := by
  obtain ⟨i0, hi0, hz0, hz1, hz2⟩ := info_parts info_int
  rw [← hx]
  clear hx
  go_enter Try.func18, Try.ntmps18
  go_wp2_with (with_reducible (refine at_slot_ 8 ?_); refine wpList_make_blk rfl 22 (.tmp 7) (.tmp 7) rfl 3 i0 _ Try.underlying22 hi0 hz0 hz1 rfl n rfl rfl (by rw [hz2]; omega) (by unfold maxLen; omega) w.heap.size rfl ?_; intro w1 hb1 hf1)
  go_loopw [1, 6] (fun a i wr => ∃ (k q : Nat), k ≤ n ∧ i = .int .i64 ((k : Int) - 1) ∧ a = .int .i64 q ∧ Hid (q = v / 2 ^ (n - k)) ∧ q ≤ 65536 ∧ Bk wr w.heap.size tInt (List.replicate k (iv 0) ++ nv (lb (n - k) v).reverse) ∧ Fresh w wr) (fun _ i _ => (intOf i + 1).toNat)
  case atStart => exact ⟨n, v, Nat.le_refl _, rfl, rfl, by simp [Hid], hv, by rw [Nat.sub_self, lb_zero]; simpa using hb1, hf1⟩
  case round =>
    obtain ⟨k, q, hk, rfl, rfl, hq, hql, hb, hfr⟩ := hrel
    by_cases h0 : k = 0
    · subst h0
      go_wp2
      go_ret
      refine ⟨w.heap.size, rfl, Nat.le_refl _, ?_, hfr⟩
      rw [List.replicate_zero, List.nil_append, Nat.sub_zero, lb_reverse] at hb
      exact hb
    · obtain ⟨j, rfl⟩ : ∃ j, k = j + 1 := ⟨k - 1, by omega⟩
      have e1 : ((j + 1 : Nat) : Int) - 1 = (j : Int) := by omega
      rw [e1]
      have hc : wr.cell? ⟨w.heap.size, j, none⟩ = some (iv 0) := hb.cell (by rw [List.getElem?_append_left (by simp), List.getElem?_replicate, if_pos (by omega)])
      have hf := hb.free j
      have hset : (List.replicate (j + 1) (iv 0) ++ nv (lb (n - (j + 1)) v).reverse).set j (iv ((q % 2 : Nat) : Int)) = List.replicate j (iv 0) ++ nv (lb (n - j) v).reverse := by
        rw [List.set_append_left _ _ (by simp), List.replicate_succ', List.set_append_right _ _ (by simp), List.length_replicate, Nat.sub_self, List.set_cons_zero, List.append_assoc]
        rw [show n - j = (n - (j + 1)) + 1 by omega, lb_snoc, List.reverse_append, List.reverse_singleton, ← hq.out]
        rfl
      have hb2 := hb.put j (iv ((q % 2 : Nat) : Int))
      rw [hset] at hb2
      have hq2 : Hid (q / 2 = v / 2 ^ (n - j)) := by
        show _ = _
        rw [hq.out, Nat.div_div_eq_div_mul, ← Nat.pow_succ, show (n - (j + 1)).succ = n - j by omega]
      have hqi : (q : Int) % 2 = ((q % 2 : Nat) : Int) := by omega
      rw [← hqi] at hb2
      have HB2 := Lib.hid hb2
      have hfr2 := hfr.but (g := w.heap.size) (Nat.le_refl _) (But.put (g := w.heap.size) (i := j) wr (iv ((q : Int) % 2)))
      clear hset e1 hqi hb2 hb
      go_wp2
      go_roundw
      case rel => exact ⟨j, q / 2, by omega, by go_num, by go_num, hq2, by omega, HB2.out, hfr2⟩
      case measure => simp [intOf]

theorem pow_is (n P : Nat) (w : World) (hn : n ≤ 15) (hP : 2 ^ n = P) : Calls Try.prog 19 #[.int .i64 n] w fun e w' => e = .returned (.int .i64 P) ∧ w = w' := by
  go_enter Try.func19, Try.ntmps19
  go_wp2
  go_loopw [3, 4] (fun a i wr => ∃ (k q : Nat), k ≤ n ∧ i = .int .i64 k ∧ a = .int .i64 q ∧ Hid (q = 2 ^ k) ∧ q ≤ 32768 ∧ wr = w) (fun _ i _ => n - (intOf i).toNat)
  case atStart => exact ⟨0, 1, by omega, rfl, rfl, rfl, by omega, rfl⟩
  case round =>
    obtain ⟨k, q, hk, rfl, rfl, hq, hql, rfl⟩ := hrel
    by_cases hlt : k < n
    · have h2 : Hid (2 * q = 2 ^ (k + 1)) := by show _ = _; rw [hq.out, Nat.pow_succ, Nat.mul_comm]
      have h3 : 2 * q ≤ 32768 := by
        rw [h2.out]
        have := Nat.pow_le_pow_right (n := 2) (by omega) (show k + 1 ≤ 15 by omega)
        simpa using this
      go_wp2
      go_roundw
      case rel => exact ⟨k + 1, 2 * q, by omega, by go_num, by go_num, h2, h3, trivial⟩
      case measure => simp [intOf]; omega
    · obtain rfl : k = n := by omega
      obtain rfl : q = P := by rw [hq.out, hP]
      go_wp2
      go_ret
      exact ⟨rfl, rfl⟩

abbrev tRow : TypeId := 22
abbrev tRef : TypeId := 31
/-- the code c of m bits, as it lies, the highest bit first -/
def CodeRow (w : World) (r : Sl) (m c : Nat) : Prop := r.len = m ∧ ∃ b, r.at_ = some ⟨b, 0, none⟩ ∧ Bk w b tInt (nv (lb m (rev m c)))
theorem CodeRow.fresh {w w' : World} {r : Sl} {m c : Nat} (h : CodeRow w r m c) (k : Fresh w w') : CodeRow w' r m c := by
  obtain ⟨hl, b, ha, hb⟩ := h
  exact ⟨hl, b, ha, hb.fresh k⟩
/-- a store into a block of another type -/
theorem CodeRow.put {w : World} {r : Sl} {m c g t i : Nat} {cs : List Value} (h : CodeRow w r m c) (hg : Bk w g t cs) (ht : t ≠ tInt) (u : Value) : CodeRow (w.setCell ⟨g, i, none⟩ u) r m c := by
  obtain ⟨hl, b, ha, hb⟩ := h
  refine ⟨hl, b, ha, hb.apart (fun e => ?_) u⟩
  have e' : b = g := e
  subst e'
  have h1 : w.heap[b]? = _ := hb
  have h2 : w.heap[b]? = _ := hg
  rw [h1] at h2
  injection h2 with h2
  injection h2 with _ h2
  exact ht h2.symm
/-- the lists of bits when all symbols with fewer than k bits, and those ahead of s with k, have their codes -/
structure Bits (w : World) (L : Nat) (ls : List Nat) (R : Nat → Sl) (k s : Nat) : Prop where
  rows : Bk w L tRow ((List.range ls.length).map fun i => (R i).val)
  done : ∀ i m, ls[i]? = some m → 1 ≤ m → (m < k ∨ (m = k ∧ i < s)) → CodeRow w (R i) m (cd ls i m)
  rest : ∀ i m, ls[i]? = some m → ¬ (1 ≤ m ∧ (m < k ∨ (m = k ∧ i < s))) → R i = Sl.nil
section
variable {w w' : World} {L : Nat} {ls : List Nat} {R : Nat → Sl} {k s : Nat}
theorem Bits.fresh (h : Bits w L ls R k s) (f : Fresh w w') : Bits w' L ls R k s :=
  { h with rows := h.rows.fresh f, done := fun i m a b c => (h.done i m a b c).fresh f }
theorem Bits.put (h : Bits w L ls R k s) {g t i : Nat} {cs : List Value} (hg : Bk w g t cs) (ht : t ≠ tInt) (hne : L ≠ g) (u : Value) : Bits (w.setCell ⟨g, i, none⟩ u) L ls R k s :=
  { h with rows := h.rows.apart hne u, done := fun i m a b c => (h.done i m a b c).put hg ht u }
/-- a symbol of another length is passed by -/
theorem Bits.pass (h : Bits w L ls R k s) {m : Nat} (hs : ls[s]? = some m) (hm : m ≠ k) : Bits w L ls R k (s + 1) :=
  { h with
    done := fun i m' a b c => h.done i m' a b (by
      rcases c with c | ⟨c1, c2⟩
      · exact .inl c
      · refine .inr ⟨c1, ?_⟩
        rcases Nat.lt_or_ge i s with h1 | h1
        · exact h1
        · have : i = s := by omega
          subst this
          rw [hs] at a; injection a with a; omega)
    rest := fun i m' a c => h.rest i m' a (fun ⟨c1, c2⟩ => c ⟨c1, by omega⟩) }
theorem Bits.next (h : Bits w L ls R k ls.length) : Bits w L ls R (k + 1) 0 :=
  { h with
    done := fun i m a b c => h.done i m a b (by have := lt_of_get a; omega)
    rest := fun i m a c => h.rest i m a (fun ⟨c1, c2⟩ => c ⟨c1, by omega⟩) }
theorem Bits.set (h : Bits w L ls R k s) {b : Nat} (hk : 1 ≤ k) (hs : ls[s]? = some k) (hc : CodeRow w ⟨some ⟨b, 0, none⟩, k, k⟩ k (cd ls s k)) :
    Bits (w.setCell ⟨L, s, none⟩ (.slice (some ⟨b, 0, none⟩) k k)) L ls (upd R s ⟨some ⟨b, 0, none⟩, k, k⟩) k (s + 1) := by
  have hlt := lt_of_get hs
  refine ⟨?_, fun i m a b1 c => ?_, fun i m a c => ?_⟩
  · have h1 := h.rows.put s (.slice (some ⟨b, 0, none⟩) k k)
    have e : (((List.range ls.length).map fun i => (R i).val).set s (.slice (some ⟨b, 0, none⟩) k k)) = (List.range ls.length).map fun i => (upd R s ⟨some ⟨b, 0, none⟩, k, k⟩ i).val := by
      apply List.ext_getElem?
      intro i
      rw [List.getElem?_set]
      by_cases hi : i < ls.length
      · by_cases e : s = i
        · subst e
          simp [hi, upd, Sl.val]
        · have e' : ¬ i = s := fun h => e h.symm
          simp [hi, e, e', upd]
      · by_cases e : s = i
        · omega
        · simp [hi, e]
    rw [e] at h1
    exact h1
  · by_cases e : i = s
    · subst e
      rw [upd_same]
      rw [hs] at a; injection a with a; subst a
      exact hc.put h.rows (by decide) _
    · rw [upd_ne R _ e]
      exact (h.done i m a b1 (by omega)).put h.rows (by decide) _
  · have e : i ≠ s := by
      intro e; subst e
      rw [hs] at a; injection a with a; subst a
      exact c ⟨hk, .inr ⟨rfl, by omega⟩⟩
    rw [upd_ne R _ e]
    exact h.rest i m a (fun ⟨c1, c2⟩ => c ⟨c1, by omega⟩)
end

/-- the reference's Codes, as they are handed out -/
structure RefAt (w : World) (A : Option Addr) (ls : List Nat) (L : Nat) (R : Nat → Sl) : Prop where
  at_ : A = some ⟨L, 0, none⟩
  all : Bits w L ls R 16 0
/-- what the reference's New tells -/
def RefIs (w : World) (ls : List Nat) (e : Ending) (w' : World) : Prop :=
  Fresh w w' ∧ ((32768 < tx ls 15 ∧ ∃ A, e = .returned (.agg #[.slice A ls.length ls.length, .int .i64 2])) ∨
    (tx ls 15 ≤ 32768 ∧ ∃ A L R F, e = .returned (.agg #[.slice A ls.length ls.length, .int .i64 (F : Nat)]) ∧ (F = if tx ls 15 < 32768 then 1 else 0) ∧ RefAt w' A ls L R))

theorem info_row : (Try.prog.info? 22).map (fun i => (i.zero, i.size, i.bytes)) = some (some (.slice none 0 0), 1, 24) := by kernel_rfl
set_option maxHeartbeats 2000000 in
set_option maxRecDepth 100000 in
theorem refNew_any (A : Option Addr) (n c : Nat) (zs : List Int) (ls : List Nat) (w : World) (B : Nat) (hr : Rd w B A n (zs.map iv)) (hB : B ≤ w.heap.size) (hn : n ≤ 320) (hm : May zs) (hls : zs.map Int.toNat = ls) :
    Calls Try.prog 9 #[.slice A n c] w (RefIs w ls) := by
  obtain ⟨i0, hi0, hz0, hz1, hz2⟩ := info_parts info_row
  have hlz : zs.length = n := by have := hr.1; rwa [List.length_map] at this
  have hln : ls.length = n := by rw [← hls, List.length_map, hlz]
  have HLN := Lib.hid hln
  have HLS := Lib.hid hls
  have HM := Lib.hid hm
  clear hlz hln hls hm
  go_enter Try.func9, Try.ntmps9
  go_wp2_with (with_reducible (refine at_slot_ 9 ?_); refine wpList_make_blk rfl 29 (.tmp 8) (.tmp 8) rfl 22 i0 _ Try.underlying29 hi0 hz0 hz1 rfl n rfl rfl (by rw [hz2]; omega) (by unfold maxLen; omega) (w.heap.size + 1) (by simp) ?_; intro w1 hb1 hf1)
  have hV1 : Bk w1 w.heap.size tRef [.slice none 0 0, .int .i64 0] := (Bk.made w tRef #[.slice none 0 0, .int .i64 0]).fresh hf1
  have hB1 : Bits w1 (w.heap.size + 1) ls (fun _ => Sl.nil) 1 0 := by
    refine ⟨?_, fun i m a b c => by omega, fun i m a b => rfl⟩
    have e : ((List.range ls.length).map fun i => (Sl.nil).val) = List.replicate n (.slice none 0 0) := by
      rw [HLN.out]; exact List.map_const' .. |>.trans (by rw [List.length_range]; rfl)
    rw [e]; exact hb1
  have hG : w.heap.size + 1 < w1.heap.size := hb1.inside
  obtain ⟨G, hGe⟩ : ∃ G, w1.heap.size = G := ⟨_, rfl⟩
  have hG1 := Bk.made w1 tRef #[.slice (some ⟨w.heap.size + 1, 0, none⟩) n n, .int .i64 1]
  rw [hGe] at hG1 hG ⊢
  have hf0 : Fresh w (w1.alloc (.cells #[.slice (some ⟨w.heap.size + 1, 0, none⟩) n n, .int .i64 1] tRef)) := ((Fresh.alloc w _).trans hf1).trans (Fresh.alloc _ _)
  have hBi := hB1.fresh (Fresh.alloc w1 (.cells #[.slice (some ⟨w.heap.size + 1, 0, none⟩) n n, .int .i64 1] tRef))
  have hVi := hV1.alloc (.cells #[.slice (some ⟨w.heap.size + 1, 0, none⟩) n n, .int .i64 1] tRef)
  clear hB1 hV1 hf1 hb1 hGe
  go_loopw [4, 5] (fun a i wr => ∃ (k q : Nat) (R : Nat → Sl), 1 ≤ k ∧ k ≤ 16 ∧ i = .int .i64 k ∧ a = .int .i64 q ∧ Hid (q = nx ls (k - 1)) ∧ Hid (q ≤ 2 ^ (k - 1)) ∧ Bits wr (w.heap.size + 1) ls R k 0 ∧ Bk wr w.heap.size tRef [.slice none 0 0, .int .i64 0] ∧ Bk wr G tRef [.slice (some ⟨w.heap.size + 1, 0, none⟩) n n, .int .i64 1] ∧ Fresh w wr) (fun _ i _ => 16 - (intOf i).toNat)
  case atStart => exact ⟨1, 0, _, by omega, by omega, rfl, rfl, rfl, by simp [Hid], hBi, hVi, hG1, hf0⟩
  case round =>
    obtain ⟨k, q, R, hk1, hk, rfl, rfl, hq, hql, hBt, hV, hGb, hfr⟩ := hrel
    by_cases hlt : k ≤ 15
    · have hq14 : q ≤ 16384 := by
        have h1 := hql.out
        have h2 := Nat.pow_le_pow_right (n := 2) (by omega) (show k - 1 ≤ 14 by omega)
        simp only [Nat.reducePow] at h2
        omega
      go_wp2
      go_loopw [4, 6] (fun a i wr => ∃ (s p : Nat) (R : Nat → Sl), s ≤ n ∧ i = .int .i64 s ∧ a = .int .i64 p ∧ Hid (p = 2 * q + (ls.take s).count k) ∧ p ≤ 33088 ∧ Bits wr (w.heap.size + 1) ls R k s ∧ Bk wr w.heap.size tRef [.slice none 0 0, .int .i64 0] ∧ Bk wr G tRef [.slice (some ⟨w.heap.size + 1, 0, none⟩) n n, .int .i64 1] ∧ Fresh w wr) (fun _ i _ => n - (intOf i).toNat)
      case atStart => exact ⟨0, 2 * q, R, by omega, by go_num, by go_num, by simp [Hid], by omega, hBt, hV, hGb, hfr⟩
      case round =>
        obtain ⟨s, p, R2, hs, rfl, rfl, hp, hpl, hB2, hV2, hGb2, hfr2⟩ := hrel
        by_cases hlt2 : s < n
        · obtain ⟨b, off, z, rfl, hb, hx, hcx⟩ := (hr.below hfr2 hB).at_ hlt2
          have hzb := HM.out z (List.mem_of_getElem? hx)
          obtain ⟨m, rfl⟩ := Int.eq_ofNat_of_zero_le hzb.1
          have hm15 : m ≤ 15 := by omega
          have hlm : ls[s]? = some m := by rw [← HLS.out, List.getElem?_map, hx]; rfl
          have hcm := count_more hlm k
          have HX := Lib.hid hlm
          clear hx hzb
          by_cases hmk : m = k
          · subst hmk
            rw [if_pos rfl] at hcm
            have hpc : p = cd ls s m := by rw [hp.out, hq.out]; rfl
            have hrv : rev m (p % 32768) = rev m (cd ls s m) := by
              rw [← hpc]
              exact rev_mod p (m := 15) hm15
            have hpb : p + 1 ≤ 33088 := by
              have h1 := List.count_le_length (a := m) (l := ls.take (s + 1))
              rw [List.length_take, HLN.out] at h1
              have := hp.out
              omega
            have hcL := hB2.rows.cell (i := s) (v := (R2 s).val) (by rw [List.getElem?_map, List.getElem?_range (by rw [HLN.out]; exact hlt2)]; rfl)
            have hfL := hB2.rows.free s
            have hcG : wr.cell? ⟨G, 0, none⟩ = some (.slice (some ⟨w.heap.size + 1, 0, none⟩) n n) := hGb2.cell rfl
            obtain ⟨pm, hpm⟩ : ∃ pm, p % 32768 = pm := ⟨_, rfl⟩
            have hpmi : (p : Int) % 32768 = (pm : Int) := by omega
            have hpmt : (p : Int).tmod 32768 = (pm : Int) := by rw [Int.tmod_eq_emod_of_nonneg (by omega)]; exact hpmi
            rw [hpm] at hrv
            have hpm2 : pm ≤ 65536 := by omega
            have hs0 : (0 : Int) ≤ (s : Int) := by omega
            have hs1 : (s : Int) < (n : Int) := by omega
            have HCM := Lib.hid hcm
            have HRV := Lib.hid hrv
            clear hcm hpc hrv hpm hlm
            go_wp2
            go_region_with (go_at_call 18; (with_reducible refine (bitsOf_is m pm (cd ls s m) _ hm15 hpm2 HRV.out).mono ?_); rintro e w2 ⟨bb, rfl, hbb, hbk2, hf2⟩; have hB3 := (hB2.fresh (Fresh.drew _)).fresh hf2; have hG3 := (hGb2.fresh (Fresh.drew _)).fresh hf2; have hcL2 := hB3.rows.cell (i := s) (v := (R2 s).val) (by rw [List.getElem?_map, List.getElem?_range (by rw [HLN.out]; exact hlt2)]; rfl); have hfL2 := hB3.rows.free s; have hcG2 : w2.cell? ⟨G, 0, none⟩ = some (.slice (some ⟨w.heap.size + 1, 0, none⟩) n n) := hG3.cell rfl)
            all_goals
              have hcr : CodeRow w2 ⟨some ⟨bb, 0, none⟩, m, m⟩ m (cd ls s m) := ⟨rfl, bb, rfl, hbk2⟩
              have hB4 := hB3.set hk1 HX.out hcr
              have hV4 := ((hV2.fresh (Fresh.drew _)).fresh hf2).apart (p := ⟨w.heap.size + 1, s, none⟩) (by simp) (.slice (some ⟨bb, 0, none⟩) m m)
              have hG4 := hG3.apart (p := ⟨w.heap.size + 1, s, none⟩) (by simp; omega) (.slice (some ⟨bb, 0, none⟩) m m)
              have hfr4 := ((hfr2.trans (Fresh.drew _)).trans hf2).but (g := w.heap.size + 1) (by omega) (But.put (g := w.heap.size + 1) (i := s) w2 (.slice (some ⟨bb, 0, none⟩) m m))
              clear hcr hB3 hbk2 hcL2 hfL2 hcG2 hG3 hcL hfL hcG
              go_wp2
              go_roundw
              case rel => exact ⟨s + 1, p + 1, _, by omega, by go_num, by go_num, by show _ = _; rw [HCM.out, hp.out]; omega, hpb, hB4, hV4, hG4, hfr4⟩
              case measure => simp [intOf]; omega
          · rw [if_neg hmk, Nat.add_zero] at hcm
            have HCM := Lib.hid hcm
            have hmki : ¬ (m : Int) = (k : Int) := by omega
            clear hcm hlm
            go_wp2
            go_roundw
            case rel => exact ⟨s + 1, p, R2, by omega, by go_num, rfl, by show _ = _; rw [HCM.out]; exact hp.out, hpl, hB2.pass HX.out hmk, hV2, hGb2, hfr2⟩
            case measure => simp [intOf]; omega
        · obtain rfl : s = n := by omega
          have hpx : p = nx ls k := by
            have h := hp.out
            rw [List.take_of_length_le (by rw [HLN.out]; omega), hq.out] at h
            obtain ⟨j, rfl⟩ : ∃ j, k = j + 1 := ⟨k - 1, by omega⟩
            rw [Nat.add_sub_cancel] at h
            rw [h, nx]
          have HPX := Lib.hid hpx
          clear hpx
          have hB4 := Bits.next (by rw [HLN.out]; exact hB2)
          obtain ⟨P, hP⟩ : ∃ P, 2 ^ k = P := ⟨_, rfl⟩
          have HP := Lib.hid hP
          clear hP
          by_cases hov : P < p
          · have hc0 : wr.cell? ⟨G, 0, none⟩ = some (.slice (some ⟨w.heap.size + 1, 0, none⟩) s s) := hGb2.cell rfl
            have hc1 : wr.cell? ⟨G, 1, none⟩ = some (.int .i64 1) := hGb2.cell rfl
            have hfc := hGb2.free 1
            have hv0 : wr.cell? ⟨w.heap.size, 0, none⟩ = some (.slice none 0 0) := hV2.cell rfl
            have hv1 : wr.cell? ⟨w.heap.size, 1, none⟩ = some (.int .i64 0) := hV2.cell rfl
            have hw0 := hV2.free 0
            have hw1 := hV2.free 1
            have hne1 : ¬ w.heap.size = G := by omega
            have hne2 : ¬ G = w.heap.size := by omega
            go_wp2_with (go_at_call 19; (refine (pow_is k P wr hlt HP.out).mono ?_); rintro e w2 ⟨rfl, rfl⟩)
            have hVa := hV2.apart (p := ⟨G, 1, none⟩) (by simpa using hne1) (.int .i64 2)
            have hVb := (hVa.put 0 (.slice (some ⟨w.heap.size + 1, 0, none⟩) s s)).put 1 (.int .i64 2)
            have hfe := ((hfr2.but (g := G) (by omega) (But.put (g := G) (i := 1) wr (.int .i64 2))).but (g := w.heap.size) (Nat.le_refl _) (But.put (g := w.heap.size) (i := 0) _ (.slice (some ⟨w.heap.size + 1, 0, none⟩) s s))).but (g := w.heap.size) (Nat.le_refl _) (But.put (g := w.heap.size) (i := 1) _ (.int .i64 2))
            refine bodyPost_ret (results_cell_row (p := 2) (by kernel_rfl) _ _ w.heap.size tRef #[.slice (some ⟨w.heap.size + 1, 0, none⟩) s s, .int .i64 2] (0, 0) _ rfl hVb Try.underlying31 rfl (by kernel_rfl)) rfl ⟨hfe, .inl ⟨nx_over hlt (by rw [HP.out, ← HPX.out]; exact hov), _, by rw [HLN.out]⟩⟩
          · go_wp2_with (go_at_call 19; (refine (pow_is k P wr hlt HP.out).mono ?_); rintro e w2 ⟨rfl, rfl⟩)
            go_roundw
            case rel => exact ⟨k + 1, p, R2, by omega, by omega, by go_num, rfl, HPX.out, by show _ ≤ _; rw [Nat.add_sub_cancel, HP.out]; omega, hB4, hV2, hGb2, hfr2⟩
            case measure => simp [intOf]; omega
    · obtain rfl : k = 16 := by omega
      have hfit : tx ls 15 ≤ 32768 := by
        rw [tx_15]
        have h1 := hql.out
        rw [hq.out] at h1
        exact h1
      have hqT : q = tx ls 15 := by rw [tx_15]; exact hq.out
      have HFIT := Lib.hid hfit
      have HQT := Lib.hid hqT
      have hql2 : q ≤ 32768 := by rw [hqT]; exact hfit
      clear hfit hqT
      have hc0 : wr.cell? ⟨G, 0, none⟩ = some (.slice (some ⟨w.heap.size + 1, 0, none⟩) n n) := hGb.cell rfl
      have hc1 : wr.cell? ⟨G, 1, none⟩ = some (.int .i64 1) := hGb.cell rfl
      have hfc := hGb.free 1
      have hv0 : wr.cell? ⟨w.heap.size, 0, none⟩ = some (.slice none 0 0) := hV.cell rfl
      have hv1 : wr.cell? ⟨w.heap.size, 1, none⟩ = some (.int .i64 0) := hV.cell rfl
      have hw0 := hV.free 0
      have hw1 := hV.free 1
      have hne1 : ¬ w.heap.size = G := by omega
      have hne2 : ¬ G = w.heap.size := by omega
      by_cases hwh : q = 32768
      · have hwi : (q : Int) = 32768 := by omega
        have hF : 0 = if tx ls 15 < 32768 then 1 else 0 := by rw [← HQT.out, hwh]; rfl
        have HF := Lib.hid hF
        clear hwh hF hql2
        go_wp2
        have hVa := hV.apart (p := ⟨G, 1, none⟩) (by simpa using hne1) (.int .i64 0)
        have hVb := (hVa.put 0 (.slice (some ⟨w.heap.size + 1, 0, none⟩) n n)).put 1 (.int .i64 0)
        have hfe := ((hfr.but (g := G) (by omega) (But.put (g := G) (i := 1) wr (.int .i64 0))).but (g := w.heap.size) (Nat.le_refl _) (But.put (g := w.heap.size) (i := 0) _ (.slice (some ⟨w.heap.size + 1, 0, none⟩) n n))).but (g := w.heap.size) (Nat.le_refl _) (But.put (g := w.heap.size) (i := 1) _ (.int .i64 0))
        have hBe := ((hBt.put (i := 1) hGb (by decide) (by omega) (.int .i64 0)).put (i := 0) hVa (by decide) (by omega) (.slice (some ⟨w.heap.size + 1, 0, none⟩) n n)).put (i := 1) (hVa.put 0 (.slice (some ⟨w.heap.size + 1, 0, none⟩) n n)) (by decide) (by omega) (.int .i64 0)
        refine bodyPost_ret (results_cell_row (p := 2) (by kernel_rfl) _ _ w.heap.size tRef #[.slice (some ⟨w.heap.size + 1, 0, none⟩) n n, .int .i64 0] (0, 0) _ rfl hVb Try.underlying31 rfl (by kernel_rfl)) rfl ⟨hfe, .inr ⟨HFIT.out, _, _, R, 0, by rw [HLN.out]; rfl, HF.out, rfl, hBe⟩⟩
      · have hwi : ¬ (q : Int) = 32768 := by omega
        have hF : 1 = if tx ls 15 < 32768 then 1 else 0 := by rw [← HQT.out, if_pos (by omega)]
        have HF := Lib.hid hF
        clear hwh hF hql2
        go_wp2
        have hVb := (hV.put 0 (.slice (some ⟨w.heap.size + 1, 0, none⟩) n n)).put 1 (.int .i64 1)
        have hfe := (hfr.but (g := w.heap.size) (Nat.le_refl _) (But.put (g := w.heap.size) (i := 0) _ (.slice (some ⟨w.heap.size + 1, 0, none⟩) n n))).but (g := w.heap.size) (Nat.le_refl _) (But.put (g := w.heap.size) (i := 1) _ (.int .i64 1))
        have hBe := (hBt.put (i := 0) hV (by decide) (by omega) (.slice (some ⟨w.heap.size + 1, 0, none⟩) n n)).put (i := 1) (hV.put 0 (.slice (some ⟨w.heap.size + 1, 0, none⟩) n n)) (by decide) (by omega) (.int .i64 1)
        refine bodyPost_ret (results_cell_row (p := 2) (by kernel_rfl) _ _ w.heap.size tRef #[.slice (some ⟨w.heap.size + 1, 0, none⟩) n n, .int .i64 1] (0, 0) _ rfl hVb Try.underlying31 rfl (by kernel_rfl)) rfl ⟨hfe, .inr ⟨HFIT.out, _, _, R, 1, by rw [HLN.out]; rfl, HF.out, rfl, hBe⟩⟩
end Go.Proofs.Ytdcdkafpmnlgoaa.huffp
