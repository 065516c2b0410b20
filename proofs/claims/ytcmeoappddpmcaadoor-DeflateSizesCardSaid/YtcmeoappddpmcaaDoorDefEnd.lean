import Derived.Test.YtcmeoappddpmcaaDoorDefOut
/-
  begun, writing, ended: the bits of all steps. My own text.
-/
namespace Go.Proofs.YtcmeoappddpmcaaDoor.defp
open Go.RowKit Go.Maps Go.Proofs.YtcmeoappddpmcaaDoor.base Go.Proofs.YtcmeoappddpmcaaDoor.num Go.Proofs.YtcmeoappddpmcaaDoor.bitnum Go.Proofs.YtcmeoappddpmcaaDoor.bitp Go.Proofs.YtcmeoappddpmcaaDoor.huffnum Go.Proofs.YtcmeoappddpmcaaDoor.huffp
set_option linter.unusedVariables false
theorem scells_at : ∀ (l : List (Nat × Nat)) (i : Nat) (s : Nat × Nat), l[i]? = some s → ∀ (j : Nat) (v : Value), (scell s)[j]? = some v → (scells l)[i * 2 + j]? = some v
  | a :: r, 0, s, h, j, v, hv => by
    injection h with h
    subst h
    show (scell a ++ scells r)[0 * 2 + j]? = _
    rw [Nat.zero_mul, Nat.zero_add, List.getElem?_append_left (List.getElem?_eq_some_iff.1 hv).1]
    exact hv
  | a :: r, i + 1, s, h, j, v, hv => by
    have ih := scells_at r i s h j v hv
    show (scell a ++ scells r)[(i + 1) * 2 + j]? = _
    rw [List.getElem?_append_right (by show 2 ≤ _; omega), show (i + 1) * 2 + j - (scell a).length = i * 2 + j by show _ - 2 = _; omega]
    exact ih
theorem Own2.at_ {w : World} {base n c : Nat} {A : Option Addr} {l : List (Nat × Nat)} (h : Own2 w base A n c l) {i : Nat} {s : Nat × Nat} (hs : l[i]? = some s) :
    ∃ g, A = some ⟨g, 0, none⟩ ∧ w.rangeAt g (i * 2) (scell s) := by
  have hl := h.len
  have hi : i < n := by rw [← hl]; exact (List.getElem?_eq_some_iff.1 hs).1
  rcases h.2 with ⟨_, hn⟩ | ⟨g, cap, cur, hv, hb, hg, h1, h2, h3, h4⟩
  · omega
  · injection hv with hA _ _
    refine ⟨g, hA, fun j v hj => ?_⟩
    have hc := scells_at l i s hs j v hj
    rw [← h4, List.getElem?_take] at hc
    split at hc
    · rw [cell_of_row w g (i * 2 + j) _ _ (0, 0) hg]
      rw [← hc]
      simp
    · cases hc
/-- the bits of all steps -/
def outs (ls ld : List Nat) : List (Nat × Nat) → Nat × Nat
  | [] => (0, 0)
  | s :: r => ((out ls ld s).1 + (outs ls ld r).1, (out ls ld s).2 + 2 ^ (out ls ld s).1 * (outs ls ld r).2)
theorem outs_snoc (ls ld : List Nat) (s : Nat × Nat) : ∀ l, outs ls ld (l ++ [s]) = ((outs ls ld l).1 + (out ls ld s).1, (outs ls ld l).2 + 2 ^ (outs ls ld l).1 * (out ls ld s).2)
  | [] => by simp [outs]
  | a :: r => by
    have ih := outs_snoc ls ld s r
    rw [List.cons_append]
    simp only [outs]
    rw [ih]
    simp only [Nat.pow_add, Nat.mul_add, Nat.mul_assoc, Nat.add_assoc]
theorem out_le (ls ld : List Nat) (s : Nat × Nat) (h : Ok s) : (out ls ld s).1 ≤ 56 := by
  have h1 := Fs_le ls (sy s)
  have h2 := Fs_le ld (di s)
  have h3 := syN_le s h
  have h4 := diN_le s (by rcases h with h | h <;> omega)
  unfold out out1
  simp only
  split
  · simp only; omega
  · simp only; omega
theorem outs_le (ls ld : List Nat) : ∀ l : List (Nat × Nat), (∀ s ∈ l, Ok s) → (outs ls ld l).1 ≤ 56 * l.length
  | [], _ => by simp [outs]
  | a :: r, h => by
    have h1 := out_le ls ld a (h a (by simp))
    have h2 := outs_le ls ld r fun s hs => h s (by simp [hs])
    simp only [outs, List.length_cons]
    omega
set_option maxRecDepth 100000 in
set_option maxHeartbeats 4000000 in
theorem begun_any (k : Nat) (hk : k < 4) (w : World) : Calls Tryd.prog 14 #[.int .i64 k] w fun e w' => ∃ g bl, e = .returned (ptr g) ∧ WtrAt w' g (1 + 2 * k) 3 bl ∧ Since w w' bl := by
  have hu : u64 (k : Int) % 2 ^ 2 = k := by unfold u64; omega
  have HU := Lib.hid hu
  clear hu hk
  go_enter Tryd.func14, Tryd.ntmps14
  go_wp2_with (first
    | (go_at_call 27; refine (write_any w).mono ?_; rintro e w1 ⟨g, bl, rfl, hW1, hS1⟩; have HP1 := Lib.hid (put_any g 0 0 1 1 1 1 bl w1 hW1 (by omega) rfl rfl))
    | (go_at_call 24; (with_reducible refine (HP1.out).mono ?_); rintro e w2 ⟨rfl, bl2, hW2, hT2⟩; have HP2 := Lib.hid (put_any g _ _ 2 k 2 k bl2 w2 hW2 (by omega) rfl HU.out))
    | (go_at_call 24; (with_reducible refine (HP2.out).mono ?_); rintro e w3 ⟨rfl, bl3, hW3, hT3⟩))
  go_ret
  have e1 : 0 + 2 ^ 0 * 1 + 2 ^ (0 + 1) * k = 1 + 2 * k := by omega
  rw [e1] at hW3
  exact ⟨g, bl3, rfl, hW3, (hS1.turn hT2).turn hT3⟩
set_option maxRecDepth 100000 in
set_option maxHeartbeats 4000000 in
theorem writing_is (gw gs gd : Nat) (w : World) : Calls Tryd.prog 31 #[ptr gw, ptr gs, ptr gd] w fun e w' => ∃ bw bs bd, e = .returned (.func (.func 47) #[] #[ptr bw, ptr bs, ptr bd]) ∧ w.heap.size ≤ bw ∧ w.heap.size ≤ bs ∧ w.heap.size ≤ bd ∧ Bk w' bw 37 [ptr gw] ∧ Bk w' bs 39 [ptr gs] ∧ Bk w' bd 39 [ptr gd] ∧ Fresh w w' := by
  obtain ⟨w1, hw1⟩ : ∃ w1, w.alloc (.cells #[ptr gw] 37) = w1 := ⟨_, rfl⟩
  obtain ⟨w2, hw2⟩ : ∃ w2, w1.alloc (.cells #[ptr gs] 39) = w2 := ⟨_, rfl⟩
  obtain ⟨w3, hw3⟩ : ∃ w3, w2.alloc (.cells #[ptr gd] 39) = w3 := ⟨_, rfl⟩
  have k1 := Bk.made w 37 #[ptr gw]
  have k2 := Bk.made w1 39 #[ptr gs]
  have k3 := Bk.made w2 39 #[ptr gd]
  have f1 : Fresh w w1 := by rw [← hw1]; exact Fresh.alloc _ _
  have f2 : Fresh w1 w2 := by rw [← hw2]; exact Fresh.alloc _ _
  have f3 : Fresh w2 w3 := by rw [← hw3]; exact Fresh.alloc _ _
  rw [hw1] at k1
  rw [hw2] at k2
  rw [hw3] at k3
  have s1 : w1.heap.size = w.heap.size + 1 := by rw [← hw1]; simp
  have s2 : w2.heap.size = w.heap.size + 1 + 1 := by rw [← hw2]; simp [s1]
  rw [s1] at k2
  rw [s2] at k3
  have K := Lib.hid (And.intro ((k1.fresh f2).fresh f3) (And.intro (k2.fresh f3) k3))
  have F := Lib.hid ((f1.trans f2).trans f3)
  subst hw3
  subst hw2
  subst hw1
  clear k1 k2 k3 f1 f2 f3 s1 s2
  go_enter Tryd.func31, Tryd.ntmps31
  go_wp2
  go_ret
  exact ⟨_, _, _, rfl, by omega, by omega, by omega, K.out.1, K.out.2.1, K.out.2.2, F.out⟩
theorem stepSize : (Tryd.prog.info? 52).map (·.size) = some 2 := by kernel_rfl
set_option maxRecDepth 100000 in
set_option maxHeartbeats 8000000 in
theorem ended_any (gw gs gd N m : Nat) (ls ld bls bld bl : List Nat) (A : Option Addr) (n c : Nat) (l : List (Nat × Nat)) (base : Nat) (w : World) (hW : WtrAt w gw N m bl) (hS : CodeAt w gs ls bls) (hD : CodeAt w gd ld bld)
    (h3 : ∀ b ∈ bls, b ∉ bl) (h4 : ∀ b ∈ bld, b ∉ bl) (hst : Own2 w base A n c l) (hst2 : ∀ g, (Value.slice A n c).ownBlock = some g → g ∉ bl)
    (hok : ∀ s ∈ l, Ok s ∧ sy s < ls.length ∧ (s.2 ≠ 0 → di s < ld.length)) (hn : n ≤ 16777217) (hm : m ≤ 1000000) :
    Calls Tryd.prog 18 #[ptr gw, .slice A n c, ptr gs, ptr gd] w fun e w' => ∃ A' c' bl', e = .returned (.slice A' ((m + (outs ls ld l).1 + 7) / 8) c') ∧ Own w' w.heap.size 5 A' ((m + (outs ls ld l).1 + 7) / 8) c' ((low ((m + (outs ls ld l).1 + 7) / 8) (N + 2 ^ m * (outs ls ld l).2)).map bv) ∧ Turn bl bl' w w' := by
  have hlen := hst.len
  have HL := Lib.hid hlen
  have HOK := Lib.hid hok
  have hbound : ∀ i, (outs ls ld (l.take i)).1 ≤ 56 * n := fun i => by
    have h1 := outs_le ls ld (l.take i) fun s hs => (hok s (List.mem_of_mem_take hs)).1
    have h2 : (l.take i).length ≤ n := by rw [List.length_take]; omega
    omega
  have HB := Lib.hid hbound
  have hrow : ∀ (W : World) (bl' : List Nat), Turn bl bl' w W → Own2 W base A n c l := fun W bl' k => hst.keep fun g hg => k.block g (by obtain ⟨_, cs, fr, hq⟩ := hst.block g hg; exact (Array.getElem?_eq_some_iff.1 hq).1) (hst2 g hg)
  have HROW := Lib.hid hrow
  have hin0 := hW.1.inside
  have hen : ∀ (W : World) (bw bs bd : Nat), Fresh w W → w.heap.size ≤ bw → w.heap.size ≤ bs → w.heap.size ≤ bd → Bk W bw 37 [ptr gw] → Bk W bs 39 [ptr gs] → Bk W bd 39 [ptr gd] → Env W bw bs bd gw gs gd ls ld bls bld N m bl := fun W bw bs bd k i0 i1 i2 k0 k1 k2 =>
    { b0 := k0, b1 := k1, b2 := k2, wr := hW.fresh k, cs := hS.fresh k, cd := hD.fresh k, s0 := fun h => by have := hin0 _ h; omega, s1 := fun h => by have := hin0 _ h; omega, s2 := fun h => by have := hin0 _ h; omega, s3 := h3, s4 := h4 }
  have HEN := Lib.hid hen
  have hwi := writing_is gw gs gd w
  have HWI := Lib.hid hwi
  have hz0 : outs ls ld (l.take 0) = (0, 0) := rfl
  clear hen hrow hbound hok hlen hwi hW hS hD h3 h4 hst hst2 hin0
  go_enter Tryd.func18, Tryd.ntmps18
  go_wp2_with (go_at_call 31; (with_reducible refine HWI.out.mono ?_); rintro e w1 ⟨bw, bs, bd, rfl, i0, i1, i2, k0, k1, k2, hf1⟩; have HE1 := Lib.hid (HEN.out w1 bw bs bd hf1 i0 i1 i2 k0 k1 k2); have HF1 := Lib.hid hf1; clear i0 i1 i2 k0 k1 k2 hf1)
  go_loopw [18] (fun i wr => ∃ (k NN mm : Nat) (blr : List Nat), i = .int .i64 (k : Nat) ∧ k ≤ n ∧ Hid (NN = N + 2 ^ m * (outs ls ld (l.take k)).2) ∧ Hid (mm = m + (outs ls ld (l.take k)).1) ∧ Hid (Env wr bw bs bd gw gs gd ls ld bls bld NN mm blr) ∧ Hid (Turn bl blr w wr)) (fun i _ => n - (intOf i).toNat)
  case atStart => exact ⟨0, N, m, bl, rfl, Nat.zero_le _, Lib.hid (by rw [hz0]; simp), Lib.hid (by rw [hz0]; simp), HE1, Lib.hid (Turn.fresh HF1.out)⟩
  case round =>
    obtain ⟨k, NN, mm, blr, rfl, hk, hNN, hmm, HE, HT⟩ := hrel
    by_cases hlt : k < n
    · obtain ⟨s, hs⟩ : ∃ s, l[k]? = some s := ⟨_, List.getElem?_eq_getElem (by rw [HL.out]; exact hlt)⟩
      obtain ⟨g, rfl, hrange⟩ := Own2.at_ (HROW.out _ _ HT.out) hs
      obtain ⟨o1, o2, o3⟩ := HOK.out s (List.mem_of_getElem? hs)
      have hmm2 : mm ≤ 1099511627000 := by
        have h1 := HB.out k
        have h2 := hmm.out
        omega
      have ht : l.take (k + 1) = l.take k ++ [s] := by rw [List.take_add_one, hs]; rfl
      have hsnoc := outs_snoc ls ld s (l.take k)
      rw [← ht] at hsnoc
      clear ht
      have hNN2 : Hid (NN + 2 ^ mm * (out ls ld s).2 = N + 2 ^ m * (outs ls ld (l.take (k + 1))).2) := by
        show _ = _
        rw [hsnoc, hNN.out, hmm.out]
        simp only [Nat.pow_add, Nat.mul_add, Nat.mul_assoc, Nat.add_assoc]
      have hmm3 : Hid (mm + (out ls ld s).1 = m + (outs ls ld (l.take (k + 1))).1) := by
        show _ = _
        rw [hsnoc, hmm.out]
        simp only [Nat.add_assoc]
      obtain ⟨x, y⟩ := s
      simp only [scell] at hrange
      have HR := Lib.hid hrange
      have hcall : ∀ W, Fresh wr W → Calls Tryd.prog 47 #[.agg #[.int .u16 x, .int .u16 y], ptr bw, ptr bs, ptr bd] W fun e w' => e = .returned (.tuple #[]) ∧ ∃ bl', Env w' bw bs bd gw gs gd ls ld bls bld (NN + 2 ^ mm * (out ls ld (x, y)).2) (mm + (out ls ld (x, y)).1) bl' ∧ Turn blr bl' W w' := fun W kf => writing_any bw bs bd gw gs gd ls ld bls bld NN mm blr (x, y) W (HE.out.fresh kf) o1 hmm2 o2 o3
      have HC := Lib.hid hcall
      have hfa := Fresh.alloc wr (.cells #[.int .u16 x, .int .u16 y] 52)
      have HFA := Lib.hid hfa
      clear hs hrange o1 o2 o3 hmm2 hsnoc hcall hfa hz0
      go_wp2_with (first
        | ((with_reducible (refine at_slot_ 21 ?_)); refine wpList_load_mid rfl 52 (.tmp 20) rfl g (k * 2) rfl _ _ HR.out Tryd.underlying52 rfl stepSize ?_)
        | (go_at_call 47; (with_reducible refine (HC.out _ HFA.out).mono ?_); rintro e w2 ⟨rfl, bl2, hE2, hT2⟩))
      refine ⟨⟨k + 1, _, _, bl2, by go_num, by omega, hNN2, hmm3, Lib.hid hE2, Lib.hid (HT.out.trans ((Turn.fresh HFA.out).trans hT2))⟩, ?_⟩
      simp [intOf]; omega
    · obtain rfl : k = n := by omega
      have hall : l.take k = l := List.take_of_length_le (by rw [HL.out]; exact Nat.le_refl _)
      have hb := HB.out k
      rw [hall] at hb hNN hmm
      have hNN' := hNN.out
      have hmm' := hmm.out
      subst hNN'
      subst hmm'
      have HBY := Lib.hid (bytes_any gw _ _ blr wr HE.out.wr (by omega))
      clear hb hall hz0 hNN hmm
      go_wp2_with (go_at_call 32; (with_reducible refine HBY.out.mono ?_); rintro e w3 ⟨A3, c3, rfl, hf3, ho3⟩)
      go_ret
      exact ⟨A3, c3, blr, rfl, Own.low0 ho3 HT.out.size, HT.out.trans (Turn.fresh hf3)⟩
end Go.Proofs.YtcmeoappddpmcaaDoor.defp
