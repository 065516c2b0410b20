/-
  Layer 13: match, Match. My own text.
-/
import Derived.Test.YtkkkjadfhimahaaDoorGlbGo
namespace Go.Proofs.YtkkkjadfhimahaaDoor.glbp
open Go.RowKit Go.Proofs.YtkkkjadfhimahaaDoor.base Go.Proofs.YtkkkjadfhimahaaDoor.nam Go.Proofs.YtkkkjadfhimahaaDoor.glb
set_option linter.unusedVariables false
theorem boolInfo : (Tryd.prog.info? tBool).map (fun i => (i.zero, i.size, i.bytes)) = some (some (.bool false), 1, 1) := by kernel_rfl
theorem rep_false (L : Nat) : List.replicate L (Value.bool false) = rowB L fun _ => false := by
  unfold rowB
  apply List.ext_getElem?
  intro i
  by_cases h : i < L
  · simp [h]
  · simp [h]
set_option maxRecDepth 100000 in
theorem match_any (A : Option Addr) (l cA m cN : Nat) (ps : List Pt) (N : Option Addr) (n : List Nat) (w : World) (hA : Pts w A l ps) (hN : Rd w w.heap.size N m (n.map r32)) (hl : l ≤ maxLen) (hm : m ≤ 1000) :
    Calls Tryd.prog 22 #[.slice A l cA, .slice N m cN] w fun e w' => e = .returned (.bool (mt ps n)) ∧ Fresh w w' := by
  obtain ⟨i0, hi0, hz0, hz1, hz2⟩ := info_parts boolInfo
  have hps : ps.length = l := by obtain ⟨vs, h1, h2, h3, h4⟩ := hA; exact h2
  have hn : n.length = m := by have := hN.1; rwa [List.length_map] at this
  have hg2 := fun (W : World) (hW : Bk W w.heap.size tBool (rowB (m + 1) fun _ => false)) => show Bk (W.setCell ⟨w.heap.size, 0, none⟩ (.bool true)) w.heap.size tBool (rowB (m + 1) fun i => decide (i = 0)) by
    have h := hW.put 0 (.bool true)
    rw [rowB_set] at h
    have e : (rowB (m + 1) fun i => if i = 0 then true else false) = rowB (m + 1) fun i => decide (i = 0) := rowB_congr fun i _ => by
      by_cases h : i = 0
      · subst h; rfl
      · rw [if_neg h, decide_eq_false h]
    rwa [e] at h
  unfold maxLen at hl
  have HA := Lib.hid hA
  have HN := Lib.hid hN
  have HL := Lib.hid hps
  have HNL := Lib.hid hn
  have HG2 := Lib.hid hg2
  clear hA hN hps hn hg2
  have em : IntKind.i64.wrap ((m : Int) + 1) = ((m + 1 : Nat) : Int) := by rw [IntWalk.i64_in _ (by omega)]; omega
  go_enter Tryd.func22, Tryd.ntmps22
  go_wp2_with ((with_reducible (refine at_slot_ 11 ?_)); refine wpList_make_blk rfl 62 (.tmp 10) (.tmp 10) rfl tBool i0 (.bool false) Tryd.underlying62 hi0 hz0 hz1 rfl (m + 1) (by first | rfl | (simp; done) | simp [em]) (by first | rfl | (simp; done) | simp [em]) (by rw [hz2]; omega) (by unfold maxLen; omega) w.heap.size rfl ?_; intro w1 hb1 hf1; rw [rep_false] at hb1; have f1 := hb1.free 0; have k1 := hb1.cell (rowB_get _ (show 0 < m + 1 by omega)); have HB1 := Lib.hid hb1; have HF1 := Lib.hid hf1; clear hb1 hf1)
  have hb2 := HG2.out _ HB1.out
  have hf2 : Fresh w (w1.setCell ⟨w.heap.size, 0, none⟩ (.bool true)) := Fresh.but HF1.out (Nat.le_refl _) (But.put _ _)
  have HB2 := Lib.hid hb2
  have HF2 := Lib.hid hf2
  clear hb2 hf2
  go_loopw [16] (fun v wr => ∃ (k : Nat) (E : Nat → Bool), k ≤ l ∧ v = .int .i64 k ∧ Bk wr w.heap.size tBool (rowB (m + 1) E) ∧ Hid (acc E (ps.drop k) n ↔ mt ps n = true) ∧ Fresh w wr) (fun v _ => l - (intOf v).toNat)
  case atStart => exact ⟨0, _, Nat.zero_le _, rfl, HB2.out, acc_start ps n, HF2.out⟩
  case round =>
    obtain ⟨k, E, hk, rfl, hb, hacc, hfr⟩ := hrel
    by_cases hlt : k < l
    · obtain ⟨p, hp⟩ : ∃ p, ps[k]? = some p := ⟨_, List.getElem?_eq_getElem (by rw [HL.out]; exact hlt)⟩
      obtain ⟨b, off, v, rfl, hcv, hpv⟩ := (HA.out.fresh hfr).at_ hp
      have hgo := goOn_any w.heap.size (m + 1) m cN w.heap.size E p v N n wr hb hpv ((HN.out.below hfr (Nat.le_refl _))) (Nat.le_refl _) hm
      have hdr : ps.drop k = p :: ps.drop (k + 1) := by
        have h1 : k < ps.length := by rw [HL.out]; exact hlt
        rw [List.drop_eq_getElem_cons h1]
        congr 1
        have h2 := List.getElem?_eq_getElem h1
        rw [hp] at h2
        exact (Option.some.inj h2).symm
      have hacc2 : acc (stepE p n E) (ps.drop (k + 1)) n ↔ mt ps n = true := by
        have h := hacc.out
        rw [hdr] at h
        exact (acc_step E p _ n).trans h
      have HGO := Lib.hid hgo
      have HAC := Lib.hid hacc2
      have HF := Lib.hid hfr
      clear hb hacc hfr hpv hgo hdr hacc2 hp
      go_wp2_with (go_at_call 31; (refine HGO.out.mono ?_); rintro e w2 ⟨rfl, hb2, hbut2⟩; have HBZ := Lib.hid hb2; have HFZ := Lib.hid (Fresh.but HF.out (Nat.le_refl _) hbut2); clear hb2 hbut2)
      go_roundw
      case rel => exact ⟨k + 1, _, by omega, by go_num, HBZ.out, HAC.out, HFZ.out⟩
      case measure => simp [intOf]; omega
    · obtain rfl : k = l := by omega
      have k0 := hb.cell (rowB_get _ (show m < m + 1 by omega))
      have hE : E m = mt ps n := by
        have h := hacc.out
        rw [List.drop_of_length_le (by rw [HL.out]; exact Nat.le_refl _), acc_end, HNL.out] at h
        rw [Bool.eq_iff_iff]
        exact h
      rw [hE] at k0
      obtain ⟨R, hR⟩ : ∃ R, mt ps n = R := ⟨_, rfl⟩
      rw [hR] at k0
      have HRR := Lib.hid hR
      clear hb hacc hE hR
      go_wp2
      go_ret
      exact ⟨by rw [HRR.out]; rfl, hfr⟩
abbrev tGlob : TypeId := 53
/-- a pattern: where it lies, and its parts -/
def GlobAt (w : World) (g : Nat) (ps : List Pt) : Prop := ∃ A l c, Bk w g tGlob [.slice A l c] ∧ l ≤ maxLen ∧ Pts w A l ps
theorem GlobAt.fresh {w w' : World} {g : Nat} {ps : List Pt} (h : GlobAt w g ps) (k : Fresh w w') : GlobAt w' g ps := by
  obtain ⟨A, l, c, h1, h2, h3⟩ := h
  exact ⟨A, l, c, h1.fresh k, h2, h3.fresh k⟩
abbrev ptg (g : Nat) : Value := .pointer (some ⟨g, 0, none⟩)
section
variable {P : Program} {w : World} {ops : Array Oper} {rest : List Oper} {o : Oper} {a : Act} {Q : Exit → Act → World → Prop}
/-- []rune(text), guarded or not, where it is wanted -/
theorem wpList_runes_of (hgd : Region.wanted o (yielded ops a.tmps) = true) (src dst e : TypeId) (x : Operand) (ho : o.op = .convert src dst x) (hs : P.underlying src = some .string) (hd : P.underlying dst = some (.slice e)) (he : P.underlying e = some (.int .i32))
    (s : ByteArray) (hx : a.eval x = .string s) (l : List Nat) (hl : rns s.data.toList = l) (n : Nat) (hn : l.length = n) (hm : n ≤ 70368744177664)
    (h : ∀ A c w', Fresh w w' → Rd w' w'.heap.size A n (l.map r32) → n ≤ c → c ≤ maxLen → wpList P ops Q rest (a.put o.dst (.slice A n c)) w') : wpList P ops Q (o :: rest) a w := by
  refine wpList_step fun K hK => ?_
  rw [if_pos hgd]
  have hra := runes_are s
  rw [hl] at hra
  have hsz : (Conv.runesFrom s s.size 0 #[]).size = n := by rw [hra]; simp [hn]
  have hrun := run_runes_of_string (P := P) w src dst e s hs hd he (by omega)
  rw [hsz] at hrun
  unfold Oper.wp execOp
  simp only [ho, hx, Sem.run_bind, hrun, Result.andThen_ok]
  refine hK _ _ (h _ _ _ ((Fresh.drew w).trans (Fresh.alloc _ _)) ⟨by rw [List.length_map, hn], fun hpos => ⟨w.heap.size, 0, rfl, by simp, fun j u hu => ?_⟩⟩ (grownCap_ge w n 0 e) (grownCap_le_maxLen w n 0 e (by unfold maxLen; omega)))
  have hcell := cell_of_row (w.drew.alloc (.cells (Conv.runesFrom s s.size 0 #[] ++ Array.replicate (grownCap w n 0 e - n) (.int .i32 0)) e)) w.heap.size j _ e _ (heap_alloc_new w.drew _)
  rw [Nat.zero_add, hcell, hra]
  have hj := (List.getElem?_eq_some_iff.1 hu).1
  rw [List.length_map] at hj
  rw [Array.getElem?_append_left (by simpa using hj)]
  simpa using hu
end
theorem match2_any (g : Nat) (ps : List Pt) (s : ByteArray) (n : List Nat) (hn : rns s.data.toList = n) (w : World) (hg : GlobAt w g ps) (hs : s.size ≤ 1000) :
    Calls Tryd.prog 12 #[ptg g, .string s] w fun e w' => e = .returned (.bool (mt ps n)) ∧ Fresh w w' := by
  obtain ⟨A, l, c, hb, hl, hP⟩ := hg
  have c0 := hb.cell (i := 0) rfl
  have hnl : n.length ≤ 1000 := by
    have h1 := rns_len s.data.toList
    have h2 : s.size = s.data.toList.length := (Array.length_toList (xs := s.data)).symm
    rw [hn] at h1
    omega
  have t1 : decide ((s.size : Int) ≤ 1000) = true := by rw [decide_eq_true_iff]; omega
  obtain ⟨m, hm⟩ : ∃ m, n.length = m := ⟨_, rfl⟩
  rw [hm] at hnl
  have hmt := fun W N cN hW hN => match_any A l c m cN ps N n W hW hN hl hnl
  have HMT := Lib.hid hmt
  have HP := Lib.hid hP
  have HN := Lib.hid hn
  have HM := Lib.hid hm
  obtain ⟨R, hR⟩ : ∃ R, mt ps n = R := ⟨_, rfl⟩
  rw [hR] at HMT ⊢
  clear hmt hb hP hn hm hs hR
  go_enter Tryd.func12, Tryd.ntmps12
  go_wp2_with (first
    | ((with_reducible (refine at_slot_ 18 ?_)); refine wpList_runes_of (by rfl) 9 61 21 (.tmp 17) rfl Tryd.underlying9 Tryd.underlying61 Tryd.underlying21 s rfl n HN.out m HM.out (by omega) ?_; intro N cN w1 hf1 hr1 h1c h1m; have HF1 := Lib.hid hf1; have HR1 := Lib.hid hr1; clear hf1 hr1)
    | (go_at_call 22; (refine (HMT.out w1 N cN (HP.out.fresh HF1.out) HR1.out).mono ?_); rintro e w2 ⟨rfl, hf2⟩))
  go_ret
  exact ⟨by simp, HF1.out.trans hf2⟩
/-- a name that is too long -/
theorem match3_any (v : Value) (hv : v = .pointer none ∨ ∃ g, v = ptg g) (s : ByteArray) (w : World) (hs : v = .pointer none ∨ 1000 < s.size) :
    Calls Tryd.prog 12 #[v, .string s] w fun e w' => e = .returned (.bool false) ∧ Fresh w w' := by
  rcases hv with rfl | ⟨g, rfl⟩
  · clear hs
    go_enter Tryd.func12, Tryd.ntmps12
    go_wp2
    go_ret
    exact ⟨by simp, Fresh.refl _⟩
  · have h : 1000 < s.size := by
      rcases hs with h | h
      · cases h
      · exact h
    have t1 : decide ((s.size : Int) ≤ 1000) = false := by rw [decide_eq_false_iff_not]; omega
    clear hs h
    go_enter Tryd.func12, Tryd.ntmps12
    go_wp2
    go_ret
    exact ⟨by simp, Fresh.refl _⟩
end Go.Proofs.YtkkkjadfhimahaaDoor.glbp
