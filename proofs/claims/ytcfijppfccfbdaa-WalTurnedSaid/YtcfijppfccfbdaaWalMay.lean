/-
  wal.may; the reference's Right and Rising. My own text.
-/
import Derived.Test.YtcfijppfccfbdaaWalLeaf
namespace Go.Proofs.Ytcfijppfccfbdaa.walp
open Go.RowKit Go.Proofs.Ytcfijppfccfbdaa.base Go.Proofs.Ytcfijppfccfbdaa.num Go.Proofs.Ytcfijppfccfbdaa.word Go.Proofs.Ytcfijppfccfbdaa.waln
set_option linter.unusedVariables false

/-- as the program goes through them -/
def okW (q : Int) : List Wp → Bool
  | [] => true
  | p :: r => decide (q < p.no) && (fitN p.no && (decide (p.n = 512) && okW p.no r))
theorem okW_is (l : List Wp) (q : Int) (h : ∀ p ∈ l, p.bs.length = p.n) : okW q l = ((l.map Wp.pg).all (fun p => decide (p.2.length = 512)) && rise q ((l.map Wp.pg).map Prod.fst)) := by
  induction l generalizing q with
  | nil => rfl
  | cons p r ih =>
    have h1 := h p (by simp)
    have h2 := ih p.no fun x hx => h x (by simp [hx])
    simp only [okW, h2, List.map_cons, List.all_cons, rise, Wp.pg, h1]
    cases decide (q < p.no) <;> cases fitN p.no <;> cases decide (p.n = 512) <;> simp
theorem right_is (l : List Wp) (h : ∀ p ∈ l, p.bs.length = p.n) : right (l.map Wp.pg) = (decide (l.length ≤ 4096) && okW (-1) l) := by
  rw [okW_is l _ h, right, List.length_map]
  cases decide (l.length ≤ 4096) <;> simp
theorem WsAt.lens {w : World} {B n : Nat} {A : Option Addr} {l : List Wp} (h : WsAt w B A n l) : ∀ p ∈ l, p.bs.length = p.n := fun p hp => Rd.len8 (h.2.2 p hp).1
theorem drop_at {α : Type} {l : List α} {k : Nat} {s : α} (h : l[k]? = some s) : l.drop k = s :: l.drop (k + 1) := by
  obtain ⟨hk, e⟩ := List.getElem?_eq_some_iff.1 h
  rw [List.drop_eq_getElem_cons hk, e]
theorem fits3 (z : Int) : word.fits (word.wide 3) [z] = fitN z := pagp.fits3 z

set_option maxRecDepth 100000 in
theorem may_any (A : Option Addr) (n c : Nat) (l : List Wp) (w : World) (B : Nat) (h : WsAt w B A n l) (hB : B ≤ w.heap.size) (b : Bool) (hb : right (l.map Wp.pg) = b) :
    Calls Try.prog 16 #[.slice A n c] w fun e w' => e = .returned (.bool b) ∧ Fresh w w' := by
  rw [right_is l h.lens, h.1] at hb
  by_cases hbig : 4096 < n
  · rw [decide_eq_false (by omega), Bool.false_and] at hb
    subst hb
    clear h
    go_enter Try.func16, Try.ntmps16
    go_wp2
    go_ret
    exact ⟨rfl, Fresh.refl _⟩
  · rw [decide_eq_true (by omega), Bool.true_and] at hb
    have hl := h.1
    have HL := Lib.hid hl
    have HB := Lib.hid hb
    clear hb hl
    go_enter Try.func16, Try.ntmps16
    go_wp2
    go_loopw [3, 11] (fun q i wr => ∃ (k : Nat) (z : Int), k ≤ n ∧ i = .int .i64 k ∧ q = .int .i64 z ∧ Hid (okW z (l.drop k) = b) ∧ Fresh w wr) (fun _ i _ => n - (intOf i).toNat)
    case atStart => exact ⟨0, -1, by omega, rfl, rfl, HB, Fresh.refl _⟩
    case round =>
      obtain ⟨k, z, hk, rfl, rfl, hR, hfr⟩ := hrel
      by_cases hlt : k < n
      · obtain ⟨bb, off, s, rfl, hbb, hs, hrow, hrd, hok⟩ := (h.below hfr hB).at_ hlt
        have hR2 := hR.out
        rw [drop_at hs] at hR2
        simp only [okW] at hR2
        obtain ⟨no, sA, sn, sc, sbs⟩ := s
        simp only at hR2 hrd
        have hno := hok.no
        simp only at hno
        have hRG : Hid (wr.rangeAt bb (off + k * 2) [.int .i64 no, .slice sA sn sc]) := Lib.hid hrow
        have hij : (k : Int) < (n : Int) := by omega
        have hfw := Lib.hid (hfr.trans (Fresh.alloc wr (.cells #[.int .i64 no, .slice sA sn sc] tWrite)))
        have hbk := Lib.hid (Bk.made wr tWrite #[.int .i64 no, .slice sA sn sc])
        have hzf := pagp.one_wf (WalkArith.wf_i64 hno)
        clear hR hrow hrd hok hs
        by_cases h1 : no ≤ z
        · have e1 : decide (z < no) = false := decide_eq_false (by omega)
          rw [e1, Bool.false_and] at hR2
          subst hR2
          clear e1 hzf hno
          go_wp2_with ((with_reducible (refine at_slot_ 14 ?_)); refine wpList_load_mid rfl tWrite (.tmp 13) rfl bb (off + k * 2) rfl [.int .i64 no, .slice sA sn sc] _ hRG.out Try.underlying27 rfl size_write ?_)
          go_ret
          exact ⟨rfl, hfw.out⟩
        · have e1 : decide (z < no) = true := decide_eq_true (by omega)
          rw [e1, Bool.true_and] at hR2
          have h1' : z < no := by omega
          have hfit := fits3 no
          have HF := Lib.hid (show ∀ (W : World) (g : Nat), g = W.heap.size → Calls Try.prog 26 #[.int .i64 3, .slice (some ⟨g, 0, none⟩) 1 1] (W.alloc (.cells #[.int .i64 no] tI)) fun e w' => e = .returned (.bool (fitN no)) ∧ _ = w' from fun W g hg => by subst hg; exact word.fits_is _ 1 1 [no] 3 _ _ _ (Rd.lit W #[.int .i64 no] tI) (by unfold maxLen; omega) hzf hfit)
          clear e1 hzf hfit
          by_cases h2 : fitN no = true
          · rw [h2, Bool.true_and] at hR2
            rw [h2] at HF
            clear h2 hno
            by_cases h3 : sn = 512
            · subst h3
              rw [decide_eq_true rfl, Bool.true_and] at hR2
              have HR2 := Lib.hid hR2
              clear hR2
              go_wp2_with (first
                | ((with_reducible (refine at_slot_ 14 ?_)); refine wpList_load_mid rfl tWrite (.tmp 13) rfl bb (off + k * 2) rfl [.int .i64 no, .slice sA 512 sc] _ hRG.out Try.underlying27 rfl size_write ?_)
                | (go_at_call 26; (refine (HF.out _ _ (by simp)).mono ?_); rintro e w1 ⟨rfl, rfl⟩))
              go_roundw
              case rel => exact ⟨k + 1, no, by omega, by go_num, rfl, HR2, hfw.out.trans (Fresh.alloc _ _)⟩
              case measure => simp [intOf]; omega
            · rw [decide_eq_false h3, Bool.false_and] at hR2
              subst hR2
              have h3' : ((sn : Int) != 512) = true := by rw [bne_iff_ne]; omega
              clear h3
              go_wp2_with (first
                | ((with_reducible (refine at_slot_ 14 ?_)); refine wpList_load_mid rfl tWrite (.tmp 13) rfl bb (off + k * 2) rfl [.int .i64 no, .slice sA sn sc] _ hRG.out Try.underlying27 rfl size_write ?_)
                | (go_at_call 26; (refine (HF.out _ _ (by simp)).mono ?_); rintro e w1 ⟨rfl, rfl⟩))
              go_ret
              exact ⟨rfl, hfw.out.trans (Fresh.alloc _ _)⟩
          · have h2' : fitN no = false := by simpa using h2
            rw [h2', Bool.false_and] at hR2
            rw [h2'] at HF
            subst hR2
            clear h2 h2' hno
            go_wp2_with (first
              | ((with_reducible (refine at_slot_ 14 ?_)); refine wpList_load_mid rfl tWrite (.tmp 13) rfl bb (off + k * 2) rfl [.int .i64 no, .slice sA sn sc] _ hRG.out Try.underlying27 rfl size_write ?_)
              | (go_at_call 26; (refine (HF.out _ _ (by simp)).mono ?_); rintro e w1 ⟨rfl, rfl⟩))
            go_ret
            exact ⟨rfl, hfw.out.trans (Fresh.alloc _ _)⟩
      · have h0 : k = n := by omega
        subst h0
        have hR2 := hR.out
        rw [List.drop_of_length_le (by have := HL.out; omega)] at hR2
        simp only [okW] at hR2
        subst hR2
        clear hR
        go_wp2
        go_ret
        exact ⟨rfl, hfr⟩
end Go.Proofs.Ytcfijppfccfbdaa.walp
