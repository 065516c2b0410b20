/-
  Layer 13: has, of each kind of part. My own text.
-/
import Derived.Test.YtkkkjadfhimahaaDoorGlbRd
namespace Go.Proofs.YtkkkjadfhimahaaDoor.glbp
open Go.RowKit Go.Proofs.YtkkkjadfhimahaaDoor.base Go.Proofs.YtkkkjadfhimahaaDoor.nam Go.Proofs.YtkkkjadfhimahaaDoor.glb
set_option linter.unusedVariables false
abbrev HasIs (p : Pt) (r : Nat) (w : World) (e : Ending) (w' : World) : Prop := e = .returned (.bool (has p r)) ∧ Fresh w w'
theorem has_it (q r : Nat) (w : World) : Calls Tryd.prog 59 #[r32 q, r32 r] w (HasIs (.it q) r w) := by
  have e1 : has (.it q) r = decide ((r : Int) = (q : Int)) := by
    rw [has]
    by_cases h : r = q
    · rw [decide_eq_true h, decide_eq_true (by omega)]
    · rw [decide_eq_false h, decide_eq_false (by omega)]
  unfold HasIs
  rw [e1]
  clear e1
  go_enter Tryd.func59, Tryd.ntmps59
  go_wp2
  go_ret
  exact ⟨by first | rfl | simp, Fresh.refl _⟩
theorem ne47 (r : Nat) : ((r : Int) != 47) = decide (r ≠ 47) := by
  by_cases h : r = 47
  · subst h; rfl
  · rw [decide_eq_true h, bne_iff_ne]; omega
theorem has_one (r : Nat) (w : World) : Calls Tryd.prog 60 #[.agg #[], r32 r] w (HasIs .one r w) := by
  have e1 : has .one r = ((r : Int) != 47) := (ne47 r).symm
  unfold HasIs
  rw [e1]
  clear e1
  go_enter Tryd.func60, Tryd.ntmps60
  go_wp2
  go_ret
  exact ⟨by first | rfl | simp, Fresh.alloc _ _⟩
theorem has_star (r : Nat) (w : World) : Calls Tryd.prog 62 #[.agg #[], r32 r] w (HasIs .star r w) := by
  have e1 : has .star r = ((r : Int) != 47) := (ne47 r).symm
  unfold HasIs
  rw [e1]
  clear e1
  go_enter Tryd.func62, Tryd.ntmps62
  go_wp2
  go_ret
  exact ⟨by first | rfl | simp, Fresh.alloc _ _⟩
theorem has_all (r : Nat) (w : World) : Calls Tryd.prog 61 #[.agg #[], r32 r] w (HasIs .all r w) := by
  have e1 : has .all r = true := rfl
  unfold HasIs
  rw [e1]
  clear e1
  go_enter Tryd.func61, Tryd.ntmps61
  go_wp2
  go_ret
  exact ⟨rfl, Fresh.alloc _ _⟩
abbrev clo (q : Nat) : Value := .func (.func 65) #[] #[.pointer (some ⟨q, 0, none⟩)]
def inS1 (s : Nat × Nat) (r : Nat) : Bool := decide (s.1 ≤ r) && decide (r ≤ s.2)
theorem clo_any (q r : Nat) (s : Nat × Nat) (w : World) (hq : w.cell? ⟨q, 0, none⟩ = some (r32 r)) : Calls Tryd.prog 65 #[.agg #[r32 s.1, r32 s.2], .pointer (some ⟨q, 0, none⟩)] w fun e w' => e = .returned (.bool (inS1 s r)) ∧ Fresh w w' := by
  obtain ⟨a, b⟩ := s
  have hin := Bk.made w tSpan #[r32 a, r32 b]
  have c0 := hin.cell (i := 0) rfl
  have c1 := hin.cell (i := 1) rfl
  have hq2 : (w.alloc (.cells #[r32 a, r32 b] tSpan)).cell? ⟨q, 0, none⟩ = some (r32 r) := by
    have hlt : q < w.heap.size := by
      by_cases hlt : q < w.heap.size
      · exact hlt
      · simp [World.cell?, Array.getElem?_eq_none (Nat.not_lt.1 hlt)] at hq
    exact (World.cell?_of_block (Below.heap_alloc w _ q hlt)).trans hq
  have e1 : inS1 (a, b) r = (decide ((a : Int) ≤ (r : Int)) && decide ((r : Int) ≤ (b : Int))) := by
    unfold inS1
    simp only
    congr 1
    · by_cases h : a ≤ r
      · rw [decide_eq_true h, decide_eq_true (by omega)]
      · rw [decide_eq_false h, decide_eq_false (by omega)]
    · by_cases h : r ≤ b
      · rw [decide_eq_true h, decide_eq_true (by omega)]
      · rw [decide_eq_false h, decide_eq_false (by omega)]
  rw [e1]
  simp only
  clear e1 hin hq
  go_enter Tryd.func65, Tryd.ntmps65
  by_cases h : (a : Int) ≤ (r : Int)
  · rw [decide_eq_true h]
    go_wp2
    go_ret
    exact ⟨by simp, Fresh.alloc _ _⟩
  · rw [decide_eq_false h]
    go_wp2
    go_ret
    exact ⟨by simp, Fresh.alloc _ _⟩
/-- where the first span is that has the rune -/
def idx (sp : List (Nat × Nat)) (r : Nat) : Int := match sp.findIdx? (fun s => inS1 s r) with
  | some i => (i : Int)
  | none => -1
theorem spanSize : (Tryd.prog.info? tSpan).map (·.size) = some 2 := by kernel_rfl
set_option maxRecDepth 100000 in
theorem index_any (A : Option Addr) (n c q r : Nat) (sp : List (Nat × Nat)) (hn : sp.length = n) (w : World) (hq : w.cell? ⟨q, 0, none⟩ = some (r32 r)) (hr : RdT w tSpan A (sp.flatMap spv)) (hm : n ≤ maxLen) :
    Calls Tryd.prog 66 #[.slice A n c, clo q] w fun e w' => (∃ z : Int, e = .returned (.int .i64 z) ∧ decide (z ≥ 0) = inS sp r) ∧ Fresh w w' := by
  unfold maxLen at hm
  have HN := Lib.hid hn
  have HQ := Lib.hid hq
  have HR := Lib.hid hr
  clear hn hq hr
  go_enter Tryd.func66, Tryd.ntmps66
  go_wp2
  go_loopw [8] (fun v wr => ∃ k : Nat, k ≤ n ∧ v = .int .i64 k ∧ Hid (inS (sp.take k) r = false) ∧ Fresh w wr) (fun v _ => n - (intOf v).toNat)
  case atStart => exact ⟨0, Nat.zero_le _, rfl, rfl, Fresh.refl _⟩
  case round =>
    obtain ⟨k, hk, rfl, hno, hfr⟩ := hrel
    by_cases hlt : k < n
    · obtain ⟨s, hs⟩ : ∃ s, sp[k]? = some s := ⟨_, List.getElem?_eq_getElem (by rw [HN.out]; exact hlt)⟩
      obtain ⟨b, off, rfl, hrg⟩ := (HR.out.fresh hfr).range (o := k * 2) (vs := spv s) (by simp [spv]) (fun j u hu => flat_at spv_len sp k s hs j u hu)
      have hq1 : wr.cell? ⟨q, 0, none⟩ = some (r32 r) := by
        have h := HQ.out
        have hlt : q < w.heap.size := by
          by_cases hlt : q < w.heap.size
          · exact hlt
          · simp [World.cell?, Array.getElem?_eq_none (Nat.not_lt.1 hlt)] at h
        exact (World.cell?_of_block (hfr.block q hlt)).trans h
      have hcl := clo_any q r s wr hq1
      have htk : sp.take (k + 1) = sp.take k ++ [s] := by rw [List.take_add_one, hs]; rfl
      have hin : inS (sp.take (k + 1)) r = inS1 s r := by
        have h := hno.out
        unfold inS at h ⊢
        rw [htk, List.any_append, h]
        simp [inS1]
      have HCL := Lib.hid hcl
      have HRG := Lib.hid hrg
      have HF := Lib.hid hfr
      have HIN := Lib.hid hin
      have HS := Lib.hid hs
      clear hs hrg hq1 hcl htk hin hno hfr
      cases hv : inS1 s r with
      | true =>
        rw [hv] at HCL HIN
        clear hv
        go_wp2_with (first
          | ((with_reducible (refine at_slot_ 15 ?_)); refine wpList_load_mid rfl tSpan (.tmp 14) rfl b (off + k * 2) rfl _ _ HRG.out Tryd.underlying105 rfl spanSize ?_)
          | (go_at_call 65; (refine HCL.out.mono ?_); rintro e w1 ⟨rfl, hf1⟩))
        go_ret
        refine ⟨⟨_, rfl, ?_⟩, HF.out.trans hf1⟩
        have h2 : inS sp r = true := by
          have h := HIN.out
          unfold inS at h ⊢
          rw [List.any_eq_true] at h ⊢
          obtain ⟨x, hx, hx2⟩ := h
          exact ⟨x, List.mem_of_mem_take hx, hx2⟩
        rw [h2, decide_eq_true_iff]
        omega
      | false =>
        rw [hv] at HCL HIN
        clear hv
        go_wp2_with (first
          | ((with_reducible (refine at_slot_ 15 ?_)); refine wpList_load_mid rfl tSpan (.tmp 14) rfl b (off + k * 2) rfl _ _ HRG.out Tryd.underlying105 rfl spanSize ?_)
          | (go_at_call 65; (refine HCL.out.mono ?_); rintro e w1 ⟨rfl, hf1⟩))
        go_roundw
        case rel => exact ⟨k + 1, by omega, by go_num, HIN.out, HF.out.trans hf1⟩
        case measure => simp [intOf]; omega
    · obtain rfl : k = n := by omega
      have h2 : inS sp r = false := by
        have h := hno.out
        rwa [List.take_of_length_le (by rw [HN.out]; exact Nat.le_refl _)] at h
      clear hno
      go_wp2
      go_ret
      exact ⟨⟨_, rfl, by rw [h2]; rfl⟩, hfr⟩
theorem contains_any (A : Option Addr) (n c q r : Nat) (sp : List (Nat × Nat)) (hn : sp.length = n) (w : World) (hq : w.cell? ⟨q, 0, none⟩ = some (r32 r)) (hr : RdT w tSpan A (sp.flatMap spv)) (hm : n ≤ maxLen) :
    Calls Tryd.prog 64 #[.slice A n c, clo q] w fun e w' => e = .returned (.bool (inS sp r)) ∧ Fresh w w' := by
  have hi := index_any A n c q r sp hn w hq hr hm
  have HI := Lib.hid hi
  clear hi hn hq hr
  go_enter Tryd.func64, Tryd.ntmps64
  go_wp2_with (go_at_call 66; (refine HI.out.mono ?_); rintro e w1 ⟨⟨z, rfl, hz⟩, hf1⟩; have HZ := Lib.hid hz; clear hz)
  go_ret
  exact ⟨by rw [← HZ.out]; rfl, hf1⟩
theorem has_cls (nt : Bool) (A : Option Addr) (n c r : Nat) (sp : List (Nat × Nat)) (hn : sp.length = n) (w : World) (hr : RdT w tSpan A (sp.flatMap spv)) (hm : n ≤ maxLen) :
    Calls Tryd.prog 63 #[.agg #[.bool nt, .slice A n c], r32 r] w (HasIs (.cls nt sp) r w) := by
  have b1 := Bk.made w tClass #[.bool nt, .slice A n c]
  have b2 := b1.alloc (.cells #[r32 r] 21)
  have b3 := Bk.made (w.alloc (.cells #[.bool nt, .slice A n c] tClass)) 21 #[r32 r]
  have hs1 : (w.alloc (.cells #[.bool nt, .slice A n c] tClass)).heap.size = w.heap.size + 1 := by simp
  rw [hs1] at b3
  have f2 : Fresh w ((w.alloc (.cells #[.bool nt, .slice A n c] tClass)).alloc (.cells #[r32 r] 21)) := (Fresh.alloc _ _).trans (Fresh.alloc _ _)
  have c0 := b2.cell (i := 0) rfl
  have c1 := b2.cell (i := 1) rfl
  have c2 := b3.cell (i := 0) rfl
  have hco := contains_any A n c (w.heap.size + 1) r sp hn _ c2 (hr.fresh f2) hm
  have e1 : has (.cls nt sp) r = (((r : Int) != 47) && (inS sp r != nt)) := by rw [has, ne47]
  unfold HasIs
  rw [e1]
  obtain ⟨I, hI⟩ : ∃ I, inS sp r = I := ⟨_, rfl⟩
  rw [hI] at hco ⊢
  have HCO := Lib.hid hco
  have HB2 := Lib.hid b2
  have HB3 := Lib.hid b3
  have HF2 := Lib.hid f2
  clear hco hn hr hm e1 hI b1 b2 b3 f2 hs1
  cases h47 : ((r : Int) != 47) with
  | true =>
    go_enter Tryd.func63, Tryd.ntmps63
    go_wp2_with (go_at_call 64; (refine HCO.out.mono ?_); rintro e w1 ⟨rfl, hf1⟩; have d0 := (HB2.out.fresh hf1).cell (i := 0) rfl; have d2 := (HB3.out.fresh hf1).cell (i := 0) rfl)
    go_ret
    exact ⟨by cases I <;> cases nt <;> rfl, HF2.out.trans hf1⟩
  | false =>
    go_enter Tryd.func63, Tryd.ntmps63
    go_wp2_with (go_at_call 64; (refine HCO.out.mono ?_); rintro e w1 ⟨rfl, hf1⟩; have d0 := (HB2.out.fresh hf1).cell (i := 0) rfl; have d2 := (HB3.out.fresh hf1).cell (i := 0) rfl)
    go_ret
    exact ⟨by simp, HF2.out.trans hf1⟩
end Go.Proofs.YtkkkjadfhimahaaDoor.glbp
