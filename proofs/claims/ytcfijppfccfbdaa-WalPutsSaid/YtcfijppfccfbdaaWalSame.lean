/-
  The reference's Same of batches. My own text.
-/
import Derived.Test.YtcfijppfccfbdaaWalRef
namespace Go.Proofs.Ytcfijppfccfbdaa.walp
open Go.RowKit Go.Proofs.Ytcfijppfccfbdaa.base Go.Proofs.Ytcfijppfccfbdaa.num Go.Proofs.Ytcfijppfccfbdaa.word Go.Proofs.Ytcfijppfccfbdaa.waln
set_option linter.unusedVariables false

theorem pg_at_ {l : List Wp} {k : Nat} {s : Wp} (h : l[k]? = some s) : (l.map Wp.pg)[k]? = some s.pg := by rw [List.getElem?_map, h]; rfl
set_option maxRecDepth 100000 in
set_option maxHeartbeats 1000000 in
theorem sameB_any (A D : Option Addr) (n n' c d : Nat) (l m : List Wp) (w : World) (h : WsAt w w.heap.size A n l) (h' : WsAt w w.heap.size D n' m) (hn : n ≤ 9223372036854775807) (hn' : n' ≤ 9223372036854775807) (b : Bool) (hb : decide (l.map Wp.pg = m.map Wp.pg) = b) :
    Calls Try.prog 14 #[.slice A n c, .slice D n' d] w fun e w' => e = .returned (.bool b) ∧ Fresh w w' := by
  have hl := h.1
  have hm := h'.1
  by_cases hnm : n = n'
  · subst hnm
    have HL := Lib.hid hl
    have HM := Lib.hid hm
    clear hl hm
    go_enter Try.func14, Try.ntmps14
    have tn : ((n : Int) != (n : Int)) = false := by simp
    go_wp2
    go_loopw [5] (fun i wr => ∃ (k : Nat), k ≤ n ∧ i = .int .i64 k ∧ Hid ((l.map Wp.pg).take k = (m.map Wp.pg).take k) ∧ Fresh w wr) (fun i _ => n - (intOf i).toNat)
    case atStart => exact ⟨0, by omega, rfl, Lib.hid rfl, Fresh.refl _⟩
    case round =>
      obtain ⟨k, hk, rfl, hE, hfr⟩ := hrel
      by_cases hlt : k < n
      · obtain ⟨o, off, s, rfl, ho, hs, hrow, hrd, hok⟩ := (h.fresh hfr).at_ hlt
        obtain ⟨o', off', s', rfl, ho', hs', hrow', hrd', hok'⟩ := (h'.fresh hfr).at_ hlt
        have hx := pg_at_ hs
        have hx' := pg_at_ hs'
        obtain ⟨hc0, hc1⟩ := range_two hrow
        obtain ⟨hd0, hd1⟩ := range_two hrow'
        have q1 := hok.cap
        have q1' := hok'.cap
        unfold maxLen at q1 q1'
        by_cases hno : s.no = s'.no
        · by_cases hbs : s.bs = s'.bs
          · have hnext : Hid ((l.map Wp.pg).take (k + 1) = (m.map Wp.pg).take (k + 1)) := by
              show _ = _
              rw [List.take_add_one, List.take_add_one, hx, hx', hE.out, Wp.pg, Wp.pg, hno, hbs]
            have HSA := Lib.hid (same_gen s.A s'.A s.n s'.n s.c s'.c s.bs s'.bs wr.drew _ _ (hrd.fresh (Fresh.drew _)) (hrd'.fresh (Fresh.drew _)) (by omega) (by omega) true (decide_eq_true hbs))
            rw [← hno] at hd0
            have te : (s.no != s.no) = false := by simp
            generalize s.no = no at *
            generalize s'.no = no' at *
            generalize s.A = sA at *
            generalize s.n = sn at *
            generalize s.c = sc at *
            generalize s'.A = sA' at *
            generalize s'.n = sn' at *
            generalize s'.c = sc' at *
            have hk1 : wr.drew.cell? ⟨o, off + k * 2, none⟩ = some (.int .i64 no) ∧ wr.drew.cell? ⟨o, off + k * 2 + 1, none⟩ = some (.slice sA sn sc) ∧ wr.drew.cell? ⟨o', off' + k * 2, none⟩ = some (.int .i64 no) ∧ wr.drew.cell? ⟨o', off' + k * 2 + 1, none⟩ = some (.slice sA' sn' sc') := ⟨hc0, hc1, hd0, hd1⟩
            have HK1 := Lib.hid hk1
            clear hx hx' hb hE hrow hrow' hok hok' hrd hrd' hs hs' hno hbs hk1 hc0 hc1 hd0 hd1 q1 q1'
            go_wp2
            go_region_held3 (fun w' => w'.cell? ⟨o, off + k * 2, none⟩ = some (.int .i64 no) ∧ w'.cell? ⟨o, off + k * 2 + 1, none⟩ = some (.slice sA sn sc) ∧ w'.cell? ⟨o', off' + k * 2, none⟩ = some (.int .i64 no) ∧ w'.cell? ⟨o', off' + k * 2 + 1, none⟩ = some (.slice sA' sn' sc')) (first | exact HK1.out | exact HK2.out)
              ((go_at_call 10; (with_reducible refine HSA.out.mono ?_); rintro e w1 ⟨rfl, hf1⟩; have HF1 := Lib.hid ((Fresh.drew wr).trans hf1); have HK2 := Lib.hid (show w1.cell? ⟨o, off + k * 2, none⟩ = some (.int .i64 no) ∧ w1.cell? ⟨o, off + k * 2 + 1, none⟩ = some (.slice sA sn sc) ∧ w1.cell? ⟨o', off' + k * 2, none⟩ = some (.int .i64 no) ∧ w1.cell? ⟨o', off' + k * 2 + 1, none⟩ = some (.slice sA' sn' sc') from ⟨(hf1.cell (p := ⟨o, off + k * 2, none⟩) ho).trans HK1.out.1, (hf1.cell (p := ⟨o, off + k * 2 + 1, none⟩) ho).trans HK1.out.2.1, (hf1.cell (p := ⟨o', off' + k * 2, none⟩) ho').trans HK1.out.2.2.1, (hf1.cell (p := ⟨o', off' + k * 2 + 1, none⟩) ho').trans HK1.out.2.2.2⟩); clear hf1))
            go_wp2
            go_roundw
            case rel => exact ⟨k + 1, by omega, by go_num, hnext, hfr.trans HF1.out⟩
            case measure => simp [intOf]; omega
          · have hbf : b = false := by
              rw [← hb, decide_eq_false_iff_not]
              intro e
              rw [e, hx'] at hx
              injection hx with hx
              exact hbs (congrArg Prod.snd hx).symm
            subst hbf
            have HSA := Lib.hid (same_gen s.A s'.A s.n s'.n s.c s'.c s.bs s'.bs wr.drew _ _ (hrd.fresh (Fresh.drew _)) (hrd'.fresh (Fresh.drew _)) (by omega) (by omega) false (decide_eq_false hbs))
            rw [← hno] at hd0
            have te : (s.no != s.no) = false := by simp
            generalize s.no = no at *
            generalize s'.no = no' at *
            generalize s.A = sA at *
            generalize s.n = sn at *
            generalize s.c = sc at *
            generalize s'.A = sA' at *
            generalize s'.n = sn' at *
            generalize s'.c = sc' at *
            have hk1 : wr.drew.cell? ⟨o, off + k * 2, none⟩ = some (.int .i64 no) ∧ wr.drew.cell? ⟨o, off + k * 2 + 1, none⟩ = some (.slice sA sn sc) ∧ wr.drew.cell? ⟨o', off' + k * 2, none⟩ = some (.int .i64 no) ∧ wr.drew.cell? ⟨o', off' + k * 2 + 1, none⟩ = some (.slice sA' sn' sc') := ⟨hc0, hc1, hd0, hd1⟩
            have HK1 := Lib.hid hk1
            clear hx hx' hb hE hrow hrow' hok hok' hrd hrd' hs hs' hno hbs hk1 hc0 hc1 hd0 hd1 q1 q1'
            go_wp2
            go_region_held3 (fun w' => w'.cell? ⟨o, off + k * 2, none⟩ = some (.int .i64 no) ∧ w'.cell? ⟨o, off + k * 2 + 1, none⟩ = some (.slice sA sn sc) ∧ w'.cell? ⟨o', off' + k * 2, none⟩ = some (.int .i64 no) ∧ w'.cell? ⟨o', off' + k * 2 + 1, none⟩ = some (.slice sA' sn' sc')) (first | exact HK1.out | exact HK2.out)
              ((go_at_call 10; (with_reducible refine HSA.out.mono ?_); rintro e w1 ⟨rfl, hf1⟩; have HF1 := Lib.hid ((Fresh.drew wr).trans hf1); have HK2 := Lib.hid (show w1.cell? ⟨o, off + k * 2, none⟩ = some (.int .i64 no) ∧ w1.cell? ⟨o, off + k * 2 + 1, none⟩ = some (.slice sA sn sc) ∧ w1.cell? ⟨o', off' + k * 2, none⟩ = some (.int .i64 no) ∧ w1.cell? ⟨o', off' + k * 2 + 1, none⟩ = some (.slice sA' sn' sc') from ⟨(hf1.cell (p := ⟨o, off + k * 2, none⟩) ho).trans HK1.out.1, (hf1.cell (p := ⟨o, off + k * 2 + 1, none⟩) ho).trans HK1.out.2.1, (hf1.cell (p := ⟨o', off' + k * 2, none⟩) ho').trans HK1.out.2.2.1, (hf1.cell (p := ⟨o', off' + k * 2 + 1, none⟩) ho').trans HK1.out.2.2.2⟩); clear hf1))
            go_wp2
            go_ret
            exact ⟨rfl, hfr.trans HF1.out⟩
        · have hbf : b = false := by
            rw [← hb, decide_eq_false_iff_not]
            intro e
            rw [e, hx'] at hx
            injection hx with hx
            exact hno (congrArg Prod.fst hx).symm
          subst hbf
          have te : (s.no != s'.no) = true := by rw [bne_iff_ne]; exact hno
          generalize s.no = no at *
          generalize s'.no = no' at *
          clear hx hx' hb hE hrow hrow' hok hok' hrd hrd' hs hs' hno hc1 hd1 q1 q1'
          go_wp2
          go_quiet (fail)
          go_wp2
          go_ret
          exact ⟨rfl, hfr.trans (Fresh.drewN _ _)⟩
      · have hbt : b = true := by
          rw [← hb, decide_eq_true_iff]
          have h := hE.out
          rwa [List.take_of_length_le (by rw [List.length_map]; have := HL.out; omega), List.take_of_length_le (by rw [List.length_map]; have := HM.out; omega)] at h
        subst hbt
        clear hb hE
        go_wp2
        go_ret
        exact ⟨rfl, hfr⟩
  · have hbf : b = false := by
      rw [← hb, decide_eq_false_iff_not]
      intro e
      have := congrArg List.length e
      rw [List.length_map, List.length_map] at this
      omega
    subst hbf
    have tn : ((n : Int) != (n' : Int)) = true := by rw [bne_iff_ne]; omega
    clear hb hl hm
    go_enter Try.func14, Try.ntmps14
    go_wp2
    go_ret
    exact ⟨rfl, Fresh.refl _⟩
end Go.Proofs.Ytcfijppfccfbdaa.walp
