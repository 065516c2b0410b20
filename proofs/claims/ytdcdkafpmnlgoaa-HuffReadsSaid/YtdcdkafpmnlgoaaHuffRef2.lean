/-
  The contracts of the reference's begins and Next. My own text.
-/
import Derived.Test.YtdcdkafpmnlgoaaHuffRef
namespace Go.Proofs.Ytdcdkafpmnlgoaa.huffp
open Go.RowKit Go.Proofs.Ytdcdkafpmnlgoaa.base Go.Proofs.Ytdcdkafpmnlgoaa.num Go.Proofs.Ytdcdkafpmnlgoaa.bitnum Go.Proofs.Ytdcdkafpmnlgoaa.bitp Go.Proofs.Ytdcdkafpmnlgoaa.huffnum
set_option linter.unusedVariables false

theorem bit_same {U K k j : Nat} (h : U % 2 ^ k = K % 2 ^ k) (hj : j < k) : U / 2 ^ j % 2 = K / 2 ^ j % 2 := by
  have e : lb k U = lb k K := by rw [← lb_mod k U, h, lb_mod]
  have h1 := lb_get (u := U) hj
  have h2 := lb_get (u := K) hj
  rw [e, h2] at h1
  injection h1 with h1
  exact h1.symm

theorem begins_is (A D : Option Addr) (N c m d U K : Nat) (w : World) (B B' : Nat) (ha : Rd w B A N (nv (lb N U))) (hd : Rd w B' D m (nv (lb m K))) (hN : N ≤ 65536) (hm : m ≤ 15) (b : Bool) (hb : b = true ↔ U % 2 ^ min m N = K % 2 ^ min m N) :
    Calls Try.prog 24 #[.slice A N c, .slice D m d] w fun e w' => e = .returned (.bool b) ∧ Fresh w w' := by
  have HB := Lib.hid hb
  clear hb
  go_enter Try.func24, Try.ntmps24
  go_wp2
  go_loopw [5] (fun i wr => ∃ (j q : Nat), j ≤ m ∧ j ≤ N ∧ i = .int .i64 j ∧ Hid (U % 2 ^ j = K % 2 ^ j) ∧ wr = w.drewN q) (fun i _ => m - (intOf i).toNat)
  case atStart => exact ⟨0, 0, by omega, by omega, rfl, by simp [Hid, Nat.mod_one], rfl⟩
  case round =>
    obtain ⟨j, q, hjm, hjN, rfl, hU, rfl⟩ := hrel
    by_cases hlt : j < m
    · by_cases hlt2 : j < N
      · obtain ⟨b1, off1, x1, rfl, hb1, hx1, hc1⟩ := ha.at_ (enc := fun x : Nat => iv (x : Int)) hlt2
        obtain ⟨b2, off2, x2, rfl, hb2, hx2, hc2⟩ := hd.at_ (enc := fun x : Nat => iv (x : Int)) hlt
        rw [lb_get hlt2] at hx1
        rw [lb_get hlt] at hx2
        injection hx1 with hx1
        injection hx2 with hx2
        have HX1 := Lib.hid hx1
        have HX2 := Lib.hid hx2
        have hj0 : (0 : Int) ≤ (j : Int) := by omega
        have hj1 : (j : Int) < (N : Int) := by omega
        have hj2 : (j : Int) < (m : Int) := by omega
        clear hx1 hx2 ha hd
        by_cases he : x1 = x2
        · subst he
          have hst : Hid (U % 2 ^ (j + 1) = K % 2 ^ (j + 1)) := by show _ = _; rw [mod_succ, mod_succ, hU.out, HX1.out, HX2.out]
          go_wp2
          go_quiet (fail)
          go_wp2
          go_roundw
          case rel => exact ⟨j + 1, _, by omega, by omega, by go_num, hst, rfl⟩
          case measure => simp [intOf]; omega
        · have hbf : b = false := by
            cases hb : b with
            | false => rfl
            | true =>
              have h := HB.out.1 hb
              have := bit_same h (j := j) (by omega)
              rw [HX1.out, HX2.out] at this
              exact absurd this he
          have hei : ¬ (x1 : Int) = (x2 : Int) := by omega
          have HBF := Lib.hid hbf
          clear hbf he
          go_wp2
          go_quiet (fail)
          go_wp2
          go_ret
          exact ⟨ret_bool HBF.out.symm, (Fresh.drewN _ _).trans (Fresh.drewN _ _)⟩
      · have hbt : b = true := HB.out.2 (by rw [show min m N = j by omega]; exact hU.out)
        have HBT := Lib.hid hbt
        clear hbt
        go_wp2
        go_ret
        exact ⟨ret_bool HBT.out.symm, Fresh.drewN _ _⟩
    · have hbt : b = true := HB.out.2 (by rw [show min m N = j by omega]; exact hU.out)
      have HBT := Lib.hid hbt
      clear hbt
      go_wp2
      go_ret
      exact ⟨ret_bool HBT.out.symm, Fresh.drewN _ _⟩

/-- the N bits U begin with the code of s, as far as both go -/
def Bg (ls : List Nat) (N U s m : Nat) : Prop := U % 2 ^ min m N = rev m (cd ls s m) % 2 ^ min m N
/-- the reference's answer -/
def got (s n e : Nat) : Ending := .returned (.agg #[.int .i64 (s : Int), .int .i64 (n : Int), .int .i64 (e : Int)])
def RefNextIs (ls : List Nat) (N U : Nat) (w : World) (e : Ending) (w' : World) : Prop :=
  Fresh w w' ∧ ((∃ s m, ls[s]? = some m ∧ 1 ≤ m ∧ Bg ls N U s m ∧ m ≤ N ∧ e = got s m 0) ∨
    ((∃ s m, ls[s]? = some m ∧ 1 ≤ m ∧ Bg ls N U s m) ∧ (∀ s m, ls[s]? = some m → 1 ≤ m → Bg ls N U s m → N < m) ∧ e = got 0 0 3) ∨
    ((∀ s m, ls[s]? = some m → 1 ≤ m → ¬ Bg ls N U s m) ∧ e = got 0 0 12))
/-- what was seen of the symbols ahead of j -/
def Seen (ls : List Nat) (N U j ev : Nat) : Prop :=
  (ev = 12 ∧ ∀ s m, s < j → ls[s]? = some m → 1 ≤ m → ¬ Bg ls N U s m) ∨
  (ev = 3 ∧ (∃ s m, ls[s]? = some m ∧ 1 ≤ m ∧ Bg ls N U s m) ∧ ∀ s m, s < j → ls[s]? = some m → 1 ≤ m → Bg ls N U s m → N < m)
theorem Seen.pass {ls : List Nat} {N U j ev m : Nat} (h : Seen ls N U j ev) (hj : ls[j]? = some m) (hn : 1 ≤ m → ¬ Bg ls N U j m) : Seen ls N U (j + 1) ev := by
  rcases h with ⟨e, h⟩ | ⟨e, h1, h2⟩
  · refine .inl ⟨e, fun s m' hs hm' h1 => ?_⟩
    by_cases hsj : s = j
    · subst hsj
      rw [hj] at hm'; injection hm' with hm'; subst hm'
      exact hn h1
    · exact h s m' (by omega) hm' h1
  · refine .inr ⟨e, h1, fun s m' hs hm' h3 hb => ?_⟩
    by_cases hsj : s = j
    · subst hsj
      rw [hj] at hm'; injection hm' with hm'; subst hm'
      exact absurd hb (hn h3)
    · exact h2 s m' (by omega) hm' h3 hb
theorem Seen.part {ls : List Nat} {N U j ev m : Nat} (h : Seen ls N U j ev) (hj : ls[j]? = some m) (h1 : 1 ≤ m) (hb : Bg ls N U j m) (hlt : N < m) : Seen ls N U (j + 1) 3 := by
  refine .inr ⟨rfl, ⟨j, m, hj, h1, hb⟩, fun s m' hs hm' h3 hb' => ?_⟩
  by_cases hsj : s = j
  · subst hsj
    rw [hj] at hm'; injection hm' with hm'; omega
  · rcases h with ⟨_, h⟩ | ⟨_, _, h⟩
    · exact absurd hb' (h s m' (by omega) hm' h3)
    · exact h s m' (by omega) hm' h3 hb'
theorem Seen.bound {ls : List Nat} {N U j ev : Nat} (h : Seen ls N U j ev) : ev ≤ 12 := by rcases h with ⟨e, _⟩ | ⟨e, _⟩ <;> omega

abbrev tGot : TypeId := 43
set_option maxRecDepth 100000 in
set_option maxHeartbeats 4000000 in
theorem refNext_any (L n F : Nat) (ls : List Nat) (R : Nat → Sl) (A : Option Addr) (N c U : Nat) (w : World) (B : Nat) (hB : Bits w L ls R 16 0) (hr : Rd w B A N (nv (lb N U))) (hBw : B ≤ w.heap.size) (hN : N ≤ 65536) (hn : ls.length = n) (hn4 : n ≤ 320) (h15 : ∀ m ∈ ls, m ≤ 15) :
    Calls Try.prog 15 #[.agg #[.slice (some ⟨L, 0, none⟩) n n, .int .i64 (F : Nat)], .slice A N c] w (RefNextIs ls N U w) := by
  have HN := Lib.hid hn
  have H15 := Lib.hid h15
  clear hn h15
  go_enter Try.func15, Try.ntmps15
  go_wp2
  have hC1 := (Bk.made w tRef #[.slice (some ⟨L, 0, none⟩) n n, .int .i64 (F : Nat)]).alloc (.cells #[.int .i64 0, .int .i64 0, .int .i64 0] tGot)
  have hG1 : Bk ((w.alloc (.cells #[.slice (some ⟨L, 0, none⟩) n n, .int .i64 (F : Nat)] tRef)).alloc (.cells #[.int .i64 0, .int .i64 0, .int .i64 0] tGot)) (w.heap.size + 1) tGot [.int .i64 0, .int .i64 0, .int .i64 0] := by
    have := Bk.made (w.alloc (.cells #[.slice (some ⟨L, 0, none⟩) n n, .int .i64 (F : Nat)] tRef)) tGot #[.int .i64 0, .int .i64 0, .int .i64 0]
    simpa using this
  have hf1 := (Fresh.alloc w (.cells #[.slice (some ⟨L, 0, none⟩) n n, .int .i64 (F : Nat)] tRef)).trans (Fresh.alloc _ (.cells #[.int .i64 0, .int .i64 0, .int .i64 0] tGot))
  go_loopw [5, 6] (fun a i wr => ∃ (j ev : Nat), j ≤ n ∧ i = .int .i64 j ∧ a = .int .i64 ev ∧ Hid (Seen ls N U j ev) ∧ ev ≤ 12 ∧ Bk wr w.heap.size tRef [.slice (some ⟨L, 0, none⟩) n n, .int .i64 (F : Nat)] ∧ Bk wr (w.heap.size + 1) tGot [.int .i64 0, .int .i64 0, .int .i64 0] ∧ Fresh w wr) (fun _ i _ => n - (intOf i).toNat)
  case atStart => exact ⟨0, 12, by omega, rfl, rfl, .inl ⟨rfl, fun s m h => by omega⟩, by omega, hC1, hG1, hf1⟩
  case round =>
    obtain ⟨j, ev, hj, rfl, rfl, hsn, hev, hC, hG, hf⟩ := hrel
    have hc0 : wr.cell? ⟨w.heap.size, 0, none⟩ = some (.slice (some ⟨L, 0, none⟩) n n) := hC.cell rfl
    by_cases hlt : j < n
    · have hjl : j < ls.length := by rw [HN.out]; exact hlt
      obtain ⟨m, hm⟩ : ∃ m, ls[j]? = some m := ⟨_, List.getElem?_eq_getElem hjl⟩
      have hm15 := H15.out m (List.mem_of_getElem? hm)
      have hBr := hB.fresh hf
      have hL := hBr.rows.cell (i := j) (v := (R j).val) (by rw [List.getElem?_map, List.getElem?_range hjl]; rfl)
      have HM := Lib.hid hm
      by_cases hm0 : m = 0
      · have hR := hBr.rest j m hm (by omega)
        rw [hR] at hL
        simp only [Sl.nil, Sl.val] at hL
        have hsn2 := hsn.out.pass hm (fun h => by omega)
        have HSN2 := Lib.hid hsn2
        clear hm hR hsn2
        go_wp2
        go_roundw
        case rel => exact ⟨j + 1, ev, by omega, by go_num, rfl, HSN2.out, hev, hC, hG, hf⟩
        case measure => simp [intOf]; omega
      · obtain ⟨hrl, bb, hra, hbk⟩ := hBr.done j m hm (by omega) (.inl (by omega))
        have hrow : (R j).val = .slice (some ⟨bb, 0, none⟩) m (R j).cap := by unfold Sl.val; rw [hra, hrl]
        rw [hrow] at hL
        generalize (R j).cap = cap at hL
        have hrd : Rd wr wr.heap.size (some ⟨bb, 0, none⟩) m (nv (lb m (rev m (cd ls j m)))) := by
          refine ⟨by simp [lb_len], fun h => ⟨bb, 0, rfl, hbk.inside, fun i u hu => ?_⟩⟩
          rw [Nat.zero_add]
          exact hbk.cell hu
        have hmi : ((m : Int) == 0) = false := by rw [beq_eq_false_iff_ne]; omega
        have hmi2 : ¬ (m : Int) = 0 := by omega
        have HRD := Lib.hid hrd
        clear hm hrl hra hbk hrow hrd
        by_cases hbg : Bg ls N U j m
        · have hb : (true = true ↔ U % 2 ^ min m N = rev m (cd ls j m) % 2 ^ min m N) := ⟨fun _ => hbg, fun _ => rfl⟩
          have HBB := Lib.hid hb
          have HBG := Lib.hid hbg
          clear hb hbg
          by_cases hmN : m ≤ N
          · go_wp2_with (go_at_call 24; refine (begins_is A _ N _ m _ U _ wr B wr.heap.size (hr.below hf hBw) HRD.out hN hm15 true HBB.out).mono ?_; rintro e w5 ⟨rfl, hf5⟩; have hc5 : w5.cell? ⟨w.heap.size, 0, none⟩ = some (.slice (some ⟨L, 0, none⟩) n n) := (hC.fresh hf5).cell rfl; have hL5 := (World.cell?_of_block (hf5.block L (World.block_lt_of_cell? _ _ hL))).trans hL; have hG5 := hG.fresh hf5; have hg0 : w5.cell? ⟨w.heap.size + 1, 0, none⟩ = some (.int .i64 0) := hG5.cell rfl; have hg1 : w5.cell? ⟨w.heap.size + 1, 1, none⟩ = some (.int .i64 0) := hG5.cell rfl; have hg2 : w5.cell? ⟨w.heap.size + 1, 2, none⟩ = some (.int .i64 0) := hG5.cell rfl; have hz0 := hG5.free 0; have hz1 := hG5.free 1; have hz2 := hG5.free 2)
            have hGe := ((hG5.put 0 (.int .i64 (j : Int))).put 1 (.int .i64 (m : Int))).put 2 (.int .i64 0)
            have hfe := (((hf.trans hf5).but (g := w.heap.size + 1) (by omega) (But.put (g := w.heap.size + 1) (i := 0) w5 (.int .i64 (j : Int)))).but (g := w.heap.size + 1) (by omega) (But.put (g := w.heap.size + 1) (i := 1) _ (.int .i64 (m : Int)))).but (g := w.heap.size + 1) (by omega) (But.put (g := w.heap.size + 1) (i := 2) _ (.int .i64 0))
            exact bodyPost_ret (results_cell_row (p := 4) (by kernel_rfl) _ _ (w.heap.size + 1) tGot #[.int .i64 (j : Int), .int .i64 (m : Int), .int .i64 0] (0, 0) _ rfl hGe Try.underlying43 rfl (by kernel_rfl)) rfl ⟨hfe, .inl ⟨j, m, HM.out, by omega, HBG.out, hmN, rfl⟩⟩
          · have HSN2 := Lib.hid (hsn.out.part HM.out (by omega) HBG.out (by omega))
            go_wp2_with (go_at_call 24; refine (begins_is A _ N _ m _ U _ wr B wr.heap.size (hr.below hf hBw) HRD.out hN hm15 true HBB.out).mono ?_; rintro e w5 ⟨rfl, hf5⟩; have hc5 : w5.cell? ⟨w.heap.size, 0, none⟩ = some (.slice (some ⟨L, 0, none⟩) n n) := (hC.fresh hf5).cell rfl; have hL5 := (World.cell?_of_block (hf5.block L (World.block_lt_of_cell? _ _ hL))).trans hL; have hG5 := hG.fresh hf5; have hg0 : w5.cell? ⟨w.heap.size + 1, 0, none⟩ = some (.int .i64 0) := hG5.cell rfl; have hg1 : w5.cell? ⟨w.heap.size + 1, 1, none⟩ = some (.int .i64 0) := hG5.cell rfl; have hg2 : w5.cell? ⟨w.heap.size + 1, 2, none⟩ = some (.int .i64 0) := hG5.cell rfl; have hz0 := hG5.free 0; have hz1 := hG5.free 1; have hz2 := hG5.free 2)
            go_roundw
            case rel => exact ⟨j + 1, 3, by omega, by go_num, rfl, HSN2.out, by omega, hC.fresh hf5, hG5, hf.trans hf5⟩
            case measure => simp [intOf]; omega
        · have hb : (false = true ↔ U % 2 ^ min m N = rev m (cd ls j m) % 2 ^ min m N) := ⟨fun h => Bool.noConfusion h, fun h => absurd h hbg⟩
          have hsn2 := hsn.out.pass HM.out (fun _ => hbg)
          have HSN2 := Lib.hid hsn2
          have HBB := Lib.hid hb
          clear hsn2 hb hbg
          go_wp2_with (go_at_call 24; refine (begins_is A _ N _ m _ U _ wr B wr.heap.size (hr.below hf hBw) HRD.out hN hm15 false HBB.out).mono ?_; rintro e w5 ⟨rfl, hf5⟩; have hc5 : w5.cell? ⟨w.heap.size, 0, none⟩ = some (.slice (some ⟨L, 0, none⟩) n n) := (hC.fresh hf5).cell rfl; have hL5 := (World.cell?_of_block (hf5.block L (World.block_lt_of_cell? _ _ hL))).trans hL; have hG5 := hG.fresh hf5; have hg0 : w5.cell? ⟨w.heap.size + 1, 0, none⟩ = some (.int .i64 0) := hG5.cell rfl; have hg1 : w5.cell? ⟨w.heap.size + 1, 1, none⟩ = some (.int .i64 0) := hG5.cell rfl; have hg2 : w5.cell? ⟨w.heap.size + 1, 2, none⟩ = some (.int .i64 0) := hG5.cell rfl; have hz0 := hG5.free 0; have hz1 := hG5.free 1; have hz2 := hG5.free 2)
          go_roundw
          case rel => exact ⟨j + 1, ev, by omega, by go_num, rfl, HSN2.out, hev, hC.fresh hf5, hG5, hf.trans hf5⟩
          case measure => simp [intOf]; omega
    · obtain rfl : j = n := by omega
      have hsnn := hsn.out
      have HSNN := Lib.hid hsnn
      have hg0 : wr.cell? ⟨w.heap.size + 1, 0, none⟩ = some (.int .i64 0) := hG.cell rfl
      have hg1 : wr.cell? ⟨w.heap.size + 1, 1, none⟩ = some (.int .i64 0) := hG.cell rfl
      have hg2 : wr.cell? ⟨w.heap.size + 1, 2, none⟩ = some (.int .i64 0) := hG.cell rfl
      have hz0 := hG.free 0
      have hz1 := hG.free 1
      have hz2 := hG.free 2
      clear hsnn
      go_wp2
      have hGe := ((hG.put 0 (.int .i64 0)).put 1 (.int .i64 0)).put 2 (.int .i64 (ev : Int))
      have hfe := ((hf.but (g := w.heap.size + 1) (by omega) (But.put (g := w.heap.size + 1) (i := 0) wr (.int .i64 0))).but (g := w.heap.size + 1) (by omega) (But.put (g := w.heap.size + 1) (i := 1) _ (.int .i64 0))).but (g := w.heap.size + 1) (by omega) (But.put (g := w.heap.size + 1) (i := 2) _ (.int .i64 (ev : Int)))
      refine bodyPost_ret (results_cell_row (p := 4) (by kernel_rfl) _ _ (w.heap.size + 1) tGot #[.int .i64 0, .int .i64 0, .int .i64 (ev : Int)] (0, 0) _ rfl hGe Try.underlying43 rfl (by kernel_rfl)) rfl ⟨hfe, ?_⟩
      have hall : ∀ s m, ls[s]? = some m → s < j := fun s m h => by have := lt_of_get h; rw [HN.out] at this; exact this
      rcases HSNN.out with ⟨e, h⟩ | ⟨e, h1, h2⟩
      · subst e
        exact .inr (.inr ⟨fun s m hs hm => h s m (hall s m hs) hs hm, rfl⟩)
      · subst e
        exact .inr (.inl ⟨h1, fun s m hs hm hb => h2 s m (hall s m hs) hs hm hb, rfl⟩)
end Go.Proofs.Ytdcdkafpmnlgoaa.huffp
