/-
  The walk of the law HuffOrder. My own text.
-/
import Derived.Test.YtdcdkafpmnlgoaaHuffLaw
import Derived.Test.YtdcdkafpmnlgoaaOpen
namespace Go.Proofs.Ytdcdkafpmnlgoaa.huffOrder
open Go.RowKit Go.Proofs.Ytdcdkafpmnlgoaa.base Go.Proofs.Ytdcdkafpmnlgoaa.num Go.Proofs.Ytdcdkafpmnlgoaa.bitnum Go.Proofs.Ytdcdkafpmnlgoaa.bitp Go.Proofs.Ytdcdkafpmnlgoaa.huffnum Go.Proofs.Ytdcdkafpmnlgoaa.huffp
set_option linter.unusedVariables false

theorem Fs_of {ls : List Nat} {s m : Nat} (h : ls[s]? = some m) (h15 : m ≤ 15) : Fs ls 16 0 s = if 1 ≤ m then (m, cd ls s m) else (0, 0) := by
  unfold Fs
  rw [h]
  simp only
  by_cases h1 : 1 ≤ m
  · rw [if_pos ⟨h1, .inl (by omega)⟩, if_pos h1]
  · rw [if_neg (by omega), if_neg h1]
/-- what holds of two codes -/
theorem two {ls : List Nat} (hf : tx ls 15 ≤ 32768) (hl : ∀ n ∈ ls, n ≤ 15) {a b na xa nb xb : Nat} (ha : a < ls.length) (hb : b < ls.length) (ea : Fs ls 16 0 a = (na, xa)) (eb : Fs ls 16 0 b = (nb, xb)) :
    a = b ∨ (a ≠ b ∧ na = 0) ∨ (a ≠ b ∧ 1 ≤ na ∧ nb = 0) ∨ (a ≠ b ∧ 1 ≤ na ∧ 1 ≤ nb ∧ nb < na) ∨ (a ≠ b ∧ 1 ≤ na ∧ 1 ≤ nb ∧ na < nb ∧ nb ≤ 15 ∧ xb / 2 ^ (nb - na) ≠ xa) ∨ (a ≠ b ∧ 1 ≤ na ∧ na = nb ∧ xb ≠ xa ∧ a < b ∧ xa < xb) ∨ (a ≠ b ∧ 1 ≤ na ∧ na = nb ∧ xb ≠ xa ∧ ¬ a < b ∧ ¬ xa < xb) := by
  have ga : ls[a]? = some ls[a] := List.getElem?_eq_getElem ha
  have gb : ls[b]? = some ls[b] := List.getElem?_eq_getElem hb
  have la := hl _ (List.mem_of_getElem? ga)
  have lb := hl _ (List.mem_of_getElem? gb)
  rw [Fs_of ga la] at ea
  rw [Fs_of gb lb] at eb
  generalize ls[a] = ma at *
  generalize ls[b] = mb at *
  by_cases hab : a = b
  · exact .inl hab
  · by_cases h1 : 1 ≤ ma
    · rw [if_pos h1] at ea
      injection ea with e1 e2
      subst e1; subst e2
      by_cases h2 : 1 ≤ mb
      · rw [if_pos h2] at eb
        injection eb with e1 e2
        subst e1; subst e2
        rcases Nat.lt_trichotomy ma mb with h3 | h3 | h3
        · exact .inr (.inr (.inr (.inr (.inl ⟨hab, h1, h2, h3, lb, apart hf ga h1 (by omega) gb lb hab⟩))))
        · subst h3
          have hne := apart hf ga h1 (Nat.le_refl _) gb lb hab
          rw [Nat.sub_self, Nat.pow_zero, Nat.div_one] at hne
          have ho := cd_order ga gb
          by_cases h4 : a < b
          · exact .inr (.inr (.inr (.inr (.inr (.inl ⟨hab, h1, rfl, hne, h4, ho.2 h4⟩)))))
          · exact .inr (.inr (.inr (.inr (.inr (.inr ⟨hab, h1, rfl, hne, h4, fun h => h4 (ho.1 h)⟩)))))
        · exact .inr (.inr (.inr (.inl ⟨hab, h1, h2, h3⟩)))
      · rw [if_neg h2] at eb
        injection eb with e1 e2
        exact .inr (.inr (.inl ⟨hab, h1, e1.symm⟩))
    · rw [if_neg h1] at ea
      injection ea with e1 e2
      exact .inr (.inl ⟨hab, e1.symm⟩)
theorem Fs_lt {ls : List Nat} (hl : ∀ n ∈ ls, n ≤ 15) (hf : tx ls 15 ≤ 32768) (a : Nat) : ∃ na xa, Fs ls 16 0 a = (na, xa) ∧ na ≤ 15 ∧ xa ≤ 32768 := by
  cases h : ls[a]? with
  | none => exact ⟨0, 0, by unfold Fs; rw [h], by omega, by omega⟩
  | some m =>
    have hm := hl m (List.mem_of_getElem? h)
    rw [Fs_of h hm]
    by_cases h1 : 1 ≤ m
    · rw [if_pos h1]
      have h2 := cd_lt h h1
      have h3 := nx_le hf hm
      have h4 : 2 ^ m ≤ 32768 := by have := Nat.pow_le_pow_right (n := 2) (by omega) hm; simpa using this
      exact ⟨_, _, rfl, hm, by omega⟩
    · rw [if_neg h1]
      exact ⟨0, 0, rfl, by omega, by omega⟩

set_option maxHeartbeats 4000000 in
theorem huffOrder_walk (A0 : Option Addr) (n0 c0 : Nat) (z0 : List Int) (w : World) (r0 : InRow .i64 w A0 n0 c0 z0) :
    Calls Try.prog 5 #[.slice A0 n0 c0] w fun e w' => e = .returned (.bool true) ∧ Below w.heap.size w w' := by
  obtain ⟨hr0, hn0, hm0, hz0⟩ := r0
  have hr : Rd w w.heap.size A0 n0 (z0.map iv) := hr0
  have hlz : z0.length = n0 := by have := hr0.1; rwa [List.length_map] at this
  have hm : n0 ≤ maxLen := by omega
  have HM := Lib.hid hm
  unfold maxLen at hm
  clear hr0 hz0 hm0
  by_cases hbig : 60 < n0
  · go_enter Try.func5, Try.ntmps5
    go_wp2_with (go_at_call 6; refine (wakes_any _).mono ?_; rintro e wA ⟨rfl, hfA⟩)
    go_ret
    exact ⟨rfl, hfA⟩
  · have HR := Lib.hid hr
    clear hr
    by_cases hmay : May z0
    · have hls : ∀ n ∈ z0.map Int.toNat, n ≤ 15 := by
        intro n hn
        obtain ⟨z, hz, rfl⟩ := List.mem_map.1 hn
        have := hmay z hz; omega
      have hll : (z0.map Int.toNat).length = n0 := by rw [List.length_map, hlz]
      obtain ⟨ls, hlse⟩ : ∃ ls, z0.map Int.toNat = ls := ⟨_, rfl⟩
      rw [hlse] at hls hll
      have HLSE := Lib.hid hlse
      have HLL := Lib.hid hll
      have HLS := Lib.hid hls
      have HMAY := Lib.hid hmay
      clear hlse hll hls hmay hlz
      by_cases hov : 32768 < tx ls 15
      · have HOV := Lib.hid hov
        clear hov
        go_enter Try.func5, Try.ntmps5
        go_wp2_with (first
          | (go_at_call 6; refine (wakes_any _).mono ?_; rintro e wA ⟨rfl, hfA⟩)
          | (go_at_call 8; refine (may_any A0 n0 c0 z0 wA w.heap.size (HR.out.below hfA (Nat.le_refl _)) HM.out true ⟨fun _ => ⟨HMAY.out, by omega⟩, fun _ => rfl⟩).mono ?_; rintro e wB ⟨rfl, rfl⟩)
          | (go_at_call 7; refine (new_over A0 n0 c0 z0 ls wA w.heap.size (HR.out.below hfA (Nat.le_refl _)) hfA.size (by omega) HMAY.out HLSE.out HOV.out).mono ?_; rintro e w1 ⟨rfl, hf1⟩))
        go_ret
        exact ⟨rfl, hfA.trans hf1⟩
      · have HOV : Hid (tx ls 15 ≤ 32768) := Nat.not_lt.1 hov
        clear hov
        go_enter Try.func5, Try.ntmps5
        go_wp2_with (first
          | (go_at_call 6; refine (wakes_any _).mono ?_; rintro e wA ⟨rfl, hfA⟩)
          | (go_at_call 8; refine (may_any A0 n0 c0 z0 wA w.heap.size (HR.out.below hfA (Nat.le_refl _)) HM.out true ⟨fun _ => ⟨HMAY.out, by omega⟩, fun _ => rfl⟩).mono ?_; rintro e wB ⟨rfl, rfl⟩)
          | (go_at_call 7; refine (new_ok A0 n0 c0 z0 ls wA w.heap.size (HR.out.below hfA (Nat.le_refl _)) hfA.size (by omega) HMAY.out HLSE.out HOV.out).mono ?_; rintro e w1 ⟨g, bl, rfl, hC1, hS1⟩))
        have hf1 := hfA.trans hS1.1
        clear hS1
        go_loopw [30] (fun i wr => ∃ a : Nat, a ≤ n0 ∧ i = .int .i64 a ∧ CodeAt wr g ls bl ∧ Fresh w wr) (fun i _ => n0 - (intOf i).toNat)
        case atStart => exact ⟨0, by omega, rfl, hC1, hf1⟩
        case round =>
          obtain ⟨a, ha, rfl, hC, hfr⟩ := hrel
          by_cases hlt : a < n0
          · go_wp2
            go_loopw [35] (fun i wr => ∃ b : Nat, b ≤ n0 ∧ i = .int .i64 b ∧ CodeAt wr g ls bl ∧ Fresh w wr) (fun i _ => n0 - (intOf i).toNat)
            case atStart => exact ⟨0, by omega, rfl, hC, hfr⟩
            case round =>
              obtain ⟨b, hb, rfl, hC2, hfr2⟩ := hrel
              by_cases hlt2 : b < n0
              · obtain ⟨na, xa, ea, hna, hxa⟩ := Fs_lt HLS.out HOV.out a
                obtain ⟨nb, xb, eb, hnb, hxb⟩ := Fs_lt HLS.out HOV.out b
                have hcase := two HOV.out HLS.out (by rw [HLL.out]; exact hlt) (by rw [HLL.out]; exact hlt2) ea eb
                have EA := Lib.hid ea
                have EB := Lib.hid eb
                clear ea eb
                rcases hcase with rfl | ⟨hab, rfl⟩ | ⟨hab, h1, rfl⟩ | ⟨hab, h1, h2, h3⟩ | ⟨hab, h1, h2, h3, h4, h5⟩ | ⟨hab, h1, rfl, h3, h4, h5⟩ | ⟨hab, h1, rfl, h3, h4, h5⟩
                rotate_left 4
                · obtain ⟨j, hj⟩ : ∃ j, nb - na = j := ⟨_, rfl⟩
                  have hji : (nb : Int) - (na : Int) = (j : Int) := by omega
                  have hj14 : j ≤ 14 := by omega
                  rw [hj] at h5
                  obtain ⟨Q, hQ⟩ : ∃ Q, xb / 2 ^ j = Q := ⟨_, rfl⟩
                  rw [hQ] at h5
                  have hQi : (xb : Int) / 2 ^ j = (Q : Int) := by rw [pow2i, ← hQ]; simp
                  clear hj hQ
                  go_wp2_with (first
                    | (go_at_call 11; (with_reducible refine (code_in g ls bl a na xa wr hC2 (by rw [HLL.out]; exact hlt) EA.out).mono ?_); rintro e w2 ⟨rfl, hf2⟩)
                    | (go_at_call 11; (with_reducible refine (code_in g ls bl b nb xb w2 (hC2.fresh hf2) (by rw [HLL.out]; exact hlt2) EB.out).mono ?_); rintro e w3 ⟨rfl, hf3⟩))
                  all_goals try go_roundw
                  all_goals first
                    | exact ⟨b + 1, by omega, by go_num, (hC2.fresh hf2).fresh hf3, (hfr2.trans hf2).trans hf3⟩
                    | exact ⟨⟨b + 1, by omega, by go_num, (hC2.fresh hf2).fresh hf3, (hfr2.trans hf2).trans hf3⟩, by simp [intOf]; omega⟩
                    | (simp [intOf]; omega)
                · have h3i : ¬ (xb : Int) = (xa : Int) := by omega
                  have h4i : (a : Int) < (b : Int) := by omega
                  have h5i : (xa : Int) < (xb : Int) := by omega
                  go_wp2_with (first
                    | (go_at_call 11; (with_reducible refine (code_in g ls bl a na xa wr hC2 (by rw [HLL.out]; exact hlt) EA.out).mono ?_); rintro e w2 ⟨rfl, hf2⟩)
                    | (go_at_call 11; (with_reducible refine (code_in g ls bl b na xb w2 (hC2.fresh hf2) (by rw [HLL.out]; exact hlt2) EB.out).mono ?_); rintro e w3 ⟨rfl, hf3⟩))
                  all_goals try go_roundw
                  all_goals first
                    | exact ⟨b + 1, by omega, by go_num, (hC2.fresh hf2).fresh hf3, (hfr2.trans hf2).trans hf3⟩
                    | exact ⟨⟨b + 1, by omega, by go_num, (hC2.fresh hf2).fresh hf3, (hfr2.trans hf2).trans hf3⟩, by simp [intOf]; omega⟩
                    | (simp [intOf]; omega)
                · have h3i : ¬ (xb : Int) = (xa : Int) := by omega
                  have h4i : ¬ (a : Int) < (b : Int) := by omega
                  have h5i : ¬ (xa : Int) < (xb : Int) := by omega
                  go_wp2_with (first
                    | (go_at_call 11; (with_reducible refine (code_in g ls bl a na xa wr hC2 (by rw [HLL.out]; exact hlt) EA.out).mono ?_); rintro e w2 ⟨rfl, hf2⟩)
                    | (go_at_call 11; (with_reducible refine (code_in g ls bl b na xb w2 (hC2.fresh hf2) (by rw [HLL.out]; exact hlt2) EB.out).mono ?_); rintro e w3 ⟨rfl, hf3⟩))
                  all_goals try go_roundw
                  all_goals first
                    | exact ⟨b + 1, by omega, by go_num, (hC2.fresh hf2).fresh hf3, (hfr2.trans hf2).trans hf3⟩
                    | exact ⟨⟨b + 1, by omega, by go_num, (hC2.fresh hf2).fresh hf3, (hfr2.trans hf2).trans hf3⟩, by simp [intOf]; omega⟩
                    | (simp [intOf]; omega)
                all_goals
                  go_wp2_with (first
                    | (go_at_call 11; (with_reducible refine (code_in g ls bl a _ xa wr hC2 (by rw [HLL.out]; exact hlt) EA.out).mono ?_); rintro e w2 ⟨rfl, hf2⟩)
                    | (go_at_call 11; (with_reducible refine (code_in g ls bl _ _ xb w2 (hC2.fresh hf2) (by rw [HLL.out]; first | exact hlt2 | exact hlt) EB.out).mono ?_); rintro e w3 ⟨rfl, hf3⟩))
                  all_goals try go_roundw
                  all_goals first
                    | exact ⟨_, by omega, by go_num, (hC2.fresh hf2).fresh hf3, (hfr2.trans hf2).trans hf3⟩
                    | exact ⟨⟨_, by omega, by go_num, (hC2.fresh hf2).fresh hf3, (hfr2.trans hf2).trans hf3⟩, by simp [intOf]; omega⟩
                    | exact ⟨b + 1, by omega, by go_num, (hC2.fresh hf2).fresh hf3, (hfr2.trans hf2).trans hf3⟩
                    | exact ⟨⟨b + 1, by omega, by go_num, (hC2.fresh hf2).fresh hf3, (hfr2.trans hf2).trans hf3⟩, by simp [intOf]; omega⟩
                    | exact ⟨a + 1, by omega, by go_num, (hC2.fresh hf2).fresh hf3, (hfr2.trans hf2).trans hf3⟩
                    | exact ⟨⟨a + 1, by omega, by go_num, (hC2.fresh hf2).fresh hf3, (hfr2.trans hf2).trans hf3⟩, by simp [intOf]; omega⟩
                    | (simp [intOf]; omega)
              · obtain rfl : b = n0 := by omega
                go_wp2
                go_roundw
                case rel => exact ⟨a + 1, by omega, by go_num, hC2, hfr2⟩
                case measure => simp [intOf]; omega
          · obtain rfl : a = n0 := by omega
            go_wp2
            go_ret
            exact ⟨rfl, hfr⟩
    · have HMAY := Lib.hid hmay
      clear hmay
      go_enter Try.func5, Try.ntmps5
      go_wp2_with (first
        | (go_at_call 6; refine (wakes_any _).mono ?_; rintro e wA ⟨rfl, hfA⟩)
        | (go_at_call 8; refine (may_any A0 n0 c0 z0 wA w.heap.size (HR.out.below hfA (Nat.le_refl _)) HM.out false ⟨fun h => Bool.noConfusion h, fun h => absurd h.1 HMAY.out⟩).mono ?_; rintro e wB ⟨rfl, rfl⟩))
      go_ret
      exact ⟨rfl, hfA⟩
end Go.Proofs.Ytdcdkafpmnlgoaa.huffOrder
