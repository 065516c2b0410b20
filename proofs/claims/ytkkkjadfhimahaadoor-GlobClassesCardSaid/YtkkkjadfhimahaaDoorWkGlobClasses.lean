/-
  The walk of the law GlobClasses. My own text.
-/
import Derived.Test.YtkkkjadfhimahaaDoorGlbEq
import Derived.Test.YtkkkjadfhimahaaDoorOpen
namespace Go.Proofs.YtkkkjadfhimahaaDoor.globClasses
open Go.RowKit Go.Proofs.YtkkkjadfhimahaaDoor.base Go.Proofs.YtkkkjadfhimahaaDoor.nam Go.Proofs.YtkkkjadfhimahaaDoor.namp Go.Proofs.YtkkkjadfhimahaaDoor.glb Go.Proofs.YtkkkjadfhimahaaDoor.glbp
set_option linter.unusedVariables false
theorem mt_cls (n : Bool) (a x : Nat) : mt [.cls n [(a, a)]] [x] = (decide (x ≠ 47) && (decide (x = a) != n)) := by
  rw [mt_one rfl]
  have h1 : mt [] [] = true := rfl
  rw [h1, Bool.and_true, has, inS]
  simp only [List.any_cons, List.any_nil, Bool.or_false]
  congr 2
  by_cases h : x = a
  · subst h; simp
  · rw [decide_eq_false h]
    simp
    omega
theorem text_47 (S : ByteArray) (a : Nat) (ha : Rn a) (hS : S.data.toList = en a) (k : Nat) (hk : Rn k) (l : List UInt8) (hl : en k = l) : (S.toList == l) = decide (a = k) := by
  rw [ByteArray.toList_eq, hS, ← hl]
  by_cases h : a = k
  · subst h; simp
  · rw [decide_eq_false h, beq_eq_false_iff_ne]
    exact fun e => h (en_inj ha hk e)
set_option maxHeartbeats 4000000 in
set_option maxRecDepth 100000 in
theorem globClasses_walk (a0 : Int) (a1 : Int) (w : World) (w0 : (Lit.int .i32 a0).wf = true) (w1 : (Lit.int .i32 a1).wf = true) (hT : Tabs w) :
    Calls Tryd.prog 8 #[.int .i32 a0, .int .i32 a1] w fun e w' => e = .returned (.bool true) ∧ Below w.heap.size w w' := by
  have HW := Lib.hid (wakes_any w hT)
  have HT := Lib.hid hT
  obtain ⟨a, ha, hae⟩ := en_valid a0
  obtain ⟨b, hb, hbe⟩ := en_valid a1
  obtain ⟨S, hS⟩ : ∃ S, Utf8.encode a0 = S := ⟨_, rfl⟩
  obtain ⟨T, hT2⟩ : ∃ T, Utf8.encode a1 = T := ⟨_, rfl⟩
  rw [hS] at hae
  rw [hT2] at hbe
  have e1 := text_47 S a ha hae 65533 (Or.inr ⟨by omega, by omega⟩) [239, 191, 189] (by decide)
  have e2 := text_47 T b hb hbe 65533 (Or.inr ⟨by omega, by omega⟩) [239, 191, 189] (by decide)
  have k1 := text_47 S a ha hae 47 (Or.inl (by omega)) [47] (by decide)
  have k2 := text_47 T b hb hbe 47 (Or.inl (by omega)) [47] (by decide)
  have k3 := text_47 S a ha hae b hb T.toList (by rw [ByteArray.toList_eq, hbe])
  have hsz : S.size ≤ 4 := by rw [str_size, hae, en_len]; exact (wid_bd a).2
  have z1 : ¬ 9223372036854775807 < 2 + S.size := by omega
  have z2 : ¬ 9223372036854775807 < 2 + S.size + 1 := by omega
  have z3 : ¬ 9223372036854775807 < 3 + S.size := by omega
  have z4 : ¬ 9223372036854775807 < 3 + S.size + 1 := by omega
  have hTz : T.size ≤ 4 := by rw [str_size, hbe, en_len]; exact (wid_bd b).2
  have rs : rns S.data.toList = [a] := by have h := rns_good [a] (by simpa using ha); rwa [show tx [a] = en a by simp [tx], ← hae] at h
  have rt : rns T.data.toList = [b] := by have h := rns_good [b] (by simpa using hb); rwa [show tx [b] = en b by simp [tx], ← hbe] at h
  have hin := fun W h => new_ok (⟨#[91, 92]⟩ ++ S ++ ⟨#[93]⟩) [91, 92, a, 93] _ (by rw [str_app, str_app, hae]; simp [tx]; rfl) (by intro r hr; simp at hr; rcases hr with rfl | rfl | rfl | rfl; exact Or.inl (by omega); exact Or.inl (by omega); exact ha; exact Or.inl (by omega)) (prs_class a) W (by rw [str_size, str_app, str_app, hae, List.length_append, List.length_append, en_len]; have := (wid_bd a).2; show 2 + wid a + 1 ≤ 100; omega) h
  have hout := fun W h => new_ok (⟨#[91, 33, 92]⟩ ++ S ++ ⟨#[93]⟩) [91, 33, 92, a, 93] _ (by rw [str_app, str_app, hae]; simp [tx]; rfl) (by intro r hr; simp at hr; rcases hr with rfl | rfl | rfl | rfl | rfl; exact Or.inl (by omega); exact Or.inl (by omega); exact Or.inl (by omega); exact ha; exact Or.inl (by omega)) (prs_classN a) W (by rw [str_size, str_app, str_app, hae, List.length_append, List.length_append, en_len]; have := (wid_bd a).2; show 3 + wid a + 1 ≤ 100; omega) h
  obtain ⟨A47, hA⟩ : ∃ B, decide (a = 47) = B := ⟨_, rfl⟩
  obtain ⟨B47, hB⟩ : ∃ B, decide (b = 47) = B := ⟨_, rfl⟩
  obtain ⟨AB, hAB⟩ : ∃ B, decide (a = b) = B := ⟨_, rfl⟩
  have m1 := match_is [.cls false [(a, a)]] S [a] (!A47) rs (by rw [mt_cls, ← hA]; simp) (by omega)
  have m2 := match_is [.cls true [(a, a)]] S [a] false rs (by rw [mt_cls]; simp) (by omega)
  have m3 := match_is [.cls false [(a, a)]] T [b] (!B47 && AB) rt (by rw [mt_cls, ← hB, ← hAB, show decide (b = a) = decide (a = b) from decide_eq_decide.2 eq_comm]; simp) (by omega)
  have m4 := match_is [.cls true [(a, a)]] T [b] (!B47 && !AB) rt (by rw [mt_cls, ← hB, ← hAB, show decide (b = a) = decide (a = b) from decide_eq_decide.2 eq_comm]; simp) (by omega)
  rw [hA] at k1
  rw [hB] at k2
  rw [hAB] at k3
  obtain ⟨X1, hX1⟩ : ∃ B, decide (a = 65533) = B := ⟨_, rfl⟩
  obtain ⟨X2, hX2⟩ : ∃ B, decide (b = 65533) = B := ⟨_, rfl⟩
  rw [hX1] at e1
  rw [hX2] at e2
  have HIN := Lib.hid hin
  have HOUT := Lib.hid hout
  have HM1 := Lib.hid m1
  have HM2 := Lib.hid m2
  have HM3 := Lib.hid m3
  have HM4 := Lib.hid m4
  clear w0 w1 hT ha hb hae hbe hsz hTz rs rt hin hout m1 m2 m3 m4 hA hB hAB hX1 hX2
  cases X1 with
  | true =>
    go_enter Tryd.func8, Tryd.ntmps8
    go_wp2_with (go_at_call 9; (refine HW.out.mono ?_); rintro e w1 ⟨rfl, hf1⟩)
    go_ret
    exact ⟨rfl, hf1⟩
  | false =>
    cases X2 with
    | true =>
      go_enter Tryd.func8, Tryd.ntmps8
      go_wp2_with (go_at_call 9; (refine HW.out.mono ?_); rintro e w1 ⟨rfl, hf1⟩)
      go_ret
      exact ⟨rfl, hf1⟩
    | false =>
      cases A47
      all_goals cases B47
      all_goals cases AB
      all_goals
        have n1 : (S.toList != [47]) = _ := congrArg (!·) k1
        have n2 : (T.toList != [47]) = _ := congrArg (!·) k2
        have n3 : (S.toList != T.toList) = _ := congrArg (!·) k3
        go_enter Tryd.func8, Tryd.ntmps8
        go_wp2_with (first
          | (go_at_call 9; (refine HW.out.mono ?_); rintro e w1 ⟨rfl, hf1⟩; have HF1 := Lib.hid hf1; clear hf1)
          | (go_at_call 10; (with_reducible refine (HIN.out _ (HT.out.fresh HF1.out)).mono ?_); rintro e w2 ⟨g1, rfl, hg, hf⟩; have HG1 := Lib.hid hg; have HF2 := Lib.hid hf; clear hg hf)
          | (go_at_call 10; (with_reducible refine (HOUT.out _ (HT.out.fresh (Fresh.trans HF1.out HF2.out))).mono ?_); rintro e w3 ⟨g2, rfl, hg, hf⟩; have HG2 := Lib.hid hg; have HG3 := Lib.hid (HG1.out.fresh hf); have HF3 := Lib.hid (Fresh.trans (Fresh.trans HF1.out HF2.out) hf); clear hg hf)
          | (go_at_call 12; (with_reducible refine (HM1.out g1 w3 HG3.out).mono ?_); rintro e w4 ⟨rfl, hf4⟩; have HF4 := Lib.hid hf4; clear hf4)
          | (go_at_call 12; (with_reducible refine (HM2.out g2 w4 (HG2.out.fresh HF4.out)).mono ?_); rintro e w5 ⟨rfl, hf5⟩; have HF5 := Lib.hid (Fresh.trans HF4.out hf5); clear hf5)
          | (go_at_call 12; (with_reducible refine (HM3.out g1 w5 (HG3.out.fresh HF5.out)).mono ?_); rintro e w6 ⟨rfl, hf6⟩; have HF6 := Lib.hid (Fresh.trans HF5.out hf6); clear hf6)
          | (go_at_call 12; (with_reducible refine (HM4.out g2 w6 (HG2.out.fresh HF6.out)).mono ?_); rintro e w7 ⟨rfl, hf7⟩; have HF7 := Lib.hid (Fresh.trans HF6.out hf7); clear hf7))
        go_ret
        exact ⟨by first | rfl | simp, Fresh.trans HF3.out HF7.out⟩
end Go.Proofs.YtkkkjadfhimahaaDoor.globClasses
