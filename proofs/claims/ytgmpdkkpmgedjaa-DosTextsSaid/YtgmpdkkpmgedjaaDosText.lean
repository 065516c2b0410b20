/-
  The contracts of Text, Parse, and the laws' own wakes. My own text.
-/
import Derived.Test.YtgmpdkkpmgedjaaDosWrite
import Derived.Test.YtgmpdkkpmgedjaaDosRead
import Derived.Deep.DeepCutAuto
import Derived.Laws.Strings2
namespace Go.Proofs.Ytgmpdkkpmgedjaa.dosp
open Go.RowKit Go.Proofs.Ytgmpdkkpmgedjaa.base Go.Proofs.Ytgmpdkkpmgedjaa.num Go.Proofs.Ytgmpdkkpmgedjaa.bitnum Go.Proofs.Ytgmpdkkpmgedjaa.dosnum
set_option linter.unusedVariables false

/-- the number that a text is, if it is one -/
def parseP (l : List UInt8) : Option Int := if (l.length = 10 ∨ l.length = 19) ∧ Right (readM l) then some (no (readM l)) else none
abbrev toldP : Option Int → Ending
  | some n => .returned (.tuple #[.int .i64 n, .bool true])
  | none => .returned (.tuple #[.int .i64 0, .bool false])
theorem parse_any (t : ByteArray) (l : List UInt8) (hl : l = t.data.toList) (hm : l.length ≤ maxLen) (w : World) :
    Calls Try.prog 16 #[.string t] w fun e w' => e = toldP (parseP l) ∧ Fresh w w' := by
  obtain ⟨n, hn⟩ : ∃ n, l.length = n := ⟨_, rfl⟩
  have hsz : t.size = n := by rw [← hn, hl]; exact (Array.length_toList (xs := t.data)).symm
  unfold maxLen at hm
  have HL := Lib.hid hl
  clear hl
  by_cases h : n = 10 ∨ n = 19
  · have h19 : n ≤ 19 := by omega
    by_cases hr : Right (readM l)
    · have hp : parseP l = some (no (readM l)) := by rw [parseP, hn, if_pos ⟨h, hr⟩]
      rw [hp]
      have HR := Lib.hid hr
      have HN := Lib.hid hn
      clear hr hn hp hm
      rcases h with rfl | rfl
      all_goals
        go_enter Try.func16, Try.ntmps16
        go_wp2_with (first
          | (go_at_call 23; (refine (read_any t l _ HL.out HN.out h19 _).mono ?_); rintro e w1 ⟨rfl, hf1⟩)
          | (go_at_call 9; (refine (put_ok (readM l) HR.out _).mono ?_); rintro e w2 ⟨rfl, hf2⟩))
        go_ret2
        exact ⟨rfl, hf1.trans hf2⟩
    · have hp : parseP l = none := by rw [parseP, if_neg (fun h => hr h.2)]
      rw [hp]
      have HR := Lib.hid hr
      have HN := Lib.hid hn
      clear hr hn hp hm
      rcases h with rfl | rfl
      all_goals
        go_enter Try.func16, Try.ntmps16
        go_wp2_with (first
          | (go_at_call 23; (refine (read_any t l _ HL.out HN.out h19 _).mono ?_); rintro e w1 ⟨rfl, hf1⟩)
          | (go_at_call 9; (refine (put_bad (readM l) HR.out _).mono ?_); rintro e w2 ⟨rfl, hf2⟩))
        go_ret2
        exact ⟨rfl, hf1.trans hf2⟩
  · have hp : parseP l = none := by rw [parseP, hn, if_neg (fun hh => h hh.1)]
    rw [hp]
    have n10 : ((n : Int) != 10) = true := by rw [bne_iff_ne]; omega
    have n19 : ((n : Int) != 19) = true := by rw [bne_iff_ne]; omega
    clear hn hp h hm
    go_enter Try.func16, Try.ntmps16
    go_wp2
    all_goals go_ret2
    all_goals exact ⟨rfl, Fresh.refl _⟩

/-- a moment's text -/
def textP (n : Int) : List UInt8 := if n % 65536 = 0 then (long (parts n)).take 10 else long (parts n)
theorem same_mid (m : Mo) (n : Int) (hm : parts n = m) : same m ⟨m.y, m.mo, m.d, 0, 0, 0⟩ = decide (n % 65536 = 0) := by
  subst hm
  unfold same
  rw [decide_eq_decide]
  simp only [parts, true_and]
  omega
theorem text_any (n : Int) (hn : -9223372036854775808 ≤ n ∧ n ≤ 9223372036854775807) (w : World) :
    Calls Try.prog 14 #[.int .i64 n] w fun e w' => e = (if Right (parts n) then .returned (.tuple #[.string ⟨(textP n).toArray⟩, .int .i64 0]) else .returned (.tuple #[.string ⟨#[]⟩, .int .i64 1])) ∧ Fresh w w' := by
  have hg := get_any n hn
  by_cases hr : Right (parts n)
  · simp only [if_pos hr] at hg ⊢
    obtain ⟨m, hm⟩ : ∃ m, parts n = m := ⟨_, rfl⟩
    have hsm := same_mid m n hm
    rw [hm] at hg hr
    have ht : textP n = if n % 65536 = 0 then (long m).take 10 else long m := by rw [textP, hm]
    obtain ⟨L, hL⟩ : ∃ L, textP n = L := ⟨_, rfl⟩
    rw [hL]
    rw [hL] at ht
    have HT := Lib.hid ht
    have heq := fun V => eq_mom m ⟨m.y, m.mo, m.d, 0, 0, 0⟩ V
    have hgd := fun V x y => guard_mom .eql x y m ⟨m.y, m.mo, m.d, 0, 0, 0⟩ V
    rw [hsm] at heq
    have HG := Lib.hid hg
    have HR := Lib.hid hr
    obtain ⟨bb, hbb⟩ : ∃ bb, decide (n % 65536 = 0) = bb := ⟨_, rfl⟩
    rw [hbb] at heq
    have HBB := Lib.hid hbb
    clear hg hr hsm ht hm hbb hL
    go_enter Try.func14, Try.ntmps14
    go_upto_region 4 with (go_at_call 13; (refine (HG.out _).mono ?_); rintro e w1 ⟨rfl, hf1⟩; have HF1 := Lib.hid hf1; clear hf1)
    have hb := Bk.made w1 25 #[.int .i64 m.y, .int .i64 m.mo, .int .i64 m.d, .int .i64 m.h, .int .i64 m.mi, .int .i64 m.s]
    have hf := HF1.out.trans (Fresh.alloc w1 (.cells #[.int .i64 m.y, .int .i64 m.mo, .int .i64 m.d, .int .i64 m.h, .int .i64 m.mi, .int .i64 m.s] 25))
    obtain ⟨g, hg⟩ : ∃ g, w1.heap.size = g := ⟨_, rfl⟩
    rw [hg] at hb
    generalize w1.alloc (.cells #[.int .i64 m.y, .int .i64 m.mo, .int .i64 m.d, .int .i64 m.h, .int .i64 m.mi, .int .i64 m.s] 25) = W at *
    have hb2 := hb.fresh (Fresh.drew W)
    have hf2 := hf.trans (Fresh.drew W)
    have hk1 := six hb2
    have HB2 := Lib.hid hb2
    have HF2 := Lib.hid hf2
    clear hb hb2 hf hf2
    go_region_held3 (fun w' => w'.cell? ⟨g, 0, none⟩ = some (.int .i64 m.y) ∧ w'.cell? ⟨g, 1, none⟩ = some (.int .i64 m.mo) ∧ w'.cell? ⟨g, 2, none⟩ = some (.int .i64 m.d) ∧ w'.cell? ⟨g, 3, none⟩ = some (.int .i64 m.h) ∧ w'.cell? ⟨g, 4, none⟩ = some (.int .i64 m.mi) ∧ w'.cell? ⟨g, 5, none⟩ = some (.int .i64 m.s))
      (first | exact hk1 | exact HK2.out)
      (first | (go_at_call 21; (refine (midnight_any m _).mono ?_); rintro e w3 ⟨rfl, hf3⟩; have HK2 := Lib.hid (six (HB2.out.fresh hf3)); have HF3 := Lib.hid (HF2.out.trans hf3); clear hf3))
    obtain ⟨k0, k1, k2, k3, k4, k5⟩ := HK2.out
    rename_i hj
    clear hj hk1 heq hgd
    have hlen : (long m).length = 19 := by simp [long]
    cases bb
    · have he : ¬ n % 65536 = 0 := of_decide_eq_false HBB.out
      have hT := HT.out
      rw [if_neg he] at hT
      subst hT
      clear he
      go_wp2_with (go_at_call 22; (refine (write_any m HR.out _).mono ?_); rintro e w4 ⟨rfl, hf4⟩)
      go_ret2
      exact ⟨rfl, HF3.out.trans hf4⟩
    · have he : n % 65536 = 0 := of_decide_eq_true HBB.out
      have hT := HT.out
      rw [if_pos he] at hT
      subst hT
      clear he
      have hcut : ∀ V, (Instr.slice 9 (.string ⟨(long m).toArray⟩) none (some (.int .i64 10)) none).run Try.prog V = .ok (.string ⟨((long m).take 10).toArray⟩) V := by
        intro V
        have hsz : ((⟨(long m).toArray⟩ : ByteArray).size : Int) = 19 := by show ((long m).toArray.size : Int) = 19; simp [hlen]
        rw [run_slice_string_h V 9 ⟨(long m).toArray⟩ Try.underlying9 .i64 10 (by omega) (by omega), ByteArray.extract_mk]
        simp
      go_wp2_with (go_at_call 22; (refine (write_any m HR.out _).mono ?_); rintro e w4 ⟨rfl, hf4⟩)
      go_ret2
      exact ⟨rfl, HF3.out.trans hf4⟩
  · simp only [if_neg hr] at hg ⊢
    have HG := Lib.hid hg
    clear hg hr
    go_enter Try.func14, Try.ntmps14
    go_wp2_with (go_at_call 13; (refine (HG.out _).mono ?_); rintro e w1 ⟨rfl, hf1⟩)
    go_ret2
    exact ⟨rfl, hf1.trans (Fresh.alloc _ _)⟩
end Go.Proofs.Ytgmpdkkpmgedjaa.dosp
