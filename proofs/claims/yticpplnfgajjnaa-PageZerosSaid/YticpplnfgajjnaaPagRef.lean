/-
  ref15.Bytes. My own text.
-/
import Derived.Test.YticpplnfgajjnaaPagLeaf
namespace Go.Proofs.Yticpplnfgajjnaa.pagp
open Go.RowKit Go.Proofs.Yticpplnfgajjnaa.base Go.Proofs.Yticpplnfgajjnaa.num Go.Proofs.Yticpplnfgajjnaa.word Go.Proofs.Yticpplnfgajjnaa.pagn
set_option linter.unusedVariables false

def lenV : Value → Nat
  | .slice _ n _ => n
  | _ => 0
theorem fill_all (bs : List UInt8) (n : Nat) (hl : bs.length = n) : fill bs = bs ++ List.replicate (508 - n) 0 := by rw [fill, hl]
theorem rep_more (bs : List UInt8) (k n : Nat) (h : n ≤ k) : (bs ++ List.replicate (k - n) 0).map bv ++ [Value.int .u8 0] = (bs ++ List.replicate (k + 1 - n) 0).map bv := by
  rw [show k + 1 - n = (k - n) + 1 from by omega, List.replicate_succ', ← List.append_assoc, List.map_append (l₂ := [0])]
  rfl

theorem grown_nil {w w1 : World} (h : w.grownBy w1 (Value.slice none 0 0).ownBlock) : Fresh w w1 := below_of_grown h (Nat.le_refl _) (fun k hk => by cases hk)
set_option maxRecDepth 100000 in
theorem refBytes_any (no : Nat) (A : Option Addr) (n c : Nat) (bs : List UInt8) (w : World) (hno : no < 16777216) (hr : Rd w w.heap.size A n (bs.map bv)) (hn : n ≤ 508) :
    Calls Try.prog 12 #[.int .i64 no, .slice A n c] w fun e w' => ∃ A' c', e = .returned (.slice A' 512 c') ∧ Fresh w w' ∧ Own w' w.heap.size 5 A' 512 c' ((page no (fill bs)).map bv) := by
  obtain ⟨i0, hi0, hz0, hz1, hz2⟩ := info_parts byte_info
  have hl : bs.length = n := by have := hr.1; rwa [List.length_map] at this
  have b4 : ∀ (a : Nat) (W : World), a < 4294967296 → Calls Try.prog 15 #[.int .i64 a, .int .i64 4] W fun e w' => ∃ A c, e = .returned (.slice A 4 c) ∧ Fresh W w' ∧ Own w' W.heap.size 5 A 4 c ((low 4 a).map bv) := fun a W ha => by
    have := bytes_any a 4 W (WalkArith.wf_i64 ⟨by omega, by omega⟩)
    have h4 : word.wide 4 = 4 := by decide
    rw [h4, u64_nat a (by omega)] at this
    exact this
  have hff := fill_all bs n hl
  have hfl := fill_length bs (by omega)
  have hs := crcnum.sum_lt (low 4 no ++ fill bs)
  have hp : page no (fill bs) = fill bs ++ low 4 (crcnum.sum (low 4 no ++ fill bs)) := rfl
  have hof := fun (W : World) (A : Option Addr) (c : Nat) (h : Rd W W.heap.size A 512 ((low 4 no ++ fill bs).map bv)) => crc.of_is A 512 c (low 4 no ++ fill bs) _ W _ h (by unfold maxLen; omega) rfl
  generalize page no (fill bs) = pg at *
  generalize hS : crcnum.sum (low 4 no ++ fill bs) = S at *
  generalize hF : fill bs = F at *
  have HP := Lib.hid hp
  have HFF := Lib.hid hff
  have HL := Lib.hid hl
  have HOF := Lib.hid hof
  have hS2 : IntKind.i64.wrap (S : Int) = (S : Int) := by rw [IntKind.wrap_i64]; omega
  have b4a := fun W => b4 no W (by omega)
  have b4b := fun W => b4 S W hs
  have HBA := Lib.hid b4a
  have HBB := Lib.hid b4b
  clear hp hff hl hof hS hF b4 b4a b4b hno hs hfl
  go_enter Try.func12, Try.ntmps12
  go_wp2_with (at_builtin; refine wpList_append_rd _ rfl _ _ 22 rfl w.heap.size 5 i0 _ 1 Try.underlying22 hi0 hz0 hz1 hz2 rfl none 0 0 [] rfl (Own.nil _ _ _) w.heap.size A n c _ rfl hr (bv_one bs) (by unfold maxLen; omega) (by omega) (Nat.le_refl _) ?_; intro A1 c1 w1 ho1 hg1)
  have hf1 : Fresh w w1 := grown_nil hg1
  rw [Nat.zero_add, List.nil_append] at ho1
  clear hg1
  go_loopw [5] (fun v wr => ∃ (k c : Nat) (A : Option Addr), n ≤ k ∧ k ≤ 508 ∧ v = .slice A k c ∧ Fresh w wr ∧ Own wr w.heap.size 5 A k c ((bs ++ List.replicate (k - n) 0).map bv)) (fun v _ => 508 - lenV v)
  case atStart => exact ⟨n, c1, A1, Nat.le_refl _, hn, rfl, hf1, by rw [Nat.sub_self, List.replicate_zero, List.append_nil]; exact ho1⟩
  case round =>
    obtain ⟨k, c2, A2, hk1, hk2, rfl, hf2, ho2⟩ := hrel
    by_cases hlt : k < 508
    · go_wp2_with (at_builtin; refine wpList_append_rd _ rfl _ _ 22 rfl w.heap.size 5 i0 _ 1 Try.underlying22 hi0 hz0 hz1 hz2 rfl A2 k c2 _ rfl (Own.fresh ho2 (Fresh.alloc _ _)) (wr.heap.size + 1) (some ⟨wr.heap.size, 0, none⟩) 1 1 [.int .u8 0] rfl (Rd.lit wr #[.int .u8 0] 5) (one_one _ _) (by unfold maxLen; omega) (by omega) (by have := hf2.size; simp; omega) ?_; intro A3 c3 w3 ho3 hg3)
      have hf3 : Fresh w w3 := (hf2.trans (Fresh.alloc _ _)).append (Own.fresh ho2 (Fresh.alloc _ _)) (Nat.le_refl _) hg3
      rw [rep_more bs k n hk1] at ho3
      clear hg3
      go_roundw
      case rel => exact ⟨k + 1, c3, A3, by omega, by omega, rfl, hf3, ho3⟩
      case measure => simp [lenV]; omega
    · have h0 : k = 508 := by omega
      subst h0
      rw [← HFF.out] at ho2
      have HO2 := Lib.hid ho2
      have HF2 := Lib.hid hf2
      clear ho2 hf2 ho1 hf1 hr
      go_wp2_with (first
        | (go_at_call 15; ((with_reducible refine (HBA.out _).mono ?_); rintro e w3 ⟨A3, c3, rfl, hf3, ho3⟩; have HF3 := Lib.hid (HF2.out.trans hf3); have HO3 := Lib.hid ho3; have HO23 := Lib.hid (Own.fresh HO2.out hf3); clear hf3 ho3))
        | ((with_reducible refine at_slot_ 19 ?_); refine wpList_append_rd _ rfl _ _ 22 rfl w3.heap.size 5 i0 _ 1 Try.underlying22 hi0 hz0 hz1 hz2 rfl none 0 0 [] rfl (Own.nil _ _ _) w3.heap.size A3 4 c3 _ rfl HO3.out.rd (bv_one _) (by unfold maxLen; omega) (by omega) (Nat.le_refl _) ?_; intro A4 c4 w4 ho4 hg4; have hf4 : Fresh w3 w4 := grown_nil hg4; rw [Nat.zero_add, List.nil_append] at ho4; have HF4 := Lib.hid hf4; have HO4 := Lib.hid ho4; have HO24 := Lib.hid (Own.fresh HO23.out hf4); clear hf4 ho4 hg4)
        | ((with_reducible refine at_slot_ 22 ?_); refine wpList_append_rd _ rfl _ _ 22 rfl w3.heap.size 5 i0 _ 1 Try.underlying22 hi0 hz0 hz1 hz2 rfl A4 4 c4 _ rfl HO4.out w4.heap.size A2 508 c2 _ rfl HO24.out.rd (bv_one _) (by unfold maxLen; omega) (by omega) HF4.out.size ?_; intro A5 c5 w5 ho5 hg5; have hf5 : Fresh w3 w5 := Fresh.append HF4.out HO4.out (Nat.le_refl _) hg5; rw [← List.map_append] at ho5; have HF5 := Lib.hid (HF3.out.trans hf5); have HO5 := Lib.hid ho5; have HO25 := Lib.hid (Own.fresh HO23.out hf5); clear hf5 ho5 hg5)
        | (go_at_call 16; ((refine (HOF.out _ _ _ HO5.out.rd).mono ?_); rintro e w6 ⟨rfl, rfl⟩))
        | (go_at_call 15; ((with_reducible refine (HBB.out _).mono ?_); rintro e w7 ⟨A7, c7, rfl, hf7, ho7⟩; have HF7 := Lib.hid (HF5.out.trans hf7); have HO7 := Lib.hid ho7; have HO27 := Lib.hid (Own.fresh HO25.out hf7); clear hf7 ho7))
        | ((with_reducible refine at_slot_ 28 ?_); refine wpList_append_rd _ rfl _ _ 22 rfl w.heap.size 5 i0 _ 1 Try.underlying22 hi0 hz0 hz1 hz2 rfl A2 508 c2 _ rfl HO27.out w7.heap.size A7 4 c7 _ rfl HO7.out.rd (bv_one _) (by unfold maxLen; omega) (by omega) HF7.out.size ?_; intro A8 c8 w8 ho8 hg8; have hf8 : Fresh w w8 := Fresh.append HF7.out HO27.out (Nat.le_refl _) hg8; rw [← List.map_append, ← HP.out] at ho8; have HF8 := Lib.hid hf8; have HO8 := Lib.hid ho8; clear hf8 ho8 hg8))
      go_ret
      exact ⟨A8, c8, rfl, HF8.out, HO8.out⟩
end Go.Proofs.Yticpplnfgajjnaa.pagp
