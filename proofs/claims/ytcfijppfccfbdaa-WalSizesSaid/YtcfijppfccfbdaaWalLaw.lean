/-
  What the laws of layer 16 share: wakes. My own text.
-/
import Derived.Test.YtcfijppfccfbdaaWalGet
import Derived.Test.YtcfijppfccfbdaaWalPut
import Derived.Lib.SmallJoins
namespace Go.Proofs.Ytcfijppfccfbdaa.walp
open Go.RowKit Go.Proofs.Ytcfijppfccfbdaa.base Go.Proofs.Ytcfijppfccfbdaa.num Go.Proofs.Ytcfijppfccfbdaa.word Go.Proofs.Ytcfijppfccfbdaa.waln
set_option linter.unusedVariables false

theorem get_ok (A : Option Addr) (n c : Nat) (bs : List UInt8) (w : World) (hr : Rd w w.heap.size A n (bs.map bv)) (hc : n ≤ c) (hm : c ≤ maxLen) (hn : n ≤ 65536) (l : List Pg) (hg : waln.get bs = .ok l) :
    Calls Try.prog 13 #[.slice A n c] w fun e w' => ∃ A' m cc ws, e = .returned (.tuple #[.slice A' m cc, .int .i64 0]) ∧ Fresh w w' ∧ WsAt w' w'.heap.size A' m ws ∧ ws.map Wp.pg = l ∧ m ≤ cc ∧ cc ≤ maxLen := by
  refine (get_any A n c bs w hr hc hm hn).mono ?_
  rintro e w' ⟨hf, h⟩
  rw [hg] at h
  obtain ⟨A', m, cc, ws, rfl, h1, h2, h3, h4⟩ := h
  exact ⟨A', m, cc, ws, rfl, hf, h1, h2, h3, h4⟩
theorem get_no (A : Option Addr) (n c : Nat) (bs : List UInt8) (w : World) (hr : Rd w w.heap.size A n (bs.map bv)) (hc : n ≤ c) (hm : c ≤ maxLen) (hn : n ≤ 65536) (k : Nat) (z : Int) (hz : z = (k : Int)) (hg : waln.get bs = .bad k) :
    Calls Try.prog 13 #[.slice A n c] w fun e w' => e = .returned (.tuple #[.slice none 0 0, .int .i64 z]) ∧ Fresh w w' := by
  refine (get_any A n c bs w hr hc hm hn).mono ?_
  rintro e w' ⟨hf, h⟩
  rw [hg] at h
  subst hz
  exact ⟨h, hf⟩

set_option maxRecDepth 100000 in
theorem wakes_any (w : World) : Calls Try.prog 7 #[] w fun e w' => e = .returned (.bool true) ∧ Fresh w w' := by
  have hp := put_ok none 0 0 [] w (WsAt.nil _ _ _) (by omega) (by decide) 12 rfl
  have hg := get_batch [] (by decide) []
  rw [List.append_nil] at hg
  have h1 := fun (W : World) (A : Option Addr) (c : Nat) (ho : base.Own W w.heap.size tB A 12 c ((batch []).map bv)) => get_ok A 12 c (batch []) W ho.rd ho.cap.1 ho.cap.2 (by omega) [] hg
  have h2 := fun (W : World) (g : Nat) (hW : g = W.heap.size) => get_no (some ⟨g, 0, none⟩) 4 4 [105, 113, 106, 50] (W.alloc (.cells #[.int .u8 105, .int .u8 113, .int .u8 106, .int .u8 50] tB (4, 5))) (by subst hW; exact (Rd.mark W #[.int .u8 105, .int .u8 113, .int .u8 106, .int .u8 50] tB _).up (by simp)) (Nat.le_refl _) (by unfold maxLen; omega) (by omega) 4 4 rfl (by have h4 : waln.told [105, 113, 106, 50] = (0, 4) := (by decide); unfold waln.get; rw [h4]; rfl)
  have hcv := fun W : World => Joins.run_convert_bytes_const_at (P := Try.prog) W 23 5 #[.int .u8 105, .int .u8 113, .int .u8 106, .int .u8 50] 4 4 W.heap.size rfl Try.underlying23 Try.underlying5
  have HP := Lib.hid hp
  have H1 := Lib.hid h1
  have H2 := Lib.hid h2
  clear hp hg h1 h2
  go_enter Try.func7, Try.ntmps7
  go_wp2_with (first
    | (go_at_call 8; (refine HP.out.mono ?_); rintro e w1 ⟨A1, c1, rfl, hf1, ho1⟩; have HF1 := Lib.hid hf1; have HO1 := Lib.hid ho1; clear hf1 ho1)
    | (go_at_call 13; ((with_reducible refine (H1.out _ _ _ HO1.out).mono ?_); rintro e w2 ⟨A2, m2, c2, ws, rfl, hf2, _, _, _, _⟩; have HF2 := Lib.hid (HF1.out.trans hf2); clear hf2))
    | (go_at_call 13; ((with_reducible refine (H2.out _ _ (by simp)).mono ?_); rintro e w3 ⟨rfl, hf3⟩; have HF3 := Lib.hid ((HF2.out.trans (Fresh.alloc _ _)).trans hf3); clear hf3)))
  go_ret
  exact ⟨rfl, HF3.out⟩
end Go.Proofs.Ytcfijppfccfbdaa.walp
