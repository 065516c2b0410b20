/-
  Layer 13's reference: plain. My own text.
-/
import Derived.Test.YtkkkjadfhimahaaDoorGlbCut
import Derived.Test.YtkkkjadfhimahaaDoorGlbApx
namespace Go.Proofs.YtkkkjadfhimahaaDoor.glbp
open Go.RowKit Go.Proofs.YtkkkjadfhimahaaDoor.base Go.Proofs.YtkkkjadfhimahaaDoor.nam Go.Proofs.YtkkkjadfhimahaaDoor.glb
set_option linter.unusedVariables false
abbrev tTook : TypeId := 58
/-- runes as ints -/
abbrev ir (l : List Nat) : List Value := l.map fun x : Nat => iv (x : Int)
def tookL (l : List Nat) (at_ : Nat) : List Value := match runeP (l.drop at_) with
  | none => [iv 0, iv 0, .bool false]
  | some (r, k) => [iv (r : Nat), iv ((at_ + k : Nat) : Int), .bool true]
abbrev TookIs (l : List Nat) (at_ : Nat) (w : World) (e : Ending) (w' : World) : Prop := e = .returned (.agg (tookL l at_).toArray) ∧ Fresh w w'
theorem drop_head {l : List Nat} {k a : Nat} (h : l[k]? = some a) : l.drop k = a :: l.drop (k + 1) := by
  have h1 := (List.getElem?_eq_some_iff.1 h).1
  rw [List.drop_eq_getElem_cons h1]
  congr 1
  rw [List.getElem?_eq_getElem h1] at h
  exact Option.some.inj h
set_option maxRecDepth 100000 in
theorem plain_any (A : Option Addr) (n c B at_ : Nat) (l : List Nat) (w : World) (hr : Rd w B A n (ir l)) (hB : B ≤ w.heap.size) (hm : n ≤ 1000) (hat : at_ ≤ n) :
    Calls Tryd.prog 21 #[.slice A n c, .int .i64 (at_ : Nat)] w (TookIs l at_ w) := by
  have hl : l.length = n := by have := hr.1; rwa [List.length_map] at this
  have b1 := Bk.made w tTook #[iv 0, iv 0, .bool false]
  have f1 := Fresh.alloc w (.cells #[iv 0, iv 0, .bool false] tTook)
  have hr1 := hr.alloc hB (.cells #[iv 0, iv 0, .bool false] tTook)
  have HR := Lib.hid hr1
  have HB1 := Lib.hid b1
  have HF1 := Lib.hid f1
  have ea : IntKind.i64.wrap ((at_ : Int) + 1) = ((at_ + 1 : Nat) : Int) := by rw [IntWalk.i64_in _ (by omega)]; omega
  have ea2 : IntKind.i64.wrap ((at_ : Int) + 1 + 1) = ((at_ + 2 : Nat) : Int) := by rw [IntWalk.i64_in _ (by omega)]; omega
  unfold TookIs
  clear hr b1 f1 hr1
  by_cases h0 : at_ < n
  · obtain ⟨b, off, x, rfl, hb, hx, hcx⟩ := HR.out.at_ h0
    have hd := drop_head hx
    have p1 : (at_ : Int) < (n : Int) := by omega
    by_cases h92 : x = 92
    · subst h92
      by_cases h1 : at_ + 1 < n
      · obtain ⟨b', off', y, e', hb', hy, hcy⟩ := HR.out.at_ h1
        injection e' with e'
        injection e' with e2 e3 _
        subst e2; subst e3
        have hd2 := drop_head hy
        have ht : tookL l at_ = [iv (y : Nat), iv ((at_ + 2 : Nat) : Int), .bool true] := by rw [tookL, hd, hd2]; rfl
        rw [ht]
        have p2 : (at_ : Int) + 1 < (n : Int) := by omega
        have p3 : decide ((at_ : Int) + 1 ≥ (n : Int)) = false := by rw [decide_eq_false_iff_not]; omega
        have p4 : decide ((n : Int) ≤ (at_ : Int) + 1) = false := by rw [decide_eq_false_iff_not]; omega
        have p5 : (0 : Int) ≤ (at_ : Int) + 1 := by omega
        clear hx hy hd hd2 ht hb hb' h0 h1
        go_enter Tryd.func21, Tryd.ntmps21
        go_wp2_with ((with_reducible refine at_store_ 4 29 ?_); refine wpList_store_blk rfl _ _ _ rfl w.heap.size 0 tTook _ [iv (y : Nat), iv ((at_ + 2 : Nat) : Int), .bool true] rfl rfl HB1.out (by simp) (by intro v hv; simp at hv; rcases hv with rfl | rfl | rfl <;> rfl) (by kernel_rfl) ?_; intro w2 hb3 hbut2; have HB3 := Lib.hid hb3; have HU3 := Lib.hid hbut2; clear hb3 hbut2)
        exact bodyPost_ret (results_cell_row (p := 4) (by kernel_rfl) _ _ w.heap.size tTook #[iv (y : Nat), iv ((at_ + 2 : Nat) : Int), .bool true] (0, 0) _ rfl HB3.out Tryd.underlying58 rfl (by kernel_rfl)) rfl ⟨rfl, Fresh.but HF1.out (Nat.le_refl _) HU3.out⟩
      · have hd2 : l.drop (at_ + 1) = [] := List.drop_of_length_le (by omega)
        have ht : tookL l at_ = [iv 0, iv 0, .bool false] := by rw [tookL, hd, hd2]; rfl
        rw [ht]
        have p3 : decide ((at_ : Int) + 1 ≥ (n : Int)) = true := by rw [decide_eq_true_iff]; omega
        have p4 : decide ((n : Int) ≤ (at_ : Int) + 1) = true := by rw [decide_eq_true_iff]; omega
        clear hx hd hd2 ht hb h0 h1
        go_enter Tryd.func21, Tryd.ntmps21
        go_wp2_with ((with_reducible refine at_store_ 4 22 ?_); refine wpList_store_blk rfl _ _ _ rfl w.heap.size 0 tTook _ [iv 0, iv 0, .bool false] rfl rfl HB1.out (by simp) (by intro v hv; simp at hv; rcases hv with rfl | rfl <;> rfl) (by kernel_rfl) ?_; intro w2 hb3 hbut2; have HB3 := Lib.hid hb3; have HU3 := Lib.hid hbut2; clear hb3 hbut2)
        exact bodyPost_ret (results_cell_row (p := 4) (by kernel_rfl) _ _ w.heap.size tTook #[iv 0, iv 0, .bool false] (0, 0) _ rfl HB3.out Tryd.underlying58 rfl (by kernel_rfl)) rfl ⟨rfl, Fresh.but HF1.out (Nat.le_refl _) HU3.out⟩
    · have ht : tookL l at_ = [iv (x : Nat), iv ((at_ + 1 : Nat) : Int), .bool true] := by rw [tookL, hd, runeP, if_neg h92]
      rw [ht]
      have q1 : ((x : Int) == 92) = false := by rw [beq_eq_false_iff_ne]; omega
      have p3 : decide ((at_ : Int) ≥ (n : Int)) = false := by rw [decide_eq_false_iff_not]; omega
      have p4 : decide ((n : Int) ≤ (at_ : Int)) = false := by rw [decide_eq_false_iff_not]; omega
      clear hx hd ht hb h0 h92
      go_enter Tryd.func21, Tryd.ntmps21
      go_wp2_with ((with_reducible refine at_store_ 4 29 ?_); refine wpList_store_blk rfl _ _ _ rfl w.heap.size 0 tTook _ [iv (x : Nat), iv ((at_ + 1 : Nat) : Int), .bool true] rfl rfl HB1.out (by simp) (by intro v hv; simp at hv; rcases hv with rfl | rfl | rfl <;> rfl) (by kernel_rfl) ?_; intro w2 hb3 hbut2; have HB3 := Lib.hid hb3; have HU3 := Lib.hid hbut2; clear hb3 hbut2)
      exact bodyPost_ret (results_cell_row (p := 4) (by kernel_rfl) _ _ w.heap.size tTook #[iv (x : Nat), iv ((at_ + 1 : Nat) : Int), .bool true] (0, 0) _ rfl HB3.out Tryd.underlying58 rfl (by kernel_rfl)) rfl ⟨rfl, Fresh.but HF1.out (Nat.le_refl _) HU3.out⟩
  · have hd2 : l.drop at_ = [] := List.drop_of_length_le (by omega)
    have ht : tookL l at_ = [iv 0, iv 0, .bool false] := by rw [tookL, hd2]; rfl
    rw [ht]
    obtain rfl : at_ = n := by omega
    clear hd2 ht h0 hat
    go_enter Tryd.func21, Tryd.ntmps21
    go_wp2_with ((with_reducible refine at_store_ 4 22 ?_); refine wpList_store_blk rfl _ _ _ rfl w.heap.size 0 tTook _ [iv 0, iv 0, .bool false] rfl rfl HB1.out (by simp) (by intro v hv; simp at hv; rcases hv with rfl | rfl <;> rfl) (by kernel_rfl) ?_; intro w2 hb3 hbut2; have HB3 := Lib.hid hb3; have HU3 := Lib.hid hbut2; clear hb3 hbut2)
    exact bodyPost_ret (results_cell_row (p := 4) (by kernel_rfl) _ _ w.heap.size tTook #[iv 0, iv 0, .bool false] (0, 0) _ rfl HB3.out Tryd.underlying58 rfl (by kernel_rfl)) rfl ⟨rfl, Fresh.but HF1.out (Nat.le_refl _) HU3.out⟩
end Go.Proofs.YtkkkjadfhimahaaDoor.glbp
