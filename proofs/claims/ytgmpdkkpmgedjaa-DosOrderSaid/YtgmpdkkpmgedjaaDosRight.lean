/-
  The contracts of Right, Put, Get. My own text.
-/
import Derived.Test.YtgmpdkkpmgedjaaDosWith
import Derived.Laws.StructEq
import Derived.Lib.Hide
import Derived.Laws.ResultCell
namespace Go.Proofs.Ytgmpdkkpmgedjaa.dosp
open Go.RowKit Go.Proofs.Ytgmpdkkpmgedjaa.base Go.Proofs.Ytgmpdkkpmgedjaa.num Go.Proofs.Ytgmpdkkpmgedjaa.bitnum Go.Proofs.Ytgmpdkkpmgedjaa.dosnum
set_option linter.unusedVariables false

/-- two moments are the same -/
def same (a b : Mo) : Bool := decide (a.y = b.y ∧ a.mo = b.mo ∧ a.d = b.d ∧ a.h = b.h ∧ a.mi = b.mi ∧ a.s = b.s)
theorem same_iff {a b : Mo} : same a b = true ↔ a = b := by
  obtain ⟨y, mo, d, h, mi, s⟩ := a
  obtain ⟨y', mo', d', h', mi', s'⟩ := b
  simp [same]
theorem eq_mom (a b : Mo) (W : World) : (Op.equalIn 10000 25 (momV a) (momV b)).run Try.prog W = .ok (same a b) W := by
  have u3 := Try.underlying3
  have a3 := Try.isAgg3
  have z3 := Try.sizeOf3
  have hS : Try.prog.underlying 25 = some (.struct (Try.prog.fieldsOf 25)) := by kernel_rfl
  have hp : Try.prog.stoodInHeld 25 = false := by kernel_rfl
  rw [show (10000 : Nat) = 9999 + 1 from rfl, run_equalIn_agg W 9999 25 _ _ hS hp]
  simp only [Program.fieldsOf, Try.underlying25]
  go_simp
  unfold same
  by_cases h1 : a.y = b.y <;> simp [h1]
  by_cases h2 : a.mo = b.mo <;> simp [h2]
  by_cases h3 : a.d = b.d <;> simp [h3]
  by_cases h4 : a.h = b.h <;> simp [h4]
  by_cases h5 : a.mi = b.mi <;> simp [h5]
  by_cases h6 : a.s = b.s <;> simp [h6]
theorem same_within (m : Mo) : same m (within m) = decide (Right m) := by
  rw [Bool.eq_iff_iff, same_iff, decide_eq_true_iff]
  exact dosnum.within_iff
theorem guard_mom (op : BinOp) (x y : Operand) (a b : Mo) (W : World) : (eqGuard op 25 x y (momV a) (momV b)).run Try.prog W = .ok () W := run_eqGuard_agg W op _ x y _ _ (by kernel_rfl)

theorem right_any (m : Mo) (w : World) : Calls Try.prog 12 #[momV m] w fun e w' => e = .returned (.bool (decide (Right m))) ∧ Fresh w w' := by
  have hb := Bk.made w 25 #[.int .i64 m.y, .int .i64 m.mo, .int .i64 m.d, .int .i64 m.h, .int .i64 m.mi, .int .i64 m.s]
  have hf := Fresh.alloc w (.cells #[.int .i64 m.y, .int .i64 m.mo, .int .i64 m.d, .int .i64 m.h, .int .i64 m.mi, .int .i64 m.s] 25)
  go_enter Try.func12, Try.ntmps12
  go_wp2
  obtain ⟨g, hg⟩ : ∃ g, w.heap.size = g := ⟨_, rfl⟩
  rw [hg] at hb
  generalize w.alloc (.cells #[.int .i64 m.y, .int .i64 m.mo, .int .i64 m.d, .int .i64 m.h, .int .i64 m.mi, .int .i64 m.s] 25) = W at *
  have hb2 := hb.fresh (Fresh.drew W)
  have hf2 := hf.trans (Fresh.drew W)
  have hk1 := six hb2
  have heq := fun V => eq_mom m (within m) V
  have hgd := fun V x y => guard_mom .eql x y m (within m) V
  rw [same_within] at heq
  have HB2 := Lib.hid hb2
  have HF2 := Lib.hid hf2
  clear hb hb2 hf hf2
  go_region_held3 (fun w' => w'.cell? ⟨g, 0, none⟩ = some (.int .i64 m.y) ∧ w'.cell? ⟨g, 1, none⟩ = some (.int .i64 m.mo) ∧ w'.cell? ⟨g, 2, none⟩ = some (.int .i64 m.d) ∧ w'.cell? ⟨g, 3, none⟩ = some (.int .i64 m.h) ∧ w'.cell? ⟨g, 4, none⟩ = some (.int .i64 m.mi) ∧ w'.cell? ⟨g, 5, none⟩ = some (.int .i64 m.s))
    (first | exact hk1 | exact HK2.out)
    (first | (go_at_call 20; (refine (within_any m _).mono ?_); rintro e w1 ⟨rfl, hf1⟩; have HK2 := Lib.hid (six (HB2.out.fresh hf1)); have HF3 := Lib.hid (HF2.out.trans hf1); clear hf1))
  go_wp2
  go_ret
  exact ⟨rfl, HF3.out⟩

theorem put_num (m : Mo) (r : Right m) : bits .or .i64 (wrap64 (bits .or .i64 (bits .or .i64 ((m.y - 1980) * 512) (m.mo * 32)) m.d * 65536)) (bits .or .i64 (bits .or .i64 (m.h * 2048) (m.mi * 32)) (m.s / 2)) = no m := by
  obtain ⟨y, mo, d, h, mi, s⟩ := m
  obtain ⟨y1, y2, mo1, mo2, d1, d2, h1, h2, mi1, mi2, s1, s2⟩ := r
  have hd := days_bd y mo
  simp only [no] at *
  rw [or_sum ((y - 1980) * 512) (mo * 32) 9 (by omega) (by omega) (by omega) (by omega) (by omega) (by omega), or_sum ((y - 1980) * 512 + mo * 32) d 5 (by omega) (by omega) (by omega) (by omega) (by omega) (by omega),
    or_sum (h * 2048) (mi * 32) 11 (by omega) (by omega) (by omega) (by omega) (by omega) (by omega), or_sum (h * 2048 + mi * 32) (s / 2) 5 (by omega) (by omega) (by omega) (by omega) (by omega) (by omega),
    IntWalk.wrap64_in _ ⟨by omega, by omega⟩, or_sum _ (h * 2048 + mi * 32 + s / 2) 16 (by omega) (by omega) (by omega) (by omega) (by omega) (by omega)]
  omega

theorem put_bad (m : Mo) (h : ¬ Right m) (w : World) : Calls Try.prog 9 #[momV m] w fun e w' => e = .returned (.tuple #[.int .i64 0, .int .i64 1]) ∧ Fresh w w' := by
  have hf := Fresh.alloc w (.cells #[.int .i64 m.y, .int .i64 m.mo, .int .i64 m.d, .int .i64 m.h, .int .i64 m.mi, .int .i64 m.s] 25)
  have HF := Lib.hid hf
  have HR := Lib.hid h
  clear hf h
  go_enter Try.func9, Try.ntmps9
  go_wp2_with (go_at_call 12; (refine (right_any m _).mono ?_); rintro e w1 ⟨rfl, hf1⟩; rw [decide_eq_false HR.out])
  go_ret2
  exact ⟨rfl, HF.out.trans hf1⟩
theorem put_ok (m : Mo) (h : Right m) (w : World) : Calls Try.prog 9 #[momV m] w fun e w' => e = .returned (.tuple #[.int .i64 (no m), .int .i64 0]) ∧ Fresh w w' := by
  have hf := Fresh.alloc w (.cells #[.int .i64 m.y, .int .i64 m.mo, .int .i64 m.d, .int .i64 m.h, .int .i64 m.mi, .int .i64 m.s] 25)
  have hb := Bk.made w 25 #[.int .i64 m.y, .int .i64 m.mo, .int .i64 m.d, .int .i64 m.h, .int .i64 m.mi, .int .i64 m.s]
  have HF := Lib.hid hf
  have HB := Lib.hid hb
  have HR := Lib.hid h
  obtain ⟨y1, y2, mo1, mo2, d1, d2, h1, h2, mi1, mi2, s1, s2⟩ := h
  have hd := days_bd m.y m.mo
  have d3 : m.d ≤ 31 := by omega
  clear hf hb hd d2
  go_enter Try.func9, Try.ntmps9
  go_wp2_with (go_at_call 12; (refine (right_any m _).mono ?_); rintro e w1 ⟨rfl, hf1⟩; rw [decide_eq_true HR.out]; obtain ⟨k0, k1, k2, k3, k4, k5⟩ := six (HB.out.fresh hf1))
  go_ret2
  exact ⟨by rw [put_num m HR.out]; rfl, HF.out.trans hf1⟩

theorem results_row_tmp {P : Program} {fn : Func} {p u : Tmp} {ty : TypeId} (h : fn.results = #[.cell p ty, .tmp u]) (tmps : Array Value) (w : World) (g : Nat) (t : TypeId) (cs : List Value) (d : TypeDesc)
    (hp : tmps.getD p undef = .pointer (some ⟨g, 0, none⟩)) (hg : Bk w g t cs)
    (hu : P.underlying ty = some d) (hd : (match d with | .struct _ | .array _ _ => true | _ => false) = true) (hi : (P.info? ty).map (·.size) = some cs.length) :
    (results fn tmps).run P w = .ok (.tuple #[.agg cs.toArray, tmps.getD u undef]) w := by
  rw [results_cell_tmp h, hp]
  simp [asAddr, run_loadVar_row w g t ty cs.toArray (0, 0) d hg hu hd (by simpa using hi)]
abbrev momL (m : Mo) : List Value := [.int .i64 m.y, .int .i64 m.mo, .int .i64 m.d, .int .i64 m.h, .int .i64 m.mi, .int .i64 m.s]
set_option maxHeartbeats 2000000 in
theorem get_any (n : Int) (hn : -9223372036854775808 ≤ n ∧ n ≤ 9223372036854775807) (w : World) :
    Calls Try.prog 13 #[.int .i64 n] w fun e w' => e = (if Right (parts n) then .returned (.tuple #[momV (parts n), .int .i64 0]) else .returned (.tuple #[momV zero, .int .i64 1])) ∧ Fresh w w' := by
  have a1 := and15 (n / 2097152) ⟨by omega, by omega⟩
  have a2 := and31 (n / 65536) ⟨by omega, by omega⟩
  have a3 := and31 (n / 2048) ⟨by omega, by omega⟩
  have a4 := and63 (n / 32) ⟨by omega, by omega⟩
  have a5 := and31 n ⟨by omega, by omega⟩
  have a6 : wrap64 (n % 32 * 2) = n % 32 * 2 := IntWalk.wrap64_in _ ⟨by omega, by omega⟩
  have h1 := hn.1
  have h2 := hn.2
  clear hn
  have hz := (Bk.made w 25 #[.int .i64 0, .int .i64 0, .int .i64 0, .int .i64 0, .int .i64 0, .int .i64 0]).alloc (.cells (momL (parts n)).toArray 25)
  have hm := Bk.made (w.alloc (.cells #[.int .i64 0, .int .i64 0, .int .i64 0, .int .i64 0, .int .i64 0, .int .i64 0] 25)) 25 (momL (parts n)).toArray
  have hf := (Fresh.alloc w (.cells #[.int .i64 0, .int .i64 0, .int .i64 0, .int .i64 0, .int .i64 0, .int .i64 0] 25)).trans (Fresh.alloc _ (.cells (momL (parts n)).toArray 25))
  have hsz1 : (w.alloc (.cells #[.int .i64 0, .int .i64 0, .int .i64 0, .int .i64 0, .int .i64 0, .int .i64 0] 25)).heap.size = w.heap.size + 1 := by simp
  rw [hsz1] at hm
  have HZ := Lib.hid hz
  have HM := Lib.hid hm
  have HF := Lib.hid hf
  clear hz hm hf hsz1
  by_cases hr : Right (parts n)
  · rw [if_pos hr]
    have HR := Lib.hid hr
    clear hr
    go_enter Try.func13, Try.ntmps13
    go_wp2_with (first
      | (go_at_call 12; (refine (right_any (parts n) _).mono ?_); rintro e w1 ⟨rfl, hf1⟩; rw [decide_eq_true HR.out]; obtain ⟨k0, k1, k2, k3, k4, k5⟩ := six (m := parts n) (HM.out.fresh hf1); simp only [parts] at k0 k1 k2 k3 k4 k5; have HZ1 := Lib.hid (HZ.out.fresh hf1); have HF1 := Lib.hid (HF.out.trans hf1); clear hf1)
      | (refine wpList_store_row (o := ⟨none, _, _, _, _, _⟩) rfl 25 (.tmp 2) (.tmp 28) rfl w.heap.size (momL (parts n)).toArray rfl rfl 25 _ HZ1.out (by kernel_rfl) (by simp) (by kernel_rfl) ?_))
    exact bodyPost_ret (results_row_tmp (p := 2) (u := 3) (by kernel_rfl) _ _ w.heap.size 25 (momL (parts n)) _ rfl (HZ1.out.row _) Try.underlying25 rfl (by kernel_rfl)) rfl ⟨rfl, HF1.out.but (Nat.le_refl _) (But.row _ _ _)⟩
  · rw [if_neg hr]
    have HR := Lib.hid hr
    clear hr
    go_enter Try.func13, Try.ntmps13
    go_wp2_with (first
      | (go_at_call 12; (refine (right_any (parts n) _).mono ?_); rintro e w1 ⟨rfl, hf1⟩; rw [decide_eq_false HR.out]; have HZ1 := Lib.hid (HZ.out.fresh hf1); have HF1 := Lib.hid (HF.out.trans hf1); clear hf1)
      | (refine wpList_store_row (o := ⟨none, _, _, _, _, _⟩) rfl 25 (.tmp 2) (.tmp 27) rfl w.heap.size (momL zero).toArray rfl rfl 25 _ HZ1.out (by kernel_rfl) (by simp) (by kernel_rfl) ?_))
    exact bodyPost_ret (results_row_tmp (p := 2) (u := 3) (by kernel_rfl) _ _ w.heap.size 25 (momL zero) _ rfl (HZ1.out.row _) Try.underlying25 rfl (by kernel_rfl)) rfl ⟨rfl, HF1.out.but (Nat.le_refl _) (But.row _ _ _)⟩
end Go.Proofs.Ytgmpdkkpmgedjaa.dosp
