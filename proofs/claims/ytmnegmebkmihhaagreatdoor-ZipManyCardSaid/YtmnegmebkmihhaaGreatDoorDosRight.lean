/-
  The contracts of Right, Put, Get. My own text.
-/
import Derived.Test.YtmnegmebkmihhaaGreatDoorDosWith
import Derived.Laws.StructEq
import Derived.Lib.Hide
import Derived.Laws.ResultCell
namespace Go.Proofs.YtmnegmebkmihhaaGreatDoor.dosp
open Go.RowKit Go.Proofs.YtmnegmebkmihhaaGreatDoor.base Go.Proofs.YtmnegmebkmihhaaGreatDoor.num Go.Proofs.YtmnegmebkmihhaaGreatDoor.bitnum Go.Proofs.YtmnegmebkmihhaaGreatDoor.dosnum
set_option linter.unusedVariables false

/-- two moments are the same -/
def same (a b : Mo) : Bool := decide (a.y = b.y ∧ a.mo = b.mo ∧ a.d = b.d ∧ a.h = b.h ∧ a.mi = b.mi ∧ a.s = b.s)
theorem same_iff {a b : Mo} : same a b = true ↔ a = b := by
  obtain ⟨y, mo, d, h, mi, s⟩ := a
  obtain ⟨y', mo', d', h', mi', s'⟩ := b
  simp [same]
theorem eq_mom (a b : Mo) (W : World) : (Op.equalIn 10000 62 (momV a) (momV b)).run Tryz.prog W = .ok (same a b) W := by
  have u3 := Tryz.underlying3
  have a3 := Tryz.isAgg3
  have z3 := Tryz.sizeOf3
  have hS : Tryz.prog.underlying 62 = some (.struct (Tryz.prog.fieldsOf 62)) := by kernel_rfl
  have hp : Tryz.prog.stoodInHeld 62 = false := by kernel_rfl
  rw [show (10000 : Nat) = 9999 + 1 from rfl, run_equalIn_agg W 9999 62 _ _ hS hp]
  simp only [Program.fieldsOf, Tryz.underlying62]
  go_simp
  unfold same
  by_cases h1 : a.y = b.y <;> simp [h1]
  by_cases h2 : a.mo = b.mo <;> simp [h2]
  by_cases h3 : a.d = b.d <;> simp [h3]
  by_cases h4 : a.h = b.h <;> simp [h4]
  by_cases h5 : a.mi = b.mi <;> simp [h5]
  by_cases h6 : a.s = b.s <;> simp [h6]
theorem same_within (m : Mo) : same m (within m) = decide (Right m) := by
  rw [Bool.eq_iff_iff, same_iff, decide_eq_true_iff]
  exact dosnum.within_iff
theorem guard_mom (op : BinOp) (x y : Operand) (a b : Mo) (W : World) : (eqGuard op 62 x y (momV a) (momV b)).run Tryz.prog W = .ok () W := run_eqGuard_agg W op _ x y _ _ (by kernel_rfl)

theorem right_any (m : Mo) (w : World) : Calls Tryz.prog 56 #[momV m] w fun e w' => e = .returned (.bool (decide (Right m))) ∧ Fresh w w' := by
  have hb := Bk.made w 62 #[.int .i64 m.y, .int .i64 m.mo, .int .i64 m.d, .int .i64 m.h, .int .i64 m.mi, .int .i64 m.s]
  have hf := Fresh.alloc w (.cells #[.int .i64 m.y, .int .i64 m.mo, .int .i64 m.d, .int .i64 m.h, .int .i64 m.mi, .int .i64 m.s] 62)
  go_enter Tryz.func56, Tryz.ntmps56
  go_wp2
  obtain ⟨g, hg⟩ : ∃ g, w.heap.size = g := ⟨_, rfl⟩
  rw [hg] at hb
  generalize w.alloc (.cells #[.int .i64 m.y, .int .i64 m.mo, .int .i64 m.d, .int .i64 m.h, .int .i64 m.mi, .int .i64 m.s] 62) = W at *
  have hb2 := hb.fresh (Fresh.drew W)
  have hf2 := hf.trans (Fresh.drew W)
  have hk1 := six hb2
  have heq := fun V => eq_mom m (within m) V
  have hgd := fun V x y => guard_mom .eql x y m (within m) V
  rw [same_within] at heq
  have HB2 := Lib.hid hb2
  have HF2 := Lib.hid hf2
  clear hb hb2 hf hf2
  go_region_held3 (fun w' => w'.cell? ⟨g, 0, none⟩ = some (.int .i64 m.y) ∧ w'.cell? ⟨g, 1, none⟩ = some (.int .i64 m.mo) ∧ w'.cell? ⟨g, 2, none⟩ = some (.int .i64 m.d) ∧ w'.cell? ⟨g, 3, none⟩ = some (.int .i64 m.h) ∧ w'.cell? ⟨g, 4, none⟩ = some (.int .i64 m.mi) ∧ w'.cell? ⟨g, 5, none⟩ = some (.int .i64 m.s))
    (first | exact hk1 | exact HK2.out)
    (first | (go_at_call 112; (refine (within_any m _).mono ?_); rintro e w1 ⟨rfl, hf1⟩; have HK2 := Lib.hid (six (HB2.out.fresh hf1)); have HF3 := Lib.hid (HF2.out.trans hf1); clear hf1))
  go_wp2
  go_ret
  exact ⟨rfl, HF3.out⟩

theorem put_num (m : Mo) (r : Right m) : bits .or .i64 (wrap64 (bits .or .i64 (bits .or .i64 ((m.y - 1980) * 512) (m.mo * 32)) m.d * 65536)) (bits .or .i64 (bits .or .i64 (m.h * 2048) (m.mi * 32)) (m.s / 2)) = no m := by
  obtain ⟨y, mo, d, h, mi, s⟩ := m
  obtain ⟨y1, y2, mo1, mo2, d1, d2, h1, h2, mi1, mi2, s1, s2⟩ := r
  have hd := days_bd y mo
  simp only [no] at *
  rw [or_sum ((y - 1980) * 512) (mo * 32) 9 (by omega) (by omega) (by omega) (by omega) (by omega) (by omega), or_sum ((y - 1980) * 512 + mo * 32) d 5 (by omega) (by omega) (by omega) (by omega) (by omega) (by omega),
    or_sum (h * 2048) (mi * 32) 11 (by omega) (by omega) (by omega) (by omega) (by omega) (by omega), or_sum (h * 2048 + mi * 32) (s / 2) 5 (by omega) (by omega) (by omega) (by omega) (by omega) (by omega),
    IntWalk.wrap64_in _ ⟨by omega, by omega⟩, or_sum _ (h * 2048 + mi * 32 + s / 2) 16 (by omega) (by omega) (by omega) (by omega) (by omega) (by omega)]
  omega

theorem results_row_tmp {P : Program} {fn : Func} {p u : Tmp} {ty : TypeId} (h : fn.results = #[.cell p ty, .tmp u]) (tmps : Array Value) (w : World) (g : Nat) (t : TypeId) (cs : List Value) (d : TypeDesc)
    (hp : tmps.getD p undef = .pointer (some ⟨g, 0, none⟩)) (hg : Bk w g t cs)
    (hu : P.underlying ty = some d) (hd : (match d with | .struct _ | .array _ _ => true | _ => false) = true) (hi : (P.info? ty).map (·.size) = some cs.length) :
    (results fn tmps).run P w = .ok (.tuple #[.agg cs.toArray, tmps.getD u undef]) w := by
  rw [results_cell_tmp h, hp]
  simp [asAddr, run_loadVar_row w g t ty cs.toArray (0, 0) d hg hu hd (by simpa using hi)]
abbrev momL (m : Mo) : List Value := [.int .i64 m.y, .int .i64 m.mo, .int .i64 m.d, .int .i64 m.h, .int .i64 m.mi, .int .i64 m.s]
set_option maxRecDepth 100000 in
set_option maxHeartbeats 2000000 in
theorem get_any (n : Int) (hn : -9223372036854775808 ≤ n ∧ n ≤ 9223372036854775807) (w : World) :
    Calls Tryz.prog 25 #[.int .i64 n] w fun e w' => e = (if Right (parts n) then .returned (.tuple #[momV (parts n), .int .i64 0]) else .returned (.tuple #[momV zero, .int .i64 1])) ∧ Fresh w w' := by
  have a1 := and15 (n / 2097152) ⟨by omega, by omega⟩
  have a2 := and31 (n / 65536) ⟨by omega, by omega⟩
  have a3 := and31 (n / 2048) ⟨by omega, by omega⟩
  have a4 := and63 (n / 32) ⟨by omega, by omega⟩
  have a5 := and31 n ⟨by omega, by omega⟩
  have a6 : wrap64 (n % 32 * 2) = n % 32 * 2 := IntWalk.wrap64_in _ ⟨by omega, by omega⟩
  have h1 := hn.1
  have h2 := hn.2
  clear hn
  have hz := (Bk.made w 62 #[.int .i64 0, .int .i64 0, .int .i64 0, .int .i64 0, .int .i64 0, .int .i64 0]).alloc (.cells (momL (parts n)).toArray 62)
  have hm := Bk.made (w.alloc (.cells #[.int .i64 0, .int .i64 0, .int .i64 0, .int .i64 0, .int .i64 0, .int .i64 0] 62)) 62 (momL (parts n)).toArray
  have hf := (Fresh.alloc w (.cells #[.int .i64 0, .int .i64 0, .int .i64 0, .int .i64 0, .int .i64 0, .int .i64 0] 62)).trans (Fresh.alloc _ (.cells (momL (parts n)).toArray 62))
  have hsz1 : (w.alloc (.cells #[.int .i64 0, .int .i64 0, .int .i64 0, .int .i64 0, .int .i64 0, .int .i64 0] 62)).heap.size = w.heap.size + 1 := by simp
  rw [hsz1] at hm
  have HZ := Lib.hid hz
  have HM := Lib.hid hm
  have HF := Lib.hid hf
  clear hz hm hf hsz1
  by_cases hr : Right (parts n)
  · rw [if_pos hr]
    have HR := Lib.hid hr
    clear hr
    go_enter Tryz.func25, Tryz.ntmps25
    go_wp2_with (first
      | (go_at_call 56; (refine (right_any (parts n) _).mono ?_); rintro e w1 ⟨rfl, hf1⟩; rw [decide_eq_true HR.out]; obtain ⟨k0, k1, k2, k3, k4, k5⟩ := six (m := parts n) (HM.out.fresh hf1); simp only [parts] at k0 k1 k2 k3 k4 k5; have HZ1 := Lib.hid (HZ.out.fresh hf1); have HF1 := Lib.hid (HF.out.trans hf1); clear hf1)
      | (refine wpList_store_row (o := ⟨none, _, _, _, _, _⟩) rfl 62 (.tmp 2) (.tmp 28) rfl w.heap.size (momL (parts n)).toArray rfl rfl 62 _ HZ1.out (by kernel_rfl) (by simp) (by kernel_rfl) ?_))
    exact bodyPost_ret (results_row_tmp (p := 2) (u := 3) (by kernel_rfl) _ _ w.heap.size 62 (momL (parts n)) _ rfl (HZ1.out.row _) Tryz.underlying62 rfl (by kernel_rfl)) rfl ⟨rfl, HF1.out.but (Nat.le_refl _) (But.row _ _ _)⟩
  · rw [if_neg hr]
    have HR := Lib.hid hr
    clear hr
    go_enter Tryz.func25, Tryz.ntmps25
    go_wp2_with (first
      | (go_at_call 56; (refine (right_any (parts n) _).mono ?_); rintro e w1 ⟨rfl, hf1⟩; rw [decide_eq_false HR.out]; have HZ1 := Lib.hid (HZ.out.fresh hf1); have HF1 := Lib.hid (HF.out.trans hf1); clear hf1)
      | (refine wpList_store_row (o := ⟨none, _, _, _, _, _⟩) rfl 62 (.tmp 2) (.tmp 27) rfl w.heap.size (momL zero).toArray rfl rfl 62 _ HZ1.out (by kernel_rfl) (by simp) (by kernel_rfl) ?_))
    exact bodyPost_ret (results_row_tmp (p := 2) (u := 3) (by kernel_rfl) _ _ w.heap.size 62 (momL zero) _ rfl (HZ1.out.row _) Tryz.underlying62 rfl (by kernel_rfl)) rfl ⟨rfl, HF1.out.but (Nat.le_refl _) (But.row _ _ _)⟩
end Go.Proofs.YtmnegmebkmihhaaGreatDoor.dosp
