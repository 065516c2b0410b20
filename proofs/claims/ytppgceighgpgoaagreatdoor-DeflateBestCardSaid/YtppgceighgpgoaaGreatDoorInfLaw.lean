import Derived.Test.YtppgceighgpgoaaGreatDoorMgInfF
import Derived.Test.YtppgceighgpgoaaGreatDoorMgWtr
import Derived.Laws.IdiomStrings
/-
  All by its answer; an unpacker that is not there; the laws' example. My own text.
-/
namespace Go.Proofs.YtppgceighgpgoaaGreatDoor.infp
open Go.RowKit Go.Proofs.YtppgceighgpgoaaGreatDoor.base Go.Proofs.YtppgceighgpgoaaGreatDoor.num Go.Proofs.YtppgceighgpgoaaGreatDoor.bitnum Go.Proofs.YtppgceighgpgoaaGreatDoor.bitp Go.Proofs.YtppgceighgpgoaaGreatDoor.huffnum Go.Proofs.YtppgceighgpgoaaGreatDoor.huffp Go.Proofs.YtppgceighgpgoaaGreatDoor.infnum
set_option linter.unusedVariables false

theorem all_ok (A : Option Addr) (n c : Nat) (bs : List UInt8) (w : World) (B : Nat) (hr : Rd w B A n (bs.map bv)) (hB : B ≤ w.heap.size) (hn : n ≤ 16777216) (hO : Ord w) (z : Int) (most : Nat) (hz : z = (most : Nat)) (hm : most ≤ 16777216) (x : List UInt8) (m k : Nat) (hT : Tells bs most (.ok x k)) (hx : x.length = m) :
    Calls Tryz.prog 8 #[.slice A n c, .int .i64 z] w fun e w' => ∃ A1 c1, e = .returned (.tuple #[.slice A1 m c1, .int .i64 (k : Nat), .int .i64 0]) ∧ Own w' w.heap.size 5 A1 m c1 (x.map bv) ∧ Fresh w w' := by
  subst hx
  subst hz
  refine (all_any A n c bs w B hr hB hn hO most hm).mono ?_
  rintro e w' ⟨hf, a, ha, hh⟩
  obtain rfl := ha.uniq hT
  obtain ⟨A1, c1, rfl, ho⟩ := hh
  exact ⟨A1, c1, rfl, ho, hf⟩
theorem all_long (A : Option Addr) (n c : Nat) (bs : List UInt8) (w : World) (B : Nat) (hr : Rd w B A n (bs.map bv)) (hB : B ≤ w.heap.size) (hn : n ≤ 16777216) (hO : Ord w) (z : Int) (most : Nat) (hz : z = (most : Nat)) (hm : most ≤ 16777216) (hT : Tells bs most .long) :
    Calls Tryz.prog 8 #[.slice A n c, .int .i64 z] w fun e w' => e = .returned (.tuple #[.slice none 0 0, .int .i64 0, .int .i64 10]) ∧ Fresh w w' := by
  subst hz
  refine (all_any A n c bs w B hr hB hn hO most hm).mono ?_
  rintro e w' ⟨hf, a, ha, hh⟩
  obtain rfl := ha.uniq hT
  exact ⟨hh, hf⟩
theorem all_bad (A : Option Addr) (n c : Nat) (bs : List UInt8) (w : World) (B : Nat) (hr : Rd w B A n (bs.map bv)) (hB : B ≤ w.heap.size) (hn : n ≤ 16777216) (hO : Ord w) (z : Int) (most : Nat) (hz : z = (most : Nat)) (hm : most ≤ 16777216) (er : Nat) (hT : Tells bs most (.bad er)) :
    Calls Tryz.prog 8 #[.slice A n c, .int .i64 z] w fun e w' => e = .returned (.tuple #[.slice none 0 0, .int .i64 0, .int .i64 (er : Nat)]) ∧ er ≠ 0 ∧ Fresh w w' := by
  subst hz
  refine (all_any A n c bs w B hr hB hn hO most hm).mono ?_
  rintro e w' ⟨hf, a, ha, hh⟩
  obtain rfl := ha.uniq hT
  exact ⟨hh.2, hh.1, hf⟩
/-- there is an answer: All's own -/
theorem all_either (A : Option Addr) (n c : Nat) (bs : List UInt8) (w : World) (B : Nat) (hr : Rd w B A n (bs.map bv)) (hB : B ≤ w.heap.size) (hn : n ≤ 16777216) (hO : Ord w) (z : Int) (most : Nat) (hz : z = (most : Nat)) (hm : most ≤ 16777216) :
    Calls Tryz.prog 8 #[.slice A n c, .int .i64 z] w fun e w' => Fresh w w' ∧
      ((∃ x m k A1 c1, Tells bs most (.ok x k) ∧ x.length = m ∧ e = .returned (.tuple #[.slice A1 m c1, .int .i64 (k : Nat), .int .i64 0]) ∧ Own w' w.heap.size 5 A1 m c1 (x.map bv)) ∨
       (∃ er, (er = 10 ∧ Tells bs most .long ∨ Tells bs most (.bad er)) ∧ er ≠ 0 ∧ e = .returned (.tuple #[.slice none 0 0, .int .i64 0, .int .i64 (er : Nat)]))) := by
  subst hz
  refine (all_any A n c bs w B hr hB hn hO most hm).mono ?_
  rintro e w' ⟨hf, a, ha, hh⟩
  refine ⟨hf, ?_⟩
  cases a with
  | ok x k =>
    obtain ⟨A1, c1, rfl, ho⟩ := hh
    exact .inl ⟨x, _, k, A1, c1, ha, rfl, rfl, ho⟩
  | long => exact .inr ⟨10, .inl ⟨rfl, ha⟩, by decide, hh⟩
  | bad er => exact .inr ⟨er, .inr ha, hh.1, hh.2⟩
theorem one_string (w : World) (A : Option Addr) (c base : Nat) (u : UInt8) (ho : Own w base 5 A 1 c ([u].map bv)) :
    (convert 24 9 (.slice A 1 c)).run Tryz.prog w = .ok (.string ⟨#[u]⟩) w := by
  obtain ⟨q, cap, hv, hb, hlt⟩ := World.ownsRow.form ho (Nat.lt_succ_self 0)
  obtain rfl : A = some ⟨q, 0, none⟩ := by
    have := congrArg (fun v : Value => match v with
      | .slice a _ _ => a
      | _ => none) hv
    exact this
  refine run_convert_bytes_back w 24 9 5 ⟨q, 0, none⟩ c [u] Tryz.underlying24 Tryz.underlying5 Tryz.underlying9 fun j hj => ?_
  have hj0 : j = 0 := by simpa using hj
  subst hj0
  exact World.ownsRow.cells ho (g := q) rfl 0 (bv u) rfl
set_option maxRecDepth 100000 in
theorem tells_one : Tells [1, 1, 0, 254, 255, 97] 10 (.ok [97] 6) := by
  have h := blocks_unp (l := [[97]]) (by simp) (by simp)
  have e1 : blocks [[97]] = [1, 1, 0, 254, 255, 97] := by decide
  have e2 : [([97] : List UInt8)].flatten = [97] := rfl
  rw [e1, e2] at h
  exact ⟨h, by decide⟩
/-! an unpacker that is not there -/
theorem put_nil (A : Option Addr) (n c : Nat) (w : World) : Calls Tryz.prog 15 #[.pointer none, .slice A n c] w fun e w' => e = .returned (.tuple #[]) ∧ w = w' := by
  go_enter Tryz.func15, Tryz.ntmps15
  go_wp2
  go_end0
  exact ⟨rfl, rfl⟩
theorem get_nil (z : Int) (w : World) : Calls Tryz.prog 17 #[.pointer none, .int .i64 z] w fun e w' => e = .returned (.tuple #[.slice none 0 0, .int .i64 2]) ∧ w = w' := by
  go_enter Tryz.func17, Tryz.ntmps17
  go_wp2
  go_ret2
  exact ⟨rfl, rfl⟩
theorem done_nil (w : World) : Calls Tryz.prog 16 #[.pointer none] w fun e w' => e = .returned (.bool false) ∧ w = w' := by
  go_enter Tryz.func16, Tryz.ntmps16
  go_wp2
  go_ret
  exact ⟨rfl, rfl⟩
theorem rest_nil (w : World) : Calls Tryz.prog 18 #[.pointer none] w fun e w' => e = .returned (.int .i64 0) ∧ w = w' := by
  go_enter Tryz.func18, Tryz.ntmps18
  go_wp2_with (go_at_call 16; refine (done_nil _).mono ?_; rintro e w1 ⟨rfl, rfl⟩)
  go_ret
  exact ⟨rfl, rfl⟩
end Go.Proofs.YtppgceighgpgoaaGreatDoor.infp
