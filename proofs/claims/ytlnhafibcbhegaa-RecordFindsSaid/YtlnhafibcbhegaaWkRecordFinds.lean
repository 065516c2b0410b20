/-
  The walk of the law RecordFinds. My own text.
-/
import Derived.Test.YtlnhafibcbhegaaRecTlG
import Derived.Test.YtlnhafibcbhegaaRecLaw
import Derived.Test.YtlnhafibcbhegaaOpen
import Derived.Laws.StructEq
namespace Go.Proofs.Ytlnhafibcbhegaa.recordFinds
open Go.RowKit Go.Proofs.Ytlnhafibcbhegaa.base Go.Proofs.Ytlnhafibcbhegaa.num Go.Proofs.Ytlnhafibcbhegaa.word Go.Proofs.Ytlnhafibcbhegaa.recn Go.Proofs.Ytlnhafibcbhegaa.recp
set_option linter.unusedVariables false
theorem eq_tail (a b c : Int) (d : Bool) (W : World) : (Op.equalIn 10000 tTail (.agg #[iv a, iv b, iv c, .bool d]) (.agg #[iv a, iv b, iv c, .bool d])).run Try.prog W = .ok true W := by
  have u3 := Try.underlying3
  have a3 := Try.isAgg3
  have z3 := Try.sizeOf3
  have u4 := Try.underlying4
  have a4 := Try.isAgg4
  have z4 := Try.sizeOf4
  have hS : Try.prog.underlying tTail = some (.struct (Try.prog.fieldsOf tTail)) := by kernel_rfl
  have hp : Try.prog.stoodInHeld tTail = false := by kernel_rfl
  rw [show (10000 : Nat) = 9999 + 1 from rfl, run_equalIn_agg W 9999 tTail _ _ hS hp]
  simp only [Program.fieldsOf, Try.underlying37]
  go_simp
theorem guard_tail (op : BinOp) (x y : Operand) (a b c : Int) (d : Bool) (W : World) : (eqGuard op tTail x y (.agg #[iv a, iv b, iv c, .bool d]) (.agg #[iv a, iv b, iv c, .bool d])).run Try.prog W = .ok () W := run_eqGuard_agg W op _ x y _ _ (by kernel_rfl)
set_option maxRecDepth 100000 in
set_option maxHeartbeats 8000000 in
theorem recordFinds_walk (A0 : Option Addr) (n0 c0 : Nat) (x0 : List UInt8) (w : World) (b0 : InBytes w A0 n0 c0 x0) :
    Calls Try.prog 4 #[.slice A0 n0 c0] w fun e w' => e = .returned (.bool true) ∧ Below w.heap.size w w' := by
  obtain ⟨hr0, hc0, hm0⟩ := b0
  have HM0 : RowKit.Hid (c0 ≤ maxLen) := hm0
  clear hm0
  by_cases hbig : 70000 < n0
  · go_enter Try.func4, Try.ntmps4
    go_wp2_with (go_at_call 5; ((with_reducible refine (wakes_any _).mono ?_); rintro e w2 ⟨rfl, hf2⟩))
    go_ret
    exact ⟨rfl, hf2⟩
  · have HR0 := Lib.hid hr0
    have hn9 : n0 ≤ 1099511627776 := by omega
    clear hr0
    cases hfd : find x0 with
    | none =>
      have HFD := Lib.hid hfd
      clear hfd
      go_enter Try.func4, Try.ntmps4
      go_upto_region 7 with (first
        | (go_at_call 5; ((with_reducible refine (wakes_any _).mono ?_); rintro e w2 ⟨rfl, hf2⟩; have HF2 := Lib.hid hf2; clear hf2))
        | (go_at_call 12; ((with_reducible refine (find_any A0 n0 c0 x0 _ w.heap.size (HR0.out.keep fun i hi => HF2.out.block i hi) HF2.out.size hc0 HM0.out hn9 none HFD.out).mono ?_); rintro e w3 ⟨hE, hf3⟩; simp only [FindIs] at hE; subst hE; have hal := Fresh.alloc w3 (.cells #[iv 0, iv 0, iv 0, .bool false] tTail); have HG3 := Lib.hid (Bk.made w3 tTail #[iv 0, iv 0, iv 0, .bool false]); have HF3 := Lib.hid ((HF2.out.trans hf3).trans hal); clear hf3 hal))
        | (go_at_call 13; ((with_reducible refine (refFind_any A0 n0 c0 x0 _ w.heap.size (HR0.out.keep fun i hi => HF3.out.block i hi) HF3.out.size hc0 HM0.out hn9 none HFD.out).mono ?_); rintro e w4 ⟨⟨x, y, z, b, rfl⟩, hf4⟩; have hal := hf4.trans (Fresh.alloc w4 (.cells #[iv x, iv y, iv z, .bool b, .bool false] tFound)); have HH4 := Lib.hid (Bk.made w4 tFound #[iv x, iv y, iv z, .bool b, .bool false]); have HG4 := Lib.hid (HG3.out.fresh hal); have HF4 := Lib.hid (HF3.out.trans hal); clear hf4 hal)))
      generalize w4.alloc (.cells #[.int .i64 x, .int .i64 y, .int .i64 z, .bool b, .bool false] tFound) = W4 at *
      generalize w3.heap.size = g at *
      generalize w4.heap.size = h at *
      have k0 := HG4.out.cell (i := 0) rfl
      have k1 := HG4.out.cell (i := 1) rfl
      have k2 := HG4.out.cell (i := 2) rfl
      have k3 := HG4.out.cell (i := 3) rfl
      have l4 := HH4.out.cell (i := 4) rfl
      have heq := fun V => eq_tail 0 0 0 false V
      have hgd := fun V x y => guard_tail .eql x y 0 0 0 false V
      go_wp2
      go_ret
      exact ⟨rfl, HF4.out⟩
    | some t =>
      obtain ⟨tm, tl, ta, tw⟩ := t
      have HFD := Lib.hid hfd
      clear hfd
      go_enter Try.func4, Try.ntmps4
      go_upto_region 7 with (first
        | (go_at_call 5; ((with_reducible refine (wakes_any _).mono ?_); rintro e w2 ⟨rfl, hf2⟩; have HF2 := Lib.hid hf2; clear hf2))
        | (go_at_call 12; ((with_reducible refine (find_any A0 n0 c0 x0 _ w.heap.size (HR0.out.keep fun i hi => HF2.out.block i hi) HF2.out.size hc0 HM0.out hn9 _ HFD.out).mono ?_); rintro e w3 ⟨hE, hf3⟩; simp only [FindIs] at hE; subst hE; have hal := Fresh.alloc w3 (.cells #[iv (tm : Nat), iv (tl : Nat), iv (ta : Nat), .bool tw] tTail); have HG3 := Lib.hid (Bk.made w3 tTail #[iv (tm : Nat), iv (tl : Nat), iv (ta : Nat), .bool tw]); have HF3 := Lib.hid ((HF2.out.trans hf3).trans hal); clear hf3 hal))
        | (go_at_call 13; ((with_reducible refine (refFind_any A0 n0 c0 x0 _ w.heap.size (HR0.out.keep fun i hi => HF3.out.block i hi) HF3.out.size hc0 HM0.out hn9 _ HFD.out).mono ?_); rintro e w4 ⟨hE, hf4⟩; simp only [FoundIs] at hE; subst hE; have hal := hf4.trans (Fresh.alloc w4 (.cells #[iv (tm : Nat), iv (tl : Nat), iv (ta : Nat), .bool tw, .bool true] tFound)); have HH4 := Lib.hid (Bk.made w4 tFound #[iv (tm : Nat), iv (tl : Nat), iv (ta : Nat), .bool tw, .bool true]); have HG4 := Lib.hid (HG3.out.fresh hal); have HF4 := Lib.hid (HF3.out.trans hal); clear hf4 hal)))
      generalize w4.alloc (.cells #[.int .i64 (tm : Nat), .int .i64 (tl : Nat), .int .i64 (ta : Nat), .bool tw, .bool true] tFound) = W4 at *
      generalize w3.heap.size = g at *
      generalize w4.heap.size = h at *
      have k0 := HG4.out.cell (i := 0) rfl
      have k1 := HG4.out.cell (i := 1) rfl
      have k2 := HG4.out.cell (i := 2) rfl
      have k3 := HG4.out.cell (i := 3) rfl
      have l0 := HH4.out.cell (i := 0) rfl
      have l1 := HH4.out.cell (i := 1) rfl
      have l2 := HH4.out.cell (i := 2) rfl
      have l3 := HH4.out.cell (i := 3) rfl
      have l4 := HH4.out.cell (i := 4) rfl
      have heq := fun V => eq_tail tm tl ta tw V
      have hgd := fun V x y => guard_tail .eql x y tm tl ta tw V
      go_wp2
      go_ret
      exact ⟨rfl, HF4.out⟩
end Go.Proofs.Ytlnhafibcbhegaa.recordFinds
