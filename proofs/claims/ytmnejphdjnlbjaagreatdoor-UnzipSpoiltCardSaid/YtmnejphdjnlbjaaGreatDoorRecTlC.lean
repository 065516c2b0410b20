/-
  record's wideTail: my own text.
-/
import Derived.Test.YtmnejphdjnlbjaaGreatDoorRecTlA
import Derived.Deep.RegionHeld3
namespace Go.Proofs.YtmnejphdjnlbjaaGreatDoor.recp
open Go.RowKit Go.Proofs.YtmnejphdjnlbjaaGreatDoor.base Go.Proofs.YtmnejphdjnlbjaaGreatDoor.num Go.Proofs.YtmnejphdjnlbjaaGreatDoor.word Go.Proofs.YtmnejphdjnlbjaaGreatDoor.recn
set_option linter.unusedVariables false
theorem results_row_tmp {P : Program} {fn : Func} {p u : Tmp} {ty : TypeId} (h : fn.results = #[.cell p ty, .tmp u]) (tmps : Array Value) (w : World) (g : Nat) (t : TypeId) (cs : List Value) (d : TypeDesc)
    (hp : tmps.getD p undef = .pointer (some ⟨g, 0, none⟩)) (hg : Bk w g t cs)
    (hu : P.underlying ty = some d) (hd : (match d with | .struct _ | .array _ _ => true | _ => false) = true) (hi : (P.info? ty).map (·.size) = some cs.length) :
    (results fn tmps).run P w = .ok (.tuple #[.agg cs.toArray, tmps.getD u undef]) w := by
  rw [results_cell_tmp h, hp]
  simp [asAddr, run_loadVar_row w g t ty cs.toArray (0, 0) d hg hu hd (by simpa using hi)]
/-- the wide tail that is told at u -/
def wideAt (xs : List UInt8) (u : Nat) : Option Tl :=
  if xs.length < u + 56 then none else
  if sg xs u 6 6 = false then none else
  if nm xs (u + 32) 8 < 281474976710656 ∧ nm xs (u + 40) 8 < 281474976710656 ∧ nm xs (u + 48) 8 < 281474976710656 then some ⟨nm xs (u + 32) 8, nm xs (u + 40) 8, nm xs (u + 48) 8, true⟩ else none
theorem wideTl_no {xs : List UInt8} {p k : Nat} (hp : p + 22 ≤ xs.length) (h : bg xs ((p : Int) - 20) [80, 75, 6, 7] 20 = .error k) : wideTl xs p = none := by
  unfold wideTl
  by_cases h1 : p < 20
  · rw [if_pos h1]
  · rw [if_neg h1]
    obtain ⟨q, rfl⟩ : ∃ q, p = q + 20 := ⟨p - 20, by omega⟩
    have e : (((q + 20 : Nat) : Int) - 20) = (q : Int) := by omega
    rw [e] at h
    unfold bg at h
    rw [if_neg (by omega), Int.toNat_natCast, if_neg (by omega)] at h
    by_cases h2 : sg xs q 6 7 = false
    · rw [show q + 20 - 20 = q from by omega, if_pos h2]
    · unfold sg at h2
      rw [if_neg h2, if_neg (by omega)] at h
      cases h
theorem wideTl_ok {xs : List UInt8} {p : Nat} {ys : List UInt8} (h : bg xs ((p : Int) - 20) [80, 75, 6, 7] 20 = .ok ys) :
    ∃ q : Nat, p = q + 20 ∧ ys = (xs.drop (q + 4)).take 16 ∧ q + 20 ≤ xs.length ∧ wideTl xs p = wideAt xs (nm xs (q + 8) 8) := by
  obtain ⟨q, hq, h1, h2, h3, h4⟩ := bg_ok h
  refine ⟨q, by omega, h4, h3, ?_⟩
  have hp : p = q + 20 := by omega
  subst hp
  unfold wideTl wideAt
  rw [if_neg (by omega), show q + 20 - 20 = q from by omega, show q + 20 - 12 = q + 8 from by omega, if_neg (by unfold sg; rw [h1]; simp)]
theorem wideAt_no {xs : List UInt8} {u k : Nat} (hl : xs.length ≤ 1099511627776) (hu : u < 18446744073709551616) (h : bg xs (sg64 u) [80, 75, 6, 6] 56 = .error k) : wideAt xs u = none := by
  unfold wideAt
  by_cases h1 : xs.length < u + 56
  · rw [if_pos h1]
  · rw [if_neg h1]
    rw [sg64_small u (by omega)] at h
    unfold bg at h
    rw [if_neg (by omega), Int.toNat_natCast, if_neg (by omega)] at h
    by_cases h2 : sg xs u 6 6 = false
    · rw [if_pos h2]
    · unfold sg at h2
      rw [if_neg h2, if_neg (by omega)] at h
      cases h
theorem wideAt_ok {xs : List UInt8} {u : Nat} {ys : List UInt8} (hl : xs.length ≤ 1099511627776) (hu : u < 18446744073709551616) (h : bg xs (sg64 u) [80, 75, 6, 6] 56 = .ok ys) :
    u + 56 ≤ xs.length ∧ ys = (xs.drop (u + 4)).take 52 ∧ wideAt xs u = (if nm xs (u + 32) 8 < 281474976710656 ∧ nm xs (u + 40) 8 < 281474976710656 ∧ nm xs (u + 48) 8 < 281474976710656 then some ⟨nm xs (u + 32) 8, nm xs (u + 40) 8, nm xs (u + 48) 8, true⟩ else none) := by
  obtain ⟨q, hq, h1, h2, h3, h4⟩ := bg_ok h
  have e : u = q := by
    unfold sg64 at hq
    split at hq <;> omega
  subst e
  refine ⟨h3, h4, ?_⟩
  unfold wideAt
  rw [if_neg (by omega), if_neg (by unfold sg; rw [h1]; simp)]
theorem fits63 (U V X : Int) (hU : -9223372036854775808 ≤ U ∧ U ≤ 9223372036854775807) (hV : -9223372036854775808 ≤ V ∧ V ≤ 9223372036854775807) (hX : -9223372036854775808 ≤ X ∧ X ≤ 9223372036854775807) (b : Bool)
    (hb : decide ((0 ≤ U ∧ U < 281474976710656) ∧ (0 ≤ V ∧ V < 281474976710656) ∧ (0 ≤ X ∧ X < 281474976710656)) = b) (w : World) :
    Calls Tryz.prog 39 #[.int .i64 6, .slice (some ⟨w.heap.size, 0, none⟩) 3 3] (w.alloc (.cells #[.int .i64 U, .int .i64 V, .int .i64 X] tInt)).drew fun e w' => e = .returned (.bool b) ∧ (w.alloc (.cells #[.int .i64 U, .int .i64 V, .int .i64 X] tInt)).drew = w' := by
  refine fits_is _ 3 3 [U, V, X] 6 _ (w.heap.size + 1) b ((Rd.lit w #[.int .i64 U, .int .i64 V, .int .i64 X] tInt).keep fun i hi => rfl) (by unfold maxLen; omega) ?_ ?_
  · intro z hz
    simp only [List.mem_cons, List.not_mem_nil, or_false] at hz
    rcases hz with rfl | rfl | rfl
    · exact WalkArith.wf_i64 hU
    · exact WalkArith.wf_i64 hV
    · exact WalkArith.wf_i64 hX
  · show fits 6 [U, V, X] = b
    rw [fits, List.all_cons, List.all_cons, List.all_cons, List.all_nil, Bool.and_true, ← hb]
    show (decide (0 ≤ U ∧ U < 281474976710656) && (decide (0 ≤ V ∧ V < 281474976710656) && decide (0 ≤ X ∧ X < 281474976710656))) = _
    simp
def WideIs (r : Option Tl) (e : Ending) : Prop :=
  match r with
  | none => ∃ (x y z : Int) (b : Bool), e = .returned (.tuple #[.agg #[iv x, iv y, iv z, .bool b], .bool false])
  | some t => e = .returned (.tuple #[.agg #[iv (t.many : Nat), iv (t.long : Nat), iv (t.at_ : Nat), .bool true], .bool true])
theorem box_two (w : World) :
    Bk ((w.alloc (.cells #[.int .i64 0] tInt)).alloc (.cells #[.int .i64 0] tInt)) w.heap.size tInt [iv 0] ∧ Bk ((w.alloc (.cells #[.int .i64 0] tInt)).alloc (.cells #[.int .i64 0] tInt)) (w.heap.size + 1) tInt [iv 0] ∧
    Fresh w ((w.alloc (.cells #[.int .i64 0] tInt)).alloc (.cells #[.int .i64 0] tInt)) ∧ ((w.alloc (.cells #[.int .i64 0] tInt)).alloc (.cells #[.int .i64 0] tInt)).heap.size = w.heap.size + 2 := by
  have h0 := Bk.made w tInt #[.int .i64 0]
  have h1 := Bk.made (w.alloc (.cells #[.int .i64 0] tInt)) tInt #[.int .i64 0]
  have e1 : (w.alloc (.cells #[.int .i64 0] tInt)).heap.size = w.heap.size + 1 := by simp
  rw [e1] at h1
  exact ⟨h0.alloc _, h1, (Fresh.alloc _ _).trans (Fresh.alloc _ _), by simp⟩
theorem boxes4 (w : World) (hv : List Value) :
    Bk ((((w.alloc (.cells hv.toArray tTail)).alloc (.cells #[.int .i64 0] tInt)).alloc (.cells #[.int .i64 0] tInt)).alloc (.cells #[.int .i64 0] tInt)) w.heap.size tTail hv ∧
    Bk ((((w.alloc (.cells hv.toArray tTail)).alloc (.cells #[.int .i64 0] tInt)).alloc (.cells #[.int .i64 0] tInt)).alloc (.cells #[.int .i64 0] tInt)) (w.heap.size + 1) tInt [iv 0] ∧
    Bk ((((w.alloc (.cells hv.toArray tTail)).alloc (.cells #[.int .i64 0] tInt)).alloc (.cells #[.int .i64 0] tInt)).alloc (.cells #[.int .i64 0] tInt)) (w.heap.size + 1 + 1) tInt [iv 0] ∧
    Bk ((((w.alloc (.cells hv.toArray tTail)).alloc (.cells #[.int .i64 0] tInt)).alloc (.cells #[.int .i64 0] tInt)).alloc (.cells #[.int .i64 0] tInt)) (w.heap.size + 1 + 1 + 1) tInt [iv 0] ∧
    Fresh w ((((w.alloc (.cells hv.toArray tTail)).alloc (.cells #[.int .i64 0] tInt)).alloc (.cells #[.int .i64 0] tInt)).alloc (.cells #[.int .i64 0] tInt)) ∧
    ((((w.alloc (.cells hv.toArray tTail)).alloc (.cells #[.int .i64 0] tInt)).alloc (.cells #[.int .i64 0] tInt)).alloc (.cells #[.int .i64 0] tInt)).heap.size = w.heap.size + 4 := by
  have h0 := Bk.made w tTail hv.toArray
  have h1 := Bk.made (w.alloc (.cells hv.toArray tTail)) tInt #[.int .i64 0]
  have h2 := Bk.made ((w.alloc (.cells hv.toArray tTail)).alloc (.cells #[.int .i64 0] tInt)) tInt #[.int .i64 0]
  have h3 := Bk.made (((w.alloc (.cells hv.toArray tTail)).alloc (.cells #[.int .i64 0] tInt)).alloc (.cells #[.int .i64 0] tInt)) tInt #[.int .i64 0]
  have e1 : (w.alloc (.cells hv.toArray tTail)).heap.size = w.heap.size + 1 := by simp
  have e2 : ((w.alloc (.cells hv.toArray tTail)).alloc (.cells #[.int .i64 0] tInt)).heap.size = w.heap.size + 1 + 1 := by simp
  have e3 : (((w.alloc (.cells hv.toArray tTail)).alloc (.cells #[.int .i64 0] tInt)).alloc (.cells #[.int .i64 0] tInt)).heap.size = w.heap.size + 1 + 1 + 1 := by simp
  rw [e1] at h1
  rw [e2] at h2
  rw [e3] at h3
  exact ⟨((h0.alloc _).alloc _).alloc _, (h1.alloc _).alloc _, h2.alloc _, h3, (((Fresh.alloc _ _).trans (Fresh.alloc _ _)).trans (Fresh.alloc _ _)).trans (Fresh.alloc _ _), by simp⟩
end Go.Proofs.YtmnejphdjnlbjaaGreatDoor.recp
