/-
  page's small functions: may, a sheet's sum; ref15.Fits. My own text.
-/
import Derived.Test.YtcfijppfccfbdaaCrcUse
import Derived.Test.YtcfijppfccfbdaaPagNum
import Derived.Test.YtcfijppfccfbdaaStore
import Derived.Test.YtcfijppfccfbdaaPuts
import Derived.Test.YtcfijppfccfbdaaTurn
import Derived.Laws.Cover3
import Derived.ChangeKeysEq
import Derived.Laws.StructEq
import Derived.Deep.RegionLaw
import Derived.Deep.RegionHeld3
namespace Go.Proofs.Ytcfijppfccfbdaa.pagp
open Go.RowKit Go.Proofs.Ytcfijppfccfbdaa.base Go.Proofs.Ytcfijppfccfbdaa.num Go.Proofs.Ytcfijppfccfbdaa.word Go.Proofs.Ytcfijppfccfbdaa.pagn
set_option linter.unusedVariables false

abbrev tInt : TypeId := 3
def sheetV (cs : List UInt8) : Value := .agg (cs.map bv).toArray
def zs : List UInt8 := List.replicate 512 0
theorem size_byte : (Try.prog.info? 5).map (·.size) = some 1 := by kernel_rfl
theorem st_slot_ {P : Program} {ops : Array Oper} {a : Act} {w : World} {K : Act → World → Prop} {Q : Exit → Act → World → Prop} {E : Prop} {t : TypeId} (d : Nat) {op : Op} {ps : String} {af gd} (h : if Region.wanted (⟨some d, op, t, ps, af, gd⟩ : Oper) (yielded ops a.tmps) = true then Oper.wp P ⟨some d, op, t, ps, af, gd⟩ a w K Q else E) :
    if Region.wanted (⟨some d, op, t, ps, af, gd⟩ : Oper) (yielded ops a.tmps) = true then Oper.wp P ⟨some d, op, t, ps, af, gd⟩ a w K Q else E := h

/-- may a number be a page's? -/
def fit (z : Int) : Bool := decide (0 ≤ z ∧ z < 16777216)
theorem fits3 (z : Int) : word.fits (word.wide 3) [z] = fit z := by
  have : word.wide 3 = 3 := by decide
  rw [this]
  simp [word.fits, fit]
theorem one_wf {z : Int} (h : (Lit.int .i64 z).wf = true) : ∀ y ∈ [z], (Lit.int .i64 y).wf = true := by
  intro y hy
  rw [List.mem_singleton] at hy
  subst hy
  exact h
theorem u64_nat (a : Nat) (h : a < 9223372036854775808) : u64 (a : Int) = a := by unfold u64; omega
theorem put4 (W : World) (no g : Nat) (hn : no < 4294967296) (hg : g = W.heap.size) : Calls Try.prog 27 #[.slice none 0 0, .int .i64 4, .slice (some ⟨g, 0, none⟩) 1 1] (W.alloc (.cells #[.int .i64 no] tInt)) fun e w' =>
    ∃ A' c', e = .returned (.slice A' 4 c') ∧ Fresh W w' ∧ Rd w' w'.heap.size A' 4 ((low 4 no).map bv) := by
  subst hg
  refine (put_is none 0 0 [] 4 _ 1 1 [(no : Int)] _ 0 (W.heap.size + 1) 4 (low 4 no) (Rd.nil _ _ _) (Nat.zero_le _) (Rd.lit W #[.int .i64 no] tInt) (by simp) (one_wf (WalkArith.wf_i64 ⟨by omega, by omega⟩)) (by omega) (by omega) (by decide) ?_).mono ?_
  · have : word.wide 4 = 4 := by decide
    rw [this]
    simp [puts, u64_nat no (by omega)]
  · rintro e w' ⟨A', c', rfl, hf, ho⟩
    exact ⟨A', c', rfl, (Fresh.alloc _ _).trans hf, ho.rd⟩

theorem bk_rd {w : World} {g : Nat} {t : TypeId} {xs : List UInt8} (h : Bk w g t (xs.map bv)) (off n : Nat) (hn : off + n ≤ xs.length) : Rd w (g + 1) (some ⟨g, off, none⟩) n (((xs.drop off).take n).map bv) := by
  refine ⟨by rw [List.length_map, List.length_take, List.length_drop]; omega, fun _ => ⟨g, off, rfl, by omega, fun j u hu => h.cell ?_⟩⟩
  rw [List.map_take, List.map_drop, List.getElem?_take] at hu
  split at hu
  · rwa [List.getElem?_drop] at hu
  · cases hu

theorem bk_rd' {w : World} {g n : Nat} {t : TypeId} {xs : List UInt8} (h : Bk w g t (xs.map bv)) (hn : xs.length = n) : Rd w (g + 1) (some ⟨g, 0, none⟩) n (xs.map bv) := by
  have := bk_rd h 0 n (by omega)
  rwa [List.drop_zero, List.take_of_length_le (by omega)] at this

theorem Rd.src {w : World} {B n : Nat} {A : Option Addr} {xs : List UInt8} (h : Rd w B A (n + 1) (xs.map bv)) : ∃ ad, A = some ad ∧ ∀ j v, (xs.map bv)[j]? = some v → w.cell? (ad.add j) = some v := by
  obtain ⟨b, off, rfl, hb, hc⟩ := h.2 (by omega)
  exact ⟨_, rfl, fun j v hv => by rw [Addr.add_mid]; exact hc j v hv⟩

theorem Rd.src' {w : World} {B n : Nat} {A : Option Addr} {xs : List UInt8} (h : Rd w B A n (xs.map bv)) (hn : 0 < n) : ∃ ad, A = some ad ∧ ∀ j v, (xs.map bv)[j]? = some v → w.cell? (ad.add j) = some v := by
  obtain ⟨b, off, rfl, hb, hc⟩ := h.2 hn
  exact ⟨_, rfl, fun j v hv => by rw [Addr.add_mid]; exact hc j v hv⟩

/-- copy into a block that is known whole, as one step of a region that draws -/
theorem step_copy_blk {P : Program} {ops : Array Oper} {o : Oper} {a : Act} {w : World} {K : Act → World → Prop} {Q : Exit → Act → World → Prop} {E : Prop} (hgd : o.guard = none) (d s : Operand) (dT sT : TypeId)
    (ho : o.op = .call { callee := .builtin .copy, args := #[d, s], argTypes := #[dT, sT] }) (elem : TypeId) (hu : P.underlying dT = some (.slice elem)) (hsz : (P.info? elem).map (·.size) = some 1)
    (g off dLen dCap : Nat) (A : Option Addr) (sLen sCap : Nat) (hd : a.eval d = .slice (some ⟨g, off, none⟩) dLen dCap) (hs : a.eval s = .slice A sLen sCap)
    (cur : List Value) (t : TypeId) (hg : Bk w g t cur) (vs : List Value) (k : Nat) (hk : vs.length = k) (hn : vs.length = Nat.min sLen dLen)
    (hsrc : ∃ ad, A = some ad ∧ ∀ j v, vs[j]? = some v → w.cell? (ad.add j) = some v) (hfit : off + vs.length ≤ cur.length) (h1 : ∀ v ∈ vs, v.oneCell' = true)
    (h : ∀ w', Bk w' g t (splice cur off vs) → But g w w' → K (a.put o.dst (.int .i64 (k : Nat))) w') :
    if Region.wanted o (yielded ops a.tmps) = true then Oper.wp P o a w K Q else E := by
  have hw : Region.wanted o (yielded ops a.tmps) = true := by simp [Region.wanted, hgd]
  rw [if_pos hw]
  subst hk
  obtain ⟨ad, rfl, hc⟩ := hsrc
  have hg' : w.heap[g]? = some (.cells cur.toArray t (0, 0)) := hg
  have hrun := run_copy_row (P := P) w dT sT o.type elem g off dLen dCap ad sLen sCap cur.toArray t vs hu hsz hg' hn hc (by simpa using hfit) h1
  unfold Oper.wp
  simp [execOp, ho, resolve, invoke, builtin, hd, hs, hrun, Result.andThen]
  have h2 := hg.row (cur.toArray.toList.take off ++ (vs ++ cur.toArray.toList.drop (off + vs.length))).toArray
  exact h _ (by simpa [splice] using h2) (But.setRow w _)

theorem bv_ones (xs : List UInt8) : ∀ v ∈ xs.map bv, v.oneCell' = true := fun v hv => by
  obtain ⟨x, _, rfl⟩ := List.mem_map.1 hv
  rfl

end Go.Proofs.Ytcfijppfccfbdaa.pagp
