/-
  The contract of the law's great. My own text.
-/
import Derived.Test.YtelghdfikcodmaaVfsSame
import Derived.Test.YtelghdfikcodmaaOpenActs
import Derived.Test.YtelghdfikcodmaaVfsOps5
/-
  What an act leaves of a store: it stays right, its stamp and its files grow by one at most; acts that came in; the law's great. My own text.
-/
namespace Go.Proofs.Ytelghdfikcodmaa.vacts
open Go.RowKit Go.Maps Go.Proofs.Ytelghdfikcodmaa.base Go.Proofs.Ytelghdfikcodmaa.vfsnum Go.Proofs.Ytelghdfikcodmaa.vfs Go.Proofs.Ytelghdfikcodmaa.vref
set_option linter.unusedVariables false

theorem actF_ok {a : Fs} {x : VAct} (h : FsOk a) (hx : VOk x) : FsOk (actF a x).2 := by
  unfold actF
  split
  · exact create_ok h
  split
  · exact write_ok h
  split
  · exact cut_ok h
  split
  · exact rename_ok h
  split
  · exact delete_ok h
  split
  · exact sync_ok h
  split
  · exact ⟨h.names, h.sorted, h.fls, h.sum, by show -1 ≤ max (-1) x.n; omega, by have := hx.n2; show max (-1) x.n ≤ _; omega⟩
  split
  · exact crash_ok x.keep h
  · exact h
theorem len_ins (l : List (ByteArray × Fl)) (n : ByteArray) (x : Fl) : (insF l n x).length = l.length + 1 := by
  unfold insF
  rw [List.length_append, List.length_cons]
  have : (l.filter fun p => nlt p.1 n).length + (l.filter fun p => !nlt p.1 n).length = l.length := by
    induction l with
    | nil => rfl
    | cons p r ih => by_cases h : nlt p.1 n = true <;> simp [h] <;> omega
  omega
theorem len_upd (l : List (ByteArray × Fl)) (n : ByteArray) (x : Fl) : (updF l n x).length = l.length := by unfold updF; rw [List.length_map]
theorem len_del (l : List (ByteArray × Fl)) (n : ByteArray) : (delF l n).length ≤ l.length := List.length_filter_le _ _
theorem len_del1 {l : List (ByteArray × Fl)} {n : ByteArray} {x : Fl} (h : getF l n = some x) : (delF l n).length + 1 ≤ l.length := by
  have := getF_some h
  unfold delF
  obtain ⟨s, t, rfl⟩ := List.append_of_mem this
  rw [List.filter_append, List.filter_cons, if_neg (by simp), List.length_append, List.length_append, List.length_cons]
  have h1 := List.length_filter_le (fun p : ByteArray × Fl => decide (p.1 ≠ n)) s
  have h2 := List.length_filter_le (fun p : ByteArray × Fl => decide (p.1 ≠ n)) t
  omega
theorem len_cr (keep : Nat) (l : List (ByteArray × Fl)) (i : Nat) : (crF keep l i).length = l.length := by
  induction l generalizing i with
  | nil => rfl
  | cons p r ih => rw [crF, List.length_cons, ih, List.length_cons]
def Grew (a b : Fs) : Prop := b.stamp ≤ a.stamp + 1 ∧ b.files.length ≤ a.files.length + 1
theorem Grew.refl (a : Fs) : Grew a a := ⟨Nat.le_succ _, Nat.le_succ _⟩
theorem actF_grew (a : Fs) (x : VAct) : Grew a (actF a x).2 := by
  unfold actF
  split
  · unfold Fs.create
    repeat' split
    all_goals first | exact Grew.refl a | exact ⟨Nat.le_succ _, Nat.le_succ _⟩ | exact ⟨Nat.le_refl _, Nat.le_of_eq (len_ins _ _ _)⟩
  split
  · unfold Fs.write
    repeat' split
    all_goals first | exact Grew.refl a | exact ⟨Nat.le_succ _, Nat.le_succ _⟩ | exact ⟨Nat.le_refl _, Nat.le_succ_of_le (Nat.le_of_eq (len_upd _ _ _))⟩
  split
  · unfold Fs.cut
    repeat' split
    all_goals first | exact Grew.refl a | exact ⟨Nat.le_succ _, Nat.le_succ _⟩ | exact ⟨Nat.le_refl _, Nat.le_succ_of_le (Nat.le_of_eq (len_upd _ _ _))⟩
  split
  · unfold Fs.rename
    repeat' split
    all_goals first | exact Grew.refl a | exact ⟨Nat.le_succ _, Nat.le_succ _⟩ | skip
    refine ⟨Nat.le_refl _, ?_⟩
    show (insF (delF (delF a.files x.to_) x.name) x.to_ _).length ≤ _
    rw [len_ins]
    exact Nat.succ_le_succ (Nat.le_trans (len_del _ _) (len_del _ _))
  split
  · unfold Fs.delete
    repeat' split
    all_goals first | exact Grew.refl a | exact ⟨Nat.le_succ _, Nat.le_succ _⟩ | exact ⟨Nat.le_succ _, Nat.le_succ_of_le (len_del _ _)⟩
  split
  · unfold Fs.sync
    repeat' split
    all_goals first | exact Grew.refl a | exact ⟨Nat.le_succ _, Nat.le_succ _⟩ | exact ⟨Nat.le_succ _, Nat.le_succ_of_le (Nat.le_of_eq (len_upd _ _ _))⟩
  split
  · exact ⟨Nat.le_succ _, Nat.le_succ _⟩
  split
  · exact ⟨Nat.le_succ _, Nat.le_succ_of_le (Nat.le_of_eq (len_cr _ _ _))⟩
  · exact Grew.refl a

/-- acts that came in -/
def InVActs (W : World) (A : Option Addr) (n c : Nat) (l : List VAct) : Prop :=
  InElems W 6 A n c (l.map VAct.cells) ∧ ∀ x ∈ l, (Lit.int .i64 x.kind).wf = true ∧ (Lit.int .i64 x.n).wf = true ∧ x.name.size ≤ maxLen ∧ x.to_.size ≤ maxLen ∧ x.keep < 18446744073709551616 ∧ InBytes W x.at_ x.len x.cap x.bs

theorem inVActs_of {H : Type} {enc : TypeId × Value → H} {P : Program} {W : World} {base : Nat} {held : Bool} {t e t8 : TypeId} {o0 o1 o2 o3 o4 o5 : Field} {fuel : Nat} {cs : List Value} {x : DataW H × List MemPlace}
    (ht : P.underlying t = some (.slice e)) (he : P.underlying e = some (.struct #[o0, o1, o2, o3, o4, o5])) (hone : Deep.oneCellFields P #[o0, o1, o2, o3, o4, o5] = true) (hC : P.cellsOf e = 6)
    (h0 : P.underlying o0.type = some (.int .i64)) (h1 : P.underlying o1.type = some (.int .i64)) (h2 : P.underlying o2.type = some .string) (h3 : P.underlying o3.type = some .string) (h4 : P.underlying o4.type = some (.slice t8)) (h8 : P.underlying t8 = some (.int .u8)) (h8c : P.cellsOf t8 = 1) (h5 : P.underlying o5.type = some (.int .u64))
    (h : DataW.trod enc P W base (fun _ => true) held fuel t cs = some x) : ∃ A n c l, cs = [.slice A n c] ∧ InVActs W A n c l := by
  rcases elems_of ht he hone hC h with rfl | ⟨a, len, cap, ls, rfl, hl, hm, hls, hE⟩
  · exact ⟨none, 0, 0, [], rfl, InElems.nil _ _, fun a ha => by cases ha⟩
  · have hin := InElems.some_ hl hm hls hE (by simp)
    obtain ⟨l, hll, hlr⟩ := list_of (R := fun i (b : VAct) => ls[i]? = some b.cells ∧ (Lit.int .i64 b.kind).wf = true ∧ (Lit.int .i64 b.n).wf = true ∧ b.name.size ≤ maxLen ∧ b.to_.size ≤ maxLen ∧ b.keep < 18446744073709551616 ∧ InBytes W b.at_ b.len b.cap b.bs) len fun i hi => by
      have hvs : ls[i]? = some (ls[i]'(by omega)) := List.getElem?_eq_getElem (by omega)
      obtain ⟨hlen, _, hf⟩ := hE i _ hvs
      generalize ls[i]'(by omega) = vs at *
      match vs, hlen with
      | [v0, v1, v2, v3, v4, v5], _ =>
        obtain ⟨_, _, e0⟩ := hf 0 o0 v0 rfl rfl
        obtain ⟨_, _, e1⟩ := hf 1 o1 v1 rfl rfl
        obtain ⟨_, _, e2⟩ := hf 2 o2 v2 rfl rfl
        obtain ⟨_, _, e3⟩ := hf 3 o3 v3 rfl rfl
        obtain ⟨_, _, e4⟩ := hf 4 o4 v4 rfl rfl
        obtain ⟨_, _, e5⟩ := hf 5 o5 v5 rfl rfl
        obtain ⟨z0, hz0, _, w0⟩ := DataW.trod_int h0 e0
        obtain ⟨z1, hz1, _, w1⟩ := DataW.trod_int h1 e1
        obtain ⟨s2, hs2, _, w2⟩ := DataW.trod_string h2 e2
        obtain ⟨s3, hs3, _, w3⟩ := DataW.trod_string h3 e3
        obtain ⟨z5, hz5, _, w5⟩ := DataW.trod_int h5 e5
        obtain ⟨A4, n4, c4, zs, hv4, r4⟩ : ∃ A4 n4 c4 zs, v4 = .slice A4 n4 c4 ∧ InRow .u8 W A4 n4 c4 zs := by
          rcases ChangeShapes.open_ints h4 h8 h8c e4 with ⟨hcs, _⟩ | ⟨x, l, c, zs, hcs, _, hl, hm, hz, _, hcell, hwz⟩
          · simp at hcs
            exact ⟨_, _, _, [], hcs, InRow.nil _ _⟩
          · simp at hcs
            exact ⟨_, _, _, _, hcs, InRow.some_ hl hm (by simpa using hz) hcell hwz⟩
        obtain ⟨xs, hb⟩ := r4.bytes
        have hk : 0 ≤ z5 ∧ z5 ≤ 18446744073709551615 := by simpa [Lit.wf, IntKind.min, IntKind.max, IntKind.signed, IntKind.bits] using w5
        obtain ⟨kp, rfl⟩ := Int.eq_ofNat_of_zero_le hk.1
        simp at hz0 hz1 hs2 hs3 hz5
        subst hz0; subst hz1; subst hs2; subst hs3; subst hz5; subst hv4
        exact ⟨⟨z0, z1, s2, s3, A4, n4, c4, xs, kp⟩, hvs, w0, w1, w2, w3, by show kp < _; omega, hb⟩
    have hmap : l.map VAct.cells = ls := by
      refine List.ext_getElem? fun i => ?_
      by_cases hi : i < len
      · have hget : l[i]? = some (l[i]'(by omega)) := List.getElem?_eq_getElem (by omega)
        rw [List.getElem?_map, hget, (hlr i _ hget).1]
        rfl
      · rw [List.getElem?_eq_none (by simp; omega), List.getElem?_eq_none (by omega)]
    refine ⟨some a, len, cap, l, rfl, by rw [hmap]; exact hin, fun b hb => ?_⟩
    obtain ⟨i, hi⟩ := List.getElem?_of_mem hb
    exact (hlr i b hi).2
end Go.Proofs.Ytelghdfikcodmaa.vacts
namespace Go.Proofs.Ytelghdfikcodmaa.vacts
open Go.RowKit Go.Maps Go.Proofs.Ytelghdfikcodmaa.base Go.Proofs.Ytelghdfikcodmaa.vfsnum Go.Proofs.Ytelghdfikcodmaa.vfs Go.Proofs.Ytelghdfikcodmaa.vref
set_option linter.unusedVariables false

theorem vactInfo : (Try.prog.info? 32).map (·.size) = some 6 := by kernel_rfl
/-- what great tells -/
def GreatIs (w : World) (n : Nat) (l : List VAct) (e : Ending) (w' : World) : Prop := ∃ b, e = .returned (.bool b) ∧ Fresh w w' ∧ (b = false → n ≤ 80 ∧ ∀ x ∈ l, x.len ≤ 1000)
theorem elem_at {W : World} {A : Option Addr} {n c : Nat} {l : List VAct} (h : InElems W 6 A n c (l.map VAct.cells)) {i : Nat} (hi : i < n) : ∃ b off x, A = some ⟨b, off, none⟩ ∧ l[i]? = some x ∧ W.rangeAt b (off + i * 6) x.cells := by
  obtain ⟨b, off, vs, hA, hvs, hr⟩ := h.at_ hi
  rw [List.getElem?_map] at hvs
  cases hx : l[i]? with
  | none => rw [hx] at hvs; cases hvs
  | some x =>
    rw [hx] at hvs
    injection hvs with hvs
    subst hvs
    exact ⟨b, off, x, hA, rfl, hr⟩

set_option maxRecDepth 100000 in
set_option maxHeartbeats 4000000 in
theorem great_any (w : World) (A : Option Addr) (n c : Nat) (l : List VAct) (h : InVActs w A n c l) :
    Calls Try.prog 10 #[.slice A n c] w (GreatIs w n l) := by
  have hcm := h.1.2.2.1
  have hnc := h.1.2.1
  unfold maxLen at hcm
  have hll : l.length = n := by have := h.1.1; rwa [List.length_map] at this
  have HLL := Lib.hid hll
  have HH := Lib.hid h
  clear hll h
  go_enter Try.func10, Try.ntmps10
  go_wp2
  go_loopw [7] (fun i wr => ∃ j : Nat, j ≤ n ∧ i = .int .i64 j ∧ Fresh w wr ∧ Hid (∀ x ∈ l.take j, x.len ≤ 1000)) (fun i _ => n - (intOf i).toNat)
  case atStart => exact ⟨0, Nat.zero_le _, rfl, Fresh.refl _, by simp [Hid]⟩
  case round =>
    obtain ⟨j, hj, rfl, hfr, hall⟩ := hrel
    by_cases hlt : j < n
    · obtain ⟨b, off, x, hA, hx, hr⟩ := elem_at (HH.out.1.keep hfr) hlt
      subst hA
      have hok := HH.out.2 x (List.mem_of_getElem? hx)
      have htk : l.take (j + 1) = l.take j ++ [x] := by
        obtain ⟨hl, e⟩ := List.getElem?_eq_some_iff.1 hx
        rw [List.take_succ_eq_append_getElem hl, e]
      obtain ⟨kd, z, nm, to_, xA, xl, xc, xb, kp⟩ := x
      simp only [VAct.cells] at hr
      simp only at hok
      have hxcap := hok.2.2.2.2.2.2
      have hx1 := hxcap.1
      have hx2 := hxcap.2
      have hs1 := hok.2.2.1
      have hs2 := hok.2.2.2.1
      unfold maxLen at hx2 hs1 hs2
      have HR := Lib.hid hr
      have HTK := Lib.hid htk
      clear hx hr htk hok hxcap
      by_cases hg1 : 1000 < xl
      · go_wp2_with ((with_reducible (refine at_slot_ 10 ?_)); refine wpList_load_mid rfl 32 (.tmp 9) rfl b (off + j * 6) rfl _ _ HR.out Try.underlying32 rfl vactInfo ?_)
        go_ret
        exact ⟨true, rfl, hfr.trans (Fresh.alloc _ _), fun h => by cases h⟩
      by_cases hg2 : 100 < nm.size
      · go_wp2_with ((with_reducible (refine at_slot_ 10 ?_)); refine wpList_load_mid rfl 32 (.tmp 9) rfl b (off + j * 6) rfl _ _ HR.out Try.underlying32 rfl vactInfo ?_)
        go_ret
        exact ⟨true, rfl, hfr.trans (Fresh.alloc _ _), fun h => by cases h⟩
      by_cases hg3 : 100 < to_.size
      · go_wp2_with ((with_reducible (refine at_slot_ 10 ?_)); refine wpList_load_mid rfl 32 (.tmp 9) rfl b (off + j * 6) rfl _ _ HR.out Try.underlying32 rfl vactInfo ?_)
        go_ret
        exact ⟨true, rfl, hfr.trans (Fresh.alloc _ _), fun h => by cases h⟩
      · go_wp2_with ((with_reducible (refine at_slot_ 10 ?_)); refine wpList_load_mid rfl 32 (.tmp 9) rfl b (off + j * 6) rfl _ _ HR.out Try.underlying32 rfl vactInfo ?_)
        go_roundw
        case rel =>
          refine ⟨j + 1, by omega, by go_num, hfr.trans (Fresh.alloc _ _), ?_⟩
          show ∀ x ∈ l.take (j + 1), x.len ≤ 1000
          rw [HTK.out]
          intro y hy
          rcases List.mem_append.1 hy with h | h
          · exact hall.out y h
          · rw [List.mem_singleton] at h; subst h; show xl ≤ 1000; omega
        case measure => simp [intOf]; omega
    · obtain rfl : j = n := by omega
      go_wp2
      go_ret
      refine ⟨_, rfl, hfr, fun h => ?_⟩
      refine ⟨by have := of_decide_eq_false h; omega, fun x hx => hall.out x ?_⟩
      rw [List.take_of_length_le (Nat.le_of_eq HLL.out)]
      exact hx
end Go.Proofs.Ytelghdfikcodmaa.vacts
