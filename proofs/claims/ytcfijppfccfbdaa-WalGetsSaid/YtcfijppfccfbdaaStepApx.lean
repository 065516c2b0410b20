/-
  append(row, x) of an element that stands in a block of its own, as one step of a region that draws: over any program. My own text.
-/
import Derived.Test.YtcfijppfccfbdaaRowOf
import Derived.Deep.RegionLaw
namespace Go.Proofs.Ytcfijppfccfbdaa.base
open Go.RowKit
set_option linter.unusedVariables false
theorem bst_slot_ {P : Program} {ops : Array Oper} {a : Act} {w : World} {K : Act → World → Prop} {Q : Exit → Act → World → Prop} {E : Prop} {t : TypeId} (d : Nat) {op : Op} {ps : String} {af gd} (h : if Region.wanted (⟨some d, op, t, ps, af, gd⟩ : Oper) (yielded ops a.tmps) = true then Oper.wp P ⟨some d, op, t, ps, af, gd⟩ a w K Q else E) :
    if Region.wanted (⟨some d, op, t, ps, af, gd⟩ : Oper) (yielded ops a.tmps) = true then Oper.wp P ⟨some d, op, t, ps, af, gd⟩ a w K Q else E := h
theorem bstep_append_cells {α : Type} {P : Program} {w : World} {ops : Array Oper} {o : Oper} {a : Act} {K : Act → World → Prop} {Q : Exit → Act → World → Prop} {E : Prop} (hgd : o.guard = none) (s x : Operand) (t : TypeId)
    (ho : o.op = .call { callee := .builtin .append, args := #[s, x], argTypes := #[t, t] })
    (base : Nat) (e : TypeId) (i : TypeInfo) (z : Value) (k bytes : Nat) (ht : P.underlying t = some (.slice e)) (hi : P.info? e = some i) (hz : i.zero = some z)
    (hsize : i.size = k) (hby : i.bytes = bytes) (hzs : z.cells.size = k) (hk0 : 0 < k) (f : α → List Value)
    (A : Option Addr) (n c : Nat) (l : List α) (hs : a.eval s = .slice A n c) (hown : OwnK w base e k A n c f l)
    (g : Nat) (p : α) (hx : a.eval x = .slice (some ⟨g, 0, none⟩) 1 1) (hg : Bk w g e (f p)) (hl : (f p).length = k) (h1 : ∀ u ∈ f p, u.oneCell' = true) (h63 : n ≤ 1099511627776) (hbytes : (n + 1) * bytes ≤ 140737488355328) (hbase : base ≤ w.heap.size)
    (h : ∀ A' c' w', OwnK w' base e k A' (n + 1) c' f (l ++ [p]) → w.grownBy w' (Value.slice A n c).ownBlock → ((Value.slice A' (n + 1) c').ownBlock = (Value.slice A n c).ownBlock ∨ (Value.slice A' (n + 1) c').ownBlock = some w.heap.size) → K (a.put o.dst (.slice A' (n + 1) c')) w') :
    if Region.wanted o (yielded ops a.tmps) = true then Oper.wp P o a w K Q else E := by
  have hw : Region.wanted o (yielded ops a.tmps) = true := by simp [Region.wanted, hgd]
  rw [if_pos hw]
  have hcells : ∀ j u, (f p)[j]? = some u → w.cell? ((⟨g, 0, none⟩ : Addr).add j) = some u := fun j u hu => by
    have hadd : (⟨g, 0, none⟩ : Addr).add j = ⟨g, 0 + j, none⟩ := by unfold Addr.add; split <;> simp_all
    rw [hadd, Nat.zero_add]
    exact hg.cell hu
  obtain ⟨v', w', hrun, h2, h3, _, h5⟩ := run_append_own_at (P := P) w base t o.type e i z k bytes ht hi hz hsize hby hzs hk0 (.slice A n c) n (l.flatMap f) hown ⟨g, 0, none⟩ 1 1 (f p) (by rw [hl, Nat.one_mul]) hcells h1 (by unfold maxLen; omega) hbytes hbase
  have hsn : l.flatMap f ++ f p = (l ++ [p]).flatMap f := by simp
  rw [hsn] at h2
  have hform : ∃ A' c', v' = .slice A' (n + 1) c' := by
    rcases h2.2 with ⟨hv, hn⟩ | ⟨g, cap, cur, hv, _⟩
    · omega
    · exact ⟨_, cap, hv⟩
  obtain ⟨A', c', rfl⟩ := hform
  unfold Oper.wp execOp
  simp only [ho, resolve, invoke, builtin, Sem.run_bind, Sem.run_pure, Result.andThen_ok, List.map_toArray, List.map_cons, List.map_nil, hs, hx, hrun]
  exact h A' c' w' h2 h3 h5
end Go.Proofs.Ytcfijppfccfbdaa.base
