/-
  An append that tells where the row lies then, in a walk and in a region that draws; what lies below a place stays. My own text.
-/
import Derived.Test.YtgbffkneidnmfaaTurn
import Derived.Test.YtgbffkneidnmfaaStore
namespace Go.Proofs.Ytgbffkneidnmfaa.base
open Go.RowKit
set_option linter.unusedVariables false
section
variable {P : Program}
/-- 'append(own, src...)', src nil, empty or not; what is owned stays in its row or moves to the newest block -/
theorem run_append_rdx (w : World) (base : Nat) (t ty e : TypeId) (i : TypeInfo) (z : Value) (bytes : Nat) (ht : P.underlying t = some (.slice e)) (hi : P.info? e = some i) (hz : i.zero = some z)
    (hsize : i.size = 1) (hby : i.bytes = bytes) (hzs : z.cells.size = 1)
    (A : Option Addr) (n c : Nat) (xs : List Value) (hown : Own w base e A n c xs)
    (B : Nat) (D : Option Addr) (m d : Nat) (news : List Value) (hr : Rd w B D m news) (h1 : ∀ u ∈ news, u.oneCell' = true)
    (h63 : n + m ≤ maxLen) (hbytes : (n + m) * bytes ≤ 140737488355328) (hbase : base ≤ w.heap.size) :
    ∃ A' c' w', (Builtin.append_ #[t, t] ty #[.slice A n c, .slice D m d]).run P w = .ok (.slice A' (n + m) c') w' ∧ Own w' base e A' (n + m) c' (xs ++ news) ∧ w.grownBy w' (Value.slice A n c).ownBlock ∧ ((Value.slice A' (n + m) c').ownBlock = (Value.slice A n c).ownBlock ∨ (Value.slice A' (n + m) c').ownBlock = some w.heap.size) := by
  rcases D with _ | ad
  · have hm : m = 0 := by
      rcases Nat.eq_zero_or_pos m with h0 | h0
      · exact h0
      · obtain ⟨b, off, h, _⟩ := hr.2 h0
        cases h
    subst hm
    have hn : news = [] := List.eq_nil_of_length_eq_zero hr.1
    subst hn
    exact ⟨A, c, w, run_append_nothing w base t ty e i ht hi A n c xs hown d, by simpa using hown, World.grownBy.refl w _, .inl rfl⟩
  · have hcells : ∀ j u, news[j]? = some u → w.cell? (ad.add j) = some u := by
      intro j u hu
      rcases Nat.eq_zero_or_pos m with h0 | h0
      · subst h0
        have hn : news = [] := List.eq_nil_of_length_eq_zero hr.1
        subst hn
        simp at hu
      · obtain ⟨b, off, h, _, hc⟩ := hr.2 h0
        injection h with h
        subst h
        have hadd : (⟨b, off, none⟩ : Addr).add j = ⟨b, off + j, none⟩ := by unfold Addr.add; split <;> simp_all
        rw [hadd]
        exact hc j u hu
    obtain ⟨v', w', hrun, h2, h3, _, h5⟩ := run_append_own_at (P := P) w base t ty e i z 1 bytes ht hi hz hsize hby hzs (by omega) (.slice A n c) n xs hown ad m d news (by simpa using hr.1) hcells h1 h63 hbytes hbase
    have hform : ∃ A' c', v' = .slice A' (n + m) c' := by
      rcases h2.2 with ⟨hv, hn⟩ | ⟨g, cap, cur, hv, _⟩
      · exact ⟨none, 0, by rw [hv, hn]⟩
      · exact ⟨_, cap, hv⟩
    obtain ⟨A', c', rfl⟩ := hform
    exact ⟨A', c', w', hrun, h2, h3, h5⟩

theorem wp_append_rdx (w : World) {o : Oper} {a : Act} {K : Act → World → Prop} {Q : Exit → Act → World → Prop} (s x : Operand) (t : TypeId)
    (ho : o.op = .call { callee := .builtin .append, args := #[s, x], argTypes := #[t, t] })
    (base : Nat) (e : TypeId) (i : TypeInfo) (z : Value) (bytes : Nat) (ht : P.underlying t = some (.slice e)) (hi : P.info? e = some i) (hz : i.zero = some z)
    (hsize : i.size = 1) (hby : i.bytes = bytes) (hzs : z.cells.size = 1)
    (A : Option Addr) (n c : Nat) (xs : List Value) (hs : a.eval s = .slice A n c) (hown : Own w base e A n c xs)
    (B : Nat) (D : Option Addr) (m d : Nat) (news : List Value) (hx : a.eval x = .slice D m d) (hr : Rd w B D m news) (h1 : ∀ u ∈ news, u.oneCell' = true)
    (h63 : n + m ≤ maxLen) (hbytes : (n + m) * bytes ≤ 140737488355328) (hbase : base ≤ w.heap.size)
    (h : ∀ A' c' w', Own w' base e A' (n + m) c' (xs ++ news) → w.grownBy w' (Value.slice A n c).ownBlock → ((Value.slice A' (n + m) c').ownBlock = (Value.slice A n c).ownBlock ∨ (Value.slice A' (n + m) c').ownBlock = some w.heap.size) → K (a.put o.dst (.slice A' (n + m) c')) w') : o.wp P a w K Q := by
  obtain ⟨A', c', w', hrun, h2, h3, h5⟩ := run_append_rdx (P := P) w base t o.type e i z bytes ht hi hz hsize hby hzs A n c xs hown B D m d news hr h1 h63 hbytes hbase
  unfold Oper.wp execOp
  simp only [ho, resolve, invoke, builtin, Sem.run_bind, Sem.run_pure, Result.andThen_ok, List.map_toArray, List.map_cons, List.map_nil, hs, hx, hrun]
  exact h A' c' w' h2 h3 h5

theorem wpList_append_rdx (w : World) {ops : Array Oper} {rest : List Oper} {o : Oper} {a : Act} {Q : Exit → Act → World → Prop} (hgd : o.guard = none) (s x : Operand) (t : TypeId)
    (ho : o.op = .call { callee := .builtin .append, args := #[s, x], argTypes := #[t, t] })
    (base : Nat) (e : TypeId) (i : TypeInfo) (z : Value) (bytes : Nat) (ht : P.underlying t = some (.slice e)) (hi : P.info? e = some i) (hz : i.zero = some z)
    (hsize : i.size = 1) (hby : i.bytes = bytes) (hzs : z.cells.size = 1)
    (A : Option Addr) (n c : Nat) (xs : List Value) (hs : a.eval s = .slice A n c) (hown : Own w base e A n c xs)
    (B : Nat) (D : Option Addr) (m d : Nat) (news : List Value) (hx : a.eval x = .slice D m d) (hr : Rd w B D m news) (h1 : ∀ u ∈ news, u.oneCell' = true)
    (h63 : n + m ≤ maxLen) (hbytes : (n + m) * bytes ≤ 140737488355328) (hbase : base ≤ w.heap.size)
    (h : ∀ A' c' w', Own w' base e A' (n + m) c' (xs ++ news) → w.grownBy w' (Value.slice A n c).ownBlock → ((Value.slice A' (n + m) c').ownBlock = (Value.slice A n c).ownBlock ∨ (Value.slice A' (n + m) c').ownBlock = some w.heap.size) → wpList P ops Q rest (a.put o.dst (.slice A' (n + m) c')) w') : wpList P ops Q (o :: rest) a w :=
  wpList_plain hgd fun _ hK => wp_append_rdx w s x t ho base e i z bytes ht hi hz hsize hby hzs A n c xs hs hown B D m d news hx hr h1 h63 hbytes hbase fun A' c' w' h2 h3 h5 => hK _ _ (h A' c' w' h2 h3 h5)

theorem step_append_rdx {ops : Array Oper} {o : Oper} {a : Act} {w : World} {K : Act → World → Prop} {Q : Exit → Act → World → Prop} {E : Prop} (hgd : o.guard = none) (s x : Operand) (t : TypeId)
    (ho : o.op = .call { callee := .builtin .append, args := #[s, x], argTypes := #[t, t] })
    (base : Nat) (e : TypeId) (i : TypeInfo) (z : Value) (bytes : Nat) (ht : P.underlying t = some (.slice e)) (hi : P.info? e = some i) (hz : i.zero = some z)
    (hsize : i.size = 1) (hby : i.bytes = bytes) (hzs : z.cells.size = 1)
    (A : Option Addr) (n c : Nat) (xs : List Value) (hs : a.eval s = .slice A n c) (hown : Own w base e A n c xs)
    (B : Nat) (D : Option Addr) (m d : Nat) (news : List Value) (hx : a.eval x = .slice D m d) (hr : Rd w B D m news) (h1 : ∀ u ∈ news, u.oneCell' = true)
    (h63 : n + m ≤ maxLen) (hbytes : (n + m) * bytes ≤ 140737488355328) (hbase : base ≤ w.heap.size)
    (h : ∀ A' c' w', Own w' base e A' (n + m) c' (xs ++ news) → w.grownBy w' (Value.slice A n c).ownBlock → ((Value.slice A' (n + m) c').ownBlock = (Value.slice A n c).ownBlock ∨ (Value.slice A' (n + m) c').ownBlock = some w.heap.size) → K (a.put o.dst (.slice A' (n + m) c')) w') : if Region.wanted o (yielded ops a.tmps) = true then Oper.wp P o a w K Q else E := by
  have hw : Region.wanted o (yielded ops a.tmps) = true := by simp [Region.wanted, hgd]
  rw [if_pos hw]
  exact wp_append_rdx w s x t ho base e i z bytes ht hi hz hsize hby hzs A n c xs hs hown B D m d news hx hr h1 h63 hbytes hbase h
end
theorem zst_slot_ {P : Program} {ops : Array Oper} {a : Act} {w : World} {K : Act → World → Prop} {Q : Exit → Act → World → Prop} {E : Prop} {t : TypeId} (d : Nat) {op : Op} {ps : String} {af gd} (h : if Region.wanted (⟨some d, op, t, ps, af, gd⟩ : Oper) (yielded ops a.tmps) = true then Oper.wp P ⟨some d, op, t, ps, af, gd⟩ a w K Q else E) :
    if Region.wanted (⟨some d, op, t, ps, af, gd⟩ : Oper) (yielded ops a.tmps) = true then Oper.wp P ⟨some d, op, t, ps, af, gd⟩ a w K Q else E := h
/-- bytes don't lie in a block that holds none -/
theorem Rd.off {w w' : World} {B n g : Nat} {A : Option Addr} {xs : List UInt8} {t : TypeId} {V : List Value} (h : Rd w B A n (xs.map bv)) (hB : B ≤ w.heap.size) (hb : Bk w g t V) (hV : V.all (fun v => match v with | .int .u8 _ => false | _ => true) = true) (k : But g w w') : Rd w' w'.heap.size A n (xs.map bv) :=
  ⟨h.1, fun hn => by
    obtain ⟨b, off, e, hlt, hc⟩ := h.2 hn
    have hl : 0 < xs.length := by have := h.1; rw [List.length_map] at this; omega
    have h0 := hc 0 (bv xs[0]) (by rw [List.getElem?_map, List.getElem?_eq_getElem hl]; rfl)
    have hne : b ≠ g := by
      intro e1
      subst e1
      have hb' : w.heap[b]? = some (.cells V.toArray t (0, 0)) := hb
      rw [cell_of_row w b (off + 0) _ t (0, 0) hb', List.getElem?_toArray] at h0
      have := List.all_eq_true.1 hV _ (List.mem_of_getElem? h0)
      simp at this
    exact ⟨b, off, e, Nat.lt_of_lt_of_le (Nat.lt_of_lt_of_le hlt hB) k.size, fun j u hu => (World.cell?_of_block (k.block b (Nat.lt_of_lt_of_le hlt hB) (fun e2 => by injection e2 with e2; exact hne e2))).trans (hc j u hu)⟩⟩
/-- what lies below a place stays, where only a block above it turns -/
theorem Below.but {B g : Nat} {a b c : World} (h : Below B a b) (hg : B ≤ g) (hB : B ≤ b.heap.size) (k : But g b c) : Below B a c := h.grown k hB (fun i hi => by injection hi with hi; omega)
theorem Below.fresh {B : Nat} {a b c : World} (h : Below B a b) (hB : B ≤ b.heap.size) (k : Fresh b c) : Below B a c := Below.trans h (k.mono hB)
theorem Below.own {B n c' : Nat} {e : TypeId} {A : Option Addr} {xs : List Value} {base : Nat} {a b c : World} (h : Below B a b) (hB : B ≤ b.heap.size) (ho : Own b base e A n c' xs) (hb : B ≤ base) (k : b.grownBy c (Value.slice A n c').ownBlock) : Below B a c :=
  h.grown k hB (fun i hi => Nat.le_trans hb (World.ownsRow.lt ho i hi).1)
theorem Own.beside {w w' : World} {base n c : Nat} {e : TypeId} {A : Option Addr} {xs : List Value} {row : Option Nat} (h : Own w base e A n c xs) (hg : w.grownBy w' row) (hne : ∀ q, row = some q → (Value.slice A n c).ownBlock ≠ some q) : Own w' base e A n c xs := by
  refine World.ownsRow.kept h hg ?_
  cases hr : (Value.slice A n c).ownBlock with
  | none => simp
  | some q =>
    refine .inr ?_
    intro e1
    exact hne q e1.symm hr
end Go.Proofs.Ytgbffkneidnmfaa.base
