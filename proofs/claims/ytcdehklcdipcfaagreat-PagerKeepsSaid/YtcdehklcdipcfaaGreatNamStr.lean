import Derived.Test.YtcdehklcdipcfaaGreatMgVa
import Derived.Laws.BytesString
import Derived.Laws.IdiomStrings
/-
  Conversions between texts and bytes, as laws of the walk: plain lemmas, over any program. My own text.
-/
namespace Go.Proofs.YtcdehklcdipcfaaGreat.base
open Go.RowKit
set_option linter.unusedVariables false

/-- string(bytes) -/
theorem run_str_rd {P : Program} (w : World) (src dst e : TypeId) (hs : P.underlying src = some (.slice e)) (he : P.underlying e = some (.int .u8)) (hd : P.underlying dst = some .string) (A : Option Addr) (c n B : Nat) (bs : List UInt8) (h : Rd w B A n (bs.map bv)) :
    (convert src dst (.slice A n c)).run P w = .ok (.string ⟨bs.toArray⟩) w := by
  rw [run_convert_bytes_string w src dst e _ _ _ hs he hd]
  have hl : bs.length = n := by have := h.1; rwa [List.length_map] at this
  subst hl
  rcases A with _ | ad
  · have hb : bs = [] := by
      cases bs with
      | nil => rfl
      | cons b r =>
        obtain ⟨_, _, e1, _⟩ := h.2 (by simp)
        cases e1
    subst hb
    rfl
  · have hl := run_loadCells_list (w := w) (P := P) ad (bs.map bv) fun j v hv => by
      have hlt : j < bs.length := by
        have := (List.getElem?_eq_some_iff.1 hv).1
        rwa [List.length_map] at this
      obtain ⟨b, off, e1, _, hc⟩ := h.2 (by omega)
      injection e1 with e1
      subst e1
      have hadd : (⟨b, off, none⟩ : Addr).add j = ⟨b, off + j, none⟩ := by unfold Addr.add; split <;> simp_all
      rw [hadd]
      exact hc j v hv
    rw [List.length_map] at hl
    have e1 : bs.map bv = (bs.map fun x => (x.toNat : Int)).map (Value.int .u8) := by simp [Function.comp_def]
    rw [e1] at hl
    rw [run_bytesToString w ad bs.length c _ hl, foldl_push_byteCells]
    congr 2
    simp [ByteArray.empty, ByteArray.emptyWithCapacity]
    rfl
section
variable {P : Program} {w : World} {ops : Array Oper} {rest : List Oper} {o : Oper} {a : Act} {Q : Exit → Act → World → Prop}
/-- []byte(text) -/
theorem wpList_bytes_of (hgd : o.guard = none) (src dst e : TypeId) (x : Operand) (ho : o.op = .convert src dst x) (hs : P.underlying src = some .string) (hd : P.underlying dst = some (.slice e)) (he : P.underlying e = some (.int .u8))
    (s : ByteArray) (hx : a.eval x = .string s) (l : List UInt8) (hl : s.data.toList = l) (n : Nat) (hn : l.length = n) (hm : n ≤ maxLen)
    (h : ∀ A c w', Fresh w w' → Rd w' w'.heap.size A n (l.map bv) → n ≤ c → c ≤ maxLen → wpList P ops Q rest (a.put o.dst (.slice A n c)) w') : wpList P ops Q (o :: rest) a w := by
  refine wpList_plain hgd fun K hK => ?_
  have hsz : s.size = n := by rw [← hn, ← hl]; exact (Array.length_toList (xs := s.data)).symm
  have hrun := run_bytes_of_string (P := P) w src dst e s hs hd he
  rw [hsz] at hrun
  unfold Oper.wp execOp
  simp only [ho, hx, Sem.run_bind, hrun, Result.andThen_ok]
  have hf : Fresh w (w.drew.alloc (.cells (bytesRow s (grownCap w n 0 e)) e ((bytesRow s (grownCap w n 0 e)).size, (bytesRow s (grownCap w n 0 e)).size + 1))) := (Fresh.drew w).trans (Fresh.alloc _ _)
  refine hK _ _ (h _ _ _ hf ⟨by rw [List.length_map, hn], fun hpos => ⟨w.heap.size, 0, rfl, by simp, fun j u hu => ?_⟩⟩ ?_ ?_)
  · rw [Nat.zero_add]
    have hj : j < s.data.size := by
      have := (List.getElem?_eq_some_iff.1 hu).1
      rw [List.length_map] at this
      rw [← hl] at this
      rwa [Array.length_toList] at this
    have hcell := cell_of_row (w.drew.alloc (.cells (bytesRow s (grownCap w n 0 e)) e ((bytesRow s (grownCap w n 0 e)).size, (bytesRow s (grownCap w n 0 e)).size + 1))) w.heap.size j _ e _ (heap_alloc_new w.drew _)
    rw [hcell, bytesRow_at s _ j hj, ← hu, ← hl, List.getElem?_map, List.getElem?_eq_getElem (by simpa using hj)]
    simp
  · exact grownCap_ge w n 0 e
  · exact grownCap_le_maxLen w n 0 e hm
end
end Go.Proofs.YtcdehklcdipcfaaGreat.base
