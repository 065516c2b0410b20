/-
  Layer 13: texts of one rune; texts that are compared, joined. My own text.
-/
import Derived.Test.YtkkkjadfhimahaaDoorGlbUse
import Derived.Test.YtkkkjadfhimahaaDoorNamRead
import Derived.Laws.Strings
import Derived.Laws.Runes
namespace Go.Proofs.YtkkkjadfhimahaaDoor.glbp
open Go.RowKit Go.Proofs.YtkkkjadfhimahaaDoor.base Go.Proofs.YtkkkjadfhimahaaDoor.nam Go.Proofs.YtkkkjadfhimahaaDoor.namp Go.Proofs.YtkkkjadfhimahaaDoor.glb
set_option linter.unusedVariables false
section
variable {P : Program} {w : World} {ops : Array Oper} {rest : List Oper} {o : Oper} {a : Act} {Q : Exit → Act → World → Prop}
/-- []byte(text), guarded, where the guard holds -/
theorem wpList_bytes_if (hgd : Region.wanted o (yielded ops a.tmps) = true) (src dst e : TypeId) (x : Operand) (ho : o.op = .convert src dst x) (hs : P.underlying src = some .string) (hd : P.underlying dst = some (.slice e)) (he : P.underlying e = some (.int .u8))
    (s : ByteArray) (hx : a.eval x = .string s) (l : List UInt8) (hl : s.data.toList = l) (n : Nat) (hn : l.length = n) (hm : n ≤ maxLen)
    (h : ∀ A c w', Fresh w w' → Rd w' w'.heap.size A n (l.map bv) → n ≤ c → c ≤ maxLen → wpList P ops Q rest (a.put o.dst (.slice A n c)) w') : wpList P ops Q (o :: rest) a w := by
  have key := wpList_bytes_of (P := P) (w := w) (ops := ops) (rest := rest) (o := { o with guard := none }) (a := a) (Q := Q) rfl src dst e x ho hs hd he s hx l hl n hn hm h
  refine wpList_step fun K hK => ?_
  rw [if_pos hgd]
  have hsz : s.size = n := by rw [← hn, ← hl]; exact (Array.length_toList (xs := s.data)).symm
  have hrun := run_bytes_of_string (P := P) w src dst e s hs hd he
  rw [hsz] at hrun
  unfold Oper.wp execOp
  simp only [ho, hx, Sem.run_bind, hrun, Result.andThen_ok]
  have hf : Fresh w (w.drew.alloc (.cells (bytesRow s (grownCap w n 0 e)) e ((bytesRow s (grownCap w n 0 e)).size, (bytesRow s (grownCap w n 0 e)).size + 1))) := (Fresh.drew w).trans (Fresh.alloc _ _)
  refine hK _ _ (h _ _ _ hf ⟨by rw [List.length_map, hn], fun hpos => ⟨w.heap.size, 0, rfl, by simp, fun j u hu => ?_⟩⟩ ?_ ?_)
  · rw [Nat.zero_add]
    have hj : j < s.data.size := by
      have := (List.getElem?_eq_some_iff.1 hu).1
      rw [List.length_map] at this
      rw [← hl] at this
      rwa [Array.length_toList] at this
    have hcell := cell_of_row (w.drew.alloc (.cells (bytesRow s (grownCap w n 0 e)) e ((bytesRow s (grownCap w n 0 e)).size, (bytesRow s (grownCap w n 0 e)).size + 1))) w.heap.size j _ e _ (heap_alloc_new w.drew _)
    rw [hcell, bytesRow_at s _ j hj, ← hu, ← hl, List.getElem?_map, List.getElem?_eq_getElem (by simpa using hj)]
    simp
  · exact grownCap_ge w n 0 e
  · exact grownCap_le_maxLen w n 0 e hm
end
theorem is_field (A : Option Addr) (m c : Nat) (b : Bool) (W : World) : (Instr.field tRunes (.agg #[.slice A m c, .bool b]) 1).run Tryd.prog W = .ok (.bool b) W := by
  simp [Instr.field, run_underlying Tryd.underlying43, asAgg, part, sizeOf, typeInfo]
/-- a text: its runes, and what is none -/
theorem told (s : ByteArray) : ∃ rs u, s.data.toList = tx rs ++ u ∧ (∀ r ∈ rs, Rn r) ∧ (u = [] ∨ Bad u) := by
  obtain ⟨rs, u, h1, h2, h3⟩ := read_or s.data.toList
  exact ⟨rs, u, h2, h1, h3⟩
/-- is it right UTF-8, as the reference tells? -/
theorem read_is (rs : List Nat) (u : List UInt8) (hrn : ∀ r ∈ rs, Rn r) (hu : u = [] ∨ Bad u) (b : Bool) (hb : decide (u = []) = b) (A : Option Addr) (n c B : Nat) (w : World) (hr : Rd w B A n ((tx rs ++ u).map bv)) (hB : B ≤ w.heap.size) (hm : n ≤ 4294967296) (hc : n ≤ c) (hcm : c ≤ maxLen) :
    Calls Tryd.prog 17 #[.slice A n c] w fun e w' => ∃ A1 m1 c1, e = .returned (.agg #[.slice A1 m1 c1, .bool b]) ∧ Fresh w w' := by
  subst hb
  refine (read_any A n c _ rs u rfl hrn hu w B hr hB hm hc hcm).mono ?_
  rintro e w' ⟨A1, m1, c1, rfl, hf, _⟩
  exact ⟨A1, m1, c1, rfl, hf⟩
theorem en_inj {a b : Nat} (ha : Rn a) (hb : Rn b) (h : en a = en b) : a = b := by
  have h1 := dcd_good ha []
  have h2 := dcd_good hb []
  rw [h, h2] at h1
  injection h1 with h1 _
  exact h1.symm
theorem tx_inj {a b : List Nat} (ha : ∀ r ∈ a, Rn r) (hb : ∀ r ∈ b, Rn r) (h : tx a = tx b) : a = b := by
  have h1 := rns_good a ha
  rw [h, rns_good b hb] at h1
  exact h1.symm
theorem en_valid (z : Int) : ∃ a, Rn a ∧ (Utf8.encode z).data.toList = en a := by
  have key : ∀ c : Nat, (let b (n : Nat) : UInt8 := UInt8.ofNat n
      if c < 0x80 then (⟨#[b c]⟩ : ByteArray)
      else if c < 0x800 then ⟨#[b (0xC0 + c / 64), b (0x80 + c % 64)]⟩
      else if c < 0x10000 then ⟨#[b (0xE0 + c / 4096), b (0x80 + c / 64 % 64), b (0x80 + c % 64)]⟩
      else ⟨#[b (0xF0 + c / 262144), b (0x80 + c / 4096 % 64), b (0x80 + c / 64 % 64), b (0x80 + c % 64)]⟩).data.toList = en c := by
    intro c
    simp only [en]
    repeat' split
    all_goals rfl
  by_cases h : Utf8.valid z = true
  · refine ⟨z.toNat, ?_, ?_⟩
    · unfold Utf8.valid at h
      simp at h
      unfold Rn
      omega
    · have := key z.toNat
      unfold Utf8.encode
      rw [if_pos h]
      exact this
  · refine ⟨65533, Or.inr ⟨by omega, by omega⟩, ?_⟩
    have := key 65533
    unfold Utf8.encode
    rw [if_neg h]
    exact this
theorem str_eq (a b : ByteArray) : (a.toList == b.toList) = decide (a.data.toList = b.data.toList) := by
  rw [ByteArray.toList_eq, ByteArray.toList_eq]
  by_cases h : a.data.toList = b.data.toList
  · rw [decide_eq_true h, h]; simp
  · rw [decide_eq_false h]; simpa using h
theorem str_ext {a b : ByteArray} (h : a.data.toList = b.data.toList) : a = b := by
  cases a; cases b
  simp at h
  rw [h]
theorem str_app (a b : ByteArray) : (a ++ b).data.toList = a.data.toList ++ b.data.toList := by simp
theorem str_size (a : ByteArray) : a.size = a.data.toList.length := (Array.length_toList (xs := a.data)).symm
end Go.Proofs.YtkkkjadfhimahaaDoor.glbp
