/-
  The contracts of bits.Writer: Write, lengthen, Bits, Code, Align, Bytes, Len. My own text.
-/
import Derived.Test.YtdcdkafpmnlgoaaRdr2
import Derived.Test.YtdcdkafpmnlgoaaWtrNum
namespace Go.Proofs.Ytdcdkafpmnlgoaa.bitp
open Go.RowKit Go.Proofs.Ytdcdkafpmnlgoaa.base Go.Proofs.Ytdcdkafpmnlgoaa.num Go.Proofs.Ytdcdkafpmnlgoaa.bitnum
set_option linter.unusedVariables false

/-- how long the row behind g is -/
def lenAt (w : World) (g : Nat) : Nat := match w.cell? ⟨g, 0, none⟩ with | some (.slice _ n _) => n | _ => 0
theorem BufAt.lenAt {T : TypeId} {w : World} {g : Nat} {bs : List UInt8} {p : Nat} {bl : List Nat} (h : BufAt T w g bs p bl) : lenAt w g = bs.length := by
  obtain ⟨A, c, rfl, hne, hb, ho⟩ := h
  have h0 : w.cell? ⟨g, 0, none⟩ = some (.slice A bs.length c) := hb.cell rfl
  unfold bitp.lenAt
  rw [h0]
/-- a byte of the row: where it is, what it reads, and when it is written -/
theorem BufAt.byte {T : TypeId} {w : World} {g : Nat} {bs : List UInt8} {p : Nat} {bl : List Nat} (h : BufAt T w g bs p bl) {j : Nat} {x : UInt8} (hj : bs[j]? = some x) :
    ∃ q c, w.cell? ⟨g, 0, none⟩ = some (.slice (some ⟨q, 0, none⟩) bs.length c) ∧ bs.length ≤ c ∧ c ≤ maxLen ∧ w.cell? ⟨q, j, none⟩ = some (bv x) ∧ w.frozen? ⟨q, j, none⟩ = false ∧
      ∀ u, BufAt T (w.setCell ⟨q, j, none⟩ (bv u)) g (bs.set j u) p bl ∧ Turn bl bl w (w.setCell ⟨q, j, none⟩ (bv u)) := by
  obtain ⟨A, c, rfl, hne, hb, ho⟩ := h
  have hlt : j < bs.length := (List.getElem?_eq_some_iff.1 hj).1
  obtain ⟨q, cap, hv, h0, hq⟩ := World.ownsRow.form ho (by omega)
  injection hv with hA _ _
  subst hA
  have hqg : q ≠ g := fun e => hne (by rw [← e]; rfl)
  have h1 : w.cell? ⟨g, 0, none⟩ = some (.slice (some ⟨q, 0, none⟩) bs.length c) := hb.cell rfl
  have hcap := ho.cap
  refine ⟨q, c, h1, hcap.1, hcap.2, ?_, ?_, fun u => ⟨⟨some ⟨q, 0, none⟩, c, ?_, ?_, ?_, ?_⟩, ?_⟩⟩
  · have := World.ownsRow.cells ho (g := q) rfl j (bv x) (by rw [List.getElem?_map, hj]; rfl)
    have hadd : (⟨q, 0, none⟩ : Addr).add j = ⟨q, 0 + j, none⟩ := by unfold Addr.add; split <;> simp_all
    rw [hadd, Nat.zero_add] at this
    exact this
  · rcases ho.2 with ⟨hv, hn⟩ | ⟨q', cap', cur, hv, _, hh, _⟩
    · omega
    · injection hv with hv _ _
      injection hv with hv
      injection hv with hv _ _
      subst hv
      simp [World.frozen?, hh]
  · rw [List.length_set]
  · rw [List.length_set]; exact hne
  · rw [List.length_set]; exact hb.apart (by simpa using fun e => hqg e.symm) _
  · rw [List.length_set, List.map_set]; exact (World.ownsRow.stored ho j (bv u)).1
  · exact Turn.but (But.put w (bv u)) (by simp [rb, Value.ownBlock])

end Go.Proofs.Ytdcdkafpmnlgoaa.bitp
