import Derived.Test.YtcmeoappddpmcaaDoorDefWrite
/-
  dynamic. My own text.
-/
namespace Go.Proofs.YtcmeoappddpmcaaDoor.defp
open Go.RowKit Go.Maps Go.Proofs.YtcmeoappddpmcaaDoor.base Go.Proofs.YtcmeoappddpmcaaDoor.num Go.Proofs.YtcmeoappddpmcaaDoor.bitnum Go.Proofs.YtcmeoappddpmcaaDoor.bitp Go.Proofs.YtcmeoappddpmcaaDoor.huffnum Go.Proofs.YtcmeoappddpmcaaDoor.huffp Go.Proofs.YtcmeoappddpmcaaDoor.infp
set_option linter.unusedVariables false
theorem fit_take {T : List Nat} (h : Fit T) (k : Nat) : Fit (T.take k) := by
  refine ⟨?_, fun x hx => h.2 x (List.mem_of_mem_take hx)⟩
  have h1 := h.1
  rw [lenp.tx_sum _ 15 (Nat.le_refl _)] at h1 ⊢
  have e : T = T.take k ++ T.drop k := (List.take_append_drop k T).symm
  rw [e, List.map_append, List.sum_append] at h1
  omega
theorem two (w : World) (X Y : Array Value) (S T : TypeId) : Bk ((w.alloc (.cells X S)).alloc (.cells Y T)) w.heap.size S X.toList ∧ Bk ((w.alloc (.cells X S)).alloc (.cells Y T)) (w.heap.size + 1) T Y.toList ∧ Fresh w ((w.alloc (.cells X S)).alloc (.cells Y T)) := by
  have h0 := Bk.made w S X
  have h1 := Bk.made (w.alloc (.cells X S)) T Y
  have e1 : (w.alloc (.cells X S)).heap.size = w.heap.size + 1 := by simp
  rw [e1] at h1
  exact ⟨h0.alloc _, h1, (Fresh.alloc _ _).trans (Fresh.alloc _ _)⟩
theorem nv_cut {w : World} {L n k : Nat} {t : TypeId} {T : List Nat} (h : Bk w L t (nv T)) (hT : T.length = n) (hk : k ≤ n) : Rd w w.heap.size (some ⟨L, 0, none⟩) k (nv (T.take k)) := by
  refine ⟨by rw [List.length_map, List.length_take]; omega, fun _ => ⟨L, 0, rfl, h.inside, fun j u hu => ?_⟩⟩
  rw [Nat.zero_add]
  refine h.cell ?_
  rw [show nv (T.take k) = (nv T).take k from List.map_take .., List.getElem?_take] at hu
  split at hu
  · exact hu
  · cases hu
theorem ints_nv (T : List Nat) : (T.map fun x : Nat => (x : Int)).map iv = nv T := by
  unfold nv
  rw [List.map_map]
  rfl
/-- the two codes' lengths, one behind the other -/
theorem concat_two (g1 g2 n1 n2 c1 c2 : Nat) (S D : List Nat) (T : TypeId) (w : World) (h1 : Rd w w.heap.size (some ⟨g1, 0, none⟩) n1 (nv S)) (h2 : Rd w w.heap.size (some ⟨g2, 0, none⟩) n2 (nv D)) (hn : n1 + n2 ≤ 1000) :
    Calls Tryd.prog 16 #[.slice (some ⟨w.heap.size, 0, none⟩) 2 2] (w.alloc (.cells #[.slice (some ⟨g1, 0, none⟩) n1 c1, .slice (some ⟨g2, 0, none⟩) n2 c2] T)) fun e w' => ∃ A c, e = .returned (.slice A (n1 + n2) c) ∧ Own w' w.heap.size 3 A (n1 + n2) c (nv (S ++ D)) ∧ Fresh w w' := by
  have hb := Bk.made w T #[.slice (some ⟨g1, 0, none⟩) n1 c1, .slice (some ⟨g2, 0, none⟩) n2 c2]
  have hf := Fresh.alloc w (.cells #[.slice (some ⟨g1, 0, none⟩) n1 c1, .slice (some ⟨g2, 0, none⟩) n2 c2] T)
  have l1 : S.length = n1 := by have := h1.1; rwa [List.length_map] at this
  have l2 : D.length = n2 := by have := h2.1; rwa [List.length_map] at this
  have e1 : catI [(some ⟨g1, 0, none⟩, n1, c1, S.map fun x : Nat => (x : Int)), (some ⟨g2, 0, none⟩, n2, c2, D.map fun x : Nat => (x : Int))] = (S ++ D).map fun x : Nat => (x : Int) := by
    unfold catI
    simp
  have e2 : ((S ++ D).map fun x : Nat => (x : Int)).length = n1 + n2 := by rw [List.length_map, List.length_append]; omega
  refine (concat_any w.heap.size 2 2 [(some ⟨g1, 0, none⟩, n1, c1, S.map fun x : Nat => (x : Int)), (some ⟨g2, 0, none⟩, n2, c2, D.map fun x : Nat => (x : Int))] _ ?_ hb.inside ?_ rfl (by omega) (by rw [e1, e2]; exact hn)).mono ?_
  · intro j r hr
    match j, hr with
    | 0, hr => injection hr with hr; subst hr; exact hb.cell rfl
    | 1, hr => injection hr with hr; subst hr; exact hb.cell rfl
  · intro r hr
    rcases List.mem_cons.1 hr with rfl | hr
    · show Rd _ _ _ _ ((S.map fun x : Nat => (x : Int)).map iv)
      rw [ints_nv]
      exact h1.fresh hf
    rcases List.mem_cons.1 hr with rfl | hr
    · show Rd _ _ _ _ ((D.map fun x : Nat => (x : Int)).map iv)
      rw [ints_nv]
      exact h2.fresh hf
    · cases hr
  · rintro e w' ⟨A, c, rfl, ho, hf2⟩
    rw [e1, e2, ints_nv] at ho
    rw [e1, e2]
    exact ⟨A, c, rfl, own_low ho hf.size, hf.trans hf2⟩
end Go.Proofs.YtcmeoappddpmcaaDoor.defp
