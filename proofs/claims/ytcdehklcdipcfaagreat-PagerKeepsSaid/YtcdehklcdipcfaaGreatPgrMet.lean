/-
  Pages that were read once are kept: plain mathematics. My own text.
-/
import Derived.Test.YtcdehklcdipcfaaGreatPgrKps
namespace Go.Proofs.YtcdehklcdipcfaaGreat.pgrp
open Go.RowKit Go.Maps Go.Proofs.YtcdehklcdipcfaaGreat.base Go.Proofs.YtcdehklcdipcfaaGreat.num Go.Proofs.YtcdehklcdipcfaaGreat.word Go.Proofs.YtcdehklcdipcfaaGreat.pagn Go.Proofs.YtcdehklcdipcfaaGreat.pgr Go.Proofs.YtcdehklcdipcfaaGreat.waln Go.Proofs.YtcdehklcdipcfaaGreat.walp Go.Proofs.YtcdehklcdipcfaaGreat.pagp
open Go.Proofs.YtcdehklcdipcfaaGreat.vfsnum hiding Bs
set_option linter.unusedVariables false
set_option linter.unusedSimpArgs false

theorem nodup_bound : ∀ (N : Nat) (S : List Nat), S.Nodup → (∀ s ∈ S, s < N) → S.length ≤ N
  | 0, S, _, h => by
    cases S with
    | nil => exact Nat.le_refl _
    | cons s r => exact absurd (h s (by simp)) (by omega)
  | N + 1, S, hn, h => by
    by_cases hm : N ∈ S
    · have := nodup_bound N (S.erase N) (hn.erase N) (fun s hs => by
        have h1 := (List.Nodup.mem_erase_iff hn).1 hs
        have h2 := h s h1.2
        have h3 := h1.1
        omega)
      rw [List.length_erase_of_mem hm] at this
      have : 0 < S.length := List.length_pos_of_mem hm
      omega
    · exact Nat.le_succ_of_le (nodup_bound N S hn (fun s hs => by
        have h1 := h s hs
        have h2 : s ≠ N := fun e => hm (e ▸ hs)
        omega))
theorem lookE_keepE {l : List Ent} {n : Nat} (b : Bs) (h : l.length < 16) (j : Nat) : lookE (keepE l n b) j = if j = n then some b else lookE l j := by
  have hl : (dropE l n).length ≠ 16 := by
    have : (dropE l n).length ≤ l.length := List.length_filter_le _ _
    omega
  unfold keepE
  rw [if_neg hl]
  have e : lookE (dropE l n ++ [(n, b)]) j = (lookE (dropE l n) j).or (lookE [(n, b)] j) := by
    unfold lookE
    rw [List.find?_append]
    cases List.find? (fun e => decide (e.1 = j)) (dropE l n) <;> rfl
  rw [e, lookE_dropE]
  by_cases hj : j = n
  · rw [if_pos hj, if_pos hj]
    unfold lookE
    rw [List.find?_cons_of_pos (by simp [hj])]
    rfl
  · rw [if_neg hj, if_neg hj]
    have : lookE [(n, b)] j = none := by unfold lookE; rw [List.find?_cons_of_neg (by simp; omega)]; rfl
    rw [this]
    cases lookE l j <;> rfl
theorem keepE_len {l : List Ent} {n : Nat} (b : Bs) (h : l.length < 16) : (keepE l n b).length ≤ l.length + 1 ∧ (∀ c, lookE l n = some c → (keepE l n b).length ≤ l.length) := by
  have hl : (dropE l n).length ≤ l.length := List.length_filter_le _ _
  unfold keepE
  rw [if_neg (by omega), List.length_append]
  refine ⟨by simp; omega, fun c hc => ?_⟩
  have hm := lookE_some hc
  have : (dropE l n).length < l.length := by
    unfold dropE
    exact List.length_filter_lt_length_iff_exists.2 ⟨(n, c), hm, by simp⟩
  simp
  omega
/-- the pages S were read, each once -/
structure Met (m : Mm) (S : List Nat) : Prop where
  ch : m.ch = []
  dead : m.dead = false
  many : m.hd.many = 13
  rd : m.rd = 1 + S.length
  few : m.sh.length ≤ 1 + S.length
  nd : S.Nodup
  in_ : ∀ s ∈ S, s ≠ 0 ∧ s ≤ 12
  look : ∀ j, j ≠ 0 → lookE m.sh j = if j ∈ S then some (pgB j) else none
theorem Met.short {m : Mm} {S : List Nat} (h : Met m S) : S.length ≤ 13 ∧ m.sh.length < 16 := by
  have h1 := nodup_bound 13 S h.nd (fun s hs => by have := (h.in_ s hs).2; omega)
  have h2 := h.few
  omega
theorem met_new {h : Hd} (hm : h.many = 13) : Met (mmO h) [] where
  ch := rfl
  dead := rfl
  many := hm
  rd := rfl
  few := Nat.le_refl _
  nd := List.nodup_nil
  in_ := fun s hs => by cases hs
  look := fun j hj => by
    show lookE [(0, hdB h)] j = none
    unfold lookE
    rw [List.find?_cons_of_neg (by simp; omega)]
    rfl
theorem page_met {m : Mm} {S : List Nat} (h : Met m S) (no : Nat) (b : Bs) (r : Bool) : pageM m no b r = { m with rd := m.rd + r.toNat, sh := keepE m.sh no b } := by
  unfold pageM
  rw [h.ch]
  rfl
theorem Met.look_is {m : Mm} {S : List Nat} (h : Met m S) {C : List Bs} {no : Nat} (h0 : no ≠ 0) (hC : C[no]? = some (pgB no)) : LookIs m C no (pgB no) (!decide (no ∈ S)) := by
  have hc : lookE m.ch no = none := by rw [h.ch]; rfl
  by_cases hm : no ∈ S
  · refine .inr (.inl ⟨hc, ?_, by simp [hm]⟩)
    rw [h.look no h0, if_pos hm]
  · refine .inr (.inr ⟨hc, ?_, hC, by simp [hm]⟩)
    rw [h.look no h0, if_neg hm]
theorem Met.again {m : Mm} {S : List Nat} (h : Met m S) {no : Nat} (h0 : no ≠ 0) (hm : no ∈ S) : Met (pageM m no (pgB no) false) S := by
  rw [page_met h]
  have hs := h.short.2
  refine ⟨h.ch, h.dead, h.many, h.rd, ?_, h.nd, h.in_, fun j hj => ?_⟩
  · have := (keepE_len (n := no) (pgB no) hs).2 (pgB no) (by rw [h.look no h0, if_pos hm])
    exact Nat.le_trans this h.few
  · show lookE (keepE m.sh no (pgB no)) j = _
    rw [lookE_keepE _ hs]
    by_cases e : j = no
    · rw [if_pos e, e, if_pos hm]
    · rw [if_neg e, h.look j hj]
theorem Met.first {m : Mm} {S : List Nat} (h : Met m S) {no : Nat} (h0 : no ≠ 0) (h12 : no ≤ 12) (hm : no ∉ S) : Met (pageM m no (pgB no) true) (no :: S) := by
  rw [page_met h]
  have hs := h.short.2
  refine ⟨h.ch, h.dead, h.many, ?_, ?_, List.nodup_cons.2 ⟨hm, h.nd⟩, fun s hs => ?_, fun j hj => ?_⟩
  · show m.rd + 1 = 1 + (no :: S).length
    rw [h.rd, List.length_cons]
    omega
  · show (keepE m.sh no (pgB no)).length ≤ 1 + (no :: S).length
    have h1 := (keepE_len (n := no) (pgB no) hs).1
    have h2 := h.few
    rw [List.length_cons]
    omega
  · rcases List.mem_cons.1 hs with rfl | hs
    · exact ⟨h0, h12⟩
    · exact h.in_ s hs
  · show lookE (keepE m.sh no (pgB no)) j = _
    rw [lookE_keepE _ hs]
    by_cases e : j = no
    · rw [if_pos e, e, if_pos (by simp)]
    · rw [if_neg e, h.look j hj]
      by_cases hj2 : j ∈ S
      · rw [if_pos hj2, if_pos (List.mem_cons_of_mem _ hj2)]
      · rw [if_neg hj2, if_neg (by simp [e, hj2])]
end Go.Proofs.YtcdehklcdipcfaaGreat.pgrp
