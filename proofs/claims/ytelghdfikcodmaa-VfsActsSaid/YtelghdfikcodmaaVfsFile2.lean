/-
  The contracts of vfs's files: blank, sync, write. My own text.
-/
import Derived.Test.YtelghdfikcodmaaVfsFile
import Derived.WalkLawsBesides
namespace Go.Proofs.Ytelghdfikcodmaa.vfs
open Go.RowKit Go.Maps Go.Proofs.Ytelghdfikcodmaa.base Go.Proofs.Ytelghdfikcodmaa.vfsnum
set_option linter.unusedVariables false

theorem splice_append {α : Type} (L rest : List α) (off : Nat) (cs : List α) (h : off + cs.length ≤ L.length) : splice (L ++ rest) off cs = splice L off cs ++ rest := by
  unfold splice
  rw [List.take_append_of_le_length (by omega), List.drop_append_of_le_length h, List.append_assoc, List.append_assoc]
/-- a sector's block, written within what there is -/
theorem Sect.put {w w' : World} {q n c : Nat} {fl : Bs} {rest : List Value} (hs : Sect w (some ⟨q, 0, none⟩) n c fl [q]) (hr : 64 * n + rest.length = 64 * c) (off : Nat) (cs : Bs) (h : off + cs.length ≤ 64 * n)
    (hb : Bk w' q tSec (splice (fl.map bv ++ rest) off (cs.map bv))) : Sect w' (some ⟨q, 0, none⟩) n c (splice fl off cs) [q] := by
  obtain ⟨h1, h2, h3, _⟩ := hs
  refine ⟨by rw [length_splice _ _ _ (by omega), h1], h2, h3, .inr ⟨q, rest, rfl, rfl, ?_, hr⟩⟩
  rw [splice_append _ _ _ _ (by rw [List.length_map, List.length_map]; omega), splice_map] at hb
  exact hb
theorem sync_any (g : Nat) (r : Raw) (bl : List Nat) (w : World) (h : FileRaw w g r bl) :
    Calls Try.prog 82 #[.pointer (some ⟨g, 0, none⟩)] w fun e w' => e = .returned (.tuple #[]) ∧ ∃ bl', FileRaw w' g { r with old := fun _ => none } bl' ∧ Turn bl bl' w w' := by
  obtain ⟨wb, A, c, kv, sb, rfl, hnd, hb, hs, hm, hk⟩ := h
  have h3 : w.cell? ⟨g, 3, none⟩ = some (.map (some wb)) := hb.cell rfl
  have hf3 := hb.free 3
  have hgw := hb.inside
  have hmm := @run_makeMap Try.prog
  go_enter Try.func82, Try.ntmps82
  go_wp2
  go_end0
  have hwb := hm.inside
  have hne : g ≠ wb := by simp at hnd; exact hnd.1.1
  have hsb : ∀ b ∈ sb, b ≠ g ∧ b ≠ wb ∧ b < w.heap.size := fun b hbm => by
    refine ⟨fun e => ?_, fun e => ?_, ?_⟩
    · subst e; simp at hnd; exact hnd.1.2 hbm
    · subst e; simp at hnd; exact hnd.2.1 hbm
    · exact (show FileRaw w g r (g :: wb :: sb) from ⟨wb, A, c, kv, sb, rfl, hnd, hb, hs, hm, hk⟩).inside b (by simp [hbm])
  have hT := (Turn.but (But.put (i := 3) w (.map (some w.heap.size))) (by simp : g ∈ g :: wb :: sb)).trans (Turn.fresh (Fresh.alloc (w.setCell ⟨g, 3, none⟩ (.map (some w.heap.size))) (.map #[] 0)))
  refine ⟨rfl, g :: w.heap.size :: sb, ⟨w.heap.size, A, c, [], sb, rfl, ?_, (hb.put 3 (.map (some w.heap.size))).alloc _, hs.keep fun b hbm => ?_, ?_, OldIs.nil⟩, hT.to ?_⟩
  · simp only [List.nodup_cons, List.mem_cons] at hnd ⊢
    refine ⟨?_, ?_, hnd.2.2⟩
    · rintro (h | h)
      · omega
      · exact hnd.1 (.inr h)
    · intro h
      have := (hsb _ h).2.2
      omega
  · rw [Below.heap_alloc _ _ b (by simpa using (hsb b hbm).2.2), Below.heap_setCell w ⟨g, 3, none⟩ _ b (hsb b hbm).1]
  · have := MapOf.made Try.prog 3 (w.setCell ⟨g, 3, none⟩ (.map (some w.heap.size)))
    simpa using this
  · intro b hbm
    simp only [List.mem_cons] at hbm ⊢
    rcases hbm with h | h | h
    · exact .inl (.inl h)
    · exact .inr (by omega)
    · exact .inl (.inr (.inr h))

theorem blank_none (g : Nat) (r : Raw) (bl : List Nat) (w : World) (h : FileRaw w g r bl) (h0 : r.long % 64 = 0) (hl : r.long ≤ 4194304) :
    Calls Try.prog 95 #[.pointer (some ⟨g, 0, none⟩)] w fun e w' => e = .returned (.tuple #[]) ∧ w = w' := by
  obtain ⟨wb, A, c, kv, sb, rfl, hnd, hb, hs, hm, hk⟩ := h
  have h1 : w.cell? ⟨g, 0, none⟩ = some (.int .i64 r.long) := hb.cell rfl
  have e1 : ((r.long : Int) % 64) = 0 := by omega
  go_enter Try.func95, Try.ntmps95
  go_wp2
  go_end0
  exact ⟨rfl, rfl⟩

set_option maxRecDepth 100000 in
theorem blank_some (g : Nat) (r : Raw) (bl : List Nat) (w : World) (h : FileRaw w g r bl) (h0 : ¬ r.long % 64 = 0) (hl : r.long ≤ 4194304) (hn : 0 < r.n) (hn2 : r.n ≤ 65536) :
    Calls Try.prog 95 #[.pointer (some ⟨g, 0, none⟩)] w fun e w' => e = .returned (.tuple #[]) ∧ FileRaw w' g r.blank bl ∧ Turn bl bl w w' := by
  obtain ⟨wb, A, c, kv, sb, rfl, hnd, hb, hs, hm, hk⟩ := h
  obtain ⟨q, rest, rfl, rfl, hq, hrest⟩ := hs.row hn
  have h1 : w.cell? ⟨g, 0, none⟩ = some (.int .i64 r.long) := hb.cell rfl
  have h2 : w.cell? ⟨g, 2, none⟩ = some (.slice (some ⟨q, 0, none⟩) r.n c) := hb.cell rfl
  obtain ⟨m, hm1, hm2⟩ : ∃ m : Nat, (r.long : Int) % 64 = m ∧ m = r.long % 64 := ⟨r.long % 64, by omega, rfl⟩
  have hm3 : 0 < m ∧ m < 64 := by omega
  have hm4 : (((m : Nat) : Int) != 0) = true := by rw [bne_iff_ne]; omega
  obtain ⟨k, hk1⟩ : ∃ k : Nat, r.n = k + 1 := ⟨r.n - 1, by omega⟩
  have e1 : IntKind.i64.wrap (k : Int) = k := IntWalk.i64_in _ (by omega)
  have e2 : (k : Int) < (k : Int) + 1 := by omega
  have e3 : (m : Int) ≤ 64 := by omega
  have e4 : ¬ 64 = m := by omega
  have HM := Lib.hid hm2
  have HK := Lib.hid hk1
  clear hm2
  rw [hk1] at h2
  clear hk1
  go_enter Try.func95, Try.ntmps95
  go_wp2
  refine wp_region_still_tail 13 (by kernel_rfl) (by kernel_rfl) ?_
  simp only [List.take_succ_cons, List.take_zero, List.drop_succ_cons, List.drop_zero]
  iterate 13 still_step
  refine wpStill_nil ?_
  have hfl := hs.1
  go_wp2_with (first
    | ((with_reducible (refine at_none_ ?_)); refine wpList_clear_blk rfl (.tmp 22) 29 rfl 5 Try.underlying29 (by kernel_rfl) q (k * 64 + m) (64 - m) (64 - m) rfl _ tSec (hq.fresh (Fresh.drew w)) (by omega) (by have := HK.out; rw [List.length_append, List.length_map]; omega) ?_; intro w1 hb1 hbut1))
  go_end0
  have hne : g ≠ q ∧ wb ≠ q := by simp at hnd; exact ⟨hnd.1.2, hnd.2⟩
  have keep : ∀ b, b < w.heap.size → b ≠ q → w1.heap[b]? = w.heap[b]? := fun b hb hn => hbut1.block b hb (fun e => hn (by injection e))
  have hbl : r.blank.fl = splice r.fl (k * 64 + m) (List.replicate (64 - m) 0) := by rw [blank_fl1 _ h0, ← HM.out, HK.out]; congr 1; omega
  refine ⟨rfl, ⟨wb, some ⟨q, 0, none⟩, c, kv, [q], rfl, hnd, hb.old (keep g hb.inside hne.1), ?_, hm.old (keep wb hm.inside hne.2), hk⟩, (Turn.fresh (Fresh.drew w)).trans (Turn.but hbut1 (by simp))⟩
  rw [hbl]
  refine hs.put hrest _ _ (by have := HK.out; rw [List.length_replicate]; omega) ?_
  rw [List.map_replicate]
  exact hb1

theorem blank_any (g : Nat) (r : Raw) (bl : List Nat) (w : World) (h : FileRaw w g r bl) (hl : r.long ≤ 64 * r.n) (hn2 : r.n ≤ 65536) :
    Calls Try.prog 95 #[.pointer (some ⟨g, 0, none⟩)] w fun e w' => e = .returned (.tuple #[]) ∧ FileRaw w' g r.blank bl ∧ Turn bl bl w w' := by
  by_cases h0 : r.long % 64 = 0
  · refine (blank_none g r bl w h h0 (by omega)).mono fun e w' ⟨he, hw⟩ => ⟨he, ?_, hw ▸ Turn.refl _ _⟩
    have : r.blank = r := Raw.same rfl rfl rfl (blank_fl0 r h0) rfl
    rw [this, ← hw]
    exact h
  · exact blank_some g r bl w h h0 (by omega) (by omega) hn2
end Go.Proofs.Ytelghdfikcodmaa.vfs
