import Derived.Test.YtppgceighgpgoaaGreatDoorMgBk2
import Derived.Test.YtppgceighgpgoaaGreatDoorDefStored
import Derived.Test.YtppgceighgpgoaaGreatDoorMgDyn
/-
  Pack in any way, and what it makes of how. My own text.
-/
namespace Go.Proofs.YtppgceighgpgoaaGreatDoor.defp
open Go.RowKit Go.Maps Go.Proofs.YtppgceighgpgoaaGreatDoor.base Go.Proofs.YtppgceighgpgoaaGreatDoor.num Go.Proofs.YtppgceighgpgoaaGreatDoor.bitnum Go.Proofs.YtppgceighgpgoaaGreatDoor.bitp Go.Proofs.YtppgceighgpgoaaGreatDoor.huffnum Go.Proofs.YtppgceighgpgoaaGreatDoor.huffp Go.Proofs.YtppgceighgpgoaaGreatDoor.infnum Go.Proofs.YtppgceighgpgoaaGreatDoor.infp
set_option linter.unusedVariables false
theorem getD_most {T : List Nat} {B : Nat} (h : ∀ x ∈ T, x ≤ B) (k : Nat) : T.getD k 0 ≤ B := by
  rw [List.getD_eq_getElem?_getD]
  cases hk : T[k]? with
  | none => exact Nat.zero_le _
  | some v => exact h v (List.mem_of_getElem? hk)
theorem out_most {ls ld : List Nat} (hA : ∀ x ∈ ls, x ≤ 15) (hD : ∀ x ∈ ld, x ≤ 15) {s : Nat × Nat} (hok : Ok s) : (out ls ld s).1 ≤ 56 := by
  have h1 := Nat.le_trans (Fs_getD ls (sy s)) (getD_most hA _)
  have h2 := Nat.le_trans (Fs_getD ld (di s)) (getD_most hD _)
  have h3 := syN_le s hok
  have h4 := diN_le s (by unfold Ok at hok; omega)
  unfold out out1
  simp only
  split <;> simp only <;> omega
theorem outs_most {ls ld : List Nat} (hA : ∀ x ∈ ls, x ≤ 15) (hD : ∀ x ∈ ld, x ≤ 15) : ∀ {l : List (Nat × Nat)}, (∀ s ∈ l, Ok s) → (outs ls ld l).1 ≤ 56 * l.length
  | [], _ => Nat.zero_le _
  | s :: r, h => by
    have h1 := out_most hA hD (h s List.mem_cons_self)
    have h2 := outs_most hA hD (l := r) fun x hx => h x (List.mem_cons_of_mem _ hx)
    rw [List.length_cons]
    unfold outs
    simp only
    omega
theorem parts_len (T : List Nat) : ∀ ps : List Pt, (ps.flatMap (partI T)).length = 2 * ps.length
  | [] => rfl
  | p :: r => by rw [List.flatMap_cons, List.length_append, parts_len T r, List.length_cons]; show 2 + _ = _; omega
theorem dyn_most {nS nD j : Nat} {T : List Nat} {ps : List Pt} (h1 : ∀ x ∈ T, x ≤ 7) (h2 : ∀ p ∈ ps, p.2.1 ≤ 7) (h3 : ps.length ≤ 316) : (cat (dynI nS nD T j ps)).1 ≤ 10000 := by
  have hl : (dynI nS nD T j ps).length ≤ 1000 := by
    unfold dynI tellI headI
    rw [List.length_append, List.length_append, parts_len]
    simp only [List.length_cons, List.length_nil, List.length_map, List.length_take]
    have : Nat.min j infnum.order.length ≤ 19 := Nat.min_le_right _ _
    have : min j infnum.order.length ≤ 19 := Nat.min_le_right _ _
    omega
  have hc := cat_len 7 (dynI nS nD T j ps) (fun x hx => by
    unfold dynI tellI headI at hx
    rcases List.mem_append.1 hx with hx | hx
    · rcases List.mem_cons.1 hx with rfl | hx
      · show 5 ≤ 7; decide
      · rw [List.mem_singleton] at hx; subst hx; show 5 ≤ 7; decide
    · rcases List.mem_append.1 hx with hx | hx
      · rcases List.mem_cons.1 hx with rfl | hx
        · show 4 ≤ 7; decide
        · obtain ⟨s, _, rfl⟩ := List.mem_map.1 hx
          show 3 ≤ 7; decide
      · obtain ⟨p, hp, hx⟩ := List.mem_flatMap.1 hx
        unfold partI at hx
        rcases List.mem_cons.1 hx with rfl | hx
        · exact Nat.le_trans (Fs_getD T p.1) (getD_most h1 _)
        · rw [List.mem_singleton] at hx; subst hx; exact h2 p hp)
  omega
/-- what was packed, and how much it is -/
def Packed (b p : List UInt8) (m : Nat) : Prop := p.length = m ∧ Unp p b m ∧ 1 ≤ m ∧ m ≤ 16777216
set_option maxRecDepth 100000 in
theorem pack_bad (A : Option Addr) (n c : Nat) (how : Int) (w : World) (hh : how < 0 ∨ 2 < how) :
    Calls Tryz.prog 6 #[.slice A n c, .int .i64 how] w fun e w' => e = .returned (.tuple #[.slice none 0 0, .int .i64 1]) ∧ w = w' := by
  rcases hh with h | h
  · go_enter Tryz.func6, Tryz.ntmps6
    go_wp2
    go_ret2
    exact ⟨rfl, rfl⟩
  · have h0 : decide (how < 0) = false := by rw [decide_eq_false_iff_not]; omega
    go_enter Tryz.func6, Tryz.ntmps6
    go_wp2
    go_ret2
    exact ⟨rfl, rfl⟩
theorem pack_any (A : Option Addr) (n c : Nat) (b : List UInt8) (how : Int) (w : World) (B : Nat) (hr : Rd w B A n (b.map bv)) (hB : B ≤ w.heap.size) (hn : n ≤ 5000) (hc : n ≤ c) (hcm : c ≤ maxLen) (hO : OrdD w) (h0 : 0 ≤ how) (h2 : how ≤ 2) :
    Calls Tryz.prog 6 #[.slice A n c, .int .i64 how] w fun e w' => ∃ A1 m c1 p, e = .returned (.tuple #[.slice A1 m c1, .int .i64 0]) ∧ Packed b p m ∧ Own w' w.heap.size 5 A1 m c1 (p.map bv) ∧ Fresh w w' := by
  have hl : b.length = n := by have := hr.1; rwa [List.length_map] at this
  have hg : 0 < w.heap.size := World.block_lt_of_cell? w _ (hO 0 16 rfl)
  have h3 : how = 0 ∨ how = 1 ∨ how = 2 := by omega
  rcases h3 with rfl | rfl | rfl
  · refine (pack_stored A n c b w B hr hB (by omega) hc hcm).mono ?_
    rintro e w' ⟨A1, m, c1, rfl, hm, ho, hf⟩
    have hch : chop n b = infnum.stored true b := chop_small n (by omega)
    have hu := stored_back (b := b) (by omega)
    have hle := chop_len n b
    have hsl : (infnum.stored true b).length = b.length + 5 := by simp [infnum.stored, infnum.ahead] <;> omega
    rw [hch] at hm ho
    rw [hm] at hu hsl
    exact ⟨A1, m, c1, _, rfl, ⟨hm, hu, by omega, by omega⟩, ho, hf⟩
  · refine (pack_fixed A n c b w B hr hB (by omega)).mono ?_
    rintro e w' ⟨A1, c1, l, rfl, hs, ho, hf⟩
    have hle := bytesF_few hs
    have h1 : 1 ≤ bytesF l := by unfold bytesF; omega
    exact ⟨A1, _, c1, _, rfl, ⟨low_length _ _, fixed_back hs hl.symm, h1, by omega⟩, ho, hf⟩
  · refine (pack_dynamic A n c b w B hr hB (by omega) hO hg).mono ?_
    rintro e w' ⟨A1, c1, l, TS, TD, nS, nD, T, j, ps, rfl, hs, ht, ho, hf⟩
    have hfew := hs.few
    have h15 : ∀ x ∈ TS ++ TD, x ≤ 15 := fun x hx => (List.mem_append.1 hx).elim (ht.fs.2 x) (ht.fd.2 x)
    have hd := dyn_most (nS := nS) (nD := nD) (j := j) ht.t7 (fun p hp => (ht.pa.each h15 p hp).2.1) (by have := ht.pa.le.2; have := ht.s2; have := ht.d2; omega)
    have ho2 := outs_most ht.fs.2 ht.fd.2 (fun s h => (hs.ok s h).1)
    rw [List.length_append, List.length_singleton] at ho2
    have h1 : 1 ≤ bytesD (l ++ [(256, 0)]) TS TD nS nD T j ps ∧ bytesD (l ++ [(256, 0)]) TS TD nS nD T j ps ≤ 16777216 := by unfold bytesD; omega
    exact ⟨A1, _, c1, _, rfl, ⟨low_length _ _, told_back hs hl.symm ht, h1.1, h1.2⟩, ho, hf⟩
end Go.Proofs.YtppgceighgpgoaaGreatDoor.defp
