import Derived.Test.YtppgceighgpgoaaGreatDoorDefAny
/-
  What a way of packing makes of bytes is one thing; Pack in any way, again. My own text.
-/
namespace Go.Proofs.YtppgceighgpgoaaGreatDoor.defp
open Go.RowKit Go.Maps Go.Proofs.YtppgceighgpgoaaGreatDoor.base Go.Proofs.YtppgceighgpgoaaGreatDoor.num Go.Proofs.YtppgceighgpgoaaGreatDoor.bitnum Go.Proofs.YtppgceighgpgoaaGreatDoor.bitp Go.Proofs.YtppgceighgpgoaaGreatDoor.huffnum Go.Proofs.YtppgceighgpgoaaGreatDoor.huffp Go.Proofs.YtppgceighgpgoaaGreatDoor.infnum Go.Proofs.YtppgceighgpgoaaGreatDoor.infp
set_option linter.unusedVariables false
/-- what such a way makes of these bytes -/
def Way (b : List UInt8) (how : Nat) (p : List UInt8) : Prop :=
  (how = 0 ∧ p = infnum.stored true b) ∨ (how = 1 ∧ ∃ l, St b b.length l ∧ p = low (bytesF l) (numF l)) ∨
  (how = 2 ∧ ∃ (l : List (Nat × Nat)) (TS TD : List Nat) (nS nD : Nat) (T : List Nat) (j : Nat) (ps : List Pt), St b b.length l ∧ Told (l ++ [(256, 0)]) TS TD nS nD T j ps ∧ p = low (bytesD (l ++ [(256, 0)]) TS TD nS nD T j ps) (numD (l ++ [(256, 0)]) TS TD nS nD T j ps))
theorem Way.uniq {b p p' : List UInt8} {k : Nat} (h : Way b k p) (h' : Way b k p') : p = p' := by
  rcases h with ⟨h0, rfl⟩ | ⟨h0, l, hs, rfl⟩ | ⟨h0, l, TS, TD, nS, nD, T, j, ps, hs, ht, rfl⟩
  · rcases h' with ⟨_, rfl⟩ | ⟨h1, _⟩ | ⟨h1, _⟩
    · rfl
    · omega
    · omega
  · rcases h' with ⟨h1, _⟩ | ⟨_, l', hs', rfl⟩ | ⟨h1, _⟩
    · omega
    · rw [hs.uniq hs']
    · omega
  · rcases h' with ⟨h1, _⟩ | ⟨h1, _⟩ | ⟨_, l', TS', TD', nS', nD', T', j', ps', hs', ht', rfl⟩
    · omega
    · omega
    · obtain rfl := hs.uniq hs'
      obtain ⟨rfl, rfl, rfl, rfl, rfl, rfl, rfl⟩ := ht.uniq ht'
      rfl
theorem Way.packed {b p : List UInt8} {k : Nat} (h : Way b k p) (hn : b.length ≤ 5000) : Packed b p p.length := by
  rcases h with ⟨_, rfl⟩ | ⟨_, l, hs, rfl⟩ | ⟨_, l, TS, TD, nS, nD, T, j, ps, hs, ht, rfl⟩
  · have hu := stored_back (b := b) (by omega)
    have hsl : (infnum.stored true b).length = b.length + 5 := by simp [infnum.stored, infnum.ahead] <;> omega
    exact ⟨rfl, hu, by omega, by omega⟩
  · have hle := bytesF_few hs
    have h1 : 1 ≤ bytesF l := by unfold bytesF; omega
    rw [low_length]
    exact ⟨low_length _ _, fixed_back hs rfl, h1, by omega⟩
  · have hfew := hs.few
    have h15 : ∀ x ∈ TS ++ TD, x ≤ 15 := fun x hx => (List.mem_append.1 hx).elim (ht.fs.2 x) (ht.fd.2 x)
    have hd := dyn_most (nS := nS) (nD := nD) (j := j) ht.t7 (fun p hp => (ht.pa.each h15 p hp).2.1) (by have := ht.pa.le.2; have := ht.s2; have := ht.d2; omega)
    have ho2 := outs_most ht.fs.2 ht.fd.2 (fun s h => (hs.ok s h).1)
    rw [List.length_append, List.length_singleton] at ho2
    have h1 : 1 ≤ bytesD (l ++ [(256, 0)]) TS TD nS nD T j ps ∧ bytesD (l ++ [(256, 0)]) TS TD nS nD T j ps ≤ 16777216 := by unfold bytesD; omega
    rw [low_length]
    exact ⟨low_length _ _, told_back hs rfl ht, h1.1, h1.2⟩
theorem pack_way (A : Option Addr) (n c : Nat) (b : List UInt8) (k : Nat) (w : World) (B : Nat) (hr : Rd w B A n (b.map bv)) (hB : B ≤ w.heap.size) (hn : n ≤ 5000) (hc : n ≤ c) (hcm : c ≤ maxLen) (hO : OrdD w) (h2 : k ≤ 2) :
    Calls Tryz.prog 6 #[.slice A n c, .int .i64 (k : Nat)] w fun e w' => ∃ A1 m c1 p, e = .returned (.tuple #[.slice A1 m c1, .int .i64 0]) ∧ Way b k p ∧ p.length = m ∧ Own w' w.heap.size 5 A1 m c1 (p.map bv) ∧ Fresh w w' := by
  have hl : b.length = n := by have := hr.1; rwa [List.length_map] at this
  have hg : 0 < w.heap.size := World.block_lt_of_cell? w _ (hO 0 16 rfl)
  have h3 : k = 0 ∨ k = 1 ∨ k = 2 := by omega
  rcases h3 with rfl | rfl | rfl
  · refine (pack_stored A n c b w B hr hB (by omega) hc hcm).mono ?_
    rintro e w' ⟨A1, m, c1, rfl, hm, ho, hf⟩
    have hch : chop n b = infnum.stored true b := chop_small n (by omega)
    rw [hch] at hm ho
    exact ⟨A1, m, c1, _, rfl, .inl ⟨rfl, rfl⟩, hm, ho, hf⟩
  · refine (pack_fixed A n c b w B hr hB (by omega)).mono ?_
    rintro e w' ⟨A1, c1, l, rfl, hs, ho, hf⟩
    exact ⟨A1, _, c1, _, rfl, .inr (.inl ⟨rfl, l, by rw [hl]; exact hs, rfl⟩), low_length _ _, ho, hf⟩
  · refine (pack_dynamic A n c b w B hr hB (by omega) hO hg).mono ?_
    rintro e w' ⟨A1, c1, l, TS, TD, nS, nD, T, j, ps, rfl, hs, ht, ho, hf⟩
    exact ⟨A1, _, c1, _, rfl, .inr (.inr ⟨rfl, l, TS, TD, nS, nD, T, j, ps, by rw [hl]; exact hs, ht, rfl⟩), low_length _ _, ho, hf⟩
end Go.Proofs.YtppgceighgpgoaaGreatDoor.defp
