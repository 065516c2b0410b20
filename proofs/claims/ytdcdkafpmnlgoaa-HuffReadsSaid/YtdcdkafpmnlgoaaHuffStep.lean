/-
  What comes next, by the program and by the reference, way by way. My own text.
-/
import Derived.Test.YtdcdkafpmnlgoaaHuffRef2
import Derived.Test.YtdcdkafpmnlgoaaBitsRef
namespace Go.Proofs.Ytdcdkafpmnlgoaa.huffp
open Go.RowKit Go.Proofs.Ytdcdkafpmnlgoaa.base Go.Proofs.Ytdcdkafpmnlgoaa.num Go.Proofs.Ytdcdkafpmnlgoaa.bitnum Go.Proofs.Ytdcdkafpmnlgoaa.bitp Go.Proofs.Ytdcdkafpmnlgoaa.huffnum
set_option linter.unusedVariables false

theorem level_uniq {ls : List Nat} {t n n' : Nat} (h1 : 1 ≤ n) (h15 : n ≤ 15) (hlo : tx ls (n - 1) ≤ t) (hhi : t < tx ls n) (h1' : 1 ≤ n') (h15' : n' ≤ 15) (hlo' : tx ls (n' - 1) ≤ t) (hhi' : t < tx ls n') : n = n' := by
  rcases Nat.lt_trichotomy n n' with h | h | h
  · have := tx_le ls (m := n) (n := n' - 1) (by omega) (by omega); omega
  · exact h
  · have := tx_le ls (m := n') (n := n - 1) (by omega) (by omega); omega
theorem bg_iff {ls : List Nat} {N many U s n : Nat} (hm : many = min 15 N) (hn : n ≤ 15) : Bg ls N U s n ↔ Begins ls many U s n := by
  unfold Bg Begins
  rw [show min n many = min n N by omega]

section
variable (g q p many N U t : Nat) (ls bl rl : List Nat) (bs : List UInt8) (w : World) (h : CodeAt w g ls bl) (hR : RdrAt w q bs p rl) (hp : p ≤ 8 * bs.length) (hn : bs.length ≤ 1099511627776)
  (hoff : ∀ b ∈ bl, b ∉ rl) (hN : 8 * bs.length - p = N) (hmany : many = min 15 N) (hU : U = num bs / 2 ^ p) (hw : Nxt ls many U t)
include h hR hp hn hoff hN hmany hU hw
theorem next_data (hd : tx ls 15 ≤ t) : Calls Try.prog 14 #[.pointer (some ⟨g, 0, none⟩), ptr q] w fun e w' => e = .returned (.tuple #[.int .i64 0, .int .i64 12]) ∧ RdrIs w q bs p rl w' := by
  refine (next_any g q p many U t ls bl rl bs w h hR hp hn hoff (by rw [hN]; exact hmany) hU hw).mono ?_
  rintro e w' (⟨_, he, hf⟩ | ⟨n, h1, h15, _, hhi, _⟩ | ⟨n, s, h1, h15, _, hhi, _⟩)
  · exact ⟨he, rl, hR.fresh hf, Turn.fresh hf⟩
  · have := tx_le ls h15 (Nat.le_refl 15); omega
  · have := tx_le ls h15 (Nat.le_refl 15); omega
theorem next_end {n : Nat} (h1 : 1 ≤ n) (h15 : n ≤ 15) (hlo : tx ls (n - 1) ≤ t) (hhi : t < tx ls n) (hlt : many < n) : Calls Try.prog 14 #[.pointer (some ⟨g, 0, none⟩), ptr q] w fun e w' => e = .returned (.tuple #[.int .i64 0, .int .i64 3]) ∧ RdrIs w q bs p rl w' := by
  refine (next_any g q p many U t ls bl rl bs w h hR hp hn hoff (by rw [hN]; exact hmany) hU hw).mono ?_
  rintro e w' (⟨hd, _⟩ | ⟨n', _, _, _, _, _, he, hf⟩ | ⟨n', s, h1', h15', hlo', hhi', hle, _⟩)
  · have := tx_le ls h15 (Nat.le_refl 15); omega
  · exact ⟨he, rl, hR.fresh hf, Turn.fresh hf⟩
  · have := level_uniq h1 h15 hlo hhi h1' h15' hlo' hhi'; omega
theorem next_ok {n s : Nat} (h1 : 1 ≤ n) (h15 : n ≤ 15) (hlo : tx ls (n - 1) ≤ t) (hhi : t < tx ls n) (hle : n ≤ many) (hs : (syms ls n)[(t - tx ls (n - 1)) / 2 ^ (15 - n)]? = some s) : Calls Try.prog 14 #[.pointer (some ⟨g, 0, none⟩), ptr q] w fun e w' => e = .returned (.tuple #[.int .i64 (s : Nat), .int .i64 0]) ∧ RdrIs w q bs (p + n) rl w' := by
  refine (next_any g q p many U t ls bl rl bs w h hR hp hn hoff (by rw [hN]; exact hmany) hU hw).mono ?_
  rintro e w' (⟨hd, _⟩ | ⟨n', h1', h15', hlo', hhi', hlt, _⟩ | ⟨n', s', h1', h15', hlo', hhi', _, hs', he, hR'⟩)
  · have := tx_le ls h15 (Nat.le_refl 15); omega
  · have := level_uniq h1 h15 hlo hhi h1' h15' hlo' hhi'; omega
  · have := level_uniq h1 h15 hlo hhi h1' h15' hlo' hhi'
    subst this
    rw [hs] at hs'
    injection hs' with hs'
    subst hs'
    exact ⟨he, hR'⟩
end
section
variable (L n F : Nat) (ls : List Nat) (R : Nat → Sl) (A : Option Addr) (N c U many t : Nat) (w : World) (B : Nat) (hB : Bits w L ls R 16 0) (hr : Rd w B A N (nv (lb N U))) (hBw : B ≤ w.heap.size) (hN : N ≤ 65536) (hn : ls.length = n) (hn4 : n ≤ 320) (h15 : ∀ m ∈ ls, m ≤ 15)
  (hmany : many = min 15 N) (hw : Nxt ls many U t)
include hB hr hBw hN hn hn4 h15 hmany hw
theorem refNext_data (hd : tx ls 15 ≤ t) : Calls Try.prog 15 #[.agg #[.slice (some ⟨L, 0, none⟩) n n, .int .i64 (F : Nat)], .slice A N c] w fun e w' => e = .returned (.agg #[.int .i64 0, .int .i64 0, .int .i64 12]) ∧ Fresh w w' := by
  refine (refNext_any L n F ls R A N c U w B hB hr hBw hN hn hn4 h15).mono ?_
  rintro e w' ⟨hf, (⟨s, m, hs, h1, hb, _⟩ | ⟨⟨s, m, hs, h1, hb⟩, _⟩ | ⟨_, he⟩)⟩
  · exact absurd ((bg_iff hmany (h15 m (List.mem_of_getElem? hs))).1 hb) (hw.data hd hs h1)
  · exact absurd ((bg_iff hmany (h15 m (List.mem_of_getElem? hs))).1 hb) (hw.data hd hs h1)
  · exact ⟨he, hf⟩
theorem refNext_end {k : Nat} (h1 : 1 ≤ k) (hk15 : k ≤ 15) (hlo : tx ls (k - 1) ≤ t) (hhi : t < tx ls k) (hlt : many < k) : Calls Try.prog 15 #[.agg #[.slice (some ⟨L, 0, none⟩) n n, .int .i64 (F : Nat)], .slice A N c] w fun e w' => e = .returned (.agg #[.int .i64 0, .int .i64 0, .int .i64 3]) ∧ Fresh w w' := by
  obtain ⟨⟨s0, hs0, hb0⟩, hall⟩ := hw.ends h1 hk15 hlo hhi hlt
  refine (refNext_any L n F ls R A N c U w B hB hr hBw hN hn hn4 h15).mono ?_
  rintro e w' ⟨hf, (⟨s, m, hs, hm1, hb, hle, _⟩ | ⟨_, _, he⟩ | ⟨h, _⟩)⟩
  · have hm := h15 m (List.mem_of_getElem? hs)
    have := hall s m hs hm1 ((bg_iff hmany hm).1 hb)
    omega
  · exact ⟨he, hf⟩
  · exact absurd ((bg_iff hmany hk15).2 hb0) (h s0 k hs0 h1)
theorem refNext_ok {k s : Nat} (h1 : 1 ≤ k) (hk15 : k ≤ 15) (hlo : tx ls (k - 1) ≤ t) (hhi : t < tx ls k) (hle : k ≤ many) (hs : (syms ls k)[(t - tx ls (k - 1)) / 2 ^ (15 - k)]? = some s) : Calls Try.prog 15 #[.agg #[.slice (some ⟨L, 0, none⟩) n n, .int .i64 (F : Nat)], .slice A N c] w fun e w' => e = .returned (.agg #[.int .i64 (s : Nat), .int .i64 (k : Nat), .int .i64 0]) ∧ Fresh w w' := by
  obtain ⟨s0, hg, hs0, hb0, huniq⟩ := hw.comes h1 hk15 hlo hhi hle
  rw [hs] at hg
  injection hg with hg
  subst hg
  refine (refNext_any L n F ls R A N c U w B hB hr hBw hN hn hn4 h15).mono ?_
  rintro e w' ⟨hf, (⟨s', m, hs', hm1, hb, hmN, he⟩ | ⟨_, h, _⟩ | ⟨h, _⟩)⟩
  · have hm := h15 m (List.mem_of_getElem? hs')
    have hss := huniq s' m hs' hm1 (by omega) ((bg_iff hmany hm).1 hb)
    subst hss
    rw [hs0] at hs'
    injection hs' with hs'
    subst hs'
    exact ⟨he, hf⟩
  · have := h s k hs0 h1 ((bg_iff hmany hk15).2 hb0); omega
  · exact absurd ((bg_iff hmany hk15).2 hb0) (h s k hs0 h1)
end

/-- a slice that lies in block b and reads as xs -/
def RdB (w : World) (b : Nat) (A : Option Addr) (n : Nat) (xs : List Value) : Prop := xs.length = n ∧ (0 < n → ∃ off, A = some ⟨b, off, none⟩ ∧ ∀ j u, xs[j]? = some u → w.cell? ⟨b, off + j, none⟩ = some u)
theorem RdB.keep {w w' : World} {b n : Nat} {A : Option Addr} {xs : List Value} (h : RdB w b A n xs) (hk : w'.heap[b]? = w.heap[b]?) : RdB w' b A n xs :=
  ⟨h.1, fun hn => by
    obtain ⟨off, e, hc⟩ := h.2 hn
    exact ⟨off, e, fun j u hu => (World.cell?_of_block hk).trans (hc j u hu)⟩⟩
theorem RdB.rd {w : World} {b n : Nat} {A : Option Addr} {xs : List Value} (h : RdB w b A n xs) (hb : b < w.heap.size) : Rd w w.heap.size A n xs :=
  ⟨h.1, fun hn => by
    obtain ⟨off, e, hc⟩ := h.2 hn
    exact ⟨b, off, e, hb, hc⟩⟩
theorem RdB.cut {w : World} {b n : Nat} {A : Option Addr} {xs : List Value} (h : RdB w b A n xs) {lo cap : Nat} (h1 : lo ≤ n) (hc : n ≤ cap) : RdB w b (if cap = lo then A else A.map (·.add lo)) (n - lo) (xs.drop lo) := by
  refine ⟨by rw [List.length_drop, h.1], fun hn => ?_⟩
  obtain ⟨off, rfl, hcell⟩ := h.2 (by omega)
  rw [if_neg (by omega)]
  refine ⟨off + lo, ?_, fun j u hu => ?_⟩
  · simp only [Option.map_some, Option.some.injEq]
    unfold Addr.add
    split
    · subst lo; rfl
    · rfl
  · rw [List.getElem?_drop] at hu
    have := hcell _ u hu
    rwa [← Nat.add_assoc] at this
theorem Own.rdb {w : World} {base : Nat} {e : TypeId} {A : Option Addr} {n c : Nat} {xs : List Value} (h : Own w base e A n c xs) (b0 : Nat) (hb0 : b0 < w.heap.size) : ∃ b, (b = b0 ∨ base ≤ b) ∧ b < w.heap.size ∧ RdB w b A n xs := by
  by_cases hn : 0 < n
  · obtain ⟨g, cap, hv, hb, hlt⟩ := World.ownsRow.form h hn
    injection hv with hA _ _
    subst hA
    refine ⟨g, .inr hb, hlt, by simpa using h.1, fun _ => ⟨0, rfl, fun j u hu => ?_⟩⟩
    have := World.ownsRow.cells h (g := g) rfl j u hu
    have hadd : (⟨g, 0, none⟩ : Addr).add j = ⟨g, 0 + j, none⟩ := by unfold Addr.add; split <;> simp_all
    rwa [hadd] at this
  · exact ⟨b0, .inl rfl, hb0, by simpa using h.1, fun h' => absurd h' hn⟩
theorem nv_drop (N k U : Nat) (h : k ≤ N) : (nv (lb N U)).drop k = nv (lb (N - k) (U / 2 ^ k)) := by
  rw [nv, ← List.map_drop]
  have := lb_cut (m := N) (N := U) (p := k) (n := N - k) (by omega)
  rw [List.take_of_length_le (by rw [List.length_drop, lb_len]; omega)] at this
  rw [this]
end Go.Proofs.Ytdcdkafpmnlgoaa.huffp
