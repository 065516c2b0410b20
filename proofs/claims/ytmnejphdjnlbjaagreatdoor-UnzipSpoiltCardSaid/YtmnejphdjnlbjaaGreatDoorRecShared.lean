/-
  record's getShared, begun: my own text.
-/
import Derived.Test.YtmnejphdjnlbjaaGreatDoorRecWide
namespace Go.Proofs.YtmnejphdjnlbjaaGreatDoor.recp
open Go.RowKit Go.Proofs.YtmnejphdjnlbjaaGreatDoor.base Go.Proofs.YtmnejphdjnlbjaaGreatDoor.num Go.Proofs.YtmnejphdjnlbjaaGreatDoor.word Go.Proofs.YtmnejphdjnlbjaaGreatDoor.recn
set_option linter.unusedVariables false
abbrev tHead : TypeId := 52
/-- get, behind the making of its row of pointers -/
theorem get_row (A : Option Addr) (n c k : Nat) (xs : List UInt8) (ps : List Addr) (S : List Nat) (m g0 : Nat) (w : World) (hr : RdA w S A n (xs.map bv)) (hc : n ≤ c) (hm : c ≤ maxLen) (hn : n ≤ 1099511627776) (hk : k = 2 ∨ k = 4)
    (hl : ps.length = m) (hg0 : g0 = w.heap.size) (hp : ∀ p ∈ ps, p.block ∈ S ∧ Wr w p) (hS : ∀ i ∈ S, i < w.heap.size) (hfit : m * k ≤ n) :
    Calls Tryz.prog 38 #[.slice A n c, .int .i64 k, .slice (some ⟨g0, 0, none⟩) m m] (w.alloc (.cells (ps.map ptrA).toArray tPtr)) (Got S (sets (w.alloc (.cells (ps.map ptrA).toArray tPtr)) (gets k xs ps)) (n - m * k) (xs.drop (m * k))) := by
  subst hg0
  have hf := Fresh.alloc w (.cells (ps.map ptrA).toArray tPtr)
  have hl2 := RdA.lit (S := S) w (ps.map ptrA).toArray tPtr hS
  rw [show (ps.map ptrA).toArray.size = m from by simp [hl]] at hl2
  exact get_any A n c k xs _ m m ps S _ (hr.fresh hf) hc hm hn hk hl2 (fun p h => ⟨(hp p h).1, (hp p h).2.fresh hf⟩) hfit
theorem getWide_row (A : Option Addr) (n c : Nat) (xs : List UInt8) (ps : List Addr) (S : List Nat) (m g0 : Nat) (w : World) (hr : RdA w S A n (xs.map bv)) (hc : n ≤ c) (hm : c ≤ maxLen) (hn : n ≤ 1099511627776)
    (hl : ps.length = m) (hg0 : g0 = w.heap.size) (hp : ∀ p ∈ ps, p.block ∈ S ∧ Wr w p) (hS : ∀ i ∈ S, i < w.heap.size) (hfit : m * 8 ≤ n) :
    Calls Tryz.prog 42 #[.slice A n c, .slice (some ⟨g0, 0, none⟩) m m] (w.alloc (.cells (ps.map ptrA).toArray tPtr)) (Got S (sets (w.alloc (.cells (ps.map ptrA).toArray tPtr)) (getsW xs ps)) (n - m * 8) (xs.drop (m * 8))) := by
  subst hg0
  have hf := Fresh.alloc w (.cells (ps.map ptrA).toArray tPtr)
  have hl2 := RdA.lit (S := S) w (ps.map ptrA).toArray tPtr hS
  rw [show (ps.map ptrA).toArray.size = m from by simp [hl]] at hl2
  exact getWide_any A n c xs _ m m ps S _ (hr.fresh hf) hc hm hn hl2 (fun p h => ⟨(hp p h).1, (hp p h).2.fresh hf⟩) (fun i hi => Nat.lt_of_lt_of_le (hS i hi) hf.size) hfit
/-- of what was there just T has turned -/
theorem turn_of {T : List Nat} {w w1 w' : World} {l : List (Addr × Value)} (hf : Fresh w w1) (h : Fresh (sets w1 l) w') (hT : ∀ x ∈ l, x.1.block ∈ T) : Turn T T w w' :=
  ((Turn.fresh hf).trans (sets_turn w1 l hT)).trans (Turn.fresh h)
theorem wrap_u32 (z : Nat) (h : z ≤ 4294967295) : IntKind.u32.wrap (z : Int) = (z : Int) := by
  simp [IntKind.wrap, IntKind.signed, IntKind.bits]; omega
/-- what local and central heads have alike -/
def SharedIs (g a b : Nat) (S : List Nat) (xs : List UInt8) (n : Nat) (x6 x7 x8 : Value) (w : World) (e : Ending) (w' : World) : Prop :=
  ∃ A' c', e = .returned (.slice A' (n - 24) c') ∧ n - 24 ≤ c' ∧ c' ≤ maxLen ∧ RdA w' S A' (n - 24) ((xs.drop 24).map bv) ∧ Turn [g, a, b] [g, a, b] w w' ∧
    Bk w' g tHead [iv (nm xs 0 2 : Nat), iv (nm xs 2 2 : Nat), iv (nm xs 4 4 : Nat), .int .u32 (nm xs 8 4 : Nat), iv (nm xs 12 4 : Nat), iv (nm xs 16 4 : Nat), x6, x7, x8] ∧
    Bk w' a tInt [iv (nm xs 20 2 : Nat)] ∧ Bk w' b tInt [iv (nm xs 22 2 : Nat)]
set_option maxHeartbeats 4000000 in
theorem getShared_any (A : Option Addr) (n c : Nat) (xs : List UInt8) (g a b : Nat) (S : List Nat) (x0 x1 x2 x3 x4 x5 x6 x7 x8 u v : Value) (w : World) (hr : RdA w S A n (xs.map bv)) (hc : n ≤ c) (hm : c ≤ maxLen) (hn : n ≤ 1099511627776)
    (hg : Bk w g tHead [x0, x1, x2, x3, x4, x5, x6, x7, x8]) (ha : Bk w a tInt [u]) (hb : Bk w b tInt [v]) (hab : a ≠ b) (hgS : g ∈ S) (haS : a ∈ S) (hbS : b ∈ S) (hS : ∀ i ∈ S, i < w.heap.size) (hfit : 24 ≤ n) :
    Calls Tryz.prog 43 #[.slice A n c, ptr g, ptr a, ptr b] w (SharedIs g a b S xs n x6 x7 x8 w) := by
  have hga : g ≠ a := hg.ne ha (by decide)
  have hgb : g ≠ b := hg.ne hb (by decide)
  obtain ⟨q, hq⟩ : ∃ q, w.heap.size = q := ⟨_, rfl⟩
  have hf0 := Fresh.alloc w (.cells #[.int .i64 0] tInt)
  have hqk := Bk.made w tInt #[.int .i64 0]
  have hsz0 : (w.alloc (.cells #[.int .i64 0] tInt)).heap.size = q + 1 := by simp [hq]
  rw [hq] at hqk
  have hqg : q ≠ g := by have := hg.inside; omega
  have hqa : q ≠ a := by have := ha.inside; omega
  have hqb : q ≠ b := by have := hb.inside; omega
  have hqS : q ∉ S := fun h => by have := hS q h; omega
  have hS1 : ∀ i ∈ q :: S, i < (w.alloc (.cells #[.int .i64 0] tInt)).heap.size := by
    intro i hi
    rw [hsz0]
    rcases List.mem_cons.1 hi with rfl | hi
    · omega
    · have := hS i hi; omega
  have hr0 : RdA (w.alloc (.cells #[.int .i64 0] tInt)) (q :: S) A n (xs.map bv) := (hr.more (R := [q]) (by intro i hi; simp at hi; omega)).fresh hf0
  have hg0 := hg.fresh hf0
  have ha0 := ha.fresh hf0
  have hb0 := hb.fresh hf0
  have HR := Lib.hid hr0
  have HG := Lib.hid hg0
  have HA := Lib.hid ha0
  have HB := Lib.hid hb0
  have HQ := Lib.hid hqk
  have HS1 := Lib.hid hS1
  have HF0 := Lib.hid hf0
  have HSZ := Lib.hid hsz0
  have HMAX : RowKit.Hid (c ≤ maxLen) := hm
  clear hr hg ha hb hS hf0 hqk hS1 hr0 hg0 ha0 hb0 hsz0 hm
  have HQE := Lib.hid hq
  clear hq
  go_enter Tryz.func43, Tryz.ntmps43
  go_wp2
  have hq := HQE.out
  subst hq
  have H1 := Lib.hid (Fresh.alloc w (.cells #[.int .i64 0] tInt))
  generalize w.alloc (.cells #[.int .i64 0] tInt) = W1 at *
  have hw0 : ∀ p ∈ [(⟨g, 0, none⟩ : Addr), ⟨g, 1, none⟩], p.block ∈ w.heap.size :: S ∧ Wr W1.drew p := by
    intro p hp
    simp only [List.mem_cons, List.not_mem_nil, or_false] at hp
    have hk := HG.out.fresh (Fresh.drew W1)
    rcases hp with rfl | rfl
    · exact ⟨by simp [hgS], hk.wr (by simp)⟩
    · exact ⟨by simp [hgS], hk.wr (by simp)⟩
  have HW0 := Lib.hid hw0
  clear hw0
  go_region_held3 (fun w' => True) (exact trivial)
    (first
    | (go_at_call 38; (refine (get_row A n c 2 xs [⟨g, 0, none⟩, ⟨g, 1, none⟩] (w.heap.size :: S) 2 _ W1.drew (HR.out.fresh (Fresh.drew _)) hc HMAX.out hn (.inl rfl) rfl rfl HW0.out HS1.out (by omega)).mono ?_); rintro e w2 ⟨A2, c2, rfl, hc2, hm2, hf2, hr2⟩; have HF2 := Lib.hid hf2; have HR2 := Lib.hid hr2; have HM2 := Lib.hid hm2; clear hf2 hr2 hm2))
  have hT2 : Turn [g] [g] W1 w2 := turn_of ((Fresh.drew W1).trans (Fresh.alloc _ _)) HF2.out (by intro x hx; simp [gets] at hx; rcases hx with rfl | rfl <;> simp)
  have hG2 : Bk w2 g tHead [iv (nm xs 0 2 : Nat), iv (nm xs 2 2 : Nat), x2, x3, x4, x5, x6, x7, x8] := ((((HG.out.fresh (Fresh.drew W1)).alloc _).put 0 _).put 1 _).fresh HF2.out
  have hQ2 := HQ.out.turn hT2 (by simp [hqg])
  have hA2 := HA.out.turn hT2 (by simp [Ne.symm hga])
  have hB2 := HB.out.turn hT2 (by simp [Ne.symm hgb])
  have hS2 : ∀ i ∈ w.heap.size :: S, i < w2.heap.size := fun i hi => Nat.lt_of_lt_of_le (HS1.out i hi) hT2.size
  have hw2 : ∀ p ∈ [(⟨g, 2, none⟩ : Addr), ⟨w.heap.size, 0, none⟩, ⟨g, 4, none⟩, ⟨g, 5, none⟩], p.block ∈ w.heap.size :: S ∧ Wr w2.drew p := by
    intro p hp
    simp only [List.mem_cons, List.not_mem_nil, or_false] at hp
    have hk := hG2.fresh (Fresh.drew w2)
    rcases hp with rfl | rfl | rfl | rfl
    · exact ⟨by simp [hgS], hk.wr (by simp)⟩
    · exact ⟨by simp, (hQ2.fresh (Fresh.drew w2)).wr (by simp)⟩
    · exact ⟨by simp [hgS], hk.wr (by simp)⟩
    · exact ⟨by simp [hgS], hk.wr (by simp)⟩
  have HT2 := Lib.hid hT2
  have HG2 := Lib.hid hG2
  have HQ2 := Lib.hid hQ2
  have HA2 := Lib.hid hA2
  have HB2 := Lib.hid hB2
  have HS2 := Lib.hid hS2
  have HW2 := Lib.hid hw2
  clear hT2 hG2 hQ2 hA2 hB2 hS2 hw2
  go_wp2
  go_region_held3 (fun w' => True) (exact trivial)
    (first
    | (go_at_call 38; (refine (get_row A2 (n - 2 * 2) c2 4 (xs.drop (2 * 2)) [⟨g, 2, none⟩, ⟨w.heap.size, 0, none⟩, ⟨g, 4, none⟩, ⟨g, 5, none⟩] (w.heap.size :: S) 4 _ w2.drew (HR2.out.fresh (Fresh.drew _)) hc2 HM2.out (by omega) (.inr rfl) rfl rfl HW2.out HS2.out (by omega)).mono ?_); rintro e w3 ⟨A3, c3, rfl, hc3, hm3, hf3, hr3⟩; have HF3 := Lib.hid hf3; have HR3 := Lib.hid hr3; have HM3 := Lib.hid hm3; clear hf3 hr3 hm3))
  have hT3 : Turn [g, w.heap.size] [g, w.heap.size] w2 w3 := turn_of ((Fresh.drew w2).trans (Fresh.alloc _ _)) HF3.out (by intro x hx; simp [gets] at hx; rcases hx with rfl | rfl | rfl | rfl <;> simp)
  have e1 : nm (xs.drop (2 * 2)) (0 * 4) 4 = nm xs 4 4 := nm_drop _ _ _ _
  have e2 : nm (xs.drop (2 * 2)) (1 * 4) 4 = nm xs 8 4 := nm_drop _ _ _ _
  have e3 : nm (xs.drop (2 * 2)) (2 * 4) 4 = nm xs 12 4 := nm_drop _ _ _ _
  have e4 : nm (xs.drop (2 * 2)) (3 * 4) 4 = nm xs 16 4 := nm_drop _ _ _ _
  have hG3 : Bk w3 g tHead [iv (nm xs 0 2 : Nat), iv (nm xs 2 2 : Nat), iv (nm xs 4 4 : Nat), x3, iv (nm xs 12 4 : Nat), iv (nm xs 16 4 : Nat), x6, x7, x8] := by
    rw [← e1, ← e3, ← e4]
    exact ((((((HG2.out.fresh (Fresh.drew w2)).alloc _).put 2 _).apart (p := ⟨w.heap.size, 0, none⟩) (Ne.symm hqg) _).put 4 _).put 5 _).fresh HF3.out
  have hQ3 : Bk w3 w.heap.size tInt [iv (nm xs 8 4 : Nat)] := by
    rw [← e2]
    exact ((((((HQ2.out.fresh (Fresh.drew w2)).alloc _).apart (p := ⟨g, 2, none⟩) hqg _).put 0 _).apart (p := ⟨g, 4, none⟩) hqg _).apart (p := ⟨g, 5, none⟩) hqg _).fresh HF3.out
  have hA3 := HA2.out.turn hT3 (by simp [Ne.symm hga, Ne.symm hqa])
  have hB3 := HB2.out.turn hT3 (by simp [Ne.symm hgb, Ne.symm hqb])
  have hS3 : ∀ i ∈ w.heap.size :: S, i < w3.heap.size := fun i hi => Nat.lt_of_lt_of_le (HS2.out i hi) hT3.size
  clear e1 e2 e3 e4
  have hcq : w3.cell? ⟨w.heap.size, 0, none⟩ = some (iv (nm xs 8 4 : Nat)) := hQ3.cell rfl
  have hc3' : w3.cell? ⟨g, 3, none⟩ = some x3 := hG3.cell rfl
  have hf3' := hG3.free 3
  have hwr : ((nm xs 8 4 : Nat) : Int) % 4294967296 = ((nm xs 8 4 : Nat) : Int) := by have := nm4 xs 8; omega
  have hG4 := hG3.put 3 (.int .u32 (nm xs 8 4 : Nat))
  have hA4 := hA3.apart (p := ⟨g, 3, none⟩) (Ne.symm hga) (.int .u32 (nm xs 8 4 : Nat))
  have hB4 := hB3.apart (p := ⟨g, 3, none⟩) (Ne.symm hgb) (.int .u32 (nm xs 8 4 : Nat))
  have hT4 := Turn.put (S := [g, w.heap.size]) (p := ⟨g, 3, none⟩) w3 (.int .u32 (nm xs 8 4 : Nat)) (by simp)
  have hR4 := HR3.out.turn (Turn.put (S := w.heap.size :: S) (p := ⟨g, 3, none⟩) w3 (.int .u32 (nm xs 8 4 : Nat)) (by simp [hgS]))
  have hS4 : ∀ i ∈ w.heap.size :: S, i < (w3.setCell ⟨g, 3, none⟩ (.int .u32 (nm xs 8 4 : Nat))).heap.size := fun i hi => Nat.lt_of_lt_of_le (hS3 i hi) hT4.size
  rw [List.drop_drop] at hR4
  have hw4 : ∀ p ∈ [(⟨a, 0, none⟩ : Addr), ⟨b, 0, none⟩], p.block ∈ w.heap.size :: S ∧ Wr (w3.setCell ⟨g, 3, none⟩ (.int .u32 (nm xs 8 4 : Nat))) p := by
    intro p hp
    simp only [List.mem_cons, List.not_mem_nil, or_false] at hp
    rcases hp with rfl | rfl
    · exact ⟨by simp [haS], hA4.wr (by simp)⟩
    · exact ⟨by simp [hbS], hB4.wr (by simp)⟩
  have HT4 := Lib.hid (hT3.trans hT4)
  have HG4 := Lib.hid hG4
  have HA4 := Lib.hid hA4
  have HB4 := Lib.hid hB4
  have HR4 := Lib.hid hR4
  have HS4 := Lib.hid hS4
  have HW4 := Lib.hid hw4
  clear hT3 hG3 hQ3 hA3 hB3 hS3 hG4 hA4 hB4 hT4 hR4 hS4 hw4
  have hget : Calls Tryz.prog 38 #[.slice A3 (n - 4 - 16) c3, .int .i64 2, .slice (some ⟨w3.heap.size, 0, none⟩) 2 2] ((w3.setCell ⟨g, 3, none⟩ (.int .u32 (nm xs 8 4 : Nat))).alloc (.cells #[ptr a, ptr b] tPtr)) (Got (w.heap.size :: S) (sets ((w3.setCell ⟨g, 3, none⟩ (.int .u32 (nm xs 8 4 : Nat))).alloc (.cells #[ptr a, ptr b] tPtr)) (gets 2 (xs.drop (2 * 2 + 4 * 4)) [⟨a, 0, none⟩, ⟨b, 0, none⟩])) (n - 24) ((xs.drop (2 * 2 + 4 * 4)).drop (2 * 2))) :=
    get_row A3 (n - 4 - 16) c3 2 (xs.drop (2 * 2 + 4 * 4)) [⟨a, 0, none⟩, ⟨b, 0, none⟩] (w.heap.size :: S) 2 _ (w3.setCell ⟨g, 3, none⟩ (.int .u32 (nm xs 8 4 : Nat))) HR4.out hc3 HM3.out (by omega) (.inl rfl) rfl (by simp [World.setCell]) HW4.out HS4.out (by omega)
  have HGET := Lib.hid hget
  clear hget
  go_wp2_with (go_at_call 38; ((with_reducible refine HGET.out.mono ?_); rintro e w5 ⟨A5, c5, rfl, hc5, hm5, hf5, hr5⟩; have HF5 := Lib.hid hf5; have HR5 := Lib.hid hr5; have HM5 := Lib.hid hm5; clear hf5 hr5 hm5))
  go_ret
  have f1 : nm (xs.drop (2 * 2 + 4 * 4)) (0 * 2) 2 = nm xs 20 2 := nm_drop _ _ _ _
  have f2 : nm (xs.drop (2 * 2 + 4 * 4)) (1 * 2) 2 = nm xs 22 2 := nm_drop _ _ _ _
  have hT5 : Turn [a, b] [a, b] (w3.setCell ⟨g, 3, none⟩ (.int .u32 (nm xs 8 4 : Nat))) w5 := turn_of (Fresh.alloc _ _) HF5.out (by intro x hx; simp [gets] at hx; rcases hx with rfl | rfl <;> simp)
  have hall := (((HT2.out.wide (T := [g, w.heap.size, a, b]) (by simp)).trans (HT4.out.wide (T := [g, w.heap.size, a, b]) (by simp))).trans (hT5.wide (T := [g, w.heap.size, a, b]) (by simp)))
  refine ⟨A5, c5, rfl, hc5, HM5.out, ?_, ?_, HG4.out.turn hT5 (by simp [hga, hgb]), ?_, ?_⟩
  · have := HR5.out.sub (T := S) (by simp +contextual)
    rw [List.drop_drop] at this
    exact this
  · have h1 := H1.out
    refine ⟨hall.os.trans h1.os, hall.tape.trans h1.tape, hall.output.trans h1.output, Nat.le_trans h1.size hall.size, fun k hk hkS => ?_, fun k hk => .inl hk⟩
    refine (hall.block k (Nat.lt_of_lt_of_le hk h1.size) ?_).trans (h1.block k hk)
    simp only [List.mem_cons, List.not_mem_nil, or_false, not_or] at hkS ⊢
    exact ⟨hkS.1, by omega, hkS.2.1, hkS.2.2⟩
  · rw [← f1]
    exact (((HA4.out.alloc _).put 0 _).apart (p := ⟨b, 0, none⟩) hab _).fresh HF5.out
  · rw [← f2]
    exact (((HB4.out.alloc _).apart (p := ⟨a, 0, none⟩) (Ne.symm hab) _).put 0 _).fresh HF5.out
end Go.Proofs.YtmnejphdjnlbjaaGreatDoor.recp
