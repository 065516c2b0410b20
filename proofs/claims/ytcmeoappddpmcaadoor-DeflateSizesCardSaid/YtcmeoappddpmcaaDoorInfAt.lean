import Derived.Test.YtcmeoappddpmcaaDoorMgNum
import Derived.Test.YtcmeoappddpmcaaDoorMgHuff
import Derived.Test.YtcmeoappddpmcaaDoorStore
/-
  An unpacker in memory: its cells, its window; the contracts of the window's calls. My own text.
-/
namespace Go.Proofs.YtcmeoappddpmcaaDoor.infp
open Go.RowKit Go.Proofs.YtcmeoappddpmcaaDoor.base Go.Proofs.YtcmeoappddpmcaaDoor.num Go.Proofs.YtcmeoappddpmcaaDoor.bitnum Go.Proofs.YtcmeoappddpmcaaDoor.bitp Go.Proofs.YtcmeoappddpmcaaDoor.huffnum Go.Proofs.YtcmeoappddpmcaaDoor.huffp Go.Proofs.YtcmeoappddpmcaaDoor.infnum
set_option linter.unusedVariables false

/-- what the fields hold -/
structure V where
  rest : Value
  fed : Nat
  bits : Value
  win : Value
  all : Nat
  next : Nat
  last : Bool
  left : Nat
  back : Nat
  one : UInt8
  sy : Value
  di : Value
  f0 : Value
  f1 : Value
  behind : Nat
  told : Bool
def V.cells (v : V) : List Value := [v.rest, iv v.fed, v.bits, v.win, iv v.all, iv v.next, .bool v.last, iv v.left, iv v.back, bv v.one, v.sy, v.di, v.f0, v.f1, iv v.behind, .bool v.told]
/-- the bytes that a window has of all that came: each stands at its number, taken round -/
def Ring (win out : List UInt8) : Prop := win.length = min 32768 out.length ∧ ∀ i, i < out.length → out.length ≤ i + 32768 → win[i % 32768]? = out[i]?
theorem Ring.nil : Ring [] [] := ⟨rfl, fun i h => by simp at h⟩
theorem Ring.more {win out : List UInt8} (h : Ring win out) (hl : win.length < 32768) (c : UInt8) : Ring (win ++ [c]) (out ++ [c]) := by
  have h1 := h.1
  have hlt : out.length < 32768 := by omega
  refine ⟨by simp; omega, fun i hi _ => ?_⟩
  rw [List.length_append, List.length_singleton] at hi
  rw [Nat.mod_eq_of_lt (by omega)]
  by_cases e : i < out.length
  · have := h.2 i e (by omega)
    rw [Nat.mod_eq_of_lt (by omega)] at this
    rw [List.getElem?_append_left (by omega), List.getElem?_append_left e, this]
  · rw [List.getElem?_append_right (by omega), List.getElem?_append_right (by omega), show i - win.length = i - out.length by omega]
theorem Ring.over {win out : List UInt8} (h : Ring win out) (hl : ¬ win.length < 32768) (c : UInt8) : Ring (win.set (out.length % 32768) c) (out ++ [c]) := by
  have h1 := h.1
  refine ⟨by simp; omega, fun i hi hw => ?_⟩
  rw [List.length_append, List.length_singleton] at hi hw
  by_cases e : i < out.length
  · have := h.2 i e (by omega)
    rw [List.getElem?_append_left e, List.getElem?_set_ne (by omega), this]
  · have e' : i = out.length := by omega
    subst e'
    rw [List.getElem?_set_self (by omega), List.getElem?_append_right (Nat.le_refl _), Nat.sub_self]
    rfl

/-- a window of what came, in the blocks wl -/
def WinAt (w : World) (val : Value) (out : List UInt8) (wl : List Nat) : Prop :=
  ∃ A n c win, val = .slice A n c ∧ n = min 32768 out.length ∧ Own w 0 5 A n c (win.map bv) ∧ Ring win out ∧ wl = rb A n c
theorem WinAt.keep {w w' : World} {val : Value} {out : List UInt8} {wl : List Nat} (h : WinAt w val out wl) (hk : ∀ b ∈ wl, w'.heap[b]? = w.heap[b]?) : WinAt w' val out wl := by
  obtain ⟨A, n, c, win, rfl, hn, ho, hr, rfl⟩ := h
  refine ⟨A, n, c, win, rfl, hn, ⟨ho.1, ?_⟩, hr, rfl⟩
  rcases ho.2 with h2 | ⟨q, cap, cur, hv, hb, hg, r⟩
  · exact .inl h2
  · refine .inr ⟨q, cap, cur, hv, hb, ?_, r⟩
    rw [hk q (by have : (Value.slice A n c).ownBlock = some q := by rw [hv]; rfl
                 simp [rb, this])]
    exact hg
theorem WinAt.inside {w : World} {val : Value} {out : List UInt8} {wl : List Nat} (h : WinAt w val out wl) : ∀ b ∈ wl, b < w.heap.size := by
  obtain ⟨A, n, c, win, rfl, hn, ho, hr, rfl⟩ := h
  intro b hx
  exact (World.ownsRow.lt ho b (by simpa using hx)).2
theorem WinAt.fresh {w w' : World} {val : Value} {out : List UInt8} {wl : List Nat} (h : WinAt w val out wl) (k : Fresh w w') : WinAt w' val out wl := h.keep fun b hb => k.block b (h.inside b hb)
theorem WinAt.turn {S S' : List Nat} {w w' : World} {val : Value} {out : List UInt8} {wl : List Nat} (h : WinAt w val out wl) (k : Turn S S' w w') (hS : ∀ b ∈ wl, b ∉ S) : WinAt w' val out wl := h.keep fun b hb => k.block b (h.inside b hb) (hS b hb)
theorem WinAt.nil (w : World) : WinAt w (.slice none 0 0) [] [] := ⟨none, 0, 0, [], rfl, rfl, Own.nil _ _ _, Ring.nil, rfl⟩
theorem Own.store {w : World} {base : Nat} {e : TypeId} {g n c : Nat} {xs : List Value} (h : Own w base e (some ⟨g, 0, none⟩) n c xs) (j : Nat) (hj : j < n) (u : Value) :
    Own (w.setCell ⟨g, j, none⟩ u) base e (some ⟨g, 0, none⟩) n c (xs.set j u) := (World.ownsRow.stored h j u).1
end Go.Proofs.YtcmeoappddpmcaaDoor.infp
