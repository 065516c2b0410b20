/-
  The reference's at, signed, first, core: my own text.
-/
import Derived.Test.YtmnejphdjnlbjaaDoorRecHead
namespace Go.Proofs.YtmnejphdjnlbjaaDoor.recp
open Go.RowKit Go.Proofs.YtmnejphdjnlbjaaDoor.base Go.Proofs.YtmnejphdjnlbjaaDoor.num Go.Proofs.YtmnejphdjnlbjaaDoor.word Go.Proofs.YtmnejphdjnlbjaaDoor.recn
set_option linter.unusedVariables false
theorem cut_one {w : World} {B n c : Nat} {A : Option Addr} {xs : List UInt8} (h : Rd w B A n (xs.map bv)) {p k : Nat} (hp : p + k ≤ n) (hc : n ≤ c) :
    Rd w B (if c = p then A else A.map (·.add p)) k (((xs.drop p).take k).map bv) := by
  have hcut := h.cut (lo := p) (hi := p + k) (cap := c) (by omega) hp hc
  rwa [show p + k - p = k from by omega, ← List.map_drop, ← List.map_take] at hcut
/-- at, of 2 or 4 bytes -/
theorem at24 (A : Option Addr) (n c : Nat) (xs : List UInt8) (z : Int) (p k : Nat) (w : World) (B : Nat) (hr : Rd w B A n (xs.map bv)) (hz : z = (p : Int)) (hc : n ≤ c) (hm : c ≤ maxLen) (hn : n ≤ 1099511627776) (hk : k = 2 ∨ k = 4) (hp : p + k ≤ n) :
    Calls Tryd.prog 30 #[.slice A n c, .int .i64 z, .int .i64 k] w fun e w' => e = .returned (.int .i64 (nm xs p k : Nat)) ∧ w = w' := by
  subst hz
  have hA := cut_one hr hp hc
  rw [if_neg (by omega)] at hA
  have hN : ∀ d, Calls Tryd.prog 54 #[.slice (A.map (·.add p)) k d] w fun e w' => e = .returned (.int .i64 (nm xs p k : Nat)) ∧ w = w' := fun d => number_any _ k d _ w B hA (by omega)
  have HN := Lib.hid hN
  unfold maxLen at hm
  clear hN hA hr
  rcases hk with rfl | rfl
  · go_enter Tryd.func30, Tryd.ntmps30
    go_wp2_with (go_at_call 54; ((with_reducible refine (HN.out _).mono ?_); rintro e w1 ⟨rfl, rfl⟩))
    all_goals go_ret
    all_goals exact ⟨rfl, rfl⟩
  · go_enter Tryd.func30, Tryd.ntmps30
    go_wp2_with (go_at_call 54; ((with_reducible refine (HN.out _).mono ?_); rintro e w1 ⟨rfl, rfl⟩))
    all_goals go_ret
    all_goals exact ⟨rfl, rfl⟩
/-- a number of eight bytes, or -1 -/
def nm8v (xs : List UInt8) (p : Nat) : Int := if nm xs p 8 < 281474976710656 then (nm xs p 8 : Nat) else -1
theorem nm_two (xs : List UInt8) (p : Nat) (x y : UInt8) (hx : xs[p]? = some x) (hy : xs[p + 1]? = some y) : nm xs p 2 = x.toNat + 256 * y.toNat := by
  obtain ⟨h1, rfl⟩ := List.getElem?_eq_some_iff.1 hx
  obtain ⟨h2, rfl⟩ := List.getElem?_eq_some_iff.1 hy
  unfold nm
  rw [List.drop_eq_getElem_cons h1, List.drop_eq_getElem_cons h2]
  show num [xs[p], xs[p + 1]] = _
  simp only [num]
  omega
theorem at_get {α : Type} {enc : α → Value} {w : World} {B n : Nat} {A : Option Addr} {xs : List α} (h : Rd w B A n (xs.map enc)) {j k : Nat} (hj : j < n) (hk : k < n) :
    ∃ b off x y, A = some ⟨b, off, none⟩ ∧ xs[j]? = some x ∧ w.cell? ⟨b, off + j, none⟩ = some (enc x) ∧ xs[k]? = some y ∧ w.cell? ⟨b, off + k, none⟩ = some (enc y) := by
  obtain ⟨b, off, x, rfl, _, hx, hcx⟩ := h.at_ hj
  obtain ⟨b', off', y, e, _, hy, hcy⟩ := h.at_ hk
  injection e with e; injection e with e1 e2 _; subst e1; subst e2
  exact ⟨b, off, x, y, rfl, hx, hcx, hy, hcy⟩
set_option maxHeartbeats 1000000 in
theorem at8 (A : Option Addr) (n c : Nat) (xs : List UInt8) (z : Int) (p : Nat) (w : World) (B : Nat) (hr : Rd w B A n (xs.map bv)) (hz : z = (p : Int)) (hc : n ≤ c) (hm : c ≤ maxLen) (hn : n ≤ 1099511627776) (hp : p + 8 ≤ n) :
    Calls Tryd.prog 30 #[.slice A n c, .int .i64 z, .int .i64 8] w fun e w' => e = .returned (.int .i64 (nm8v xs p)) ∧ w = w' := by
  subst hz
  have hl : xs.length = n := by have := hr.1; rwa [List.length_map] at this
  have h86 := nm86 xs p (by omega)
  have h6 := nm_lt xs p 6
  have hA := cut_one hr (p := p) (k := 6) (by omega) hc
  obtain ⟨b, off, x, y, rfl, hx, hcx, hy, hcy⟩ := at_get hr (j := p + 6) (k := p + 7) (by omega) (by omega)
  have h2 := nm_two xs (p + 6) x y hx hy
  rw [h2] at h86
  have e6 : 256 ^ 6 = 281474976710656 := by decide
  rw [e6] at h6
  rw [if_neg (by omega)] at hA
  have hadd : (some (⟨b, off, none⟩ : Addr)).map (·.add p) = some ⟨b, off + p, none⟩ := by
    simp only [Option.map_some, Option.some.injEq]
    unfold Addr.add
    split
    · next h => subst h; rfl
    · rfl
  rw [hadd] at hA
  have hN : ∀ d m, m = 6 → Calls Tryd.prog 54 #[.slice (some ⟨b, off + p, none⟩) m d] w fun e w' => e = .returned (.int .i64 (nm xs p 6 : Nat)) ∧ w = w' := fun d m hm => by subst hm; exact number_any _ 6 d _ w B hA (by omega)
  have HN := Lib.hid hN
  unfold maxLen at hm
  by_cases hxy : x.toNat = 0 ∧ y.toNat = 0
  · have hres : nm8v xs p = (nm xs p 6 : Nat) := by unfold nm8v; rw [if_pos (by omega)]; congr 1; omega
    rw [hres]
    have hx0 : ((x.toNat : Int) != 0) = false := by rw [hxy.1]; rfl
    have hy0 : ((y.toNat : Int) != 0) = false := by rw [hxy.2]; rfl
    clear hadd hN hA hr h86 h6 h2 e6 hx hy hxy hres
    go_enter Tryd.func30, Tryd.ntmps30
    go_wp2_with (go_at_call 54; ((with_reducible refine (HN.out _ _ (by omega)).mono ?_); rintro e w1 ⟨rfl, rfl⟩))
    all_goals go_ret
    all_goals exact ⟨rfl, rfl⟩
  · have hres : nm8v xs p = -1 := by
      unfold nm8v
      rw [if_neg]
      intro h
      apply hxy
      constructor <;> omega
    rw [hres]
    by_cases hx1 : x.toNat = 0
    · have hy1 : ((y.toNat : Int) != 0) = true := by rw [bne_iff_ne]; omega
      have hx0 : ((x.toNat : Int) != 0) = false := by rw [hx1]; rfl
      clear hadd hN hA hr h86 h6 h2 e6 hx hy hxy hres HN hx1
      go_enter Tryd.func30, Tryd.ntmps30
      go_wp2
      all_goals go_ret
      all_goals exact ⟨rfl, rfl⟩
    · have hx0 : ((x.toNat : Int) != 0) = true := by rw [bne_iff_ne]; omega
      clear hadd hN hA hr h86 h6 h2 e6 hx hy hxy hres HN hx1
      go_enter Tryd.func30, Tryd.ntmps30
      go_wp2
      all_goals go_ret
      all_goals exact ⟨rfl, rfl⟩
end Go.Proofs.YtmnejphdjnlbjaaDoor.recp
