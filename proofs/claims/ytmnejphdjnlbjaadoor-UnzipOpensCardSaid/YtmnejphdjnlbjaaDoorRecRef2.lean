/-
  The reference's signed, first, core: my own text.
-/
import Derived.Test.YtmnejphdjnlbjaaDoorRecRef
namespace Go.Proofs.YtmnejphdjnlbjaaDoor.recp
open Go.RowKit Go.Proofs.YtmnejphdjnlbjaaDoor.base Go.Proofs.YtmnejphdjnlbjaaDoor.num Go.Proofs.YtmnejphdjnlbjaaDoor.word Go.Proofs.YtmnejphdjnlbjaaDoor.recn
set_option linter.unusedVariables false
theorem get4 {w : World} {B n : Nat} {A : Option Addr} {xs : List UInt8} (h : Rd w B A n (xs.map bv)) {p : Nat} (hp : p + 4 ≤ n) :
    ∃ b off x0 x1 x2 x3, A = some ⟨b, off, none⟩ ∧ (xs.drop p).take 4 = [x0, x1, x2, x3] ∧ w.cell? ⟨b, off + p, none⟩ = some (bv x0) ∧ w.cell? ⟨b, off + (p + 1), none⟩ = some (bv x1) ∧ w.cell? ⟨b, off + (p + 2), none⟩ = some (bv x2) ∧ w.cell? ⟨b, off + (p + 3), none⟩ = some (bv x3) := by
  obtain ⟨b, off, x0, x1, rfl, h0, c0, h1, c1⟩ := at_get h (j := p) (k := p + 1) (by omega) (by omega)
  obtain ⟨b', off', x2, x3, e, h2, c2, h3, c3⟩ := at_get h (j := p + 2) (k := p + 3) (by omega) (by omega)
  injection e with e; injection e with e1 e2 _; subst e1; subst e2
  refine ⟨b, off, x0, x1, x2, x3, rfl, ?_, c0, c1, c2, c3⟩
  obtain ⟨g0, rfl⟩ := List.getElem?_eq_some_iff.1 h0
  obtain ⟨g1, rfl⟩ := List.getElem?_eq_some_iff.1 h1
  obtain ⟨g2, rfl⟩ := List.getElem?_eq_some_iff.1 h2
  obtain ⟨g3, rfl⟩ := List.getElem?_eq_some_iff.1 h3
  rw [List.drop_eq_getElem_cons g0, List.drop_eq_getElem_cons g1, List.drop_eq_getElem_cons g2, List.drop_eq_getElem_cons g3]
  rfl
theorem u8_ne {x y : UInt8} (h : x ≠ y) : ((x.toNat : Int) == (y.toNat : Int)) = false := by
  rw [beq_eq_false_iff_ne]
  intro e
  exact h (UInt8.toNat_inj.1 (by omega))
set_option maxHeartbeats 1000000 in
theorem signed_any (A : Option Addr) (n c : Nat) (xs : List UInt8) (z : Int) (p : Nat) (u v : UInt8) (w : World) (B : Nat) (hr : Rd w B A n (xs.map bv)) (hz : z = (p : Int)) (hc : n ≤ c) (hm : c ≤ maxLen) (hn : n ≤ 1099511627776) (hp : p + 4 ≤ n) :
    Calls Tryd.prog 29 #[.slice A n c, .int .i64 z, .int .u8 u.toNat, .int .u8 v.toNat] w fun e w' => e = .returned (.bool (sg xs p u v)) ∧ w = w' := by
  subst hz
  obtain ⟨b, off, x0, x1, x2, x3, rfl, h4, c0, c1, c2, c3⟩ := get4 hr hp
  have hsg : sg xs p u v = (x0 == 80 && (x1 == 75 && (x2 == u && x3 == v))) := by
    unfold sg
    rw [h4]
    simp
  rw [hsg]
  clear h4 hsg hr
  unfold maxLen at hm
  by_cases h0 : x0 = 80
  · subst h0
    by_cases h1 : x1 = 75
    · subst h1
      by_cases h2 : x2 = u
      · subst h2
        by_cases h3 : x3 = v
        · subst h3
          go_enter Tryd.func29, Tryd.ntmps29
          go_wp2
          go_ret
          exact ⟨by simp, rfl⟩
        · have k3 := u8_ne h3
          have k3' : (x3 == v) = false := by rw [beq_eq_false_iff_ne]; exact h3
          rw [k3']
          clear k3' h3
          go_enter Tryd.func29, Tryd.ntmps29
          go_wp2
          go_ret
          exact ⟨by simp, rfl⟩
      · have k2 := u8_ne h2
        have k2' : (x2 == u) = false := by rw [beq_eq_false_iff_ne]; exact h2
        rw [k2']
        clear k2' h2
        go_enter Tryd.func29, Tryd.ntmps29
        go_wp2
        go_ret
        exact ⟨by simp, rfl⟩
    · have k1 : ((x1.toNat : Int) == 75) = false := u8_ne h1
      have k1' : (x1 == 75) = false := by rw [beq_eq_false_iff_ne]; exact h1
      rw [k1']
      clear k1' h1
      go_enter Tryd.func29, Tryd.ntmps29
      go_wp2
      go_ret
      exact ⟨by simp, rfl⟩
  · have k0 : ((x0.toNat : Int) == 80) = false := u8_ne h0
    have k0' : (x0 == 80) = false := by rw [beq_eq_false_iff_ne]; exact h0
    rw [k0']
    clear k0' h0
    go_enter Tryd.func29, Tryd.ntmps29
    go_wp2
    go_ret
    exact ⟨by simp, rfl⟩
/-- the error of a head's first four bytes -/
def fst4 (xs : List UInt8) (p : Int) (u v : UInt8) : Nat := if p < 0 then 1 else if xs.length < p.toNat + 4 then 3 else if sg xs p.toNat u v = false then 4 else 0
theorem first_any (A : Option Addr) (n c : Nat) (xs : List UInt8) (p : Int) (u v : UInt8) (w : World) (B : Nat) (hr : Rd w B A n (xs.map bv)) (hc : n ≤ c) (hm : c ≤ maxLen) (hn : n ≤ 1099511627776) (hp1 : -9223372036854775808 ≤ p) (hp2 : p ≤ 9223372036854775807) :
    Calls Tryd.prog 32 #[.slice A n c, .int .i64 p, .int .u8 u.toNat, .int .u8 v.toNat] w fun e w' => e = .returned (.int .i64 (fst4 xs p u v : Nat)) ∧ w = w' := by
  have hl : xs.length = n := by have := hr.1; rwa [List.length_map] at this
  by_cases h1 : p < 0
  · have hres : fst4 xs p u v = 1 := by unfold fst4; rw [if_pos h1]
    rw [hres]
    go_enter Tryd.func32, Tryd.ntmps32
    go_wp2
    go_ret
    exact ⟨rfl, rfl⟩
  · obtain ⟨q, rfl⟩ : ∃ q : Nat, p = (q : Int) := ⟨p.toNat, by omega⟩
    by_cases h2 : n < q + 4
    · have hres : fst4 xs q u v = 3 := by unfold fst4; rw [if_neg h1, if_pos (by omega)]
      rw [hres]
      clear hl hr hres
      by_cases h3 : n < q
      · go_enter Tryd.func32, Tryd.ntmps32
        go_wp2
        go_ret
        exact ⟨rfl, rfl⟩
      · go_enter Tryd.func32, Tryd.ntmps32
        go_wp2
        go_ret
        exact ⟨rfl, rfl⟩
    · have hsg := signed_any A n c xs q q u v w B hr rfl hc hm hn (by omega)
      cases hb : sg xs q u v with
      | false =>
        have hres : fst4 xs q u v = 4 := by unfold fst4; rw [if_neg h1, if_neg (by omega), if_pos (by simpa using hb)]
        rw [hres]
        rw [hb] at hsg
        have HSG := Lib.hid hsg
        clear hl hr hres hsg hb
        go_enter Tryd.func32, Tryd.ntmps32
        go_wp2_with (go_at_call 29; ((with_reducible refine HSG.out.mono ?_); rintro e w1 ⟨rfl, rfl⟩))
        go_ret
        exact ⟨rfl, rfl⟩
      | true =>
        have hres : fst4 xs q u v = 0 := by unfold fst4; rw [if_neg h1, if_neg (by omega), if_neg (by simp [hb])]
        rw [hres]
        rw [hb] at hsg
        have HSG := Lib.hid hsg
        clear hl hr hres hsg hb
        go_enter Tryd.func32, Tryd.ntmps32
        go_wp2_with (go_at_call 29; ((with_reducible refine HSG.out.mono ?_); rintro e w1 ⟨rfl, rfl⟩))
        go_ret
        exact ⟨rfl, rfl⟩
/-- what both heads have -/
def coreV (xs : List UInt8) (p : Nat) : List Value := [iv (nm xs p 2 : Nat), iv (nm xs (p + 2) 2 : Nat), iv (nm xs (p + 4) 4 : Nat), .int .u32 (nm xs (p + 8) 4 : Nat), iv (nm xs (p + 12) 4 : Nat), iv (nm xs (p + 16) 4 : Nat), iv 0, .slice none 0 0, .bool false]
end Go.Proofs.YtmnejphdjnlbjaaDoor.recp
