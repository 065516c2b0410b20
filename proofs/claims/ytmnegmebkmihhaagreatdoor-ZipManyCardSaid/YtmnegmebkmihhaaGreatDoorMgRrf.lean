import Derived.Test.YtmnegmebkmihhaaGreatDoorRecHead
/- Several of my own texts, one behind the other. -/
/-
  The reference's at, signed, first, core: my own text.
-/
namespace Go.Proofs.YtmnegmebkmihhaaGreatDoor.recp
open Go.RowKit Go.Proofs.YtmnegmebkmihhaaGreatDoor.base Go.Proofs.YtmnegmebkmihhaaGreatDoor.num Go.Proofs.YtmnegmebkmihhaaGreatDoor.word Go.Proofs.YtmnegmebkmihhaaGreatDoor.recn
set_option linter.unusedVariables false
theorem cut_one {w : World} {B n c : Nat} {A : Option Addr} {xs : List UInt8} (h : Rd w B A n (xs.map bv)) {p k : Nat} (hp : p + k ≤ n) (hc : n ≤ c) :
    Rd w B (if c = p then A else A.map (·.add p)) k (((xs.drop p).take k).map bv) := by
  have hcut := h.cut (lo := p) (hi := p + k) (cap := c) (by omega) hp hc
  rwa [show p + k - p = k from by omega, ← List.map_drop, ← List.map_take] at hcut
/-- at, of 2 or 4 bytes -/
theorem at24 (A : Option Addr) (n c : Nat) (xs : List UInt8) (z : Int) (p k : Nat) (w : World) (B : Nat) (hr : Rd w B A n (xs.map bv)) (hz : z = (p : Int)) (hc : n ≤ c) (hm : c ≤ maxLen) (hn : n ≤ 1099511627776) (hk : k = 2 ∨ k = 4) (hp : p + k ≤ n) :
    Calls Tryz.prog 75 #[.slice A n c, .int .i64 z, .int .i64 k] w fun e w' => e = .returned (.int .i64 (nm xs p k : Nat)) ∧ w = w' := by
  subst hz
  have hA := cut_one hr hp hc
  rw [if_neg (by omega)] at hA
  have hN : ∀ d, Calls Tryz.prog 139 #[.slice (A.map (·.add p)) k d] w fun e w' => e = .returned (.int .i64 (nm xs p k : Nat)) ∧ w = w' := fun d => number_any _ k d _ w B hA (by omega)
  have HN := Lib.hid hN
  unfold maxLen at hm
  clear hN hA hr
  rcases hk with rfl | rfl
  · go_enter Tryz.func75, Tryz.ntmps75
    go_wp2_with (go_at_call 139; ((with_reducible refine (HN.out _).mono ?_); rintro e w1 ⟨rfl, rfl⟩))
    all_goals go_ret
    all_goals exact ⟨rfl, rfl⟩
  · go_enter Tryz.func75, Tryz.ntmps75
    go_wp2_with (go_at_call 139; ((with_reducible refine (HN.out _).mono ?_); rintro e w1 ⟨rfl, rfl⟩))
    all_goals go_ret
    all_goals exact ⟨rfl, rfl⟩
/-- a number of eight bytes, or -1 -/
def nm8v (xs : List UInt8) (p : Nat) : Int := if nm xs p 8 < 281474976710656 then (nm xs p 8 : Nat) else -1
theorem nm_two (xs : List UInt8) (p : Nat) (x y : UInt8) (hx : xs[p]? = some x) (hy : xs[p + 1]? = some y) : nm xs p 2 = x.toNat + 256 * y.toNat := by
  obtain ⟨h1, rfl⟩ := List.getElem?_eq_some_iff.1 hx
  obtain ⟨h2, rfl⟩ := List.getElem?_eq_some_iff.1 hy
  unfold nm
  rw [List.drop_eq_getElem_cons h1, List.drop_eq_getElem_cons h2]
  show num [xs[p], xs[p + 1]] = _
  simp only [num]
  omega
theorem at_get {α : Type} {enc : α → Value} {w : World} {B n : Nat} {A : Option Addr} {xs : List α} (h : Rd w B A n (xs.map enc)) {j k : Nat} (hj : j < n) (hk : k < n) :
    ∃ b off x y, A = some ⟨b, off, none⟩ ∧ xs[j]? = some x ∧ w.cell? ⟨b, off + j, none⟩ = some (enc x) ∧ xs[k]? = some y ∧ w.cell? ⟨b, off + k, none⟩ = some (enc y) := by
  obtain ⟨b, off, x, rfl, _, hx, hcx⟩ := h.at_ hj
  obtain ⟨b', off', y, e, _, hy, hcy⟩ := h.at_ hk
  injection e with e; injection e with e1 e2 _; subst e1; subst e2
  exact ⟨b, off, x, y, rfl, hx, hcx, hy, hcy⟩
set_option maxHeartbeats 1000000 in
theorem at8 (A : Option Addr) (n c : Nat) (xs : List UInt8) (z : Int) (p : Nat) (w : World) (B : Nat) (hr : Rd w B A n (xs.map bv)) (hz : z = (p : Int)) (hc : n ≤ c) (hm : c ≤ maxLen) (hn : n ≤ 1099511627776) (hp : p + 8 ≤ n) :
    Calls Tryz.prog 75 #[.slice A n c, .int .i64 z, .int .i64 8] w fun e w' => e = .returned (.int .i64 (nm8v xs p)) ∧ w = w' := by
  subst hz
  have hl : xs.length = n := by have := hr.1; rwa [List.length_map] at this
  have h86 := nm86 xs p (by omega)
  have h6 := nm_lt xs p 6
  have hA := cut_one hr (p := p) (k := 6) (by omega) hc
  obtain ⟨b, off, x, y, rfl, hx, hcx, hy, hcy⟩ := at_get hr (j := p + 6) (k := p + 7) (by omega) (by omega)
  have h2 := nm_two xs (p + 6) x y hx hy
  rw [h2] at h86
  have e6 : 256 ^ 6 = 281474976710656 := by decide
  rw [e6] at h6
  rw [if_neg (by omega)] at hA
  have hadd : (some (⟨b, off, none⟩ : Addr)).map (·.add p) = some ⟨b, off + p, none⟩ := by
    simp only [Option.map_some, Option.some.injEq]
    unfold Addr.add
    split
    · next h => subst h; rfl
    · rfl
  rw [hadd] at hA
  have hN : ∀ d m, m = 6 → Calls Tryz.prog 139 #[.slice (some ⟨b, off + p, none⟩) m d] w fun e w' => e = .returned (.int .i64 (nm xs p 6 : Nat)) ∧ w = w' := fun d m hm => by subst hm; exact number_any _ 6 d _ w B hA (by omega)
  have HN := Lib.hid hN
  unfold maxLen at hm
  by_cases hxy : x.toNat = 0 ∧ y.toNat = 0
  · have hres : nm8v xs p = (nm xs p 6 : Nat) := by unfold nm8v; rw [if_pos (by omega)]; congr 1; omega
    rw [hres]
    have hx0 : ((x.toNat : Int) != 0) = false := by rw [hxy.1]; rfl
    have hy0 : ((y.toNat : Int) != 0) = false := by rw [hxy.2]; rfl
    clear hadd hN hA hr h86 h6 h2 e6 hx hy hxy hres
    go_enter Tryz.func75, Tryz.ntmps75
    go_wp2_with (go_at_call 139; ((with_reducible refine (HN.out _ _ (by omega)).mono ?_); rintro e w1 ⟨rfl, rfl⟩))
    all_goals go_ret
    all_goals exact ⟨rfl, rfl⟩
  · have hres : nm8v xs p = -1 := by
      unfold nm8v
      rw [if_neg]
      intro h
      apply hxy
      constructor <;> omega
    rw [hres]
    by_cases hx1 : x.toNat = 0
    · have hy1 : ((y.toNat : Int) != 0) = true := by rw [bne_iff_ne]; omega
      have hx0 : ((x.toNat : Int) != 0) = false := by rw [hx1]; rfl
      clear hadd hN hA hr h86 h6 h2 e6 hx hy hxy hres HN hx1
      go_enter Tryz.func75, Tryz.ntmps75
      go_wp2
      all_goals go_ret
      all_goals exact ⟨rfl, rfl⟩
    · have hx0 : ((x.toNat : Int) != 0) = true := by rw [bne_iff_ne]; omega
      clear hadd hN hA hr h86 h6 h2 e6 hx hy hxy hres HN hx1
      go_enter Tryz.func75, Tryz.ntmps75
      go_wp2
      all_goals go_ret
      all_goals exact ⟨rfl, rfl⟩
end Go.Proofs.YtmnegmebkmihhaaGreatDoor.recp
/-
  The reference's signed, first, core: my own text.
-/
namespace Go.Proofs.YtmnegmebkmihhaaGreatDoor.recp
open Go.RowKit Go.Proofs.YtmnegmebkmihhaaGreatDoor.base Go.Proofs.YtmnegmebkmihhaaGreatDoor.num Go.Proofs.YtmnegmebkmihhaaGreatDoor.word Go.Proofs.YtmnegmebkmihhaaGreatDoor.recn
set_option linter.unusedVariables false
theorem get4 {w : World} {B n : Nat} {A : Option Addr} {xs : List UInt8} (h : Rd w B A n (xs.map bv)) {p : Nat} (hp : p + 4 ≤ n) :
    ∃ b off x0 x1 x2 x3, A = some ⟨b, off, none⟩ ∧ (xs.drop p).take 4 = [x0, x1, x2, x3] ∧ w.cell? ⟨b, off + p, none⟩ = some (bv x0) ∧ w.cell? ⟨b, off + (p + 1), none⟩ = some (bv x1) ∧ w.cell? ⟨b, off + (p + 2), none⟩ = some (bv x2) ∧ w.cell? ⟨b, off + (p + 3), none⟩ = some (bv x3) := by
  obtain ⟨b, off, x0, x1, rfl, h0, c0, h1, c1⟩ := at_get h (j := p) (k := p + 1) (by omega) (by omega)
  obtain ⟨b', off', x2, x3, e, h2, c2, h3, c3⟩ := at_get h (j := p + 2) (k := p + 3) (by omega) (by omega)
  injection e with e; injection e with e1 e2 _; subst e1; subst e2
  refine ⟨b, off, x0, x1, x2, x3, rfl, ?_, c0, c1, c2, c3⟩
  obtain ⟨g0, rfl⟩ := List.getElem?_eq_some_iff.1 h0
  obtain ⟨g1, rfl⟩ := List.getElem?_eq_some_iff.1 h1
  obtain ⟨g2, rfl⟩ := List.getElem?_eq_some_iff.1 h2
  obtain ⟨g3, rfl⟩ := List.getElem?_eq_some_iff.1 h3
  rw [List.drop_eq_getElem_cons g0, List.drop_eq_getElem_cons g1, List.drop_eq_getElem_cons g2, List.drop_eq_getElem_cons g3]
  rfl
theorem u8_ne {x y : UInt8} (h : x ≠ y) : ((x.toNat : Int) == (y.toNat : Int)) = false := by
  rw [beq_eq_false_iff_ne]
  intro e
  exact h (UInt8.toNat_inj.1 (by omega))
set_option maxHeartbeats 1000000 in
theorem signed_any (A : Option Addr) (n c : Nat) (xs : List UInt8) (z : Int) (p : Nat) (u v : UInt8) (w : World) (B : Nat) (hr : Rd w B A n (xs.map bv)) (hz : z = (p : Int)) (hc : n ≤ c) (hm : c ≤ maxLen) (hn : n ≤ 1099511627776) (hp : p + 4 ≤ n) :
    Calls Tryz.prog 74 #[.slice A n c, .int .i64 z, .int .u8 u.toNat, .int .u8 v.toNat] w fun e w' => e = .returned (.bool (sg xs p u v)) ∧ w = w' := by
  subst hz
  obtain ⟨b, off, x0, x1, x2, x3, rfl, h4, c0, c1, c2, c3⟩ := get4 hr hp
  have hsg : sg xs p u v = (x0 == 80 && (x1 == 75 && (x2 == u && x3 == v))) := by
    unfold sg
    rw [h4]
    simp
  rw [hsg]
  clear h4 hsg hr
  unfold maxLen at hm
  by_cases h0 : x0 = 80
  · subst h0
    by_cases h1 : x1 = 75
    · subst h1
      by_cases h2 : x2 = u
      · subst h2
        by_cases h3 : x3 = v
        · subst h3
          go_enter Tryz.func74, Tryz.ntmps74
          go_wp2
          go_ret
          exact ⟨by simp, rfl⟩
        · have k3 := u8_ne h3
          have k3' : (x3 == v) = false := by rw [beq_eq_false_iff_ne]; exact h3
          rw [k3']
          clear k3' h3
          go_enter Tryz.func74, Tryz.ntmps74
          go_wp2
          go_ret
          exact ⟨by simp, rfl⟩
      · have k2 := u8_ne h2
        have k2' : (x2 == u) = false := by rw [beq_eq_false_iff_ne]; exact h2
        rw [k2']
        clear k2' h2
        go_enter Tryz.func74, Tryz.ntmps74
        go_wp2
        go_ret
        exact ⟨by simp, rfl⟩
    · have k1 : ((x1.toNat : Int) == 75) = false := u8_ne h1
      have k1' : (x1 == 75) = false := by rw [beq_eq_false_iff_ne]; exact h1
      rw [k1']
      clear k1' h1
      go_enter Tryz.func74, Tryz.ntmps74
      go_wp2
      go_ret
      exact ⟨by simp, rfl⟩
  · have k0 : ((x0.toNat : Int) == 80) = false := u8_ne h0
    have k0' : (x0 == 80) = false := by rw [beq_eq_false_iff_ne]; exact h0
    rw [k0']
    clear k0' h0
    go_enter Tryz.func74, Tryz.ntmps74
    go_wp2
    go_ret
    exact ⟨by simp, rfl⟩
/-- the error of a head's first four bytes -/
def fst4 (xs : List UInt8) (p : Int) (u v : UInt8) : Nat := if p < 0 then 1 else if xs.length < p.toNat + 4 then 3 else if sg xs p.toNat u v = false then 4 else 0
theorem first_any (A : Option Addr) (n c : Nat) (xs : List UInt8) (p : Int) (u v : UInt8) (w : World) (B : Nat) (hr : Rd w B A n (xs.map bv)) (hc : n ≤ c) (hm : c ≤ maxLen) (hn : n ≤ 1099511627776) (hp1 : -9223372036854775808 ≤ p) (hp2 : p ≤ 9223372036854775807) :
    Calls Tryz.prog 77 #[.slice A n c, .int .i64 p, .int .u8 u.toNat, .int .u8 v.toNat] w fun e w' => e = .returned (.int .i64 (fst4 xs p u v : Nat)) ∧ w = w' := by
  have hl : xs.length = n := by have := hr.1; rwa [List.length_map] at this
  by_cases h1 : p < 0
  · have hres : fst4 xs p u v = 1 := by unfold fst4; rw [if_pos h1]
    rw [hres]
    go_enter Tryz.func77, Tryz.ntmps77
    go_wp2
    go_ret
    exact ⟨rfl, rfl⟩
  · obtain ⟨q, rfl⟩ : ∃ q : Nat, p = (q : Int) := ⟨p.toNat, by omega⟩
    by_cases h2 : n < q + 4
    · have hres : fst4 xs q u v = 3 := by unfold fst4; rw [if_neg h1, if_pos (by omega)]
      rw [hres]
      clear hl hr hres
      by_cases h3 : n < q
      · go_enter Tryz.func77, Tryz.ntmps77
        go_wp2
        go_ret
        exact ⟨rfl, rfl⟩
      · go_enter Tryz.func77, Tryz.ntmps77
        go_wp2
        go_ret
        exact ⟨rfl, rfl⟩
    · have hsg := signed_any A n c xs q q u v w B hr rfl hc hm hn (by omega)
      cases hb : sg xs q u v with
      | false =>
        have hres : fst4 xs q u v = 4 := by unfold fst4; rw [if_neg h1, if_neg (by omega), if_pos (by simpa using hb)]
        rw [hres]
        rw [hb] at hsg
        have HSG := Lib.hid hsg
        clear hl hr hres hsg hb
        go_enter Tryz.func77, Tryz.ntmps77
        go_wp2_with (go_at_call 74; ((with_reducible refine HSG.out.mono ?_); rintro e w1 ⟨rfl, rfl⟩))
        go_ret
        exact ⟨rfl, rfl⟩
      | true =>
        have hres : fst4 xs q u v = 0 := by unfold fst4; rw [if_neg h1, if_neg (by omega), if_neg (by simp [hb])]
        rw [hres]
        rw [hb] at hsg
        have HSG := Lib.hid hsg
        clear hl hr hres hsg hb
        go_enter Tryz.func77, Tryz.ntmps77
        go_wp2_with (go_at_call 74; ((with_reducible refine HSG.out.mono ?_); rintro e w1 ⟨rfl, rfl⟩))
        go_ret
        exact ⟨rfl, rfl⟩
/-- what both heads have -/
def coreV (xs : List UInt8) (p : Nat) : List Value := [iv (nm xs p 2 : Nat), iv (nm xs (p + 2) 2 : Nat), iv (nm xs (p + 4) 4 : Nat), .int .u32 (nm xs (p + 8) 4 : Nat), iv (nm xs (p + 12) 4 : Nat), iv (nm xs (p + 16) 4 : Nat), iv 0, .slice none 0 0, .bool false]
end Go.Proofs.YtmnegmebkmihhaaGreatDoor.recp
