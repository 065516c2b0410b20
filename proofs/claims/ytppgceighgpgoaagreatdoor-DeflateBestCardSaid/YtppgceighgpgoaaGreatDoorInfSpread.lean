/-
  The contracts of spread, and of a symbol as a part. My own text.
-/
import Derived.Test.YtppgceighgpgoaaGreatDoorInfBits
namespace Go.Proofs.YtppgceighgpgoaaGreatDoor.infp
open Go.RowKit Go.Proofs.YtppgceighgpgoaaGreatDoor.base Go.Proofs.YtppgceighgpgoaaGreatDoor.num Go.Proofs.YtppgceighgpgoaaGreatDoor.bitnum Go.Proofs.YtppgceighgpgoaaGreatDoor.bitp Go.Proofs.YtppgceighgpgoaaGreatDoor.huffnum Go.Proofs.YtppgceighgpgoaaGreatDoor.huffp Go.Proofs.YtppgceighgpgoaaGreatDoor.infnum
set_option linter.unusedVariables false

section
variable {w : World} {g q p : Nat} {v : V} {bs : List UInt8} {rl : List Nat}
theorem spread_few (h : Src w g v q bs p rl) (k R : Nat) (hk : k < 2 * R) (hR : R ≤ 4) {r : Except Nat (Nat × Nat)} (hr : spreadP k R (num bs) (8 * bs.length) p = r) :
    Calls Tryz.prog 99 #[ptr g, .int .i64 k, .int .i64 R] w (NumIs w g v q bs p rl r) := by
  have hle := h.le
  unfold spreadP ownB baseB also take at hr
  rw [if_pos hk, if_pos hk, if_pos (by omega), Nat.pow_zero, Nat.mod_one] at hr
  change Except.ok (k, p) = r at hr
  subst hr
  have hk2 : (k : Int) < 2 * (R : Int) := by omega
  clear hk
  go_enter Tryz.func99, Tryz.ntmps99
  go_wp2
  go_ret2
  exact ⟨rfl, h.same⟩
theorem spread_more (h : Src w g v q bs p rl) (k R d m B : Nat) (hk : ¬ k < 2 * R) (hR1 : 1 ≤ R) (hR : R ≤ 4) (hk32 : k < 32) (hd : k / R - 1 = d) (hm : k % R = m) (hB : (R + m) * 2 ^ d = B) (hd14 : d ≤ 15) {r : Except Nat (Nat × Nat)} (hr : spreadP k R (num bs) (8 * bs.length) p = r) :
    Calls Tryz.prog 99 #[ptr g, .int .i64 k, .int .i64 R] w (NumIs w g v q bs p rl r) := by
  have hc := h.bits2
  have hsm := h.sm
  have hle := h.le
  unfold spreadP ownB baseB also at hr
  rw [if_neg hk, if_neg hk, hd, hm, hB] at hr
  obtain ⟨D, hD⟩ : ∃ D, k / R = D := ⟨_, rfl⟩
  have hD1 : (k : Int) / (R : Int) = (D : Int) := by omega
  have hD2 : Int.tdiv (k : Int) (R : Int) = (D : Int) := by rw [Int.tdiv_eq_ediv_of_nonneg (by omega)]; exact hD1
  have hD3 : (D : Int) - 1 = (d : Int) := by
    have : 2 ≤ k / R := (Nat.le_div_iff_mul_le (by omega)).2 (by omega)
    omega
  have hm1 : (k : Int) % (R : Int) = (m : Int) := by omega
  have hm2 : Int.tmod (k : Int) (R : Int) = (m : Int) := by rw [Int.tmod_eq_emod_of_nonneg (by omega)]; exact hm1
  have hm4 : m < 4 := by have := Nat.mod_lt k (show R > 0 by omega); omega
  have hk2 : ¬ (k : Int) < 2 * (R : Int) := by omega
  have hR0 : ¬ (R : Int) = 0 := by omega
  cases ht : take d (num bs) (8 * bs.length) p with
  | error k' =>
    rw [ht] at hr
    have hk := take_err ht
    subst hk
    subst hr
    have hno : ∀ w, RdrAt w q bs p rl → Calls Tryz.prog 76 #[ptr q, .int .i64 d] w fun e w' => e = .returned (.tuple #[.int .i64 0, .bool false]) ∧ RdrIs w q bs p rl w' := fun w hR => bits_take_no q bs p rl d 3 w hR h.le hsm (by omega) ht
    have HNO := Lib.hid hno
    clear hno ht hB hd hm hD
    go_enter Tryz.func99, Tryz.ntmps99
    go_wp2_with (go_at_call 76; refine (HNO.out w h.rdr).mono ?_; rintro e w1 ⟨rfl, hR⟩)
    go_ret2
    exact ⟨rfl, h.moved hR hle⟩
  | ok x =>
    obtain ⟨t, p'⟩ := x
    rw [ht] at hr
    change Except.ok (B + t, p') = r at hr
    subst hr
    obtain ⟨ht1, _, hle⟩ := take_lt ht
    have ht2 : t < 32768 := Nat.lt_of_lt_of_le ht1 (Nat.pow_le_pow_right (n := 2) (j := 15) (by omega) hd14)
    have hno : ∀ w, RdrAt w q bs p rl → Calls Tryz.prog 76 #[ptr q, .int .i64 d] w fun e w' => e = .returned (.tuple #[.int .i64 t, .bool true]) ∧ RdrIs w q bs p' rl w' := fun w hR => bits_take_ok q bs p rl d t p' w hR hsm (by omega) ht
    have HNO := Lib.hid hno
    have hti : (t : Int) ≤ 32768 := by omega
    have HB := Lib.hid hB
    clear hno ht ht1 ht2 hB hd hm hD hk
    go_enter Tryz.func99, Tryz.ntmps99
    go_wp2_with (go_at_call 76; refine (HNO.out w h.rdr).mono ?_; rintro e w1 ⟨rfl, hR⟩)
    have e1 : ((R : Int) + (m : Int)) * 2 ^ d = (B : Int) := by rw [pow2i, ← HB.out]; simp
    have hB1 : B ≤ 8 * 32768 := by
      rw [← HB.out]
      exact Nat.mul_le_mul (by omega) (Nat.pow_le_pow_right (n := 2) (j := 15) (by omega) hd14)
    rw [e1, IntWalk.wrap64_in (B : Int) ⟨by omega, by omega⟩, IntWalk.wrap64_in ((B : Int) + (t : Int)) ⟨by omega, by omega⟩, show (B : Int) + (t : Int) = ((B + t : Nat) : Int) by omega]
    go_ret2
    exact ⟨rfl, h.moved hR hle⟩
theorem spread_four (h : Src w g v q bs p rl) (k : Nat) (hk : k < 28) {r : Except Nat (Nat × Nat)} (hr : spreadP k 4 (num bs) (8 * bs.length) p = r) :
    Calls Tryz.prog 99 #[ptr g, .int .i64 k, .int .i64 4] w (NumIs w g v q bs p rl r) := by
  by_cases h1 : k < 2 * 4
  · exact spread_few h k 4 h1 (by omega) hr
  · exact spread_more h k 4 _ _ _ h1 (by omega) (by omega) (by omega) rfl rfl rfl (by omega) hr
theorem spread_two (h : Src w g v q bs p rl) (k : Nat) (hk : k < 30) {r : Except Nat (Nat × Nat)} (hr : spreadP k 2 (num bs) (8 * bs.length) p = r) :
    Calls Tryz.prog 99 #[ptr g, .int .i64 k, .int .i64 2] w (NumIs w g v q bs p rl r) := by
  by_cases h1 : k < 2 * 2
  · exact spread_few h k 2 h1 (by omega) hr
  · exact spread_more h k 2 _ _ _ h1 (by omega) (by omega) (by omega) rfl rfl rfl (by omega) hr
theorem spread_lt {k R n U T p p' : Nat} (hk : k < 32) (hR : 2 ≤ R) (hR4 : R ≤ 4) (h : spreadP k R U T p = .ok (n, p')) : n < 300000 := by
  unfold spreadP also at h
  cases ht : take (ownB k R) U T p with
  | error e => rw [ht] at h; cases h
  | ok x =>
    obtain ⟨t, p1⟩ := x
    rw [ht] at h
    change Except.ok (baseB k R + t, p1) = _ at h
    injection h with h
    injection h with h1 h2
    obtain ⟨ht1, _⟩ := take_lt ht
    have ho : ownB k R ≤ 15 := by
      unfold ownB
      have : k / R ≤ k / 2 := Nat.div_le_div_left hR (by omega)
      split <;> omega
    have hp := Nat.pow_le_pow_right (n := 2) (j := 15) (by omega) ho
    have hb : baseB k R ≤ 8 * 32768 := by
      unfold baseB
      split
      · omega
      · rename_i hn
        have ho2 : k / R - 1 ≤ 15 := by
          have : k / R ≤ k / 2 := Nat.div_le_div_left hR (by omega)
          omega
        exact Nat.mul_le_mul (by have := Nat.mod_lt k (show R > 0 by omega); omega) (Nat.pow_le_pow_right (n := 2) (j := 15) (by omega) ho2)
    omega

/-! what kind of cells a block has -/
def Ty (w : World) (b : Nat) (T : TypeId) : Prop := ∃ cs fr, w.heap[b]? = some (.cells cs T fr)
theorem Ty.uniq {b : Nat} {T T' : TypeId} (h : Ty w b T) (k : Ty w b T') : T = T' := by
  obtain ⟨cs, fr, h⟩ := h
  obtain ⟨cs', fr', k⟩ := k
  rw [h] at k
  injection k with k
  injection k with _ hT
theorem Bk.ty {b : Nat} {T : TypeId} {cs : List Value} (h : Bk w b T cs) : Ty w b T := ⟨_, _, h⟩
theorem Own.ty {base : Nat} {e : TypeId} {A : Option Addr} {n c : Nat} {xs : List Value} (h : Own w base e A n c xs) : ∀ b, (Value.slice A n c).ownBlock = some b → Ty w b e := by
  intro b hb
  rcases h.2 with ⟨hv, _⟩ | ⟨q, cap, cur, hv, _, hq, _⟩
  · rw [hv] at hb; cases hb
  · rw [hv] at hb
    simp only [Value.ownBlock, Option.some.injEq] at hb
    subst hb
    exact ⟨_, _, hq⟩
theorem RdrAt.ty (h : RdrAt w q bs p rl) : ∀ b ∈ rl, Ty w b tRdr ∨ Ty w b 5 := by
  obtain ⟨A, c, rfl, hne, hb, ho⟩ := h
  intro b hx
  rcases List.mem_cons.1 hx with rfl | hx
  · exact .inl (Bk.ty hb)
  · exact .inr (Own.ty ho b (by simpa using hx))
theorem CodeAt.ty {c : Nat} {ls cbl : List Nat} (h : CodeAt w c ls cbl) : ∀ b ∈ cbl, Ty w b tCode ∨ Ty w b tPair ∨ Ty w b tInt := by
  obtain ⟨R, d, rfl, h⟩ := h
  intro b hb
  rcases of_codeBl hb with rfl | rfl | ⟨k, hk, hb⟩
  · exact .inl (Bk.ty h.all)
  · exact .inr (.inl (Bk.ty h.codes))
  · exact .inr (.inr (Own.ty (h.own k hk) b hb))
theorem code_off {c : Nat} {ls cbl : List Nat} (hC : CodeAt w c ls cbl) (hR : RdrAt w q bs p rl) : ∀ b ∈ cbl, b ∉ rl := by
  intro b hb hx
  rcases CodeAt.ty hC b hb with h | h | h <;> rcases RdrAt.ty hR b hx with k | k <;> exact absurd (h.uniq k) (by decide)
theorem code_inf {c : Nat} {ls cbl : List Nat} (hC : CodeAt w c ls cbl) (h : InfAt w g v) : g ∉ cbl := by
  intro hb
  have k := Bk.ty h
  rcases CodeAt.ty hC g hb with h | h | h <;> exact absurd (h.uniq k) (by decide)
theorem code_src {c : Nat} {ls cbl : List Nat} (hC : CodeAt w c ls cbl) (h : Src w g v q bs p rl) : ∀ b ∈ cbl, b ∉ g :: rl := by
  intro b hb hx
  rcases List.mem_cons.1 hx with rfl | hx
  · exact code_inf hC h.inf hb
  · exact code_off hC h.rdr b hb hx
theorem CodeAt.src {w' : World} {c : Nat} {ls cbl rl' : List Nat} (hC : CodeAt w c ls cbl) (h : Src w g v q bs p rl) (k : Turn (g :: rl) (g :: rl') w w') : CodeAt w' c ls cbl := hC.turn k (code_src hC h)
/-- lengths that a code may have -/
def Fit (ls : List Nat) : Prop := tx ls 15 ≤ 32768 ∧ ∀ n ∈ ls, n ≤ 15

/-! a symbol as a part -/
theorem sym_lt {ls : List Nat} {U T p s p' : Nat} (h : sym ls U T p = .ok (s, p')) : s < ls.length ∧ p < p' := by
  unfold sym at h
  simp only at h
  split at h
  · cases h
  · rename_i hd
    split at h
    · cases h
    · injection h with h
      injection h with h1 h2
      obtain ⟨g1, g15, hlo, hhi⟩ := lev_of (Nat.not_le.1 hd)
      obtain ⟨s', hs', hx, _⟩ := pick g1 g15 hlo hhi
      rw [hs'] at h1
      have h1 : s' = s := h1
      subst h1
      exact ⟨(List.getElem?_eq_some_iff.1 hx).1, by omega⟩
theorem next_src (h : Src w g v q bs p rl) {c : Nat} {ls cbl : List Nat} (hC : CodeAt w c ls cbl) (hF : Fit ls) {r : Except Nat (Nat × Nat)} (hr : sym ls (num bs) (8 * bs.length) p = r) :
    Calls Tryz.prog 80 #[ptr c, ptr q] w (NumIs w g v q bs p rl r) := by
  have hN : Nxt ls (min 15 (8 * bs.length - p)) (num bs / 2 ^ p) (rev 15 (num bs / 2 ^ p % 2 ^ min 15 (8 * bs.length - p))) := ⟨by omega, rfl, hF.1, hF.2⟩
  refine (next_any c q p _ _ _ ls cbl rl bs w hC h.rdr h.le h.sm (code_off hC h.rdr) rfl rfl hN).mono ?_
  have hbd : ∀ {a p'}, sym ls (num bs) (8 * bs.length) p = .ok (a, p') → p' ≤ 8 * bs.length := fun hs => (Good.sym ls).bd _ _ _ _ _ (by omega) h.le hs
  unfold sym at hr hbd
  simp only at hr hbd
  generalize hm : min 15 (8 * bs.length - p) = many at *
  generalize ht : rev 15 (num bs / 2 ^ p % 2 ^ many) = t at *
  rintro e w' (⟨hd, he, hf⟩ | ⟨n, h1, h15, hlo, hhi, hlt, he, hf⟩ | ⟨n, s, h1, h15, hlo, hhi, hle, hs, he, hR⟩)
  · rw [if_pos hd] at hr
    subst hr
    exact ⟨he, h.freshIs hf⟩
  · have := tx_le ls h15 (Nat.le_refl 15)
    rw [if_neg (by omega), lev_is h1 h15 hlo hhi, if_pos hlt] at hr
    subst hr
    exact ⟨he, h.freshIs hf⟩
  · have := tx_le ls h15 (Nat.le_refl 15)
    rw [if_neg (by omega), lev_is h1 h15 hlo hhi, if_neg (by omega), hs] at hr hbd
    subst hr
    exact ⟨he, h.moved hR (hbd rfl)⟩
end
end Go.Proofs.YtppgceighgpgoaaGreatDoor.infp
