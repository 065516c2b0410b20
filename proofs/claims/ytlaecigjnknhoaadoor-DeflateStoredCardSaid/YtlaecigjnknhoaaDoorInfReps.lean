/-
  The contract of takeLengths. My own text.
-/
import Derived.Test.YtlaecigjnknhoaaDoorInfLens
namespace Go.Proofs.YtlaecigjnknhoaaDoor.infp
open Go.RowKit Go.Proofs.YtlaecigjnknhoaaDoor.base Go.Proofs.YtlaecigjnknhoaaDoor.num Go.Proofs.YtlaecigjnknhoaaDoor.bitnum Go.Proofs.YtlaecigjnknhoaaDoor.bitp Go.Proofs.YtlaecigjnknhoaaDoor.huffnum Go.Proofs.YtlaecigjnknhoaaDoor.huffp Go.Proofs.YtlaecigjnknhoaaDoor.infnum
set_option linter.unusedVariables false

/-- how long a slice is -/
def lenS : Value → Nat
  | .slice _ n _ => n
  | _ => 0
/-- the length that a symbol tells, behind l -/
def fill (k : Nat) (l : List Nat) : Nat := if k = 16 then l.getLast?.getD 0 else if k = 17 ∨ k = 18 then 0 else k
section
variable {c : List Nat} {n f U T p : Nat} {l : List Nat}
theorem rep_succ : rep c n (f + 1) l = if n < l.length then fail 12 else if n = l.length then give l else also (sym c) fun k =>
      if k = 16 then (match l.getLast? with
        | none => fail 12
        | some v => also (take 2) fun t => rep c n f (l ++ List.replicate (3 + t) v))
      else if k = 17 then also (take 3) fun t => rep c n f (l ++ List.replicate (3 + t) 0)
      else if k = 18 then also (take 7) fun t => rep c n f (l ++ List.replicate (11 + t) 0)
      else rep c n f (l ++ [k]) := rfl
theorem rep_over (h : n < l.length) : rep c n f l U T p = .error 12 := by
  cases f with
  | zero => rfl
  | succ f => rw [rep_succ, if_pos h]; rfl
theorem rep_all (h : l.length = n) : rep c n (f + 1) l U T p = .ok (l, p) := by
  rw [rep_succ, if_neg (by omega), if_pos h.symm]; rfl
theorem rep_sym {e : Nat} (h : l.length < n) (hs : sym c U T p = .error e) : rep c n (f + 1) l U T p = .error e := by
  rw [rep_succ, if_neg (by omega), if_neg (by omega), also_no hs]
theorem rep_none {p1 : Nat} (h : 0 < n) (hs : sym c U T p = .ok (16, p1)) : rep c n (f + 1) [] U T p = .error 12 := by
  rw [rep_succ, if_neg (by simp), if_neg (by simp; omega), also_ok hs]
  rfl
theorem rep_step {k p1 : Nat} (h : l.length < n) (hs : sym c U T p = .ok (k, p1)) (hk : ¬ (k = 16 ∧ l.length = 0)) (hp1 : p1 ≤ T) :
    rep c n (f + 1) l U T p = also (timesP k) (fun t => rep c n f (l ++ List.replicate t (fill k l))) U T p1 := by
  rw [rep_succ, if_neg (by omega), if_neg (by omega), also_ok hs]
  unfold timesP fill
  by_cases h16 : k = 16
  · rw [if_pos h16]
    simp only [if_pos h16]
    cases hl : l.getLast? with
    | none =>
      rw [List.getLast?_eq_none_iff] at hl
      exact absurd ⟨h16, by rw [hl]; rfl⟩ hk
    | some v =>
      rw [also_also]
      rfl
  · rw [if_neg h16]
    simp only [if_neg h16]
    by_cases h17 : k = 17
    · rw [if_pos h17, also_also]
      simp only [if_pos h17, if_pos (Or.inl h17)]
      rfl
    · rw [if_neg h17]
      simp only [if_neg h17]
      by_cases h18 : k = 18
      · rw [if_pos h18, also_also]
        simp only [if_pos h18, if_pos (Or.inr h18)]
        rfl
      · rw [if_neg h18, also_also]
        simp only [if_neg h18]
        have ht : take 0 U T p1 = .ok (0, p1) := by
          unfold take
          rw [if_pos (by omega), Nat.pow_zero, Nat.mod_one]; rfl
        rw [also_ok ht, also_give, if_neg (by omega)]
        rfl
end
theorem times_pos {k U T p t p2 : Nat} (h : timesP k U T p = .ok (t, p2)) : 1 ≤ t ∧ t ≤ 138 := by
  unfold timesP at h
  obtain ⟨a, m, ha, h⟩ := also_of h
  obtain ⟨ha, _⟩ := take_lt ha
  injection h with h
  injection h with h _
  have h7 : a < 128 := Nat.lt_of_lt_of_le ha (Nat.pow_le_pow_right (n := 2) (j := 7) (by omega) (by split <;> (try split) <;> (try split) <;> omega))
  split at h <;> (try split at h) <;> (try split at h) <;> omega
/-- so far l was told; what is still to come tells the whole -/
def RunR (c : List Nat) (n U T p : Nat) (l : List Nat) (p' : Nat) : Prop := ∃ f, n + 1 ≤ f + l.length ∧ rep c n (n + 1) [] U T p = rep c n f l U T p'
theorem RunR.start (c : List Nat) (n U T p : Nat) : RunR c n U T p [] p := ⟨n + 1, by simp, rfl⟩
theorem RunR.fuel {c l : List Nat} {n U T p p' : Nat} (h : RunR c n U T p l p') (hl : l.length ≤ n) : ∃ f, n ≤ f + l.length ∧ rep c n (n + 1) [] U T p = rep c n (f + 1) l U T p' := by
  obtain ⟨f, hf, h⟩ := h
  exact ⟨f - 1, by omega, by rw [h, show f - 1 + 1 = f by omega]⟩

theorem Turn.grow {S S' : List Nat} {w a b : World} {row : Option Nat} (h : Turn S S' w a) (k : a.grownBy b row) (hr : ∀ g, row = some g → w.heap.size ≤ g) : Turn S S' w b where
  os := k.os.trans h.os
  tape := k.tape.trans h.tape
  output := k.output.trans h.output
  size := Nat.le_trans h.size k.size
  block i hi hS := (k.block i (Nat.lt_of_lt_of_le hi h.size) (fun e => by have := hr i e.symm; omega)).trans (h.block i hi hS)
  sub := h.sub
/-- lengths and an error -/
def ListIs (w : World) (g : Nat) (v : V) (q : Nat) (bs : List UInt8) (p : Nat) (rl : List Nat) (r : Except Nat (List Nat × Nat)) (e : Ending) (w' : World) : Prop :=
  match r with
  | .ok (l, p') => ∃ A c, e = .returned (.tuple #[.slice A l.length c, .int .i64 0]) ∧ Own w' w.heap.size tInt A l.length c (nv l) ∧ (∀ x ∈ l, x ≤ 15) ∧ SrcIs w g v q bs p' rl w'
  | .error k => e = .returned (.tuple #[.slice none 0 0, .int .i64 (k : Nat)]) ∧ ∃ p', p ≤ p' ∧ SrcIs w g v q bs p' rl w'
section
variable {w : World} {g q p : Nat} {v : V} {bs : List UInt8} {rl : List Nat}
theorem Src.grown {w' : World} {row : Option Nat} (h : Src w g v q bs p rl) (k : w.grownBy w' row) (hr : ∀ b, row = some b → b ∉ g :: rl) : Src w' g v q bs p rl := by
  have hk : ∀ b ∈ g :: rl, row ≠ some b := fun b hb e => hr b e hb
  exact ⟨h.inf.old (k.block g h.inf.inside (fun e => hk g (by simp) e.symm)), h.bit, h.rdr.grown k (fun b hb => hk b (List.mem_cons_of_mem _ hb)), h.le, h.sm⟩
theorem Own.notIn {base : Nat} {A : Option Addr} {n c : Nat} {xs : List Value} (h : Own w base tInt A n c xs) (hS : Src w g v q bs p rl) : ∀ b, (Value.slice A n c).ownBlock = some b → b ∉ g :: rl :=
  fun b hb => hS.offTy (Own.ty h b hb) (by decide) (by decide) (by decide)
theorem Own.past {w' : World} {base : Nat} {A : Option Addr} {n c : Nat} {rl' : List Nat} {xs : List Value} (h : Own w base tInt A n c xs) (hS : Src w g v q bs p rl) (k : Turn (g :: rl) (g :: rl') w w') : Own w' base tInt A n c xs :=
  bitp.Own.turn h k fun b hb e => Own.notIn h hS b e hb
theorem Own.cellAt {base b off n c : Nat} {l : List Nat} (h : Own w base tInt (some ⟨b, off, none⟩) n c (nv l)) {j x : Nat} (hx : l[j]? = some x) : w.cell? ⟨b, off + j, none⟩ = some (iv (x : Nat)) := by
  have hn : l.length = n := by have := h.rd.1; rwa [List.length_map] at this
  obtain ⟨b', off', y, e, _, hy, hc⟩ := h.rd.at_ (enc := fun x : Nat => iv (x : Int)) (k := j) (by have := (List.getElem?_eq_some_iff.1 hx).1; omega)
  injection e with e
  injection e with e1 e2 _
  subst e1; subst e2
  rw [hx] at hy
  injection hy with hy
  subst hy
  exact hc
set_option maxHeartbeats 8000000 in
set_option maxRecDepth 100000 in
theorem takeLengths_any (h : Src w g v q bs p rl) {cc : Nat} {ls cbl : List Nat} (hC : CodeAt w cc ls cbl) (hF : Fit ls) (hls : ls.length = 19) (n : Nat) (hn : n ≤ 320) {r : Except Nat (List Nat × Nat)} (hr : rep ls n (n + 1) [] (num bs) (8 * bs.length) p = r) :
    Calls Tryd.prog 84 #[ptr g, ptr cc, .int .i64 n] w (ListIs w g v q bs p rl r) := by
  obtain ⟨i0, hi0, hz0, hz1, hz2⟩ := info_parts info_int
  have HR := Lib.hid hr
  have HC := Lib.hid hC
  clear hr hC
  go_enter Tryd.func84, Tryd.ntmps84
  go_wp2
  go_loopw [8] (fun s wr => ∃ (A : Option Addr) (m c : Nat) (l : List Nat) (pj : Nat) (rlj : List Nat), m ≤ n ∧ s = .slice A m c ∧ Hid (l.length = m) ∧ Hid (Own wr w.heap.size tInt A m c (nv l)) ∧ Src wr g v q bs pj rlj ∧ Hid (RunR ls n (num bs) (8 * bs.length) p l pj) ∧ Hid (∀ x ∈ l, x ≤ 15) ∧ Hid (Turn (g :: rl) (g :: rlj) w wr) ∧ p ≤ pj) (fun s _ => n - lenS s)
  case atStart => exact ⟨none, 0, 0, [], p, rl, by omega, rfl, rfl, Own.nil _ _ _, h, RunR.start _ _ _ _ _, by simp [Hid], Turn.refl _ _, Nat.le_refl _⟩
  case round =>
    obtain ⟨A, m, c, l, pj, rlj, hm, rfl, hl, hO, hS, hrun, h15, hT, hpp⟩ := hrel
    obtain ⟨f, hf, hrep⟩ := hrun.out.fuel (by rw [hl.out]; exact hm)
    have HREP := Lib.hid hrep
    have hCr := CodeAt.src HC.out h hT.out
    have hc2 := hS.bits2
    clear hrep
    by_cases hlt : m < n
    · cases hs : sym ls (num bs) (8 * bs.length) pj with
      | error e1 =>
        have hr2 : r = .error e1 := by rw [← HR.out, HREP.out, rep_sym (by rw [hl.out]; exact hlt) hs]
        subst hr2
        have hne := not_zero (infnum.Good.sym ls) hs
        go_wp2_with (go_at_call 56; refine (next_src hS hCr hF hs).mono ?_; rintro e w1 hN; obtain ⟨rfl, rl1, hS1, hT1⟩ := hN.no)
        go_ret2
        exact ⟨rfl, pj, hpp, rl1, hS1, hT.out.trans hT1⟩
      | ok x =>
        obtain ⟨k, p1⟩ := x
        obtain ⟨hk19, hpj1⟩ := sym_lt hs
        rw [hls] at hk19
        have hp1 := (infnum.Good.sym ls).bd _ _ _ _ _ (by omega) hS.le hs
        by_cases hk0 : k = 16 ∧ m = 0
        · obtain ⟨rfl, rfl⟩ := hk0
          have hl0 : l = [] := List.eq_nil_of_length_eq_zero hl.out
          have hr2 : r = .error 12 := by rw [← HR.out, HREP.out, hl0, rep_none hlt hs]
          subst hr2
          go_wp2_with (go_at_call 56; refine (next_src hS hCr hF hs).mono ?_; rintro e w1 hN; obtain ⟨rfl, rl1, hS1, hT1⟩ := hN.ok; have hO1 := Own.past hO.out hS hT1)
          go_ret2
          exact ⟨rfl, p1, by omega, rl1, hS1, hT.out.trans hT1⟩
        · have hstep := rep_step (f := f) (c := ls) (l := l) (by rw [hl.out]; exact hlt) hs (by rw [hl.out]; exact hk0) hp1
          have HSTEP := Lib.hid hstep
          have HLE := Lib.hid hp1
          have HPJ := Lib.hid hpj1
          clear hstep hp1 hpj1
          have hway : (¬ (k : Int) = 16) ∨ (k = 16 ∧ ¬ (m : Int) = 0) := by omega
          cases ht : timesP k (num bs) (8 * bs.length) p1 with
          | error e2 =>
            have hr2 : r = .error e2 := by rw [← HR.out, HREP.out, HSTEP.out, also_no ht]
            subst hr2
            have hne := not_zero (infnum.Good.times' k) ht
            rcases hway with h16 | ⟨rfl, hm0⟩
            all_goals
              go_wp2_with (first | (go_at_call 56; refine (next_src hS hCr hF hs).mono ?_; rintro e w1 hN; obtain ⟨rfl, rl1, hS1, hT1⟩ := hN.ok; have hO1 := Own.past hO.out hS hT1) | (go_at_call 104; refine (takeTimes_any hS1 _ ht).mono ?_; rintro e w2 hN2; obtain ⟨rfl, rl2, hS2, hT2⟩ := hN2.no))
              go_ret2
              exact ⟨rfl, p1, by have := HPJ.out; omega, rl2, hS2, (hT.out.trans hT1).trans hT2⟩
          | ok x =>
            obtain ⟨t, p2⟩ := x
            obtain ⟨ht1, ht138⟩ := times_pos ht
            have hp2 := ((infnum.Good.times' k).loc _ _ _ _ _ ht).1
            have hnext : rep ls n (n + 1) [] (num bs) (8 * bs.length) p = rep ls n f (l ++ List.replicate t (fill k l)) (num bs) (8 * bs.length) p2 := by
              rw [HREP.out, HSTEP.out, also_ok ht]
            have HNEXT := Lib.hid hnext
            clear hnext
            by_cases hov : n < m + t
            · have hr2 : r = .error 12 := by rw [← HR.out, HNEXT.out, rep_over (by rw [List.length_append, List.length_replicate, hl.out]; exact hov)]
              subst hr2
              have hoi : (m : Int) + (t : Int) > (n : Int) := by omega
              rcases hway with h16 | ⟨rfl, hm0⟩
              all_goals
                go_wp2_with (first | (go_at_call 56; refine (next_src hS hCr hF hs).mono ?_; rintro e w1 hN; obtain ⟨rfl, rl1, hS1, hT1⟩ := hN.ok; have hO1 := Own.past hO.out hS hT1) | (go_at_call 104; refine (takeTimes_any hS1 _ ht).mono ?_; rintro e w2 hN2; obtain ⟨rfl, rl2, hS2, hT2⟩ := hN2.ok; have hO2 := Own.past hO1 hS1 hT2))
                go_ret2
                exact ⟨rfl, p2, by have := HPJ.out; omega, rl2, hS2, (hT.out.trans hT1).trans hT2⟩
            · have hoi : ¬ (m : Int) + (t : Int) > (n : Int) := by omega
              have hmt : m + t ≤ n := by omega
              have HP : Hid (p ≤ p2) := by show p ≤ p2; have := HPJ.out; omega
              by_cases hk16 : k = 16
              · subst hk16
                obtain ⟨m1, hm1⟩ : ∃ m1, m = m1 + 1 := ⟨m - 1, by omega⟩
                have hmi : (m : Int) - 1 = (m1 : Int) := by omega
                have hmz : ¬ (m : Int) = 0 := by omega
                have HM1 := Lib.hid hm1
                obtain ⟨b, off, x, rfl, hb, hy, hcy⟩ := hO.out.rd.at_ (enc := fun x : Nat => iv (x : Int)) (k := m1) (by omega)
                have hXle : x ≤ 15 := h15.out x (List.mem_of_getElem? hy)
                have hfill : fill 16 l = x := by
                  unfold fill
                  rw [if_pos rfl, List.getLast?_eq_getElem?, hl.out, show m - 1 = m1 by omega, hy]; rfl
                have HY := Lib.hid hy
                clear hway hk0 hcy hy hm1
                have hx15 : ∀ y ∈ l ++ List.replicate t x, y ≤ 15 := fun y hy => by
                  rcases List.mem_append.1 hy with hy | hy
                  · exact h15.out y hy
                  · rw [List.mem_replicate] at hy
                    rw [hy.2]; exact hXle
                have HX15 := Lib.hid hx15
                have hrunN : RunR ls n (num bs) (8 * bs.length) p (l ++ List.replicate t x) p2 := ⟨f, by rw [List.length_append, List.length_replicate]; omega, by have := HNEXT.out; rwa [hfill] at this⟩
                have HRUN := Lib.hid hrunN
                have HT138 := Lib.hid (show 1 ≤ t from ht1)
                clear hx15 hrunN hfill hXle
                go_wp2_with (first | (go_at_call 56; refine (next_src hS hCr hF hs).mono ?_; rintro e w1 hN; obtain ⟨rfl, rl1, hS1, hT1⟩ := hN.ok; have hO1 := Own.past hO.out hS hT1) | (go_at_call 104; refine (takeTimes_any hS1 _ ht).mono ?_; rintro e w2 hN2; obtain ⟨rfl, rl2, hS2, hT2⟩ := hN2.ok; have hO2 := Own.past hO1 hS1 hT2; have hcx := Own.cellAt hO2 HY.out))
                have HT3 := Lib.hid ((hT.out.trans hT1).trans hT2)
                go_loopw [8, 64] (fun s i wi => ∃ (A' : Option Addr) (c' j : Nat), j ≤ t ∧ s = .slice A' (m + j) c' ∧ i = .int .i64 (j : Nat) ∧ Own wi w.heap.size tInt A' (m + j) c' (nv (l ++ List.replicate j x)) ∧ Src wi g v q bs p2 rl2 ∧ Turn (g :: rl) (g :: rl2) w wi) (fun _ i _ => t - (intOf i).toNat)
                case atStart => exact ⟨(some ⟨b, off, none⟩), c, 0, by omega, rfl, rfl, by simpa using hO2, hS2, HT3.out⟩
                case round =>
                  obtain ⟨A', c', j, hj, rfl, rfl, hOi, hSi, hTi⟩ := hrel
                  by_cases hjt : j < t
                  · go_wp2_with (at_builtin; refine wpList_append_rd _ rfl (.tmp 66) (.tmp 68) 42 rfl w.heap.size 3 i0 _ 8 Tryd.underlying42 hi0 hz0 hz1 hz2 rfl A' (m + j) c' (nv (l ++ List.replicate j x)) rfl (hOi.fresh (Fresh.alloc _ _)) (wr.heap.size + 1) (some ⟨wr.heap.size, 0, none⟩) 1 1 [.int .i64 (x : Nat)] rfl (Rd.lit wr #[.int .i64 (x : Nat)] 3) (one_one _ _) (by unfold maxLen; omega) (by omega) (by have := hTi.size; simp; omega) ?_; intro A3 c3 w3 hO3 hg3)
                    go_roundw
                    case rel =>
                      have f1 := Fresh.alloc wr (.cells #[.int .i64 (x : Nat)] 3)
                      have s3 := (hSi.fresh f1).grown hg3 (Own.notIn (hOi.fresh f1) (hSi.fresh f1))
                      have t3 := Turn.grow (hTi.trans (Turn.fresh f1)) hg3 hOi.row
                      first | refine ⟨A3, c3, j + 1, by omega, rfl, by go_num, ?_, s3, t3⟩ | refine ⟨_, A3, c3, j + 1, by omega, rfl, by go_num, ?_, s3, t3⟩
                      have e : nv (l ++ List.replicate j x) ++ [.int .i64 (x : Nat)] = nv (l ++ List.replicate (j + 1) x) := by
                        rw [List.replicate_succ', ← List.append_assoc, nv, nv, List.map_append (l₂ := [x])]
                        rfl
                      rw [e] at hO3
                      exact hO3
                    case measure => simp [intOf]; omega
                  · have hjt2 : j = t := by omega
                    subst hjt2
                    go_wp2
                    go_roundw
                    case rel => first | exact ⟨A', m + j, c', l ++ List.replicate j x, p2, rl2, by omega, rfl, by show _ = _; rw [List.length_append, List.length_replicate, hl.out], hOi, hSi, HRUN.out, HX15.out, hTi, by have := HP.out; omega⟩ | exact ⟨_, A', m + j, c', l ++ List.replicate j x, p2, rl2, by omega, rfl, by show _ = _; rw [List.length_append, List.length_replicate, hl.out], hOi, hSi, HRUN.out, HX15.out, hTi, by have := HP.out; omega⟩
                    case measure => simp [lenS]; have := HT138.out; omega
              · have hki : ¬ (k : Int) = 16 := by omega
                have hb16 : ((k : Int) == 16) = false := by simpa using hki
                have HB16 := Lib.hid hb16
                clear hb16
                by_cases hk17 : k = 17 ∨ k = 18
                · have hkj : decide ((k : Int) > 16) = true := decide_eq_true (by omega)
                  have hXle : 0 ≤ 15 := by omega
                  have hfill : fill k l = 0 := by unfold fill; rw [if_neg hk16, if_pos hk17]
                  clear hway hk0 hk17 hk16
                  have hx15 : ∀ y ∈ l ++ List.replicate t 0, y ≤ 15 := fun y hy => by
                    rcases List.mem_append.1 hy with hy | hy
                    · exact h15.out y hy
                    · rw [List.mem_replicate] at hy
                      rw [hy.2]; exact hXle
                  have HX15 := Lib.hid hx15
                  have hrunN : RunR ls n (num bs) (8 * bs.length) p (l ++ List.replicate t 0) p2 := ⟨f, by rw [List.length_append, List.length_replicate]; omega, by have := HNEXT.out; rwa [hfill] at this⟩
                  have HRUN := Lib.hid hrunN
                  have HT138 := Lib.hid (show 1 ≤ t from ht1)
                  clear hx15 hrunN hfill hXle
                  go_wp2_with (first | (go_at_call 56; refine (next_src hS hCr hF hs).mono ?_; rintro e w1 hN; obtain ⟨rfl, rl1, hS1, hT1⟩ := hN.ok; have hO1 := Own.past hO.out hS hT1) | (go_at_call 104; refine (takeTimes_any hS1 _ ht).mono ?_; rintro e w2 hN2; obtain ⟨rfl, rl2, hS2, hT2⟩ := hN2.ok; have hO2 := Own.past hO1 hS1 hT2))
                  have HT3 := Lib.hid ((hT.out.trans hT1).trans hT2)
                  rw [HB16.out]
                  clear hkj hki
                  go_loopw [8, 64] (fun s i wi => ∃ (A' : Option Addr) (c' j : Nat), j ≤ t ∧ s = .slice A' (m + j) c' ∧ i = .int .i64 (j : Nat) ∧ Own wi w.heap.size tInt A' (m + j) c' (nv (l ++ List.replicate j 0)) ∧ Src wi g v q bs p2 rl2 ∧ Turn (g :: rl) (g :: rl2) w wi) (fun _ i _ => t - (intOf i).toNat)
                  case atStart => exact ⟨A, c, 0, by omega, rfl, rfl, by simpa using hO2, hS2, HT3.out⟩
                  case round =>
                    obtain ⟨A', c', j, hj, rfl, rfl, hOi, hSi, hTi⟩ := hrel
                    by_cases hjt : j < t
                    · go_wp2_with (at_builtin; refine wpList_append_rd _ rfl (.tmp 66) (.tmp 68) 42 rfl w.heap.size 3 i0 _ 8 Tryd.underlying42 hi0 hz0 hz1 hz2 rfl A' (m + j) c' (nv (l ++ List.replicate j 0)) rfl (hOi.fresh (Fresh.alloc _ _)) (wr.heap.size + 1) (some ⟨wr.heap.size, 0, none⟩) 1 1 [.int .i64 (0 : Nat)] rfl (Rd.lit wr #[.int .i64 (0 : Nat)] 3) (one_one _ _) (by unfold maxLen; omega) (by omega) (by have := hTi.size; simp; omega) ?_; intro A3 c3 w3 hO3 hg3)
                      go_roundw
                      case rel =>
                        have f1 := Fresh.alloc wr (.cells #[.int .i64 (0 : Nat)] 3)
                        have s3 := (hSi.fresh f1).grown hg3 (Own.notIn (hOi.fresh f1) (hSi.fresh f1))
                        have t3 := Turn.grow (hTi.trans (Turn.fresh f1)) hg3 hOi.row
                        first | refine ⟨A3, c3, j + 1, by omega, rfl, by go_num, ?_, s3, t3⟩ | refine ⟨_, A3, c3, j + 1, by omega, rfl, by go_num, ?_, s3, t3⟩
                        have e : nv (l ++ List.replicate j 0) ++ [.int .i64 (0 : Nat)] = nv (l ++ List.replicate (j + 1) 0) := by
                          rw [List.replicate_succ', ← List.append_assoc, nv, nv, List.map_append (l₂ := [0])]
                          rfl
                        rw [e] at hO3
                        exact hO3
                      case measure => simp [intOf]; omega
                    · have hjt2 : j = t := by omega
                      subst hjt2
                      go_wp2
                      go_roundw
                      case rel => first | exact ⟨A', m + j, c', l ++ List.replicate j 0, p2, rl2, by omega, rfl, by show _ = _; rw [List.length_append, List.length_replicate, hl.out], hOi, hSi, HRUN.out, HX15.out, hTi, by have := HP.out; omega⟩ | exact ⟨_, A', m + j, c', l ++ List.replicate j 0, p2, rl2, by omega, rfl, by show _ = _; rw [List.length_append, List.length_replicate, hl.out], hOi, hSi, HRUN.out, HX15.out, hTi, by have := HP.out; omega⟩
                      case measure => simp [lenS]; have := HT138.out; omega
                · have hkj : decide ((k : Int) > 16) = false := decide_eq_false (by omega)
                  have hXle : k ≤ 15 := by omega
                  have hfill : fill k l = k := by unfold fill; rw [if_neg hk16, if_neg hk17]
                  clear hway hk0 hk17 hk16
                  have hx15 : ∀ y ∈ l ++ List.replicate t k, y ≤ 15 := fun y hy => by
                    rcases List.mem_append.1 hy with hy | hy
                    · exact h15.out y hy
                    · rw [List.mem_replicate] at hy
                      rw [hy.2]; exact hXle
                  have HX15 := Lib.hid hx15
                  have hrunN : RunR ls n (num bs) (8 * bs.length) p (l ++ List.replicate t k) p2 := ⟨f, by rw [List.length_append, List.length_replicate]; omega, by have := HNEXT.out; rwa [hfill] at this⟩
                  have HRUN := Lib.hid hrunN
                  have HT138 := Lib.hid (show 1 ≤ t from ht1)
                  clear hx15 hrunN hfill hXle
                  go_wp2_with (first | (go_at_call 56; refine (next_src hS hCr hF hs).mono ?_; rintro e w1 hN; obtain ⟨rfl, rl1, hS1, hT1⟩ := hN.ok; have hO1 := Own.past hO.out hS hT1) | (go_at_call 104; refine (takeTimes_any hS1 _ ht).mono ?_; rintro e w2 hN2; obtain ⟨rfl, rl2, hS2, hT2⟩ := hN2.ok; have hO2 := Own.past hO1 hS1 hT2))
                  have HT3 := Lib.hid ((hT.out.trans hT1).trans hT2)
                  rw [HB16.out]
                  clear hkj hki
                  go_loopw [8, 64] (fun s i wi => ∃ (A' : Option Addr) (c' j : Nat), j ≤ t ∧ s = .slice A' (m + j) c' ∧ i = .int .i64 (j : Nat) ∧ Own wi w.heap.size tInt A' (m + j) c' (nv (l ++ List.replicate j k)) ∧ Src wi g v q bs p2 rl2 ∧ Turn (g :: rl) (g :: rl2) w wi) (fun _ i _ => t - (intOf i).toNat)
                  case atStart => exact ⟨A, c, 0, by omega, rfl, rfl, by simpa using hO2, hS2, HT3.out⟩
                  case round =>
                    obtain ⟨A', c', j, hj, rfl, rfl, hOi, hSi, hTi⟩ := hrel
                    by_cases hjt : j < t
                    · go_wp2_with (at_builtin; refine wpList_append_rd _ rfl (.tmp 66) (.tmp 68) 42 rfl w.heap.size 3 i0 _ 8 Tryd.underlying42 hi0 hz0 hz1 hz2 rfl A' (m + j) c' (nv (l ++ List.replicate j k)) rfl (hOi.fresh (Fresh.alloc _ _)) (wr.heap.size + 1) (some ⟨wr.heap.size, 0, none⟩) 1 1 [.int .i64 (k : Nat)] rfl (Rd.lit wr #[.int .i64 (k : Nat)] 3) (one_one _ _) (by unfold maxLen; omega) (by omega) (by have := hTi.size; simp; omega) ?_; intro A3 c3 w3 hO3 hg3)
                      go_roundw
                      case rel =>
                        have f1 := Fresh.alloc wr (.cells #[.int .i64 (k : Nat)] 3)
                        have s3 := (hSi.fresh f1).grown hg3 (Own.notIn (hOi.fresh f1) (hSi.fresh f1))
                        have t3 := Turn.grow (hTi.trans (Turn.fresh f1)) hg3 hOi.row
                        first | refine ⟨A3, c3, j + 1, by omega, rfl, by go_num, ?_, s3, t3⟩ | refine ⟨_, A3, c3, j + 1, by omega, rfl, by go_num, ?_, s3, t3⟩
                        have e : nv (l ++ List.replicate j k) ++ [.int .i64 (k : Nat)] = nv (l ++ List.replicate (j + 1) k) := by
                          rw [List.replicate_succ', ← List.append_assoc, nv, nv, List.map_append (l₂ := [k])]
                          rfl
                        rw [e] at hO3
                        exact hO3
                      case measure => simp [intOf]; omega
                    · have hjt2 : j = t := by omega
                      subst hjt2
                      go_wp2
                      go_roundw
                      case rel => first | exact ⟨A', m + j, c', l ++ List.replicate j k, p2, rl2, by omega, rfl, by show _ = _; rw [List.length_append, List.length_replicate, hl.out], hOi, hSi, HRUN.out, HX15.out, hTi, by have := HP.out; omega⟩ | exact ⟨_, A', m + j, c', l ++ List.replicate j k, p2, rl2, by omega, rfl, by show _ = _; rw [List.length_append, List.length_replicate, hl.out], hOi, hSi, HRUN.out, HX15.out, hTi, by have := HP.out; omega⟩
                      case measure => simp [lenS]; have := HT138.out; omega
    · have hj2 : m = n := by omega
      subst hj2
      have hr2 : r = .ok (l, pj) := by rw [← HR.out, HREP.out, rep_all hl.out]
      subst hr2
      go_wp2
      go_ret2
      have e := hl.out
      subst e
      exact ⟨A, c, rfl, hO.out, h15.out, rlj, hS, hT.out⟩
end
end Go.Proofs.YtlaecigjnknhoaaDoor.infp
