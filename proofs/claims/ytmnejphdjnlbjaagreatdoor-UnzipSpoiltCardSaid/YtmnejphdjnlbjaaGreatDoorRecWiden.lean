/-
  record's widen: my own text.
-/
import Derived.Test.YtmnejphdjnlbjaaGreatDoorRecSizes
namespace Go.Proofs.YtmnejphdjnlbjaaGreatDoor.recp
open Go.RowKit Go.Proofs.YtmnejphdjnlbjaaGreatDoor.base Go.Proofs.YtmnejphdjnlbjaaGreatDoor.num Go.Proofs.YtmnejphdjnlbjaaGreatDoor.word Go.Proofs.YtmnejphdjnlbjaaGreatDoor.recn
set_option linter.unusedVariables false
/-- fields are set -/
def upd (cs : List Value) : List Nat → List Nat → List Value
  | f :: fs, v :: vs => upd (cs.set f (iv (v : Nat))) fs vs
  | _, _ => cs
theorem upd_len (cs : List Value) (fs vs : List Nat) : (upd cs fs vs).length = cs.length := by
  induction fs generalizing cs vs with
  | nil => rfl
  | cons f fs ih => cases vs with
    | nil => rfl
    | cons v vs => rw [upd, ih, List.length_set]
theorem upd_other (cs : List Value) (fs vs : List Nat) (i : Nat) (h : i ∉ fs) : (upd cs fs vs)[i]? = cs[i]? := by
  induction fs generalizing cs vs with
  | nil => rfl
  | cons f fs ih => cases vs with
    | nil => rfl
    | cons v vs =>
      rw [upd, ih _ _ (fun h' => h (List.mem_cons_of_mem _ h')), List.getElem?_set]
      rw [if_neg (fun e => h (by simp [e]))]
theorem upd_snoc (cs : List Value) (fs vs : List Nat) (f v : Nat) (h : fs.length = vs.length) : upd cs (fs ++ [f]) (vs ++ [v]) = (upd cs fs vs).set f (iv (v : Nat)) := by
  induction fs generalizing cs vs with
  | nil => cases vs with
    | nil => rfl
    | cons v vs => simp at h
  | cons g fs ih => cases vs with
    | nil => simp at h
    | cons u vs =>
      rw [List.cons_append, List.cons_append, upd, upd, ih _ _ (by simpa using h)]
/-- a field is set to what it holds -/
theorem set_same (cs : List Value) (i : Nat) (v : Value) (h : cs[i]? = some v) : cs.set i v = cs := by
  obtain ⟨hi, rfl⟩ := List.getElem?_eq_some_iff.1 h
  exact List.set_getElem_self hi
/-- the answer of widen -/
def WidenIs (g : Nat) (cs : List Value) (fs l : List Nat) (r : Option (List Nat)) (w : World) (e : Ending) (w' : World) : Prop :=
  Turn [g] [g] w w' ∧ match r with
  | none => e = .returned (.tuple #[.bool false, .int .i64 4]) ∧ ∃ cs', cs'.length = cs.length ∧ Bk w' g tHead cs'
  | some vs => e = .returned (.tuple #[.bool (l.any isOnes), .int .i64 0]) ∧ Bk w' g tHead (upd cs fs vs)
/-- the relation of the loop -/
structure WidenAt (g : Nat) (cs : List Value) (fs l : List Nat) (R : Option (List Nat)) (w : World) (j N : Nat) (A : Option Addr) (c : Nat) (t : List UInt8) (vs : List Nat) (wr : World) : Prop where
  rd : RdA wr [g] A N (t.map bv)
  cap : N ≤ c
  max : c ≤ maxLen
  len : N ≤ 65535
  lv : vs.length = j
  bk : Bk wr g tHead (upd cs (fs.take j) vs)
  turn : Turn [g] [g] w wr
  same : (wd (l.drop j) t).map (vs ++ ·) = R
theorem fits6 (V : Int) (hV : -9223372036854775808 ≤ V ∧ V ≤ 9223372036854775807) (b : Bool) (hb : decide (0 ≤ V ∧ V < 281474976710656) = b) (w : World) (g : Nat) (hg : g = w.heap.size) :
    Calls Tryz.prog 39 #[.int .i64 6, .slice (some ⟨g, 0, none⟩) 1 1] (w.alloc (.cells #[.int .i64 V] tInt)) fun e w' => e = .returned (.bool b) ∧ (w.alloc (.cells #[.int .i64 V] tInt)) = w' := by
  subst hg
  refine fits_is _ 1 1 [V] 6 _ _ b (Rd.lit w #[.int .i64 V] tInt) (by unfold maxLen; omega) ?_ ?_
  · intro z hz
    rw [List.mem_singleton] at hz
    subst hz
    exact WalkArith.wf_i64 hV
  · show fits 6 [V] = b
    rw [fits, List.all_cons, List.all_nil, Bool.and_true]
    exact hb
theorem wd_same (l : List Nat) (t : List UInt8) (j z : Nat) (h : l[j]? = some z) (hz : z ≠ 4294967295) : wd (l.drop j) t = (wd (l.drop (j + 1)) t).map (z :: ·) := by
  obtain ⟨hj, rfl⟩ := List.getElem?_eq_some_iff.1 h
  rw [List.drop_eq_getElem_cons hj, wd, if_neg hz]
theorem wd_ones (l : List Nat) (t : List UInt8) (j : Nat) (h : l[j]? = some 4294967295) : wd (l.drop j) t = if t.length < 8 then none else if 281474976710656 ≤ nm t 0 8 then none else (wd (l.drop (j + 1)) (t.drop 8)).map (nm t 0 8 :: ·) := by
  obtain ⟨hj, e⟩ := List.getElem?_eq_some_iff.1 h
  rw [List.drop_eq_getElem_cons hj, e, wd, if_pos rfl]
theorem any_snoc (l : List Nat) (j z : Nat) (h : l[j]? = some z) : (l.take (j + 1)).any isOnes = ((l.take j).any isOnes || isOnes z) := by
  rw [take_snoc _ _ _ h, List.any_append]; simp
theorem nm8_lt (xs : List UInt8) (p : Nat) : nm xs p 8 < 18446744073709551616 := by have := nm_lt xs p 8; omega
theorem notin_take {fs : List Nat} {j f : Nat} (h : fs.Nodup) (hf : fs[j]? = some f) : f ∉ fs.take j := by
  intro hm
  obtain ⟨i, hi, e⟩ := List.mem_iff_getElem.1 hm
  rw [List.length_take] at hi
  rw [List.getElem_take] at e
  obtain ⟨hj, e'⟩ := List.getElem?_eq_some_iff.1 hf
  exact List.pairwise_iff_getElem.1 h i j (by omega) hj (by omega) (e.trans e'.symm)
section
variable {g : Nat} {cs : List Value} {fs l : List Nat} {R : Option (List Nat)} {w : World} {j N : Nat} {A : Option Addr} {c : Nat} {t : List UInt8} {vs : List Nat} {wr w' : World}
theorem WidenAt.step (h : WidenAt g cs fs l R w j N A c t vs wr) {f z : Nat} (hf : fs[j]? = some f) (hz : l[j]? = some z) (hne : z ≠ 4294967295) (hnd : fs.Nodup) (hc : cs[f]? = some (iv (z : Nat))) (k : Fresh wr w') :
    WidenAt g cs fs l R w (j + 1) N A c t (vs ++ [z]) w' where
  rd := h.rd.fresh k
  cap := h.cap
  max := h.max
  len := h.len
  lv := by simp [h.lv]
  bk := by
    have hj := (List.getElem?_eq_some_iff.1 hf).1
    rw [take_snoc _ _ _ hf, upd_snoc _ _ _ _ _ (by rw [List.length_take, h.lv]; omega), set_same _ f]
    · exact h.bk.fresh k
    · rw [upd_other, hc]
      exact notin_take hnd hf
  turn := h.turn.trans (Turn.fresh k)
  same := by
    rw [← h.same, wd_same l t j z hz hne, Option.map_map]
    congr 1
    funext x
    simp
theorem WidenAt.told (h : WidenAt g cs fs l R w j N A c t vs wr) {f U : Nat} (hf : fs[j]? = some f) (hz : l[j]? = some 4294967295) (hU : nm t 0 8 = U) (hs : U < 281474976710656) (hN : 8 ≤ N) (hl : t.length = N)
    {N' c' : Nat} {A' : Option Addr} (hT : Turn [g] [g] wr w') (hrd : RdA w' [g] A' N' ((t.drop 8).map bv)) (hb : Bk w' g tHead ((upd cs (fs.take j) vs).set f (iv (U : Nat)))) (hc : N' ≤ c') (hm : c' ≤ maxLen) (hN' : N' ≤ N) :
    WidenAt g cs fs l R w (j + 1) N' A' c' (t.drop 8) (vs ++ [U]) w' where
  rd := hrd
  cap := hc
  max := hm
  len := by have := h.len; omega
  lv := by simp [h.lv]
  bk := by
    have hj := (List.getElem?_eq_some_iff.1 hf).1
    rw [take_snoc _ _ _ hf, upd_snoc _ _ _ _ _ (by rw [List.length_take, h.lv]; omega)]
    exact hb
  turn := h.turn.trans hT
  same := by
    rw [← h.same, wd_ones l t j hz, if_neg (by omega), hU, if_neg (by omega), Option.map_map]
    congr 1
    funext x
    simp
end
set_option maxHeartbeats 4000000 in
theorem widen_any (A : Option Addr) (n c : Nat) (xs : List UInt8) (g : Nat) (cs : List Value) (fs l : List Nat) (m d : Nat) (D : Option Addr) (w : World) (hr : RdA w [g] A n (xs.map bv)) (hc : n ≤ c) (hm : c ≤ maxLen) (hn : n ≤ 65535)
    (hg : Bk w g tHead cs) (hd : RdA w [g] D m ((fs.map fun f => (⟨g, f, none⟩ : Addr)).map ptrA)) (hnd : fs.Nodup) (hl : l.length = m) (hmB : m ≤ 8) (hcs : ∀ (i f z : Nat), fs[i]? = some f → l[i]? = some z → cs[f]? = some (iv (z : Nat))) :
    Calls Tryz.prog 45 #[.slice A n c, .slice D m d] w (WidenIs g cs fs l (widn xs l) w) := by
  have hlf : fs.length = m := by have := hd.1; simpa using this
  have hsz := sizes_any A n c xs [g] w hr hc hm hn (by intro i hi; simp at hi; subst hi; exact hg.inside)
  have HSZ := Lib.hid hsz
  have HG := Lib.hid hg
  have HD := Lib.hid hd
  have HND := Lib.hid hnd
  have HL := Lib.hid hl
  have HLF := Lib.hid hlf
  have HCS := Lib.hid hcs
  clear hsz hg hd hnd hl hlf hcs hr
  have hO : ∀ W, Calls Tryz.prog 40 #[.int .i64 4] W fun e w' => e = .returned (.int .i64 4294967295) ∧ w' = W := fun W => (ones4 W).mono fun _ _ ⟨h1, h2⟩ => ⟨h1, h2.symm⟩
  have HO := Lib.hid hO
  clear hO
  cases hit : items xs false [] with
  | none =>
    have hres : widn xs l = none := by unfold widn; rw [hit]; rfl
    rw [hit] at HSZ
    rw [hres]
    go_enter Tryz.func45, Tryz.ntmps45
    go_wp2_with (go_at_call 57; (refine HSZ.out.mono ?_); rintro e w1 ⟨hf1, hE⟩; simp only at hE; subst hE)
    go_ret2
    exact ⟨Turn.fresh hf1, rfl, cs, rfl, HG.out.fresh hf1⟩
  | some f =>
    have hres : widn xs l = wd l f := by unfold widn; rw [hit]; rfl
    rw [hit] at HSZ
    rw [hres]
    have HRES := Lib.hid hit
    clear hres hit
    go_enter Tryz.func45, Tryz.ntmps45
    go_wp2_with (go_at_call 57; (refine HSZ.out.mono ?_); rintro e w1 ⟨hf1, A1, c1, rfl, hc1, hm1, hn1, hr1⟩; have HF1 := Lib.hid hf1; have HR1 := Lib.hid hr1; have HM1 := Lib.hid hm1; clear hf1 hr1 hm1)
    have hstart : WidenAt g cs fs l (wd l f) w 0 f.length A1 c1 f [] w1 := ⟨HR1.out, hc1, HM1.out, hn1, rfl, HG.out.fresh HF1.out, Turn.fresh HF1.out, by simp⟩
    have HST := Lib.hid hstart
    clear hstart
    go_loopw [6, 8, 20] (fun v b i wr => ∃ (j N c' : Nat) (A' : Option Addr) (t : List UInt8) (vs : List Nat), j ≤ m ∧ i = .int .i64 j ∧ v = .slice A' N c' ∧ b = .bool ((l.take j).any isOnes) ∧ Hid (WidenAt g cs fs l (wd l f) w j N A' c' t vs wr)) (fun _ _ i _ => m - (intOf i).toNat)
    case atStart => exact ⟨0, f.length, c1, A1, f, [], by omega, rfl, rfl, rfl, HST⟩
    case round =>
      obtain ⟨j, N, c', A', t, vs, hj, rfl, rfl, rfl, hAt⟩ := hrel
      by_cases hlt : j < m
      · obtain ⟨fj, hfj⟩ : ∃ fj, fs[j]? = some fj := ⟨fs[j]'(by have := HLF.out; omega), List.getElem?_eq_getElem _⟩
        obtain ⟨z, hz⟩ : ∃ z, l[j]? = some z := ⟨l[j]'(by have := HL.out; omega), List.getElem?_eq_getElem _⟩
        have hcz := HCS.out j fj z hfj hz
        obtain ⟨b, off, rfl, hb, hbS⟩ : ∃ b off, D = some ⟨b, off, none⟩ ∧ b < w.heap.size ∧ b ∉ [g] := by
          obtain ⟨b, off, e, hb, hS, _⟩ := HD.out.2 (by omega)
          exact ⟨b, off, e, hb, hS⟩
        have hcell : wr.cell? ⟨b, off + j, none⟩ = some (ptrA ⟨g, fj, none⟩) := by
          obtain ⟨b', off', e, _, _, hc'⟩ := (HD.out.turn hAt.out.turn).2 (by omega)
          injection e with e; injection e with e1 e2 _; subst e1; subst e2
          exact hc' j _ (by rw [List.getElem?_map, List.getElem?_map, hfj]; rfl)
        have hfc : wr.cell? ⟨g, fj, none⟩ = some (iv (z : Nat)) := hAt.out.bk.cell (by rw [upd_other _ _ _ _ (notin_take HND.out hfj)]; exact hcz)
        have hsn := any_snoc l j z hz
        have hlen := hAt.out.len
        have hlt8 : t.length = N := by have := hAt.out.rd.1; rwa [List.length_map] at this
        by_cases h1 : z = 4294967295
        · subst h1
          have ho : isOnes 4294967295 = true := rfl
          rw [ho, Bool.or_true] at hsn
          have hon := wd_ones l t j hz
          rw [hlt8] at hon
          have hbk := hAt.out.bk
          have hcap := hAt.out.cap
          have hmax := hAt.out.max
          have hrd := hAt.out.rd
          have hs := hAt.out.same
          rw [hon] at hs
          by_cases hN8 : N < 8
          · rw [if_pos hN8] at hs
            have HS := Lib.hid hs
            have HT := Lib.hid hAt.out.turn
            have HBK := Lib.hid hbk
            clear hsn hfj hz hcz ho hlt8 hon hbk hmax hrd hs hAt
            generalize hQ : (l.take j).any isOnes = Q at *
            go_wp2
            go_quiet (with_reducible exact Calls.quiet_of_same (HO.out _))
            go_wp2
            go_ret2
            refine ⟨HT.out.trans (Turn.fresh (Fresh.drewN _ _)), ?_⟩
            rw [← HS.out]
            exact ⟨rfl, _, upd_len _ _ _, HBK.out.fresh (Fresh.drewN _ _)⟩
          · rw [if_neg hN8] at hs
            have hfjc : fj < cs.length := by
              rcases Nat.lt_or_ge fj cs.length with h | h
              · exact h
              · rw [List.getElem?_eq_none h] at hcz; cases hcz
            have hrow := fun W (k : Fresh wr W) g0 (e : g0 = W.heap.size) => getWide_row A' N c' t [⟨g, fj, none⟩] [g] 1 g0 W (hrd.fresh k) hcap hmax (by omega) rfl e (by
              intro p hp
              rw [List.mem_singleton] at hp
              subst hp
              exact ⟨by simp, (hbk.fresh k).wr (by rw [upd_len]; exact hfjc)⟩) (by
              intro i hi
              rw [List.mem_singleton] at hi
              subst hi
              exact (hbk.fresh k).inside) (by omega)
            have hge : getsW t [⟨g, fj, none⟩] = [(⟨g, fj, none⟩, iv (sg64 (nm t (0 * 8) 8)))] := rfl
            rw [hge] at hrow
            have hU8 := nm8_lt t 0
            have HN := fun (w' : World) => WidenAt.told (w' := w') hAt.out (U := nm t 0 8) hfj hz rfl
            rw [show nm t (0 * 8) 8 = nm t 0 8 from rfl] at hrow
            generalize nm t 0 8 = U at *
            have hV := sg64_bd U hU8
            have hft := sg64_fits U hU8
            have hsm := sg64_small U
            have hbV : ∀ W w5, Fresh wr W → Fresh (sets (W.alloc (.cells #[ptrA ⟨g, fj, none⟩] tPtr)) [(⟨g, fj, none⟩, iv (sg64 U))]) w5 → Bk w5 g tHead ((upd cs (fs.take j) vs).set fj (iv (sg64 U))) := fun W w5 k h => (((hbk.fresh k).alloc _).put fj _).fresh h
            have hTV : ∀ W w5, Fresh wr W → Fresh (sets (W.alloc (.cells #[ptrA ⟨g, fj, none⟩] tPtr)) [(⟨g, fj, none⟩, iv (sg64 U))]) w5 → Turn [g] [g] wr w5 := fun W w5 k h => turn_of (k.trans (Fresh.alloc _ _)) h (by simp)
            have hsg : ((upd cs (fs.take j) vs).set fj (iv (sg64 U)))[fj]? = some (iv (sg64 U)) := by rw [List.getElem?_set_self (by rw [upd_len]; exact hfjc)]
            generalize hVe : sg64 U = V at *
            have HROW := Lib.hid hrow
            have HBV := Lib.hid hbV
            have HTV := Lib.hid hTV
            have HSG := Lib.hid hsg
            have HT0 := Lib.hid hAt.out.turn
            have HS := Lib.hid hs
            by_cases hU : U < 281474976710656
            · have hdec : decide (0 ≤ V ∧ V < 281474976710656) = true := decide_eq_true (hft.2 hU)
              have hfit := fun w5 g0 e => fits6 V hV true hdec w5 g0 e
              have hVU : V = ((U : Nat) : Int) := hsm hU
              have HFT := Lib.hid hfit
              have HSN := Lib.hid hsn
              have HVU := Lib.hid hVU
              have HUB := Lib.hid hU
              have HNN := Lib.hid HN
              have HL8 := Lib.hid hlt8
              clear hsn hfj hz hcz ho hlt8 hon hbk hcap hmax hrd hs hAt hrow hge hU8 hV hft hsm hbV hTV hsg hVe hdec hfit hVU hU HN hfjc
              generalize hQ : (l.take j).any isOnes = Q at *
              go_wp2
              go_quiet (with_reducible exact Calls.quiet_of_same (HO.out _))
              go_wp2_with (first
              | (go_at_call 42; (refine (HROW.out _ (Fresh.drewN _ _) _ rfl).mono ?_); rintro e w5 ⟨A5, c5, rfl, hc5, hm5, hf5, hr5⟩; have hb5 := HBV.out _ w5 (Fresh.drewN _ _) hf5; have hc5' : w5.cell? ⟨g, fj, none⟩ = some (iv V) := hb5.cell HSG.out; have HT5 := Lib.hid (HTV.out _ w5 (Fresh.drewN _ _) hf5); have HB5 := Lib.hid hb5; have HR5 := Lib.hid hr5; have HM5 := Lib.hid hm5; clear hb5 hf5 hr5 hm5)
              | (go_at_call 39; ((with_reducible refine (HFT.out _ _ rfl).mono ?_); rintro e w6 ⟨rfl, rfl⟩)))
              have hal := Fresh.alloc w5 (.cells #[.int .i64 V] tInt)
              have hk := HB5.out.fresh hal
              have hvu := HVU.out
              subst hvu
              go_roundw
              case rel => exact ⟨j + 1, N - 1 * 8, c5, A5, t.drop 8, vs ++ [U], by omega, by go_num, rfl, by rw [HSN.out], Lib.hid (HNN.out _ HUB.out (by omega) HL8.out (HT5.out.trans (Turn.fresh hal)) (HR5.out.fresh hal) hk hc5 HM5.out (by omega))⟩
              case measure => simp [intOf]; omega
            · have hdec : decide (0 ≤ V ∧ V < 281474976710656) = false := decide_eq_false (fun h => hU (hft.1 h))
              have hfit := fun w5 g0 e => fits6 V hV false hdec w5 g0 e
              rw [if_pos (by omega)] at hs
              have HFT := Lib.hid hfit
              have HS2 := Lib.hid hs
              clear hsn hfj hz hcz ho hlt8 hon hbk hcap hmax hrd hs hAt hrow hge hU8 hV hft hsm hbV hTV hsg hVe hdec hfit hU HN hfjc
              generalize hQ : (l.take j).any isOnes = Q at *
              go_wp2
              go_quiet (with_reducible exact Calls.quiet_of_same (HO.out _))
              go_wp2_with (first
              | (go_at_call 42; (refine (HROW.out _ (Fresh.drewN _ _) _ rfl).mono ?_); rintro e w5 ⟨A5, c5, rfl, hc5, hm5, hf5, hr5⟩; have hb5 := HBV.out _ w5 (Fresh.drewN _ _) hf5; have hc5' : w5.cell? ⟨g, fj, none⟩ = some (iv V) := hb5.cell HSG.out; have HT5 := Lib.hid (HTV.out _ w5 (Fresh.drewN _ _) hf5); have HB5 := Lib.hid hb5; have HR5 := Lib.hid hr5; have HM5 := Lib.hid hm5; clear hb5 hf5 hr5 hm5)
              | (go_at_call 39; ((with_reducible refine (HFT.out _ _ rfl).mono ?_); rintro e w6 ⟨rfl, rfl⟩)))
              go_ret2
              refine ⟨(HT0.out.trans HT5.out).trans (Turn.fresh (Fresh.alloc _ _)), ?_⟩
              rw [← HS2.out]
              exact ⟨rfl, _, by rw [List.length_set]; exact upd_len _ _ _, HB5.out.fresh (Fresh.alloc _ _)⟩
        · have h2 : ((z : Int) != 4294967295) = true := by rw [bne_iff_ne]; omega
          have ho : isOnes z = false := by unfold isOnes; rw [beq_eq_false_iff_ne]; exact h1
          rw [ho, Bool.or_false] at hsn
          have HSN := Lib.hid hsn
          have HN := Lib.hid (fun W (k : Fresh wr W) => hAt.out.step hfj hz h1 HND.out hcz k)
          clear hsn hfj hz hcz h1 ho hlt8
          generalize hQ : (l.take j).any isOnes = Q at *
          go_wp2
          go_quiet (with_reducible exact Calls.quiet_of_same (HO.out _))
          go_wp2
          go_roundw
          case rel => exact ⟨j + 1, N, c', A', t, vs ++ [z], by omega, by go_num, rfl, by rw [HSN.out], Lib.hid (HN.out _ (Fresh.drewN _ _))⟩
          case measure => simp [intOf]; omega
      · have h0 : j = m := by omega
        subst h0
        have hlj : l.take j = l := List.take_of_length_le (Nat.le_of_eq HL.out)
        have hfj : fs.take j = fs := List.take_of_length_le (Nat.le_of_eq HLF.out)
        rw [hlj]
        clear hlj
        generalize hQ : l.any isOnes = Q at *
        have HQ := Lib.hid hQ
        clear hQ
        go_wp2
        go_ret2
        have hs := hAt.out.same
        rw [List.drop_of_length_le (Nat.le_of_eq HL.out)] at hs
        simp only [wd, Option.map_some, List.append_nil] at hs
        refine ⟨hAt.out.turn, ?_⟩
        rw [← hs]
        have hb := hAt.out.bk
        rw [hfj] at hb
        exact ⟨by rw [HQ.out]; rfl, hb⟩
end Go.Proofs.YtmnejphdjnlbjaaGreatDoor.recp
