/-
  Layer 14: New, Scan, Put, First, All, Len. My own text.
-/
import Derived.Test.YtgbffkneidnmfaaAhoOf
import Derived.Test.YtgbffkneidnmfaaAhoRep
import Derived.BigQuiet
namespace Go.Proofs.Ytgbffkneidnmfaa.ahop
open Go.RowKit Go.Maps Go.Proofs.Ytgbffkneidnmfaa.base Go.Proofs.Ytgbffkneidnmfaa.aho
set_option linter.unusedVariables false
theorem isLong_any (A : Option Addr) (n c : Nat) (w : World) : Calls Try.prog 20 #[.slice A n c] w fun e w' => e = .returned (.bool (decide ((n : Int) > 64))) ∧ w' = w := by
  go_enter Try.func20, Try.ntmps20
  go_wp2
  go_ret
  exact ⟨rfl, rfl⟩
theorem isEmpty_any (A : Option Addr) (n c : Nat) (w : World) : Calls Try.prog 21 #[.slice A n c] w fun e w' => e = .returned (.bool ((n : Int) == 0)) ∧ w' = w := by
  go_enter Try.func21, Try.ntmps21
  go_wp2
  go_ret
  exact ⟨rfl, rfl⟩
/-- a test of words by their lengths -/
def Tst (F : Nat) (p : Nat → Bool) : Prop := ∀ (A : Option Addr) (n c : Nat) (w : World), Calls Try.prog F #[.slice A n c] w fun e w' => e = .returned (.bool (p n)) ∧ w' = w
theorem indexFunc_any (F : Nat) (p : Nat → Bool) (hF : F = 20 ∨ F = 21) (ht : Tst F p) (A : Option Addr) (n c B : Nat) (rows : List Row) (w : World) (hr : RdRows w B A n rows) (hn : n ≤ 100000) :
    Calls Try.prog 29 #[.slice A n c, .func (.func F) #[] #[]] w fun e w' => (∃ z : Int, e = .returned (.int .i64 z) ∧ decide (z ≥ 0) = rows.any (fun r => p r.len)) ∧ w' = w := by
  have hrn : rows.length = n := by have := hr.1.1; rwa [List.length_map] at this
  have HR := Lib.hid hr
  have HT := Lib.hid ht
  have HRN := Lib.hid hrn
  clear hr ht hrn
  go_enter Try.func29, Try.ntmps29
  go_wp2
  go_loopw [8] (fun v wr => ∃ k : Nat, k ≤ n ∧ v = .int .i64 k ∧ Hid ((rows.take k).any (fun r => p r.len) = false) ∧ wr = w) (fun v _ => n - (intOf v).toNat)
  case atStart => exact ⟨0, Nat.zero_le _, rfl, rfl, rfl⟩
  case round =>
    obtain ⟨k, hk, rfl, hno, rfl⟩ := hrel
    by_cases hlt : k < n
    · obtain ⟨x, hx⟩ : ∃ x, rows[k]? = some x := ⟨_, List.getElem?_eq_getElem (by rw [HRN.out]; exact hlt)⟩
      obtain ⟨wb, wo, hWA, hwb, hwc⟩ := HR.out.1.2 (by omega)
      subst hWA
      have hcx := hwc k x.val (by rw [List.getElem?_map, hx]; rfl)
      rw [Row.val] at hcx
      have htk : rows.take (k + 1) = rows.take k ++ [x] := by rw [List.take_add_one, hx]; rfl
      have hin : (rows.take (k + 1)).any (fun r => p r.len) = p x.len := by rw [htk, List.any_append, hno.out]; simp
      have hc := HT.out x.at_ x.len x.cap wr
      have hmem : ∀ j, j ≤ n → (rows.take j).any (fun r => p r.len) = true → rows.any (fun r => p r.len) = true := fun j _ h => by
        rw [List.any_eq_true] at h ⊢
        obtain ⟨y, hy, hy2⟩ := h
        exact ⟨y, List.mem_of_mem_take hy, hy2⟩
      have HC := Lib.hid hc
      have HIN := Lib.hid hin
      have HM := Lib.hid hmem
      clear hwc hx htk hin hc hno hmem
      cases hv : p x.len with
      | true =>
        rw [hv] at HC HIN
        clear hv
        rcases hF with rfl | rfl
        · go_wp2_with (go_at_call 20; (refine HC.out.mono ?_); rintro e w1 ⟨rfl, rfl⟩)
          go_ret
          exact ⟨⟨_, rfl, by rw [HM.out (k + 1) (by omega) HIN.out, decide_eq_true_iff]; omega⟩, rfl⟩
        · go_wp2_with (go_at_call 21; (refine HC.out.mono ?_); rintro e w1 ⟨rfl, rfl⟩)
          go_ret
          exact ⟨⟨_, rfl, by rw [HM.out (k + 1) (by omega) HIN.out, decide_eq_true_iff]; omega⟩, rfl⟩
      | false =>
        rw [hv] at HC HIN
        clear hv
        rcases hF with rfl | rfl
        · go_wp2_with (go_at_call 20; (refine HC.out.mono ?_); rintro e w1 ⟨rfl, rfl⟩)
          go_roundw
          case rel => exact ⟨k + 1, by omega, by go_num, HIN.out, trivial⟩
          case measure => simp [intOf]; omega
        · go_wp2_with (go_at_call 21; (refine HC.out.mono ?_); rintro e w1 ⟨rfl, rfl⟩)
          go_roundw
          case rel => exact ⟨k + 1, by omega, by go_num, HIN.out, trivial⟩
          case measure => simp [intOf]; omega
    · have hkn : k = n := by omega
      subst hkn
      have h2 : rows.any (fun r => p r.len) = false := by
        have h := hno.out
        rwa [List.take_of_length_le (by rw [HRN.out]; exact Nat.le_refl _)] at h
      clear hno
      go_wp2
      go_ret
      exact ⟨⟨_, rfl, by rw [h2]; rfl⟩, rfl⟩
theorem containsFunc_any (F : Nat) (p : Nat → Bool) (hF : F = 20 ∨ F = 21) (ht : Tst F p) (A : Option Addr) (n c B : Nat) (rows : List Row) (w : World) (hr : RdRows w B A n rows) (hn : n ≤ 100000) :
    Calls Try.prog 19 #[.slice A n c, .func (.func F) #[] #[]] w fun e w' => e = .returned (.bool (rows.any (fun r => p r.len))) ∧ w' = w := by
  have hi := indexFunc_any F p hF ht A n c B rows w hr hn
  have HI := Lib.hid hi
  clear hi hr ht
  go_enter Try.func19, Try.ntmps19
  go_wp2_with (go_at_call 29; (refine HI.out.mono ?_); rintro e w1 ⟨⟨z, rfl, hz⟩, rfl⟩; have HZ := Lib.hid hz; clear hz)
  go_ret
  exact ⟨by rw [← HZ.out]; rfl, rfl⟩
/-- New's error -/
def lens (rows : List Row) : List Nat := rows.map (·.len)
def errA (l : List Nat) : Nat := if l.length = 0 ∨ 8 < l.length then 17 else if l.any (fun n => decide (64 < n)) then 10 else if l.any (fun n => n == 0) then 1 else 0
/-- words in memory: their states lie below N -/
structure WdAt (w : World) (q N : Nat) (W P : List Bs) (A : Option Addr) (n c : Nat) (T : List Sv) : Prop where
  bk : Bk w q tWords [.slice A n c, iv (W.length : Nat)]
  sts : StsAt w N A T
  ty : TyAt w A T
  low : N ≤ q
  ready : Ready W P T
  len : n = T.length
  few : n ≤ 100000
  many : 1 ≤ W.length ∧ W.length ≤ 8
  ne : ∀ x ∈ W, x ≠ []
theorem WdAt.keep {w w' : World} {q N n c : Nat} {W P : List Bs} {A : Option Addr} {T : List Sv} (h : WdAt w q N W P A n c T) (hk : ∀ k, k < w.heap.size → k < N ∨ k = q → w'.heap[k]? = w.heap[k]?) : WdAt w' q N W P A n c T :=
  { h with bk := h.bk.old (hk q h.bk.inside (.inr rfl)), sts := h.sts.keep fun k hl => hk k (by have := h.bk.inside; have := h.low; omega) (.inl hl), ty := h.ty.keep h.sts fun k hl => hk k (by have := h.bk.inside; have := h.low; omega) (.inl hl) }
theorem WdAt.fresh {w w' : World} {q N n c : Nat} {W P : List Bs} {A : Option Addr} {T : List Sv} (h : WdAt w q N W P A n c T) (k : Fresh w w') : WdAt w' q N W P A n c T := h.keep fun i hi _ => k.block i hi
/-- bytes have turned -/
theorem WdAt.bytes {w w' : World} {q N n c g : Nat} {W P : List Bs} {A : Option Addr} {T : List Sv} {cs : List Value} (h : WdAt w q N W P A n c T) (k : But g w w') (hb : Bk w g tU8 cs) : WdAt w' q N W P A n c T := by
  obtain ⟨h1, h2⟩ := h.sts.bytes h.ty k hb
  exact { h with bk := h.bk.old (k.block q h.bk.inside fun e => by injection e with e; exact h.bk.ne hb (by decide) e), sts := h1, ty := h2 }
/-- what New tells -/
def NewIs (rows : List Row) (w : World) (e : Ending) (w' : World) : Prop :=
  (errA (lens rows) ≠ 0 ∧ e = .returned (.tuple #[.pointer none, iv (errA (lens rows) : Nat)]) ∧ Fresh w w') ∨
  (errA (lens rows) = 0 ∧ ∃ (q N n c : Nat) (P : List Bs) (A : Option Addr) (T : List Sv), e = .returned (.tuple #[.pointer (some ⟨q, 0, none⟩), iv 0]) ∧ Fresh w w' ∧ w.heap.size ≤ q ∧ WdAt w' q N (wordsOf rows) P A n c T)
theorem any_gt (rows : List Row) : rows.any (fun r => decide ((r.len : Int) > 64)) = (lens rows).any (fun n => decide (64 < n)) := by
  unfold lens
  rw [List.any_map]
  congr 1
  funext r
  simp only [Function.comp]
  by_cases h : 64 < r.len
  · rw [decide_eq_true h, decide_eq_true (by omega)]
  · rw [decide_eq_false h, decide_eq_false (by omega)]
theorem any_zero (rows : List Row) : rows.any (fun r => (r.len : Int) == 0) = (lens rows).any (fun n => n == 0) := by
  unfold lens
  rw [List.any_map]
  congr 1
  funext r
  simp only [Function.comp]
  rw [Bool.eq_iff_iff]
  simp
theorem new_any (rows : List Row) (WA : Option Addr) (nw wc B : Nat) (w : World) (hr : RdRows w B WA nw rows) (hB : B ≤ w.heap.size) (hn : nw ≤ 100000) :
    Calls Try.prog 10 #[.slice WA nw wc] w (NewIs rows w) := by
  have hrn : rows.length = nw := by have := hr.1.1; rwa [List.length_map] at this
  have hll : (lens rows).length = nw := by unfold lens; rw [List.length_map]; exact hrn
  have hlen : ∀ r ∈ rows, r.bs.length = r.len := fun r hr' => by have := (hr.2 r hr').1; rwa [List.length_map] at this
  have hL := containsFunc_any 20 (fun n => decide ((n : Int) > 64)) (.inl rfl) isLong_any WA nw wc B rows w hr hn
  have hE := containsFunc_any 21 (fun n => (n : Int) == 0) (.inr rfl) isEmpty_any WA nw wc B rows w hr hn
  rw [any_gt] at hL
  rw [any_zero] at hE
  have HL := Lib.hid hL
  have HE := Lib.hid hE
  have HLL := Lib.hid hll
  have HR := Lib.hid hr
  clear hL hE hrn
  by_cases h0 : nw = 0
  · have he : errA (lens rows) = 17 := by unfold errA; rw [if_pos (.inl (by omega))]
    subst h0
    have HQ : Hid (∀ w', w' = w → NewIs rows w (.returned (.tuple #[.pointer none, .int .i64 17])) w') := fun w' hw => by subst hw; exact .inl ⟨by rw [he]; omega, by rw [he]; rfl, Fresh.refl _⟩
    clear he hll hr hlen HL HE HLL HR
    go_enter Try.func10, Try.ntmps10
    go_wp2
    go_ret2
    exact HQ.out _ rfl
  have z0 : ((nw : Int) == 0) = false := by rw [beq_eq_false_iff_ne]; omega
  by_cases h8 : 8 < nw
  · have he : errA (lens rows) = 17 := by unfold errA; rw [if_pos (.inr (by omega))]
    have HQ : Hid (∀ w', w' = w → NewIs rows w (.returned (.tuple #[.pointer none, .int .i64 17])) w') := fun w' hw => by subst hw; exact .inl ⟨by rw [he]; omega, by rw [he]; rfl, Fresh.refl _⟩
    have z8 : decide ((nw : Int) > 8) = true := by rw [decide_eq_true_iff]; omega
    clear he hll hr hlen HL HE HLL HR
    go_enter Try.func10, Try.ntmps10
    go_wp2
    go_ret2
    exact HQ.out _ rfl
  have z8 : decide ((nw : Int) > 8) = false := by rw [decide_eq_false_iff_not]; omega
  have hcase : errA (lens rows) = if (lens rows).any (fun n => decide (64 < n)) then 10 else if (lens rows).any (fun n => n == 0) then 1 else 0 := by unfold errA; rw [if_neg (by omega)]
  cases hv : (lens rows).any (fun n => decide (64 < n)) with
  | true =>
    rw [hv] at HL hcase
    have he : errA (lens rows) = 10 := by rw [hcase]; rfl
    have HQ : Hid (∀ w', w' = w → NewIs rows w (.returned (.tuple #[.pointer none, .int .i64 10])) w') := fun w' hw => by subst hw; exact .inl ⟨by rw [he]; omega, by rw [he]; rfl, Fresh.refl _⟩
    clear he hll hr hlen HE HLL HR hcase hv h0 h8
    go_enter Try.func10, Try.ntmps10
    go_wp2_with (go_at_call 19; (with_reducible refine HL.out.mono ?_); rintro e w1 ⟨rfl, rfl⟩)
    go_ret2
    exact HQ.out _ rfl
  | false =>
    rw [hv] at HL hcase
    cases hu : (lens rows).any (fun n => n == 0) with
    | true =>
      rw [hu] at HE hcase
      have he : errA (lens rows) = 1 := by rw [hcase]; rfl
      have HQ : Hid (∀ w', w' = w → NewIs rows w (.returned (.tuple #[.pointer none, .int .i64 1])) w') := fun w' hw => by subst hw; exact .inl ⟨by rw [he]; omega, by rw [he]; rfl, Fresh.refl _⟩
      clear he hll hr hlen HLL HR hcase hv hu h0 h8
      go_enter Try.func10, Try.ntmps10
      go_wp2_with (first
        | (go_at_call 19; (with_reducible refine HL.out.mono ?_); rintro e w1 ⟨rfl, rfl⟩)
        | (go_at_call 19; (with_reducible refine HE.out.mono ?_); rintro e w1 ⟨rfl, rfl⟩))
      go_ret2
      exact HQ.out _ rfl
    | false =>
      rw [hu] at HE hcase
      have he : errA (lens rows) = 0 := by rw [hcase]; rfl
      have hw : ∀ r ∈ rows, r.bs.length ≤ 100 ∧ r.bs ≠ [] := fun r hr' => by
        have h1 := List.any_eq_false.1 hv r.len (List.mem_map.2 ⟨r, hr', rfl⟩)
        have h2 := List.any_eq_false.1 hu r.len (List.mem_map.2 ⟨r, hr', rfl⟩)
        simp at h1 h2
        have h3 := hlen r hr'
        exact ⟨by omega, fun e => by rw [e] at h3; simp at h3; omega⟩
      have hso := statesOf_any rows WA nw wc B w hr hB (by omega) hw
      have hWl : (wordsOf rows).length = nw := by unfold wordsOf; unfold lens at hll; rw [List.length_map] at hll ⊢; exact hll
      have hWn : ∀ x ∈ wordsOf rows, x ≠ [] := fun x hx => by
        obtain ⟨r, hr', rfl⟩ := List.mem_map.1 hx
        exact (hw r hr').2
      have HSO := Lib.hid hso
      have HQ : Hid (∀ (A : Option Addr) (n c : Nat) (T : List Sv) (P : List Bs) (w2 : World), Bd w2 w.heap.size A n c T → Ready (wordsOf rows) P T → n ≤ 100000 → Fresh w w2 → NewIs rows w (.returned (.tuple #[.pointer (some ⟨w2.heap.size, 0, none⟩), .int .i64 0])) (w2.alloc (.cells #[.slice A n c, .int .i64 (nw : Nat)] tWords))) := fun A n c T P w2 hbd hrd hn2 hf => by
        refine .inr ⟨he, w2.heap.size, w2.heap.size, n, c, P, A, T, rfl, hf.trans (Fresh.alloc _ _), hf.size, ?_⟩
        exact { bk := by rw [hWl]; exact Bk.made w2 tWords _, sts := hbd.sts.fresh (Nat.le_refl _) (Fresh.alloc _ _), ty := hbd.ty.keep hbd.sts (fun i hi => (Fresh.alloc _ _).block i hi), low := Nat.le_refl _, ready := hrd, len := hbd.len.symm, few := hn2, many := by rw [hWl]; omega, ne := hWn }
      clear he hll hr hlen HLL HR hcase hv hu h0 h8 hw hso hWl hWn
      go_enter Try.func10, Try.ntmps10
      go_wp2_with (first
        | (go_at_call 19; (with_reducible refine HL.out.mono ?_); rintro e w1 ⟨rfl, rfl⟩)
        | (go_at_call 19; (with_reducible refine HE.out.mono ?_); rintro e w1 ⟨rfl, rfl⟩)
        | (go_at_call 22; (with_reducible refine HSO.out.mono ?_); rintro e w2 ⟨A, n, c, T, P, rfl, hbd, hrd, hn2, hf2⟩; have HBD := Lib.hid hbd; have HRD := Lib.hid hrd; have HF := Lib.hid hf2; clear hbd hrd hf2))
      go_ret2
      exact HQ.out _ _ _ _ _ _ HBD.out HRD.out hn2 HF.out
end Go.Proofs.Ytgbffkneidnmfaa.ahop
