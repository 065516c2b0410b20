import Derived.Test.YtppgceighgpgoaaGreatDoorInfSpread
import Derived.Deep.RegionWith
/- Several of my own texts, one behind the other. -/
/-
  The contracts of an unpacker's input: feed, behind. My own text.
-/
namespace Go.Proofs.YtppgceighgpgoaaGreatDoor.infp
open Go.RowKit Go.Proofs.YtppgceighgpgoaaGreatDoor.base Go.Proofs.YtppgceighgpgoaaGreatDoor.num Go.Proofs.YtppgceighgpgoaaGreatDoor.bitnum Go.Proofs.YtppgceighgpgoaaGreatDoor.bitp Go.Proofs.YtppgceighgpgoaaGreatDoor.huffnum Go.Proofs.YtppgceighgpgoaaGreatDoor.huffp Go.Proofs.YtppgceighgpgoaaGreatDoor.infnum
set_option linter.unusedVariables false

theorem read_any2 (A : Option Addr) (n c : Nat) (rows : List Row) (w : World) (B : Nat) (h : RdRows w B A n rows) (hB : B ≤ w.heap.size) (hn : n ≤ 65536) (hlen : ∀ r ∈ rows, r.len ≤ 16777216) :
    Calls Tryz.prog 84 #[.slice A n c] w (RdrNew w (flat rows)) := by
  have HL := Lib.hid hlen
  have hl : rows.length = n := by have := h.1.1; rwa [List.length_map] at this
  have HN := Lib.hid hl
  clear hlen hl
  go_enter Tryz.func84, Tryz.ntmps84
  go_wp2
  go_loopw [10] (fun i wr => ∃ (j q : Nat) (bs : List UInt8) (bl : List Nat), j ≤ n ∧ i = .int .i64 j ∧ RdrAt wr w.heap.size bs 0 bl ∧ Hid (bs = flat (rows.take j)) ∧ bs.length ≤ j * 16777216 ∧ Since w wr bl) (fun i _ => n - (intOf i).toNat)
  case atStart =>
    refine ⟨0, 0, [], [w.heap.size], by omega, rfl, ⟨none, 0, rfl, by simp [Value.ownBlock], ?_, Own.nil _ _ _⟩, rfl, by simp, Fresh.alloc _ _, by simp⟩
    exact Bk.made w tRdr #[.slice none 0 0, .int .i64 0]
  case round =>
    obtain ⟨j, q, bs, bl, hj, rfl, hR, hbs, hbl, hS⟩ := hrel
    by_cases hlt : j < n
    · have hw := h.fresh hB hS.1
      obtain ⟨b, off, x, rfl, hb, hx, hcx⟩ := hw.1.at_ hlt
      have hr := hw.2 x (List.mem_of_getElem? hx)
      have hlx := HL.out x (List.mem_of_getElem? hx)
      have HX := Lib.hid hx
      have HH := Lib.hid h
      clear hx hw h
      obtain ⟨xa, xl, xc, xb⟩ := x
      simp only [Row.val] at hcx
      simp only at hr hlx
      have hxl : xb.length = xl := by have := hr.1; rwa [List.length_map] at this
      have HXL := Lib.hid hxl
      clear hxl
      go_wp2_with (go_at_call 101; refine (add_any w.heap.size bs xb 0 bl xa xl xc wr B hR (by omega) hr (by omega)).mono ?_; rintro e w2 ⟨rfl, bl2, hR2, hT2⟩)
      go_roundw
      case rel => exact ⟨j + 1, q, _, bl2, by omega, by go_num, hR2, by show _ = _; rw [hbs.out, flat_snoc _ _ _ HX.out], by rw [List.length_append, HXL.out]; omega, hS.turn hT2⟩
      case measure => simp [intOf]; omega
    · have hj2 : j = n := by omega
      subst hj2
      go_wp2
      go_ret
      have e : bs = flat rows := by
        have := hbs.out
        rwa [List.take_of_length_le (Nat.le_of_eq HN.out)] at this
      subst e
      exact ⟨w.heap.size, bl, rfl, hR, hS⟩
theorem read_one2 (A : Option Addr) (n c : Nat) (bs : List UInt8) (w : World) (B : Nat) (hr : Rd w B A n (bs.map bv)) (hB : B ≤ w.heap.size) (hn : n ≤ 16777216) (g : Nat) (hg : g = w.heap.size) :
    Calls Tryz.prog 84 #[.slice (some ⟨g, 0, none⟩) 1 1] (w.alloc (.cells #[.slice A n c] 24)) (RdrNew w bs) := by
  subst hg
  have := read_any2 (some ⟨w.heap.size, 0, none⟩) 1 1 [⟨A, n, c, bs⟩] (w.alloc (.cells #[.slice A n c] 24)) (w.heap.size + 1)
    ⟨Rd.lit w #[.slice A n c] 24, fun r h => by rw [List.mem_singleton] at h; subst h; exact (hr.alloc hB _).up (by omega)⟩ (by simp) (by omega) (fun r h => by rw [List.mem_singleton] at h; subst h; exact hn)
  refine this.mono ?_
  rintro e w' ⟨g, bl, rfl, hR, hS⟩
  refine ⟨g, bl, rfl, by simpa [flat] using hR, (Fresh.alloc _ _).trans hS.1, fun i hi => ?_⟩
  have := hS.2 i hi
  simp at this
  omega

/-- a row of bytes in block k (any, if there are none) -/
def RowAt (w : World) (k : Nat) (A : Option Addr) (n c : Nat) (xs : List UInt8) : Prop :=
  xs.length = n ∧ n ≤ c ∧ c ≤ maxLen ∧ (0 < n → ∃ off, A = some ⟨k, off, none⟩ ∧ k < w.heap.size ∧ ∀ j x, xs[j]? = some x → w.cell? ⟨k, off + j, none⟩ = some (bv x))
section
variable {w w' : World} {k n c : Nat} {A : Option Addr} {xs : List UInt8}
theorem RowAt.keep (h : RowAt w k A n c xs) (hs : w.heap.size ≤ w'.heap.size) (hk : k < w.heap.size → w'.heap[k]? = w.heap[k]?) : RowAt w' k A n c xs :=
  ⟨h.1, h.2.1, h.2.2.1, fun hn => by
    obtain ⟨off, e, hl, hc⟩ := h.2.2.2 hn
    exact ⟨off, e, by omega, fun j x hx => (World.cell?_of_block (hk hl)).trans (hc j x hx)⟩⟩
theorem RowAt.fresh (h : RowAt w k A n c xs) (f : Fresh w w') : RowAt w' k A n c xs := h.keep f.size (f.block k)
theorem RowAt.turn {S S' : List Nat} (h : RowAt w k A n c xs) (t : Turn S S' w w') (hS : k ∉ S) : RowAt w' k A n c xs := h.keep t.size fun hl => t.block k hl hS
theorem RowAt.cut (h : RowAt w k A n c xs) {lo : Nat} (hlo : lo ≤ n) : RowAt w k (if c = lo then A else A.map (·.add lo)) (n - lo) (c - lo) (xs.drop lo) := by
  obtain ⟨h1, h2, h3, h4⟩ := h
  refine ⟨by rw [List.length_drop, h1], by omega, by omega, fun hn => ?_⟩
  obtain ⟨off, rfl, hl, hc⟩ := h4 (by omega)
  rw [if_neg (by omega)]
  refine ⟨off + lo, ?_, hl, fun j x hx => ?_⟩
  · simp only [Option.map_some, Option.some.injEq]
    unfold Addr.add
    split
    · subst lo; rfl
    · rfl
  · rw [List.getElem?_drop] at hx
    have := hc _ x hx
    rwa [← Nat.add_assoc] at this
theorem RowAt.rd (h : RowAt w k A n c xs) {m : Nat} (hm : m ≤ n) : Rd w w.heap.size A m ((xs.take m).map bv) := by
  obtain ⟨h1, h2, h3, h4⟩ := h
  refine ⟨by rw [List.length_map, List.length_take, h1]; omega, fun hn => ?_⟩
  obtain ⟨off, rfl, hl, hc⟩ := h4 (by omega)
  refine ⟨k, off, rfl, hl, fun j u hu => ?_⟩
  rw [List.getElem?_map, List.getElem?_take] at hu
  split at hu
  · cases hx : xs[j]? with
    | none => rw [hx] at hu; cases hu
    | some x =>
      rw [hx] at hu
      injection hu with hu
      rw [hc j x hx, ← hu]
  · cases hu
end

/-- the block that a slice lies in (0, if in none) -/
def blkOf : Value → Nat
  | .slice (some a) _ _ => a.block
  | _ => 0
theorem blkOf_add (A : Option Addr) (t n c n' c' : Nat) : blkOf (.slice (A.map fun x => x.add t) n' c') = blkOf (.slice A n c) := by
  cases A with
  | none => rfl
  | some a =>
    simp only [Option.map_some, blkOf]
    unfold Addr.add
    split <;> rfl
/-- what is to come: of all input b the bytes from o on; the reader of bits has the first fed of them, and is at the bit p -/
structure St (w : World) (g : Nat) (v : V) (b : List UInt8) (o p : Nat) (out : List UInt8) (k : Nat) (rl wl : List Nat) : Prop where
  inf : InfAt w g v
  rest : ∃ A n c, v.rest = .slice A n c ∧ RowAt w k A n c (b.drop o)
  sm : b.length ≤ 16777216
  fed : o + v.fed ≤ b.length
  bits : (v.bits = .pointer none ∧ v.fed = 0 ∧ rl = []) ∨ (∃ q, v.bits = ptr q ∧ RdrAt w q ((b.drop o).take v.fed) p rl)
  ple : p ≤ 8 * v.fed
  win : WinAt w v.win out wl
  all : v.all = out.length
  kr : k ∉ rl
  kw : k ∉ wl
  kg : k ≠ g
  rw : ∀ x ∈ rl, x ∉ wl
  kk : blkOf v.rest = k
section
variable {w w' : World} {g o p k : Nat} {v v' : V} {b out : List UInt8} {rl wl : List Nat}
theorem St.src (h : St w g v b o p out k rl wl) {q : Nat} (hq : v.bits = ptr q) : Src w g v q ((b.drop o).take v.fed) p rl := by
  rcases h.bits with ⟨h1, _⟩ | ⟨q', h1, hR⟩
  · rw [h1] at hq; cases hq
  · rw [h1] at hq
    injection hq with hq
    injection hq with hq
    injection hq with hq _ _
    subst hq
    have hf := h.fed
    exact ⟨h.inf, h1, hR, by rw [List.length_take, List.length_drop]; have := h.ple; omega, by rw [List.length_take, List.length_drop]; have := h.sm; omega⟩
theorem St.seen (h : St w g v b o p out k rl wl) : ((b.drop o).take v.fed).length = v.fed := by
  rw [List.length_take, List.length_drop]; have := h.fed; omega
theorem St.fresh (h : St w g v b o p out k rl wl) (f : Fresh w w') : St w' g v b o p out k rl wl :=
  { h with
    inf := h.inf.fresh f
    rest := by obtain ⟨A, n, c, e, hr⟩ := h.rest; exact ⟨A, n, c, e, hr.fresh f⟩
    bits := h.bits.imp id fun ⟨q, e, hR⟩ => ⟨q, e, hR.fresh f⟩
    win := h.win.fresh f }
set_option maxRecDepth 100000 in
theorem feed_no (h : St w g v b o p out k rl wl) (he : o + v.fed = b.length) :
    Calls Tryz.prog 61 #[ptr g] w fun e w' => e = .returned (.bool false) ∧ Fresh w w' := by
  obtain ⟨A, n, c, hv, hr⟩ := h.rest
  have hn : n = v.fed := by have := hr.1; rw [List.length_drop] at this; omega
  subst hn
  have h0 : w.cell? ⟨g, 0, none⟩ = some (.slice A v.fed c) := by rw [← hv]; exact h.inf.cell rfl
  have h1 : w.cell? ⟨g, 1, none⟩ = some (.int .i64 v.fed) := h.inf.cell rfl
  go_enter Tryz.func61, Tryz.ntmps61
  go_wp2
  go_quiet (fail)
  go_wp2
  go_ret
  exact ⟨rfl, Fresh.drewN _ _⟩
/-- where the reader of bits is, if there is one -/
theorem mark_st (h : St w g v b o p out k rl wl) {B : Value} (hB : v.bits = B) : Calls Tryz.prog 74 #[B] w fun e w' => e = .returned (.int .i64 p) ∧ w = w' := by
  subst hB
  rcases h.bits with ⟨h1, h2, _⟩ | ⟨q, h1, hR⟩
  · have hp : p = 0 := by have := h.ple; omega
    subst hp
    rw [h1]
    exact mark_nil w
  · rw [h1]
    exact mark_any q _ p rl w hR
set_option maxHeartbeats 4000000 in
set_option maxRecDepth 100000 in
theorem behind_any (h : St w g v b o p out k rl wl) :
    Calls Tryz.prog 83 #[ptr g] w fun e w' => e = .returned (.int .i64 (b.length - o - (p + 7) / 8 : Nat)) ∧ Fresh w w' := by
  obtain ⟨A, n, c, hv, hr⟩ := h.rest
  have hn : n = b.length - o := by have := hr.1; rw [List.length_drop] at this; omega
  have h0 : w.cell? ⟨g, 0, none⟩ = some (.slice A n c) := by rw [← hv]; exact h.inf.cell rfl
  have h2 : w.cell? ⟨g, 2, none⟩ = some v.bits := h.inf.cell rfl
  obtain ⟨m, hm⟩ : ∃ m, (p + 7) / 8 = m := ⟨_, rfl⟩
  have hm1 : ((p : Int) + 7) / 8 = (m : Int) := by omega
  have hm2 : Int.tdiv ((p : Int) + 7) 8 = (m : Int) := by rw [Int.tdiv_eq_ediv_of_nonneg (by omega)]; exact hm1
  obtain ⟨d, hd⟩ : ∃ d, n - m = d := ⟨_, rfl⟩
  have hle := h.ple
  have hfed := h.fed
  have hsm := h.sm
  have hd1 : (n : Int) - (m : Int) = (d : Int) := by omega
  rw [← hn, hm, hd]
  have hp : p ≤ 134217728 := by omega
  have hmk : ∀ w', Fresh w w' → Calls Tryz.prog 74 #[v.bits] w' fun e w2 => e = .returned (.int .i64 p) ∧ w' = w2 := fun w' f => mark_st (h.fresh f) rfl
  have e1 : IntKind.i64.wrap ((p : Int) + 7) = (p : Int) + 7 := IntWalk.i64_in _ (by omega)
  have e2 : IntKind.i64.wrap (m : Int) = (m : Int) := IntWalk.i64_in _ (by omega)
  have e3 : IntKind.i64.wrap ((n : Int) - (m : Int)) = (d : Int) := by rw [hd1]; exact IntWalk.i64_in _ (by omega)
  clear hn hm hd hle hfed hsm hm1 hd1 hp
  go_enter Tryz.func83, Tryz.ntmps83
  go_wp2
  go_region_with (go_at_call 74; refine (hmk _ (Fresh.drew _)).mono ?_; rintro e w2 ⟨rfl, rfl⟩)
  all_goals
    go_wp2
    go_ret
    exact ⟨rfl, Fresh.drewN _ _⟩
end
end Go.Proofs.YtppgceighgpgoaaGreatDoor.infp
/-
  The contract of feed, where there is more. My own text.
-/
namespace Go.Proofs.YtppgceighgpgoaaGreatDoor.infp
open Go.RowKit Go.Proofs.YtppgceighgpgoaaGreatDoor.base Go.Proofs.YtppgceighgpgoaaGreatDoor.num Go.Proofs.YtppgceighgpgoaaGreatDoor.bitnum Go.Proofs.YtppgceighgpgoaaGreatDoor.bitp Go.Proofs.YtppgceighgpgoaaGreatDoor.huffnum Go.Proofs.YtppgceighgpgoaaGreatDoor.huffp Go.Proofs.YtppgceighgpgoaaGreatDoor.infnum
set_option linter.unusedVariables false

theorem Turn.wide {S S' T T' : List Nat} {w w' : World} (h : Turn S S' w w') (hs : ∀ k ∈ S, k ∈ T) (hs' : ∀ k ∈ T', k ∈ T ∨ w.heap.size ≤ k) : Turn T T' w w' where
  os := h.os
  tape := h.tape
  output := h.output
  size := h.size
  block k hk hS := h.block k hk fun hx => hS (hs k hx)
  sub := hs'
theorem read_one3 (A : Option Addr) (n c : Nat) (bs : List UInt8) (w : World) (B : Nat) (hr : Rd w B A n (bs.map bv)) (hB : B ≤ w.heap.size) (hn : n ≤ 16777216) (g : Nat) (hg : g = w.heap.size) :
    Calls Tryz.prog 84 #[.slice (some ⟨g, 0, none⟩) 1 1] (w.alloc (.cells #[.slice A n c] 24)).drew (RdrNew w bs) := by
  subst hg
  have := read_any2 (some ⟨w.heap.size, 0, none⟩) 1 1 [⟨A, n, c, bs⟩] (w.alloc (.cells #[.slice A n c] 24)).drew (w.heap.size + 1)
    ⟨(Rd.lit w #[.slice A n c] 24).keep fun _ _ => rfl, fun r h => by rw [List.mem_singleton] at h; subst h; exact ((hr.alloc hB _).up (by omega)).keep fun _ _ => rfl⟩ (by simp) (by omega) (fun r h => by rw [List.mem_singleton] at h; subst h; exact hn)
  refine this.mono ?_
  rintro e w' ⟨g, bl, rfl, hR, hS⟩
  refine ⟨g, bl, rfl, by simpa [flat] using hR, ((Fresh.alloc _ _).trans (Fresh.drew _)).trans hS.1, fun i hi => ?_⟩
  have := hS.2 i hi
  simp at this
  omega
section
variable {w w' : World} {g o p k : Nat} {v v' : V} {b out : List UInt8} {rl wl : List Nat}
set_option maxHeartbeats 4000000 in
set_option maxRecDepth 100000 in
theorem feed_yes (h : St w g v b o p out k rl wl) (he : o + v.fed < b.length) :
    Calls Tryz.prog 61 #[ptr g] w fun e w' => e = .returned (.bool true) ∧
      ∃ v' rl', St w' g v' b (o + p / 8) (p % 8) out k rl' wl ∧ (∃ R F B, v' = { v with rest := R, fed := F, bits := B }) ∧ o + v.fed < o + p / 8 + v'.fed ∧ (∃ q, v'.bits = ptr q) ∧ Turn (g :: rl) (g :: rl') w w' := by
  obtain ⟨A, n, c, hv, hr⟩ := h.rest
  have hn : n = b.length - o := by have := hr.1; rw [List.length_drop] at this; omega
  have hnc := hr.2.1
  have hcm := hr.2.2.1
  have hsm := h.sm
  have hple := h.ple
  have h0 : w.cell? ⟨g, 0, none⟩ = some (.slice A n c) := by rw [← hv]; exact h.inf.cell rfl
  have h1 : w.cell? ⟨g, 1, none⟩ = some (.int .i64 v.fed) := h.inf.cell rfl
  have h2 : w.cell? ⟨g, 2, none⟩ = some v.bits := h.inf.cell rfl
  have hz0 := h.inf.free 0
  have hz1 := h.inf.free 1
  have hz2 := h.inf.free 2
  obtain ⟨f, hf⟩ : ∃ f, v.fed = f := ⟨_, rfl⟩
  rw [hf] at h1 he hple
  obtain ⟨t, ht⟩ : ∃ t, p / 8 = t := ⟨_, rfl⟩
  obtain ⟨r, hrr⟩ : ∃ r, p % 8 = r := ⟨_, rfl⟩
  have ht1 : (p : Int) / 8 = (t : Int) := by omega
  have ht2 : Int.tdiv (p : Int) 8 = (t : Int) := by rw [Int.tdiv_eq_ediv_of_nonneg (by omega)]; exact ht1
  have hr1 : (p : Int) % 8 = (r : Int) := by omega
  have hr2 : Int.tmod (p : Int) 8 = (r : Int) := by rw [Int.tmod_eq_emod_of_nonneg (by omega)]; exact hr1
  have hne : ¬ (f : Int) = (n : Int) := by omega
  have htf : t ≤ f := by omega
  have hct : ¬ c = t := by omega
  obtain ⟨m, hm⟩ : ∃ m, n - t = m := ⟨_, rfl⟩
  have hm1 : (n : Int) - (t : Int) = (m : Int) := by omega
  obtain ⟨d, hd⟩ : ∃ d, f - t = d := ⟨_, rfl⟩
  have hd1 : (f : Int) - (t : Int) = (d : Int) := by omega
  obtain ⟨F, hF⟩ : ∃ F, min m (d + 4096) = F := ⟨_, rfl⟩
  have hF1 : (if (d : Int) + 4096 < (m : Int) then (d : Int) + 4096 else (m : Int)) = (F : Int) := by split <;> omega
  have hmk : ∀ w', Fresh w w' → Calls Tryz.prog 74 #[v.bits] w' fun e w2 => e = .returned (.int .i64 p) ∧ w' = w2 := fun w' f => mark_st (h.fresh f) rfl
  have HMK := Lib.hid hmk
  have hin : (t : Int) ≤ (n : Int) := by omega
  have hFm : (F : Int) ≤ (m : Int) := by omega
  have hp30 : p ≤ 134217728 := by omega
  have hn24 : n ≤ 16777216 := by omega
  have hd24 : d ≤ 16777216 := by omega
  have e1 : IntKind.i64.wrap ((f : Int) - (t : Int)) = (d : Int) := by rw [hd1]; exact IntWalk.i64_in _ (by omega)
  have e2 : IntKind.i64.wrap ((d : Int) + 4096) = (d : Int) + 4096 := IntWalk.i64_in _ (by omega)
  have e3 : IntKind.i64.wrap (t : Int) = (t : Int) := IntWalk.i64_in _ (by omega)
  rw [ht, hrr]
  have HCT := Lib.hid hct
  have HN := Lib.hid hn
  have HF := Lib.hid hf
  have HT := Lib.hid ht
  have HRR := Lib.hid hrr
  have HM := Lib.hid hm
  have HD := Lib.hid hd
  have HFF := Lib.hid hF
  have HV := Lib.hid hv
  have HRow := Lib.hid hr
  have H := Lib.hid h
  clear hmk hn hf ht hrr hm hd hF hct hv hr h
  go_enter Tryz.func61, Tryz.ntmps61
  go_wp2
  go_quiet (fail)
  go_wp2_with (go_at_call 74; refine (HMK.out _ (Fresh.drewN _ _)).mono ?_; rintro e w2 ⟨rfl, rfl⟩)
  have hi5 : InfAt ((w.drewN nq).setCell ⟨g, 0, none⟩ (.slice (Option.map (fun x => x.add t) A) (n - t) (c - t))) g { v with rest := .slice (Option.map (fun x => x.add t) A) (n - t) (c - t) } := (H.out.inf.fresh (Fresh.drewN _ _)).put 0 _
  rw [HM.out] at hi5 ⊢
  have hkg := H.out.kg
  have hrow0 := (HRow.out.fresh (Fresh.drewN w nq)).cut (lo := t) (by omega)
  rw [if_neg HCT.out, HM.out, List.drop_drop] at hrow0
  obtain ⟨A5, hA5⟩ : ∃ A5, Option.map (fun x : Addr => x.add t) A = A5 := ⟨_, rfl⟩
  rw [hA5] at hi5 hrow0 ⊢
  have hkk5 : blkOf (.slice A5 m (c - t)) = k := by
    rw [← hA5, blkOf_add A t n c, ← HV.out]
    exact H.out.kk
  have HKK := Lib.hid hkk5
  clear hkk5
  have ht5 : Turn [g] [g] w ((w.drewN nq).setCell ⟨g, 0, none⟩ (.slice A5 m (c - t))) := (Turn.fresh (Fresh.drewN _ _)).trans (Turn.but (But.put _ _) (by simp))
  have hrow5 : RowAt ((w.drewN nq).setCell ⟨g, 0, none⟩ (.slice A5 m (c - t))) k A5 m (c - t) (b.drop (o + t)) := hrow0.turn (Turn.but (S := [g]) (But.put _ _) (by simp)) (by simpa using hkg)
  clear hA5 hrow0
  generalize (w.drewN nq).setCell ⟨g, 0, none⟩ (.slice A5 m (c - t)) = w5 at *
  clear h0 h1 h2 hz0 hz1 hz2
  have h0 : w5.cell? ⟨g, 0, none⟩ = some (.slice A5 m (c - t)) := hi5.cell rfl
  have h1 : w5.cell? ⟨g, 1, none⟩ = some (.int .i64 f) := by rw [← HF.out]; exact hi5.cell rfl
  have hz1 := hi5.free 1
  have HF1 := Lib.hid hF1
  clear hF1
  go_region
  rw [HF1.out]
  have hi6 : InfAt (w5.setCell ⟨g, 1, none⟩ (.int .i64 F)).drew g { v with rest := .slice A5 m (c - t), fed := F } := (hi5.put 1 _).fresh (Fresh.drew _)
  have ht6 : Turn [g] [g] w (w5.setCell ⟨g, 1, none⟩ (.int .i64 F)).drew := (ht5.trans (Turn.but (But.put _ _) (by simp))).trans (Turn.fresh (Fresh.drew _))
  have hrow6 : RowAt (w5.setCell ⟨g, 1, none⟩ (.int .i64 F)).drew k A5 m (c - t) (b.drop (o + t)) := (hrow5.turn (Turn.but (S := [g]) (But.put _ _) (by simp)) (by simpa using hkg)).fresh (Fresh.drew _)
  clear hrow5
  generalize (w5.setCell ⟨g, 1, none⟩ (.int .i64 F)).drew = w6 at *
  clear h0 h1 hz1 hi5 ht5 e1 e2 e3
  have h0 : w6.cell? ⟨g, 0, none⟩ = some (.slice A5 m (c - t)) := hi6.cell rfl
  have h1 : w6.cell? ⟨g, 1, none⟩ = some (.int .i64 F) := hi6.cell rfl
  have h2 : w6.cell? ⟨g, 2, none⟩ = some v.bits := hi6.cell rfl
  have hz2 := hi6.free 2
  have hcm2 : m ≤ c - t := by have := HM.out; omega
  have hcm3 : c - t ≤ maxLen := by omega
  have hFm2 : F ≤ m := by have := HFF.out; omega
  go_wp2
  have HROW := Lib.hid hrow6
  have hrd : Hid (Rd w6 w6.heap.size A5 F (((b.drop (o + t)).take F).map bv)) := hrow6.rd hFm2
  clear hrow6
  go_region_with (go_at_call 84; refine (read_one3 A5 F (c - t) _ w6 w6.heap.size hrd.out (Nat.le_refl _) (by omega) _ rfl).mono ?_; rintro e w7 ⟨q, bl, rfl, hR, hS⟩; have hi7 := hi6.fresh hS.1; have hc2 : w7.cell? ⟨g, 2, none⟩ = some v.bits := hi7.cell rfl; have hf2 := hi7.free 2)
  all_goals
    have hgl : g < w6.heap.size := hi6.inside
    have hkl : k < w.heap.size := by
      obtain ⟨_, _, _, hx⟩ := HRow.out
      obtain ⟨_, _, hx, _⟩ := hx (by have := HN.out; omega)
      exact hx
    have hgb : g ∉ bl := fun hx => by have := hS.2 g hx; omega
    have hi8 : InfAt (w7.setCell ⟨g, 2, none⟩ (ptr q)) g { v with rest := .slice A5 m (c - t), fed := F, bits := ptr q } := hi7.put 2 _
    have hR8 : RdrAt (w7.setCell ⟨g, 2, none⟩ (ptr q)) q ((b.drop (o + t)).take F) 0 bl := hR.turn (S := [g]) (Turn.but (But.put _ _) (by simp)) (fun x hx h' => by rw [List.mem_singleton] at h'; subst h'; exact hgb hx)
    have hT8 : Turn (g :: rl) (g :: bl) w (w7.setCell ⟨g, 2, none⟩ (ptr q)) := by
      have a1 : Turn [g] [g] w (w7.setCell ⟨g, 2, none⟩ (ptr q)) := (ht6.trans (Turn.fresh hS.1)).trans (Turn.but (But.put _ _) (by simp))
      refine Turn.wide a1 (by simp) fun x hx => ?_
      rcases List.mem_cons.1 hx with rfl | hx
      · exact .inl (by simp)
      · exact .inr (Nat.le_trans ht6.size (hS.2 x hx))
    have hrow8 : RowAt (w7.setCell ⟨g, 2, none⟩ (ptr q)) k A5 m (c - t) (b.drop (o + t)) := (HROW.out.fresh hS.1).turn (Turn.but (S := [g]) (But.put _ _) (by simp)) (by simpa using hkg)
    have hc2' : (w7.setCell ⟨g, 2, none⟩ (ptr q)).cell? ⟨g, 2, none⟩ = some (ptr q) := hi8.cell rfl
    generalize w7.setCell ⟨g, 2, none⟩ (ptr q) = w8 at *
    have hlen : ((b.drop (o + t)).take F).length = F := by rw [List.length_take, List.length_drop]; have := HN.out; have := HM.out; omega
    have hF1 : 1 ≤ F := by have := HFF.out; have := HM.out; have := HN.out; have := HD.out; omega
    have hr7 : r ≤ 7 := by have := HRR.out; omega
    have hbt : ∀ R, num ((b.drop (o + t)).take F) / 2 ^ 0 % 2 ^ r = R → Calls Tryz.prog 76 #[ptr q, .int .i64 r] w8 fun e w' => e = .returned (.tuple #[.int .i64 R, .bool true]) ∧ RdrIs w8 q ((b.drop (o + t)).take F) (0 + r) bl w' := fun R hR => bits_ok q _ 0 bl r r R w8 hR8 (by rw [hlen]; omega) (held_nat r (by omega)) (by rw [hlen]; omega) hR
    have HBT := Lib.hid hbt
    have hb8 : ∀ x ∈ bl, x < w8.heap.size := hR8.inside
    clear hi7 hc2 hf2 hbt h0 h1 h2 hz2
    go_wp2_with (go_at_call 76; refine (HBT.out _ rfl).mono ?_; rintro e w9 ⟨rfl, rl', hR9, hT9⟩)
    go_ret
    have hT : Turn (g :: rl) (g :: rl') w w9 := hT8.trans (turn_cons hT9 g)
    have hwo : ∀ x ∈ wl, x ∉ g :: rl := fun x hx h' => by
      rcases List.mem_cons.1 h' with rfl | h'
      · exact H.out.win.off H.out.inf hx
      · exact H.out.rw x h' hx
    have hkr : k ∉ g :: rl := fun h' => by
      rcases List.mem_cons.1 h' with h' | h'
      · exact hkg h'
      · exact H.out.kr h'
    refine ⟨rfl, { v with rest := .slice A5 m (c - t), fed := F, bits := ptr q }, rl', ⟨hi8.old (hT9.block g hi8.inside hgb), ⟨A5, m, c - t, rfl, hrow8.turn hT9 fun h' => ?_⟩, hsm, ?_, .inr ⟨q, rfl, ?_⟩, ?_, H.out.win.turn hT hwo, H.out.all, fun h' => ?_, H.out.kw, hkg, fun x hx h' => ?_, HKK.out⟩, ⟨_, _, _, rfl⟩, ?_, ⟨q, rfl⟩, hT⟩
    · have := hS.2 k h'; have := ht6.size; omega
    · show o + t + F ≤ b.length
      have := HN.out; have := HM.out; omega
    · rw [Nat.zero_add] at hR9; exact hR9
    · show r ≤ 8 * F
      omega
    · exact hT.apart hkl hkr (List.mem_cons_of_mem _ h')
    · exact hT.apart (H.out.win.inside x h') (hwo x h') (List.mem_cons_of_mem _ hx)
    · show o + v.fed < o + t + F
      have := HFF.out; have := HM.out; have := HN.out; have := HD.out; have := HF.out; omega
end
end Go.Proofs.YtppgceighgpgoaaGreatDoor.infp
