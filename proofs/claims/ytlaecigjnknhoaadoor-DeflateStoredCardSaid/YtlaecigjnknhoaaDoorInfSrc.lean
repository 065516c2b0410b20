/-
  The contracts of an unpacker's input: feed, behind. My own text.
-/
import Derived.Test.YtlaecigjnknhoaaDoorInfSpread
import Derived.Deep.RegionWith
namespace Go.Proofs.YtlaecigjnknhoaaDoor.infp
open Go.RowKit Go.Proofs.YtlaecigjnknhoaaDoor.base Go.Proofs.YtlaecigjnknhoaaDoor.num Go.Proofs.YtlaecigjnknhoaaDoor.bitnum Go.Proofs.YtlaecigjnknhoaaDoor.bitp Go.Proofs.YtlaecigjnknhoaaDoor.huffnum Go.Proofs.YtlaecigjnknhoaaDoor.huffp Go.Proofs.YtlaecigjnknhoaaDoor.infnum
set_option linter.unusedVariables false

theorem read_any2 (A : Option Addr) (n c : Nat) (rows : List Row) (w : World) (B : Nat) (h : RdRows w B A n rows) (hB : B ≤ w.heap.size) (hn : n ≤ 65536) (hlen : ∀ r ∈ rows, r.len ≤ 16777216) :
    Calls Tryd.prog 60 #[.slice A n c] w (RdrNew w (flat rows)) := by
  have HL := Lib.hid hlen
  have hl : rows.length = n := by have := h.1.1; rwa [List.length_map] at this
  have HN := Lib.hid hl
  clear hlen hl
  go_enter Tryd.func60, Tryd.ntmps60
  go_wp2
  go_loopw [10] (fun i wr => ∃ (j q : Nat) (bs : List UInt8) (bl : List Nat), j ≤ n ∧ i = .int .i64 j ∧ RdrAt wr w.heap.size bs 0 bl ∧ Hid (bs = flat (rows.take j)) ∧ bs.length ≤ j * 16777216 ∧ Since w wr bl) (fun i _ => n - (intOf i).toNat)
  case atStart =>
    refine ⟨0, 0, [], [w.heap.size], by omega, rfl, ⟨none, 0, rfl, by simp [Value.ownBlock], ?_, Own.nil _ _ _⟩, rfl, by simp, Fresh.alloc _ _, by simp⟩
    exact Bk.made w tRdr #[.slice none 0 0, .int .i64 0]
  case round =>
    obtain ⟨j, q, bs, bl, hj, rfl, hR, hbs, hbl, hS⟩ := hrel
    by_cases hlt : j < n
    · have hw := h.fresh hB hS.1
      obtain ⟨b, off, x, rfl, hb, hx, hcx⟩ := hw.1.at_ hlt
      have hr := hw.2 x (List.mem_of_getElem? hx)
      have hlx := HL.out x (List.mem_of_getElem? hx)
      have HX := Lib.hid hx
      have HH := Lib.hid h
      clear hx hw h
      obtain ⟨xa, xl, xc, xb⟩ := x
      simp only [Row.val] at hcx
      simp only at hr hlx
      have hxl : xb.length = xl := by have := hr.1; rwa [List.length_map] at this
      have HXL := Lib.hid hxl
      clear hxl
      go_wp2_with (go_at_call 89; refine (add_any w.heap.size bs xb 0 bl xa xl xc wr B hR (by omega) hr (by omega)).mono ?_; rintro e w2 ⟨rfl, bl2, hR2, hT2⟩)
      go_roundw
      case rel => exact ⟨j + 1, q, _, bl2, by omega, by go_num, hR2, by show _ = _; rw [hbs.out, flat_snoc _ _ _ HX.out], by rw [List.length_append, HXL.out]; omega, hS.turn hT2⟩
      case measure => simp [intOf]; omega
    · have hj2 : j = n := by omega
      subst hj2
      go_wp2
      go_ret
      have e : bs = flat rows := by
        have := hbs.out
        rwa [List.take_of_length_le (Nat.le_of_eq HN.out)] at this
      subst e
      exact ⟨w.heap.size, bl, rfl, hR, hS⟩
theorem read_one2 (A : Option Addr) (n c : Nat) (bs : List UInt8) (w : World) (B : Nat) (hr : Rd w B A n (bs.map bv)) (hB : B ≤ w.heap.size) (hn : n ≤ 16777216) (g : Nat) (hg : g = w.heap.size) :
    Calls Tryd.prog 60 #[.slice (some ⟨g, 0, none⟩) 1 1] (w.alloc (.cells #[.slice A n c] 22)) (RdrNew w bs) := by
  subst hg
  have := read_any2 (some ⟨w.heap.size, 0, none⟩) 1 1 [⟨A, n, c, bs⟩] (w.alloc (.cells #[.slice A n c] 22)) (w.heap.size + 1)
    ⟨Rd.lit w #[.slice A n c] 22, fun r h => by rw [List.mem_singleton] at h; subst h; exact (hr.alloc hB _).up (by omega)⟩ (by simp) (by omega) (fun r h => by rw [List.mem_singleton] at h; subst h; exact hn)
  refine this.mono ?_
  rintro e w' ⟨g, bl, rfl, hR, hS⟩
  refine ⟨g, bl, rfl, by simpa [flat] using hR, (Fresh.alloc _ _).trans hS.1, fun i hi => ?_⟩
  have := hS.2 i hi
  simp at this
  omega

/-- a row of bytes in block k (any, if there are none) -/
def RowAt (w : World) (k : Nat) (A : Option Addr) (n c : Nat) (xs : List UInt8) : Prop :=
  xs.length = n ∧ n ≤ c ∧ c ≤ maxLen ∧ (0 < n → ∃ off, A = some ⟨k, off, none⟩ ∧ k < w.heap.size ∧ ∀ j x, xs[j]? = some x → w.cell? ⟨k, off + j, none⟩ = some (bv x))
section
variable {w w' : World} {k n c : Nat} {A : Option Addr} {xs : List UInt8}
theorem RowAt.keep (h : RowAt w k A n c xs) (hs : w.heap.size ≤ w'.heap.size) (hk : k < w.heap.size → w'.heap[k]? = w.heap[k]?) : RowAt w' k A n c xs :=
  ⟨h.1, h.2.1, h.2.2.1, fun hn => by
    obtain ⟨off, e, hl, hc⟩ := h.2.2.2 hn
    exact ⟨off, e, by omega, fun j x hx => (World.cell?_of_block (hk hl)).trans (hc j x hx)⟩⟩
theorem RowAt.fresh (h : RowAt w k A n c xs) (f : Fresh w w') : RowAt w' k A n c xs := h.keep f.size (f.block k)
theorem RowAt.turn {S S' : List Nat} (h : RowAt w k A n c xs) (t : Turn S S' w w') (hS : k ∉ S) : RowAt w' k A n c xs := h.keep t.size fun hl => t.block k hl hS
theorem RowAt.cut (h : RowAt w k A n c xs) {lo : Nat} (hlo : lo ≤ n) : RowAt w k (if c = lo then A else A.map (·.add lo)) (n - lo) (c - lo) (xs.drop lo) := by
  obtain ⟨h1, h2, h3, h4⟩ := h
  refine ⟨by rw [List.length_drop, h1], by omega, by omega, fun hn => ?_⟩
  obtain ⟨off, rfl, hl, hc⟩ := h4 (by omega)
  rw [if_neg (by omega)]
  refine ⟨off + lo, ?_, hl, fun j x hx => ?_⟩
  · simp only [Option.map_some, Option.some.injEq]
    unfold Addr.add
    split
    · subst lo; rfl
    · rfl
  · rw [List.getElem?_drop] at hx
    have := hc _ x hx
    rwa [← Nat.add_assoc] at this
theorem RowAt.rd (h : RowAt w k A n c xs) {m : Nat} (hm : m ≤ n) : Rd w w.heap.size A m ((xs.take m).map bv) := by
  obtain ⟨h1, h2, h3, h4⟩ := h
  refine ⟨by rw [List.length_map, List.length_take, h1]; omega, fun hn => ?_⟩
  obtain ⟨off, rfl, hl, hc⟩ := h4 (by omega)
  refine ⟨k, off, rfl, hl, fun j u hu => ?_⟩
  rw [List.getElem?_map, List.getElem?_take] at hu
  split at hu
  · cases hx : xs[j]? with
    | none => rw [hx] at hu; cases hu
    | some x =>
      rw [hx] at hu
      injection hu with hu
      rw [hc j x hx, ← hu]
  · cases hu
end

/-- the block that a slice lies in (0, if in none) -/
def blkOf : Value → Nat
  | .slice (some a) _ _ => a.block
  | _ => 0
theorem blkOf_add (A : Option Addr) (t n c n' c' : Nat) : blkOf (.slice (A.map fun x => x.add t) n' c') = blkOf (.slice A n c) := by
  cases A with
  | none => rfl
  | some a =>
    simp only [Option.map_some, blkOf]
    unfold Addr.add
    split <;> rfl
/-- what is to come: of all input b the bytes from o on; the reader of bits has the first fed of them, and is at the bit p -/
structure St (w : World) (g : Nat) (v : V) (b : List UInt8) (o p : Nat) (out : List UInt8) (k : Nat) (rl wl : List Nat) : Prop where
  inf : InfAt w g v
  rest : ∃ A n c, v.rest = .slice A n c ∧ RowAt w k A n c (b.drop o)
  sm : b.length ≤ 16777216
  fed : o + v.fed ≤ b.length
  bits : (v.bits = .pointer none ∧ v.fed = 0 ∧ rl = []) ∨ (∃ q, v.bits = ptr q ∧ RdrAt w q ((b.drop o).take v.fed) p rl)
  ple : p ≤ 8 * v.fed
  win : WinAt w v.win out wl
  all : v.all = out.length
  kr : k ∉ rl
  kw : k ∉ wl
  kg : k ≠ g
  rw : ∀ x ∈ rl, x ∉ wl
  kk : blkOf v.rest = k
section
variable {w w' : World} {g o p k : Nat} {v v' : V} {b out : List UInt8} {rl wl : List Nat}
theorem St.src (h : St w g v b o p out k rl wl) {q : Nat} (hq : v.bits = ptr q) : Src w g v q ((b.drop o).take v.fed) p rl := by
  rcases h.bits with ⟨h1, _⟩ | ⟨q', h1, hR⟩
  · rw [h1] at hq; cases hq
  · rw [h1] at hq
    injection hq with hq
    injection hq with hq
    injection hq with hq _ _
    subst hq
    have hf := h.fed
    exact ⟨h.inf, h1, hR, by rw [List.length_take, List.length_drop]; have := h.ple; omega, by rw [List.length_take, List.length_drop]; have := h.sm; omega⟩
theorem St.seen (h : St w g v b o p out k rl wl) : ((b.drop o).take v.fed).length = v.fed := by
  rw [List.length_take, List.length_drop]; have := h.fed; omega
theorem St.fresh (h : St w g v b o p out k rl wl) (f : Fresh w w') : St w' g v b o p out k rl wl :=
  { h with
    inf := h.inf.fresh f
    rest := by obtain ⟨A, n, c, e, hr⟩ := h.rest; exact ⟨A, n, c, e, hr.fresh f⟩
    bits := h.bits.imp id fun ⟨q, e, hR⟩ => ⟨q, e, hR.fresh f⟩
    win := h.win.fresh f }
set_option maxRecDepth 100000 in
theorem feed_no (h : St w g v b o p out k rl wl) (he : o + v.fed = b.length) :
    Calls Tryd.prog 36 #[ptr g] w fun e w' => e = .returned (.bool false) ∧ Fresh w w' := by
  obtain ⟨A, n, c, hv, hr⟩ := h.rest
  have hn : n = v.fed := by have := hr.1; rw [List.length_drop] at this; omega
  subst hn
  have h0 : w.cell? ⟨g, 0, none⟩ = some (.slice A v.fed c) := by rw [← hv]; exact h.inf.cell rfl
  have h1 : w.cell? ⟨g, 1, none⟩ = some (.int .i64 v.fed) := h.inf.cell rfl
  go_enter Tryd.func36, Tryd.ntmps36
  go_wp2
  go_quiet (fail)
  go_wp2
  go_ret
  exact ⟨rfl, Fresh.drewN _ _⟩
/-- where the reader of bits is, if there is one -/
theorem mark_st (h : St w g v b o p out k rl wl) {B : Value} (hB : v.bits = B) : Calls Tryd.prog 50 #[B] w fun e w' => e = .returned (.int .i64 p) ∧ w = w' := by
  subst hB
  rcases h.bits with ⟨h1, h2, _⟩ | ⟨q, h1, hR⟩
  · have hp : p = 0 := by have := h.ple; omega
    subst hp
    rw [h1]
    exact mark_nil w
  · rw [h1]
    exact mark_any q _ p rl w hR
set_option maxHeartbeats 4000000 in
set_option maxRecDepth 100000 in
theorem behind_any (h : St w g v b o p out k rl wl) :
    Calls Tryd.prog 59 #[ptr g] w fun e w' => e = .returned (.int .i64 (b.length - o - (p + 7) / 8 : Nat)) ∧ Fresh w w' := by
  obtain ⟨A, n, c, hv, hr⟩ := h.rest
  have hn : n = b.length - o := by have := hr.1; rw [List.length_drop] at this; omega
  have h0 : w.cell? ⟨g, 0, none⟩ = some (.slice A n c) := by rw [← hv]; exact h.inf.cell rfl
  have h2 : w.cell? ⟨g, 2, none⟩ = some v.bits := h.inf.cell rfl
  obtain ⟨m, hm⟩ : ∃ m, (p + 7) / 8 = m := ⟨_, rfl⟩
  have hm1 : ((p : Int) + 7) / 8 = (m : Int) := by omega
  have hm2 : Int.tdiv ((p : Int) + 7) 8 = (m : Int) := by rw [Int.tdiv_eq_ediv_of_nonneg (by omega)]; exact hm1
  obtain ⟨d, hd⟩ : ∃ d, n - m = d := ⟨_, rfl⟩
  have hle := h.ple
  have hfed := h.fed
  have hsm := h.sm
  have hd1 : (n : Int) - (m : Int) = (d : Int) := by omega
  rw [← hn, hm, hd]
  have hp : p ≤ 134217728 := by omega
  have hmk : ∀ w', Fresh w w' → Calls Tryd.prog 50 #[v.bits] w' fun e w2 => e = .returned (.int .i64 p) ∧ w' = w2 := fun w' f => mark_st (h.fresh f) rfl
  have e1 : IntKind.i64.wrap ((p : Int) + 7) = (p : Int) + 7 := IntWalk.i64_in _ (by omega)
  have e2 : IntKind.i64.wrap (m : Int) = (m : Int) := IntWalk.i64_in _ (by omega)
  have e3 : IntKind.i64.wrap ((n : Int) - (m : Int)) = (d : Int) := by rw [hd1]; exact IntWalk.i64_in _ (by omega)
  clear hn hm hd hle hfed hsm hm1 hd1 hp
  go_enter Tryd.func59, Tryd.ntmps59
  go_wp2
  go_region_with (go_at_call 50; refine (hmk _ (Fresh.drew _)).mono ?_; rintro e w2 ⟨rfl, rfl⟩)
  all_goals
    go_wp2
    go_ret
    exact ⟨rfl, Fresh.drewN _ _⟩
end
end Go.Proofs.YtlaecigjnknhoaaDoor.infp
