/-
  The contracts of bits.Reader's Add and Read, and of a reader that is not there. My own text.
-/
import Derived.Test.YtlaecigjnknhoaaDoorRdr
namespace Go.Proofs.YtlaecigjnknhoaaDoor.bitp
open Go.RowKit Go.Proofs.YtlaecigjnknhoaaDoor.base Go.Proofs.YtlaecigjnknhoaaDoor.num Go.Proofs.YtlaecigjnknhoaaDoor.bitnum
set_option linter.unusedVariables false

theorem info_byte : (Tryd.prog.info? 5).map (fun i => (i.zero, i.size, i.bytes)) = some (some (.int .u8 0), 1, 1) := by kernel_rfl
set_option maxRecDepth 100000 in
theorem add_any (g : Nat) (bs xs : List UInt8) (p : Nat) (bl : List Nat) (A : Option Addr) (n c : Nat) (w : World) (B : Nat) (h : RdrAt w g bs p bl) (hn : bs.length ≤ 1099511627776) (hr : Rd w B A n (xs.map bv)) (hx : n ≤ 1099511627776) :
    Calls Tryd.prog 89 #[ptr g, .slice A n c] w fun e w' => e = .returned (.tuple #[]) ∧ RdrIs w g (bs ++ xs) p bl w' := by
  obtain ⟨i0, hi0, hz0, hz1, hz2⟩ := info_parts info_byte
  obtain ⟨D, d, rfl, hne, hb, ho⟩ := h
  have h0 : w.cell? ⟨g, 0, none⟩ = some (.slice D bs.length d) := hb.cell rfl
  have hl : xs.length = n := by have := hr.1; rwa [List.length_map] at this
  go_enter Tryd.func89, Tryd.ntmps89

  go_wp2_with (first
    | (at_builtin; go_loud (refine wpList_append_rdx _ rfl (.tmp 10) (.tmp 11) 22 rfl 0 5 i0 _ 1 Tryd.underlying22 hi0 hz0 hz1 hz2 rfl D bs.length d (bs.map bv) rfl ho B A n c (xs.map bv) rfl hr (bv_one xs) (by unfold maxLen; omega) (by omega) (Nat.zero_le _) ?_); intro A1 c1 w1 ho1 hg1 hw1; have hb1 := hb.grown hg1 hne; have hf1 := hb1.free 0; have hc1 : w1.cell? ⟨g, 0, none⟩ = some (.slice D bs.length d) := hb1.cell rfl))
  have e : bs.length + n = (bs ++ xs).length := by rw [List.length_append, hl]
  rw [← List.map_append] at ho1
  rw [e] at ho1 hw1
  have hrow := BufAt.row (bs' := bs ++ xs) hne hb (by decide) ho1 hg1 (by
    rcases hw1 with h | h
    · exact .inl (by rw [rb, h])
    · refine .inr fun b hb => ?_
      rw [rb, h] at hb
      simp only [Option.toList_some, List.mem_singleton] at hb
      omega)
  rw [← e] at hrow
  go_end0
  exact ⟨rfl, _, hrow.1, hrow.2⟩

def flat (rows : List Row) : List UInt8 := rows.flatMap Row.bs
theorem flat_snoc (rows : List Row) (j : Nat) (r : Row) (h : rows[j]? = some r) : flat (rows.take (j + 1)) = flat (rows.take j) ++ r.bs := by
  rw [take_snoc _ _ _ h, flat, List.flatMap_append]; simp [flat]

/-- a reader that was made since w -/
def RdrNew (w : World) (bs : List UInt8) (e : Ending) (w' : World) : Prop := ∃ g bl, e = .returned (ptr g) ∧ RdrAt w' g bs 0 bl ∧ Since w w' bl

theorem read_any (A : Option Addr) (n c : Nat) (rows : List Row) (w : World) (B : Nat) (h : RdRows w B A n rows) (hB : B ≤ w.heap.size) (hn : n ≤ 65536) (hlen : ∀ r ∈ rows, r.len ≤ 65536) :
    Calls Tryd.prog 60 #[.slice A n c] w (RdrNew w (flat rows)) := by
  have HL := Lib.hid hlen
  have hl : rows.length = n := by have := h.1.1; rwa [List.length_map] at this
  have HN := Lib.hid hl
  clear hlen hl
  go_enter Tryd.func60, Tryd.ntmps60
  go_wp2
  go_loopw [10] (fun i wr => ∃ (j q : Nat) (bs : List UInt8) (bl : List Nat), j ≤ n ∧ i = .int .i64 j ∧ RdrAt wr w.heap.size bs 0 bl ∧ Hid (bs = flat (rows.take j)) ∧ bs.length ≤ j * 65536 ∧ Since w wr bl) (fun i _ => n - (intOf i).toNat)
  case atStart =>
    refine ⟨0, 0, [], [w.heap.size], by omega, rfl, ⟨none, 0, rfl, by simp [Value.ownBlock], ?_, Own.nil _ _ _⟩, rfl, by simp, Fresh.alloc _ _, by simp⟩
    exact Bk.made w tRdr #[.slice none 0 0, .int .i64 0]
  case round =>
    obtain ⟨j, q, bs, bl, hj, rfl, hR, hbs, hbl, hS⟩ := hrel
    by_cases hlt : j < n
    · have hw := h.fresh hB hS.1
      obtain ⟨b, off, x, rfl, hb, hx, hcx⟩ := hw.1.at_ hlt
      have hr := hw.2 x (List.mem_of_getElem? hx)
      have hlx := HL.out x (List.mem_of_getElem? hx)
      have HX := Lib.hid hx
      have HH := Lib.hid h
      clear hx hw h
      obtain ⟨xa, xl, xc, xb⟩ := x
      simp only [Row.val] at hcx
      simp only at hr hlx
      have hxl : xb.length = xl := by have := hr.1; rwa [List.length_map] at this
      have HXL := Lib.hid hxl
      clear hxl
      go_wp2_with (go_at_call 89; refine (add_any w.heap.size bs xb 0 bl xa xl xc wr B hR (by omega) hr (by omega)).mono ?_; rintro e w2 ⟨rfl, bl2, hR2, hT2⟩)
      go_roundw
      case rel => exact ⟨j + 1, q, _, bl2, by omega, by go_num, hR2, by show _ = _; rw [hbs.out, flat_snoc _ _ _ HX.out], by rw [List.length_append, HXL.out]; omega, hS.turn hT2⟩
      case measure => simp [intOf]; omega
    · have hj2 : j = n := by omega
      subst hj2
      go_wp2
      go_ret
      have e : bs = flat rows := by
        have := hbs.out
        rwa [List.take_of_length_le (Nat.le_of_eq HN.out)] at this
      subst e
      exact ⟨w.heap.size, bl, rfl, hR, hS⟩
theorem read_one (A : Option Addr) (n c : Nat) (bs : List UInt8) (w : World) (B : Nat) (hr : Rd w B A n (bs.map bv)) (hB : B ≤ w.heap.size) (hn : n ≤ 65536) (g : Nat) (hg : g = w.heap.size) :
    Calls Tryd.prog 60 #[.slice (some ⟨g, 0, none⟩) 1 1] (w.alloc (.cells #[.slice A n c] 22)) (RdrNew w bs) := by
  subst hg
  have := read_any (some ⟨w.heap.size, 0, none⟩) 1 1 [⟨A, n, c, bs⟩] (w.alloc (.cells #[.slice A n c] 22)) (w.heap.size + 1)
    ⟨Rd.lit w #[.slice A n c] 22, fun r h => by rw [List.mem_singleton] at h; subst h; exact (hr.alloc hB _).up (by omega)⟩ (by simp) (by omega) (fun r h => by rw [List.mem_singleton] at h; subst h; exact hn)
  refine this.mono ?_
  rintro e w' ⟨g, bl, rfl, hR, hS⟩
  refine ⟨g, bl, rfl, by simpa [flat] using hR, (Fresh.alloc _ _).trans hS.1, fun i hi => ?_⟩
  have := hS.2 i hi
  simp at this
  omega

/-! a reader that is not there -/
theorem add_nil (A : Option Addr) (n c : Nat) (w : World) : Calls Tryd.prog 89 #[.pointer none, .slice A n c] w fun e w' => e = .returned (.tuple #[]) ∧ w = w' := by
  go_enter Tryd.func89, Tryd.ntmps89
  go_wp2
  exact bodyPost_ret (results_none rfl _ _ _) rfl ⟨rfl, rfl⟩
theorem back_nil (z : Int) (w : World) : Calls Tryd.prog 51 #[.pointer none, .int .i64 z] w fun e w' => e = .returned (.tuple #[]) ∧ w = w' := by
  go_enter Tryd.func51, Tryd.ntmps51
  go_wp2
  exact bodyPost_ret (results_none rfl _ _ _) rfl ⟨rfl, rfl⟩
theorem has_nil (z : Int) (w : World) : Calls Tryd.prog 102 #[.pointer none, .int .i64 z] w fun e w' => e = .returned (.bool false) ∧ w = w' := by
  go_enter Tryd.func102, Tryd.ntmps102
  go_wp2
  go_ret
  exact ⟨rfl, rfl⟩
theorem left_nil (w : World) : Calls Tryd.prog 86 #[.pointer none] w fun e w' => e = .returned (.int .i64 0) ∧ w = w' := by
  go_enter Tryd.func86, Tryd.ntmps86
  go_wp2
  go_ret
  exact ⟨rfl, rfl⟩
theorem mark_nil (w : World) : Calls Tryd.prog 50 #[.pointer none] w fun e w' => e = .returned (.int .i64 0) ∧ w = w' := by
  go_enter Tryd.func50, Tryd.ntmps50
  go_wp2
  go_ret
  exact ⟨rfl, rfl⟩
theorem align_nil (w : World) : Calls Tryd.prog 81 #[.pointer none] w fun e w' => e = .returned (.int .i64 0) ∧ w = w' := by
  go_enter Tryd.func81, Tryd.ntmps81
  go_wp2
  go_ret
  exact ⟨rfl, rfl⟩
theorem peek_nil (n : Int) (w : World) : Calls Tryd.prog 80 #[.pointer none, .int .i64 n] w fun e w' => e = .returned (.tuple #[.int .i64 0, .bool false]) ∧ w = w' := by
  go_enter Tryd.func80, Tryd.ntmps80
  go_wp2_with (first
    | (go_at_call 74; refine (held_any n w).mono ?_; rintro e w1 ⟨rfl, rfl⟩)
    | (go_at_call 102; refine (has_nil _ w).mono ?_; rintro e w1 ⟨rfl, rfl⟩))
  go_ret2
  exact ⟨rfl, rfl⟩
theorem bits_nil (n : Int) (w : World) : Calls Tryd.prog 52 #[.pointer none, .int .i64 n] w fun e w' => e = .returned (.tuple #[.int .i64 0, .bool false]) ∧ w = w' := by
  go_enter Tryd.func52, Tryd.ntmps52
  go_wp2_with (go_at_call 80; refine (peek_nil n w).mono ?_; rintro e w1 ⟨rfl, rfl⟩)
  go_ret2
  exact ⟨rfl, rfl⟩
/-- bytes.Clone: nil, or the same bytes in a new row -/
theorem clone_any (A : Option Addr) (n c : Nat) (xs : List UInt8) (w : World) (B : Nat) (hr : Rd w B A n (xs.map bv)) (hB : B ≤ w.heap.size) (hn : n ≤ 1099511627776) :
    Calls Tryd.prog 92 #[.slice A n c] w fun e w' => ∃ A' c', e = .returned (.slice A' n c') ∧ Fresh w w' ∧ Own w' w.heap.size 5 A' n c' (xs.map bv) := by
  obtain ⟨i0, hi0, hz0, hz1, hz2⟩ := info_parts info_byte
  have heq : ∀ W, (binOp .eql 22 (.slice A n c) (.slice none 0 0)).run Tryd.prog W = .ok (.bool A.isNone) W := fun W => run_slice_is_nil W 22 5 A n c Tryd.underlying22
  rcases A with _ | a
  · have h0 : n = 0 := by
      rcases Nat.eq_zero_or_pos n with h0 | h0
      · exact h0
      · obtain ⟨b, off, h, _⟩ := hr.2 h0
        cases h
    subst h0
    have hx : xs = [] := by have := hr.1; rw [List.length_map] at this; exact List.eq_nil_of_length_eq_zero this
    subst hx
    go_enter Tryd.func92, Tryd.ntmps92
    go_wp2
    go_ret
    exact ⟨_, _, rfl, Fresh.refl _, Own.nil _ _ _⟩
  · go_enter Tryd.func92, Tryd.ntmps92
    go_wp2_with (first
      | (at_builtin; refine wpList_append_rd _ rfl _ _ 22 rfl w.heap.size 5 i0 _ 1 Tryd.underlying22 hi0 hz0 hz1 hz2 rfl (some ⟨w.heap.size, 0, none⟩) 0 0 [] rfl (Own.made w 5 #[] 0 rfl (Nat.zero_le _)) B (some a) n c (xs.map bv) rfl (hr.alloc hB _) (bv_one xs) (by unfold maxLen; omega) (by omega) (by simp) ?_; intro A1 c1 w1 hown1 hg1))
    go_ret
    rw [Nat.zero_add, List.nil_append] at hown1
    exact ⟨A1, c1, rfl, (Fresh.alloc w _).append (Own.made w 5 #[] 0 rfl (Nat.zero_le _)) (Nat.le_refl _) hg1, hown1⟩
end Go.Proofs.YtlaecigjnknhoaaDoor.bitp
