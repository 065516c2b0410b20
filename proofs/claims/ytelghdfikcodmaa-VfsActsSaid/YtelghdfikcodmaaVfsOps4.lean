/-
  The contracts of the store's Read, Len, Stamp, Room, Down, Fuse, and of a store that is nil. My own text.
-/
import Derived.Test.YtelghdfikcodmaaVfsOps2
namespace Go.Proofs.Ytelghdfikcodmaa.vfs
open Go.RowKit Go.Maps Go.Proofs.Ytelghdfikcodmaa.base Go.Proofs.Ytelghdfikcodmaa.vfsnum
set_option linter.unusedVariables false

def readE (a : Fs) (n : ByteArray) (t m : Int) : Int :=
  if a.down = true then 9 else match getF a.files n with
  | none => 6
  | some x => if t < 0 ∨ m < 0 then 1 else if (x.bs.length : Int) - t < m then 3 else 0

theorem read_bad (w : World) (f : Nat) (a : Fs) (bl : List Nat) (n : ByteArray) (t m c : Int) (h : FsAt w f a bl) (hok : FsOk a) (hn : n.size ≤ maxLen)
    (ht1 : -9223372036854775808 ≤ t) (ht2 : t ≤ 9223372036854775807) (hm1 : -9223372036854775808 ≤ m) (hm2 : m ≤ 9223372036854775807) (he : readE a n t m = c) (hc : c ≠ 0) :
    Calls Try.prog 42 #[fsPtr f, .string n, .int .i64 t, .int .i64 m] w fun e w' => e = .returned (.tuple #[.slice none 0 0, .int .i64 c]) ∧ w = w' := by
  obtain ⟨mb, gs, rfl, hg⟩ := h
  unfold readE at he
  cases hd : a.down with
  | true =>
    rw [if_pos hd] at he
    subst he
    have hfi := find_down n w f a mb gs hg hd
    clear hd hc
    go_enter Try.func42, Try.ntmps42
    go_wp2_with (go_at_call 74; refine hfi.mono ?_; rintro e w' ⟨rfl, rfl⟩)
    go_ret2
    exact ⟨rfl, rfl⟩
  | false =>
    rw [if_neg (by rw [hd]; simp)] at he
    cases hgt : getF a.files n with
    | none =>
      rw [hgt] at he
      simp only at he
      subst he
      have hfi := find_miss n w f a mb gs hg hd (hg.get_none hgt) hn
      clear hd hgt hc
      go_enter Try.func42, Try.ntmps42
      go_wp2_with (go_at_call 74; refine hfi.mono ?_; rintro e w' ⟨rfl, rfl⟩)
      go_ret2
      exact ⟨rfl, rfl⟩
    | some x =>
      rw [hgt] at he
      simp only at he
      obtain ⟨g1, g, xbl, g2, rfl⟩ := hg.get_some hgt
      have hfi := find_hit ⟨n, x, g, xbl⟩ w f a mb _ hg hd (by simp) hn
      have hx := hg.2.2.2.2 ⟨n, x, g, xbl⟩ (by simp)
      have hxl := (hok.fls (n, x) (getF_some hgt)).1
      have hlong : w.cell? ⟨g, 0, none⟩ = some (.int .i64 x.bs.length) := hx.long
      by_cases h1 : t < 0 ∨ m < 0
      · rw [if_pos h1] at he
        subst he
        clear hd hgt hc
        rcases h1 with h1 | h1
        · have d1 : decide (t < 0) = true := by simpa using h1
          go_enter Try.func42, Try.ntmps42
          go_wp2_with (go_at_call 74; refine hfi.mono ?_; rintro e w' ⟨rfl, rfl⟩)
          all_goals go_ret2
          all_goals exact ⟨rfl, rfl⟩
        · have d1 : decide (m < 0) = true := by simpa using h1
          go_enter Try.func42, Try.ntmps42
          go_wp2_with (go_at_call 74; refine hfi.mono ?_; rintro e w' ⟨rfl, rfl⟩)
          all_goals go_ret2
          all_goals exact ⟨rfl, rfl⟩
      · rw [if_neg h1] at he
        by_cases h2 : (x.bs.length : Int) - t < m
        · rw [if_pos h2] at he
          subst he
          have d1 : decide (t < 0) = false := by simp; omega
          have d2 : decide (m < 0) = false := by simp; omega
          have b1 : 0 ≤ t := by omega
          have b2 : 0 ≤ m := by omega
          clear hd hgt hc h1
          go_enter Try.func42, Try.ntmps42
          go_wp2_with (go_at_call 74; refine hfi.mono ?_; rintro e w' ⟨rfl, rfl⟩)
          all_goals go_ret2
          all_goals exact ⟨rfl, rfl⟩
        · rw [if_neg h2] at he
          exact absurd he.symm hc
/-- what a good Read leaves -/
def ReadAt (w : World) (bs : Bs) (e : Ending) (w' : World) : Prop := ∃ q, e = .returned (.tuple #[.slice (some ⟨q, 0, none⟩) bs.length bs.length, .int .i64 0]) ∧ w.heap.size ≤ q ∧ Bk w' q 5 (bs.map bv) ∧ Fresh w w'
theorem read_good (w : World) (f : Nat) (a : Fs) (bl : List Nat) (n : ByteArray) (t m : Nat) (x : Fl) (h : FsAt w f a bl) (hok : FsOk a) (hn : n.size ≤ maxLen) (hd : a.down = false) (hgt : getF a.files n = some x) (htm : t + m ≤ x.bs.length) :
    Calls Try.prog 42 #[fsPtr f, .string n, .int .i64 t, .int .i64 m] w (ReadAt w ((x.bs.drop t).take m)) := by
  obtain ⟨mb, gs, rfl, hg⟩ := h
  obtain ⟨g1, g, xbl, g2, rfl⟩ := hg.get_some hgt
  have hfi := find_hit ⟨n, x, g, xbl⟩ w f a mb _ hg hd (by simp) hn
  have hx := hg.2.2.2.2 ⟨n, x, g, xbl⟩ (by simp)
  have hxl := (hok.fls (n, x) (getF_some hgt)).1
  have hlong : w.cell? ⟨g, 0, none⟩ = some (.int .i64 x.bs.length) := hx.long
  have d1 : decide ((t : Int) < 0) = false := by simp
  have d2 : decide ((m : Int) < 0) = false := by simp
  have hlt : (m : Int) ≤ (x.bs.length : Int) - (t : Int) := by omega
  have hlen : ((x.bs.drop t).take m).length = m := by rw [List.length_take, List.length_drop]; omega
  have HL := Lib.hid hlen
  clear hd hgt hlen
  go_enter Try.func42, Try.ntmps42
  go_wp2_with (first
    | (go_at_call 74; refine hfi.mono ?_; rintro e w' ⟨rfl, rfl⟩)
    | (go_at_call 79; (refine (read_any g x xbl t m w hx hxl htm).mono ?_); rintro e w1 ⟨q, rfl, hq1, hq2, hq3⟩))
  go_ret2
  unfold ReadAt
  rw [HL.out]
  exact ⟨q, rfl, hq1, hq2, hq3⟩

theorem len_none (w : World) (f : Nat) (a : Fs) (bl : List Nat) (n : ByteArray) (h : FsAt w f a bl) (hn : n.size ≤ maxLen) (hgt : a.down = true ∨ getF a.files n = none) :
    Calls Try.prog 59 #[fsPtr f, .string n] w fun e w' => e = .returned (.tuple #[.int .i64 0, .bool false]) ∧ w = w' := by
  obtain ⟨mb, gs, rfl, hg⟩ := h
  cases hd : a.down with
  | true =>
    have hfi := find_down n w f a mb gs hg hd
    clear hd hgt
    go_enter Try.func59, Try.ntmps59
    go_wp2_with (go_at_call 74; refine hfi.mono ?_; rintro e w' ⟨rfl, rfl⟩)
    go_ret2
    exact ⟨rfl, rfl⟩
  | false =>
    have hgt' : getF a.files n = none := hgt.resolve_left (by rw [hd]; simp)
    have hfi := find_miss n w f a mb gs hg hd (hg.get_none hgt') hn
    clear hd hgt hgt'
    go_enter Try.func59, Try.ntmps59
    go_wp2_with (go_at_call 74; refine hfi.mono ?_; rintro e w' ⟨rfl, rfl⟩)
    go_ret2
    exact ⟨rfl, rfl⟩
theorem len_some (w : World) (f : Nat) (a : Fs) (bl : List Nat) (n : ByteArray) (x : Fl) (h : FsAt w f a bl) (hn : n.size ≤ maxLen) (hd : a.down = false) (hgt : getF a.files n = some x) :
    Calls Try.prog 59 #[fsPtr f, .string n] w fun e w' => e = .returned (.tuple #[.int .i64 x.bs.length, .bool true]) ∧ w = w' := by
  obtain ⟨mb, gs, rfl, hg⟩ := h
  obtain ⟨g1, g, xbl, g2, rfl⟩ := hg.get_some hgt
  have hfi := find_hit ⟨n, x, g, xbl⟩ w f a mb _ hg hd (by simp) hn
  have hlong : w.cell? ⟨g, 0, none⟩ = some (.int .i64 x.bs.length) := (hg.2.2.2.2 ⟨n, x, g, xbl⟩ (by simp)).long
  clear hd hgt
  go_enter Try.func59, Try.ntmps59
  go_wp2_with (go_at_call 74; refine hfi.mono ?_; rintro e w' ⟨rfl, rfl⟩)
  go_ret2
  exact ⟨rfl, rfl⟩
theorem room_any (w : World) (f : Nat) (a : Fs) (bl : List Nat) (h : FsAt w f a bl) :
    Calls Try.prog 57 #[fsPtr f] w fun e w' => e = .returned (.int .i64 (if a.down = true then 0 else a.room : Nat)) ∧ w = w' := by
  obtain ⟨mb, gs, rfl, hg⟩ := h
  have hs := state_any w f a mb gs hg
  have h1 : w.cell? ⟨f, 1, none⟩ = some (.int .i64 a.room) := hg.2.2.1.cell rfl
  cases hd : a.down with
  | true =>
    rw [hd] at hs
    clear hd
    go_enter Try.func57, Try.ntmps57
    go_wp2_with (go_at_call 69; refine hs.mono ?_; rintro e w' ⟨rfl, rfl⟩)
    go_ret
    exact ⟨rfl, rfl⟩
  | false =>
    rw [hd] at hs
    clear hd
    go_enter Try.func57, Try.ntmps57
    go_wp2_with (go_at_call 69; refine hs.mono ?_; rintro e w' ⟨rfl, rfl⟩)
    go_ret
    exact ⟨rfl, rfl⟩
theorem down_any (w : World) (f : Nat) (a : Fs) (bl : List Nat) (h : FsAt w f a bl) :
    Calls Try.prog 55 #[fsPtr f] w fun e w' => e = .returned (.bool a.down) ∧ w = w' := by
  obtain ⟨mb, gs, rfl, hg⟩ := h
  have hs := state_any w f a mb gs hg
  cases hd : a.down with
  | true =>
    rw [hd] at hs
    clear hd
    go_enter Try.func55, Try.ntmps55
    go_wp2_with (go_at_call 69; refine hs.mono ?_; rintro e w' ⟨rfl, rfl⟩)
    go_ret
    exact ⟨rfl, rfl⟩
  | false =>
    rw [hd] at hs
    clear hd
    go_enter Try.func55, Try.ntmps55
    go_wp2_with (go_at_call 69; refine hs.mono ?_; rintro e w' ⟨rfl, rfl⟩)
    go_ret
    exact ⟨rfl, rfl⟩
theorem stamp_any (w : World) (f : Nat) (a : Fs) (bl : List Nat) (n : ByteArray) (h : FsAt w f a bl) (hn : n.size ≤ maxLen) :
    Calls Try.prog 60 #[fsPtr f, .string n] w fun e w' => e = .returned (.int .i64 (if a.down = true then 0 else match getF a.files n with | none => 0 | some x => x.stamp : Nat)) ∧ w = w' := by
  obtain ⟨mb, gs, rfl, hg⟩ := h
  cases hd : a.down with
  | true =>
    have hfi := find_down n w f a mb gs hg hd
    clear hd
    rw [if_pos rfl]
    go_enter Try.func60, Try.ntmps60
    go_wp2_with (go_at_call 74; refine hfi.mono ?_; rintro e w' ⟨rfl, rfl⟩)
    go_ret
    exact ⟨rfl, rfl⟩
  | false =>
    rw [if_neg (by simp)]
    cases hgt : getF a.files n with
    | none =>
      have hfi := find_miss n w f a mb gs hg hd (hg.get_none hgt) hn
      clear hd hgt
      go_enter Try.func60, Try.ntmps60
      go_wp2_with (go_at_call 74; refine hfi.mono ?_; rintro e w' ⟨rfl, rfl⟩)
      go_ret
      exact ⟨rfl, rfl⟩
    | some x =>
      obtain ⟨g1, g, xbl, g2, rfl⟩ := hg.get_some hgt
      have hfi := find_hit ⟨n, x, g, xbl⟩ w f a mb _ hg hd (by simp) hn
      have hst : w.cell? ⟨g, 1, none⟩ = some (.int .i64 x.stamp) := by
        obtain ⟨wb, A, c, kv, sb, _, _, hb, _⟩ := hg.2.2.2.2 ⟨n, x, g, xbl⟩ (by simp)
        exact hb.cell (i := 1) rfl
      clear hd hgt
      go_enter Try.func60, Try.ntmps60
      go_wp2_with (go_at_call 74; refine hfi.mono ?_; rintro e w' ⟨rfl, rfl⟩)
      go_ret
      exact ⟨rfl, rfl⟩
theorem fuse_any (w : World) (f : Nat) (a : Fs) (bl : List Nat) (n : Int) (h : FsAt w f a bl) :
    Calls Try.prog 47 #[fsPtr f, .int .i64 n] w fun e w' => e = .returned (.tuple #[]) ∧ ∃ bl', FsAt w' f { a with fuse := max (-1) n } bl' ∧ Turn bl bl' w w' := by
  obtain ⟨mb, gs, rfl, hg⟩ := h
  have h3 : w.cell? ⟨f, 3, none⟩ = some (.int .i64 a.fuse) := hg.2.2.1.cell rfl
  have hf := hg.2.2.1.free 3
  have fin : ∀ v : Int, v = max (-1) n → ∃ bl', FsAt (w.setCell ⟨f, 3, none⟩ (.int .i64 v)) f { a with fuse := max (-1) n } bl' ∧ Turn (fsBlocks f mb gs) bl' w (w.setCell ⟨f, 3, none⟩ (.int .i64 v)) := by
    intro v hv
    subst hv
    have := hg.put 3 (.int .i64 (max (-1) n)) { a with fuse := max (-1) n } rfl rfl
    exact ⟨_, ⟨mb, gs, rfl, this.1⟩, this.2⟩
  have FIN := Lib.hid fin
  clear fin
  go_enter Try.func47, Try.ntmps47
  go_wp2
  all_goals
    go_end0
    exact ⟨rfl, FIN.out _ (by omega)⟩
end Go.Proofs.Ytelghdfikcodmaa.vfs
