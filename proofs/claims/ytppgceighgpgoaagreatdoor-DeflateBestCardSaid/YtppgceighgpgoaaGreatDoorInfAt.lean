import Derived.Test.YtppgceighgpgoaaGreatDoorMgPart
import Derived.Test.YtppgceighgpgoaaGreatDoorMgHuff
import Derived.Test.YtppgceighgpgoaaGreatDoorStore
/-
  An unpacker in memory: its cells, its window; the contracts of the window's calls. My own text.
-/
namespace Go.Proofs.YtppgceighgpgoaaGreatDoor.infp
open Go.RowKit Go.Proofs.YtppgceighgpgoaaGreatDoor.base Go.Proofs.YtppgceighgpgoaaGreatDoor.num Go.Proofs.YtppgceighgpgoaaGreatDoor.bitnum Go.Proofs.YtppgceighgpgoaaGreatDoor.bitp Go.Proofs.YtppgceighgpgoaaGreatDoor.huffnum Go.Proofs.YtppgceighgpgoaaGreatDoor.huffp Go.Proofs.YtppgceighgpgoaaGreatDoor.infnum
set_option linter.unusedVariables false

abbrev tInf : TypeId := 80
/-- what the fields hold -/
structure V where
  rest : Value
  fed : Nat
  bits : Value
  win : Value
  all : Nat
  next : Nat
  last : Bool
  left : Nat
  back : Nat
  one : UInt8
  sy : Value
  di : Value
  f0 : Value
  f1 : Value
  behind : Nat
  told : Bool
def V.cells (v : V) : List Value := [v.rest, iv v.fed, v.bits, v.win, iv v.all, iv v.next, .bool v.last, iv v.left, iv v.back, bv v.one, v.sy, v.di, v.f0, v.f1, iv v.behind, .bool v.told]
abbrev InfAt (w : World) (g : Nat) (v : V) : Prop := Bk w g tInf v.cells

/-- the bytes that a window has of all that came: each stands at its number, taken round -/
def Ring (win out : List UInt8) : Prop := win.length = min 32768 out.length ∧ ∀ i, i < out.length → out.length ≤ i + 32768 → win[i % 32768]? = out[i]?
theorem Ring.nil : Ring [] [] := ⟨rfl, fun i h => by simp at h⟩
theorem Ring.more {win out : List UInt8} (h : Ring win out) (hl : win.length < 32768) (c : UInt8) : Ring (win ++ [c]) (out ++ [c]) := by
  have h1 := h.1
  have hlt : out.length < 32768 := by omega
  refine ⟨by simp; omega, fun i hi _ => ?_⟩
  rw [List.length_append, List.length_singleton] at hi
  rw [Nat.mod_eq_of_lt (by omega)]
  by_cases e : i < out.length
  · have := h.2 i e (by omega)
    rw [Nat.mod_eq_of_lt (by omega)] at this
    rw [List.getElem?_append_left (by omega), List.getElem?_append_left e, this]
  · rw [List.getElem?_append_right (by omega), List.getElem?_append_right (by omega), show i - win.length = i - out.length by omega]
theorem Ring.over {win out : List UInt8} (h : Ring win out) (hl : ¬ win.length < 32768) (c : UInt8) : Ring (win.set (out.length % 32768) c) (out ++ [c]) := by
  have h1 := h.1
  refine ⟨by simp; omega, fun i hi hw => ?_⟩
  rw [List.length_append, List.length_singleton] at hi hw
  by_cases e : i < out.length
  · have := h.2 i e (by omega)
    rw [List.getElem?_append_left e, List.getElem?_set_ne (by omega), this]
  · have e' : i = out.length := by omega
    subst e'
    rw [List.getElem?_set_self (by omega), List.getElem?_append_right (Nat.le_refl _), Nat.sub_self]
    rfl

/-- a window of what came, in the blocks wl -/
def WinAt (w : World) (val : Value) (out : List UInt8) (wl : List Nat) : Prop :=
  ∃ A n c win, val = .slice A n c ∧ n = min 32768 out.length ∧ Own w 0 5 A n c (win.map bv) ∧ Ring win out ∧ wl = rb A n c
theorem WinAt.keep {w w' : World} {val : Value} {out : List UInt8} {wl : List Nat} (h : WinAt w val out wl) (hk : ∀ b ∈ wl, w'.heap[b]? = w.heap[b]?) : WinAt w' val out wl := by
  obtain ⟨A, n, c, win, rfl, hn, ho, hr, rfl⟩ := h
  refine ⟨A, n, c, win, rfl, hn, ⟨ho.1, ?_⟩, hr, rfl⟩
  rcases ho.2 with h2 | ⟨q, cap, cur, hv, hb, hg, r⟩
  · exact .inl h2
  · refine .inr ⟨q, cap, cur, hv, hb, ?_, r⟩
    rw [hk q (by have : (Value.slice A n c).ownBlock = some q := by rw [hv]; rfl
                 simp [rb, this])]
    exact hg
theorem WinAt.inside {w : World} {val : Value} {out : List UInt8} {wl : List Nat} (h : WinAt w val out wl) : ∀ b ∈ wl, b < w.heap.size := by
  obtain ⟨A, n, c, win, rfl, hn, ho, hr, rfl⟩ := h
  intro b hx
  exact (World.ownsRow.lt ho b (by simpa using hx)).2
theorem WinAt.fresh {w w' : World} {val : Value} {out : List UInt8} {wl : List Nat} (h : WinAt w val out wl) (k : Fresh w w') : WinAt w' val out wl := h.keep fun b hb => k.block b (h.inside b hb)
theorem WinAt.turn {S S' : List Nat} {w w' : World} {val : Value} {out : List UInt8} {wl : List Nat} (h : WinAt w val out wl) (k : Turn S S' w w') (hS : ∀ b ∈ wl, b ∉ S) : WinAt w' val out wl := h.keep fun b hb => k.block b (h.inside b hb) (hS b hb)
theorem WinAt.nil (w : World) : WinAt w (.slice none 0 0) [] [] := ⟨none, 0, 0, [], rfl, rfl, Own.nil _ _ _, Ring.nil, rfl⟩
theorem WinAt.off {w : World} {val : Value} {out : List UInt8} {wl : List Nat} (h : WinAt w val out wl) {g : Nat} {v : V} (hb : InfAt w g v) : g ∉ wl := by
  obtain ⟨A, n, c, win, rfl, hn, ho, hr, rfl⟩ := h
  have := ho.ne_block hb (by decide)
  intro hx
  exact this (by simpa [rb] using hx)

theorem Own.store {w : World} {base : Nat} {e : TypeId} {g n c : Nat} {xs : List Value} (h : Own w base e (some ⟨g, 0, none⟩) n c xs) (j : Nat) (hj : j < n) (u : Value) :
    Own (w.setCell ⟨g, j, none⟩ u) base e (some ⟨g, 0, none⟩) n c (xs.set j u) := (World.ownsRow.stored h j u).1
set_option maxRecDepth 100000 in
theorem add_win (g : Nat) (v : V) (out : List UInt8) (wl : List Nat) (x : UInt8) (w : World) (hb : InfAt w g v) (hw : WinAt w v.win out wl) (ha : v.all = out.length) (hn : out.length ≤ 1099511627776) :
    Calls Tryz.prog 57 #[.pointer (some ⟨g, 3, none⟩), bv x] w fun e w' => e = .returned (bv x) ∧
      ∃ val wl', InfAt w' g { v with win := val, all := out.length + 1 } ∧ WinAt w' val (out ++ [x]) wl' ∧ Turn (g :: wl) (g :: wl') w w' := by
  obtain ⟨i0, hi0, hz0, hz1, hz2⟩ := info_parts info_byte
  obtain ⟨A, n, c, win, hv, hl, ho, hr, rfl⟩ := hw
  have h3 : w.cell? ⟨g, 3, none⟩ = some (.slice A n c) := by rw [← hv]; exact hb.cell rfl
  have h4 : w.cell? ⟨g, 4, none⟩ = some (.int .i64 (out.length : Nat)) := by rw [← ha]; exact hb.cell rfl
  have hf3 := hb.free 3
  have hf4 := hb.free 4
  have hcap := ho.cap
  have hwl : win.length = n := by have := ho.1; simpa using this
  have hne := ho.ne_block hb (by decide)
  have hin := hb.inside
  obtain ⟨L, hL⟩ : ∃ L, out.length = L := ⟨_, rfl⟩
  rw [hL] at h4 hl hn ⊢
  by_cases hlt : n < 32768
  · have hring := hr.more (by omega) x
    have HRING := Lib.hid hring
    have HB := Lib.hid hb
    have HO := Lib.hid ho
    have HL := Lib.hid hl
    have HLT := Lib.hid hlt
    have hlti : (n : Int) < 32768 := by omega
    have hnb : n ≤ 1099511627776 := by omega
    clear hring hr hb ho hl hlt
    go_enter Tryz.func57, Tryz.ntmps57
    go_wp2_with (first
      | (at_builtin; go_loud (refine wpList_append_rdx _ rfl (.tmp 15) (.tmp 17) 24 rfl 0 5 i0 _ 1 Tryz.underlying24 hi0 hz0 hz1 hz2 rfl A n c (win.map bv) rfl (HO.out.fresh (Fresh.alloc _ _)) (w.heap.size + 1) (some ⟨w.heap.size, 0, none⟩) 1 1 [bv x] rfl (Rd.lit w #[bv x] 5) (bv_one [x]) (by unfold maxLen; omega) (by omega) (Nat.zero_le _) ?_); intro A1 c1 w1 ho1 hg1 hw1; have hb0 := HB.out.fresh (Fresh.alloc w (.cells #[bv x] 5)); have hb1 := hb0.grown hg1 hne; have hf1 := hb1.free 3; have hf5 := hb1.free 4; have hc1 : w1.cell? ⟨g, 4, none⟩ = some (.int .i64 L) := (by rw [← hL, ← ha]; exact hb1.cell rfl); have hc0 : w1.cell? ⟨g, 3, none⟩ = some (.slice A n c) := (by rw [← hv]; exact hb1.cell rfl); clear hlti))
    go_ret
    have e : win.map bv ++ [bv x] = (win ++ [x]).map bv := by simp
    rw [e] at ho1
    have hne1 := ho1.ne_block hb1 (by decide)
    refine ⟨rfl, .slice A1 (n + 1) c1, rb A1 (n + 1) c1, (hb1.put 3 _).put 4 _, ⟨A1, n + 1, c1, win ++ [x], rfl, ?_, (ho1.but (But.put _ _) hne1).but (But.put _ _) hne1, HRING.out, rfl⟩, ?_⟩
    · rw [List.length_append, List.length_singleton, hL]; have := HL.out; have := HLT.out; omega
    · have t0 : Turn (g :: rb A n c) (g :: rb A n c) w (w.alloc (.cells #[bv x] 5)) := Turn.fresh (Fresh.alloc _ _)
      have t1 : Turn (g :: rb A n c) (g :: rb A n c) (w.alloc (.cells #[bv x] 5)) w1 := Turn.of_grown hg1 fun b hb => by simp [rb, hb]
      refine (((t0.trans t1).trans (Turn.but (But.put (i := 3) _ _) (by simp))).trans (Turn.but (But.put (i := 4) _ _) (by simp))).to fun k hk => ?_
      rcases List.mem_cons.1 hk with rfl | hk
      · exact .inl (by simp)
      · rcases hw1 with h | h
        · rw [rb, h] at hk; exact .inl (by simp at hk; simp [rb, hk])
        · rw [rb, h] at hk
          simp at hk
          exact .inr (by omega)
  · obtain ⟨q, cap, hq, h0, hqi⟩ := World.ownsRow.form ho (by omega)
    injection hq with hA _ _
    subst hA
    obtain ⟨k, hk⟩ : ∃ k, L % 32768 = k := ⟨_, rfl⟩
    have hk1 : (L : Int) % 32768 = (k : Int) := by omega
    have hk2 : Int.tmod (L : Int) 32768 = (k : Int) := by rw [Int.tmod_eq_emod_of_nonneg (by omega)]; exact hk1
    have hkn : (k : Int) < (n : Int) := by omega
    have hk0 : (0 : Int) ≤ (k : Int) := by omega
    have hfz := World.ownsRow.frozenAt ho k
    have hring := hr.over (by omega) x
    rw [hL, hk] at hring
    have HRING := Lib.hid hring
    have HB := Lib.hid hb
    have HO := Lib.hid ho
    have hk3 : k < n := by omega
    have hcq := World.ownsRow.cells ho (g := q) rfl k (bv (win.getD k 0)) (by rw [List.getElem?_map, List.getElem?_eq_getElem (by omega)]; simp [List.getD, List.getElem?_eq_getElem (show k < win.length by omega)])
    have hadd : (⟨q, 0, none⟩ : Addr).add k = ⟨q, 0 + k, none⟩ := by unfold Addr.add; split <;> simp_all
    rw [hadd, Nat.zero_add] at hcq
    have hlti : ¬ (n : Int) < 32768 := by omega
    have HL := Lib.hid hl
    have hqg : q ≠ g := fun e => hne (by rw [← e]; rfl)
    have hb1 : ∀ u, InfAt (w.setCell ⟨q, k, none⟩ u) g v := fun u => hb.apart (fun e => hqg e.symm) u
    have hs := Own.store ho k hk3 (bv x)
    have HS := Lib.hid hs
    have HB1 := Lib.hid hb1
    have HK := Lib.hid hk
    clear hring hr hb ho hl hlt hb1 hs hk hadd
    go_enter Tryz.func57, Tryz.ntmps57
    go_wp2
    go_region
    go_wp2
    go_ret
    have hmap : (win.map bv).set k (bv x) = (win.set k x).map bv := by rw [List.map_set]
    have hso := HS.out
    rw [hmap] at hso
    refine ⟨rfl, v.win, rb (some ⟨q, 0, none⟩) n c, ((HB1.out (bv x)).put 4 _).fresh (Fresh.drew _), ⟨some ⟨q, 0, none⟩, n, c, win.set k x, hv, ?_, (hso.but (But.put (g := g) (i := 4) _ _) hne).fresh (Fresh.drew _), HRING.out, rfl⟩, ?_⟩
    · rw [List.length_append, List.length_singleton, hL]; have := HL.out; omega
    · exact ((Turn.but (But.put (g := q) (i := k) w _) (by simp [rb, Value.ownBlock])).trans (Turn.but (But.put (g := g) (i := 4) _ _) (by simp))).trans (Turn.fresh (Fresh.drew _))
set_option maxRecDepth 100000 in
theorem ago_win (g : Nat) (v : V) (out : List UInt8) (wl : List Nat) (n : Nat) (x : UInt8) (w : World) (hb : InfAt w g v) (hw : WinAt w v.win out wl) (ha : v.all = out.length) (hn : out.length ≤ 1099511627776) (h1 : 1 ≤ n) (hle : n ≤ min 32768 out.length) (hx : out[out.length - n]? = some x) :
    Calls Tryz.prog 82 #[.pointer (some ⟨g, 3, none⟩), .int .i64 n] w fun e w' => e = .returned (bv x) ∧ Fresh w w' := by
  obtain ⟨A, N, c, win, hv, hl, ho, hr, rfl⟩ := hw
  have h3 : w.cell? ⟨g, 3, none⟩ = some (.slice A N c) := by rw [← hv]; exact hb.cell rfl
  have h4 : w.cell? ⟨g, 4, none⟩ = some (.int .i64 (out.length : Nat)) := by rw [← ha]; exact hb.cell rfl
  obtain ⟨q, cap, hq, h0, hqi⟩ := World.ownsRow.form ho (by omega)
  injection hq with hA _ hcc
  subst hA
  have hwl : win.length = N := by have := ho.1; simpa using this
  have hwx := hr.2 (out.length - n) (by omega) (by omega)
  rw [hx] at hwx
  obtain ⟨L, hL⟩ : ∃ L, out.length = L := ⟨_, rfl⟩
  rw [hL] at h4 hl hn hwx hle
  obtain ⟨k, hk⟩ : ∃ k, (L - n) % 32768 = k := ⟨_, rfl⟩
  rw [hk] at hwx
  have hkN : k < win.length := (List.getElem?_eq_some_iff.1 hwx).1
  have hcq := World.ownsRow.cells ho (g := q) rfl k (bv x) (by rw [List.getElem?_map, hwx]; rfl)
  have hadd : (⟨q, 0, none⟩ : Addr).add k = ⟨q, 0 + k, none⟩ := by unfold Addr.add; split <;> simp_all
  rw [hadd, Nat.zero_add] at hcq
  obtain ⟨M, hM⟩ : ∃ M, L - n = M := ⟨_, rfl⟩
  have hs : (L : Int) - (n : Int) = (M : Int) := by omega
  rw [hM] at hk
  have hk1 : (M : Int) % 32768 = (k : Int) := by omega
  have hk2 : Int.tmod (M : Int) 32768 = (k : Int) := by rw [Int.tmod_eq_emod_of_nonneg (by omega)]; exact hk1
  have hkn : (k : Int) < (N : Int) := by omega
  have hk0 : (0 : Int) ≤ (k : Int) := by omega
  have hM1 : M ≤ 1099511627776 := by omega
  clear hr hx hwx ho hl hk hM hle h1 hL hadd hwl hkN
  go_enter Tryz.func82, Tryz.ntmps82
  go_wp2
  go_quiet (fail)
  go_wp2
  go_ret
  exact ⟨rfl, Fresh.drewN _ _⟩
end Go.Proofs.YtppgceighgpgoaaGreatDoor.infp
