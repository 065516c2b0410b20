/-
  The contracts of the reference's New, Right, Find, burn, stamped, Room. My own text.
-/
import Derived.Test.YtelghdfikcodmaaRefMem
namespace Go.Proofs.Ytelghdfikcodmaa.vref
open Go.RowKit Go.Maps Go.Proofs.Ytelghdfikcodmaa.base Go.Proofs.Ytelghdfikcodmaa.vfsnum Go.Proofs.Ytelghdfikcodmaa.vfs
set_option linter.unusedVariables false

theorem str_ne {a b : ByteArray} (h : a ≠ b) : (a.toList == b.toList) = false := by
  rw [beq_eq_false_iff_ne, ByteArray.toList_eq, ByteArray.toList_eq]
  intro e
  exact h (by cases a; cases b; simp at e; rw [e])
theorem RefG.elem {w : World} {f m : Nat} {a : Fs} {A : Option Addr} {c : Nat} {gs : List Gh} (h : RefG w f m a A c gs) {k : Nat} {x : Gh} (hk : gs[k]? = some x) : ∃ b off, A = some ⟨b, off, none⟩ ∧ w.cell? ⟨b, off + k, none⟩ = some (.pointer (some ⟨x.g, 0, none⟩)) := by
  have hl : k < gs.length := (List.getElem?_eq_some_iff.1 hk).1
  obtain ⟨b, off, y, e, _, hy, hc⟩ := (Own.rd h.2.2.2.1).at_ hl
  rw [hk] at hy
  injection hy with hy
  subst hy
  exact ⟨b, off, e, hc⟩
theorem RefG.name {w : World} {f m : Nat} {a : Fs} {A : Option Addr} {c : Nat} {gs : List Gh} (h : RefG w f m a A c gs) {x : Gh} (hx : x ∈ gs) : w.cell? ⟨x.g, 0, none⟩ = some (.string x.name) := by
  obtain ⟨A1, c1, A2, c2, A3, c3, _, _, hb, _⟩ := h.2.2.2.2 x hx
  exact hb.cell rfl
theorem RefG.sects {w : World} {f m : Nat} {a : Fs} {A : Option Addr} {c : Nat} {gs : List Gh} (h : RefG w f m a A c gs) {x : Gh} (hx : x ∈ gs) : ∃ A3 c3, w.cell? ⟨x.g, 3, none⟩ = some (.slice A3 (tk x.fl) c3) := by
  obtain ⟨A1, c1, A2, c2, A3, c3, _, _, hb, _⟩ := h.2.2.2.2 x hx
  have := hb.cell (i := 3) rfl
  rw [show (rawR x.fl).wt.length = tk x.fl by simp [rawR]] at this
  exact ⟨A3, c3, this⟩

theorem find_at (w : World) (f m : Nat) (a : Fs) (A : Option Addr) (c : Nat) (g1 g2 : List Gh) (x : Gh) (h : RefG w f m a A c (g1 ++ x :: g2)) (hne : ∀ y ∈ g1, y.name ≠ x.name) (hlen : (g1 ++ x :: g2).length ≤ 1048576) :
    Calls Try.prog 84 #[.pointer (some ⟨f, 0, none⟩), .string x.name] w fun e w' => e = .returned (.int .i64 (g1.length : Nat)) ∧ w = w' := by
  have h0 : w.cell? ⟨f, 0, none⟩ = some (.slice A (g1 ++ x :: g2).length c) := h.2.2.1.cell rfl
  obtain ⟨N, hN⟩ : ∃ N, (g1 ++ x :: g2).length = N := ⟨_, rfl⟩
  rw [hN] at h0 hlen
  have hgl : g1.length < N := by rw [← hN]; simp
  have H := Lib.hid h
  have HNE := Lib.hid hne
  clear h hne hN
  obtain ⟨K, hK⟩ : ∃ K, g1.length = K := ⟨_, rfl⟩
  rw [hK] at hgl ⊢
  have HK := Lib.hid hK
  clear hK
  go_enter Try.func84, Try.ntmps84
  go_wp2
  go_loop [5] (fun t => ∃ k : Nat, k ≤ K ∧ t = .int .i64 k) (fun t => K - (intOf t).toNat)
  case atStart => exact ⟨0, Nat.zero_le _, rfl⟩
  case round =>
    obtain ⟨k, hk, rfl⟩ := hrel
    by_cases hlt : k < K
    · obtain ⟨y, hy⟩ : ∃ y, g1[k]? = some y := ⟨_, List.getElem?_eq_getElem (by rw [HK.out]; exact hlt)⟩
      have hy2 : (g1 ++ x :: g2)[k]? = some y := by rw [List.getElem?_append_left (by rw [HK.out]; exact hlt)]; exact hy
      obtain ⟨b, off, rfl, hc⟩ := H.out.elem hy2
      have hnm := H.out.name (List.mem_of_getElem? hy2)
      have hs := str_ne (HNE.out y (List.mem_of_getElem? hy))
      clear hy hy2
      go_wp2
      go_round
      case rel => exact ⟨k + 1, by omega, by go_num⟩
      case measure => simp [intOf]; omega
    · have hkK : k = K := by omega
      subst hkK
      have hy2 : (g1 ++ x :: g2)[k]? = some x := by rw [← HK.out, List.getElem?_append_right (Nat.le_refl _), Nat.sub_self]; rfl
      obtain ⟨b, off, rfl, hc⟩ := H.out.elem hy2
      have hnm := H.out.name (List.mem_of_getElem? hy2)
      clear hy2
      go_wp2
      go_ret
      exact ⟨rfl, rfl⟩
theorem find_no (w : World) (f m : Nat) (a : Fs) (A : Option Addr) (c : Nat) (gs : List Gh) (n : ByteArray) (h : RefG w f m a A c gs) (hne : ∀ y ∈ gs, y.name ≠ n) (hlen : gs.length ≤ 1048576) :
    Calls Try.prog 84 #[.pointer (some ⟨f, 0, none⟩), .string n] w fun e w' => e = .returned (.int .i64 (-1)) ∧ w = w' := by
  have h0 : w.cell? ⟨f, 0, none⟩ = some (.slice A gs.length c) := h.2.2.1.cell rfl
  have H := Lib.hid h
  have HNE := Lib.hid hne
  clear h hne
  obtain ⟨N, hN⟩ : ∃ N, gs.length = N := ⟨_, rfl⟩
  rw [hN] at h0 hlen
  have HN := Lib.hid hN
  clear hN
  go_enter Try.func84, Try.ntmps84
  go_wp2
  go_loop [5] (fun t => ∃ k : Nat, k ≤ N ∧ t = .int .i64 k) (fun t => N - (intOf t).toNat)
  case atStart => exact ⟨0, Nat.zero_le _, rfl⟩
  case round =>
    obtain ⟨k, hk, rfl⟩ := hrel
    by_cases hlt : k < N
    · obtain ⟨y, hy⟩ : ∃ y, gs[k]? = some y := ⟨_, List.getElem?_eq_getElem (by rw [HN.out]; exact hlt)⟩
      obtain ⟨b, off, rfl, hc⟩ := H.out.elem hy
      have hnm := H.out.name (List.mem_of_getElem? hy)
      have hs := str_ne (HNE.out y (List.mem_of_getElem? hy))
      clear hy
      go_wp2
      go_round
      case rel => exact ⟨k + 1, by omega, by go_num⟩
      case measure => simp [intOf]; omega
    · go_wp2
      go_ret
      exact ⟨rfl, rfl⟩

theorem burn_out (w : World) (f m : Nat) (a : Fs) (A : Option Addr) (c : Nat) (gs : List Gh) (h : RefG w f m a A c gs) (h0 : a.fuse = 0) :
    Calls Try.prog 85 #[.pointer (some ⟨f, 0, none⟩)] w fun e w' => e = .returned (.bool false) ∧ RefG w' f m a.fall A c gs ∧ Turn (rsBlocks f A gs) (rsBlocks f A gs) w w' := by
  have h3 : w.cell? ⟨f, 3, none⟩ = some (.int .i64 0) := h0 ▸ h.2.2.1.cell rfl
  have h4 : w.cell? ⟨f, 4, none⟩ = some (.bool a.down) := h.2.2.1.cell rfl
  have hf := h.2.2.1.free 4
  have hp := h.put 4 (.bool true) a.fall rfl rfl
  have HP := Lib.hid hp
  clear hp h0
  go_enter Try.func85, Try.ntmps85
  go_wp2
  go_ret
  exact ⟨rfl, HP.out⟩
theorem burn_on (w : World) (f m : Nat) (a : Fs) (A : Option Addr) (c : Nat) (gs : List Gh) (h : RefG w f m a A c gs) (h0 : a.fuse ≠ 0) (h1 : -1 ≤ a.fuse) (h2 : a.fuse ≤ 9223372036854775807) :
    Calls Try.prog 85 #[.pointer (some ⟨f, 0, none⟩)] w fun e w' => e = .returned (.bool true) ∧ RefG w' f m a.burn A c gs ∧ Turn (rsBlocks f A gs) (rsBlocks f A gs) w w' := by
  have h3 : w.cell? ⟨f, 3, none⟩ = some (.int .i64 a.fuse) := h.2.2.1.cell rfl
  have hf := h.2.2.1.free 3
  have hz : (a.fuse == 0) = false := by rw [beq_eq_false_iff_ne]; exact h0
  by_cases hpos : 0 < a.fuse
  · have hp := h.put 3 (.int .i64 (a.fuse - 1)) a.burn rfl (by simp [cellsR, Fs.burn, hpos])
    have HP := Lib.hid hp
    clear hp
    go_enter Try.func85, Try.ntmps85
    go_wp2
    go_ret
    exact ⟨rfl, HP.out⟩
  · have hb : a.burn = a := by unfold Fs.burn; rw [if_neg hpos]
    have HB := Lib.hid hb
    clear hb
    go_enter Try.func85, Try.ntmps85
    go_wp2
    go_ret
    exact ⟨rfl, by rw [HB.out]; exact h, Turn.refl _ _⟩

theorem room_r (w : World) (f m : Nat) (a : Fs) (A : Option Addr) (c : Nat) (gs : List Gh) (h : RefG w f m a A c gs) (hlen : gs.length ≤ 1048576) (hm : m ≤ 1048576) (hs : (gs.map fun x => tk x.fl).sum ≤ m) :
    Calls Try.prog 62 #[.pointer (some ⟨f, 0, none⟩)] w fun e w' => e = .returned (.int .i64 (m - (gs.map fun x => tk x.fl).sum : Nat)) ∧ w = w' := by
  have h0 : w.cell? ⟨f, 0, none⟩ = some (.slice A gs.length c) := h.2.2.1.cell rfl
  have h1 : w.cell? ⟨f, 1, none⟩ = some (.int .i64 m) := h.2.2.1.cell rfl
  have H := Lib.hid h
  clear h
  obtain ⟨N, hN⟩ : ∃ N, gs.length = N := ⟨_, rfl⟩
  rw [hN] at h0 hlen
  obtain ⟨R, hR⟩ : ∃ R, m - (gs.map fun x => tk x.fl).sum = R := ⟨_, rfl⟩
  rw [hR]
  have HR := Lib.hid (show R + (gs.map fun x => tk x.fl).sum = m by omega)
  have HN := Lib.hid hN
  clear hN hs hR
  go_enter Try.func62, Try.ntmps62
  go_wp2
  go_loop [3, 4] (fun v t => ∃ k r : Nat, k ≤ N ∧ t = .int .i64 k ∧ v = .int .i64 r ∧ r ≤ m ∧ Hid (r = R + ((gs.drop k).map fun x => tk x.fl).sum)) (fun _ t => N - (intOf t).toNat)
  case atStart => exact ⟨0, m, Nat.zero_le _, rfl, rfl, Nat.le_refl _, by show _ = _; rw [List.drop_zero]; exact HR.out.symm⟩
  case round =>
    obtain ⟨k, r, hk, rfl, rfl, hrm, hr⟩ := hrel
    by_cases hlt : k < N
    · obtain ⟨y, hy⟩ : ∃ y, gs[k]? = some y := ⟨_, List.getElem?_eq_getElem (by rw [HN.out]; exact hlt)⟩
      obtain ⟨b, off, rfl, hc⟩ := H.out.elem hy
      obtain ⟨A3, c3, hsec⟩ := H.out.sects (List.mem_of_getElem? hy)
      have hd : gs.drop k = y :: gs.drop (k + 1) := by
        obtain ⟨hl, e⟩ := List.getElem?_eq_some_iff.1 hy
        rw [List.drop_eq_getElem_cons hl, e]
      have hr2 : r = R + (tk y.fl + ((gs.drop (k + 1)).map fun x => tk x.fl).sum) := by have := hr.out; rw [hd, List.map_cons, List.sum_cons] at this; exact this
      have hle : tk y.fl ≤ r := by omega
      have HR2 := Lib.hid (show r - tk y.fl = R + ((gs.drop (k + 1)).map fun x => tk x.fl).sum by omega)
      clear hr2 hy hd hr
      generalize tk y.fl = T at *
      go_wp2
      go_round
      case rel => exact ⟨k + 1, r - T, by omega, by go_num, congrArg (Value.int .i64) (by omega), by omega, HR2.out⟩
      case measure => simp [intOf]; omega
    · have hE := Lib.hid (show r = R by have := hr.out; rw [List.drop_eq_nil_of_le (by rw [HN.out]; omega)] at this; simpa using this)
      clear hr
      go_wp2
      go_ret
      rw [hE.out]
      exact ⟨rfl, rfl⟩
end Go.Proofs.Ytelghdfikcodmaa.vref
