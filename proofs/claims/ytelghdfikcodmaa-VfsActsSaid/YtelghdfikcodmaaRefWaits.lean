/-
  The contract of the reference's Waits. My own text.
-/
import Derived.Test.YtelghdfikcodmaaRefRen
namespace Go.Proofs.Ytelghdfikcodmaa.vref
open Go.RowKit Go.Maps Go.Proofs.Ytelghdfikcodmaa.base Go.Proofs.Ytelghdfikcodmaa.vfsnum Go.Proofs.Ytelghdfikcodmaa.vfs
set_option linter.unusedVariables false

def cntG (x : Gh) : Nat := cnt x.fl.old (tk x.fl)
theorem RefG.waitsAt {w : World} {f m : Nat} {a : Fs} {A : Option Addr} {c : Nat} {gs : List Gh} (h : RefG w f m a A c gs) {x : Gh} (hx : x ∈ gs) {j : Nat} (hj : j < tk x.fl) {A3 : Option Addr} {c3 : Nat} (h3 : w.cell? ⟨x.g, 3, none⟩ = some (.slice A3 (tk x.fl) c3)) :
    ∃ b off, A3 = some ⟨b, off, none⟩ ∧ w.cell? ⟨b, off + j, none⟩ = some (.bool (x.fl.old j).isSome) := by
  obtain ⟨A1, c1, A2, c2, A3', c3', _, _, hb, _, _, ho⟩ := h.2.2.2.2 x hx
  have h3' := hb.cell (i := 3) rfl
  have hl : (rawR x.fl).wt.length = tk x.fl := by simp [rawR]
  rw [hl] at h3' ho
  rw [h3] at h3'
  injection h3' with e
  injection e with e1 e2 e3
  subst e1
  obtain ⟨b, off, y, e, _, hy, hc⟩ := (Own.rd ho).at_ hj
  have : y = (x.fl.old j).isSome := by
    have hy' : ((List.range (tk x.fl)).map fun k => (x.fl.old k).isSome)[j]? = some y := hy
    rw [List.getElem?_map, List.getElem?_range hj] at hy'
    injection hy' with hy'
    exact hy'.symm
  subst this
  exact ⟨b, off, e, hc⟩

set_option maxRecDepth 100000 in
set_option maxHeartbeats 2000000 in
theorem waits_r (w : World) (f m : Nat) (a : Fs) (A : Option Addr) (c : Nat) (gs : List Gh) (h : RefG w f m a A c gs) (hlen : gs.length ≤ 1048576) (hok : FsOk a) (W : Nat) (hW : (gs.map cntG).sum = W) (hWb : W ≤ 65536) (htk : ∀ x ∈ gs, tk x.fl ≤ 65536) :
    Calls Try.prog 63 #[.pointer (some ⟨f, 0, none⟩)] w fun e w' => e = .returned (.int .i64 (W : Nat)) ∧ w = w' := by
  have h0 : w.cell? ⟨f, 0, none⟩ = some (.slice A gs.length c) := h.2.2.1.cell rfl
  have H := Lib.hid h
  have HT := Lib.hid htk
  have HW := Lib.hid hW
  obtain ⟨N, hN⟩ : ∃ N, gs.length = N := ⟨_, rfl⟩
  rw [hN] at h0 hlen
  have HN := Lib.hid hN
  clear hN hW h htk
  go_enter Try.func63, Try.ntmps63
  go_wp2
  go_loop [3, 4] (fun v t => ∃ k s : Nat, k ≤ N ∧ t = .int .i64 k ∧ v = .int .i64 s ∧ s ≤ W ∧ Hid (s + ((gs.drop k).map cntG).sum = W)) (fun _ t => N - (intOf t).toNat)
  case atStart => exact ⟨0, 0, Nat.zero_le _, rfl, rfl, Nat.zero_le _, by show _ = _; rw [List.drop_zero, Nat.zero_add]; exact HW.out⟩
  case round =>
    obtain ⟨k, s, hk, rfl, rfl, hsW, hs⟩ := hrel
    by_cases hlt : k < N
    · obtain ⟨y, hy⟩ : ∃ y, gs[k]? = some y := ⟨_, List.getElem?_eq_getElem (by rw [HN.out]; exact hlt)⟩
      have hym := List.mem_of_getElem? hy
      obtain ⟨b, off, rfl, hc⟩ := H.out.elem hy
      obtain ⟨A3, c3, hsec⟩ := H.out.sects hym
      have hd : gs.drop k = y :: gs.drop (k + 1) := by
        obtain ⟨hl, e⟩ := List.getElem?_eq_some_iff.1 hy
        rw [List.drop_eq_getElem_cons hl, e]
      have hs2 : s + (cnt y.fl.old (tk y.fl) + ((gs.drop (k + 1)).map cntG).sum) = W := by have := hs.out; rw [hd, List.map_cons, List.sum_cons] at this; exact this
      have HS2 := Lib.hid hs2
      have HYM := Lib.hid hym
      have hT := HT.out y hym
      have HSEC := Lib.hid hsec
      clear hy hym hd hs hs2
      obtain ⟨T, hTe⟩ : ∃ T, tk y.fl = T := ⟨_, rfl⟩
      rw [hTe] at hsec hT
      have HTE := Lib.hid hTe
      clear hTe
      go_wp2
      go_loop [3, 5] (fun v t => ∃ j q : Nat, j ≤ T ∧ t = .int .i64 j ∧ v = .int .i64 q ∧ q ≤ W ∧ Hid (q = s + cnt y.fl.old j)) (fun _ t => T - (intOf t).toNat)
      case atStart => exact ⟨0, s, Nat.zero_le _, rfl, rfl, hsW, by show _ = _; simp [cnt]⟩
      case round =>
        obtain ⟨j, q, hj, rfl, rfl, hqW, hq⟩ := hrel
        by_cases hjT : j < T
        · obtain ⟨b3, off3, rfl, hc3⟩ := H.out.waitsAt HYM.out (j := j) (by rw [HTE.out]; exact hjT) HSEC.out
          have hcs := cnt_succ y.fl.old j
          have hmono : cnt y.fl.old (j + 1) ≤ cnt y.fl.old (tk y.fl) := by
            have hsub : ((List.range (j + 1)).filter fun i => (y.fl.old i).isSome).Sublist ((List.range (tk y.fl)).filter fun i => (y.fl.old i).isSome) := (List.range_sublist.2 (by rw [HTE.out]; omega)).filter _
            exact hsub.length_le
          have hbnd : s + cnt y.fl.old (j + 1) ≤ W := by have := HS2.out; omega
          have hqe := hq.out
          cases hb : (y.fl.old j).isSome with
          | true =>
            rw [hb] at hc3
            have hb1 : q + 1 ≤ W := by rw [hb, if_pos rfl] at hcs; omega
            have HQ := Lib.hid (show q + 1 = s + cnt y.fl.old (j + 1) by rw [hb, if_pos rfl] at hcs; omega)
            clear hcs hmono hbnd hqe hb hq
            go_wp2
            go_round
            case rel => exact ⟨j + 1, q + 1, by omega, by go_num, by go_num, hb1, HQ.out⟩
            case measure => simp [intOf]; omega
          | false =>
            rw [hb] at hc3
            have HQ := Lib.hid (show q = s + cnt y.fl.old (j + 1) by rw [hb, if_neg (by simp)] at hcs; omega)
            clear hcs hmono hbnd hqe hb hq
            go_wp2
            go_round
            case rel => exact ⟨j + 1, q, by omega, by go_num, rfl, hqW, HQ.out⟩
            case measure => simp [intOf]; omega
        · have HE := Lib.hid (show q + ((gs.drop (k + 1)).map cntG).sum = W by have h1 := HS2.out; have h2 := hq.out; rw [HTE.out] at h1; have hjt : j = T := (by omega); rw [hjt] at h2; omega)
          clear hq
          go_wp2
          go_round
          case rel => exact ⟨k + 1, q, by omega, by go_num, rfl, hqW, HE.out⟩
          case measure => simp [intOf]; omega
    · have HE := Lib.hid (show s = W by have := hs.out; rw [List.drop_eq_nil_of_le (by rw [HN.out]; omega)] at this; simpa using this)
      clear hs
      go_wp2
      go_ret
      rw [HE.out]
      exact ⟨rfl, rfl⟩
end Go.Proofs.Ytelghdfikcodmaa.vref
