/-
  The contract of vfs's file.write. My own text.
-/
import Derived.Test.YtelghdfikcodmaaVfsFile2
import Derived.Test.YtelghdfikcodmaaVfsSpec
import Derived.BigQuiet
import Derived.Deep.QuietTactic
namespace Go.Proofs.Ytelghdfikcodmaa.vfs
open Go.RowKit Go.Maps Go.Proofs.Ytelghdfikcodmaa.base Go.Proofs.Ytelghdfikcodmaa.vfsnum
set_option linter.unusedVariables false

def lenV : Value → Nat
  | .slice _ m _ => m
  | _ => 0
theorem flOk_raw {f : Fl} (h : FlOk f) : RawOk (rawOf f) := ⟨show takes _ ≤ _ by have := h.1; unfold takes; omega, h.2⟩
theorem wrt_ok {f : Fl} {a : Nat} {b : Bs} (h : FlOk f) (ha : a ≤ f.bs.length) (hl : a + b.length ≤ 4194304) : FlOk (wrt f a b) := by
  have hlen := wrt_len f a b ha
  refine ⟨by rw [hlen]; have := h.1; omega, fun k o hk => ?_⟩
  have hk' : (if b ≠ [] ∧ a / 64 ≤ k ∧ 64 * k < a + b.length ∧ (f.old k).isSome = false then some (secAt f.bs k) else f.old k) = some o := hk
  rw [hlen]
  by_cases hc : b ≠ [] ∧ a / 64 ≤ k ∧ 64 * k < a + b.length ∧ (f.old k).isSome = false
  · rw [if_pos hc] at hk'
    injection hk' with hk'
    subst hk'
    exact ⟨by have := hc.2.2.1; unfold takes; omega, secAt_len _ _⟩
  · rw [if_neg hc] at hk'
    have := h.2 k o hk'
    exact ⟨by have := this.1; unfold takes at *; omega, this.2⟩
theorem src_of {w : World} {S : List Nat} {B : Option Addr} {m : Nat} {xs : Bs} (h : RdA w S B m (xs.map bv)) (hm : 0 < m) (z : Nat) :
    ∃ b so, B = some ⟨b, so, none⟩ ∧ ∀ j v, ((xs.take z).map bv)[j]? = some v → w.cell? ⟨b, so + j, none⟩ = some v := by
  obtain ⟨b, off, e, hb, hS, hc⟩ := h.2 hm
  refine ⟨b, off, e, fun j v hv => hc j v ?_⟩
  rw [List.map_take, List.getElem?_take] at hv
  split at hv
  · exact hv
  · cases hv
theorem byteInfo1 : (Try.prog.info? 5).map (·.size) = some 1 := by kernel_rfl

set_option maxRecDepth 100000 in
set_option maxHeartbeats 1000000 in
theorem write_any (g : Nat) (f : Fl) (bl : List Nat) (a : Nat) (A : Option Addr) (n c : Nat) (bs : Bs) (w : World) (h : FileRaw w g (rawOf f) bl) (hr : RdA w bl A n (bs.map bv)) (hok : FlOk f) (ha : a ≤ f.bs.length) (hlen : a + n ≤ 4194304) (hc : n ≤ c) (hcm : c ≤ maxLen) :
    Calls Try.prog 76 #[.pointer (some ⟨g, 0, none⟩), .int .i64 a, .slice A n c] w fun e w' => e = .returned (.tuple #[]) ∧ ∃ bl', FileRaw w' g (rawOf (wrt f a bs)) bl' ∧ Turn bl bl' w w' := by
  have hbl : bs.length = n := by have := hr.1; rwa [List.length_map] at this
  have hcm' : c ≤ 9223372036854775807 := by unfold maxLen at hcm; omega
  clear hcm
  have HBL := Lib.hid hbl
  have HA := Lib.hid ha
  have HOK := Lib.hid hok
  clear hbl ha hok
  go_enter Try.func76, Try.ntmps76
  go_wp2
  go_loopw [1, 2] (fun t b wr_ => ∃ (s i m d : Nat) (B : Option Addr) (bl' : List Nat), t = .int .i64 s ∧ b = .slice B m d ∧ Hid (s = a + i) ∧ Hid (m + i = n) ∧ m ≤ d ∧ d ≤ 9223372036854775807 ∧ s ≤ 4194304 ∧ Hid (i = 0 ∨ (a + i) % 64 = 0 ∨ m = 0) ∧
      RdA wr_ bl' B m ((bs.drop i).map bv) ∧ FileRaw wr_ g (onWay f a (bs.take i)) bl' ∧ Turn bl bl' w wr_) (fun _ b _ => lenV b)
  case atStart =>
    refine ⟨a, 0, n, c, A, bl, rfl, rfl, rfl, Nat.add_zero _, hc, hcm', by omega, .inl rfl, by simpa using hr, ?_, Turn.refl _ _⟩
    rw [List.take_zero]
    unfold onWay
    rw [wrt_nil f a HA.out]
    exact h
  case round =>
    obtain ⟨s, i, m, d, B, bl', rfl, rfl, hs, hmi, hmd, hd, hsl, hal, hrd, hfr, hT⟩ := hrel
    have HT := Lib.hid hT
    clear hT h hr
    by_cases hm0 : 0 < m
    · have hin : m + i = n := hmi
      have hso : s = a + i := hs
      obtain ⟨p, hp1, hp2⟩ : ∃ p : Nat, (s : Int) / 64 = p ∧ p = s / 64 := ⟨s / 64, by omega, rfl⟩
      obtain ⟨o, ho1, ho2⟩ : ∃ o : Nat, (s : Int) % 64 = o ∧ o = s % 64 := ⟨s % 64, by omega, rfl⟩
      obtain ⟨z, hz⟩ : ∃ z : Nat, z = min m (64 - o) := ⟨_, rfl⟩
      have hb := HBL.out
      have hround := wrt_round f a bs i z HA.out (by omega) (by rcases hal.out with h | h | h; exact .inl h; exact .inr h; omega) (by rw [← hso, ← ho2]; omega)
      have htk : (bs.take i).length = i := by rw [List.length_take]; omega
      have hok1 := flOk_raw (wrt_ok (b := bs.take i) HOK.out HA.out (by rw [htk]; omega))
      have hok1' : RawOk (onWay f a (bs.take i)) := hok1
      have hp3 : p ≤ (onWay f a (bs.take i)).n := by rw [hp2, hso]; exact hround.2
      have hp4 : p < 65536 := by omega
      have hp5 : p < ((onWay f a (bs.take i)).wait p).n := by show p < max _ _; omega
      obtain ⟨N, hN⟩ : ∃ N, ((onWay f a (bs.take i)).wait p).n = N := ⟨_, rfl⟩
      rw [hN] at hp5
      have hp6 : (p : Int) < (N : Int) := by omega
      have hN2 : N ≤ 65536 := by rw [← hN]; exact (wait_ok _ p hok1' hp3 hp4).1
      have ho3 : (o : Int) ≤ 64 := by omega
      have ho4 : ¬ 64 = o := by omega
      have hpo : ¬ (64 ≤ o) := by omega
      have hvl : (((bs.drop i).take z).map bv).length = z := by rw [List.length_map, List.length_take, List.length_drop]; omega
      have hz0 : 0 < z := by omega
      have hv1 := Lib.hid (hvl.trans hz)
      have hv2 := Lib.hid (show 0 < (((bs.drop i).take z).map bv).length by rw [hvl]; exact hz0)
      have HP := Lib.hid hp2
      have HO := Lib.hid ho2
      have HZ := Lib.hid hz
      have HN := Lib.hid hN
      have HS := Lib.hid hso
      have HIN := Lib.hid hin
      have HR := Lib.hid hround
      have HTK := Lib.hid htk
      have HV := Lib.hid hvl
      clear hp2 ho2 hz hso hin hround htk hvl hb hN hok1
      go_wp2_with (first
        | (go_at_call 92; (refine (wait_any g _ bl' p wr hfr hok1' hp3).mono ?_); rintro e w1 ⟨rfl, bl1, hfr1, hT1⟩; obtain ⟨wb1, A1, c1, kv1, sb1, rfl, hnd1, hb1, hs1, hm1, hk1⟩ := hfr1; rw [HN.out] at hb1 hs1; obtain ⟨q, rest, rfl, rfl, hq, hrest⟩ := hs1.row (by omega); have h2 := hb1.cell (i := 2) rfl; have hrd1 := hrd.turn hT1; have hfit : p * 64 + o + (((bs.drop i).take z).map bv).length ≤ (((onWay f a (bs.take i)).wait p).fl.map bv ++ rest).length := by (rw [HV.out, List.length_append, List.length_map, hs1.1]; have := HO.out; have := HZ.out; omega))
        | ((with_reducible (refine at_slot_ 26 ?_)); refine wpList_copy_blk rfl (.tmp 24) (.tmp 25) 29 29 rfl 5 Try.underlying29 byteInfo1 q (p * 64 + o) (64 - o) (64 - o) B m d rfl rfl _ tSec hq (((bs.drop i).take z).map bv) z HV.out hv1.out hv2.out (src_of hrd1 hm0 z) hfit (bv_all _) ?_; intro w2 hb2 hbut2))
      have hne : g ≠ q ∧ wb1 ≠ q := by simp at hnd1; exact ⟨hnd1.1.2, hnd1.2⟩
      have keep : ∀ b, b < w1.heap.size → b ≠ q → w2.heap[b]? = w1.heap[b]? := fun b hb hn => hbut2.block b hb (fun e => hn (by injection e))
      have hfr2 : FileRaw w2 g (onWay f a (bs.take (i + z))) [g, wb1, q] := by
        have e0 : (a + i) / 64 = p ∧ (a + i) % 64 = o := by rw [← HS.out, HP.out, HO.out]; exact ⟨rfl, rfl⟩
        have e1 := HR.out.1
        rw [e0.1, e0.2] at e1
        rw [← e1]
        refine ⟨wb1, some ⟨q, 0, none⟩, c1, kv1, [q], rfl, hnd1, ?_, ?_, hm1.old (keep wb1 hm1.inside hne.2), hk1⟩
        · show Bk w2 g tFile [_, _, .slice _ ((onWay f a (bs.take i)).wait p).n _, _]
          rw [HN.out]
          exact hb1.old (keep g hb1.inside hne.1)
        · show Sect w2 _ ((onWay f a (bs.take i)).wait p).n _ _ _
          rw [HN.out]
          refine hs1.put hrest _ _ ?_ (by rw [Nat.mul_comm 64 p]; exact hb2)
          have h1 := HV.out
          rw [List.length_map] at h1
          have := HO.out
          have := HZ.out
          omega
      have hT2 : Turn [g, wb1, q] [g, wb1, q] w1 w2 := Turn.but hbut2 (by simp)
      have hrd2 := hrd1.turn hT2
      have HT2 := Lib.hid ((HT.out.trans hT1).trans hT2)
      have ew : IntKind.i64.wrap ((s : Int) + z) = (s : Int) + z := IntWalk.i64_in _ (by have := HZ.out; omega)
      have hzm : (z : Int) ≤ (m : Int) := by have := HZ.out; omega
      have hmd2 : (m : Int) ≤ (d : Int) := by omega
      have hdz : (z : Int) ≤ (d : Int) := by omega
      clear hT1 hT2 hrd1 hb1 hs1 hm1 hk1 hq hb2 h2 hfr keep hbut2 hrd hfit hok1' hp3
      go_quiet (fail)
      go_wp2
      go_roundw
      case rel =>
        have hz1 := HZ.out
        have hz2 := HS.out
        have hz3 := HIN.out
        have hz4 := HO.out
        refine ⟨s + z, i + z, m - z, d - z, if d = z then B else B.map (·.add z), [g, wb1, q], by go_num, rfl, show _ = _ by omega, show _ = _ by omega, by omega, by omega, by omega, show _ ∨ _ ∨ _ by omega, ?_, hfr2.keep fun _ _ => rfl, HT2.out.trans (Turn.fresh (Fresh.drewN w2 nq))⟩
        have h1 := hrd2.cut (lo := z) (hi := m) (cap := d) (by omega) (Nat.le_refl _) hmd
        have h2 : ((bs.drop (i + z)).map bv) = ((((bs.drop i).map bv).drop z).take (m - z)) := by
          rw [List.take_of_length_le (by rw [List.length_drop, List.length_map, List.length_drop]; have := HBL.out; omega), ← List.map_drop, List.drop_drop]
        rw [h2]
        exact h1.turn (Turn.fresh (Fresh.drewN w2 nq))
      case measure =>
        show m - z < m
        omega
    · have hm00 : m = 0 := by omega
      subst hm00
      have hin : 0 + i = n := hmi
      have hso : s = a + i := hs
      have hall : bs.take i = bs := List.take_of_length_le (by have := HBL.out; omega)
      rw [hall] at hfr
      have hlen2 := wrt_len f a bs HA.out
      obtain ⟨wb, A1, c1, kv, sb, rfl, hnd, hb, hs1, hm1, hk1⟩ := hfr
      have h0 : wr.cell? ⟨g, 0, none⟩ = some (.int .i64 f.bs.length) := hb.cell rfl
      have hf0 := hb.free 0
      have hge := HA.out
      have hbb := HBL.out
      have hmax : ((wrt f a bs).bs.length : Int) = max (f.bs.length : Int) (s : Int) := by rw [hlen2]; omega
      obtain ⟨L, hL⟩ : ∃ L : Nat, (wrt f a bs).bs.length = L := ⟨_, rfl⟩
      rw [hL] at hmax
      have HL := Lib.hid hL
      have HMX := Lib.hid hmax
      have HOK2 := HOK.out.1
      clear hin hso hall hlen2 hge hbb hmax hL
      have fin : ∀ v : Int, v = (L : Int) → FileRaw (wr.setCell ⟨g, 0, none⟩ (.int .i64 v)) g (rawOf (wrt f a bs)) (g :: wb :: sb) := by
        intro v hv
        subst hv
        have hgw : wb ≠ g := by simp at hnd; exact fun e => hnd.1.1 e.symm
        have hsg : ∀ b ∈ sb, b ≠ g := fun b hbm e => by subst e; simp at hnd; exact hnd.1.2 hbm
        have h2 := hb.put 0 (.int .i64 (L : Int))
        refine ⟨wb, A1, c1, kv, sb, rfl, hnd, ?_, hs1.keep fun b hbm => Below.heap_setCell wr ⟨g, 0, none⟩ _ b (hsg b hbm), hm1.old (Below.heap_setCell wr ⟨g, 0, none⟩ _ wb hgw), hk1⟩
        show Bk _ g tFile [.int .i64 (wrt f a bs).bs.length, _, _, _]
        rw [HL.out]
        exact h2
      have FIN := Lib.hid fin
      clear fin hb hs1 hm1 hk1
      go_wp2
      all_goals
        go_end0
        exact ⟨rfl, _, FIN.out _ (by have := HMX.out; omega), HT.out.trans (Turn.but (But.put wr _) (by simp))⟩
end Go.Proofs.Ytelghdfikcodmaa.vfs
