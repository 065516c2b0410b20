/-
  record's getWide: my own text.
-/
import Derived.Test.YtmnejphdjnlbjaaGreatDoorRecGet
namespace Go.Proofs.YtmnejphdjnlbjaaGreatDoor.recp
open Go.RowKit Go.Proofs.YtmnejphdjnlbjaaGreatDoor.base Go.Proofs.YtmnejphdjnlbjaaGreatDoor.num Go.Proofs.YtmnejphdjnlbjaaGreatDoor.word Go.Proofs.YtmnejphdjnlbjaaGreatDoor.recn
set_option linter.unusedVariables false
abbrev tInt : TypeId := 3
abbrev tPtr : TypeId := 94
/-- two boxes, new, and a row that points at them -/
theorem two_new (w : World) (S : List Nat) (hS : ∀ i ∈ S, i < w.heap.size) (g : Nat) (hg : w.heap.size = g) (W : World) (hW : ((w.alloc (.cells #[.int .i64 0] tInt)).alloc (.cells #[.int .i64 0] tInt)).alloc (.cells #[ptr g, ptr (g + 1)] tPtr) = W) :
    Bk W g tInt [iv 0] ∧ Bk W (g + 1) tInt [iv 0] ∧ RdA W ([g, g + 1] ++ S) (some ⟨g + 1 + 1, 0, none⟩) 2 [ptr g, ptr (g + 1)] ∧ Fresh w W ∧ W.heap.size = g + 3 := by
  subst hg
  subst hW
  have h0 := Bk.made w tInt #[.int .i64 0]
  have h1 := Bk.made (w.alloc (.cells #[.int .i64 0] tInt)) tInt #[.int .i64 0]
  have e1 : (w.alloc (.cells #[.int .i64 0] tInt)).heap.size = w.heap.size + 1 := by simp
  have e2 : ((w.alloc (.cells #[.int .i64 0] tInt)).alloc (.cells #[.int .i64 0] tInt)).heap.size = w.heap.size + 1 + 1 := by simp
  rw [e1] at h1
  have h2 := RdA.lit (S := [w.heap.size, w.heap.size + 1] ++ S) ((w.alloc (.cells #[.int .i64 0] tInt)).alloc (.cells #[.int .i64 0] tInt)) #[ptr w.heap.size, ptr (w.heap.size + 1)] tPtr (by
    intro i hi
    rw [e2]
    rcases List.mem_append.1 hi with h | h
    · simp at h; omega
    · have := hS i h; omega)
  rw [e2] at h2
  exact ⟨(h0.alloc _).alloc _, h1.alloc _, h2, ((Fresh.alloc _ _).trans (Fresh.alloc _ _)).trans (Fresh.alloc _ _), by simp⟩
theorem two_set {w : World} {a b : Nat} {t t' : TypeId} {u v : Value} (ha : Bk w a t [u]) (hb : Bk w b t' [v]) (hne : a ≠ b) (x y : Value) :
    Bk (sets w [(⟨a, 0, none⟩, x), (⟨b, 0, none⟩, y)]) a t [x] ∧ Bk (sets w [(⟨a, 0, none⟩, x), (⟨b, 0, none⟩, y)]) b t' [y] :=
  ⟨(ha.put 0 x).apart (p := ⟨b, 0, none⟩) hne y, (hb.apart (p := ⟨a, 0, none⟩) (fun h => hne h.symm) x).put 0 y⟩

set_option maxHeartbeats 2000000 in
/-- getWide -/
theorem getWide_any (A : Option Addr) (n c : Nat) (xs : List UInt8) (D : Option Addr) (m d : Nat) (ps : List Addr) (S : List Nat) (w : World) (hr : RdA w S A n (xs.map bv)) (hc : n ≤ c) (hm : c ≤ maxLen) (hn : n ≤ 1099511627776)
    (hd : RdA w S D m (ps.map ptrA)) (hp : ∀ p ∈ ps, p.block ∈ S ∧ Wr w p) (hS : ∀ i ∈ S, i < w.heap.size) (hfit : m * 8 ≤ n) :
    Calls Tryz.prog 42 #[.slice A n c, .slice D m d] w (Got S (sets w (getsW xs ps)) (n - m * 8) (xs.drop (m * 8))) := by
  have hlp : ps.length = m := by have := hd.1; rwa [List.length_map] at this
  have hlx : xs.length = n := by have := hr.1; rwa [List.length_map] at this
  have hT : ∀ j, Turn S S w (sets w (getsW xs (ps.take j))) := fun j => sets_turn w _ (getsW_mem fun p hp' => (hp p (List.mem_of_mem_take hp')).1)
  have hsz : ∀ j, (sets w (getsW xs (ps.take j))).heap.size = w.heap.size := fun j => sets_size _ _
  have HS := Lib.hid hS
  have HD := Lib.hid hd
  have HP := Lib.hid hp
  have HT := Lib.hid hT
  have HLP := Lib.hid hlp
  have HLX := Lib.hid hlx
  have HSZ := Lib.hid hsz
  have HR := Lib.hid hr
  have HMAX : RowKit.Hid (c ≤ maxLen) := hm
  unfold maxLen at hm
  clear hS hd hp hT hlp hlx hsz hr
  go_enter Tryz.func42, Tryz.ntmps42
  go_wp2
  go_loopw [0, 11] (fun v i wr => ∃ (j N c' : Nat) (A' : Option Addr), j ≤ m ∧ i = .int .i64 j ∧ v = .slice A' N c' ∧ N + j * 8 = n ∧ N ≤ c' ∧ Hid (c' ≤ maxLen) ∧ Hid (Fresh (sets w (getsW xs (ps.take j))) wr) ∧ Hid (RdA wr S A' N ((xs.drop (j * 8)).map bv))) (fun _ i _ => m - (intOf i).toNat)
  case atStart => exact ⟨0, n, c, A, by omega, rfl, rfl, by omega, hc, HMAX, Lib.hid (Fresh.refl _), HR⟩
  case round =>
    obtain ⟨j, N, c', A', hj, rfl, rfl, hN, hNc, hcm, hF, hRA⟩ := hrel
    by_cases hlt : j < m
    · obtain ⟨b, off, p, rfl, hb, hbS, hpx⟩ : ∃ b off p, D = some ⟨b, off, none⟩ ∧ b < w.heap.size ∧ b ∉ S ∧ ps[j]? = some p := by
        obtain ⟨b, off, e, hb, hS, _⟩ := HD.out.2 (by omega)
        exact ⟨b, off, ps[j]'(by have := HLP.out; omega), e, hb, hS, List.getElem?_eq_getElem _⟩
      have hcell : wr.cell? ⟨b, off + j, none⟩ = some (ptrA p) := by
        obtain ⟨b', off', e, _, _, hc'⟩ := ((HD.out.turn (HT.out j)).fresh hF.out).2 (by omega)
        injection e with e; injection e with e1 e2 _; subst e1; subst e2
        exact hc' j _ (by rw [List.getElem?_map, hpx]; rfl)
      have hpm := HP.out p (List.mem_of_getElem? hpx)
      have hpw := ((hpm.2).sets (getsW xs (ps.take j)))
      have hpb := hpw.inside
      have hwr := hpw.fresh hF.out
      have hwsz : w.heap.size ≤ wr.heap.size := by have := hF.out.size; rw [HSZ.out j] at this; exact this
      have hj8 : (j + 1) * 8 ≤ m * 8 := Nat.mul_le_mul_right _ hlt
      obtain ⟨g, hg⟩ : ∃ g, wr.heap.size = g := ⟨_, rfl⟩
      obtain ⟨h0, h1, h2, hf3, hs3⟩ := two_new wr S (fun i hi => Nat.lt_of_lt_of_le (HS.out i hi) hwsz) g hg _ rfl
      have hx8 : 8 ≤ N := by omega
      have hgt := fun d => get_any A' N c' 4 (xs.drop (j * 8)) _ 2 d [⟨g, 0, none⟩, ⟨g + 1, 0, none⟩] ([g, g + 1] ++ S) _ ((hRA.out.more (R := [g, g + 1]) (by intro i hi; simp at hi; omega)).fresh hf3) hNc hcm.out (by omega) (.inr rfl) h2 (by
        intro q hq
        simp only [List.mem_cons, List.not_mem_nil, or_false] at hq
        rcases hq with rfl | rfl
        · exact ⟨by simp, h0.wr (by simp)⟩
        · exact ⟨by simp, h1.wr (by simp)⟩) (by omega)
      obtain ⟨H4a, H4b⟩ := two_set h0 h1 (by omega) (iv (nm (xs.drop (j * 8)) (0 * 4) 4 : Nat)) (iv (nm (xs.drop (j * 8)) (1 * 4) 4 : Nat))
      have hge : gets 4 (xs.drop (j * 8)) [⟨g, 0, none⟩, ⟨g + 1, 0, none⟩] = [(⟨g, 0, none⟩, iv (nm (xs.drop (j * 8)) (0 * 4) 4 : Nat)), (⟨g + 1, 0, none⟩, iv (nm (xs.drop (j * 8)) (1 * 4) 4 : Nat))] := rfl
      rw [hge] at hgt
      rw [List.drop_drop] at hgt
      have b4 := nm4 (xs.drop (j * 8)) (0 * 4)
      have b5 := nm4 (xs.drop (j * 8)) (1 * 4)
      have hval : sg64 (nm xs (j * 8) 8) = sg64 (nm (xs.drop (j * 8)) (0 * 4) 4 + 4294967296 * nm (xs.drop (j * 8)) (1 * 4) 4) := by
        rw [nm_drop, nm_drop, nm8 xs (j * 8) (by have := HLX.out; omega)]
        rfl
      generalize nm (xs.drop (j * 8)) (0 * 4) 4 = lo at *
      generalize nm (xs.drop (j * 8)) (1 * 4) 4 = hi at *
      have hor := or_wide lo hi (by omega) (by omega)
      have hv2 := hval.symm
      generalize hV : sg64 (nm xs (j * 8) 8) = V at *
      rw [hv2] at hor
      have hsn := getsW_snoc xs ps j p hpx
      rw [hV] at hsn
      have HV := Lib.hid hV
      have HSN := Lib.hid hsn
      have hfw4 : Fresh wr (sets (((wr.alloc (.cells #[.int .i64 0] tInt)).alloc (.cells #[.int .i64 0] tInt)).alloc (.cells #[ptr g, ptr (g + 1)] tPtr)) [(⟨g, 0, none⟩, iv (lo : Nat)), (⟨g + 1, 0, none⟩, iv (hi : Nat))]) :=
        (sets_turn (S := [g, g + 1]) _ _ (by intro x hx; simp at hx; rcases hx with rfl | rfl <;> simp)).new hf3 (by intro i hi; simp at hi; omega)
      have HGT := Lib.hid hgt
      have H4A := Lib.hid H4a
      have H4B := Lib.hid H4b
      have HFW4 := Lib.hid hfw4
      have HWR := Lib.hid hwr
      have HPB := Lib.hid hpb
      have HPM := Lib.hid hpm.1
      have HG := Lib.hid hg
      clear hval hv2 hV hsn hgt H4a H4b hfw4 h0 h1 h2 hf3 hs3 hge hpm hpw hwr hpb hpx hg
      have hg' := HG.out
      subst hg'
      go_wp2_with (go_at_call 38; refine (HGT.out _).mono ?_; rintro e w4 ⟨A4, c4, rfl, hc4, hm4, hf4, hr4⟩; have k0 : w4.cell? ⟨wr.heap.size, 0, none⟩ = some (iv (lo : Nat)) := (H4A.out.fresh hf4).cell rfl; have k1 : w4.cell? ⟨wr.heap.size + 1, 0, none⟩ = some (iv (hi : Nat)) := (H4B.out.fresh hf4).cell rfl; have hf5 := HFW4.out.trans hf4; obtain ⟨⟨pv, hpv⟩, hpf⟩ := HWR.out.fresh hf5; have HF5 := Lib.hid hf5; have HR4 := Lib.hid hr4; have HM4 := Lib.hid hm4; clear hf5 hr4 hf4 hm4)
      go_roundw
      case rel =>
        refine ⟨j + 1, N - 8, c4, A4, by omega, by go_num, rfl, by omega, by omega, HM4, ?_, ?_⟩
        · refine Lib.hid ?_
          rw [HSN.out, sets_append]
          exact (hF.out.trans HF5.out).set HPB.out _
        · refine Lib.hid ?_
          have h6 := (HR4.out.sub (T := S) fun i hi => List.mem_append_right _ hi).turn (Turn.put (p := p) w4 (iv V) HPM.out)
          rw [show (j + 1) * 8 = j * 8 + 2 * 4 from by omega]
          exact h6
      case measure => simp [intOf]; omega
    · have h0 : j = m := by omega
      subst h0
      have hlt' : ps.take j = ps := List.take_of_length_le (by have := HLP.out; omega)
      rw [hlt'] at hF
      go_wp2
      go_ret
      exact ⟨A', c', by rw [show n - j * 8 = N from by omega]; rfl, by omega, hcm.out, hF.out, by rw [show n - j * 8 = N from by omega]; exact hRA.out⟩
end Go.Proofs.YtmnejphdjnlbjaaGreatDoor.recp
