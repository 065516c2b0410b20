import Derived.Test.YtmnegmebkmihhaaGreatDoorMgWrd
import Derived.Test.YtmnegmebkmihhaaGreatDoorMgRec
import Derived.Lib.SmallJoins
import Derived.Deep.DeepCutAuto
/- Several of my own texts, one behind the other. -/
/-
  The contracts of word.Put and ref.Bytes, and of the law's wakes. My own text.
-/
namespace Go.Proofs.YtmnegmebkmihhaaGreatDoor.word
open Go.RowKit Go.Proofs.YtmnegmebkmihhaaGreatDoor.base Go.Proofs.YtmnegmebkmihhaaGreatDoor.num
set_option linter.unusedVariables false

/-- numbers put, one behind the other -/
def puts (k : Nat) (zs : List Int) : List UInt8 := zs.flatMap fun z => low k (u64 z)

theorem put_any (A : Option Addr) (n c : Nat) (bs : List UInt8) (x : Int) (D : Option Addr) (m d : Nat) (zs : List Int) (w : World) (B B' : Nat) (ha : Rd w B A n (bs.map bv)) (hB : B ≤ w.heap.size)
    (hd : Rd w B' D m (zs.map iv)) (hB' : B' ≤ w.heap.size) (hz : ∀ z ∈ zs, (Lit.int .i64 z).wf = true) (hn : n ≤ 4294967296) (hm : m ≤ 4294967296) :
    Calls Tryz.prog 103 #[.slice A n c, .int .i64 x, .slice D m d] w fun e w' =>
      ∃ A' c', e = .returned (.slice A' (n + m * wide x) c') ∧ Fresh w w' ∧ Own w' w.heap.size 5 A' (n + m * wide x) c' ((bs ++ puts (wide x) zs).map bv) := by
  obtain ⟨i0, hi0, hz0, hz1, hz2⟩ := info_parts byte_info
  have hw := wide_bd x
  generalize hW : wide x = W at *
  have HW := Lib.hid hW
  clear hW
  have held : ∀ w, Calls Tryz.prog 157 #[.int .i64 x] w fun e w' => e = .returned (.int .i64 W) ∧ w = w' := fun w => by rw [← HW.out]; exact held_any x w
  have HH := Lib.hid held
  clear held
  have hmul : (n : Int) + (W : Int) * (m : Int) = ((n + m * W : Nat) : Int) := by rw [Nat.mul_comm]; simp
  have hmw : m * W ≤ 4294967296 * 7 := Nat.mul_le_mul hm hw.2
  have hb1 : 0 ≤ (W : Int) * (m : Int) := by omega
  have hb2 : (W : Int) * (m : Int) ≤ 30064771072 := by omega
  have HM := Lib.hid hmul
  clear hmul
  have hlz : zs.length = m := by have := hd.1; rwa [List.length_map] at this
  have HLZ := Lib.hid hlz
  clear hlz
  go_enter Tryz.func103, Tryz.ntmps103
  go_wp2_with (first
    | (at_make; refine wpList_make_own _ rfl _ _ 25 rfl w.heap.size 5 i0 _ 1 Tryz.underlying25 hi0 hz0 hz1 _ _ _ (n + m * W) rfl rfl HM.out (by rw [hz2]; omega) (by unfold maxLen; omega) (Nat.le_refl _) ?_; intro w1 hown1 hg1)
    | (at_builtin; refine wpList_append_rd _ rfl _ _ 25 rfl w.heap.size 5 i0 _ 1 Tryz.underlying25 hi0 hz0 hz1 hz2 rfl _ 0 _ _ rfl hown1 B A n c _ rfl (ha.below (below_of_grown hg1 (Nat.le_refl _) (fun k hk => by cases hk)) hB) (bv_one bs) (by unfold maxLen; omega) (by omega) hg1.size ?_; intro A2 c2 w2 hown2 hg2)
    | (go_at_call 157; refine (HH.out _).mono ?_; rintro e w' ⟨rfl, rfl⟩))
  have hf1 : Fresh w w1 := below_of_grown hg1 (Nat.le_refl _) (fun k hk => by cases hk)
  have hf2 : Fresh w w2 := hf1.append hown1 (Nat.le_refl _) hg2
  rw [Nat.zero_add] at hown2
  clear hown1 hg1 hg2 hf1
  go_loopw [7, 26] (fun v i wr => ∃ (k c N : Nat) (A : Option Addr), k ≤ m ∧ i = .int .i64 k ∧ v = .slice A N c ∧ Hid (N = n + k * W) ∧ Fresh w wr ∧ Own wr w.heap.size 5 A N c ((bs ++ puts W (zs.take k)).map bv)) (fun _ i _ => m - (intOf i).toNat)
  case atStart => exact ⟨0, c2, n, A2, by omega, rfl, rfl, by simp [Hid], hf2, by simpa [puts] using hown2⟩
  case round =>
    obtain ⟨k, c3, N, A3, hk, rfl, rfl, hN, hf3, hown3⟩ := hrel
    have hkm : k * W ≤ m * W := Nat.mul_le_mul_right _ hk
    have hNb : N ≤ 34359738368 := by have := hN.out; omega
    by_cases hlt : k < m
    · obtain ⟨b, off, z, rfl, hb, hx, hcx⟩ := (hd.below hf3 hB').at_ hlt
      have HX := Lib.hid hx
      clear hx
      go_wp2
      go_loopw [7, 31] (fun v i wr => ∃ (j c : Nat) (A : Option Addr), j ≤ W ∧ i = .int .i64 j ∧ v = .slice A (N + j) c ∧ Fresh w wr ∧ Own wr w.heap.size 5 A (N + j) c ((bs ++ puts W (zs.take k) ++ low j (u64 z)).map bv)) (fun _ i _ => W - (intOf i).toNat)
      case atStart => exact ⟨0, c3, A3, by omega, rfl, rfl, hf3, by simpa [low] using hown3⟩
      case round =>
        obtain ⟨j, c4, A4, hj, rfl, rfl, hf4, hown4⟩ := hrel
        by_cases hlt2 : j < W
        · go_wp2_with (at_builtin; refine wpList_append_rd _ rfl _ _ 25 rfl w.heap.size 5 i0 _ 1 Tryz.underlying25 hi0 hz0 hz1 hz2 rfl A4 (N + j) c4 _ rfl (Own.fresh hown4 (Fresh.alloc _ _)) (wr.heap.size + 1) (some ⟨wr.heap.size, 0, none⟩) 1 1 [.int .u8 (z / 2 ^ (8 * j) % 256)] rfl (Rd.lit wr #[.int .u8 (z / 2 ^ (8 * j) % 256)] 5) (one_one _ _) (by unfold maxLen; omega) (by omega) (by have := hf4.size; simp; omega) ?_; intro A5 c5 w5 hown5 hg5)
          have hl : (bs ++ puts W (zs.take k) ++ low j (u64 z)).map bv ++ [Value.int .u8 (z / 2 ^ (8 * j) % 256)] = (bs ++ puts W (zs.take k) ++ low (j + 1) (u64 z)).map bv := by
            rw [low_succ, ← List.append_assoc, List.map_append (l₂ := [UInt8.ofNat _]), List.map_cons, List.map_nil, bv, ← byte_shr z j (by omega)]
          have hfr1 : Fresh w w5 := (hf4.trans (Fresh.alloc _ _)).append (Own.fresh hown4 (Fresh.alloc _ _)) (Nat.le_refl _) hg5
          rw [hl] at hown5
          clear hl hg5
          go_roundw
          case rel => exact ⟨j + 1, c5, A5, by omega, by go_num, rfl, hfr1, hown5⟩
          case measure => simp [intOf]; omega
        · have h0 : j = W := by omega
          subst h0
          go_wp2
          have hp : puts j (zs.take (k + 1)) = puts j (zs.take k) ++ low j (u64 z) := by
            rw [take_snoc _ _ _ HX.out, puts, List.flatMap_append, List.flatMap_cons, List.flatMap_nil, List.append_nil]; rfl
          have hN2 : N + j = n + (k + 1) * j := by rw [hN.out, Nat.succ_mul, Nat.add_assoc]
          have HP := Lib.hid hp
          have HN2 := Lib.hid hN2
          clear hp hN2
          go_roundw
          case rel => exact ⟨k + 1, c4, N + j, A4, by omega, by go_num, rfl, HN2, hf4, by rw [HP.out, ← List.append_assoc]; exact hown4⟩
          case measure => simp [intOf]; omega
    · have h0 : k = m := by omega
      subst h0
      go_wp2
      go_ret
      have e1 := HLZ.out
      have e2 := hN.out
      rw [List.take_of_length_le (Nat.le_of_eq e1), e2] at hown3
      exact ⟨A3, c3, by rw [← e2]; rfl, hf3, hown3⟩

theorem back (z : Int) (k : Nat) (hz : -9223372036854775808 ≤ z ∧ z ≤ 9223372036854775807) (hk : k ≤ 7) : (((u64 z % 256 ^ k : Nat) : Int) == z) = fits k [z] := by
  have hp : (256 : Nat) ^ k ≤ 72057594037927936 := pow7 hk
  have h0 : 0 < (256 : Nat) ^ k := Nat.pow_pos (by omega)
  have e : (256 : Int) ^ k = ((256 ^ k : Nat) : Int) := by simp
  unfold fits
  rw [List.all_cons, List.all_nil, Bool.and_true, e]
  generalize (256 : Nat) ^ k = p at *
  have hm := Nat.mod_lt (u64 z) h0
  by_cases h : 0 ≤ z ∧ z < (p : Int)
  · have h1 : u64 z = z.toNat := by unfold u64; omega
    have h2 : u64 z % p = z.toNat := by rw [h1]; exact Nat.mod_eq_of_lt (by omega)
    rw [h2, decide_eq_true h, beq_iff_eq]
    omega
  · rw [decide_eq_false h, beq_eq_false_iff_ne]
    omega

theorem puts_length (k : Nat) (zs : List Int) : (puts k zs).length = zs.length * k := by
  induction zs with
  | nil => simp [puts]
  | cons z r ih =>
    rw [puts, List.flatMap_cons, List.length_append, low_length, List.length_cons, Nat.succ_mul]
    rw [puts] at ih
    omega
theorem puts_snoc (k : Nat) (zs : List Int) (j : Nat) (z : Int) (h : zs[j]? = some z) : puts k (zs.take j) ++ puts k [z] = puts k (zs.take (j + 1)) := by
  rw [take_snoc _ _ _ h, puts, puts, puts, List.flatMap_append]
theorem puts_get (k : Nat) (zs : List Int) (i : Nat) (z : Int) (h : zs[i]? = some z) : ((puts k zs).drop (i * k)).take k = low k (u64 z) := by
  induction zs generalizing i with
  | nil => simp at h
  | cons y r ih =>
    rw [puts, List.flatMap_cons]
    cases i with
    | zero =>
      simp only [List.getElem?_cons_zero, Option.some.injEq] at h
      subst h
      rw [Nat.zero_mul, List.drop_zero, List.take_append_of_le_length (by rw [low_length]; omega), List.take_of_length_le (by rw [low_length]; omega)]
    | succ i =>
      rw [List.getElem?_cons_succ] at h
      have := ih i h
      rw [puts] at this
      rw [Nat.succ_mul, Nat.add_comm, ← List.drop_drop, List.drop_left' (low_length k _), this]

theorem put_is (A : Option Addr) (n c : Nat) (bs : List UInt8) (x : Int) (D : Option Addr) (m d : Nat) (zs : List Int) (w : World) (B B' : Nat) (N : Nat) (ys : List UInt8) (ha : Rd w B A n (bs.map bv)) (hB : B ≤ w.heap.size)
    (hd : Rd w B' D m (zs.map iv)) (hB' : B' ≤ w.heap.size) (hz : ∀ z ∈ zs, (Lit.int .i64 z).wf = true) (hn : n ≤ 4294967296) (hm : m ≤ 4294967296) (hN : n + m * wide x = N) (hy : bs ++ puts (wide x) zs = ys) :
    Calls Tryz.prog 103 #[.slice A n c, .int .i64 x, .slice D m d] w fun e w' =>
      ∃ A' c', e = .returned (.slice A' N c') ∧ Fresh w w' ∧ Own w' w.heap.size 5 A' N c' (ys.map bv) := by
  subst hN
  subst hy
  exact put_any A n c bs x D m d zs w B B' ha hB hd hB' hz hn hm

end Go.Proofs.YtmnegmebkmihhaaGreatDoor.word
/-
  record's fits, narrow; the reference's Same: my own text.
-/
namespace Go.Proofs.YtmnegmebkmihhaaGreatDoor.recp
open Go.RowKit Go.Proofs.YtmnegmebkmihhaaGreatDoor.base Go.Proofs.YtmnegmebkmihhaaGreatDoor.num Go.Proofs.YtmnegmebkmihhaaGreatDoor.word Go.Proofs.YtmnegmebkmihhaaGreatDoor.recn
set_option linter.unusedVariables false
/-- a number may be, within k bytes -/
def may (k : Nat) (z : Int) : Bool := decide (0 ≤ z ∧ z < 256 ^ k) && !(z == 256 ^ k - 1)
theorem fits_one (k : Nat) (hk : k = 2 ∨ k = 4) (z : Int) (hz : -9223372036854775808 ≤ z ∧ z ≤ 9223372036854775807) (w : World) (g : Nat) (hg : g = w.heap.size) :
    Calls Tryz.prog 109 #[.int .i64 k, .slice (some ⟨g, 0, none⟩) 1 1] (w.alloc (.cells #[.int .i64 z] tInt)) fun e w' => e = .returned (.bool (decide (0 ≤ z ∧ z < 256 ^ k))) ∧ (w.alloc (.cells #[.int .i64 z] tInt)) = w' := by
  subst hg
  refine fits_is _ 1 1 [z] k _ _ _ (Rd.lit w #[.int .i64 z] tInt) (by unfold maxLen; omega) ?_ ?_
  · intro y hy
    rw [List.mem_singleton] at hy
    subst hy
    exact WalkArith.wf_i64 hz
  · have hw : wide (k : Int) = k := by rcases hk with rfl | rfl <;> rfl
    rw [hw, fits, List.all_cons, List.all_nil, Bool.and_true]
theorem all_take_succ {α : Type} (f : α → Bool) (l : List α) (j : Nat) (z : α) (h : l[j]? = some z) (ha : (l.take j).all f = true) (hz : f z = true) : (l.take (j + 1)).all f = true := by
  rw [take_snoc _ _ _ h, List.all_append, ha]; simp [hz]
theorem all_no {α : Type} (f : α → Bool) (l : List α) (j : Nat) (z : α) (h : l[j]? = some z) (hz : f z = false) : l.all f = false := by
  rw [Bool.eq_false_iff]
  intro ha
  have := List.all_eq_true.1 ha z (List.mem_of_getElem? h)
  rw [hz] at this
  cases this
set_option maxHeartbeats 1000000 in
theorem fitsN_any (k : Nat) (hk : k = 2 ∨ k = 4) (D : Option Addr) (m d : Nat) (zs : List Int) (w : World) (B : Nat) (hd : Rd w B D m (zs.map iv)) (hB : B ≤ w.heap.size) (hm : m ≤ 1099511627776) (hz : ∀ z ∈ zs, -9223372036854775808 ≤ z ∧ z ≤ 9223372036854775807) :
    Calls Tryz.prog 67 #[.bool false, .int .i64 k, .slice D m d] w fun e w' => e = .returned (.bool (zs.all (may k))) ∧ Fresh w w' := by
  have hlz : zs.length = m := by have := hd.1; rwa [List.length_map] at this
  have HLZ := Lib.hid hlz
  have HZ := Lib.hid hz
  clear hlz hz
  obtain ⟨O, hO⟩ : ∃ O : Int, O = 256 ^ k - 1 := ⟨_, rfl⟩
  have hones : ∀ W, Calls Tryz.prog 130 #[.int .i64 k] W fun e w' => e = .returned (.int .i64 O) ∧ W = w' := by
    intro W
    subst hO
    rcases hk with rfl | rfl
    · exact ones2 W
    · exact ones4 W
  have HO := Lib.hid hones
  have HOE := Lib.hid hO
  clear hones hO
  go_enter Tryz.func67, Tryz.ntmps67
  go_wp2
  go_loopw [14] (fun i wr => ∃ j : Nat, j ≤ m ∧ i = .int .i64 j ∧ Hid ((zs.take j).all (may k) = true) ∧ Fresh w wr) (fun i _ => m - (intOf i).toNat)
  case atStart => exact ⟨0, by omega, rfl, rfl, Fresh.refl _⟩
  case round =>
    obtain ⟨j, hj, rfl, hall, hfr⟩ := hrel
    by_cases hlt : j < m
    · obtain ⟨b, off, z, rfl, hb, hx, hcx⟩ := (hd.below hfr hB).at_ hlt
      have hzb := HZ.out z (List.mem_of_getElem? hx)
      have hfit := fits_one k hk z hzb wr _ rfl
      have hst := fun h => all_take_succ (may k) zs j z hx hall.out h
      have hno := fun h => all_no (may k) zs j z hx h
      have hmz : may k z = (decide (0 ≤ z ∧ z < 256 ^ k) && !(z == O)) := by unfold may; rw [HOE.out]
      have HMZ := Lib.hid hmz
      clear hmz
      have HST := Lib.hid hst
      have HNO := Lib.hid hno
      clear hst hno hx hzb
      by_cases hq : decide (0 ≤ z ∧ z < 256 ^ k) = true
      · rw [hq] at hfit HMZ
        have HFIT := Lib.hid hfit
        clear hfit hq
        by_cases he : z = O
        · have hbo : (z == O) = true := by rw [beq_iff_eq]; exact he
          rw [hbo] at HMZ
          have hbo2 : ((z : Int) == O) = true := hbo
          clear he
          go_wp2_with (first
            | (go_at_call 109; ((with_reducible refine HFIT.out.mono ?_); rintro e w1 ⟨rfl, rfl⟩))
            | (go_at_call 130; ((with_reducible refine (HO.out _).mono ?_); rintro e w1 ⟨rfl, rfl⟩)))
          go_ret
          exact ⟨by rw [show zs.all (may k) = false from HNO.out HMZ.out]; rfl, hfr.trans (Fresh.alloc _ _)⟩
        · have hbo : (z == O) = false := by rw [beq_eq_false_iff_ne]; exact he
          rw [hbo] at HMZ
          clear he
          go_wp2_with (first
            | (go_at_call 109; ((with_reducible refine HFIT.out.mono ?_); rintro e w1 ⟨rfl, rfl⟩))
            | (go_at_call 130; ((with_reducible refine (HO.out _).mono ?_); rintro e w1 ⟨rfl, rfl⟩)))
          go_roundw
          case rel => exact ⟨j + 1, by omega, by go_num, Lib.hid (HST.out HMZ.out), hfr.trans (Fresh.alloc _ _)⟩
          case measure => simp [intOf]; omega
      · have hq' : decide (0 ≤ z ∧ z < 256 ^ k) = false := by simpa using hq
        rw [hq'] at hfit HMZ
        have HFIT := Lib.hid hfit
        clear hfit hq hq'
        go_wp2_with (go_at_call 109; ((with_reducible refine HFIT.out.mono ?_); rintro e w1 ⟨rfl, rfl⟩))
        go_ret
        exact ⟨by rw [show zs.all (may k) = false from HNO.out HMZ.out]; rfl, hfr.trans (Fresh.alloc _ _)⟩
    · have h0 : j = m := by omega
      subst h0
      have hz2 := hall.out
      rw [List.take_of_length_le (Nat.le_of_eq HLZ.out)] at hz2
      have HZ2 := Lib.hid hz2
      clear hz2
      go_wp2
      go_ret
      exact ⟨by rw [HZ2.out]; rfl, hfr⟩
theorem narrow_no (D : Option Addr) (m d : Nat) (w : World) : Calls Tryz.prog 107 #[.bool false, .slice D m d] w fun e w' => e = .returned (.slice D m d) ∧ w = w' := by
  go_enter Tryz.func107, Tryz.ntmps107
  go_wp2
  go_ret
  exact ⟨rfl, rfl⟩
end Go.Proofs.YtmnegmebkmihhaaGreatDoor.recp
/-
  The example of the law, the reference's Same: my own text.
-/
namespace Go.Proofs.YtmnegmebkmihhaaGreatDoor.recp
open Go.RowKit Go.Proofs.YtmnegmebkmihhaaGreatDoor.base Go.Proofs.YtmnegmebkmihhaaGreatDoor.num Go.Proofs.YtmnegmebkmihhaaGreatDoor.word Go.Proofs.YtmnegmebkmihhaaGreatDoor.recn
set_option linter.unusedVariables false
abbrev tTail : TypeId := 76
theorem z_one : ∀ z ∈ ([0] : List Int), -9223372036854775808 ≤ z ∧ z ≤ 9223372036854775807 := by decide
theorem z_two : ∀ z ∈ ([0, 0] : List Int), -9223372036854775808 ≤ z ∧ z ≤ 9223372036854775807 := by decide
theorem z_wf1 : ∀ z ∈ ([0] : List Int), (Lit.int .i64 z).wf = true := by decide
theorem z_wf2 : ∀ z ∈ ([0, 0] : List Int), (Lit.int .i64 z).wf = true := by decide
theorem put_z (W : World) (A : Option Addr) (n c : Nat) (bs : List UInt8) (x : Int) (zs : List Int) (m N g : Nat) (ys : List UInt8) (h : Rd W W.heap.size A n (bs.map bv)) (hz : ∀ z ∈ zs, (Lit.int .i64 z).wf = true) (hn : n ≤ 100) (hm : zs.length = m) (hm9 : m ≤ 100) (hN : n + m * word.wide x = N) (hy : bs ++ puts (word.wide x) zs = ys) (hg : g = W.heap.size) :
    Calls Tryz.prog 103 #[.slice A n c, .int .i64 x, .slice (some ⟨g, 0, none⟩) m m] (W.alloc (.cells (zs.map iv).toArray tInt)) fun e w' => ∃ A' c', e = .returned (.slice A' N c') ∧ Fresh W w' ∧ Own w' W.heap.size 5 A' N c' (ys.map bv) := by
  subst hg
  have hd := Rd.lit W (zs.map iv).toArray tInt
  rw [show (zs.map iv).toArray.size = m from by simp [hm]] at hd
  refine (put_is A n c bs x _ m m zs _ W.heap.size (W.heap.size + 1) N ys (h.alloc (Nat.le_refl _) _) (by simp) hd (by simp) hz (by omega) (by omega) hN hy).mono ?_
  rintro e w' ⟨A', c', rfl, hf, ho⟩
  exact ⟨A', c', rfl, (Fresh.alloc _ _).trans hf, ⟨ho.1, ho.2.imp id fun ⟨g, cap, cur, hv, hg, r⟩ => ⟨g, cap, cur, hv, by simp at hg; omega, r⟩⟩⟩
set_option maxRecDepth 100000 in
set_option maxHeartbeats 4000000 in
theorem endZ (w : World) : Calls Tryz.prog 55 #[.agg #[.int .i64 0, .int .i64 0, .int .i64 0, .bool false], .int .i64 0] w fun e w' => ∃ A c, e = .returned (.tuple #[.slice A 22 c, .int .i64 0]) ∧ Fresh w w' ∧ Own w' w.heap.size 5 A 22 c (([80, 75, 5, 6, 0, 0, 0, 0, 0, 0, 0, 0, 0, 0, 0, 0, 0, 0, 0, 0, 0, 0] : List UInt8).map bv) := by
  have hb := Bk.made w tTail #[.int .i64 0, .int .i64 0, .int .i64 0, .bool false]
  have hf := Fresh.alloc w (.cells #[.int .i64 0, .int .i64 0, .int .i64 0, .bool false] tTail)
  have h2 : ∀ (W : World) (g : Nat), g = W.heap.size → Calls Tryz.prog 67 #[.bool false, .int .i64 2, .slice (some ⟨g, 0, none⟩) 1 1] (W.alloc (.cells #[.int .i64 0] tInt)) fun e w' => e = .returned (.bool true) ∧ Fresh (W.alloc (.cells #[.int .i64 0] tInt)) w' := fun W g hg => hg ▸ fitsN_any 2 (.inl rfl) _ 1 1 [0] _ _ (Rd.lit W #[.int .i64 0] tInt) (by simp) (by omega) z_one
  have h4 : ∀ (W : World) (g : Nat), g = W.heap.size → Calls Tryz.prog 67 #[.bool false, .int .i64 4, .slice (some ⟨g, 0, none⟩) 2 2] (W.alloc (.cells #[.int .i64 0, .int .i64 0] tInt)) fun e w' => e = .returned (.bool true) ∧ Fresh (W.alloc (.cells #[.int .i64 0, .int .i64 0] tInt)) w' := fun W g hg => hg ▸ fitsN_any 4 (.inr rfl) _ 2 2 [0, 0] _ _ (Rd.lit W #[.int .i64 0, .int .i64 0] tInt) (by simp) (by omega) z_two
  have h6 := fun (W : World) g hg => fits6 0 (by omega) true (by decide) W g hg
  have HB := Lib.hid hb
  have HF := Lib.hid hf
  have H2 := Lib.hid h2
  have H4 := Lib.hid h4
  have H6 := Lib.hid h6
  clear hb hf h2 h4 h6
  go_enter Tryz.func55, Tryz.ntmps55
  go_upto_region 3 with (first
    | (go_at_call 67; ((with_reducible refine (H2.out _ _ (by simp)).mono ?_); rintro e w1 ⟨rfl, hf1⟩; have HF1 := Lib.hid ((HF.out.trans (Fresh.alloc _ _)).trans hf1); have hb1 := (HB.out.fresh ((Fresh.alloc _ _).trans hf1)); have k11 : w1.cell? ⟨w.heap.size, 1, none⟩ = some (.int .i64 0) := hb1.cell rfl; have k12 : w1.cell? ⟨w.heap.size, 2, none⟩ = some (.int .i64 0) := hb1.cell rfl; have k13 : w1.cell? ⟨w.heap.size, 3, none⟩ = some (.bool false) := hb1.cell rfl; have HB1 := Lib.hid hb1; clear hf1 hb1))
    | (go_at_call 67; ((with_reducible refine (H4.out _ _ (by simp)).mono ?_); rintro e w2 ⟨rfl, hf2⟩; have HF2 := Lib.hid ((HF1.out.trans (Fresh.alloc _ _)).trans hf2); have HB2 := Lib.hid (HB1.out.fresh ((Fresh.alloc _ _).trans hf2)); clear hf2))
    | (go_at_call 109; ((with_reducible refine (H6.out _ _ (by simp)).mono ?_); rintro e w3 ⟨rfl, rfl⟩)))
  have hf3 := HF2.out.trans (Fresh.alloc w2 (.cells #[.int .i64 0] tInt))
  have hb3 := HB2.out.alloc (.cells #[.int .i64 0] tInt)
  clear k11 k12 k13
  generalize w2.alloc (.cells #[.int .i64 0] tInt) = W3 at *
  have hcv := Joins.run_convert_bytes_const_at (P := Tryz.prog) W3 25 5 #[.int .u8 80, .int .u8 75, .int .u8 5, .int .u8 6] 4 4 W3.heap.size rfl Tryz.underlying25 Tryz.underlying5
  have hm3 := Rd.mark W3 #[.int .u8 80, .int .u8 75, .int .u8 5, .int .u8 6] 5 (4, 5)
  have hf4 := hf3.trans (Fresh.alloc W3 (.cells #[.int .u8 80, .int .u8 75, .int .u8 5, .int .u8 6] 5 (4, 5)))
  have hb4 := hb3.alloc (.cells #[.int .u8 80, .int .u8 75, .int .u8 5, .int .u8 6] 5 (4, 5))
  have p1 : Calls Tryz.prog 103 #[.slice (some ⟨W3.heap.size, 0, none⟩) 4 4, .int .i64 2, .slice (some ⟨W3.heap.size + 1, 0, none⟩) 2 2] ((W3.alloc (.cells #[.int .u8 80, .int .u8 75, .int .u8 5, .int .u8 6] 5 (4, 5))).alloc (.cells #[.int .i64 0, .int .i64 0] tInt)) _ :=
    put_z (W3.alloc (.cells #[.int .u8 80, .int .u8 75, .int .u8 5, .int .u8 6] 5 (4, 5))) _ 4 4 [80, 75, 5, 6] 2 [0, 0] 2 8 _ [80, 75, 5, 6, 0, 0, 0, 0] (by rw [show (W3.alloc (.cells #[.int .u8 80, .int .u8 75, .int .u8 5, .int .u8 6] 5 (4, 5))).heap.size = W3.heap.size + 1 from by simp]; exact hm3) z_wf2 (by omega) rfl (by omega) (by decide) (by decide) (by simp)
  have p2 : ∀ (W : World) A c g base, Own W base 5 A 8 c (([80, 75, 5, 6, 0, 0, 0, 0] : List UInt8).map bv) → g = W.heap.size → Calls Tryz.prog 103 #[.slice A 8 c, .int .i64 2, .slice (some ⟨g, 0, none⟩) 2 2] (W.alloc (.cells #[.int .i64 0, .int .i64 0] tInt)) fun e w' => ∃ A' c', e = .returned (.slice A' 12 c') ∧ Fresh W w' ∧ Own w' W.heap.size 5 A' 12 c' (([80, 75, 5, 6, 0, 0, 0, 0, 0, 0, 0, 0] : List UInt8).map bv) := fun W A c g base h hg =>
    put_z W A 8 c _ 2 [0, 0] 2 12 g ([80, 75, 5, 6, 0, 0, 0, 0, 0, 0, 0, 0] : List UInt8) h.rd z_wf2 (by omega) rfl (by omega) (by decide) (by decide) hg
  have p3 : ∀ (W : World) A c g base, Own W base 5 A 12 c (([80, 75, 5, 6, 0, 0, 0, 0, 0, 0, 0, 0] : List UInt8).map bv) → g = W.heap.size → Calls Tryz.prog 103 #[.slice A 12 c, .int .i64 4, .slice (some ⟨g, 0, none⟩) 2 2] (W.alloc (.cells #[.int .i64 0, .int .i64 0] tInt)) fun e w' => ∃ A' c', e = .returned (.slice A' 20 c') ∧ Fresh W w' ∧ Own w' W.heap.size 5 A' 20 c' (([80, 75, 5, 6, 0, 0, 0, 0, 0, 0, 0, 0, 0, 0, 0, 0, 0, 0, 0, 0] : List UInt8).map bv) := fun W A c g base h hg =>
    put_z W A 12 c _ 4 [0, 0] 2 20 g ([80, 75, 5, 6, 0, 0, 0, 0, 0, 0, 0, 0, 0, 0, 0, 0, 0, 0, 0, 0] : List UInt8) h.rd z_wf2 (by omega) rfl (by omega) (by decide) (by decide) hg
  have p4 : ∀ (W : World) A c g base, Own W base 5 A 20 c (([80, 75, 5, 6, 0, 0, 0, 0, 0, 0, 0, 0, 0, 0, 0, 0, 0, 0, 0, 0] : List UInt8).map bv) → g = W.heap.size → Calls Tryz.prog 103 #[.slice A 20 c, .int .i64 2, .slice (some ⟨g, 0, none⟩) 1 1] (W.alloc (.cells #[.int .i64 0] tInt)) fun e w' => ∃ A' c', e = .returned (.slice A' 22 c') ∧ Fresh W w' ∧ Own w' W.heap.size 5 A' 22 c' (([80, 75, 5, 6, 0, 0, 0, 0, 0, 0, 0, 0, 0, 0, 0, 0, 0, 0, 0, 0, 0, 0] : List UInt8).map bv) := fun W A c g base h hg =>
    put_z W A 20 c _ 2 [0] 1 22 g ([80, 75, 5, 6, 0, 0, 0, 0, 0, 0, 0, 0, 0, 0, 0, 0, 0, 0, 0, 0, 0, 0] : List UInt8) h.rd z_wf1 (by omega) rfl (by omega) (by decide) (by decide) hg
  have HF4 := Lib.hid hf4
  have HB4 := Lib.hid hb4
  have P1 := Lib.hid p1
  have P2 := Lib.hid p2
  have P3 := Lib.hid p3
  have P4 := Lib.hid p4
  have n1 : ∀ (W : World) D m d, Calls Tryz.prog 107 #[.bool false, .slice D m d] W fun e w' => e = .returned (.slice D m d) ∧ W = w' := fun W D m d => narrow_no D m d W
  have N1 := Lib.hid n1
  clear hf3 hb3 hm3 hf4 hb4 p1 p2 p3 p4 n1 HF HB H2 H4 H6 HF1 HB1 HF2 HB2
  go_wp2_with (first
    | (go_at_call 103; ((with_reducible refine P1.out.mono ?_); rintro e w4 ⟨A4, c4, rfl, hf5, ho5⟩; clear hcv; have HF5 := Lib.hid (HF4.out.trans hf5); have HB5 := Lib.hid (HB4.out.fresh hf5); have HO5 := Lib.hid ho5; have k0 : w4.cell? ⟨w.heap.size, 0, none⟩ = some (.int .i64 0) := HB5.out.cell rfl; have k3 : w4.cell? ⟨w.heap.size, 3, none⟩ = some (.bool false) := HB5.out.cell rfl; clear hf5 ho5))
    | (go_at_call 107; ((with_reducible refine (N1.out _ _ _ _).mono ?_); rintro e w1 ⟨rfl, rfl⟩))
    | (go_at_call 103; ((with_reducible refine (P2.out _ _ _ _ _ HO5.out (by simp)).mono ?_); rintro e w5 ⟨A5, c5, rfl, hf6, ho6⟩; have HF6 := Lib.hid (HF5.out.trans hf6); have HB6 := Lib.hid (HB5.out.fresh hf6); have HO6 := Lib.hid ho6; have k1 : w5.cell? ⟨w.heap.size, 1, none⟩ = some (.int .i64 0) := HB6.out.cell rfl; have k2 : w5.cell? ⟨w.heap.size, 2, none⟩ = some (.int .i64 0) := HB6.out.cell rfl; have k3 : w5.cell? ⟨w.heap.size, 3, none⟩ = some (.bool false) := HB6.out.cell rfl; clear hf6 ho6))
    | (go_at_call 103; ((with_reducible refine (P3.out _ _ _ _ _ HO6.out (by simp)).mono ?_); rintro e w6 ⟨A6, c6, rfl, hf7, ho7⟩; have HF7 := Lib.hid (HF6.out.trans hf7); have HB7 := Lib.hid (HB6.out.fresh hf7); have HO7 := Lib.hid ho7; clear hf7 ho7))
    | (go_at_call 103; ((with_reducible refine (P4.out _ _ _ _ _ HO7.out (by simp)).mono ?_); rintro e w7 ⟨A7, c7, rfl, hf8, ho8⟩; have HF8 := Lib.hid (HF7.out.trans hf8); have HB8 := Lib.hid (HB7.out.fresh hf8); have HO8 := Lib.hid ho8; have k3 : w7.cell? ⟨w.heap.size, 3, none⟩ = some (.bool false) := HB8.out.cell rfl; have hsz8 := HF7.out.size; clear hf8 ho8)))
  go_ret2
  exact ⟨A7, c7, rfl, HF8.out, ⟨HO8.out.1, HO8.out.2.imp id fun ⟨g, cap, cur, hv, hg, r⟩ => ⟨g, cap, cur, hv, Nat.le_trans hsz8 hg, r⟩⟩⟩
end Go.Proofs.YtmnegmebkmihhaaGreatDoor.recp
