/-
  The walk of the law UnzipSpoilt. My own text.
-/
import Derived.Test.YtmnejphdjnlbjaaGreatDoorUnzWak
import Derived.Test.YtmnejphdjnlbjaaGreatDoorMgPln
import Derived.Test.YtmnejphdjnlbjaaGreatDoorUnzSame
import Derived.Test.YtmnejphdjnlbjaaGreatDoorOpen
namespace Go.Proofs.YtmnejphdjnlbjaaGreatDoor.unzipSpoilt
open Go.RowKit Go.Proofs.YtmnejphdjnlbjaaGreatDoor.base Go.Proofs.YtmnejphdjnlbjaaGreatDoor.namp Go.Proofs.YtmnejphdjnlbjaaGreatDoor.word Go.Proofs.YtmnejphdjnlbjaaGreatDoor.crcnum Go.Proofs.YtmnejphdjnlbjaaGreatDoor.crc Go.Proofs.YtmnejphdjnlbjaaGreatDoor.unzp
set_option linter.unusedVariables false
set_option maxRecDepth 100000
theorem own_store {w : World} {base : Nat} {e : TypeId} {g n c : Nat} {xs : List Value} (h : Own w base e (some ⟨g, 0, none⟩) n c xs) (j : Nat) (hj : j < n) (u : Value) :
    Own (w.setCell ⟨g, j, none⟩ u) base e (some ⟨g, 0, none⟩) n c (xs.set j u) := (World.ownsRow.stored h j u).1
theorem own_lit (w : World) (cs : Array Value) (e : TypeId) (hm : cs.size ≤ maxLen) : Own (w.alloc (.cells cs e)) w.heap.size e (some ⟨w.heap.size, 0, none⟩) cs.size cs.size cs.toList :=
  ⟨by simp, .inr ⟨w.heap.size, cs.size, cs, rfl, Nat.le_refl _, heap_alloc_new w _, Nat.le_refl _, hm, by simp, by rw [Nat.mul_one]; exact List.take_of_length_le (by simp)⟩⟩
theorem u8_turn (x w j : Nat) (hx : x < 256) : bits .xor .u8 (x : Int) ((w : Int) / 2 ^ (8 * j) % 256) = ((x ^^^ (w / 256 ^ j % 256) : Nat) : Int) := by
  have e : (w : Int) / 2 ^ (8 * j) % 256 = ((w / 256 ^ j % 256 : Nat) : Int) := by
    have : (2 : Int) ^ (8 * j) = ((256 ^ j : Nat) : Int) := by rw [Int.pow_mul]; simp
    rw [this]; omega
  rw [e, u8_xor_nat _ _ hx (Nat.mod_lt _ (by omega))]
theorem bv_turn (x w j : Nat) (hx : x < 256) : bv (UInt8.ofNat (x ^^^ (w / 256 ^ j % 256))) = .int .u8 ((x ^^^ (w / 256 ^ j % 256) : Nat) : Int) := by
  rw [bv, ofNat_toNat _ (Nat.xor_lt_two_pow (n := 8) hx (Nat.mod_lt _ (by omega)))]
theorem turn_behind (a b c : UInt8) (xs : List UInt8) (k w : Nat) : ∀ j, (turn (a :: b :: c :: xs) (3 + k) w j).drop 3 = turn xs k w j
  | 0 => rfl
  | j + 1 => by
    have ih := turn_behind a b c xs k w j
    have hg : (a :: b :: c :: xs).getD (3 + k + j) 0 = xs.getD (k + j) 0 := by
      rw [show 3 + k + j = k + j + 3 from by omega]; rfl
    rw [turn, turn, hg, List.drop_set, if_neg (by omega), ih, show 3 + k + j - 3 = k + j from by omega]
set_option maxHeartbeats 16000000 in
theorem unzipSpoilt_walk (A0 : Option Addr) (n0 c0 : Nat) (x0 : List UInt8) (a1 : Int) (a2 : Int) (w : World) (b0 : InBytes w A0 n0 c0 x0) (w1 : (Lit.int .u16 a1).wf = true) (w2 : (Lit.int .u32 a2).wf = true) (hU : Laid w) :
    Calls Tryz.prog 4 #[.slice A0 n0 c0, .int .u16 a1, .int .u32 a2] w fun e w' => e = .returned (.bool true) ∧ Below w.heap.size w w' := by
  obtain ⟨i0, hi0, hz0, hz1, hz2⟩ := info_parts u8Info
  have h1 : 0 ≤ a1 ∧ a1 ≤ 65535 := by simpa [Lit.wf, IntKind.min, IntKind.max, IntKind.signed, IntKind.bits] using w1
  have h2 : 0 ≤ a2 ∧ a2 ≤ 4294967295 := by simpa [Lit.wf, IntKind.min, IntKind.max, IntKind.signed, IntKind.bits] using w2
  obtain ⟨at_, rfl⟩ := Int.eq_ofNat_of_zero_le h1.1
  obtain ⟨by_, rfl⟩ := Int.eq_ofNat_of_zero_le h2.1
  obtain ⟨r0, hc0, hm0⟩ := b0
  have HW := Lib.hid (unzp.wakes_any w hU)
  have HM0 : RowKit.Hid (c0 ≤ maxLen) := hm0
  clear w1 w2 hU hm0
  by_cases hs : n0 < 4
  · go_enter Tryz.func4, Tryz.ntmps4
    go_wp2_with (go_at_call 5; ((with_reducible refine HW.out.mono ?_); rintro e wA ⟨rfl, hfA⟩))
    all_goals go_ret
    all_goals exact ⟨rfl, hfA⟩
  by_cases hl : 2000 < n0
  · go_enter Tryz.func4, Tryz.ntmps4
    go_wp2_with (go_at_call 5; ((with_reducible refine HW.out.mono ?_); rintro e wA ⟨rfl, hfA⟩))
    all_goals go_ret
    all_goals exact ⟨rfl, hfA⟩
  by_cases hz : by_ = 0
  · subst hz
    go_enter Tryz.func4, Tryz.ntmps4
    go_wp2_with (go_at_call 5; ((with_reducible refine HW.out.mono ?_); rintro e wA ⟨rfl, hfA⟩))
    all_goals go_ret
    all_goals exact ⟨rfl, hfA⟩
  obtain ⟨k, hk, hk2⟩ : ∃ k : Nat, (at_ : Int) % ((n0 : Int) - 3) = (k : Int) ∧ k + 4 ≤ n0 := by
    have hp : (0 : Int) < (n0 : Int) - 3 := by omega
    have ha := Int.emod_nonneg (at_ : Int) (Int.ne_of_gt hp)
    have hb := Int.emod_lt_of_pos (at_ : Int) hp
    exact ⟨((at_ : Int) % ((n0 : Int) - 3)).toNat, by omega, by omega⟩
  have hlx : x0.length = n0 := by have := r0.1; rwa [List.length_map] at this
  have hne := sum_turned x0 k by_ (by omega) (by omega) hz
  obtain ⟨s0, h0⟩ : ∃ s, sum x0 = s := ⟨_, rfl⟩
  rw [h0] at hne
  have hzb : ((by_ : Int) == 0) = false := by rw [beq_eq_false_iff_ne]; omega
  have HNE := Lib.hid hne
  have H0 := Lib.hid h0
  have HLX := Lib.hid hlx
  have HR := Lib.hid r0
  have HBN : RowKit.Hid (n0 ≤ 2000 ∧ 4 ≤ n0) := ⟨by omega, by omega⟩
  have hof := fun (W : World) (hf : Fresh w W) => of_is A0 n0 c0 x0 s0 W w.heap.size (r0.below hf (Nat.le_refl _)) (by unfold maxLen; omega) h0
  have HOF := Lib.hid hof
  have HC0 := Lib.hid hc0
  clear h0 hne hlx hz hof r0
  go_enter Tryz.func4, Tryz.ntmps4
  go_upto_region 7 with (first
    | (go_at_call 5; ((with_reducible refine HW.out.mono ?_); rintro e wA ⟨rfl, hfA⟩; have HFA := Lib.hid hfA; clear hfA))
    | (at_builtin; refine wpList_append_rd _ rfl _ _ 22 rfl wA.heap.size 5 i0 _ 1 Tryz.underlying22 hi0 hz0 hz1 hz2 rfl (some ⟨wA.heap.size, 0, none⟩) 3 3 [.int .u8 1, .int .u8 2, .int .u8 3] rfl (own_lit wA #[.int .u8 1, .int .u8 2, .int .u8 3] 5 (by unfold maxLen; simp)) w.heap.size A0 n0 c0 (x0.map bv) rfl (HR.out.below (HFA.out.trans (Fresh.alloc _ _)) (Nat.le_refl _)) (bv_one x0) (by unfold maxLen; omega) (by omega) (by simp) ?_; intro A3 c3 w3 ho3 hg3; have hf3 : Fresh w w3 := (HFA.out.trans (Fresh.alloc _ _)).append (own_lit wA #[.int .u8 1, .int .u8 2, .int .u8 3] 5 (by unfold maxLen; simp)) HFA.out.size hg3; have HF3 := Lib.hid hf3; have HO3 := Lib.hid ho3; clear hf3 ho3 hg3)
    | (go_at_call 13; ((with_reducible refine (HOF.out _ HF3.out).mono ?_); rintro e w4 ⟨rfl, rfl⟩)))
  obtain ⟨g, cap, hv, hgb, hgl⟩ := World.ownsRow.form HO3.out (by omega)
  injection hv with hA3 _ hcap
  subst hA3
  subst hcap
  have hb8 : Bk (w3.alloc (.cells #[.string ⟨#[120]⟩, .int .i64 0, .int .i64 0, .int .u32 (s0 : Nat), .int .i64 (n0 : Nat), .int .i64 (n0 : Nat), .int .i64 3] 31)) w3.heap.size 31 [.string ⟨#[120]⟩, .int .i64 0, .int .i64 0, .int .u32 (s0 : Nat), .int .i64 (n0 : Nat), .int .i64 (n0 : Nat), .int .i64 3] := Bk.made w3 _ _
  have ho8 : Own (w3.alloc (.cells #[.string ⟨#[120]⟩, .int .i64 0, .int .i64 0, .int .u32 (s0 : Nat), .int .i64 (n0 : Nat), .int .i64 (n0 : Nat), .int .i64 3] 31)) wA.heap.size 5 (some ⟨g, 0, none⟩) (3 + n0) c3 ((1 :: 2 :: 3 :: x0 : List UInt8).map bv) := HO3.out.fresh (Fresh.alloc _ _)
  have hf8 := HF3.out.trans (Fresh.alloc w3 (.cells #[.string ⟨#[120]⟩, .int .i64 0, .int .i64 0, .int .u32 (s0 : Nat), .int .i64 (n0 : Nat), .int .i64 (n0 : Nat), .int .i64 3] 31))
  have hgA : w.heap.size ≤ g := by have := HFA.out.size; omega
  generalize w3.alloc (.cells #[.string ⟨#[120]⟩, .int .i64 0, .int .i64 0, .int .u32 (s0 : Nat), .int .i64 (n0 : Nat), .int .i64 (n0 : Nat), .int .i64 3] 31) = w8 at *
  have hcapm := ho8.cap
  have hcon : Calls Tryz.prog 7 #[.slice (some ⟨g, 0, none⟩) (3 + n0) c3, .agg #[.string ⟨#[120]⟩, .int .i64 0, .int .i64 0, .int .u32 (s0 : Nat), .int .i64 (n0 : Nat), .int .i64 (n0 : Nat), .int .i64 3]] w8 (ConIs n0 0 x0 w8) :=
    contentp_any (some ⟨g, 0, none⟩) (3 + n0) c3 (1 :: 2 :: 3 :: x0) x0 ⟨#[120]⟩ 0 3 n0 s0 w8 w8.heap.size ho8.rd (Nat.le_refl _) hcapm.1 hcapm.2 (by omega) (by omega) (Nat.le_refl _) (by omega) (by have h := HLX.out; show x0.take n0 = x0; exact List.take_of_length_le (by omega)) 0 (if_pos H0.out)
  have HCON := Lib.hid hcon
  have HO8 := Lib.hid ho8
  have HB8 := Lib.hid hb8
  have HF8 := Lib.hid hf8
  have HCAP := Lib.hid hcapm
  have HGF : RowKit.Hid (g < w3.heap.size) := hgl
  have HGA := Lib.hid hgA
  have HK := Lib.hid hk
  generalize w3.heap.size = fb at *
  clear hcon ho8 hb8 hf8 hcapm hgl hgA hk HO3 HF3 HOF
  go_upto_region 10 with (first
    | ((with_reducible (refine at_slot_ 41 ?_)); refine wpList_load_mid rfl 31 (.tmp 8) rfl fb 0 rfl [.string ⟨#[120]⟩, .int .i64 0, .int .i64 0, .int .u32 (s0 : Nat), .int .i64 (n0 : Nat), .int .i64 (n0 : Nat), .int .i64 3] _ (fun j v hj => by rw [Nat.zero_add]; exact HB8.out.cell hj) Tryz.underlying31 rfl (by kernel_rfl) ?_)
    | (go_at_call 7; ((with_reducible refine HCON.out.mono ?_); rintro e w9 ⟨hf9, A9, c9, rfl, hr9⟩; have HF9 := Lib.hid hf9; have HR9 := Lib.hid hr9; clear hf9 hr9))
    | (go_at_call 12; ((with_reducible refine (same_gen A9 A0 n0 n0 c9 c0 x0 x0 w9 w9.heap.size w.heap.size HR9.out (HR.out.below (HF8.out.trans HF9.out) (Nat.le_refl _)) (by omega) (by omega) true (by simp)).mono ?_); rintro e w10 ⟨rfl, hf10⟩; have HF10 := Lib.hid hf10; clear hf10)))
  obtain ⟨K, hK⟩ : ∃ K : Nat, 3 + k = K := ⟨_, rfl⟩
  have hKi : (3 : Int) + (at_ : Int) % ((n0 : Int) - 3) = (K : Int) := by have := HK.out; omega
  have hf10 := (HF8.out.trans HF9.out).trans HF10.out
  have ho10 := (HO8.out.fresh HF9.out).fresh HF10.out
  have hb10 := (HB8.out.fresh HF9.out).fresh HF10.out
  have hlX : (1 :: 2 :: 3 :: x0 : List UInt8).length = 3 + n0 := by have := HLX.out; simp; omega
  have hgf : g ≠ fb := Nat.ne_of_lt HGF
  have HB0 : RowKit.Hid (turn (1 :: 2 :: 3 :: x0) K by_ 0 = 1 :: 2 :: 3 :: x0) := rfl
  have HD4 : RowKit.Hid ((turn (1 :: 2 :: 3 :: x0) K by_ 4).drop 3 = turn x0 k by_ 4) := by
    show _ = _
    rw [← hK]
    exact turn_behind 1 2 3 x0 k by_ 4
  have HLT : RowKit.Hid ((turn x0 k by_ 4).length = n0) := by show _ = _; rw [turn_length]; exact HLX.out
  generalize (1 :: 2 :: 3 :: x0 : List UInt8) = X0 at *
  have HO := Lib.hid ho10
  have HB := Lib.hid hb10
  have HF := Lib.hid hf10
  have HGFN := Lib.hid hgf
  have HLX0 := Lib.hid hlX
  have hkb : K + 4 ≤ 3 + n0 := by omega
  clear ho10 hb10 hf10 hgf hlX HCON HO8 HB8 HF8 HF9 HF10 HR9 HW
  go_wp2
  clear hKi HK
  go_loopw [60] (fun i wr => ∃ j : Nat, j ≤ 4 ∧ i = .int .i64 j ∧ Hid (Own wr wA.heap.size 5 (some ⟨g, 0, none⟩) (3 + n0) c3 ((turn X0 K by_ j).map bv)) ∧ Hid (Bk wr fb 31 [.string ⟨#[120]⟩, .int .i64 0, .int .i64 0, .int .u32 (s0 : Nat), .int .i64 (n0 : Nat), .int .i64 (n0 : Nat), .int .i64 3]) ∧ Hid (Fresh w wr)) (fun i _ => 4 - (intOf i).toNat)
  case atStart => exact ⟨0, by omega, rfl, HO, HB, HF⟩
  case round =>
    clear HO HB HF
    obtain ⟨j, hj, rfl, HOj, HBj, HFj⟩ := hrel
    by_cases hlt : j < 4
    · have hx : X0[K + j]? = some (X0.getD (K + j) 0) := by
        rw [List.getD_eq_getElem?_getD, List.getElem?_eq_getElem (by have := HLX0.out; omega)]; rfl
      have hxt : (turn X0 K by_ j)[K + j]? = some (X0.getD (K + j) 0) := by rw [turn_ahead _ _ _ _ _ (by omega)]; exact hx
      have hcx : wr.cell? ⟨g, K + j, none⟩ = some (.int .u8 ((X0.getD (K + j) 0).toNat : Nat)) := by
        rw [World.ownsRow.cellAt HOj.out (K + j) (by omega), List.getElem?_map, hxt]; rfl
      have hfz := World.ownsRow.frozenAt HOj.out (K + j)
      have hxb := (X0.getD (K + j) 0).toNat_lt
      have hso := own_store HOj.out (K + j) (by omega) (bv (UInt8.ofNat ((X0.getD (K + j) 0).toNat ^^^ (by_ / 256 ^ j % 256))))
      rw [← List.map_set, bv_turn _ _ _ hxb] at hso
      have hturn : Hid (turn X0 K by_ (j + 1) = (turn X0 K by_ j).set (K + j) (UInt8.ofNat ((X0.getD (K + j) 0).toNat ^^^ (by_ / 256 ^ j % 256)))) := rfl
      generalize X0.getD (K + j) 0 = X at *
      have e1 := u8_turn X.toNat by_ j hxb
      have HSO := Lib.hid hso
      clear hso hx hxt
      go_wp2
      go_region
      go_wp2
      go_roundw
      case rel => exact ⟨j + 1, by omega, by go_num, by rw [hturn.out]; exact HSO, Lib.hid ((HBj.out.apart (fun e => HGFN.out e.symm) _).fresh (Fresh.drew _)), Lib.hid ((HFj.out.but HGA.out (But.put _ _)).trans (Fresh.drew _))⟩
      case measure => simp [intOf]; omega
    · have h4 : j = 4 := by omega
      subst h4
      have hcapm := HCAP.out
      have hbs : ((turn X0 K by_ 4).drop 3).take n0 = turn x0 k by_ 4 := by rw [HD4.out]; exact List.take_of_length_le (Nat.le_of_eq HLT.out)
      have hcon : Calls Tryz.prog 7 #[.slice (some ⟨g, 0, none⟩) (3 + n0) c3, .agg #[.string ⟨#[120]⟩, .int .i64 0, .int .i64 0, .int .u32 (s0 : Nat), .int .i64 (n0 : Nat), .int .i64 (n0 : Nat), .int .i64 3]] wr (ConIs n0 5 (turn x0 k by_ 4) wr) :=
        contentp_any (some ⟨g, 0, none⟩) (3 + n0) c3 (turn X0 K by_ 4) (turn x0 k by_ 4) ⟨#[120]⟩ 0 3 n0 s0 wr wr.heap.size HOj.out.rd (Nat.le_refl _) hcapm.1 hcapm.2 (by omega) (by omega) (Nat.le_refl _) (by omega) hbs 5 (if_neg HNE.out)
      have HCON := Lib.hid hcon
      clear hcon hbs hcapm
      go_wp2_with (first
        | ((with_reducible (refine at_slot_ 79 ?_)); refine wpList_load_mid rfl 31 (.tmp 8) rfl fb 0 rfl [.string ⟨#[120]⟩, .int .i64 0, .int .i64 0, .int .u32 (s0 : Nat), .int .i64 (n0 : Nat), .int .i64 (n0 : Nat), .int .i64 3] _ (fun j v hj => by rw [Nat.zero_add]; exact HBj.out.cell hj) Tryz.underlying31 rfl (by kernel_rfl) ?_)
        | (go_at_call 7; ((with_reducible refine HCON.out.mono ?_); rintro e w11 ⟨hf11, rfl⟩; have HF11 := Lib.hid (HFj.out.trans hf11); clear hf11)))
      go_ret
      exact ⟨rfl, HF11.out⟩
end Go.Proofs.YtmnejphdjnlbjaaGreatDoor.unzipSpoilt
