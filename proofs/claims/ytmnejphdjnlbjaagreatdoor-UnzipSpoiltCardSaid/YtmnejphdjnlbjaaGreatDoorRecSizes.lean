/-
  record's sizes: my own text.
-/
import Derived.Test.YtmnejphdjnlbjaaGreatDoorRecShared
namespace Go.Proofs.YtmnejphdjnlbjaaGreatDoor.recp
open Go.RowKit Go.Proofs.YtmnejphdjnlbjaaGreatDoor.base Go.Proofs.YtmnejphdjnlbjaaGreatDoor.num Go.Proofs.YtmnejphdjnlbjaaGreatDoor.word Go.Proofs.YtmnejphdjnlbjaaGreatDoor.recn
set_option linter.unusedVariables false
def lenV : Value → Nat
  | .slice _ n _ => n
  | _ => 0
/-- the answer of sizes -/
def SizesIs (S : List Nat) (w : World) (r : Option (List UInt8)) (e : Ending) (w' : World) : Prop :=
  Fresh w w' ∧ match r with
  | none => e = .returned (.tuple #[.slice none 0 0, .bool false])
  | some f => ∃ A c, e = .returned (.tuple #[.slice A f.length c, .bool true]) ∧ f.length ≤ c ∧ c ≤ maxLen ∧ f.length ≤ 65535 ∧ RdA w' S A f.length (f.map bv)
/-- the relation of the loop -/
structure SizesAt (S : List Nat) (w : World) (xs : List UInt8) (N : Nat) (A : Option Addr) (c : Nat) (x : List UInt8) (is : Bool) (F : Option Addr) (nF cF : Nat) (f : List UInt8) (wr : World) : Prop where
  rd : RdA wr S A N (x.map bv)
  cap : N ≤ c
  max : c ≤ maxLen
  len : N ≤ 65535
  rdF : RdA wr S F nF (f.map bv)
  capF : nF ≤ cF
  lenF : nF ≤ 65535
  maxF : cF ≤ maxLen
  fresh : Fresh w wr
  same : items x is f = items xs false []
theorem SizesAt.lx {S : List Nat} {w : World} {xs : List UInt8} {N : Nat} {A : Option Addr} {c : Nat} {x : List UInt8} {is : Bool} {F : Option Addr} {nF cF : Nat} {f : List UInt8} {wr : World} (h : SizesAt S w xs N A c x is F nF cF f wr) : x.length = N := by
  have := h.rd.1; rwa [List.length_map] at this
theorem SizesAt.lf {S : List Nat} {w : World} {xs : List UInt8} {N : Nat} {A : Option Addr} {c : Nat} {x : List UInt8} {is : Bool} {F : Option Addr} {nF cF : Nat} {f : List UInt8} {wr : World} (h : SizesAt S w xs N A c x is F nF cF f wr) : f.length = nF := by
  have := h.rdF.1; rwa [List.length_map] at this
/-- a step on -/
theorem SizesAt.next {S R : List Nat} {w : World} {xs : List UInt8} {N4 : Nat} {A : Option Addr} {c : Nat} {x : List UInt8} {is : Bool} {F : Option Addr} {nF cF : Nat} {f : List UInt8} {wr w4 : World} (h : SizesAt S w xs (N4 + 4) A c x is F nF cF f wr)
    {A4 : Option Addr} {c4 lo : Nat} (hf : Fresh wr w4) (hR : RdA w4 (R ++ S) A4 N4 ((x.drop 4).map bv)) (hc : N4 ≤ c4) (hm : c4 ≤ maxLen) (hl : lo ≤ N4) (is' : Bool) (hs : items x is f = items (x.drop (4 + lo)) is' f) :
    SizesAt S w xs (N4 - lo) (if c4 = lo then A4 else A4.map (·.add lo)) (c4 - lo) (x.drop (4 + lo)) is' F nF cF f w4 where
  rd := by
    have := (hR.sub (T := S) fun i hi => List.mem_append_right _ hi).tail hl hc
    rwa [← List.map_drop, List.drop_drop] at this
  cap := by omega
  max := by omega
  len := by have := h.len; omega
  rdF := h.rdF.fresh hf
  capF := h.capF
  lenF := h.lenF
  maxF := h.maxF
  fresh := h.fresh.trans hf
  same := hs.symm.trans h.same
theorem SizesAt.took {S R : List Nat} {w : World} {xs : List UInt8} {N4 : Nat} {A : Option Addr} {c : Nat} {x : List UInt8} {is : Bool} {F : Option Addr} {nF cF : Nat} {f : List UInt8} {wr w4 : World} (h : SizesAt S w xs (N4 + 4) A c x is F nF cF f wr)
    {A4 : Option Addr} {c4 lo : Nat} (hf : Fresh wr w4) (hR : RdA w4 (R ++ S) A4 N4 ((x.drop 4).map bv)) (hc : N4 ≤ c4) (hm : c4 ≤ maxLen) (hl : lo ≤ N4) (hs : items x is f = items (x.drop (4 + lo)) true ((x.drop 4).take lo)) :
    SizesAt S w xs (N4 - lo) (if c4 = lo then A4 else A4.map (·.add lo)) (c4 - lo) (x.drop (4 + lo)) true A4 lo c4 ((x.drop 4).take lo) w4 where
  rd := by
    have := (hR.sub (T := S) fun i hi => List.mem_append_right _ hi).tail hl hc
    rwa [← List.map_drop, List.drop_drop] at this
  cap := by omega
  max := by omega
  len := by have := h.len; omega
  rdF := by
    have := (hR.sub (T := S) fun i hi => List.mem_append_right _ hi).head hl
    rwa [← List.map_take] at this
  capF := by omega
  lenF := by have := h.len; omega
  maxF := hm
  fresh := h.fresh.trans hf
  same := hs.symm.trans h.same
set_option maxHeartbeats 4000000 in
theorem sizes_any (A : Option Addr) (n c : Nat) (xs : List UInt8) (S : List Nat) (w : World) (hr : RdA w S A n (xs.map bv)) (hc : n ≤ c) (hm : c ≤ maxLen) (hn : n ≤ 65535) (hS : ∀ i ∈ S, i < w.heap.size) :
    Calls Tryz.prog 57 #[.slice A n c] w (SizesIs S w (items xs false [])) := by
  have hstart : SizesAt S w xs n A c xs false none 0 0 [] w := ⟨hr, hc, hm, hn, RdA.nil _ _ _, Nat.le_refl _, Nat.zero_le _, Nat.zero_le _, Fresh.refl _, rfl⟩
  have HST := Lib.hid hstart
  have HS := Lib.hid hS
  clear hstart hS hr hc hm hn
  go_enter Tryz.func57, Tryz.ntmps57
  go_wp2
  go_loopw [0, 4, 5] (fun v f b wr => ∃ (N c' nF cF : Nat) (A' F : Option Addr) (x fs : List UInt8) (is : Bool), v = .slice A' N c' ∧ f = .slice F nF cF ∧ b = .bool is ∧ Hid (SizesAt S w xs N A' c' x is F nF cF fs wr)) (fun v _ _ _ => lenV v)
  case atStart => exact ⟨n, c, 0, 0, A, none, xs, [], false, rfl, rfl, rfl, HST⟩
  case round =>
    obtain ⟨N, c', nF, cF, A', F, x, fs, is, rfl, rfl, rfl, hAt⟩ := hrel
    have hlx := hAt.out.lx
    have hlen := hAt.out.len
    have hmx := hAt.out.max
    have hmxF := hAt.out.maxF
    unfold maxLen at hmx hmxF
    by_cases h0 : N = 0
    · subst h0
      go_wp2
      go_ret2
      have hx : x = [] := List.eq_nil_of_length_eq_zero hlx
      subst hx
      have hs := hAt.out.same
      rw [items_nil] at hs
      refine ⟨hAt.out.fresh, ?_⟩
      rw [← hs]
      have hl := hAt.out.lf
      subst hl
      exact ⟨F, cF, rfl, hAt.out.capF, hAt.out.maxF, hAt.out.lenF, hAt.out.rdF⟩
    · by_cases h4 : N < 4
      · go_wp2
        go_ret2
        have hs := hAt.out.same
        rw [items_short x is fs (by omega) (by omega)] at hs
        refine ⟨hAt.out.fresh, ?_⟩
        rw [← hs]
        rfl
      · obtain ⟨N4, rfl⟩ : ∃ N4, N = N4 + 4 := ⟨N - 4, by omega⟩
        have hwsz : w.heap.size ≤ wr.heap.size := hAt.out.fresh.size
        obtain ⟨g, hg⟩ : ∃ g, wr.heap.size = g := ⟨_, rfl⟩
        obtain ⟨b0, b1, b2, hf3, hs3⟩ := two_new wr S (fun i hi => Nat.lt_of_lt_of_le (HS.out i hi) hwsz) g hg _ rfl
        have hgt := fun d => get_any A' (N4 + 4) c' 2 x _ 2 d [⟨g, 0, none⟩, ⟨g + 1, 0, none⟩] ([g, g + 1] ++ S) _ ((hAt.out.rd.more (R := [g, g + 1]) (by intro i hi; simp at hi; omega)).fresh hf3) hAt.out.cap hAt.out.max (by omega) (.inl rfl) b2 (by
          intro q hq
          simp only [List.mem_cons, List.not_mem_nil, or_false] at hq
          rcases hq with rfl | rfl
          · exact ⟨by simp, b0.wr (by simp)⟩
          · exact ⟨by simp, b1.wr (by simp)⟩) (by omega)
        obtain ⟨d0, d1⟩ := two_set b0 b1 (by omega) (iv (nm x 0 2 : Nat)) (iv (nm x 2 2 : Nat))
        have hge : gets 2 x [⟨g, 0, none⟩, ⟨g + 1, 0, none⟩] = [(⟨g, 0, none⟩, iv (nm x 0 2 : Nat)), (⟨g + 1, 0, none⟩, iv (nm x 2 2 : Nat))] := rfl
        rw [hge] at hgt
        simp only [show N4 + 4 - 2 * 2 = N4 from by omega, show 2 * 2 = 4 from rfl] at hgt
        have hfw4 : Fresh wr (sets (((wr.alloc (.cells #[.int .i64 0] tInt)).alloc (.cells #[.int .i64 0] tInt)).alloc (.cells #[ptr g, ptr (g + 1)] tPtr)) [(⟨g, 0, none⟩, iv (nm x 0 2 : Nat)), (⟨g + 1, 0, none⟩, iv (nm x 2 2 : Nat))]) :=
          (sets_turn (S := [g, g + 1]) _ _ (by intro x hx; simp at hx; rcases hx with rfl | rfl <;> simp)).new hf3 (by intro i hi; simp at hi; omega)
        have hlo := nm2 x 2
        have hend := fun h => items_end x is fs (by omega) h
        have hstep := fun h => items_step x is fs h
        rw [hlx] at hend hstep
        generalize nm x 0 2 = nu at *
        generalize nm x 2 2 = lo at *
        have HGT := Lib.hid hgt
        have D0 := Lib.hid d0
        have D1 := Lib.hid d1
        have HFW4 := Lib.hid hfw4
        have HEND := Lib.hid hend
        have HSTEP := Lib.hid hstep
        have HLX := Lib.hid hlx
        have hg' := Lib.hid hg
        clear hgt d0 d1 hfw4 hge b0 b1 b2 hf3 hs3 hg hend hstep hlx
        have hg'' := hg'.out
        subst hg''
        by_cases hl : N4 < lo
        · have hl2 : decide ((N4 : Int) < (lo : Int)) = true := decide_eq_true (by omega)
          go_wp2_with (go_at_call 38; refine (HGT.out _).mono ?_; rintro e w4 ⟨A4, c4, rfl, hc4, hm4, hf4, hr4⟩; have k0 : w4.cell? ⟨wr.heap.size, 0, none⟩ = some (iv (nu : Nat)) := (D0.out.fresh hf4).cell rfl; have k1 : w4.cell? ⟨wr.heap.size + 1, 0, none⟩ = some (iv (lo : Nat)) := (D1.out.fresh hf4).cell rfl; have hf5 := HFW4.out.trans hf4; have HF5 := Lib.hid hf5; have HR4 := Lib.hid hr4; have HM4 := Lib.hid hm4; clear hf5 hr4 hf4 hm4)
          go_ret2
          have hs := hAt.out.same
          rw [HEND.out (by omega)] at hs
          refine ⟨hAt.out.fresh.trans HF5.out, ?_⟩
          rw [← hs]
          rfl
        · have hl2 : decide ((N4 : Int) < (lo : Int)) = false := decide_eq_false (by omega)
          have hst := HSTEP.out (by omega)
          have HSTEP2 := Lib.hid hst
          clear hst HSTEP
          by_cases hn : nu = 1
          · subst hn
            cases is
            · go_wp2_with (go_at_call 38; refine (HGT.out _).mono ?_; rintro e w4 ⟨A4, c4, rfl, hc4, hm4, hf4, hr4⟩; have k0 : w4.cell? ⟨wr.heap.size, 0, none⟩ = some (iv 1) := (D0.out.fresh hf4).cell rfl; have k1 : w4.cell? ⟨wr.heap.size + 1, 0, none⟩ = some (iv (lo : Nat)) := (D1.out.fresh hf4).cell rfl; have hf5 := HFW4.out.trans hf4; have HF5 := Lib.hid hf5; have HR4 := Lib.hid hr4; have HM4 := Lib.hid hm4; unfold maxLen at hm4; clear hf5 hr4 hf4)
              exact ⟨⟨_, _, _, _, _, _, _, _, true, rfl, rfl, rfl, Lib.hid (hAt.out.took HF5.out HR4.out hc4 HM4.out (by omega) HSTEP2.out)⟩, by simp [lenV]; omega⟩
            · go_wp2_with (go_at_call 38; refine (HGT.out _).mono ?_; rintro e w4 ⟨A4, c4, rfl, hc4, hm4, hf4, hr4⟩; have k0 : w4.cell? ⟨wr.heap.size, 0, none⟩ = some (iv 1) := (D0.out.fresh hf4).cell rfl; have k1 : w4.cell? ⟨wr.heap.size + 1, 0, none⟩ = some (iv (lo : Nat)) := (D1.out.fresh hf4).cell rfl; have hf5 := HFW4.out.trans hf4; have HF5 := Lib.hid hf5; have HR4 := Lib.hid hr4; have HM4 := Lib.hid hm4; unfold maxLen at hm4; clear hf5 hr4 hf4)
              exact ⟨⟨_, _, _, _, _, _, _, _, true, rfl, rfl, rfl, Lib.hid (hAt.out.next HF5.out HR4.out hc4 HM4.out (by omega) true HSTEP2.out)⟩, by simp [lenV]; omega⟩
          · have hn1 : ((nu : Int) == 1) = false := by rw [beq_eq_false_iff_ne]; omega
            have hs2 := HSTEP2.out
            rw [show (nu == 1) = false from by rw [beq_eq_false_iff_ne]; exact hn] at hs2
            simp only [Bool.or_false, Bool.false_and, Bool.false_eq_true, if_false] at hs2
            have HS2 := Lib.hid hs2
            clear hs2 HSTEP2
            go_wp2_with (go_at_call 38; refine (HGT.out _).mono ?_; rintro e w4 ⟨A4, c4, rfl, hc4, hm4, hf4, hr4⟩; have k0 : w4.cell? ⟨wr.heap.size, 0, none⟩ = some (iv (nu : Nat)) := (D0.out.fresh hf4).cell rfl; have k1 : w4.cell? ⟨wr.heap.size + 1, 0, none⟩ = some (iv (lo : Nat)) := (D1.out.fresh hf4).cell rfl; have hf5 := HFW4.out.trans hf4; have HF5 := Lib.hid hf5; have HR4 := Lib.hid hr4; have HM4 := Lib.hid hm4; unfold maxLen at hm4; clear hf5 hr4 hf4)
            exact ⟨⟨_, _, _, _, _, _, _, _, is, rfl, rfl, rfl, Lib.hid (hAt.out.next HF5.out HR4.out hc4 HM4.out (by omega) is HS2.out)⟩, by simp [lenV]; omega⟩
end Go.Proofs.YtmnejphdjnlbjaaGreatDoor.recp
