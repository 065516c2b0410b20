/-
  The walk of the law BitsReads. My own text.
-/
import Derived.Test.YtelghdfikcodmaaBitsRef
import Derived.Test.YtelghdfikcodmaaOpenActs
import Derived.Test.YtelghdfikcodmaaStore
import Derived.Deep.DeepCutAuto
import Derived.Deep.CutBlock
namespace Go.Proofs.Ytelghdfikcodmaa.bitsReads
open Go.RowKit Go.Proofs.Ytelghdfikcodmaa.base Go.Proofs.Ytelghdfikcodmaa.num Go.Proofs.Ytelghdfikcodmaa.bitnum Go.Proofs.Ytelghdfikcodmaa.bitp
set_option linter.unusedVariables false

abbrev tAct : TypeId := 45
theorem actInfo : (Try.prog.info? tAct).map (·.size) = some 4 := by kernel_rfl

/-- the reader, and all bits in a row -/
structure RSt (wA wr : World) (g : Nat) (bs : List UInt8) (M p : Nat) (bl : List Nat) (A : Option Addr) (c : Nat) : Prop where
  rd : RdrAt wr g bs p bl
  pos : p ≤ 8 * bs.length
  len : M = 8 * bs.length
  all : Own wr wA.heap.size 3 A M c (nv (lb M (num bs)))
  since : Since wA wr bl
theorem RSt.fresh {wA wr w' : World} {g M p c : Nat} {bs : List UInt8} {bl : List Nat} {A : Option Addr} (h : RSt wA wr g bs M p bl A c) (k : Fresh wr w') : RSt wA w' g bs M p bl A c :=
  ⟨h.rd.fresh k, h.pos, h.len, Own.fresh h.all k, h.since.fresh k⟩
/-- the reader went on -/
theorem RSt.went {wA wr w' : World} {g M p q c : Nat} {bs : List UInt8} {bl bl' : List Nat} {A : Option Addr} (h : RSt wA wr g bs M p bl A c) (hR : RdrAt w' g bs q bl') (hT : bitp.Turn bl bl' wr w') (hq : q ≤ 8 * bs.length) : RSt wA w' g bs M q bl' A c :=
  ⟨hR, hq, h.len, Own.turn h.all hT (h.rd.off h.all (by decide) (by decide)), h.since.turn hT⟩
/-- bytes came behind -/
structure RHalf (wA wr : World) (g : Nat) (bs xs : List UInt8) (M p : Nat) (bl : List Nat) (A : Option Addr) (c : Nat) : Prop where
  rd : RdrAt wr g (bs ++ xs) p bl
  pos : p ≤ 8 * bs.length
  len : M = 8 * bs.length
  all : Own wr wA.heap.size 3 A M c (nv (lb M (num bs)))
  since : Since wA wr bl
theorem RSt.half {wA wr w' : World} {g M p c : Nat} {bs xs : List UInt8} {bl bl' : List Nat} {A : Option Addr} (h : RSt wA wr g bs M p bl A c) (hR : RdrAt w' g (bs ++ xs) p bl') (hT : bitp.Turn bl bl' wr w') : RHalf wA w' g bs xs M p bl' A c :=
  ⟨hR, h.pos, h.len, Own.turn h.all hT (h.rd.off h.all (by decide) (by decide)), h.since.turn hT⟩
theorem RHalf.fresh {wA wr w' : World} {g M p c : Nat} {bs xs : List UInt8} {bl : List Nat} {A : Option Addr} (h : RHalf wA wr g bs xs M p bl A c) (k : Fresh wr w') : RHalf wA w' g bs xs M p bl A c :=
  ⟨h.rd.fresh k, h.pos, h.len, Own.fresh h.all k, h.since.fresh k⟩
theorem RHalf.done {wA wr w' : World} {g M M' p c c' : Nat} {bs xs : List UInt8} {bl : List Nat} {A A' : Option Addr} (h : RHalf wA wr g bs xs M p bl A c) (hM : M' = 8 * (bs ++ xs).length) (ho : Own w' wA.heap.size 3 A' M' c' (nv (lb M' (num (bs ++ xs))))) (hg : wr.grownBy w' (Value.slice A M c).ownBlock) : RSt wA w' g (bs ++ xs) M' p bl A' c' :=
  ⟨h.rd.grown hg (h.rd.off h.all (by decide) (by decide)), by have := h.pos; rw [List.length_append]; omega, hM, ho, h.since.grown hg fun k hk => (World.ownsRow.lt h.all k hk).1⟩

theorem nv_bytes {M m : Nat} {bs xs : List UInt8} (hM : M = 8 * bs.length) (hm : m = 8 * xs.length) : nv (lb M (num bs)) ++ nv (lb m (num xs)) = nv (lb (M + m) (num (bs ++ xs))) := by
  subst hM; subst hm
  rw [nv, nv, nv, ← List.map_append, lb_bytes_all, List.length_append, Nat.mul_add]

theorem left_q (g : Nat) (bs : List UInt8) (p P : Nat) (bl : List Nat) (w : World) (h : RdrAt w g bs p bl) (hp : p ≤ 8 * bs.length) (hn : bs.length ≤ 1099511627776) (hP : 8 * bs.length - p = P) :
    Calls Try.prog 26 #[ptr g] w fun e w' => e = .returned (.int .i64 P) ∧ ∃ m, w' = w.drewN m := by
  subst hP
  obtain ⟨A, c, rfl, hne, hb, ho⟩ := h
  have h0 : w.cell? ⟨g, 0, none⟩ = some (.slice A bs.length c) := hb.cell rfl
  have h1 : w.cell? ⟨g, 1, none⟩ = some (.int .i64 p) := hb.cell rfl
  go_enter Try.func26, Try.ntmps26
  go_wp2
  go_quiet (fail)
  go_wp2
  go_ret
  exact ⟨ret_i64 (by omega), _, rfl⟩
theorem has_q (g : Nat) (bs : List UInt8) (p P : Nat) (bl : List Nat) (n : Int) (b : Bool) (w : World) (h : RdrAt w g bs p bl) (hp : p ≤ 8 * bs.length) (hn : bs.length ≤ 1099511627776) (hP : 8 * bs.length - p = P) (hb : decide (n ≤ (P : Int)) = b) :
    Calls Try.prog 28 #[ptr g, .int .i64 n] w fun e w' => e = .returned (.bool b) ∧ ∃ m, w' = w.drewN m := by
  subst hb
  go_enter Try.func28, Try.ntmps28
  go_wp2_with (go_at_call 26; refine (left_q g bs p P bl w h hp hn hP).mono ?_; rintro e w1 ⟨rfl, m, rfl⟩)
  go_ret
  exact ⟨rfl, m, rfl⟩
theorem number_is (A : Option Addr) (n c : Nat) (u R : Nat) (w : World) (B : Nat) (hr : Rd w B A n (nv (lb n u))) (hn : n ≤ 24) (hR : u % 2 ^ n = R) :
    Calls Try.prog 22 #[.slice A n c] w fun e w' => e = .returned (.int .i64 R) ∧ w = w' := by
  subst hR
  exact Number_any A n c u w B hr hn
theorem Bits_is (A : Option Addr) (n c N : Nat) (bs : List UInt8) (w : World) (B : Nat) (hr : Rd w B A n (bs.map bv)) (hB : B ≤ w.heap.size) (hn : n ≤ 4294967296) (hN : 8 * n = N) :
    Calls Try.prog 17 #[.slice A n c] w fun e w' => ∃ A c, e = .returned (.slice A N c) ∧ Fresh w w' ∧ Own w' w.heap.size 3 A N c (nv (lb N (num bs))) := by
  subst hN
  exact Bits_any A n c bs w B hr hB hn

/-- the round's variable, at block b: as it was in w1 -/
structure Var (b : Nat) (w1 wx : World) (bl : List Nat) : Prop where
  same : wx.heap[b]? = w1.heap[b]?
  off : b ∉ bl
  inb : b < wx.heap.size
theorem Var.fresh {b : Nat} {w1 wx wy : World} {bl : List Nat} (h : Var b w1 wx bl) (k : Fresh wx wy) : Var b w1 wy bl := ⟨(k.block b h.inb).trans h.same, h.off, Nat.lt_of_lt_of_le h.inb k.size⟩
theorem Var.turn {b : Nat} {w1 wx wy : World} {bl bl' : List Nat} (h : Var b w1 wx bl) (k : bitp.Turn bl bl' wx wy) : Var b w1 wy bl' := ⟨(k.block b h.inb h.off).trans h.same, k.apart h.inb h.off, Nat.lt_of_lt_of_le h.inb k.size⟩
theorem Var.grown {b : Nat} {w1 wx wy : World} {bl : List Nat} {row : Option Nat} (h : Var b w1 wx bl) (k : wx.grownBy wy row) (hr : row ≠ some b) : Var b w1 wy bl := ⟨(k.block b h.inb fun e => hr e.symm).trans h.same, h.off, Nat.lt_of_lt_of_le h.inb k.size⟩
theorem Var.cell {b j : Nat} {v : Value} {w1 wx : World} {bl : List Nat} (h : Var b w1 wx bl) (hc : w1.cell? ⟨b, j, none⟩ = some v) : wx.cell? ⟨b, j, none⟩ = some v := (World.cell?_of_block h.same).trans hc

theorem peek_is (g : Nat) (bs : List UInt8) (p : Nat) (bl : List Nat) (n : Int) (k R : Nat) (w : World) (h : RdrAt w g bs p bl) (hn : bs.length ≤ 1099511627776) (hk : held n = k) (hfit : p + k ≤ 8 * bs.length) (hR : num bs / 2 ^ p % 2 ^ k = R) :
    Calls Try.prog 20 #[ptr g, .int .i64 n] w fun e w' => e = .returned (.tuple #[.int .i64 R, .bool true]) ∧ Fresh w w' := by
  subst hk; subst hR
  exact peek_ok g bs p bl n w h hn hfit
theorem align_is (g : Nat) (bs : List UInt8) (p K : Nat) (bl : List Nat) (w : World) (h : RdrAt w g bs p bl) (hp : p ≤ 8 * bs.length) (hn : bs.length ≤ 1099511627776) (hK : (8 - p % 8) % 8 = K) :
    Calls Try.prog 23 #[ptr g] w fun e w' => e = .returned (.int .i64 K) ∧ RdrIs w g bs (p + K) bl w' := by
  subst hK
  exact align_any g bs p bl w h hp hn
theorem cut_rd {w : World} {B M p k c : Nat} {A A' : Option Addr} {u : Nat} (h : Rd w B A M (nv (lb M u))) (hfit : p + k ≤ M) (hc : M ≤ c) (hA : A' = if c = p then A else A.map (·.add p)) : Rd w B A' k (nv (lb k (u / 2 ^ p))) := by
  subst hA
  have := h.cut (lo := p) (hi := p + k) (cap := c) (by omega) hfit hc
  rw [show p + k - p = k by omega, nv, ← List.map_drop, ← List.map_take, lb_cut hfit] at this
  exact this

set_option maxHeartbeats 8000000 in
set_option maxRecDepth 100000 in
theorem bitsReads_walk (A0 : Option Addr) (n0 c0 : Nat) (x0 : List Row) (A1 : Option Addr) (n1 c1 : Nat) (l1 : List BAct) (w : World) (b0 : InRows w A0 n0 c0 x0) (b1 : InBActs w A1 n1 c1 l1) :
    Calls Try.prog 4 #[.slice A0 n0 c0, .slice A1 n1 c1] w fun e w' => e = .returned (.bool true) ∧ Below w.heap.size w w' := by
  obtain ⟨i0, hi0, hz0, hz1, hz2⟩ := info_parts info_int
  obtain ⟨hrows, hn0, hm0, hrc⟩ := b0
  have hm1 := b1.1.2.2.1
  have hn1 := b1.1.2.1
  unfold maxLen at hm0 hm1
  have HRC := Lib.hid hrc
  clear hrc
  by_cases hbig : 20 < n0
  · go_enter Try.func4, Try.ntmps4
    go_wp2_with (go_at_call 16; refine (wakes_any _).mono ?_; rintro e wA ⟨rfl, hfA⟩)
    go_ret
    exact ⟨rfl, hfA⟩
  by_cases hbig1 : 100 < n1
  · go_enter Try.func4, Try.ntmps4
    go_wp2_with (go_at_call 16; refine (wakes_any _).mono ?_; rintro e wA ⟨rfl, hfA⟩)
    go_ret
    exact ⟨rfl, hfA⟩
  have hl0 : x0.length = n0 := by have := hrows.1.1; rwa [List.length_map] at this
  have HL0 := Lib.hid hl0
  clear hl0
  go_enter Try.func4, Try.ntmps4
  go_wp2_with (first
    | (go_at_call 16; refine (wakes_any _).mono ?_; rintro e wA ⟨rfl, hfA⟩))
  go_loopw [5, 28] (fun s i wr => ∃ (j M c : Nat) (A : Option Addr) (bs : List UInt8), j ≤ n0 ∧ i = .int .i64 j ∧ s = .slice A M c ∧ Hid (M = 8 * bs.length) ∧ Hid (bs = flat (x0.take j)) ∧ Hid (∀ r ∈ x0.take j, r.len ≤ 200) ∧ M ≤ 1600 * j ∧ Fresh wA wr ∧ Own wr wA.heap.size 3 A M c (nv (lb M (num bs)))) (fun _ i _ => n0 - (intOf i).toNat)
  case atStart => exact ⟨0, 0, 0, none, [], by omega, rfl, rfl, rfl, rfl, by simp [Hid], by omega, Fresh.refl _, Own.nil _ _ _⟩
  case round =>
    obtain ⟨j, M, c, A, bs, hj, rfl, rfl, hM, hbs, hall, hMb, hfr, hown⟩ := hrel
    by_cases hlt : j < n0
    · have hw := hrows.fresh (Nat.le_refl _) (hfA.trans hfr)
      obtain ⟨b, off, x, rfl, hb, hx, hcx⟩ := hw.1.at_ hlt
      have hr := hw.2 x (List.mem_of_getElem? hx)
      have hrc := HRC.out x (List.mem_of_getElem? hx)
      have HX := Lib.hid hx
      have HH := Lib.hid hrows
      clear hx hw hrows
      obtain ⟨xa, xl, xc, xb⟩ := x
      simp only [Row.val] at hcx
      simp only at hr hrc
      have hxl : xb.length = xl := by have := hr.1; rwa [List.length_map] at this
      have HXL := Lib.hid hxl
      clear hxl
      have hcm := hrc.2
      unfold maxLen at hcm
      by_cases hxb : 200 < xl
      · go_wp2
        go_ret
        exact ⟨rfl, hfA.trans hfr⟩
      · obtain ⟨m, hm⟩ : ∃ m, 8 * xl = m := ⟨_, rfl⟩
        have hm16 : m ≤ 1600 := by omega
        have HM8 := Lib.hid hm
        have hwsz := (hfA.trans hfr).size
        clear hm
        go_wp2_with (first
          | (go_at_call 17; (with_reducible refine (Bits_is xa xl xc m xb wr w.heap.size hr hwsz (by omega) HM8.out).mono ?_); rintro e w3 ⟨A3, c3, rfl, hf3, ho3⟩)
          | (at_builtin; go_loud (refine wpList_append_rd _ rfl (.tmp 37) (.tmp 42) 40 rfl wA.heap.size 3 i0 _ 8 Try.underlying40 hi0 hz0 hz1 hz2 rfl A M c _ rfl (Own.fresh hown hf3) w3.heap.size A3 m c3 _ rfl ho3.rd (nv_one _) (by unfold maxLen; omega) (by omega) (hfr.trans hf3).size ?_); intro A4 c4 w4 ho4 hg4))
        have hfr4 : Fresh wA w4 := (hfr.trans hf3).append (Own.fresh hown hf3) (Nat.le_refl _) hg4
        rw [nv_bytes hM.out (by rw [HXL.out, HM8.out])] at ho4
        clear hg4
        go_roundw
        case rel =>
          refine ⟨j + 1, M + m, c4, A4, bs ++ xb, by omega, by go_num, rfl, ?_, ?_, ?_, by omega, hfr4, ho4⟩
          · show _ = _; rw [List.length_append, Nat.mul_add, HXL.out, HM8.out, hM.out]
          · show _ = _; rw [flat_snoc _ _ _ HX.out, hbs.out]
          · show ∀ r ∈ x0.take (j + 1), r.len ≤ 200
            rw [take_snoc _ _ _ HX.out]
            intro r hr
            rcases List.mem_append.1 hr with h | h
            · exact hall.out r h
            · rw [List.mem_singleton] at h; subst h; show xl ≤ 200; omega
        case measure => simp [intOf]; omega
    · have h0 : j = n0 := by omega
      subst h0
      have htake : x0.take j = x0 := List.take_of_length_le (Nat.le_of_eq HL0.out)
      rw [htake] at hbs hall
      have hwsz := (hfA.trans hfr).size
      have hrows2 := hrows.fresh (Nat.le_refl _) (hfA.trans hfr)
      have HR2 := Lib.hid hrows2
      clear hrows hrows2 htake
      go_wp2_with (go_at_call 18; refine (read_any A0 j c0 x0 wr w.heap.size HR2.out hwsz (by omega) (fun r hr => by have := hall.out r hr; omega)).mono ?_; rintro e w5 ⟨g, bl, rfl, hR5, hS5⟩)
      rw [← hbs.out] at hR5
      have hbl5 : bs.length ≤ 200 * j := by have := hM.out; omega
      have hst5 : RSt wA w5 g bs M 0 bl A c := ⟨hR5, Nat.zero_le _, hM.out, Own.fresh hown hS5.1, hfr.trans hS5.1, fun i hi => Nat.le_trans hfr.size (hS5.2 i hi)⟩
      go_loopw [5, 8, 49] (fun s p i wr' => ∃ (t M p' c : Nat) (A : Option Addr) (bs : List UInt8) (bl : List Nat), t ≤ n1 ∧ i = .int .i64 t ∧ s = .slice A M c ∧ p = .int .i64 p' ∧ M ≤ 32000 + 1600 * t ∧ p' ≤ M ∧ RSt wA wr' g bs M p' bl A c) (fun _ _ i _ => n1 - (intOf i).toNat)
      case atStart => exact ⟨0, M, 0, c, A, bs, bl, by omega, rfl, rfl, rfl, by omega, by omega, hst5⟩
      case round =>
        obtain ⟨t, M, p, c, A, bs, bl, ht, rfl, rfl, rfl, hMb, hpM, hSt⟩ := hrel
        by_cases hlt2 : t < n1
        · obtain ⟨b, off, vs, rfl, hvs, hrange⟩ := (b1.keep (hfA.trans hSt.since.1)).at_ hlt2
          obtain ⟨a, ha, hvs2⟩ : ∃ a, l1[t]? = some a ∧ vs = a.cells := by
            rw [List.getElem?_map] at hvs
            cases h : l1[t]? with
            | none => rw [h] at hvs; cases hvs
            | some a => rw [h] at hvs; exact ⟨a, rfl, by injection hvs with hvs; exact hvs.symm⟩
          subst hvs2
          obtain ⟨hw0, hw1, hw2, hwb⟩ := b1.2 a (List.mem_of_getElem? ha)
          obtain ⟨kd, n, v, sA, sl, sc, sb⟩ := a
          simp only at hw0 hw1 hw2 hwb
          simp only [BAct.cells] at hrange
          have HR := Lib.hid hrange
          have hoff : wr.heap.size ∉ bl := fun h => by have := hSt.rd.inside _ h; omega
          have hSt1 := hSt.fresh (Fresh.alloc wr (.cells #[.int .i64 kd, .int .i64 n, .int .i64 v, .slice sA sl sc] tAct))
          have hb1 := Bk.made wr tAct #[.int .i64 kd, .int .i64 n, .int .i64 v, .slice sA sl sc]
          have hk2 := hb1.inside
          have hwbr : Rd wr w.heap.size sA sl (sb.map bv) := hwb.1.below (hfA.trans hSt.since.1) (Nat.le_refl _)
          have hle := held_le n
          have hhn : ∀ w, Calls Try.prog 19 #[.int .i64 n] w fun e w' => e = .returned (.int .i64 (held n)) ∧ w = w' := fun w => Held_any n w
          obtain ⟨k, hk⟩ : ∃ k, held n = k := ⟨_, rfl⟩
          have HK := Lib.hid hk
          rw [hk] at hle hhn
          obtain ⟨w1, hw1e⟩ : ∃ w1, wr.alloc (.cells #[.int .i64 kd, .int .i64 n, .int .i64 v, .slice sA sl sc] tAct) = w1 := ⟨_, rfl⟩
          have HH := Lib.hid hhn
          rw [hw1e] at hSt1 hb1 hk2
          have hf1 : Fresh wr w1 := by rw [← hw1e]; exact Fresh.alloc _ _
          have hcc0 : w1.cell? ⟨wr.heap.size, 0, none⟩ = some (.int .i64 kd) := hb1.cell rfl
          have hcc1 : w1.cell? ⟨wr.heap.size, 1, none⟩ = some (.int .i64 n) := hb1.cell rfl
          have hcc3 : w1.cell? ⟨wr.heap.size, 3, none⟩ = some (.slice sA sl sc) := hb1.cell rfl
          clear hvs ha hrange hhn hk hb1
          go_upto_block 4 with (first
            | ((with_reducible (refine at_slot_ 52 ?_)); refine wpList_load_mid rfl tAct (.tmp 51) rfl b (off + t * 4) rfl _ _ HR.out Try.underlying45 rfl actInfo ?_)
            | (go_at_call 19; refine (HH.out _).mono ?_; rintro e w' ⟨rfl, rfl⟩))
          go_cut [5, 8] (fun s p' wx => ∃ (M' q c' : Nat) (A' : Option Addr) (bs' : List UInt8) (bl' : List Nat), s = .slice A' M' c' ∧ p' = .int .i64 q ∧ M' ≤ M + 1600 ∧ q ≤ M' ∧ RSt wA wx g bs' M' q bl' A' c' ∧ wx.cell? ⟨wr.heap.size, 1, none⟩ = some (.int .i64 n))
          case first =>
            have hV1 : Var wr.heap.size w1 w1 bl := ⟨rfl, hoff, hk2⟩
            have hlen8 := hSt1.len
            have hp8 := hSt1.pos
            have hlen : bs.length ≤ 1099511627776 := by omega
            have hcM : M ≤ c := hSt1.all.cap.1
            have hcmx : c ≤ 9223372036854775807 := by have := hSt1.all.cap.2; unfold maxLen at this; omega
            have HC0 := Lib.hid hcc0
            have HC1 := Lib.hid hcc1
            have HL8 := Lib.hid hlen8
            rcases (show kd = 0 ∨ kd = 1 ∨ kd = 2 ∨ kd = 3 ∨ kd = 4 ∨ (¬ kd = 0 ∧ ¬ kd = 1 ∧ ¬ kd = 2 ∧ ¬ kd = 3 ∧ ¬ kd = 4) by omega) with rfl | rfl | rfl | rfl | rfl | ⟨e0, e1, e2, e3, e4⟩
            · by_cases hfit : p + k ≤ M
              · have hfit8 : p + k ≤ 8 * bs.length := by omega
                obtain ⟨R, hRR⟩ : ∃ R, num bs / 2 ^ p % 2 ^ k = R := ⟨_, rfl⟩
                have HRR := Lib.hid hRR
                clear hRR hlen8
                by_cases hcp : c = p
                · have hcp := hcp.symm
                  subst hcp
                  go_wp2_with (first
                    | (go_at_call 20; (with_reducible refine (peek_is g bs p bl n k R w1 hSt1.rd hlen HK.out hfit8 HRR.out).mono ?_); rintro e w2 ⟨rfl, hf2⟩; have hSt2 := hSt1.fresh hf2; have hV2 := hV1.fresh hf2; have hcc0 := hV2.cell hcc0; have hcc1 := hV2.cell hcc1; have hno := hSt2.all.rd)
                    | (go_at_call 21; (with_reducible refine (bits_ok g bs p bl n k R w2 hSt2.rd hlen HK.out hfit8 HRR.out).mono ?_); rintro e w3 ⟨rfl, bl3, hR3, hT3⟩; have hSt3 := hSt2.went hR3 hT3 hfit8; have hV3 := hV2.turn hT3; have hcc0 := hV3.cell HC0.out; have hcc1 := hV3.cell HC1.out; have hno := hSt3.all.rd)
                    | (go_at_call 22; refine (number_is _ k _ (num bs / 2 ^ p) R w3 _ (cut_rd hno hfit hcM (by rw [if_pos rfl])) hle HRR.out).mono ?_; rintro e w4 ⟨rfl, rfl⟩))
                  go_meet
                  exact ⟨M, p + k, _, A, bs, bl3, rfl, by go_num, by omega, by omega, hSt3, hV3.cell HC1.out⟩
                · skip
                  go_wp2_with (first
                    | (go_at_call 20; (with_reducible refine (peek_is g bs p bl n k R w1 hSt1.rd hlen HK.out hfit8 HRR.out).mono ?_); rintro e w2 ⟨rfl, hf2⟩; have hSt2 := hSt1.fresh hf2; have hV2 := hV1.fresh hf2; have hcc0 := hV2.cell hcc0; have hcc1 := hV2.cell hcc1; have hno := hSt2.all.rd)
                    | (go_at_call 21; (with_reducible refine (bits_ok g bs p bl n k R w2 hSt2.rd hlen HK.out hfit8 HRR.out).mono ?_); rintro e w3 ⟨rfl, bl3, hR3, hT3⟩; have hSt3 := hSt2.went hR3 hT3 hfit8; have hV3 := hV2.turn hT3; have hcc0 := hV3.cell HC0.out; have hcc1 := hV3.cell HC1.out; have hno := hSt3.all.rd)
                    | (go_at_call 22; refine (number_is _ k _ (num bs / 2 ^ p) R w3 _ (cut_rd hno hfit hcM (by rw [if_neg hcp])) hle HRR.out).mono ?_; rintro e w4 ⟨rfl, rfl⟩))
                  go_meet
                  exact ⟨M, p + k, _, A, bs, bl3, rfl, by go_num, by omega, by omega, hSt3, hV3.cell HC1.out⟩
              · have hno8 : 8 * bs.length < p + held n := by rw [HK.out]; omega
                clear hlen8
                go_wp2_with (first
                  | (go_at_call 20; (with_reducible refine (peek_no g bs p bl n w1 hSt1.rd hp8 hlen hno8).mono ?_); rintro e w2 ⟨rfl, hf2⟩; have hSt2 := hSt1.fresh hf2; have hV2 := hV1.fresh hf2; have hcc0 := hV2.cell hcc0; have hcc1 := hV2.cell hcc1)
                  | (go_at_call 21; (with_reducible refine (bits_no g bs p bl n w2 hSt2.rd hp8 hlen hno8).mono ?_); rintro e w3 ⟨rfl, bl3, hR3, hT3⟩; have hSt3 := hSt2.went hR3 hT3 hp8; have hV3 := hV2.turn hT3; have hcc0 := hV3.cell HC0.out; have hcc1 := hV3.cell HC1.out))
                go_meet
                exact ⟨M, p, c, A, bs, bl3, rfl, rfl, by omega, by omega, hSt3, hV3.cell HC1.out⟩
            · by_cases hfit : p + k ≤ M
              · have hfit8 : p + k ≤ 8 * bs.length := by omega
                obtain ⟨R, hRR⟩ : ∃ R, num bs / 2 ^ p % 2 ^ k = R := ⟨_, rfl⟩
                have HRR := Lib.hid hRR
                clear hRR hlen8
                by_cases hcp : c = p
                · have hcp := hcp.symm
                  subst hcp
                  go_wp2_with (first
                    | (go_at_call 20; (with_reducible refine (peek_is g bs p bl n k R w1 hSt1.rd hlen HK.out hfit8 HRR.out).mono ?_); rintro e w2 ⟨rfl, hf2⟩; have hSt2 := hSt1.fresh hf2; have hV2 := hV1.fresh hf2; have hcc0 := hV2.cell hcc0; have hcc1 := hV2.cell hcc1; have hno := hSt2.all.rd)
                    | (go_at_call 22; refine (number_is _ k _ (num bs / 2 ^ p) R w2 _ (cut_rd hno hfit hcM (by rw [if_pos rfl])) hle HRR.out).mono ?_; rintro e w4 ⟨rfl, rfl⟩))
                  go_meet
                  exact ⟨M, p, _, A, bs, bl, rfl, rfl, by omega, by omega, hSt2, hV2.cell HC1.out⟩
                · skip
                  go_wp2_with (first
                    | (go_at_call 20; (with_reducible refine (peek_is g bs p bl n k R w1 hSt1.rd hlen HK.out hfit8 HRR.out).mono ?_); rintro e w2 ⟨rfl, hf2⟩; have hSt2 := hSt1.fresh hf2; have hV2 := hV1.fresh hf2; have hcc0 := hV2.cell hcc0; have hcc1 := hV2.cell hcc1; have hno := hSt2.all.rd)
                    | (go_at_call 22; refine (number_is _ k _ (num bs / 2 ^ p) R w2 _ (cut_rd hno hfit hcM (by rw [if_neg hcp])) hle HRR.out).mono ?_; rintro e w4 ⟨rfl, rfl⟩))
                  go_meet
                  exact ⟨M, p, _, A, bs, bl, rfl, rfl, by omega, by omega, hSt2, hV2.cell HC1.out⟩
              · have hno8 : 8 * bs.length < p + held n := by rw [HK.out]; omega
                clear hlen8
                go_wp2_with (first
                  | (go_at_call 20; (with_reducible refine (peek_no g bs p bl n w1 hSt1.rd hp8 hlen hno8).mono ?_); rintro e w2 ⟨rfl, hf2⟩; have hSt2 := hSt1.fresh hf2; have hV2 := hV1.fresh hf2; have hcc0 := hV2.cell hcc0; have hcc1 := hV2.cell hcc1))
                go_meet
                exact ⟨M, p, c, A, bs, bl, rfl, rfl, by omega, by omega, hSt2, hV2.cell HC1.out⟩
            · obtain ⟨K, hK⟩ : ∃ K, (8 - p % 8) % 8 = K := ⟨_, rfl⟩
              have hpK : p + K ≤ 8 * bs.length := by omega
              have hKi : (8 - (p : Int) % 8) % 8 = (K : Int) := by omega
              have HKK := Lib.hid hK
              have hpKM : p + K ≤ M := by omega
              clear hK hlen8
              go_wp2_with (go_at_call 23; (with_reducible refine (align_is g bs p K bl w1 hSt1.rd hp8 hlen HKK.out).mono ?_); rintro e w2 ⟨rfl, bl2, hR2, hT2⟩; have hSt2 := hSt1.went hR2 hT2 hpK; have hV2 := hV1.turn hT2)
              go_meet
              exact ⟨M, p + K, c, A, bs, bl2, rfl, by go_num, by omega, by omega, hSt2, hV2.cell HC1.out⟩
            · by_cases hin : 0 ≤ n ∧ n ≤ (p : Int)
              · obtain ⟨q, rfl⟩ := Int.eq_ofNat_of_zero_le hin.1
                have hqp : q ≤ p := by omega
                have hq8 : q ≤ 8 * bs.length := by omega
                clear hin hlen8
                go_wp2_with (go_at_call 24; (with_reducible refine (back_ok g bs p q bl w1 hSt1.rd hp8 hlen hqp).mono ?_); rintro e w2 ⟨rfl, bl2, hR2, hT2⟩; have hSt2 := hSt1.went hR2 hT2 hq8; have hV2 := hV1.turn hT2; have hcc1 := hV2.cell HC1.out)
                go_meet
                exact ⟨M, q, c, A, bs, bl2, rfl, rfl, by omega, by omega, hSt2, hV2.cell HC1.out⟩
              · have hout : n < 0 ∨ (p : Int) < n := by omega
                clear hlen8 hin
                by_cases hneg : n < 0
                all_goals
                  go_wp2_with (go_at_call 24; (with_reducible refine (back_no g bs p n bl w1 hSt1.rd hout).mono ?_); rintro e w2 ⟨rfl, bl2, hR2, hT2⟩; have hSt2 := hSt1.went hR2 hT2 hp8; have hV2 := hV1.turn hT2; have hcc1 := hV2.cell HC1.out)
                  go_meet
                  exact ⟨M, p, c, A, bs, bl2, rfl, rfl, by omega, by omega, hSt2, hV2.cell HC1.out⟩
            · have hsb : sb.length = sl := by have := hwbr.1; rwa [List.length_map] at this
              have hscb := hwb.2
              have HSB := Lib.hid hsb
              have hscm : sc ≤ 9223372036854775807 := by have := hscb.2; unfold maxLen at this; omega
              have hscl := hscb.1
              clear hsb hlen8 hscb
              by_cases hsl : 200 < sl
              · go_wp2
                go_ret
                exact ⟨rfl, hfA.trans hSt1.since.1⟩
              · obtain ⟨m, hm⟩ : ∃ m, 8 * sl = m := ⟨_, rfl⟩
                have hm16 : m ≤ 1600 := by omega
                have HM8 := Lib.hid hm
                have hsl2 : sl ≤ 200 := by omega
                have hwsz := (hfA.trans hSt.since.1).size
                have hM192 : M ≤ 192000 := by omega
                have HW := Lib.hid (hwbr.below hf1 hwsz)
                clear hm
                go_wp2_with (first
                  | (go_at_call 25; (with_reducible refine (add_any g bs sb p bl sA sl sc w1 w.heap.size hSt1.rd hlen HW.out (by omega)).mono ?_); rintro e w2 ⟨rfl, bl2, hR2, hT2⟩; have hH2 := hSt1.half hR2 hT2; have hV2 := hV1.turn hT2; have hcc3 := hV2.cell hcc3; have hrd2 := (hwb.1.below (hfA.trans (hH2.since.1)) (Nat.le_refl _)); have hsz2 := (hfA.trans hH2.since.1).size)
                  | (go_at_call 17; (with_reducible refine (Bits_is sA sl sc m sb w2 w.heap.size hrd2 hsz2 (by omega) HM8.out).mono ?_); rintro e w3 ⟨A3, c3, rfl, hf3, ho3⟩; have hH3 := hH2.fresh hf3; have hV3 := hV2.fresh hf3)
                  | (at_builtin; go_loud (refine wpList_append_rd _ rfl (.tmp 158) (.tmp 161) 40 rfl wA.heap.size 3 i0 _ 8 Try.underlying40 hi0 hz0 hz1 hz2 rfl A M c _ rfl hH3.all w3.heap.size A3 m c3 _ rfl ho3.rd (nv_one _) (by unfold maxLen; omega) (by omega) hH3.since.1.size ?_); intro A4 c4 w4 ho4 hg4))
                have hM2 : M + m = 8 * (bs ++ sb).length := by rw [List.length_append, Nat.mul_add, HSB.out, HM8.out, ← HL8.out]
                rw [nv_bytes HL8.out (by rw [HSB.out, HM8.out])] at ho4
                have hSt4 := hH3.done hM2 ho4 hg4
                have hV4 := hV3.grown hg4 (fun e => by have := (World.ownsRow.lt hSt.all _ e).2; omega)
                clear hg4 ho4 hM2
                go_meet
                exact ⟨M + m, p, c4, A4, bs ++ sb, bl2, rfl, rfl, by omega, by omega, hSt4, hV4.cell HC1.out⟩
            · clear hlen8
              go_wp2
              go_meet
              exact ⟨M, p, c, A, bs, bl, rfl, rfl, by omega, by omega, hSt1, HC1.out⟩
          case rest =>
            obtain ⟨M', q, c', A', bs', bl', rfl, rfl, hMM, hqM, hStc, hcc⟩ := hcut
            have hlen8 := hStc.len
            have hp8 := hStc.pos
            have hlen : bs'.length ≤ 1099511627776 := by omega
            obtain ⟨P, hP⟩ : ∃ P, 8 * bs'.length - q = P := ⟨_, rfl⟩
            have hPi : (M' : Int) - (q : Int) = (P : Int) := by omega
            have HP := Lib.hid hP
            clear hP hlen8
            by_cases hnP : n ≤ (P : Int)
            all_goals
              go_wp2
              go_quiet (first
                | (go_at_call 26; exact Calls.quiet_of (left_q g bs' q P bl' _ (hStc.rd.fresh (Fresh.drewN _ _)) hp8 hlen HP.out))
                | (go_at_call 27; exact Calls.quiet_of_same ((mark_any g bs' q bl' _ (hStc.rd.fresh (Fresh.drewN _ _))).mono fun _ _ ⟨h1, h2⟩ => ⟨h1, h2.symm⟩))
                | (go_at_call 28; exact Calls.quiet_of (has_q g bs' q P bl' n _ _ (hStc.rd.fresh (Fresh.drewN _ _)) hp8 hlen HP.out rfl)))
              go_wp2
              go_roundw
              case rel => exact ⟨t + 1, M', q, c', A', bs', bl', by omega, by go_num, rfl, rfl, by omega, hqM, hStc.fresh (Fresh.drewN _ _)⟩
              case measure => simp [intOf]; omega
        · go_wp2
          go_ret
          exact ⟨rfl, hfA.trans hSt.since.1⟩
end Go.Proofs.Ytelghdfikcodmaa.bitsReads
