/-
  The walk of the law RecordGets. My own text.
-/
import Derived.Test.YtlnhafibcbhegaaRecLaw
import Derived.Test.YtlnhafibcbhegaaOpen
namespace Go.Proofs.Ytlnhafibcbhegaa.recordGets
open Go.RowKit Go.Proofs.Ytlnhafibcbhegaa.base Go.Proofs.Ytlnhafibcbhegaa.num Go.Proofs.Ytlnhafibcbhegaa.word Go.Proofs.Ytlnhafibcbhegaa.recn Go.Proofs.Ytlnhafibcbhegaa.recp
set_option linter.unusedVariables false
theorem row_one (o : Out) (A : Option Addr) (c : Nat) : (#[iv o.a0, iv o.a1, iv o.a2, .int .u32 o.a3, iv o.a4, iv o.a5, iv o.a6, .slice A o.nm.length c, .bool o.b] : Array Value).all (·.oneCell') = true := all_one _ (by
  intro v hv
  simp only [List.mem_cons, List.not_mem_nil, or_false] at hv
  rcases hv with rfl | rfl | rfl | rfl | rfl | rfl | rfl | rfl | rfl <;> rfl)
theorem local_row (A : Option Addr) (n c : Nat) (xs : List UInt8) (p : Int) (w : World) (B : Nat) (hr : Rd w B A n (xs.map bv)) (hB : B ≤ w.heap.size) (hc : n ≤ c) (hm : c ≤ maxLen) (hn : n ≤ 1099511627776) (hp1 : -9223372036854775808 ≤ p) (hp2 : p ≤ 9223372036854775807) (o : Out) (ho : outOf (loc xs p) = o) :
    Calls Try.prog 6 #[.slice A n c, .int .i64 p] w fun e w' => Fresh w w' ∧ ∃ A3 c3, e = .returned (.tuple #[.agg #[iv o.a0, iv o.a1, iv o.a2, .int .u32 o.a3, iv o.a4, iv o.a5, iv o.a6, .slice A3 o.nm.length c3, .bool o.b], iv o.en, iv o.er]) ∧ RdA w' (List.range w.heap.size) A3 o.nm.length (o.nm.map bv) ∧ o.nm.length ≤ maxLen := by
  subst ho
  exact (getLocal_any A n c xs p w B hr hB hc hm hn hp1 hp2).mono fun e w' h => h.row
theorem central_row (A : Option Addr) (n c : Nat) (xs : List UInt8) (p : Int) (w : World) (B : Nat) (hr : Rd w B A n (xs.map bv)) (hB : B ≤ w.heap.size) (hc : n ≤ c) (hm : c ≤ maxLen) (hn : n ≤ 1099511627776) (hp1 : -9223372036854775808 ≤ p) (hp2 : p ≤ 9223372036854775807) (o : Out) (ho : outOf (cen xs p) = o) :
    Calls Try.prog 9 #[.slice A n c, .int .i64 p] w fun e w' => Fresh w w' ∧ ∃ A3 c3, e = .returned (.tuple #[.agg #[iv o.a0, iv o.a1, iv o.a2, .int .u32 o.a3, iv o.a4, iv o.a5, iv o.a6, .slice A3 o.nm.length c3, .bool o.b], iv o.en, iv o.er]) ∧ RdA w' (List.range w.heap.size) A3 o.nm.length (o.nm.map bv) ∧ o.nm.length ≤ maxLen := by
  subst ho
  exact (getCentral_any A n c xs p w B hr hB hc hm hn hp1 hp2).mono fun e w' h => h.row
theorem rlocal_row (A : Option Addr) (n c : Nat) (xs : List UInt8) (p : Int) (w : World) (B : Nat) (hr : Rd w B A n (xs.map bv)) (hB : B ≤ w.heap.size) (hc : n ≤ c) (hm : c ≤ maxLen) (hn : n ≤ 1099511627776) (hp1 : -9223372036854775808 ≤ p) (hp2 : p ≤ 9223372036854775807) (o : Out) (ho : outOf (loc xs p) = o) :
    Calls Try.prog 7 #[.slice A n c, .int .i64 p] w fun e w' => Fresh w w' ∧ ∃ A3 c3, e = .returned (.agg #[iv o.a0, iv o.a1, iv o.a2, .int .u32 o.a3, iv o.a4, iv o.a5, iv o.a6, .slice A3 o.nm.length c3, .bool o.b, iv o.en, iv o.er]) ∧ Rd w' w'.heap.size A3 o.nm.length (o.nm.map bv) := by
  subst ho
  exact (refLocal_any A n c xs p w B hr hB hc hm hn hp1 hp2).mono fun e w' h => h.row
theorem rcentral_row (A : Option Addr) (n c : Nat) (xs : List UInt8) (p : Int) (w : World) (B : Nat) (hr : Rd w B A n (xs.map bv)) (hB : B ≤ w.heap.size) (hc : n ≤ c) (hm : c ≤ maxLen) (hn : n ≤ 1099511627776) (hp1 : -9223372036854775808 ≤ p) (hp2 : p ≤ 9223372036854775807) (o : Out) (ho : outOf (cen xs p) = o) :
    Calls Try.prog 10 #[.slice A n c, .int .i64 p] w fun e w' => Fresh w w' ∧ ∃ A3 c3, e = .returned (.agg #[iv o.a0, iv o.a1, iv o.a2, .int .u32 o.a3, iv o.a4, iv o.a5, iv o.a6, .slice A3 o.nm.length c3, .bool o.b, iv o.en, iv o.er]) ∧ Rd w' w'.heap.size A3 o.nm.length (o.nm.map bv) := by
  subst ho
  exact (refCentral_any A n c xs p w B hr hB hc hm hn hp1 hp2).mono fun e w' h => h.row
theorem same_row (o : Out) (A A' : Option Addr) (c c' : Nat) (w : World) (B B' : Nat) (ha : Rd w B A o.nm.length (o.nm.map bv)) (hB : B ≤ w.heap.size) (hd : Rd w B' A' o.nm.length (o.nm.map bv)) (hB' : B' ≤ w.heap.size) (hn : o.nm.length ≤ maxLen) :
    Calls Try.prog 8 #[.agg #[iv o.a0, iv o.a1, iv o.a2, .int .u32 o.a3, iv o.a4, iv o.a5, iv o.a6, .slice A o.nm.length c, .bool o.b], .agg #[iv o.a0, iv o.a1, iv o.a2, .int .u32 o.a3, iv o.a4, iv o.a5, iv o.a6, .slice A' o.nm.length c', .bool o.b]] w fun e w' => e = .returned (.bool true) ∧ Fresh w w' := sameHead o A A' c c' w B B' ha hB hd hB' hn
set_option maxRecDepth 100000 in
set_option maxHeartbeats 8000000 in
theorem recordGets_walk (A0 : Option Addr) (n0 c0 : Nat) (x0 : List UInt8) (a1 : Int) (w : World) (b0 : InBytes w A0 n0 c0 x0) (w1 : (Lit.int .i64 a1).wf = true) :
    Calls Try.prog 3 #[.slice A0 n0 c0, .int .i64 a1] w fun e w' => e = .returned (.bool true) ∧ Below w.heap.size w w' := by
  obtain ⟨hr0, hc0, hm0⟩ := b0
  obtain ⟨hp1, hp2⟩ := i64_bd w1
  obtain ⟨i0, hi0, hz0, hz1, hz2⟩ := info_parts byte_info
  have HM0 : RowKit.Hid (c0 ≤ maxLen) := hm0
  unfold maxLen at hm0
  by_cases hbig : 2000 < n0
  · go_enter Try.func3, Try.ntmps3
    go_wp2_with (go_at_call 5; ((with_reducible refine (wakes_any _).mono ?_); rintro e w2 ⟨rfl, hf2⟩))
    go_ret
    exact ⟨rfl, hf2⟩
  · obtain ⟨o1, ho1⟩ : ∃ o, outOf (loc x0 a1) = o := ⟨_, rfl⟩
    obtain ⟨o2, ho2⟩ : ∃ o, outOf (cen x0 a1) = o := ⟨_, rfl⟩
    have HO1 := Lib.hid ho1
    have HO2 := Lib.hid ho2
    have HR0 := Lib.hid hr0
    have hn9 : n0 ≤ 1099511627776 := by omega
    clear ho1 ho2 hr0
    go_enter Try.func3, Try.ntmps3
    go_upto_region 8 with (first
      | (go_at_call 5; ((with_reducible refine (wakes_any _).mono ?_); rintro e w2 ⟨rfl, hf2⟩; have HF2 := Lib.hid hf2; clear hf2))
      | (at_builtin; refine wpList_append_rd _ rfl _ _ 22 rfl w2.heap.size 5 i0 _ 1 Try.underlying22 hi0 hz0 hz1 hz2 rfl (some ⟨w2.heap.size, 0, none⟩) 0 0 [] rfl (Own.made w2 5 #[] 0 rfl (Nat.zero_le _)) w.heap.size A0 n0 c0 (x0.map bv) rfl (HR0.out.keep fun i hi => (HF2.out.trans (Fresh.alloc w2 (.cells #[] 5))).block i hi) (bv_one x0) (by unfold maxLen; omega) (by omega) (by simp) ?_; intro A2 c2 w3 hown2 hg2; rw [Nat.zero_add, List.nil_append] at hown2; have hf3 := (HF2.out.trans (Fresh.alloc w2 (.cells #[] 5))).append (base := w2.heap.size) (Own.made w2 5 #[] 0 rfl (Nat.zero_le _)) HF2.out.size hg2; have hcp3 := hown2.cap; have HF3 := Lib.hid hf3; have HOWN := Lib.hid hown2; clear hf3 hown2 hg2)
      | (go_at_call 6; ((with_reducible refine (local_row A2 n0 c2 x0 a1 _ _ HOWN.out.rd (Nat.le_refl _) hcp3.1 hcp3.2 hn9 hp1 hp2 o1 HO1.out).mono ?_); rintro e w4 ⟨hf4, A3, c3, rfl, hr3, hl3⟩; have HL3 := Lib.hid hl3; have hsz4 := (HF3.out.trans hf4).size; have HF4 := Lib.hid ((HF3.out.trans hf4).trans (Fresh.alloc w4 (.cells #[iv o1.a0, iv o1.a1, iv o1.a2, .int .u32 o1.a3, iv o1.a4, iv o1.a5, iv o1.a6, .slice A3 o1.nm.length c3, .bool o1.b] tHead))); have HR3 := Lib.hid (hr3.rd.alloc (Nat.le_refl _) (.cells #[iv o1.a0, iv o1.a1, iv o1.a2, .int .u32 o1.a3, iv o1.a4, iv o1.a5, iv o1.a6, .slice A3 o1.nm.length c3, .bool o1.b] tHead)); have HX4 := Lib.hid (Bk.made w4 tHead #[iv o1.a0, iv o1.a1, iv o1.a2, .int .u32 o1.a3, iv o1.a4, iv o1.a5, iv o1.a6, .slice A3 o1.nm.length c3, .bool o1.b]); have HOWN4 := Lib.hid ((HOWN.out.fresh hf4).fresh (Fresh.alloc w4 (.cells #[iv o1.a0, iv o1.a1, iv o1.a2, .int .u32 o1.a3, iv o1.a4, iv o1.a5, iv o1.a6, .slice A3 o1.nm.length c3, .bool o1.b] tHead))); clear hf4 hr3 hl3))
      | (go_at_call 7; ((with_reducible refine (rlocal_row A0 n0 c0 x0 a1 _ w.heap.size (HR0.out.keep fun i hi => HF4.out.block i hi) HF4.out.size hc0 HM0.out hn9 hp1 hp2 o1 HO1.out).mono ?_); rintro e w5 ⟨hf5, A4, c4, rfl, hr4⟩; have hal := Fresh.alloc w5 (.cells #[iv o1.a0, iv o1.a1, iv o1.a2, .int .u32 o1.a3, iv o1.a4, iv o1.a5, iv o1.a6, .slice A4 o1.nm.length c4, .bool o1.b, iv o1.en, iv o1.er] tGot); have HF5 := Lib.hid ((HF4.out.trans hf5).trans hal); have HR4 := Lib.hid (hr4.alloc (Nat.le_refl _) (.cells #[iv o1.a0, iv o1.a1, iv o1.a2, .int .u32 o1.a3, iv o1.a4, iv o1.a5, iv o1.a6, .slice A4 o1.nm.length c4, .bool o1.b, iv o1.en, iv o1.er] tGot)); have HG5 := Lib.hid (Bk.made w5 tGot #[iv o1.a0, iv o1.a1, iv o1.a2, .int .u32 o1.a3, iv o1.a4, iv o1.a5, iv o1.a6, .slice A4 o1.nm.length c4, .bool o1.b, iv o1.en, iv o1.er]); have HX5 := Lib.hid ((HX4.out.fresh hf5).fresh hal); have HR3b := Lib.hid (HR3.out.below (hf5.trans hal) (by simp)); have HOWN5 := Lib.hid ((HOWN4.out.fresh hf5).fresh hal); clear hf5 hr4 hal)))
    have hx5 := HX5.out
    have hg5 := HG5.out
    have hsm := same_row o1 A3 A4 c3 c4 _ _ _ HR3b.out (by have := HX5.out.inside; simp at this ⊢; omega) HR4.out (by simp) HL3.out
    have HSM := Lib.hid hsm
    have hne : w4.heap.size ≠ w5.heap.size := HX5.out.ne HG5.out (by decide)
    have hgx : w.heap.size ≤ w4.heap.size := hsz4
    have xx0 := hx5.cell (i := 0) rfl
    have xx1 := hx5.cell (i := 1) rfl
    have xx2 := hx5.cell (i := 2) rfl
    have xx3 := hx5.cell (i := 3) rfl
    have xx4 := hx5.cell (i := 4) rfl
    have xx5 := hx5.cell (i := 5) rfl
    have xx6 := hx5.cell (i := 6) rfl
    have xx7 := hx5.cell (i := 7) rfl
    have xx8 := hx5.cell (i := 8) rfl
    have y0 := hg5.cell (i := 0) rfl
    have y1 := hg5.cell (i := 1) rfl
    have y2 := hg5.cell (i := 2) rfl
    have y3 := hg5.cell (i := 3) rfl
    have y4 := hg5.cell (i := 4) rfl
    have y5 := hg5.cell (i := 5) rfl
    have y6 := hg5.cell (i := 6) rfl
    have y7 := hg5.cell (i := 7) rfl
    have y8 := hg5.cell (i := 8) rfl
    have y9 := hg5.cell (i := 9) rfl
    have y10 := hg5.cell (i := 10) rfl
    clear hsm hx5 hg5
    generalize w5.alloc (.cells #[iv o1.a0, iv o1.a1, iv o1.a2, .int .u32 o1.a3, iv o1.a4, iv o1.a5, iv o1.a6, .slice A4 o1.nm.length c4, .bool o1.b, iv o1.en, iv o1.er] tGot) = W5 at *
    generalize w4.heap.size = gx at *
    generalize w5.heap.size = gg at *
    go_upto_region 12 with (first
      | (go_at_call 8; ((with_reducible refine HSM.out.mono ?_); rintro e w6 ⟨rfl, hf6⟩; have y9' : w6.cell? ⟨gg, 9, none⟩ = some (iv o1.en) := (HG5.out.fresh hf6).cell rfl; have y10' : w6.cell? ⟨gg, 10, none⟩ = some (iv o1.er) := (HG5.out.fresh hf6).cell rfl; have HX6 := Lib.hid (HX5.out.fresh hf6); have HF6 := Lib.hid (HF5.out.trans hf6); have HOWN6 := Lib.hid (HOWN5.out.fresh hf6); clear hf6))
      | (go_at_call 9; ((with_reducible refine (central_row A2 n0 c2 x0 a1 _ _ HOWN6.out.rd (Nat.le_refl _) hcp3.1 hcp3.2 hn9 hp1 hp2 o2 HO2.out).mono ?_); rintro e w7 ⟨hf7, A5, c5, rfl, hr5, hl5⟩; have HL5 := Lib.hid hl5; have HX7 := Lib.hid (HX6.out.fresh hf7); have HX8 := Lib.hid ((HX6.out.fresh hf7).row #[iv o2.a0, iv o2.a1, iv o2.a2, .int .u32 o2.a3, iv o2.a4, iv o2.a5, iv o2.a6, .slice A5 o2.nm.length c5, .bool o2.b]); have HF8 := Lib.hid ((HF6.out.trans hf7).but hgx (But.row gx w7 #[iv o2.a0, iv o2.a1, iv o2.a2, .int .u32 o2.a3, iv o2.a4, iv o2.a5, iv o2.a6, .slice A5 o2.nm.length c5, .bool o2.b])); have hown7 := HOWN6.out.fresh hf7; have HOWN8 := Lib.hid (hown7.but (But.row gx w7 #[iv o2.a0, iv o2.a1, iv o2.a2, .int .u32 o2.a3, iv o2.a4, iv o2.a5, iv o2.a6, .slice A5 o2.nm.length c5, .bool o2.b]) (hown7.ne_block HX7.out (by decide))); have hin6 := HX6.out.inside; have HR5 := Lib.hid ((hr5.sub (T := [gx]) (by intro i hi; rw [List.mem_singleton] at hi; rw [hi]; exact List.mem_range.2 hin6)).turn (Turn.row (S := [gx]) (g := gx) w7 #[iv o2.a0, iv o2.a1, iv o2.a2, .int .u32 o2.a3, iv o2.a4, iv o2.a5, iv o2.a6, .slice A5 o2.nm.length c5, .bool o2.b] (by simp))).rd; clear hf7 hr5 hl5 hown7))
      | (refine wpList_store_row (o := ⟨none, _, _, _, _, _⟩) rfl tHead (.tmp 6) (.tmp 50) rfl gx #[iv o2.a0, iv o2.a1, iv o2.a2, .int .u32 o2.a3, iv o2.a4, iv o2.a5, iv o2.a6, .slice A5 o2.nm.length c5, .bool o2.b] rfl rfl tHead _ HX7.out (by kernel_rfl) (by rfl) (row_one o2 A5 c5) ?_)
      | (go_at_call 10; ((with_reducible refine (rcentral_row A0 n0 c0 x0 a1 _ w.heap.size (HR0.out.keep fun i hi => HF8.out.block i hi) HF8.out.size hc0 HM0.out hn9 hp1 hp2 o2 HO2.out).mono ?_); rintro e w9 ⟨hf9, A6, c6, rfl, hr6⟩; have hal := Fresh.alloc w9 (.cells #[iv o2.a0, iv o2.a1, iv o2.a2, .int .u32 o2.a3, iv o2.a4, iv o2.a5, iv o2.a6, .slice A6 o2.nm.length c6, .bool o2.b, iv o2.en, iv o2.er] tGot); have HF9 := Lib.hid ((HF8.out.trans hf9).trans hal); have HR6 := Lib.hid (hr6.alloc (Nat.le_refl _) (.cells #[iv o2.a0, iv o2.a1, iv o2.a2, .int .u32 o2.a3, iv o2.a4, iv o2.a5, iv o2.a6, .slice A6 o2.nm.length c6, .bool o2.b, iv o2.en, iv o2.er] tGot)); have HG9 := Lib.hid (Bk.made w9 tGot #[iv o2.a0, iv o2.a1, iv o2.a2, .int .u32 o2.a3, iv o2.a4, iv o2.a5, iv o2.a6, .slice A6 o2.nm.length c6, .bool o2.b, iv o2.en, iv o2.er]); have HX9 := Lib.hid ((HX8.out.fresh hf9).fresh hal); have HR5b := Lib.hid (HR5.out.fresh (hf9.trans hal)); have HOWN9 := Lib.hid ((HOWN8.out.fresh hf9).fresh hal); clear hf9 hr6 hal)))
    clear y9' y10'
    clear xx0 xx1 xx2 xx3 xx4 xx5 xx6 xx7 xx8 y0 y1 y2 y3 y4 y5 y6 y7 y8 y9 y10
    have hx9 := HX9.out
    have hg9 := HG9.out
    have hsm := same_row o2 A5 A6 c5 c6 _ _ _ HR5b.out (Nat.le_refl _) HR6.out (by simp) HL5.out
    have HSM2 := Lib.hid hsm
    have xx0 := hx9.cell (i := 0) rfl
    have xx1 := hx9.cell (i := 1) rfl
    have xx2 := hx9.cell (i := 2) rfl
    have xx3 := hx9.cell (i := 3) rfl
    have xx4 := hx9.cell (i := 4) rfl
    have xx5 := hx9.cell (i := 5) rfl
    have xx6 := hx9.cell (i := 6) rfl
    have xx7 := hx9.cell (i := 7) rfl
    have xx8 := hx9.cell (i := 8) rfl
    have y0 := hg9.cell (i := 0) rfl
    have y1 := hg9.cell (i := 1) rfl
    have y2 := hg9.cell (i := 2) rfl
    have y3 := hg9.cell (i := 3) rfl
    have y4 := hg9.cell (i := 4) rfl
    have y5 := hg9.cell (i := 5) rfl
    have y6 := hg9.cell (i := 6) rfl
    have y7 := hg9.cell (i := 7) rfl
    have y8 := hg9.cell (i := 8) rfl
    have y9 := hg9.cell (i := 9) rfl
    have y10 := hg9.cell (i := 10) rfl
    clear hsm hx9 hg9
    generalize w9.alloc (.cells #[iv o2.a0, iv o2.a1, iv o2.a2, .int .u32 o2.a3, iv o2.a4, iv o2.a5, iv o2.a6, .slice A6 o2.nm.length c6, .bool o2.b, iv o2.en, iv o2.er] tGot) = W9 at *
    generalize w9.heap.size = gg2 at *
    go_wp2_with (first
      | (go_at_call 8; ((with_reducible refine HSM2.out.mono ?_); rintro e w10 ⟨rfl, hf10⟩; have y9' : w10.cell? ⟨gg2, 9, none⟩ = some (iv o2.en) := (HG9.out.fresh hf10).cell rfl; have y10' : w10.cell? ⟨gg2, 10, none⟩ = some (iv o2.er) := (HG9.out.fresh hf10).cell rfl; have HF10 := Lib.hid (HF9.out.trans hf10); have HOWN10 := Lib.hid (HOWN9.out.fresh hf10); clear hf10))
      | (go_at_call 11; ((with_reducible refine (same_is A2 A0 n0 n0 c2 c0 x0 _ _ w.heap.size HOWN10.out.rd (HR0.out.keep fun i hi => HF10.out.block i hi) (by unfold maxLen; omega) rfl).mono ?_); rintro e w11 ⟨rfl, hf11⟩)))
    go_ret
    exact ⟨rfl, HF10.out.trans hf11⟩
end Go.Proofs.Ytlnhafibcbhegaa.recordGets
