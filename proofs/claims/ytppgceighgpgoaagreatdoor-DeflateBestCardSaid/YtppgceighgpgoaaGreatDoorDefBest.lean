import Derived.Test.YtppgceighgpgoaaGreatDoorDefWay
import Derived.Test.YtppgceighgpgoaaGreatDoorDefCtB
import Derived.Test.YtppgceighgpgoaaGreatDoorMgRow
import Derived.Test.YtppgceighgpgoaaGreatDoorStore
/-
  deflate.Best. My own text.
-/
namespace Go.Proofs.YtppgceighgpgoaaGreatDoor.defp
open Go.RowKit Go.Maps Go.Proofs.YtppgceighgpgoaaGreatDoor.base Go.Proofs.YtppgceighgpgoaaGreatDoor.num Go.Proofs.YtppgceighgpgoaaGreatDoor.bitnum Go.Proofs.YtppgceighgpgoaaGreatDoor.bitp Go.Proofs.YtppgceighgpgoaaGreatDoor.huffnum Go.Proofs.YtppgceighgpgoaaGreatDoor.huffp Go.Proofs.YtppgceighgpgoaaGreatDoor.infnum Go.Proofs.YtppgceighgpgoaaGreatDoor.infp
set_option linter.unusedVariables false
/-- all pieces, one behind the other -/
def allOf (rows : List Row) : List UInt8 := rows.flatMap Row.bs
theorem allOf_snoc (rows : List Row) (r : Row) : allOf (rows ++ [r]) = allOf rows ++ r.bs := by simp [allOf]
theorem allOf_le (rows : List Row) : ∀ i, (allOf (rows.take i)).length ≤ (allOf rows).length := fun j => by
  have h : allOf rows = allOf (rows.take j) ++ allOf (rows.drop j) := by unfold allOf; rw [← List.flatMap_append, List.take_append_drop]
  rw [h, List.length_append]
  omega
theorem concat_rows (A : Option Addr) (n c : Nat) (rows : List Row) (w : World) (hr : RdRows w w.heap.size A n rows) (hn : n ≤ 100) (hs : (allOf rows).length ≤ 1073741824) :
    Calls Tryz.prog 9 #[.slice A n c] w fun e w' => ∃ (A1 : Option Addr) (c1 : Nat), e = .returned (.slice A1 (allOf rows).length c1) ∧ Own w' w.heap.size 5 A1 (allOf rows).length c1 ((allOf rows).map bv) ∧ Fresh w w' := by
  have hl : rows.length = n := by have := hr.1.1; rwa [List.length_map] at this
  by_cases h0 : n = 0
  · subst h0
    obtain rfl := List.eq_nil_of_length_eq_zero hl
    exact catb.concat_none A c w
  · obtain ⟨b, off, rfl, hb, hc⟩ := hr.1.2 (by omega)
    have e : catb.catL (rows.map fun r => (r.at_, r.len, r.cap, r.bs)) = allOf rows := by
      unfold catb.catL allOf
      rw [List.flatMap_map]
    have h := catb.concat_any b off n c (rows.map fun r => (r.at_, r.len, r.cap, r.bs)) w (fun j r hj => by
      rw [List.getElem?_map] at hj
      obtain ⟨x, hx, rfl⟩ := Option.map_eq_some_iff.1 hj
      exact hc j _ (by rw [List.getElem?_map, hx]; rfl)) hb (fun r hr' => by
      obtain ⟨x, hx, rfl⟩ := List.mem_map.1 hr'
      exact hr.2 x hx) (by rw [List.length_map]; exact hl) hn (by rw [e]; exact hs)
    rw [e] at h
    exact h
theorem stored_w (A : Option Addr) (n c : Nat) (b : List UInt8) (w : World) (B : Nat) (hr : Rd w B A n (b.map bv)) (hB : B ≤ w.heap.size) (hn : n ≤ 5000) (hc : n ≤ c) (hcm : c ≤ maxLen) :
    Calls Tryz.prog 11 #[.slice A n c] w fun e w' => ∃ A1 m c1 p, e = .returned (.slice A1 m c1) ∧ Way b 0 p ∧ p.length = m ∧ Own w' w.heap.size 5 A1 m c1 (p.map bv) ∧ Fresh w w' := by
  have hl : b.length = n := by have := hr.1; rwa [List.length_map] at this
  refine (stored_any A n c b w B hr hB (by omega) hc hcm).mono ?_
  rintro e w' ⟨A1, m, c1, rfl, hm, ho, hf⟩
  have hch : chop n b = infnum.stored true b := chop_small n (by omega)
  rw [hch] at hm ho
  exact ⟨A1, m, c1, _, rfl, .inl ⟨rfl, rfl⟩, hm, ho, hf⟩
theorem fixed_w (b : List UInt8) (A : Option Addr) (c base : Nat) (l : List (Nat × Nat)) (hs : St b b.length l) (w : World) (ho : Own2 w base A (l.length + 1) c (l ++ [(256, 0)])) (hb : b.length ≤ 5000) :
    Calls Tryz.prog 12 #[.slice A (l.length + 1) c] w fun e w' => ∃ A1 m c1 p, e = .returned (.slice A1 m c1) ∧ Way b 1 p ∧ p.length = m ∧ Own w' w.heap.size 5 A1 m c1 (p.map bv) ∧ Fresh w w' := by
  have hfew := hs.few
  refine (fixed_of fixedLits fixD rfl rfl fit_lits fit_fixD A (l.length + 1) c (l ++ [(256, 0)]) base w ho (fun s h => ⟨(hs.ok s h).1, by have := (hs.ok s h).2.1; omega, (hs.ok s h).2.2⟩) (by omega)).mono ?_
  rintro e w' ⟨A2, c2, rfl, ho2, hf2⟩
  exact ⟨A2, bytesF l, c2, low (bytesF l) (numF l), rfl, .inr (.inl ⟨rfl, l, hs, rfl⟩), low_length _ _, ho2, hf2⟩
theorem dynamic_w (b : List UInt8) (A : Option Addr) (c base : Nat) (l : List (Nat × Nat)) (hs : St b b.length l) (w : World) (ho : Own2 w base A (l.length + 1) c (l ++ [(256, 0)])) (hb : b.length ≤ 5000) (hO : OrdD w) (hg : 0 < w.heap.size) :
    Calls Tryz.prog 13 #[.slice A (l.length + 1) c] w fun e w' => ∃ A1 m c1 p, e = .returned (.slice A1 m c1) ∧ Way b 2 p ∧ p.length = m ∧ Own w' w.heap.size 5 A1 m c1 (p.map bv) ∧ Fresh w w' := by
  have hfew := hs.few
  refine (dynamic_any A (l.length + 1) c base (l ++ [(256, 0)]) w ho (fun s h => ⟨(hs.ok s h).1, by have := (hs.ok s h).2.1; omega, (hs.ok s h).2.2⟩) (by omega) hO hg).mono ?_
  rintro e w' ⟨TS, TD, nS, nD, T, j, ps, A2, c2, htold, rfl, ho2, hf2⟩
  exact ⟨A2, bytesD (l ++ [(256, 0)]) TS TD nS nD T j ps, c2, low (bytesD (l ++ [(256, 0)]) TS TD nS nD T j ps) (numD (l ++ [(256, 0)]) TS TD nS nD T j ps), rfl, .inr (.inr ⟨rfl, l, TS, TD, nS, nD, T, j, ps, hs, htold, rfl⟩), low_length _ _, ho2, hf2⟩
/-- how much each way makes -/
theorem ways_len {b p0 p1 p2 : List UInt8} (h0 : Way b 0 p0) (h1 : Way b 1 p1) (h2 : Way b 2 p2) : ∀ k q, k ≤ 2 → Way b k q → (k = 0 ∧ q.length = p0.length) ∨ (k = 1 ∧ q.length = p1.length) ∨ (k = 2 ∧ q.length = p2.length) := fun k q hk h => by
  rcases (by omega : k = 0 ∨ k = 1 ∨ k = 2) with rfl | rfl | rfl
  · exact .inl ⟨rfl, by rw [h.uniq h0]⟩
  · exact .inr (.inl ⟨rfl, by rw [h.uniq h1]⟩)
  · exact .inr (.inr ⟨rfl, by rw [h.uniq h2]⟩)
abbrev tWays : TypeId := 39
theorem waysInfo : (Tryz.prog.info? tWays).map (·.size) = some 3 := by kernel_rfl
theorem wpList_index_run {P : Program} {w : World} {ops : Array Oper} {rest : List Oper} {o : Oper} {a : Act} {Q : Exit → Act → World → Prop} (hgd : o.guard = none) (ty : TypeId) (x k : Operand) (ho : o.op = .index ty x k) (vx vk v : Value) (hx : a.eval x = vx) (hk : a.eval k = vk) (hr : (Instr.index ty vx vk).run P w = .ok v w)
    (h : wpList P ops Q rest (a.put o.dst v) w) : wpList P ops Q (o :: rest) a w := by
  refine wpList_plain hgd fun K hK => ?_
  unfold Oper.wp execOp
  simp only [ho, hx, hk, hr, Sem.run_bind, Sem.run_pure, Result.andThen_ok]
  exact hK _ _ h
theorem index_0 (u v x : Value) (W : World) : (Instr.index tWays (.agg #[u, v, x]) (.int .i64 0)).run Tryz.prog W = .ok u W := by kernel_rfl
theorem index_1 (u v x : Value) (W : World) : (Instr.index tWays (.agg #[u, v, x]) (.int .i64 1)).run Tryz.prog W = .ok v W := by kernel_rfl
theorem index_2 (u v x : Value) (W : World) : (Instr.index tWays (.agg #[u, v, x]) (.int .i64 2)).run Tryz.prog W = .ok x W := by kernel_rfl
set_option maxRecDepth 100000 in
set_option maxHeartbeats 8000000 in
theorem best_any (A : Option Addr) (n c : Nat) (rows : List Row) (b : List UInt8) (hb : allOf rows = b) (w : World) (hr : RdRows w w.heap.size A n rows) (hn : n ≤ 20) (hs : b.length ≤ 5000) (hO : OrdD w) :
    Calls Tryz.prog 5 #[.slice A n c] w fun e w' => ∃ (how m c1 : Nat) (A1 : Option Addr) (p : List UInt8), e = .returned (.tuple #[.slice A1 m c1, .int .i64 (how : Nat)]) ∧ how ≤ 2 ∧ Way b how p ∧ p.length = m ∧ (∀ k q, k ≤ 2 → Way b k q → m ≤ q.length ∧ (k < how → m < q.length)) ∧ Own w' w.heap.size 5 A1 m c1 (p.map bv) ∧ Fresh w w' := by
  have hl : rows.length = n := by have := hr.1.1; rwa [List.length_map] at this
  have hg : 0 < w.heap.size := World.block_lt_of_cell? w _ (hO 0 16 rfl)
  have HR := Lib.hid hr
  have HL := Lib.hid hl
  have HO := Lib.hid hO
  have HB := Lib.hid hb
  clear hr hl hO hb
  go_enter Tryz.func5, Tryz.ntmps5
  go_wp2
  go_loopw [4, 15] (fun vm vi wr => ∃ (i m : Nat), vi = .int .i64 i ∧ vm = .int .i64 m ∧ i ≤ n ∧ m ≤ 5000 ∧ Hid (m = (allOf (rows.take i)).length) ∧ Hid (Fresh w wr)) (fun _ vi _ => n - (intOf vi).toNat)
  case atStart => exact ⟨0, 0, rfl, rfl, Nat.zero_le _, Nat.zero_le _, Lib.hid rfl, Lib.hid (Fresh.refl _)⟩
  case round =>
    obtain ⟨i, m, rfl, rfl, hi, hm5, HM, HF⟩ := hrel
    by_cases hlt : i < n
    · have hil : (i : Int) < (n : Int) := by omega
      have hw := HR.out.fresh (Nat.le_refl _) HF.out
      obtain ⟨g, off, x, rfl, hgb, hx, hcx⟩ := hw.1.at_ hlt
      have hxr := hw.2 x (List.mem_of_getElem? hx)
      have hxl : x.bs.length = x.len := by have := hxr.1; rwa [List.length_map] at this
      have hst : allOf (rows.take (i + 1)) = allOf (rows.take i) ++ x.bs := by rw [List.take_add_one, hx]; exact allOf_snoc _ _
      have hle := allOf_le rows (i + 1)
      have hmm : m + x.len = (allOf (rows.take (i + 1))).length := by rw [hst, List.length_append, hxl, ← HM.out]
      have hmb : m + x.len ≤ 5000 := by rw [hmm]; have := HB.out; rw [this] at hle; omega
      have HMM := Lib.hid hmm
      clear hw hx hxr hxl hst hle hmm
      obtain ⟨xa, xl, xc, xb⟩ := x
      simp only [Row.val] at hcx
      simp only at hmb HMM
      go_wp2
      refine ⟨⟨i + 1, m + xl, rfl, rfl, hlt, hmb, HMM, HF⟩, ?_⟩
      show n - ((i : Int) + 1).toNat < n - ((i : Int)).toNat
      omega
    · have hin : i = n := by omega
      subst hin
      rename World => w0
      have hcc := concat_rows A i c rows w0 (by have h1 := HR.out.fresh (Nat.le_refl _) HF.out; exact ⟨h1.1.up HF.out.size, fun r hr' => (h1.2 r hr').up HF.out.size⟩) (by omega) (by rw [HB.out]; omega)
      rw [HB.out] at hcc
      have HCC := Lib.hid hcc
      clear hcc
      obtain ⟨nb, hnb⟩ : ∃ nb, b.length = nb := ⟨_, rfl⟩
      rw [hnb] at HCC hs
      have HNB := Lib.hid hnb
      clear hnb
      go_upto_region 11 with (first
        | (go_at_call 9; (with_reducible refine HCC.out.mono ?_); rintro e w1 ⟨AB, cB, rfl, hob, hf1⟩; have hcapB := hob.cap; have hst := stepsOf_any AB nb cB b w1 w1.heap.size hob.rd (Nat.le_refl _) (by omega); have HST := Lib.hid hst; have HOB := Lib.hid hob; have HF1 := Lib.hid (HF.out.trans hf1); clear hst hob hf1)
        | (go_at_call 10; (with_reducible refine HST.out.mono ?_); rintro e w2 ⟨As, cs, l, rfl, hss, hos, hf2⟩; rw [← HNB.out] at hss; have HSS := Lib.hid hss; have HOS := Lib.hid hos; have HOB2 := Lib.hid (HOB.out.fresh hf2); have HF2 := Lib.hid (HF1.out.trans hf2); clear hss hos hf2))
      have hstd := stored_w AB nb cB b w2 w2.heap.size HOB2.out.rd (Nat.le_refl _) hs hcapB.1 hcapB.2
      have HSTD := Lib.hid hstd
      clear hstd
      go_upto_region 12 with (first
        | (go_at_call 11; (with_reducible refine HSTD.out.mono ?_); rintro e w3 ⟨A0, m0, d0, p0, rfl, hw0, hl0, ho0, hf3⟩; have hfx := fixed_w b As cs w1.heap.size l HSS.out w3 (HOS.out.fresh hf3) (by rw [HNB.out]; exact hs); have HFX := Lib.hid hfx; have HW0 := Lib.hid hw0; have HL0 := Lib.hid hl0; have HO0 := Lib.hid ho0; have HF3 := Lib.hid hf3; clear hfx hw0 hl0 ho0 hf3)
        | (go_at_call 12; (with_reducible refine HFX.out.mono ?_); rintro e w4 ⟨A1, m1, d1, p1, rfl, hw1, hl1, ho1, hf4⟩; have hdy := dynamic_w b As cs w1.heap.size l HSS.out w4 ((HOS.out.fresh HF3.out).fresh hf4) (by rw [HNB.out]; exact hs) (HO.out.keep (((HF2.out.trans HF3.out).trans hf4).block _ hg)) (by have := ((HF2.out.trans HF3.out).trans hf4).size; omega); have HDY := Lib.hid hdy; have HW1 := Lib.hid hw1; have HL1 := Lib.hid hl1; have HO1 := Lib.hid ho1; have HF4 := Lib.hid hf4; clear hdy hw1 hl1 ho1 hf4)
        | (go_at_call 13; (with_reducible refine HDY.out.mono ?_); rintro e w5 ⟨A2, m2, d2, p2, rfl, hw2, hl2, ho2, hf5⟩; have hb5 := Bk.made w5 tWays #[.slice none 0 0, .slice none 0 0, .slice none 0 0]; have HB5 := Lib.hid hb5; have HW2 := Lib.hid hw2; have HL2 := Lib.hid hl2; have HO2 := Lib.hid ho2; have HF5 := Lib.hid hf5; clear hb5 hw2 hl2 ho2 hf5)
        | ((with_reducible (refine at_store_ 9 36 ?_)); refine wpList_store_blk rfl tWays (.tmp 9) (.tmp 36) rfl w5.heap.size 0 tWays [.slice none 0 0, .slice none 0 0, .slice none 0 0] [.slice A0 m0 d0, .slice A1 m1 d1, .slice A2 m2 d2] rfl rfl HB5.out (by simp) (by simp; exact ⟨rfl, rfl, rfl⟩) (by kernel_rfl) ?_; intro w6 hb6 hbut6; have hb6' : Bk w6 w5.heap.size tWays [.slice A0 m0 d0, .slice A1 m1 d1, .slice A2 m2 d2] := hb6; have HB6 := Lib.hid hb6'; have HF6 := Lib.hid ((Fresh.alloc _ _).but (Nat.le_refl _) hbut6); clear hb6 hb6' hbut6))
      have hf06 := HF6.out
      have HF26 := Lib.hid ((((HF2.out.trans HF3.out).trans HF4.out).trans HF5.out).trans HF6.out)
      have HP0 := Lib.hid (((HO0.out.fresh HF4.out).fresh HF5.out).fresh HF6.out)
      have HP1 := Lib.hid ((HO1.out.fresh HF5.out).fresh HF6.out)
      have HP2 := Lib.hid (HO2.out.fresh HF6.out)
      have HWL := Lib.hid (ways_len HW0.out HW1.out HW2.out)
      have hrg : w6.rangeAt w5.heap.size 0 [.slice A0 m0 d0, .slice A1 m1 d1, .slice A2 m2 d2] := fun j v hv => by rw [Nat.zero_add]; exact HB6.out.cell hv
      have HRG := Lib.hid hrg
      clear hrg hf06
      go_wp2_with ((with_reducible (refine at_slot_ 37 ?_)); refine wpList_load_mid rfl tWays (.tmp 9) rfl w5.heap.size 0 rfl _ _ HRG.out Tryz.underlying39 rfl waysInfo ?_)
      go_loopw [10, 38] (fun vb vk wr => Hid (Fresh w6 wr) ∧ ((vk = .int .i64 0 ∧ vb = .int .i64 0) ∨ (vk = .int .i64 1 ∧ vb = .int .i64 0) ∨ (vk = .int .i64 2 ∧ vb = .int .i64 0 ∧ ¬ m1 < m0) ∨ (vk = .int .i64 2 ∧ vb = .int .i64 1 ∧ m1 < m0) ∨
        (vk = .int .i64 3 ∧ vb = .int .i64 0 ∧ ¬ m1 < m0 ∧ ¬ m2 < m0) ∨ (vk = .int .i64 3 ∧ vb = .int .i64 1 ∧ m1 < m0 ∧ ¬ m2 < m1) ∨ (vk = .int .i64 3 ∧ vb = .int .i64 2 ∧ m2 < m0 ∧ m2 < m1))) (fun _ vk _ => 3 - (intOf vk).toNat)
      case atStart => exact ⟨Lib.hid (Fresh.refl _), .inl ⟨rfl, rfl⟩⟩
      case round =>
        obtain ⟨HW, hc⟩ := hrel
        have hbk := HB6.out.fresh HW.out
        have k0 := hbk.cell (i := 0) rfl
        have k1 := hbk.cell (i := 1) rfl
        have k2 := hbk.cell (i := 2) rfl
        clear hbk
        rcases hc with ⟨rfl, rfl⟩ | ⟨rfl, rfl⟩ | ⟨rfl, rfl, h1⟩ | ⟨rfl, rfl, h1⟩ | ⟨rfl, rfl, h1, h2⟩ | ⟨rfl, rfl, h1, h2⟩ | ⟨rfl, rfl, h1, h2⟩
        · have hz : ¬ (m0 : Int) < (m0 : Int) := by omega
          go_wp2_with ((with_reducible (refine at_slot_ 41 ?_)); refine wpList_index_run rfl tWays (.tmp 37) (.tmp 38) rfl _ _ _ rfl rfl (index_0 _ _ _ _) ?_)
          exact ⟨⟨HW, .inr (.inl ⟨rfl, rfl⟩)⟩, by decide⟩
        · by_cases hz : m1 < m0
          · have hz2 : (m1 : Int) < (m0 : Int) := by omega
            go_wp2_with ((with_reducible (refine at_slot_ 41 ?_)); refine wpList_index_run rfl tWays (.tmp 37) (.tmp 38) rfl _ _ _ rfl rfl (index_1 _ _ _ _) ?_)
            exact ⟨⟨HW, .inr (.inr (.inr (.inl ⟨rfl, rfl, hz⟩)))⟩, by decide⟩
          · have hz2 : ¬ (m1 : Int) < (m0 : Int) := by omega
            go_wp2_with ((with_reducible (refine at_slot_ 41 ?_)); refine wpList_index_run rfl tWays (.tmp 37) (.tmp 38) rfl _ _ _ rfl rfl (index_1 _ _ _ _) ?_)
            exact ⟨⟨HW, .inr (.inr (.inl ⟨rfl, rfl, hz⟩))⟩, by decide⟩
        · by_cases hz : m2 < m0
          · have hz2 : (m2 : Int) < (m0 : Int) := by omega
            go_wp2_with ((with_reducible (refine at_slot_ 41 ?_)); refine wpList_index_run rfl tWays (.tmp 37) (.tmp 38) rfl _ _ _ rfl rfl (index_2 _ _ _ _) ?_)
            exact ⟨⟨HW, .inr (.inr (.inr (.inr (.inr (.inr ⟨rfl, rfl, hz, by omega⟩)))))⟩, by decide⟩
          · have hz2 : ¬ (m2 : Int) < (m0 : Int) := by omega
            go_wp2_with ((with_reducible (refine at_slot_ 41 ?_)); refine wpList_index_run rfl tWays (.tmp 37) (.tmp 38) rfl _ _ _ rfl rfl (index_2 _ _ _ _) ?_)
            exact ⟨⟨HW, .inr (.inr (.inr (.inr (.inl ⟨rfl, rfl, h1, hz⟩))))⟩, by decide⟩
        · by_cases hz : m2 < m1
          · have hz2 : (m2 : Int) < (m1 : Int) := by omega
            go_wp2_with ((with_reducible (refine at_slot_ 41 ?_)); refine wpList_index_run rfl tWays (.tmp 37) (.tmp 38) rfl _ _ _ rfl rfl (index_2 _ _ _ _) ?_)
            exact ⟨⟨HW, .inr (.inr (.inr (.inr (.inr (.inr ⟨rfl, rfl, by omega, hz⟩)))))⟩, by decide⟩
          · have hz2 : ¬ (m2 : Int) < (m1 : Int) := by omega
            go_wp2_with ((with_reducible (refine at_slot_ 41 ?_)); refine wpList_index_run rfl tWays (.tmp 37) (.tmp 38) rfl _ _ _ rfl rfl (index_2 _ _ _ _) ?_)
            exact ⟨⟨HW, .inr (.inr (.inr (.inr (.inr (.inl ⟨rfl, rfl, h1, hz⟩)))))⟩, by decide⟩
        · go_wp2
          go_ret2
          refine ⟨0, m0, d0, A0, p0, rfl, by omega, HW0.out, HL0.out, fun k q hk hq => ?_, own_low (HP0.out.fresh HW.out) HF2.out.size, HF26.out.trans HW.out⟩
          have h3 := HWL.out k q hk hq
          rw [HL0.out, HL1.out, HL2.out] at h3
          omega
        · go_wp2
          go_ret2
          refine ⟨1, m1, d1, A1, p1, rfl, by omega, HW1.out, HL1.out, fun k q hk hq => ?_, own_low (HP1.out.fresh HW.out) (HF2.out.trans HF3.out).size, HF26.out.trans HW.out⟩
          have h3 := HWL.out k q hk hq
          rw [HL0.out, HL1.out, HL2.out] at h3
          omega
        · go_wp2
          go_ret2
          refine ⟨2, m2, d2, A2, p2, rfl, by omega, HW2.out, HL2.out, fun k q hk hq => ?_, own_low (HP2.out.fresh HW.out) ((HF2.out.trans HF3.out).trans HF4.out).size, HF26.out.trans HW.out⟩
          have h3 := HWL.out k q hk hq
          rw [HL0.out, HL1.out, HL2.out] at h3
          omega
end Go.Proofs.YtppgceighgpgoaaGreatDoor.defp
