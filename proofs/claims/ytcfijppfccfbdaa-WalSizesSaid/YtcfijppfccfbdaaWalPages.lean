/-
  wal.pages: a range over slices.Chunk. My own text.
-/
import Derived.Test.YtcfijppfccfbdaaWalChunk
import Derived.Test.YtcfijppfccfbdaaWalMay
import Derived.Test.YtcfijppfccfbdaaKeep
namespace Go.Proofs.Ytcfijppfccfbdaa.walp
open Go.RowKit Go.Shelf Go.Proofs.Ytcfijppfccfbdaa.base Go.Proofs.Ytcfijppfccfbdaa.num Go.Proofs.Ytcfijppfccfbdaa.word Go.Proofs.Ytcfijppfccfbdaa.waln
set_option linter.unusedVariables false
attribute [local go_sem] Oper.semAt_some

/-- the pages that have come -/
def PgsAt (w0 : World) (g N : Nat) (f : Nat → Pg) (m : Nat) (pre : List (Fin m)) (W : World) : Prop :=
  (∃ A cc ws, Boxed W g tWrites (.slice A pre.length cc) ∧ OwnK W N tWrite 2 A pre.length cc wpV ws ∧ ws.map Wp.pg = pre.map (fun x => f x.1) ∧ ∀ p ∈ ws, RdT W tB p.A (p.bs.map bv) ∧ p.bs.length = p.n ∧ p.Ok) ∧ Below w0.heap.size w0 W ∧ N ≤ W.heap.size

theorem keepT_not {t : TypeId} {W W' : World} {row : Option Nat} (h : W.grownBy W' row) (hr : ∀ r, row = some r → ∃ o : Obj, W.heap[r]? = some o ∧ o.isCells = false) : KeepT t W W' := fun b cs fr hb => by
  refine (h.block b (Array.getElem?_eq_some_iff.1 hb).1 fun e1 => ?_).trans hb
  obtain ⟨o, ho, hc⟩ := hr b e1.symm
  rw [hb] at ho
  cases ho
  cases hc
theorem PgsAt.own (w0 : World) (g N B : Nat) (f : Nat → Pg) (m : Nat) (hB : w0.heap.size ≤ B) : OwnFrom B (PgsAt w0 g N f m) := by
  rintro pre W W' row ⟨⟨A, cc, ws, hbx, hown, hmap, hall⟩, hb, hN⟩ hg hr
  have hk : ∀ t, KeepT t W W' := fun t => keepT_not hg fun r e => (hr r e).2
  refine ⟨⟨A, cc, ws, hk _ _ _ _ hbx, hown.keep fun q hq => ?_, hmap, fun p hp => ⟨(hall p hp).1.keep (hk _), (hall p hp).2⟩⟩, hb.grown hg hb.size fun k e => Nat.le_trans hB (hr k e).1, Nat.le_trans hN hg.size⟩
  obtain ⟨_, _, cs, hc⟩ := hown.block q hq
  rw [hc]
  exact hk _ _ _ _ hc

theorem chunk_rd {W : World} {B b off m i : Nat} {bs : List UInt8} (hb : b < B) (hi : i < m) (h : ∀ j u, (bs.map bv)[j]? = some u → W.cell? ⟨b, off + j, none⟩ = some u) (hl : bs.length = 516 * m) :
    Rd W B (some ⟨b, off + 516 * i, none⟩) 516 (((bs.drop (516 * i)).take 516).map bv) := by
  refine ⟨by rw [List.length_map, List.length_take, List.length_drop]; omega, fun _ => ⟨b, off + 516 * i, rfl, hb, fun j u hu => ?_⟩⟩
  rw [Nat.add_assoc]
  refine h _ _ ?_
  rw [List.map_take, List.map_drop, List.getElem?_take] at hu
  split at hu
  · rwa [List.getElem?_drop] at hu
  · cases hu
theorem two_new (w : World) (u v : Value) (t : TypeId) : ∀ j x, [u, v][j]? = some x → (w.alloc (.cells #[u, v] t)).cell? ((⟨w.heap.size, 0, none⟩ : Addr).add j) = some x := fun j x hx => by
  have hadd : (⟨w.heap.size, 0, none⟩ : Addr).add j = ⟨w.heap.size, 0 + j, none⟩ := by unfold Addr.add; split <;> simp_all
  rw [hadd, Nat.zero_add]
  exact (Bk.made w t #[u, v]).cell hx
theorem pg_cut (bs : List UInt8) (i : Nat) : pg bs i = (((num ((((bs.drop (516 * i)).take 516).drop (0 : Int).toNat).take 4) : Nat) : Int), (((bs.drop (516 * i)).take 516).drop (4 : Int).toNat).take 512) := by
  have h0 : (0 : Int).toNat = 0 := rfl
  have h4 : (4 : Int).toNat = 4 := rfl
  unfold pg
  rw [h0, h4, List.drop_zero, List.take_take, Nat.min_eq_left (by omega), List.drop_take, List.drop_drop, List.take_take, Nat.min_eq_left (by omega)]

/-- one page more -/
theorem pages_step {w0 W w1 w2 : World} {g N K cc c2 g' cap' : Nat} {A1 A2 : Option Addr} {ws : List Wp} {R : Int} {YS : List UInt8} (hg0 : w0.heap.size ≤ g) (hgN : g < N) (hB : Below w0.heap.size w0 W) (hNW : N ≤ W.heap.size)
    (hb1 : Boxed w1 g tWrites (.slice A1 K cc)) (hown : OwnK w1 N tWrite 2 A1 K cc wpV ws) (hf1 : Fresh W w1) (ho2 : base.Own w1 W.heap.size tB A2 512 c2 (YS.map bv))
    (hgrow : (w1.alloc (.cells #[.int .i64 R, .slice A2 512 c2] tWrite)).grownBy w2 (Value.slice A1 K cc).ownBlock)
    (hown2 : w2.ownsRow N tWrite 2 (.slice (some ⟨g', 0, none⟩) (K + 1) cap') (K + 1) (ws.flatMap wpV ++ [.int .i64 R, .slice A2 512 c2])) :
    Boxed w2 g tWrites (.slice A1 K cc) ∧ Boxed (w2.setCell ⟨g, 0, none⟩ (.slice (some ⟨g', 0, none⟩) (K + 1) cap')) g tWrites (.slice (some ⟨g', 0, none⟩) (K + 1) cap') ∧
    OwnK (w2.setCell ⟨g, 0, none⟩ (.slice (some ⟨g', 0, none⟩) (K + 1) cap')) N tWrite 2 (some ⟨g', 0, none⟩) (K + 1) cap' wpV (ws ++ [⟨R, A2, 512, c2, YS⟩]) ∧
    KeepsOthers W (w2.setCell ⟨g, 0, none⟩ (.slice (some ⟨g', 0, none⟩) (K + 1) cap')) ∧ Kpt g N W (w2.setCell ⟨g, 0, none⟩ (.slice (some ⟨g', 0, none⟩) (K + 1) cap')) ∧
    Below w0.heap.size w0 (w2.setCell ⟨g, 0, none⟩ (.slice (some ⟨g', 0, none⟩) (K + 1) cap')) ∧ KeepT tB W (w2.setCell ⟨g, 0, none⟩ (.slice (some ⟨g', 0, none⟩) (K + 1) cap')) ∧
    RdT (w2.setCell ⟨g, 0, none⟩ (.slice (some ⟨g', 0, none⟩) (K + 1) cap')) tB A2 (YS.map bv) := by
  have hfa := Fresh.alloc w1 (.cells #[.int .i64 R, .slice A2 512 c2] tWrite)
  have hne : some g ≠ (Value.slice A1 K cc).ownBlock := hb1.not_row (by decide) hown
  have hb2 : Boxed w2 g tWrites (.slice A1 K cc) := (hb1.alloc _).kept hgrow hne
  have hsz2 : W.heap.size ≤ w2.heap.size := by have := hf1.size; have := hgrow.size; simp at this; omega
  have hset := grownBy_setCell' w2 g (.slice (some ⟨g', 0, none⟩) (K + 1) cap')
  have hsn : ws.flatMap wpV ++ [.int .i64 R, .slice A2 512 c2] = (ws ++ [(⟨R, A2, 512, c2, YS⟩ : Wp)]).flatMap wpV := by simp [wpV]
  have hkT : KeepT tB w1 (w2.setCell ⟨g, 0, none⟩ (.slice (some ⟨g', 0, none⟩) (K + 1) cap')) :=
    ((KeepT.fresh hfa).trans (KeepT.own hgrow (hown.fresh hfa) (by decide))).trans (KeepT.grown hset fun r e => by cases e; exact ⟨_, _, _, hb2, by decide⟩)
  have hKO : KeepsOthers w1 (w2.setCell ⟨g, 0, none⟩ (.slice (some ⟨g', 0, none⟩) (K + 1) cap')) := by
    refine ((KeepsOthers.alloc w1 (.cells #[.int .i64 R, .slice A2 512 c2] tWrite)).trans (KeepsOthers.of_grownBy hgrow fun j o ej hj => ?_)).trans (KeepsOthers.setCell _ _ _)
    obtain ⟨_, _, cs, hq⟩ := (hown.fresh hfa).block j ej
    rw [hq] at hj
    cases hj
    rfl
  refine ⟨hb2, hb2.set _, ?_, ?_, ?_, ?_, (KeepT.fresh hf1).trans hkT, (RdT.of_own1 ho2).keep hkT⟩
  · rw [hsn] at hown2
    exact hown2.kept hset (.inr fun e => (hb2.not_row (by decide) hown2) e.symm)
  · exact (show KeepsOthers W w1 from ⟨hf1.size, fun k o hk _ => (hf1.block k (Array.getElem?_eq_some_iff.1 hk).1).trans hk⟩).trans hKO
  · refine ⟨by have := hset.size; omega, fun k hk hkg => ?_⟩
    have h1 := hset.block k (by omega) (fun e => hkg (by injection e))
    have h2 := hgrow.block k (by have := hf1.size; simp; omega) (fun e => by have := (hown.block k e.symm).1; omega)
    have h3 := Below.heap_alloc w1 (.cells #[.int .i64 R, .slice A2 512 c2] tWrite) k (by have := hf1.size; omega)
    exact ((h1.trans h2).trans h3).trans (hf1.block k (by omega))
  · have h4 : Below w0.heap.size w0 w1 := hB.trans (hf1.mono hB.size)
    have h5 : Below w0.heap.size w0 (w1.alloc (.cells #[.int .i64 R, .slice A2 512 c2] tWrite)) := h4.alloc h4.size _
    exact (h5.grown hgrow h5.size fun k e => by have := (hown.block k e).1; omega).setCell (p := ⟨g, 0, none⟩) hg0 _

set_option maxRecDepth 100000 in
set_option maxHeartbeats 2000000 in
theorem pages_any (A : Option Addr) (m c M : Nat) (bs : List UInt8) (w : World) (hM : 516 * m = M) (h : Rd w w.heap.size A M (bs.map bv)) (hc : M ≤ c) (hc2 : c ≤ maxLen) (hm : m ≤ 4096) :
    Calls Try.prog 24 #[.slice A M c] w fun e w' => ∃ A' cc ws, e = .returned (.slice A' m cc) ∧ Fresh w w' ∧ WsAt w' w'.heap.size A' m ws ∧ ws.map Wp.pg = pgs m bs ∧ m ≤ cc ∧ cc ≤ maxLen := by
  have hl := Rd.len8 h
  obtain ⟨b, off, hA, hcell⟩ : ∃ b off, (0 < m → A = some ⟨b, off, none⟩ ∧ b < w.heap.size) ∧ (0 < m → ∀ j u, (bs.map bv)[j]? = some u → w.cell? ⟨b, off + j, none⟩ = some u) := by
    by_cases h0 : 0 < m
    · obtain ⟨b, off, e, hb, hcell⟩ := h.2 (by omega)
      exact ⟨b, off, fun _ => ⟨e, hb⟩, fun _ => hcell⟩
    · exact ⟨0, 0, fun h1 => absurd h1 h0, fun h1 => absurd h1 h0⟩
  obtain ⟨i0, hi0, hz0, hz1, hz2⟩ := info_parts write_info
  refine (callsIn_wide (n := 3)).1 ?_
  refine callsIn_of_wp_marks Try.func24 rfl trivial ?_ rfl
  simp only [Try.ntmps24, List.size_toArray, List.length_cons, List.length_nil, Nat.reduceAdd, Nat.reduceSub, Array.replicate_succ, Array.replicate_zero, List.push_toArray, List.append_toArray, List.nil_append, List.cons_append]
  gi_wp2_with (refine ⟨trivial, ?_⟩; gi_at_call 31; refine (callsIn_wide.2 (chunk_any _ _ _ _ _ _ rfl rfl)).mono ?_; rintro e w' ⟨rfl, rfl⟩)
  have bO := Boxed.new w tWrites (.slice none 0 0)
  have hB0 : Below w.heap.size w (((w.alloc (.cells #[.slice none 0 0] tWrites)).alloc (.cells #[.slice A M c] 23)).alloc (.cells #[.int .i64 516] 3)) := (((Below.refl _ w).alloc (Nat.le_refl _) _).alloc (by simp) _).alloc (by simp; omega) _
  have hS := ((Bk.made (w.alloc (.cells #[.slice none 0 0] tWrites)) 23 #[.slice A M c]).alloc (.cells #[.int .i64 516] 3)).cell (i := 0) rfl
  have hN := (Bk.made ((w.alloc (.cells #[.slice none 0 0] tWrites)).alloc (.cells #[.slice A M c] 23)) 3 #[.int .i64 516]).cell (i := 0) rfl
  have hO := (bO.alloc (.cells #[.slice A M c] 23)).alloc (.cells #[.int .i64 516] 3)
  simp only [World.size_alloc] at hS hN
  generalize hW3 : (((w.alloc (.cells #[.slice none 0 0] tWrites)).alloc (.cells #[.slice A M c] 23)).alloc (.cells #[.int .i64 516] 3)) = W3 at *
  have hsz : W3.heap.size = w.heap.size + 1 + 1 + 1 := by rw [← hW3]; simp
  clear hW3
  subst hM
  refine wpIn_rangeFunc_ownG rfl (by omega) (gf := 38) (lb := #[.pointer (some ⟨w.heap.size + 1, 0, none⟩), .pointer (some ⟨w.heap.size + 1 + 1, 0, none⟩)]) rfl trivial (enters_of Try.func38 (by kernel_rfl) rfl)
    (chunk_stops _ (by omega) (w.heap.size + 1) (w.heap.size + 1 + 1) w.heap.size W3.heap.size b off m c ⟨by omega, by omega⟩ ⟨by omega, by omega⟩ hm hc hc2 A (fun h0 => (hA h0).1) W3 hS hN)
    (fun h k => h.trans k) (fun W l o o' hl' _ _ _ => Kpt.putObj W l o' hl') (Below.refl _ _) (fun _ => rfl)
    (PgsAt w w.heap.size W3.heap.size (pg bs) m) (fun _ _ _ => False) (PgsAt.own _ _ _ _ _ _ (by omega)) (fun _ _ _ _ _ hs _ _ => hs)
    ⟨⟨none, 0, [], hO, OwnK.nil _ _ _ _ _, rfl, fun p hp => by cases hp⟩, hB0, Nat.le_refl _⟩
    (fun x => { tmps := #[.slice A (516 * m) c, undef, .slice none 0 0, .pointer (some ⟨w.heap.size, 0, none⟩), .slice (some ⟨b, off + 516 * x.1, none⟩) 516 516, undef, undef, undef, undef, .slice A (516 * m) c, .func (.func 38) #[] #[.pointer (some ⟨w.heap.size + 1, 0, none⟩), .pointer (some ⟨w.heap.size + 1 + 1, 0, none⟩)], .slice (some ⟨b, off + 516 * x.1, none⟩) 516 516, undef, undef, undef, undef, undef, undef, undef, undef, undef, undef, undef, undef, undef, undef, undef, undef, undef], defers := [] }) ?assign ?body ?done ?stop
  case assign =>
    intro l x W K hK
    gi_wp2
    exact hK
  case body =>
    rintro l pre x W ⟨⟨A1, cc, ws, hbx, hown, hmap, hall⟩, hB, hNW⟩ hlt
    obtain ⟨i, hi⟩ := x
    have hm0 : 0 < m := by omega
    have hr := chunk_rd (W := W) (hA hm0).2 hi (fun j u hu => (hB.cell (p := ⟨b, off + j, none⟩) (hA hm0).2).trans (hcell hm0 j u hu)) hl
    have hpg := pg_cut bs i
    have hxl := Rd.len8 hr
    generalize (bs.drop (516 * i)).take 516 = XS at *
    generalize hR : num ((XS.drop (0 : Int).toNat).take 4) = R at *
    generalize hY : (XS.drop (4 : Int).toNat).take 512 = YS at *
    have hw4 : word.wide 4 = 4 := by decide
    have HG := Lib.hid (get_is (some ⟨b, off + 516 * i, none⟩) 516 516 XS 0 4 W w.heap.size (R : Nat) hr (Nat.le_refl _) (by unfold maxLen; omega) (by omega) (by rw [hw4]; simp) (by rw [hw4, hR]))
    have HC := Lib.hid (cut_is (some ⟨b, off + 516 * i, none⟩) 516 516 XS YS 4 512 512 W w.heap.size hr hB.size (Nat.le_refl _) (by unfold maxLen; omega) (by omega) rfl (by simp) (by omega) hY)
    have hRb : R < 4294967296 := by
      rw [← hR]
      have := num_lt ((XS.drop (0 : Int).toNat).take 4)
      have h4 : ((XS.drop (0 : Int).toNat).take 4).length ≤ 4 := by rw [List.length_take]; omega
      exact Nat.lt_of_lt_of_le this (Nat.pow_le_pow_right (by omega) h4)
    have hyl : YS.length = 512 := by rw [← hY, List.length_take, List.length_drop, hxl]; decide
    have HPG := Lib.hid hpg
    have HHB := Lib.hid hB
    have HBX := Lib.hid hbx
    have HOW := Lib.hid hown
    have HMAP := Lib.hid hmap
    have HALL := Lib.hid hall
    have HLT := Lib.hid hlt
    have HYL := Lib.hid hyl
    generalize hK : pre.length = K at *
    have hK2 : K < 4096 := by omega
    clear hr hpg hxl hR hY hB hbx hown hmap hall hcell h hl hO hB0 hS hN bO hlt hyl
    gi_wp2_with (first
      | (refine ⟨trivial, ?_⟩; gi_at_call 30; refine (CallsIn.inRound l (callsIn_wide.2 HG.out)).mono ?_; rintro e w1 ⟨rfl, rfl⟩)
      | (refine ⟨trivial, ?_⟩; gi_at_call 32; refine (CallsIn.inRound l (callsIn_wide.2 HC.out)).mono ?_; rintro e w1 ⟨A2, c2, rfl, hf1, ho2⟩; have HF1 := Lib.hid hf1; have HO2 := Lib.hid ho2; have hb1 : Boxed w1 w.heap.size tWrites (.slice A1 K cc) := (hf1.block _ HBX.out.lt).trans HBX.out; have hbc1 := hb1.cell; have HB1 := Lib.hid hb1; clear hf1 ho2 hb1)
      | (gi_at_builtin; refine wpListIn_append_own _ rfl _ _ tWrites rfl W3.heap.size tWrite i0 _ 2 32 Try.underlying22 hi0 hz0 hz1 hz2 rfl (by decide) _ K _ rfl ((HOW.out.fresh HF1.out).fresh (Fresh.alloc w1 (.cells #[.int .i64 (R : Nat), .slice A2 512 c2] tWrite))) ⟨w1.heap.size, 0, none⟩ 1 1 [.int .i64 (R : Nat), .slice A2 512 c2] rfl rfl (two_new _ _ _ _) (wpV_one ⟨(R : Nat), A2, 512, c2, YS⟩) (by unfold maxLen; omega) (by omega) (by have := HF1.out.size; have := HHB.out.size; simp; omega) ?_; intro v' w2 hown2 hgrow _; obtain ⟨g', cap', rfl⟩ := ownsRow_succ hown2; have HST := Lib.hid (pages_step (w0 := w) (g := w.heap.size) (Nat.le_refl _) (by omega) HHB.out hNW HB1.out (HOW.out.fresh HF1.out) HF1.out HO2.out hgrow hown2); have hcx := HST.out.1.cell; have hfx := HST.out.1.frozen; clear hgrow hown2))
    obtain ⟨_, s2, s3, s4, s5, s6, s7, s8⟩ := HST.out
    have hlen : (pre ++ [(⟨i, hi⟩ : Fin m)]).length = K + 1 := by rw [List.length_append, hK]; rfl
    refine ⟨s4.from _, s5, ⟨_, _, _, by rw [hlen]; exact s2, by rw [hlen]; exact s3, ?_, fun p hp => ?_⟩, s6, Nat.le_trans hNW s5.size⟩
    · rw [List.map_append, List.map_append, HMAP.out]
      simp only [List.map_cons, List.map_nil, Wp.pg]
      rw [HPG.out]
    · rcases List.mem_append.1 hp with hp | hp
      · exact ⟨(HALL.out p hp).1.keep s7, (HALL.out p hp).2⟩
      · rw [List.mem_singleton] at hp
        subst hp
        have ho := HO2.out.cap
        exact ⟨s8, HYL.out, ⟨⟨by simp only; omega, by simp only; omega⟩, ho⟩⟩
  case done =>
    rintro D ys W hD hys ⟨⟨A1, cc, ws, hbx, hown, hmap, hall⟩, hB, hNW⟩ hK
    have hcx := hbx.cell
    have hyl : ys.length = m := by
      have := congrArg List.length hys
      rwa [List.length_map, List.length_range] at this
    rw [hyl] at hcx hown hbx
    gi_wp2
    refine ⟨by simp, .inl ⟨_, _, rfl, run_takeDeferred hK, ?_⟩⟩
    have hkb : Below w.heap.size W (W.putObj D (.deferred none)) := belowK_b (w := w) (Nat.le_refl _) W D _ _ (by omega) hK rfl rfl
    have hkt : ∀ t, KeepT t W (W.putObj D (.deferred none)) := fun t => keepT_not (grownBy_putObj' W D _) fun r e => by cases e; exact ⟨_, hK, rfl⟩
    have hown3 : OwnK (W.putObj D (.deferred none)) W3.heap.size tWrite 2 A1 m cc wpV ws := ownsRow_putObj hown _ hK rfl
    have hwl : ws.length = m := by
      have := congrArg List.length hmap
      rwa [List.length_map, List.length_map, hyl] at this
    refine ⟨_, results_tmp rfl _ _ _, A1, cc, ws, rfl, hB.trans hkb, ⟨hwl, fun h0 => ?_, fun p hp => ?_⟩, ?_, hown.cap.1, hown.cap.2⟩
    · rcases hown3.2 with ⟨_, hn⟩ | ⟨g, cap, cur, hv, hbg, hg, h1, h2, h3, h4⟩
      · omega
      · injection hv with hA1 _ _
        refine ⟨g, 0, hA1, (Array.getElem?_eq_some_iff.1 hg).1, fun i s hs => ?_⟩
        obtain ⟨g2, e2, _, _, hr2⟩ := hown3.at_ wpV_len (by decide) hs
        rw [hA1] at e2
        cases e2
        rw [Nat.zero_add]
        exact hr2
    · obtain ⟨q1, q2, q3⟩ := hall p hp
      have := (q1.keep (hkt tB)).rd
      rw [List.length_map, q2] at this
      exact ⟨this, q3⟩
    · rw [hmap, pgs, ← hys, List.map_map]
      rfl
  case stop =>
    rintro D c pre W _ _ h _
    exact h.elim
end Go.Proofs.Ytcfijppfccfbdaa.walp
