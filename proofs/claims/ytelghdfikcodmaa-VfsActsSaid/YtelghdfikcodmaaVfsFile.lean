/-
  The contracts of vfs's files: wait, blank, sync. My own text.
-/
import Derived.Test.YtelghdfikcodmaaVfsW
import Derived.Test.YtelghdfikcodmaaStore
import Derived.StillTailTactics
import Derived.BigQuiet
import Derived.Deep.QuietTactic
import Derived.IntWalk
import Derived.Great.BuildSlice
import Derived.Carry
namespace Go.Proofs.Ytelghdfikcodmaa.vfs
open Go.RowKit Go.Maps Go.Proofs.Ytelghdfikcodmaa.base Go.Proofs.Ytelghdfikcodmaa.vfsnum
set_option linter.unusedVariables false

theorem secInfo : (Try.prog.info? 116).map (·.size) = some 64 := by kernel_rfl
def zs : Bs := List.replicate 64 0
theorem zs_len : zs.length = 64 := rfl
theorem secZero (w : World) : (zeroValue 116).run Try.prog w = .ok (secV zs) w := by kernel_rfl
theorem bv_all (o : Bs) : ∀ v ∈ o.map bv, v.oneCell' = true := bv_one o
theorem ret_i64 {a b : Int} (h : a = b) : Ending.returned (.int .i64 a) = .returned (.int .i64 b) := by rw [h]
theorem secInfoOf (o : Bs) (h : o.length = 64) : (Try.prog.info? 116).map (·.size) = some (o.map bv).length := by rw [secInfo, List.length_map, h]
theorem takes_any (n : Nat) (w : World) (h : n ≤ 1099511627776) : Calls Try.prog 75 #[.int .i64 n] w fun e w' => e = .returned (.int .i64 (takes n : Nat)) ∧ w = w' := by
  go_enter Try.func75, Try.ntmps75
  go_wp2
  go_ret
  exact ⟨ret_i64 (by unfold takes; omega), rfl⟩

set_option maxRecDepth 100000 in
theorem wait_hit (g : Nat) (r : Raw) (bl : List Nat) (p : Nat) (o : Bs) (w : World) (h : FileRaw w g r bl) (hp : p < r.n) (hn : r.n ≤ 65536) (ho : r.old p = some o) (hl : o.length = 64) :
    Calls Try.prog 92 #[.pointer (some ⟨g, 0, none⟩), .int .i64 p] w fun e w' => e = .returned (.tuple #[]) ∧ Fresh w w' := by
  obtain ⟨wb, A, c, kv, sb, rfl, hnd, hb, hs, hm, hk⟩ := h
  have h2 : w.cell? ⟨g, 2, none⟩ = some (.slice A r.n c) := hb.cell rfl
  have h3 : w.cell? ⟨g, 3, none⟩ = some (.map (some wb)) := hb.cell rfl
  have hin := hk.hit ho
  go_enter Try.func92, Try.ntmps92
  go_wp2_with (first
    | (at_lookup; refine wpList_look_hit_ok _ rfl _ _ 105 rfl 3 116 intKey Try.underlying105 wb kv rfl hm _ _ _ rfl (key_int p (by omega)) hin ?_)
    | ((with_reducible (refine at_store_ 4 30 ?_)); refine wpList_store_new rfl 116 (.tmp 4) (.tmp 30) rfl w.heap.size (o.map bv) rfl rfl w _ _ rfl rfl (by rw [List.length_map, hl]; kernel_rfl) (bv_all o) (secInfoOf o hl) ?_; intro w1 hb1 hf1 hg1))
  go_end0
  exact ⟨rfl, hf1⟩

set_option maxRecDepth 100000 in
theorem wait_miss (g : Nat) (r : Raw) (bl : List Nat) (p : Nat) (w : World) (h : FileRaw w g r bl) (hp : p < r.n) (hn : r.n ≤ 65536) (ho : r.old p = none) :
    Calls Try.prog 92 #[.pointer (some ⟨g, 0, none⟩), .int .i64 p] w fun e w' => e = .returned (.tuple #[]) ∧ FileRaw w' g (r.wait p) bl ∧ Turn bl bl w w' := by
  obtain ⟨wb, A, c, kv, sb, rfl, hnd, hb, hs, hm, hk⟩ := h
  have h2 : w.cell? ⟨g, 2, none⟩ = some (.slice A r.n c) := hb.cell rfl
  have h3 : w.cell? ⟨g, 3, none⟩ = some (.map (some wb)) := hb.cell rfl
  have hmiss := hk.miss ho
  obtain ⟨q, rest, rfl, rfl, hq, hrest⟩ := hs.row (by omega)
  go_enter Try.func92, Try.ntmps92
  go_wp2_with (first
    | (at_lookup; refine wpList_look_miss_ok _ rfl _ _ 105 rfl 3 116 intKey Try.underlying105 _ (secZero _) wb kv rfl hm _ _ rfl (key_int p (by omega)) hmiss ?_)
    | ((with_reducible (refine at_store_ 4 30 ?_)); refine wpList_store_new rfl 116 (.tmp 4) (.tmp 30) rfl w.heap.size (zs.map bv) rfl rfl w _ _ rfl rfl (by kernel_rfl) (bv_all _) (secInfoOf _ rfl) ?_; intro w1 hb1 hf1 hg1))
  have h2' : w1.cell? ⟨g, 2, none⟩ = some (.slice (some ⟨q, 0, none⟩) r.n c) := (hb.fresh hf1).cell rfl
  have h3' : w1.cell? ⟨g, 3, none⟩ = some (.map (some wb)) := (hb.fresh hf1).cell rfl
  have hfl := hs.1
  have hf1' : Fresh w w1.drew := hf1.trans (Fresh.drew w1)
  clear h2 h3
  refine wp_region_still_tail 12 (by kernel_rfl) (by kernel_rfl) ?_
  simp only [List.take_succ_cons, List.take_zero, List.drop_succ_cons, List.drop_zero]
  iterate 11 still_step
  refine wpStill_load_blk rfl 116 (.tmp 44) rfl q (p * 64) 64 tSec _ rfl (hq.fresh hf1') (by rw [List.length_append, List.length_map]; omega) _ Try.underlying116 rfl secInfo ((secAt r.fl p).map bv) (by
    rw [List.drop_append_of_le_length (by rw [List.length_map]; omega), List.take_append_of_le_length (by rw [List.length_drop, List.length_map]; omega), ← List.map_drop, ← List.map_take, Nat.mul_comm p 64, sec_of_row _ _ (by omega)]) ?_
  refine wpStill_nil ?_
  go_wp2_with (first
    | (at_mapUpdate; refine wpList_put_new _ rfl _ _ _ 105 rfl 3 116 intKey Try.underlying105 wb kv rfl (hm.old (hf1.block wb hm.inside)) (.int .i64 p) (secV (secAt r.fl p)) _ rfl rfl (key_int p (by omega)) hmiss ?_; intro w2 hm2 hb2))
  go_end0
  have hne : g ≠ wb ∧ q ≠ wb := by simp at hnd; exact ⟨fun e => hnd.1.1 e, fun e => hnd.2 e.symm⟩
  have hn' : (r.wait p).n = r.n := by show max _ _ = _; omega
  have hfl' : (r.wait p).fl = r.fl := by show (if _ then _ else _) = _; rw [if_neg (by omega)]
  have keep : ∀ b, b < w.heap.size → b ≠ wb → w2.heap[b]? = w.heap[b]? := fun b hb hn => (hb2.block b (Nat.lt_of_lt_of_le hb hf1'.size) (fun e => hn (by injection e))).trans (hf1'.block b hb)
  refine ⟨rfl, ⟨wb, some ⟨q, 0, none⟩, c, _, [q], rfl, hnd, ?_, ?_, hm2, hk.add ho (o := secAt r.fl p) ?_ ?_⟩, (Turn.fresh hf1').trans (Turn.but hb2 (by simp))⟩
  · rw [hn']; exact hb.old (keep g hb.inside hne.1)
  · rw [hn', hfl']; exact hs.keep fun b hb => by rw [List.mem_singleton] at hb; subst hb; exact keep b hq.inside hne.2
  · show (if _ then _ else _) = _; rw [if_pos ⟨rfl, by rw [ho]; rfl⟩]
  · intro k hk; show (if _ then _ else _) = _; rw [if_neg (fun h => hk h.1)]

theorem sec_info : (Try.prog.info? 116).map (fun i => (i.zero, i.size, i.bytes)) = some (some (secV zs), 64, 64) := by kernel_rfl
theorem secBuilt : Try.prog.built 116 [] = some (zs.map bv).toArray := by kernel_rfl

set_option maxRecDepth 100000 in
theorem wait_new (g : Nat) (r : Raw) (bl : List Nat) (p : Nat) (w : World) (h : FileRaw w g r bl) (hp : p = r.n) (hn : r.n ≤ 65536) (ho : r.old p = none) :
    Calls Try.prog 92 #[.pointer (some ⟨g, 0, none⟩), .int .i64 p] w fun e w' => e = .returned (.tuple #[]) ∧ ∃ bl', FileRaw w' g (r.wait r.n) bl' ∧ Turn bl bl' w w' := by
  subst hp
  obtain ⟨wb, A, c, kv, sb, rfl, hnd, hb, hs, hm, hk⟩ := h
  have h2 : w.cell? ⟨g, 2, none⟩ = some (.slice A r.n c) := hb.cell rfl
  have h3 : w.cell? ⟨g, 3, none⟩ = some (.map (some wb)) := hb.cell rfl
  have hmiss := hk.miss ho
  obtain ⟨hown, hob⟩ := hs.own
  have hlti0 : ((r.n : Int) == (r.n : Int)) = true := by rw [beq_iff_eq]
  go_enter Try.func92, Try.ntmps92
  obtain ⟨i0, hi0, hz0, hz1, hz2⟩ := info_parts sec_info
  have hgs : some g ≠ (Value.slice A r.n c).ownBlock := fun e => by rw [← e] at hob; rw [← hob] at hnd; simp at hnd
  have hws : some wb ≠ (Value.slice A r.n c).ownBlock := fun e => by rw [← e] at hob; rw [← hob] at hnd; simp at hnd
  have hgw : g ≠ wb := by simp at hnd; exact hnd.1.1
  have HS := Lib.hid hs
  clear hs
  go_wp2_with (first
    | ((with_reducible (refine at_slot_ 18 ?_)); refine wpList_buildTo rfl 116 #[] rfl (some 18) rfl (zs.map bv).toArray secBuilt ?_)
    | ((with_reducible (refine at_slot_ 19 ?_)); refine wpList_buildSlice rfl 104 116 1 _ rfl (zs.map bv).toArray i0 (secV zs) Try.underlying104 hi0 hz0 (by rw [hz1]; decide) (by rw [hz1]; decide) (by rw [hz1]; kernel_rfl) ?_)
    | (at_builtin; refine wpList_append_lies _ rfl (.tmp 17) (.tmp 19) 104 rfl 0 116 i0 (secV zs) 64 64 Try.underlying104 hi0 hz0 hz1 hz2 rfl (by omega) (.slice A r.n c) r.n (r.fl.map bv) rfl (hown.alloc _) ⟨w.heap.size, 0, none⟩ 1 1 (zs.map bv) rfl rfl (World.news_of_block (heap_alloc_new w _)) (bv_all zs) (by omega) (by unfold maxLen; omega) (by omega) (Nat.zero_le _) (w.heap.size + 1) (by simp) ?_; intro q2 c2 w1 hown1 hg1 hat1 hlt1;
        have hb1 := (hb.alloc (.cells (zs.map bv).toArray 116)).grown hg1 (Ne.symm hgs);
        have hm1 := hm.old ((hg1.block wb (by simp; exact Nat.lt_succ_of_lt hm.inside) hws).trans (Below.heap_alloc w _ wb hm.inside));
        have h2' := hb1.cell (i := 2) rfl;
        have h3' := hb1.cell (i := 3) rfl;
        have hfz := hb1.free 2;
        have hm2 : MapOf Try.prog 3 (w1.setCell ⟨g, 2, none⟩ (.slice (some ⟨q2, 0, none⟩) (r.n + 1) c2)) wb kv := hm1.old (Below.heap_setCell w1 ⟨g, 2, none⟩ _ wb (Ne.symm hgw)))
    | (at_lookup; refine wpList_look_miss_ok _ rfl _ _ 105 rfl 3 116 intKey Try.underlying105 _ (secZero _) wb kv rfl hm2 _ _ rfl (key_int r.n (by omega)) hmiss ?_)
    | ((with_reducible (refine at_store_ 4 30 ?_)); refine wpList_store_new rfl 116 (.tmp 4) (.tmp 30) rfl _ (zs.map bv) rfl rfl _ _ _ rfl (by simp) (by kernel_rfl) (bv_all _) (secInfoOf _ rfl) ?_; intro w3 hb3 hf3 hg3))
  have hq2 : q2 ≠ g ∧ q2 ≠ wb := by
    have := hb.inside
    have := hm.inside
    rcases hat1 with h | h
    · exact ⟨fun e => hgs (by rw [h, e]), fun e => hws (by rw [h, e])⟩
    · omega
  have hfl := HS.out.1
  rw [← List.map_append] at hown1
  have hs1 : Sect w1 (some ⟨q2, 0, none⟩) (r.n + 1) c2 (r.fl ++ zs) [q2] := Sect.of_own hown1
  have hf3' := hf3.trans (Fresh.drew w3)
  have hs3 : Sect w3.drew (some ⟨q2, 0, none⟩) (r.n + 1) c2 (r.fl ++ zs) [q2] := hs1.keep fun b hb => by
    rw [List.mem_singleton] at hb; subst hb
    exact (hf3'.block b (by simpa using hlt1)).trans (Below.heap_setCell w1 ⟨g, 2, none⟩ _ b hq2.1)
  obtain ⟨q3, rest, hq3, _, hq, hrest⟩ := hs3.row (by omega)
  obtain rfl : q2 = q3 := by injection hq3 with h; injection h
  have hb3' : Bk w3 g tFile [.int .i64 r.long, .int .i64 r.stamp, .slice (some ⟨q2, 0, none⟩) (r.n + 1) c2, .map (some wb)] := (hb1.put 2 (.slice (some ⟨q2, 0, none⟩) (r.n + 1) c2)).fresh hf3
  have h2'' := hb3'.cell (i := 2) rfl
  have h3'' := hb3'.cell (i := 3) rfl
  have hsec : secAt (r.fl ++ zs) r.n = secAt r.fl r.n := secAt_congr fun j h1 h2 => by
    rw [gd_append]
    split
    · rfl
    · rw [gd_ge r.fl j (by omega), zs, gd_zeros]
  have hlti : ((r.n : Nat) : Int) < (r.n : Int) + 1 := by omega
  clear h2 h3 h2' h3' hm1 hm2 hfz
  refine wp_region_still_tail 12 (by kernel_rfl) (by kernel_rfl) ?_
  simp only [List.take_succ_cons, List.take_zero, List.drop_succ_cons, List.drop_zero]
  iterate 11 still_step
  refine wpStill_load_blk rfl 116 (.tmp 44) rfl q2 (r.n * 64) 64 tSec _ rfl hq (by rw [List.length_append, List.length_map, List.length_append, zs_len]; omega) _ Try.underlying116 rfl secInfo ((secAt r.fl r.n).map bv) (by
    rw [← hsec, List.drop_append_of_le_length (by rw [List.length_map, List.length_append, zs_len]; omega), List.take_append_of_le_length (by rw [List.length_drop, List.length_map, List.length_append, zs_len]; omega), ← List.map_drop, ← List.map_take, Nat.mul_comm r.n 64, sec_of_row _ _ (by rw [List.length_append, zs_len]; omega)]) ?_
  refine wpStill_nil ?_
  have hmW : MapOf Try.prog 3 w3.drew wb kv := hm.old (((hf3'.block wb (by have := hg1.size; have := hm.inside; simp at *; omega)).trans (Below.heap_setCell w1 ⟨g, 2, none⟩ _ wb (Ne.symm hgw))).trans ((hg1.block wb (by simp; exact Nat.lt_succ_of_lt hm.inside) hws).trans (Below.heap_alloc w _ wb hm.inside)))
  go_wp2_with (first
    | (at_mapUpdate; refine wpList_put_new _ rfl _ _ _ 105 rfl 3 116 intKey Try.underlying105 wb kv rfl hmW (.int .i64 r.n) (secV (secAt r.fl r.n)) _ rfl rfl (key_int r.n (by omega)) hmiss ?_; intro w4 hm4 hb4))
  go_end0
  have hn' : (r.wait r.n).n = r.n + 1 := by show max _ _ = _; omega
  have hfl' : (r.wait r.n).fl = r.fl ++ zs := by show (if _ then _ else _) = _; rw [if_pos rfl]; rfl
  have hT : Turn (g :: wb :: sb) (g :: wb :: sb) w w4 :=
    ((((Turn.fresh (Fresh.alloc w _)).trans (Turn.of_grown hg1 (fun k hk => by rw [hk] at hob; rw [← hob]; simp))).trans (Turn.but (But.put w1 _) (by simp))).trans (Turn.fresh hf3')).trans (Turn.but hb4 (by simp))
  refine ⟨rfl, [g, wb, q2], ⟨wb, some ⟨q2, 0, none⟩, c2, _, [q2], rfl, ?_, ?_, ?_, hm4, hk.add ho (o := secAt r.fl r.n) ?_ ?_⟩, hT.to ?_⟩
  · simp; exact ⟨⟨hgw, Ne.symm hq2.1⟩, Ne.symm hq2.2⟩
  · rw [hn']; exact hb3'.old (hb4.block g hb3'.inside (fun e => hgw (by injection e)))
  · rw [hn', hfl']; exact hs3.keep fun b hb => by rw [List.mem_singleton] at hb; subst hb; exact hb4.block b hq.inside (fun e => hq2.2 (by injection e))
  · show (if _ then _ else _) = _; rw [if_pos ⟨rfl, by rw [ho]; rfl⟩]
  · intro k hk; show (if _ then _ else _) = _; rw [if_neg (fun h => hk h.1)]
  · intro k hk
    simp only [List.mem_cons, List.not_mem_nil, or_false] at hk
    rcases hk with rfl | rfl | rfl
    · exact .inl (by simp)
    · exact .inl (by simp)
    · rcases hat1 with h | h
      · rw [h] at hob; exact .inl (by rw [← hob]; simp)
      · exact .inr (by omega)

/-- what waits is of places that there are -/
def RawOk (r : Raw) : Prop := r.n ≤ 65536 ∧ ∀ k o, r.old k = some o → k < r.n ∧ o.length = 64
theorem wait_same (r : Raw) (p : Nat) (o : Bs) (hp : p < r.n) (ho : r.old p = some o) : r.wait p = r := by
  refine Raw.same rfl rfl (show max _ _ = _ by omega) (show (if _ then _ else _) = _ by rw [if_neg (by omega)]) ?_
  funext k
  show (if _ then _ else _) = _
  by_cases hk : k = p
  · subst hk; rw [if_neg (by rw [ho]; simp)]
  · rw [if_neg (fun h => hk h.1)]
theorem wait_ok (r : Raw) (p : Nat) (h : RawOk r) (hp : p ≤ r.n) (hn : p < 65536) : RawOk (r.wait p) := by
  refine ⟨show max _ _ ≤ _ by have := h.1; omega, fun k o hk => ?_⟩
  have hk' : (if k = p ∧ (r.old k).isSome = false then some (secAt r.fl p) else r.old k) = some o := hk
  show k < max _ _ ∧ _
  by_cases hc : k = p ∧ (r.old k).isSome = false
  · rw [if_pos hc] at hk'
    injection hk' with hk'
    subst hk'
    exact ⟨by omega, secAt_len _ _⟩
  · rw [if_neg hc] at hk'
    have := h.2 k o hk'
    exact ⟨by omega, this.2⟩
theorem wait_any (g : Nat) (r : Raw) (bl : List Nat) (p : Nat) (w : World) (h : FileRaw w g r bl) (hok : RawOk r) (hp : p ≤ r.n) :
    Calls Try.prog 92 #[.pointer (some ⟨g, 0, none⟩), .int .i64 p] w fun e w' => e = .returned (.tuple #[]) ∧ ∃ bl', FileRaw w' g (r.wait p) bl' ∧ Turn bl bl' w w' := by
  rcases Nat.lt_or_ge p r.n with hlt | hge
  · cases ho : r.old p with
    | some o =>
      refine (wait_hit g r bl p o w h hlt hok.1 ho (hok.2 p o ho).2).mono fun e w' ⟨he, hf⟩ => ⟨he, bl, ?_, Turn.fresh hf⟩
      rw [wait_same r p o hlt ho]
      exact h.keep fun b hb => hf.block b (h.inside b hb)
    | none => exact (wait_miss g r bl p w h hlt hok.1 ho).mono fun e w' ⟨he, h1, h2⟩ => ⟨he, bl, h1, h2⟩
  · have ho : r.old p = none := by
      cases ho : r.old p with
      | none => rfl
      | some o => have := (hok.2 p o ho).1; omega
    obtain rfl : p = r.n := by omega
    exact wait_new g r bl r.n w h rfl hok.1 ho
end Go.Proofs.Ytelghdfikcodmaa.vfs
