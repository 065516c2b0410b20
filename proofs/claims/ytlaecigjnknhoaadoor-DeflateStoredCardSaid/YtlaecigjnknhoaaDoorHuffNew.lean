/-
  The contract of huff.New. My own text.
-/
import Derived.Test.YtlaecigjnknhoaaDoorHuffShare
import Derived.Deep.RegionLaw
namespace Go.Proofs.YtlaecigjnknhoaaDoor.huffp
open Go.RowKit Go.Proofs.YtlaecigjnknhoaaDoor.base Go.Proofs.YtlaecigjnknhoaaDoor.num Go.Proofs.YtlaecigjnknhoaaDoor.bitnum Go.Proofs.YtlaecigjnknhoaaDoor.bitp Go.Proofs.YtlaecigjnknhoaaDoor.huffnum
set_option linter.unusedVariables false

theorem Own.low0 {w : World} {base base' : Nat} {e : TypeId} {A : Option Addr} {n c : Nat} {xs : List Value} (h : Own w base e A n c xs) (hb : base' ≤ base) : Own w base' e A n c xs :=
  ⟨h.1, h.2.imp id fun ⟨g, cap, cur, h1, h2, h3⟩ => ⟨g, cap, cur, h1, Nat.le_trans hb h2, h3⟩⟩
/-- make of pairs -/
theorem wpList_make_two {P : Program} {w : World} {ops : Array Oper} {rest : List Oper} {o : Oper} {a : Act} {Q : Exit → Act → World → Prop} (hgd : o.guard = none) (t : TypeId) (x y : Operand) (ho : o.op = .makeSlice t x y) (e : TypeId) (i : TypeInfo) (z u : Value) (hu : P.underlying t = some (.slice e)) (hi : P.info? e = some i) (hz : i.zero = some z)
    (hsize : i.size = 2) (hzc : z.cells = #[u, u]) (n : Nat) (hx : a.eval x = .int .i64 n) (hy : a.eval y = .int .i64 n) (hbytes : i.bytes * n ≤ 281474976710656) (h63 : n ≤ maxLen) (g : Nat) (hg : w.heap.size = g)
    (h : ∀ w', Bk w' g e (List.replicate (2 * n) u) → Fresh w w' → w'.heap.size = g + 1 → wpList P ops Q rest (a.put o.dst (.slice (some ⟨g, 0, none⟩) n n)) w') : wpList P ops Q (o :: rest) a w := by
  refine wpList_plain hgd fun K hK => ?_
  subst hg
  have h63' : (n : Int) ≤ 9223372036854775807 := by
    have h := h63
    simp [maxLen] at h
    omega
  have hb' : (i.bytes : Int) * (n : Int) ≤ 281474976710656 := by
    have h : ((i.bytes * n : Nat) : Int) ≤ 281474976710656 := by omega
    rwa [Int.natCast_mul] at h
  have hr := run_make (P := P) w t e i z hu hi hz .i64 .i64 n n (by omega) (Int.le_refl _) hb' h63'
  simp only [Int.toNat_natCast] at hr
  unfold Oper.wp execOp
  simp only [ho, hx, hy, Sem.run_bind, hr, Result.andThen_ok]
  refine hK _ _ (h _ ?_ (Fresh.alloc _ _) (by simp))
  have h2 := Bk.made w e (madeCells z.cells (n * i.size))
  have e2 : (madeCells #[u, u] (n * 2)).toList = List.replicate (2 * n) u := by
    apply List.ext_getElem?
    intro j
    by_cases hj : j < 2 * n
    · have h3 : j % 2 = 0 ∨ j % 2 = 1 := by omega
      have h4 : j < n * 2 := by omega
      rcases h3 with h3 | h3 <;> simp [madeCells, hj, h4, h3]
    · have h4 : ¬ j < n * 2 := by omega
      simp [madeCells, hj, h4]
  rw [hzc, hsize, e2] at h2
  rw [hzc, hsize]
  exact h2

/-- a Code of the lengths ls lies at block g, in the blocks bl -/
def codeBl (g d : Nat) (R : Nat → Sl) : List Nat := g :: d :: (List.range 16).flatMap fun k => (R k).val.ownBlock.toList
def CodeAt (w : World) (g : Nat) (ls : List Nat) (bl : List Nat) : Prop := ∃ R d, bl = codeBl g d R ∧ Mid w 0 g ls R (Es ls 16) d ls.length (Fs ls 16 0)
theorem mem_codeBl {g d : Nat} {R : Nat → Sl} {k b : Nat} (hk : k < 16) (h : (R k).val.ownBlock = some b) : b ∈ codeBl g d R := by
  unfold codeBl
  refine List.mem_cons_of_mem _ (List.mem_cons_of_mem _ (List.mem_flatMap.2 ⟨k, List.mem_range.2 hk, ?_⟩))
  rw [h]; simp
theorem of_codeBl {g d : Nat} {R : Nat → Sl} {b : Nat} (h : b ∈ codeBl g d R) : b = g ∨ b = d ∨ ∃ k, k < 16 ∧ (R k).val.ownBlock = some b := by
  unfold codeBl at h
  rcases List.mem_cons.1 h with h | h
  · exact .inl h
  · rcases List.mem_cons.1 h with h | h
    · exact .inr (.inl h)
    · obtain ⟨k, hk, hb⟩ := List.mem_flatMap.1 h
      exact .inr (.inr ⟨k, List.mem_range.1 hk, by simpa using hb⟩)
theorem CodeAt.keep {w w' : World} {g : Nat} {ls bl : List Nat} (h : CodeAt w g ls bl) (hk : ∀ b ∈ bl, w'.heap[b]? = w.heap[b]?) : CodeAt w' g ls bl := by
  obtain ⟨R, d, rfl, h⟩ := h
  refine ⟨R, d, rfl, { h with all := h.all.old (hk g (by simp [codeBl])), own := fun i hi => ?_, codes := h.codes.old (hk d (by simp [codeBl])) }⟩
  have ho := h.own i hi
  refine ⟨ho.1, ?_⟩
  rcases ho.2 with h2 | ⟨q, cap, cur, hv, hb, hg, r⟩
  · exact .inl h2
  · refine .inr ⟨q, cap, cur, hv, hb, ?_, r⟩
    rw [hk q (mem_codeBl hi (by unfold Sl.val; rw [hv]; rfl))]
    exact hg
theorem CodeAt.inside {w : World} {g : Nat} {ls bl : List Nat} (h : CodeAt w g ls bl) : ∀ b ∈ bl, b < w.heap.size := by
  obtain ⟨R, d, rfl, h⟩ := h
  intro b hb
  rcases of_codeBl hb with rfl | rfl | ⟨k, hk, hb⟩
  · exact h.all.inside
  · exact h.codes.inside
  · exact (World.ownsRow.lt (h.own k hk) b hb).2
theorem CodeAt.fresh {w w' : World} {g : Nat} {ls bl : List Nat} (h : CodeAt w g ls bl) (k : Fresh w w') : CodeAt w' g ls bl := h.keep fun b hb => k.block b (h.inside b hb)
theorem CodeAt.turn {S S' : List Nat} {w w' : World} {g : Nat} {ls bl : List Nat} (h : CodeAt w g ls bl) (k : Turn S S' w w') (hS : ∀ b ∈ bl, b ∉ S) : CodeAt w' g ls bl := h.keep fun b hb => k.block b (h.inside b hb) (hS b hb)
theorem Mid.code {w0 w : World} {g d : Nat} {ls : List Nat} {R : Nat → Sl} (h : Mid w w0.heap.size g ls R (Es ls 16) d ls.length (Fs ls 16 0)) (hf : Fresh w0 w) : ∃ bl, CodeAt w g ls bl ∧ Since w0 w bl := by
  refine ⟨codeBl g d R, ⟨R, d, rfl, { h with gb := Nat.zero_le _, db := Nat.zero_le _, own := fun i hi => Own.low0 (h.own i hi) (Nat.zero_le _) }⟩, hf, fun b hb => ?_⟩
  rcases of_codeBl hb with rfl | rfl | ⟨k, hk, hb⟩
  · exact h.gb
  · exact h.db
  · exact (World.ownsRow.lt (h.own k hk) b hb).1

/-- what New tells -/
def NewIs (w : World) (zs : List Int) (e : Ending) (w' : World) : Prop :=
  ((∃ z ∈ zs, z < 0 ∨ 15 < z) ∧ e = .returned (.tuple #[.pointer none, .int .i64 1]) ∧ Fresh w w') ∨
  ((∀ z ∈ zs, 0 ≤ z ∧ z ≤ 15) ∧ 32768 < tx (zs.map Int.toNat) 15 ∧ e = .returned (.tuple #[.pointer none, .int .i64 12]) ∧ Fresh w w') ∨
  ((∀ z ∈ zs, 0 ≤ z ∧ z ≤ 15) ∧ tx (zs.map Int.toNat) 15 ≤ 32768 ∧ ∃ g bl, e = .returned (.tuple #[.pointer (some ⟨g, 0, none⟩), .int .i64 0]) ∧ CodeAt w' g (zs.map Int.toNat) bl ∧ Since w w' bl)

theorem new_many (A : Option Addr) (n c : Nat) (w : World) (hn : 320 < n) (hm : n ≤ maxLen) :
    Calls Tryd.prog 38 #[.slice A n c] w fun e w' => e = .returned (.tuple #[.pointer none, .int .i64 1]) ∧ Fresh w w' := by
  go_enter Tryd.func38, Tryd.ntmps38
  go_wp2
  go_ret2
  exact ⟨rfl, Fresh.refl _⟩

theorem info_pair : (Tryd.prog.info? 133).map (fun i => (i.zero, i.size, i.bytes)) = some (some (.agg #[.int .i64 0, .int .i64 0]), 2, 16) := by kernel_rfl
theorem lst_more {ls : List Nat} {j k : Nat} (h : ls[j]? = some k) (h1 : 1 ≤ k) : lst (ls.take (j + 1)) k = lst (ls.take j) k ++ [j] := by
  rw [lst_pos _ h1, lst_pos _ h1, syms_more h, if_pos rfl]
theorem lst_rest {ls : List Nat} {j k i : Nat} (h : ls[j]? = some k) (hi : i ≠ k ∨ k = 0) : lst (ls.take (j + 1)) i = lst (ls.take j) i := by
  unfold lst
  split
  · rfl
  · rw [syms_more h, if_neg (by omega), List.append_nil]

set_option maxRecDepth 100000 in
theorem new_any (A : Option Addr) (n c : Nat) (zs : List Int) (w : World) (B : Nat) (hr : Rd w B A n (zs.map iv)) (hB : B ≤ w.heap.size) (hn : n ≤ 320) :
    Calls Tryd.prog 38 #[.slice A n c] w (NewIs w zs) := by
  obtain ⟨i0, hi0, hz0, hz1, hz2⟩ := info_parts info_int
  obtain ⟨i1, hj0, hy0, hy1, hy2⟩ := info_parts info_pair
  have hlz : zs.length = n := by have := hr.1; rwa [List.length_map] at this
  have HLZ := Lib.hid hlz
  clear hlz
  go_enter Tryd.func38, Tryd.ntmps38
  go_wp2_with (first
    | (with_reducible (refine at_slot_ 12 ?_); refine wpList_make_two rfl 96 (.tmp 11) (.tmp 11) rfl 133 i1 _ (.int .i64 0) Tryd.underlying96 hj0 hy0 hy1 rfl n rfl rfl (by rw [hy2]; omega) (by unfold maxLen; omega) w.heap.size rfl ?_; intro w1 hb1 hf1 hs1)
    | (with_reducible (refine at_slot_ 13 ?_); refine wpList_buildTo (o := ⟨some 13, _, _, _, _, _⟩) rfl 100 #[(2, .tmp 12)] rfl (some 13) rfl (cells (fun _ => Sl.nil) (fun _ => 0) ⟨some ⟨w.heap.size, 0, none⟩, n, n⟩).toArray (by kernel_rfl) ?_))
  have hM0 : Mid (w1.alloc (.cells (cells (fun _ => Sl.nil) (fun _ => 0) ⟨some ⟨w.heap.size, 0, none⟩, n, n⟩).toArray tCode)) w.heap.size (w.heap.size + 1) [] (fun _ => Sl.nil) (fun _ => 0) w.heap.size n (fun _ => (0, 0)) := by
    have h1 := Bk.made w1 tCode (cells (fun _ => Sl.nil) (fun _ => 0) ⟨some ⟨w.heap.size, 0, none⟩, n, n⟩).toArray
    rw [hs1] at h1
    refine ⟨h1, fun k hk => ?_, fun k hk => ?_, fun i k _ _ _ b hb => by simp [Sl.nil, Sl.val, Value.ownBlock] at hb, ?_, by omega, Nat.le_refl _, by omega⟩
    · unfold lst; split <;> simp [Sl.nil, syms]
    · have : nv (lst [] k) = [] := by unfold lst; split <;> simp [syms]
      rw [this]
      exact Own.nil _ _ _
    · rw [pairs_zero]; exact hb1.alloc _
  have hf0 : Fresh w (w1.alloc (.cells (cells (fun _ => Sl.nil) (fun _ => 0) ⟨some ⟨w.heap.size, 0, none⟩, n, n⟩).toArray tCode)) := hf1.trans (Fresh.alloc _ _)
  have HM0 := Lib.hid hM0
  clear hM0 hb1
  go_loopw [17] (fun i wr => ∃ (j : Nat) (R : Nat → Sl), j ≤ n ∧ i = .int .i64 j ∧ Hid (∀ z ∈ zs.take j, 0 ≤ z ∧ z ≤ 15) ∧ Mid wr w.heap.size (w.heap.size + 1) ((zs.map Int.toNat).take j) R (fun _ => 0) w.heap.size n (fun _ => (0, 0)) ∧ Fresh w wr) (fun i _ => n - (intOf i).toNat)
  case atStart => exact ⟨0, _, by omega, rfl, by simp [Hid], by rw [List.take_zero]; exact HM0.out, hf0⟩
  case round =>
    obtain ⟨j, R, hj, rfl, hok, hM, hfr⟩ := hrel
    by_cases hlt : j < n
    · obtain ⟨b, off, z, rfl, hb, hx, hcx⟩ := (hr.below hfr hB).at_ hlt
      have HX := Lib.hid hx
      clear hx
      by_cases hz1' : z < 0
      · go_wp2
        go_ret2
        exact .inl ⟨⟨z, List.mem_of_getElem? HX.out, .inl hz1'⟩, rfl, hfr⟩
      · by_cases hz2' : 15 < z
        · go_wp2
          go_ret2
          exact .inl ⟨⟨z, List.mem_of_getElem? HX.out, .inr hz2'⟩, rfl, hfr⟩
        · obtain ⟨k, rfl⟩ := Int.eq_ofNat_of_zero_le (Int.not_lt.1 hz1')
          have hk15 : k < 16 := by omega
          have hls : (zs.map Int.toNat)[j]? = some k := by rw [List.getElem?_map, HX.out]; rfl
          have hok2 : Hid (∀ z ∈ zs.take (j + 1), 0 ≤ z ∧ z ≤ 15) := by
            intro z hz
            rw [take_one_more _ _ _ HX.out] at hz
            rcases List.mem_append.1 hz with hz | hz
            · exact hok.out z hz
            · rw [List.mem_singleton] at hz; subst hz; omega
          have HLS := Lib.hid hls
          clear hls hz1' hz2'
          by_cases hk0 : k = 0
          · subst hk0
            go_wp2
            go_roundw
            case rel =>
              refine ⟨j + 1, R, by omega, by go_num, hok2, ?_, hfr⟩
              exact { hM with len := fun i hi => by rw [lst_rest HLS.out (.inr rfl)]; exact hM.len i hi, own := fun i hi => by rw [lst_rest HLS.out (.inr rfl)]; exact hM.own i hi }
            case measure => simp [intOf]; omega
          · have hk0' : 0 < k := by omega
            obtain ⟨L, hL⟩ : ∃ L, R k = L := ⟨_, rfl⟩
            have hlen := hM.len k hk15
            have hown := hM.own k hk15
            have hcl := hM.all.cell (cells_list R (fun _ => 0) ⟨some ⟨w.heap.size, 0, none⟩, n, n⟩ hk15)
            have hfl := hM.all.free k
            have hgd := hM.gd k hk15
            have hgi := hM.all.inside
            rw [hL] at hlen hown hcl hgd
            obtain ⟨LA, N, lc⟩ := L
            simp only [Sl.val] at hlen hown hcl hgd
            have hN : N ≤ 320 := by
              rw [hlen, lst_len (by omega)]
              have := List.count_le_length (a := k) (l := (zs.map Int.toNat).take j)
              rw [List.length_take] at this
              omega
            have hki0 : (0 : Int) ≤ (k : Int) := by omega
            have hki1 : (k : Int) < 16 := by omega
            have hci : (cells R (fun _ => 0) ⟨some ⟨w.heap.size, 0, none⟩, n, n⟩)[k]? = some (.slice LA N lc) := by
              rw [cells_list R _ _ hk15, hL]; rfl
            have HCI := Lib.hid hci
            have HB := Lib.hid hM.all
            clear hci
            have HL := Lib.hid hL
            have HLEN := Lib.hid hlen
            have HOWN := Lib.hid hown
            have HM := Lib.hid hM
            have HR := Lib.hid hr
            clear hL hlen hown hM hr
            go_wp2
            have hc1 := (HB.out.fresh (Fresh.drew _)).cell HCI.out
            have hc2 := (HB.out.fresh ((Fresh.alloc wr (.cells #[.int .i64 (j : Int)] 3)).trans (Fresh.drew _))).cell HCI.out
            go_region_law ((refine step_append_lies _ (by rfl) _ _ _ (by rfl) w.heap.size 3 i0 _ 1 8 Tryd.underlying42 hi0 hz0 hz1 hz2 rfl (by omega) (.slice LA N lc) N _ (by rfl) ((HOWN.out.alloc _).drew) ⟨wr.heap.size, 0, none⟩ 1 1 [.int .i64 (j : Int)] (by rfl) (by rfl) (World.news_of_block (cs := #[.int .i64 (j : Int)]) (t := 3) (fr := (0, 0)) (heap_alloc_new wr _)) (by simp [Value.oneCell']) (by omega) (by unfold maxLen; omega) (by omega) (by have := hfr.size; simp; omega) (wr.heap.size + 1) (by simp) ?_; intro gg cap w2 hown1 hgrow hat hlt2; have hc3 := ((HB.out.fresh ((Fresh.alloc _ _).trans (Fresh.drew _))).grown hgrow hgd).cell HCI.out; have hf3 := ((HB.out.fresh ((Fresh.alloc _ _).trans (Fresh.drew _))).grown hgrow hgd).free k))
            all_goals
              have hgr := Mid.grow (ls' := (zs.map Int.toNat).take (j + 1)) (HM.out.fresh ((Fresh.alloc wr (.cells #[.int .i64 (j : Int)] 3)).trans (Fresh.drew _))) hk15 (w1 := w2) (g1 := gg) (cap := cap) (xs := [])
                (by rw [HL.out, lst_more HLS.out (by omega), nv, List.map_append]; exact hown1)
                (by rw [HL.out, lst_more HLS.out (by omega), List.length_append, ← HLEN.out]; rfl)
                (fun i hi hik => lst_rest HLS.out (.inl hik))
                (by rw [HL.out]; exact hgrow)
                (by rw [HL.out]; exact hat.imp id fun e => by simp [e])
              rw [HL.out] at hgr
              have hfr2 : Fresh w w2 := (hfr.trans ((Fresh.alloc wr (.cells #[.int .i64 (j : Int)] 3)).trans (Fresh.drew _))).append (Own.fresh HOWN.out ((Fresh.alloc _ _).trans (Fresh.drew _))) (Nat.le_refl _) hgrow
              have hfr3 := hfr2.but (g := w.heap.size + 1) (by omega) (But.put (g := w.heap.size + 1) (i := k) w2 (.slice (some ⟨gg, 0, none⟩) (N + 1) cap))
              have HGR := Lib.hid hgr
              clear hgr hown1 hgrow hat
              go_wp2
              go_roundw
              case rel => exact ⟨j + 1, _, by omega, by go_num, hok2, HGR.out, hfr3⟩
              case measure => simp [intOf]; omega
    · obtain rfl : j = n := by omega
      have hall : ∀ z ∈ zs, 0 ≤ z ∧ z ≤ 15 := by
        have := hok.out
        rwa [List.take_of_length_le (Nat.le_of_eq HLZ.out)] at this
      have HALL := Lib.hid hall
      rw [List.take_of_length_le (by rw [List.length_map, HLZ.out]; omega)] at hM
      clear hall
      obtain ⟨T, hT⟩ : ∃ T, tx (zs.map Int.toNat) 15 = T := ⟨_, rfl⟩
      have HT := Lib.hid hT
      clear hT
      by_cases hov : 32768 < T
      · go_wp2_with (go_at_call 62; refine (share_any w.heap.size (w.heap.size + 1) w.heap.size j (zs.map Int.toNat) R wr hM (by rw [List.length_map, HLZ.out]) hn).mono ?_; rintro e w3 ⟨rfl, hM3, hT3⟩; have hc15 : w3.cell? ⟨w.heap.size + 1, 31, none⟩ = some (.int .i64 (T : Int)) := (by have := hM3.all.cell (cells_end R (Es (zs.map Int.toNat) 16) ⟨some ⟨w.heap.size, 0, none⟩, j, j⟩ (k := 15) (by omega)); rw [Es, if_pos (by omega), HT.out] at this; exact this))
        go_ret2
        exact .inr (.inl ⟨HALL.out, by rw [HT.out]; exact hov, rfl, hT3.new hfr (by simp)⟩)
      · go_wp2_with (go_at_call 62; refine (share_any w.heap.size (w.heap.size + 1) w.heap.size j (zs.map Int.toNat) R wr hM (by rw [List.length_map, HLZ.out]) hn).mono ?_; rintro e w3 ⟨rfl, hM3, hT3⟩; have hc15 : w3.cell? ⟨w.heap.size + 1, 31, none⟩ = some (.int .i64 (T : Int)) := (by have := hM3.all.cell (cells_end R (Es (zs.map Int.toNat) 16) ⟨some ⟨w.heap.size, 0, none⟩, j, j⟩ (k := 15) (by omega)); rw [Es, if_pos (by omega), HT.out] at this; exact this))
        go_ret2
        have hl : j = (zs.map Int.toNat).length := by rw [List.length_map, HLZ.out]
        rw [hl] at hM3
        obtain ⟨bl, hC, hS⟩ := hM3.code (hT3.new hfr (by simp))
        exact .inr (.inr ⟨HALL.out, by rw [HT.out]; omega, w.heap.size + 1, bl, rfl, hC, hS⟩)
end Go.Proofs.YtlaecigjnknhoaaDoor.huffp
