/-
  The contracts of write and Text: a moment as a text. My own text.
-/
import Derived.Test.YtgmpdkkpmgedjaaDosRight
import Derived.Test.YtgmpdkkpmgedjaaDosTxt
import Derived.Test.YtgmpdkkpmgedjaaStore
import Derived.Lib.SmallJoins
import Derived.Laws.BytesString
import Derived.Laws.Cells
namespace Go.Proofs.Ytgmpdkkpmgedjaa.dosnum
set_option linter.unusedVariables false
/-- the six numbers -/
def numj (m : Mo) : Nat → Int
  | 0 => m.y | 1 => m.mo | 2 => m.d | 3 => m.h | 4 => m.mi | _ => m.s
theorem numj_bd {m : Mo} (r : Right m) (j : Nat) : 0 ≤ numj m j ∧ numj m j ≤ 2107 := by
  obtain ⟨a, b, c, d, e, f, g, h, i, jj, k, l⟩ := r
  have := days_bd m.y m.mo
  unfold numj
  split <;> omega
/-- a byte of the text -/
def lngAt (m : Mo) (i : Nat) : UInt8 := if shp.getD i 0 = 48 then UInt8.ofNat (48 + (numj m (wh i) / ((10 ^ (st (wh i) + ln (wh i) - 1 - i) : Nat) : Int) % 10).toNat) else shp.getD i 0
def long (m : Mo) : List UInt8 := (List.range 19).map (lngAt m)
/-- how many digits of a number stand from place k on -/
def cnt (k j : Nat) : Nat := min (ln j) (st j + ln j - k)
theorem cnt_digit : ∀ p : Fin 19, shp[p.1]? = some 48 → cnt (p.1 + 1) (wh p.1) = st (wh p.1) + ln (wh p.1) - 1 - p.1 ∧ cnt p.1 (wh p.1) = cnt (p.1 + 1) (wh p.1) + 1 := by decide
theorem cnt_apart : ∀ p : Fin 19, ∀ j : Fin 6, (shp[p.1]? ≠ some 48 ∨ j.1 ≠ wh p.1) → cnt p.1 j.1 = cnt (p.1 + 1) j.1 := by decide
theorem cnt_end : ∀ j : Fin 6, cnt 19 j.1 = 0 := by decide
/-- the bytes, and the numbers, when the places from k on have been written -/
def byteW (m : Mo) (k : Nat) : List UInt8 := (List.range 19).map fun i => if i < k then shp.getD i 0 else lngAt m i
def cellsW (m : Mo) (k : Nat) : List Value := (List.range 6).map fun j => .int .i64 (numj m j / ((10 ^ cnt k j : Nat) : Int))
theorem byteW_len (m : Mo) (k : Nat) : (byteW m k).length = 19 := by simp [byteW]
theorem byteW_get (m : Mo) (k : Nat) {i : Nat} (h : i < 19) : (byteW m k)[i]? = some (if i < k then shp.getD i 0 else lngAt m i) := by simp [byteW, h]
theorem byteW_all (m : Mo) : byteW m 19 = shp := by
  refine List.ext_getElem? fun i => ?_
  by_cases hi : i < 19
  · rw [byteW_get m 19 hi, if_pos hi, List.getD_eq_getElem?_getD, List.getElem?_eq_getElem (show i < shp.length from hi)]
    rfl
  · rw [List.getElem?_eq_none (by rw [byteW_len]; omega), List.getElem?_eq_none (by show 19 ≤ i; omega)]
theorem byteW_none (m : Mo) : byteW m 0 = long m := by simp [byteW, long]
theorem byteW_set (m : Mo) {p : Nat} (h : p < 19) : (byteW m (p + 1)).set p (lngAt m p) = byteW m p := by
  refine List.ext_getElem? fun i => ?_
  by_cases hi : i < 19
  · rw [List.getElem?_set, byteW_len, byteW_get m (p + 1) hi, byteW_get m p hi]
    by_cases e : p = i
    · subst e
      rw [if_pos rfl, if_pos hi, if_neg (Nat.lt_irrefl _)]
    · rw [if_neg e]
      by_cases h2 : i < p
      · rw [if_pos h2, if_pos (by omega)]
      · rw [if_neg h2, if_neg (by omega)]
  · rw [List.getElem?_eq_none (by rw [List.length_set, byteW_len]; omega), List.getElem?_eq_none (by rw [byteW_len]; omega)]
theorem byteW_sign (m : Mo) {p : Nat} (h : p < 19) (hs : shp.getD p 0 ≠ 48) : byteW m p = byteW m (p + 1) := by
  simp only [byteW]
  refine List.map_congr_left fun i hi => ?_
  by_cases e : i = p
  · subst e
    rw [if_neg (Nat.lt_irrefl _), if_pos (Nat.lt_succ_self _), lngAt, if_neg hs]
  · by_cases h2 : i < p
    · rw [if_pos h2, if_pos (by omega)]
    · rw [if_neg h2, if_neg (by omega)]
theorem cellsW_len (m : Mo) (k : Nat) : (cellsW m k).length = 6 := by simp [cellsW]
theorem cellsW_get (m : Mo) (k : Nat) {j : Nat} (h : j < 6) : (cellsW m k)[j]? = some (.int .i64 (numj m j / ((10 ^ cnt k j : Nat) : Int))) := by simp [cellsW, h]
theorem cellsW_all (m : Mo) : cellsW m 19 = [.int .i64 m.y, .int .i64 m.mo, .int .i64 m.d, .int .i64 m.h, .int .i64 m.mi, .int .i64 m.s] := by
  have h : cellsW m 19 = (List.range 6).map fun j => .int .i64 (numj m j) := by
    simp only [cellsW]
    refine List.map_congr_left fun j hj => ?_
    rw [cnt_end ⟨j, List.mem_range.1 hj⟩]
    simp
  rw [h]
  rfl
theorem cellsW_sign (m : Mo) {p : Nat} (h : p < 19) (hs : shp[p]? ≠ some 48) : cellsW m p = cellsW m (p + 1) := by
  simp only [cellsW]
  refine List.map_congr_left fun j hj => ?_
  rw [cnt_apart ⟨p, h⟩ ⟨j, List.mem_range.1 hj⟩ (Or.inl hs)]
theorem cellsW_set (m : Mo) {p : Nat} (h : p < 19) (hs : shp[p]? = some 48) : (cellsW m (p + 1)).set (wh p) (.int .i64 (numj m (wh p) / ((10 ^ cnt (p + 1) (wh p) : Nat) : Int) / 10)) = cellsW m p := by
  refine List.ext_getElem? fun j => ?_
  by_cases hj : j < 6
  · rw [List.getElem?_set, cellsW_len, cellsW_get m (p + 1) hj, cellsW_get m p hj]
    have := wh_le p
    by_cases e : wh p = j
    · rw [if_pos e, if_pos (by omega), ← e, (cnt_digit ⟨p, h⟩ hs).2]
      congr 2
      rw [Nat.pow_succ, Int.natCast_mul, ← Int.ediv_ediv_of_nonneg (Int.natCast_nonneg _)]
      rfl
    · rw [if_neg e, cnt_apart ⟨p, h⟩ ⟨j, hj⟩ (Or.inr (fun h => e h.symm))]
  · rw [List.getElem?_eq_none (by rw [List.length_set, cellsW_len]; omega), List.getElem?_eq_none (by rw [cellsW_len]; omega)]
theorem numj_div {m : Mo} (r : Right m) (j c : Nat) : 0 ≤ numj m j / ((10 ^ c : Nat) : Int) ∧ numj m j / ((10 ^ c : Nat) : Int) ≤ 2107 := by
  have h := numj_bd r j
  have h1 : (1 : Int) ≤ ((10 ^ c : Nat) : Int) := by have : 1 ≤ 10 ^ c := Nat.pow_pos (by omega); omega
  refine ⟨Int.ediv_nonneg h.1 (by omega), Int.le_trans (Int.ediv_le_self _ h.1) h.2⟩
/-- the digit that is written -/
theorem lngAt_is (m : Mo) {p : Nat} (h : p < 19) (hs : shp[p]? = some 48) (N : Int) (hN : numj m (wh p) / ((10 ^ cnt (p + 1) (wh p) : Nat) : Int) = N) (h0 : 0 ≤ N) : ((lngAt m p).toNat : Int) = 48 + N % 10 := by
  rw [(cnt_digit ⟨p, h⟩ hs).1] at hN
  simp only at hN
  unfold lngAt
  rw [if_pos (by rw [List.getD_eq_getElem?_getD, hs]; rfl), hN, UInt8.toNat_ofNat']
  omega
end Go.Proofs.Ytgmpdkkpmgedjaa.dosnum
namespace Go.Proofs.Ytgmpdkkpmgedjaa.dosp
open Go.RowKit Go.Proofs.Ytgmpdkkpmgedjaa.base Go.Proofs.Ytgmpdkkpmgedjaa.num Go.Proofs.Ytgmpdkkpmgedjaa.bitnum Go.Proofs.Ytgmpdkkpmgedjaa.dosnum
set_option linter.unusedVariables false

/-- a block that is known whole, a part of it frozen -/
def BkM (w : World) (g : Nat) (t : TypeId) (cs : List Value) (fr : Nat × Nat) : Prop := w.heap[g]? = some (.cells cs.toArray t fr)
theorem BkM.cell {w : World} {g : Nat} {t : TypeId} {cs : List Value} {fr : Nat × Nat} (h : BkM w g t cs fr) {i : Nat} {v : Value} (hv : cs[i]? = some v) : w.cell? ⟨g, i, none⟩ = some v := by
  rw [cell_of_row w g i _ t fr h, ← hv, List.getElem?_toArray]
theorem BkM.free {w : World} {g : Nat} {t : TypeId} {cs : List Value} {fr : Nat × Nat} (h : BkM w g t cs fr) {i : Nat} (hi : i < fr.1) : w.frozen? ⟨g, i, none⟩ = false := by
  have h' : w.heap[g]? = some (.cells cs.toArray t fr) := h
  simp only [World.frozen?, h']
  simp
  omega
theorem BkM.inside {w : World} {g : Nat} {t : TypeId} {cs : List Value} {fr : Nat × Nat} (h : BkM w g t cs fr) : g < w.heap.size := (Array.getElem?_eq_some_iff.1 h).1
theorem BkM.put {w : World} {g : Nat} {t : TypeId} {cs : List Value} {fr : Nat × Nat} (h : BkM w g t cs fr) (i : Nat) (u : Value) : BkM (w.setCell ⟨g, i, none⟩ u) g t (cs.set i u) fr := by
  have h' : w.heap[g]? = some (.cells cs.toArray t fr) := h
  simp [BkM, World.setCell, Array.getElem?_modify, h']
theorem BkM.apart {w : World} {g : Nat} {t : TypeId} {cs : List Value} {fr : Nat × Nat} (h : BkM w g t cs fr) {p : Addr} (hp : g ≠ p.block) (u : Value) : BkM (w.setCell p u) g t cs fr := (Below.heap_setCell w p u g hp).trans h
theorem BkM.fresh {w w' : World} {g : Nat} {t : TypeId} {cs : List Value} {fr : Nat × Nat} (h : BkM w g t cs fr) (hb : Fresh w w') : BkM w' g t cs fr := (hb.block g h.inside).trans h
theorem BkM.made (w : World) (t : TypeId) (cs : Array Value) (fr : Nat × Nat) : BkM (w.alloc (.cells cs t fr)) w.heap.size t cs.toList fr := by
  have := heap_alloc_new w (.cells cs t fr)
  simpa [BkM] using this
/-- the bytes of a row, as a string -/
theorem run_str {P : Program} (w : World) (src dst e : TypeId) (hs : P.underlying src = some (.slice e)) (he : P.underlying e = some (.int .u8)) (hd : P.underlying dst = some .string) (g c n : Nat) (bs : List UInt8) (hn : bs.length = n)
    (h : ∀ j v, bs[j]? = some v → w.cell? ⟨g, j, none⟩ = some (bv v)) : (convert src dst (.slice (some ⟨g, 0, none⟩) n c)).run P w = .ok (.string ⟨bs.toArray⟩) w := by
  subst hn
  rw [run_convert_bytes_string w src dst e _ _ _ hs he hd]
  have hl := run_loadCells_list (w := w) (P := P) ⟨g, 0, none⟩ (bs.map bv) fun j v hv => by
    rw [List.getElem?_map, Option.map_eq_some_iff] at hv
    obtain ⟨x, hx, rfl⟩ := hv
    have := h j x hx
    have hadd : (⟨g, 0, none⟩ : Addr).add j = ⟨g, 0 + j, none⟩ := by unfold Addr.add; split <;> simp_all
    rw [hadd, Nat.zero_add]
    exact this
  rw [List.length_map] at hl
  have e1 : bs.map bv = (bs.map fun x => (x.toNat : Int)).map (Value.int .u8) := by simp [Function.comp_def]
  rw [e1] at hl
  rw [run_bytesToString w ⟨g, 0, none⟩ bs.length c _ hl]
  congr 2
  have key : ∀ (l : List UInt8) (r : ByteArray), ((l.map fun x => (x.toNat : Int)).foldl (fun r n => r.push (UInt8.ofNat n.toNat)) r) = ⟨r.data ++ l.toArray⟩ := by
    intro l
    induction l with
    | nil => intro r; simp
    | cons x l ih =>
      intro r
      simp only [List.map_cons, List.foldl_cons]
      rw [ih]
      simp [ByteArray.push]
  rw [key]
  simp [ByteArray.empty, ByteArray.emptyWithCapacity]
  rfl
set_option maxHeartbeats 4000000 in
theorem write_any (m : Mo) (r : Right m) (w : World) : Calls Try.prog 22 #[momV m] w fun e w' => e = .returned (.string ⟨(long m).toArray⟩) ∧ Fresh w w' := by
  obtain ⟨cs, hcs⟩ : ∃ cs : Array Value, cs = (momL m).toArray := ⟨_, rfl⟩
  have f1 := Fresh.alloc w (.cells #[.int .i64 m.y, .int .i64 m.mo, .int .i64 m.d, .int .i64 m.h, .int .i64 m.mi, .int .i64 m.s] 25)
  have hn := Bk.made (w.alloc (.cells #[.int .i64 m.y, .int .i64 m.mo, .int .i64 m.d, .int .i64 m.h, .int .i64 m.mi, .int .i64 m.s] 25)) 22 #[.int .i64 m.y, .int .i64 m.mo, .int .i64 m.d, .int .i64 m.h, .int .i64 m.mi, .int .i64 m.s]
  have f2 := f1.trans (Fresh.alloc _ (.cells #[.int .i64 m.y, .int .i64 m.mo, .int .i64 m.d, .int .i64 m.h, .int .i64 m.mi, .int .i64 m.s] 22))
  have hsz : ((w.alloc (.cells #[.int .i64 m.y, .int .i64 m.mo, .int .i64 m.d, .int .i64 m.h, .int .i64 m.mi, .int .i64 m.s] 25)).alloc (.cells #[.int .i64 m.y, .int .i64 m.mo, .int .i64 m.d, .int .i64 m.h, .int .i64 m.mi, .int .i64 m.s] 22)).heap.size = w.heap.size + 1 + 1 := by simp
  have hsz1 : (w.alloc (.cells #[.int .i64 m.y, .int .i64 m.mo, .int .i64 m.d, .int .i64 m.h, .int .i64 m.mi, .int .i64 m.s] 25)).heap.size = w.heap.size + 1 := by simp
  rw [hsz1] at hn
  have hcv := Joins.run_convert_bytes_const_at (P := Try.prog) ((w.alloc (.cells #[.int .i64 m.y, .int .i64 m.mo, .int .i64 m.d, .int .i64 m.h, .int .i64 m.mi, .int .i64 m.s] 25)).alloc (.cells #[.int .i64 m.y, .int .i64 m.mo, .int .i64 m.d, .int .i64 m.h, .int .i64 m.mi, .int .i64 m.s] 22)) 54 5 #[.int .u8 48, .int .u8 48, .int .u8 48, .int .u8 48, .int .u8 45, .int .u8 48, .int .u8 48, .int .u8 45, .int .u8 48, .int .u8 48, .int .u8 32, .int .u8 48, .int .u8 48, .int .u8 58, .int .u8 48, .int .u8 48, .int .u8 58, .int .u8 48, .int .u8 48] 19 19 (w.heap.size + 1 + 1) hsz.symm Try.underlying54 Try.underlying5
  have hbm := BkM.made ((w.alloc (.cells #[.int .i64 m.y, .int .i64 m.mo, .int .i64 m.d, .int .i64 m.h, .int .i64 m.mi, .int .i64 m.s] 25)).alloc (.cells #[.int .i64 m.y, .int .i64 m.mo, .int .i64 m.d, .int .i64 m.h, .int .i64 m.mi, .int .i64 m.s] 22)) 5 (shp.map bv).toArray (19, 20)
  rw [hsz] at hbm
  have f3 := f2.trans (Fresh.alloc _ (.cells (shp.map bv).toArray 5 (19, 20)))
  have hn3 := hn.alloc (.cells (shp.map bv).toArray 5 (19, 20))
  have HN := Lib.hid hn3
  have HBM := Lib.hid hbm
  have HF := Lib.hid f3
  have HR := Lib.hid r
  clear hn hn3 hbm f1 f2 f3 hsz hsz1 hcs r
  go_enter Try.func22, Try.ntmps22
  go_wp2
  go_loopw [4, 6] (fun v i wr => ∃ (k q : Nat), k ≤ 19 ∧ i = .int .i64 ((k : Int) - 1) ∧ v = .int .i64 q ∧ q ≤ 5 ∧ Hid (q = wh k) ∧ BkM wr (w.heap.size + 1 + 1) 5 ((byteW m k).map bv) (19, 20) ∧ Bk wr (w.heap.size + 1) 22 (cellsW m k) ∧ Fresh w wr) (fun _ i _ => (intOf i + 1).toNat)
  case atStart => exact ⟨19, 5, by omega, rfl, rfl, by omega, rfl, by rw [byteW_all]; exact HBM.out, by rw [cellsW_all]; exact HN.out, HF.out⟩
  case round =>
    obtain ⟨k, q, hk, rfl, rfl, hq5, hq, hB, hN, hfr⟩ := hrel
    rcases Nat.eq_zero_or_pos k with rfl | hpos
    · have hs := run_str (P := Try.prog) wr 54 9 5 Try.underlying54 Try.underlying5 Try.underlying9 (w.heap.size + 1 + 1) 19 19 (long m) (by simp [long]) fun j v hv => hB.cell (by rw [byteW_none, List.getElem?_map, hv]; rfl)
      clear hB hN
      go_wp2
      go_ret
      exact ⟨rfl, hfr⟩
    · obtain ⟨p, rfl⟩ : ∃ p, k = p + 1 := ⟨k - 1, by omega⟩
      have e1 : ((p + 1 : Nat) : Int) - 1 = (p : Int) := by omega
      rw [e1]
      have hp0 : (0 : Int) ≤ (p : Int) := by omega
      have hp19 : (p : Int) ≤ 18 := by omega
      have hget := hB.cell (i := p) (by rw [List.getElem?_map, byteW_get m (p + 1) (by omega), if_pos (by omega)]; rfl)
      obtain ⟨s, hs⟩ : ∃ s, shp.getD p 0 = s := ⟨_, rfl⟩
      rw [hs] at hget
      have HB := Lib.hid hB
      have HN := Lib.hid hN
      have HFR := Lib.hid hfr
      clear hB hN hfr
      by_cases h48 : s = 48
      · subst h48
        have hs3 : shp[p]? = some 48 := by rw [← hs, List.getD_eq_getElem?_getD, List.getElem?_eq_getElem (show p < shp.length by show p < 19; omega)]; rfl
        have hw := wh_digit ⟨p, by omega⟩ hs3
        have hq2 : q = wh p := by have := hq.out; have := hw.1; simp only at this; omega
        have hbd := numj_div HR.out (wh p) (cnt (p + 1) (wh p))
        obtain ⟨N, hN⟩ : ∃ N, numj m (wh p) / ((10 ^ cnt (p + 1) (wh p) : Nat) : Int) = N := ⟨_, rfl⟩
        rw [hN] at hbd
        have hc1 := HN.out.cell (cellsW_get m (p + 1) (j := wh p) (by have := wh_le p; omega))
        have hf1 := HN.out.free q
        have hf2 := HB.out.free (i := p) (by simp; omega)
        rw [hN, ← hq2] at hc1
        have hdig := lngAt_is m (by omega) hs3 N hN hbd.1
        have hn1 := hbd.1
        have hn2 := hbd.2
        have e2 : N.tmod 10 = N % 10 := Int.tmod_eq_emod_of_nonneg hn1
        have e3 : IntKind.u8.wrap (N % 10) = N % 10 := by simp [IntKind.wrap, IntKind.signed, IntKind.bits]; omega
        have e4 : IntKind.u8.wrap (48 + N % 10) = 48 + N % 10 := by simp [IntKind.wrap, IntKind.signed, IntKind.bits]; omega
        have q0 : (0 : Int) ≤ (q : Int) := by omega
        have q6 : (q : Int) ≤ 5 := by omega
        have HS3 := Lib.hid hs3
        have HQ2 := Lib.hid hq2
        have HN2 := Lib.hid hN
        have HDIG := Lib.hid hdig
        clear hs3 hw hq2 hbd hN hdig hs
        go_wp2
        go_region
        have eb : (Value.int .u8 (48 + N % 10)) = bv (lngAt m p) := by rw [bv, HDIG.out]
        have hB2 := (HB.out.put p (bv (lngAt m p))).fresh (Fresh.drew _)
        have hN2 := (HN.out.apart (p := ⟨w.heap.size + 1 + 1, p, none⟩) (by simp) (bv (lngAt m p))).fresh (Fresh.drew _)
        have hF2 := (HFR.out.but (by omega) (But.put (g := w.heap.size + 1 + 1) (i := p) wr (bv (lngAt m p)))).trans (Fresh.drew _)
        have hc2 := hN2.cell (cellsW_get m (p + 1) (j := wh p) (by have := wh_le p; omega))
        have hf3 := hN2.free q
        rw [HN2.out, ← HQ2.out] at hc2
        rw [← eb] at hB2 hN2 hF2 hc2 hf3
        have HB2 := Lib.hid hB2
        have HN3 := Lib.hid hN2
        have HF2 := Lib.hid hF2
        have HEB := Lib.hid eb
        clear hB2 hN2 hF2 eb hc1 hf1 hf2 hcv
        have e5 : N.tdiv 10 = N / 10 := Int.tdiv_eq_ediv_of_nonneg hn1
        generalize (wr.setCell ⟨w.heap.size + 1 + 1, p, none⟩ (.int .u8 (48 + N % 10))).drew = V at *
        go_wp2
        have hw := wh_digit ⟨p, by omega⟩ HS3.out
        refine ⟨⟨p, q, by omega, rfl, rfl, by omega, HQ2.out, ?_, ?_, ?_⟩, by simp [intOf] <;> omega⟩
        · have hB3 := HB2.out.apart (p := ⟨w.heap.size + 1, q, none⟩) (by simp) (.int .i64 (N / 10))
          rw [← byteW_set m (by omega), List.map_set, ← HEB.out]
          exact hB3
        · have hN3 := HN3.out.put q (.int .i64 (N / 10))
          rw [HQ2.out] at hN3 ⊢
          rw [← cellsW_set m (by omega) HS3.out, HN2.out]
          exact hN3
        · exact HF2.out.but (by omega) (But.put _ _)
      · have t1 : ((s.toNat : Int) != 48) = true := by
          rw [bne_iff_ne]
          intro h
          exact h48 (UInt8.toNat_inj.1 (by have : (48 : UInt8).toNat = 48 := rfl; omega))
        have hs3 : shp[p]? = some s := by rw [← hs, List.getD_eq_getElem?_getD, List.getElem?_eq_getElem (show p < shp.length by show p < 19; omega)]; rfl
        have hw := wh_sign ⟨p, by omega⟩ s hs3 h48
        simp only at hw
        have hq' := hq.out
        have hq1 : 1 ≤ q := by omega
        have HS3 := Lib.hid hs3
        have H48 := Lib.hid h48
        have HS := Lib.hid hs
        have HW := Lib.hid hw.1
        clear hs3 h48 hs hw hq'
        go_wp2
        have hq2 := hq.out
        have hw2 := HW.out
        refine ⟨⟨p, q - 1, by omega, rfl, by go_num, by omega, by show _ = _; omega, ?_, ?_, HFR.out⟩, by simp [intOf] <;> omega⟩
        · rw [byteW_sign m (by omega) (by rw [HS.out]; exact H48.out)]
          exact HB.out
        · rw [cellsW_sign m (by omega) (by rw [HS3.out]; intro h; injection h with h; exact H48.out h)]
          exact HN.out
end Go.Proofs.Ytgmpdkkpmgedjaa.dosp
