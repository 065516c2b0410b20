/-
  The walk of the law InflateStored. My own text.
-/
import Derived.Test.YtlaecigjnknhoaaDoorInfLaw
import Derived.Test.YtlaecigjnknhoaaDoorOpenRows
namespace Go.Proofs.YtlaecigjnknhoaaDoor.inflateStored
open Go.RowKit Go.Proofs.YtlaecigjnknhoaaDoor.base Go.Proofs.YtlaecigjnknhoaaDoor.num Go.Proofs.YtlaecigjnknhoaaDoor.bitp Go.Proofs.YtlaecigjnknhoaaDoor.infnum Go.Proofs.YtlaecigjnknhoaaDoor.infp
set_option linter.unusedVariables false
/-- what the law has put together of the first j rows -/
def upTo (rows : List (List UInt8)) (j : Nat) : List UInt8 := ((rows.take j).map (infnum.stored false)).flatten
theorem blocks_last (l : List (List UInt8)) (x : List UInt8) : blocks (l ++ [x]) = (l.map (infnum.stored false)).flatten ++ infnum.stored true x := by
  induction l with
  | nil => simp [blocks]
  | cons a r ih =>
    rw [List.cons_append, blocks_cons a (by simp), ih]
    simp [List.append_assoc]
theorem upTo_snoc (rows : List (List UInt8)) (j : Nat) (x : List UInt8) (h : rows[j]? = some x) : upTo rows (j + 1) = upTo rows j ++ infnum.stored false x := by
  unfold upTo
  rw [take_snoc _ _ _ h]
  simp
theorem upTo_all (rows : List (List UInt8)) (j : Nat) (x : List UInt8) (h : rows[j]? = some x) (hl : rows.length = j + 1) : upTo rows j ++ infnum.stored true x = blocks rows := by
  have e : rows = rows.take j ++ [x] := by rw [← take_snoc _ _ _ h, List.take_of_length_le (by omega)]
  rw [e, blocks_last]
  unfold upTo
  rw [← e]
theorem upTo_len (rows : List (List UInt8)) (h : ∀ r ∈ rows, r.length ≤ 500) (j : Nat) : (upTo rows j).length ≤ 505 * j := by
  unfold upTo
  induction j with
  | zero => simp
  | succ j ih =>
    cases hx : rows[j]? with
    | none => rw [List.take_of_length_le (by have := List.getElem?_eq_none_iff.1 hx; omega)]; rw [List.take_of_length_le (by have := List.getElem?_eq_none_iff.1 hx; omega)] at ih; omega
    | some x =>
      rw [take_snoc _ _ _ hx]
      have := h x (List.mem_of_getElem? hx)
      simp [infnum.stored, infnum.ahead]
      simp at ih
      omega
theorem flat_len (rows : List (List UInt8)) (h : ∀ r ∈ rows, r.length ≤ 500) : rows.flatten.length ≤ 500 * rows.length := by
  induction rows with
  | nil => simp
  | cons a r ih =>
    have h1 := h a (by simp)
    have h2 := ih fun r hr => h r (by simp [hr])
    simp only [List.flatten_cons, List.length_append, List.length_cons]
    omega
/-- one row has grown: the other one is as it was, and still another -/
theorem own_beside {w w' : World} {base' n n' c c' : Nat} {e' : TypeId} {A A' : Option Addr} {ys : List Value} (hy : Own w base' e' A' n' c' ys) (hne : ∀ k, (Value.slice A n c).ownBlock = some k → (Value.slice A' n' c').ownBlock ≠ some k) (hg : w.grownBy w' (Value.slice A n c).ownBlock) : Own w' base' e' A' n' c' ys :=
  bitp.Own.turn hy (Turn.of_grown (S := rb A n c) hg (fun g h => by simp [rb, h])) fun b hb e => hne b (by simpa [rb] using hb) e
theorem own_apart {w : World} {base' n n' c c' n1 c1 : Nat} {e' : TypeId} {A A1 A' : Option Addr} {ys : List Value} (hy : Own w base' e' A' n' c' ys) (hne : ∀ k, (Value.slice A n c).ownBlock = some k → (Value.slice A' n' c').ownBlock ≠ some k)
    (h1 : (Value.slice A1 n1 c1).ownBlock = (Value.slice A n c).ownBlock ∨ (Value.slice A1 n1 c1).ownBlock = some w.heap.size) : ∀ k, (Value.slice A1 n1 c1).ownBlock = some k → (Value.slice A' n' c').ownBlock ≠ some k := fun k hk hk' => by
  rcases h1 with h | h
  · exact hne k (by rw [← h]; exact hk) hk'
  · rw [h] at hk
    injection hk with hk
    have := (World.ownsRow.lt hy k hk').2
    omega
theorem step_c {w wr w1 : World} {base base' nb cb na ca n1 c1 : Nat} {e e' : TypeId} {Ab Aa A1 : Option Addr} {xs ys : List Value} (hob : Own wr base e Ab nb cb xs) (hoa : Own wr base' e' Aa na ca ys) (hap : ∀ k, (Value.slice Ab nb cb).ownBlock = some k → (Value.slice Aa na ca).ownBlock ≠ some k) (hfr : Fresh w wr) (hb : w.heap.size ≤ base)
    (hg : wr.grownBy w1 (Value.slice Ab nb cb).ownBlock) (hw : (Value.slice A1 n1 c1).ownBlock = (Value.slice Ab nb cb).ownBlock ∨ (Value.slice A1 n1 c1).ownBlock = some wr.heap.size) :
    Own w1 base' e' Aa na ca ys ∧ (∀ k, (Value.slice A1 n1 c1).ownBlock = some k → (Value.slice Aa na ca).ownBlock ≠ some k) ∧ Fresh w w1 :=
  ⟨own_beside hoa hap hg, own_apart hoa hap hw, hfr.append hob hb hg⟩
theorem step_b {w wr w1 : World} {base base' nb cb na ca n1 c1 : Nat} {e e' : TypeId} {Ab Aa A1 : Option Addr} {xs ys : List Value} (hob : Own wr base e Ab nb cb xs) (hoa : Own wr base' e' Aa na ca ys) (hap : ∀ k, (Value.slice Ab nb cb).ownBlock = some k → (Value.slice Aa na ca).ownBlock ≠ some k) (hfr : Fresh w wr) (hb : w.heap.size ≤ base)
    (obj : Obj) (hg : (wr.alloc obj).grownBy w1 (Value.slice Ab nb cb).ownBlock) (hw : (Value.slice A1 n1 c1).ownBlock = (Value.slice Ab nb cb).ownBlock ∨ (Value.slice A1 n1 c1).ownBlock = some (wr.alloc obj).heap.size) :
    Own w1 base' e' Aa na ca ys ∧ (∀ k, (Value.slice A1 n1 c1).ownBlock = some k → (Value.slice Aa na ca).ownBlock ≠ some k) ∧ Fresh w w1 :=
  step_c (hob.fresh (Fresh.alloc _ _)) (hoa.fresh (Fresh.alloc _ _)) hap (hfr.trans (Fresh.alloc _ _)) hb hg hw
theorem xor_all : ∀ v : Fin 256, bits BinOp.xor IntKind.u8 IntKind.u8.max ((v.1 : Nat) : Int) = 255 - (v.1 : Nat) := by decide +kernel
theorem ahead_vals (last : Bool) (n : Nat) (hn : n < 65536) : (infnum.ahead last n).map bv = [.int .u8 (if last then 1 else 0), .int .u8 ((n : Int) % 256), .int .u8 ((n : Int) / 256), .int .u8 (bits BinOp.xor IntKind.u8 IntKind.u8.max ((n : Int) % 256)), .int .u8 (bits BinOp.xor IntKind.u8 IntKind.u8.max ((n : Int) / 256))] := by
  have h1 := xor_all ⟨n % 256, by omega⟩
  have h2 := xor_all ⟨n / 256, by omega⟩
  simp only at h1 h2
  have e1 : (n : Int) % 256 = ((n % 256 : Nat) : Int) := by omega
  have e2 : (n : Int) / 256 = ((n / 256 : Nat) : Int) := by omega
  rw [e1, e2, h1, h2]
  have u : ∀ k : Nat, k < 256 → bv (UInt8.ofNat k) = .int .u8 (k : Nat) := fun k hk => by
    show Value.int .u8 (((UInt8.ofNat k).toNat : Nat) : Int) = _
    rw [UInt8.toNat_ofNat_of_lt' (by show k < 256; exact hk)]
  unfold infnum.ahead
  simp only [List.map_cons, List.map_nil]
  rw [u _ (by omega), u (n / 256) (by omega), u (255 - n % 256) (by omega), u (255 - n / 256) (by omega)]
  have e3 : ((255 - n % 256 : Nat) : Int) = 255 - ((n % 256 : Nat) : Int) := by omega
  have e4 : ((255 - n / 256 : Nat) : Int) = 255 - ((n / 256 : Nat) : Int) := by omega
  rw [e3, e4]
  cases last <;> rfl
theorem ahead_lit (w : World) (last : Bool) (u : Int) (hu : u = if last then 1 else 0) (n : Nat) (hn : n < 65536) :
    Rd (w.alloc (.cells #[.int .u8 u, .int .u8 ((n : Int) % 256), .int .u8 ((n : Int) / 256), .int .u8 (bits BinOp.xor IntKind.u8 IntKind.u8.max ((n : Int) % 256)), .int .u8 (bits BinOp.xor IntKind.u8 IntKind.u8.max ((n : Int) / 256))] 5)) (w.heap.size + 1) (some ⟨w.heap.size, 0, none⟩) 5 ((infnum.ahead last n).map bv) := by
  subst hu
  rw [ahead_vals last n hn]
  exact Rd.lit w #[.int .u8 (if last then 1 else 0), .int .u8 ((n : Int) % 256), .int .u8 ((n : Int) / 256), .int .u8 (bits BinOp.xor IntKind.u8 IntKind.u8.max ((n : Int) % 256)), .int .u8 (bits BinOp.xor IntKind.u8 IntKind.u8.max ((n : Int) / 256))] 5
set_option maxRecDepth 100000 in
set_option maxHeartbeats 8000000 in
theorem inflateStored_walk (A0 : Option Addr) (n0 c0 : Nat) (x0 : List Row) (w : World) (b0 : InRows w A0 n0 c0 x0) (hO : Ord w) :
    Calls Tryd.prog 5 #[.slice A0 n0 c0] w fun e w' => e = .returned (.bool true) ∧ Below w.heap.size w w' := by
  obtain ⟨i0, hi0, hz0, hz1, hz2⟩ := info_parts info_byte
  obtain ⟨r0, hc0, hm0, hlen⟩ := b0
  have hl : x0.length = n0 := by have := r0.1.1; rwa [List.length_map] at this
  have HLEN := Lib.hid hlen
  have HL := Lib.hid hl
  have HR0 := Lib.hid r0
  have HO := Lib.hid hO
  unfold maxLen at hm0
  clear hlen hl r0 hO
  by_cases hs : 20 < n0
  · go_enter Tryd.func5, Tryd.ntmps5
    go_wp2_with (go_at_call 9; refine (wakes_any _ HO.out).mono ?_; rintro e wA ⟨rfl, hfA⟩)
    go_ret
    exact ⟨rfl, hfA⟩
  by_cases h0 : n0 = 0
  · go_enter Tryd.func5, Tryd.ntmps5
    go_wp2_with (go_at_call 9; refine (wakes_any _ HO.out).mono ?_; rintro e wA ⟨rfl, hfA⟩)
    go_ret
    exact ⟨rfl, hfA⟩
  have hkeep : ∀ W, Fresh w W → Ord W := fun W h => HO.out.keep (h.block _ (Ord.in HO.out))
  have HK := Lib.hid hkeep
  clear hkeep
  have h0b : ((n0 : Int) == 0) = false := by simp; omega
  go_enter Tryd.func5, Tryd.ntmps5
  go_wp2_with (go_at_call 9; refine (wakes_any _ HO.out).mono ?_; rintro e wA ⟨rfl, hfA⟩)
  obtain ⟨rows, hrows⟩ : ∃ rows, x0.map Row.bs = rows := ⟨_, rfl⟩
  have HROWS := Lib.hid hrows
  clear hrows
  go_loopw [3, 4, 23] (fun vb va vi wr => ∃ (j nb cb na ca : Nat) (Ab Aa : Option Addr) (B : List UInt8), j ≤ n0 ∧ vi = .int .i64 j ∧ vb = .slice Ab nb cb ∧ va = .slice Aa na ca ∧ nb ≤ 505 * j ∧ na ≤ 500 * j ∧ Hid (if j < n0 then B = upTo rows j else B = blocks rows) ∧
    Own wr w.heap.size 5 Ab nb cb (B.map bv) ∧ Own wr w.heap.size 5 Aa na ca ((rows.take j).flatten.map bv) ∧ Hid (∀ k, (Value.slice Ab nb cb).ownBlock = some k → (Value.slice Aa na ca).ownBlock ≠ some k) ∧ Hid (∀ r ∈ x0.take j, r.len ≤ 500) ∧ Fresh w wr) (fun _ _ i _ => n0 - (intOf i).toNat)
  case atStart =>
    exact ⟨0, 0, 0, 0, 0, none, none, [], by omega, rfl, rfl, rfl, by omega, by omega, by show _; rw [if_pos (by omega)]; rfl, Own.nil _ _ _, Own.nil _ _ _, fun k hk => (by cases hk), (fun r hr => by cases hr), hfA⟩
  case round =>
    obtain ⟨j, nb, cb, na, ca, Ab, Aa, B, hj, rfl, rfl, rfl, hnb, hna, hB, hob, hoa, hap, h5, hfr⟩ := hrel
    have hsz := hfr.size
    by_cases hlt : j < n0
    · have hw := HR0.out.fresh (Nat.le_refl _) hfr
      obtain ⟨b, off, x, rfl, hb, hx, hcx⟩ := hw.1.at_ hlt
      have hr := hw.2 x (List.mem_of_getElem? hx)
      obtain ⟨hlc, hcm⟩ := HLEN.out x (List.mem_of_getElem? hx)
      have HX := Lib.hid hx
      clear hx hw
      obtain ⟨xa, xl, xc, xb⟩ := x
      simp only [Row.val] at hcx
      simp only at hr hlc hcm
      unfold maxLen at hcm
      by_cases hbig : 500 < xl
      · go_wp2
        go_ret
        exact ⟨rfl, hfr⟩
      · have hrr : ∀ W, Fresh w W → Rd W w.heap.size xa xl (xb.map bv) ∧ W.cell? ⟨b, off + j, none⟩ = some (.slice xa xl xc) := fun W h => ⟨(HR0.out.fresh (Nat.le_refl _) h).2 _ (List.mem_of_getElem? HX.out), by
          exact (World.cell?_of_block ((h.block b hb).trans (hfr.block b hb).symm)).trans hcx⟩
        have HRR := Lib.hid hrr
        have HAP := Lib.hid hap.out
        have HXL : Hid (xb.length = xl) := by have := hr.1; rw [List.length_map] at this; exact this
        have HRX : Hid (rows[j]? = some xb) := by show _ = _; rw [← HROWS.out, List.getElem?_map, HX.out]; rfl
        have HRL : Hid (rows.length = n0) := by show _ = _; rw [← HROWS.out, List.length_map, HL.out]
        clear hrr hap
        by_cases hlast : j + 1 = n0
        · have HLIT := Lib.hid (ahead_lit wr true 1 rfl xl (by omega))
          have hjn : True := trivial
          have hjb : ((j : Int) == (n0 : Int) - 1) = true := by simp; omega
          clear hr
          go_wp2_with (first
            | (at_builtin; refine wpList_append_rdx _ rfl (.tmp 42) (.tmp 56) 22 rfl w.heap.size 5 i0 _ 1 Tryd.underlying22 hi0 hz0 hz1 hz2 rfl Ab nb cb (B.map bv) rfl (hob.fresh (Fresh.alloc _ _)) (wr.heap.size + 1) (some ⟨wr.heap.size, 0, none⟩) 5 5 ((infnum.ahead true xl).map bv) rfl HLIT.out (bv_one _) (by unfold maxLen; omega) (by omega) (by simp; omega) ?_; intro A1 c1 w1 ho1 hg1 hw1; obtain ⟨hoa1, hap1, hf1⟩ := step_b hob hoa HAP.out hfr (Nat.le_refl _) _ hg1 hw1; rw [← List.map_append] at ho1; obtain ⟨hr1, hcx1⟩ := HRR.out _ hf1; have HAP1 := Lib.hid hap1; clear hob hoa hg1 hw1 hap1)
            | (at_builtin; refine wpList_append_rdx _ rfl (.tmp 58) (.tmp 62) 22 rfl w.heap.size 5 i0 _ 1 Tryd.underlying22 hi0 hz0 hz1 hz2 rfl A1 (nb + 5) c1 _ rfl ho1 w.heap.size xa xl xc (xb.map bv) rfl hr1 (bv_one xb) (by unfold maxLen; omega) (by omega) hf1.size ?_; intro A2 c2 w2 ho2 hg2 hw2; obtain ⟨hoa2, hap2, hf2⟩ := step_c ho1 hoa1 HAP1.out hf1 (Nat.le_refl _) hg2 hw2; rw [← List.map_append] at ho2; obtain ⟨hr2, hcx2⟩ := HRR.out _ hf2; have HAP2 := Lib.hid fun k h h' => hap2 k h' h; have HO2 := Lib.hid ho2; clear ho1 hoa1 hg2 hw2 hap2 hcx1 hr1)
            | (at_builtin; refine wpList_append_rdx _ rfl (.tmp 64) (.tmp 68) 22 rfl w.heap.size 5 i0 _ 1 Tryd.underlying22 hi0 hz0 hz1 hz2 rfl Aa na ca _ rfl hoa2 w.heap.size xa xl xc (xb.map bv) rfl hr2 (bv_one xb) (by unfold maxLen; omega) (by omega) hf2.size ?_; intro A3 c3 w3 ho3 hg3 hw3; obtain ⟨hob3, hap3, hf3⟩ := step_c hoa2 HO2.out HAP2.out hf2 (Nat.le_refl _) hg3 hw3; rw [← List.map_append] at ho3; have HAP3 := Lib.hid fun k h h' => hap3 k h' h; clear hoa2 hg3 hw3 hap3 hcx2 hr2))
          have hflat : (rows.take (j + 1)).flatten = (rows.take j).flatten ++ xb := by rw [take_snoc _ _ _ HRX.out]; simp
          have hB3 : (if j + 1 < n0 then (B ++ infnum.ahead true xl) ++ xb = upTo rows (j + 1) else (B ++ infnum.ahead true xl) ++ xb = blocks rows) := by
            have h1 := hB.out
            rw [if_pos hlt] at h1
            have hxl : xb.length = xl := by have := HXL.out; exact this
            have e : (B ++ infnum.ahead true xl) ++ xb = upTo rows j ++ infnum.stored true xb := by rw [h1, infnum.stored, hxl, List.append_assoc]
            rw [e]
            rw [if_neg (by omega)]
            exact upTo_all rows j xb HRX.out (by rw [HRL.out]; omega)
          have h53 : ∀ r ∈ x0.take (j + 1), r.len ≤ 500 := by
            rw [take_snoc _ _ _ HX.out]
            intro r hr
            rcases List.mem_append.1 hr with h | h
            · exact h5.out r h
            · rw [List.mem_singleton] at h; subst h; show xl ≤ 500; omega
          have HB3 := Lib.hid hB3
          have H53 := Lib.hid h53
          rw [← hflat] at ho3
          clear hB3 h53 hB h5 HAP HAP1 HAP2 HRR HLIT hjb hjn
          go_roundw
          case rel => exact ⟨j + 1, nb + 5 + xl, c2, na + xl, c3, A2, A3, _, by omega, by go_num, rfl, rfl, by omega, by omega, HB3.out, hob3, ho3, HAP3.out, H53.out, hf3⟩
          case measure => simp [intOf]; omega
        · have HLIT := Lib.hid (ahead_lit wr false 0 rfl xl (by omega))
          have hjn : ¬ (j : Int) = (n0 : Int) - 1 := by omega
          have hjb : ((j : Int) == (n0 : Int) - 1) = false := by simp; omega
          clear hr
          go_wp2_with (first
            | (at_builtin; refine wpList_append_rdx _ rfl (.tmp 42) (.tmp 56) 22 rfl w.heap.size 5 i0 _ 1 Tryd.underlying22 hi0 hz0 hz1 hz2 rfl Ab nb cb (B.map bv) rfl (hob.fresh (Fresh.alloc _ _)) (wr.heap.size + 1) (some ⟨wr.heap.size, 0, none⟩) 5 5 ((infnum.ahead false xl).map bv) rfl HLIT.out (bv_one _) (by unfold maxLen; omega) (by omega) (by simp; omega) ?_; intro A1 c1 w1 ho1 hg1 hw1; obtain ⟨hoa1, hap1, hf1⟩ := step_b hob hoa HAP.out hfr (Nat.le_refl _) _ hg1 hw1; rw [← List.map_append] at ho1; obtain ⟨hr1, hcx1⟩ := HRR.out _ hf1; have HAP1 := Lib.hid hap1; clear hob hoa hg1 hw1 hap1)
            | (at_builtin; refine wpList_append_rdx _ rfl (.tmp 58) (.tmp 62) 22 rfl w.heap.size 5 i0 _ 1 Tryd.underlying22 hi0 hz0 hz1 hz2 rfl A1 (nb + 5) c1 _ rfl ho1 w.heap.size xa xl xc (xb.map bv) rfl hr1 (bv_one xb) (by unfold maxLen; omega) (by omega) hf1.size ?_; intro A2 c2 w2 ho2 hg2 hw2; obtain ⟨hoa2, hap2, hf2⟩ := step_c ho1 hoa1 HAP1.out hf1 (Nat.le_refl _) hg2 hw2; rw [← List.map_append] at ho2; obtain ⟨hr2, hcx2⟩ := HRR.out _ hf2; have HAP2 := Lib.hid fun k h h' => hap2 k h' h; have HO2 := Lib.hid ho2; clear ho1 hoa1 hg2 hw2 hap2 hcx1 hr1)
            | (at_builtin; refine wpList_append_rdx _ rfl (.tmp 64) (.tmp 68) 22 rfl w.heap.size 5 i0 _ 1 Tryd.underlying22 hi0 hz0 hz1 hz2 rfl Aa na ca _ rfl hoa2 w.heap.size xa xl xc (xb.map bv) rfl hr2 (bv_one xb) (by unfold maxLen; omega) (by omega) hf2.size ?_; intro A3 c3 w3 ho3 hg3 hw3; obtain ⟨hob3, hap3, hf3⟩ := step_c hoa2 HO2.out HAP2.out hf2 (Nat.le_refl _) hg3 hw3; rw [← List.map_append] at ho3; have HAP3 := Lib.hid fun k h h' => hap3 k h' h; clear hoa2 hg3 hw3 hap3 hcx2 hr2))
          have hflat : (rows.take (j + 1)).flatten = (rows.take j).flatten ++ xb := by rw [take_snoc _ _ _ HRX.out]; simp
          have hB3 : (if j + 1 < n0 then (B ++ infnum.ahead false xl) ++ xb = upTo rows (j + 1) else (B ++ infnum.ahead false xl) ++ xb = blocks rows) := by
            have h1 := hB.out
            rw [if_pos hlt] at h1
            have hxl : xb.length = xl := by have := HXL.out; exact this
            have e : (B ++ infnum.ahead false xl) ++ xb = upTo rows j ++ infnum.stored false xb := by rw [h1, infnum.stored, hxl, List.append_assoc]
            rw [e]
            rw [if_pos (by omega)]
            exact (upTo_snoc rows j xb HRX.out).symm
          have h53 : ∀ r ∈ x0.take (j + 1), r.len ≤ 500 := by
            rw [take_snoc _ _ _ HX.out]
            intro r hr
            rcases List.mem_append.1 hr with h | h
            · exact h5.out r h
            · rw [List.mem_singleton] at h; subst h; show xl ≤ 500; omega
          have HB3 := Lib.hid hB3
          have H53 := Lib.hid h53
          rw [← hflat] at ho3
          clear hB3 h53 hB h5 HAP HAP1 HAP2 HRR HLIT hjb hjn
          go_roundw
          case rel => exact ⟨j + 1, nb + 5 + xl, c2, na + xl, c3, A2, A3, _, by omega, by go_num, rfl, rfl, by omega, by omega, HB3.out, hob3, ho3, HAP3.out, H53.out, hf3⟩
          case measure => simp [intOf]; omega
    · have hjn : j = n0 := by omega
      subst hjn
      have hBe : B = blocks rows := by have := hB.out; rwa [if_neg hlt] at this
      have hrl : rows.length = j := by rw [← HROWS.out, List.length_map, HL.out]
      have hne : rows ≠ [] := fun e => by rw [e] at hrl; simp at hrl; omega
      have h5r : ∀ r ∈ rows, r.length ≤ 500 := fun r hr => by
        rw [← HROWS.out] at hr
        obtain ⟨x, hx, rfl⟩ := List.mem_map.1 hr
        have h1 := h5.out x (by rw [List.take_of_length_le (Nat.le_of_eq HL.out)]; exact hx)
        have h2 := (HR0.out.2 x hx).1
        rw [List.length_map] at h2
        omega
      have hun := blocks_unp hne fun r hr => by have := h5r r hr; omega
      have hfl : (rows.take j).flatten = rows.flatten := by rw [List.take_of_length_le (Nat.le_of_eq hrl)]
      rw [hfl] at hoa
      have hal : rows.flatten.length = na := by have := hoa.1; rw [List.length_map, Nat.mul_one] at this; exact this
      have hbl : B.length = nb := by have := hob.1; simpa using this
      rw [← hBe, hbl] at hun
      have hT : Tells B na (.ok rows.flatten nb) := ⟨hun, by omega⟩
      have hc := all_ok Ab nb cb B wr wr.heap.size hob.rd (Nat.le_refl _) (by omega) (HK.out _ hfr) (na : Nat) na rfl (by omega) rows.flatten na nb hT hal
      have HOA := Lib.hid hoa
      clear hT hun hBe hfl hob hoa hal hbl hB h5 hap
      go_wp2_with (first
        | (go_at_call 10; (with_reducible refine hc.mono ?_); rintro e wE ⟨Ay, cy, rfl, hoY, hfE⟩; clear hc; have hcS := same_yes Ay Aa na cy ca rows.flatten wE _ _ hoY.rd (HOA.out.fresh hfE).rd (by unfold maxLen; omega))
        | (go_at_call 11; (with_reducible refine hcS.mono ?_); rintro e wI ⟨rfl, hfI⟩; clear hcS))
      go_ret
      exact ⟨rfl, (hfr.trans hfE).trans hfI⟩
end Go.Proofs.YtlaecigjnknhoaaDoor.inflateStored
