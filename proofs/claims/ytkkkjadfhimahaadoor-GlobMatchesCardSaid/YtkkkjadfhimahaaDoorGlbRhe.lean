/-
  Layer 13's reference: Head; the law's runes. My own text.
-/
import Derived.Test.YtkkkjadfhimahaaDoorGlbRfi
import Derived.Test.YtkkkjadfhimahaaDoorGlbPrs
import Derived.Test.YtkkkjadfhimahaaDoorNamEnc
import Derived.Test.YtkkkjadfhimahaaDoorGlbApx
import Derived.Test.YtkkkjadfhimahaaDoorGlbEq
import Derived.Deep.RegionLaw
import Derived.Test.YtkkkjadfhimahaaDoorGlbRma
namespace Go.Proofs.YtkkkjadfhimahaaDoor.glbp
open Go.RowKit Go.Proofs.YtkkkjadfhimahaaDoor.base Go.Proofs.YtkkkjadfhimahaaDoor.nam Go.Proofs.YtkkkjadfhimahaaDoor.namp Go.Proofs.YtkkkjadfhimahaaDoor.glb
set_option linter.unusedVariables false
/-- the runes that a text begins with, k bytes of it gone -/
theorem rns_at (s : ByteArray) (P : Nat) (h : P < s.size) : Utf8.decode s P = dcd (s.data.toList.drop P) ∧ rns (s.data.toList.drop P) = (dcd (s.data.toList.drop P)).1 :: rns (s.data.toList.drop (P + (dcd (s.data.toList.drop P)).2)) ∧ 1 ≤ (dcd (s.data.toList.drop P)).2 := by
  have hsz : s.size = s.data.toList.length := (Array.length_toList (xs := s.data)).symm
  have hne : s.data.toList.drop P ≠ [] := by
    intro h2
    have := congrArg List.length h2
    rw [List.length_drop] at this
    simp at this
    omega
  refine ⟨decode_drop s P, ?_, dcd_pos _ hne⟩
  rw [rns_step _ hne, List.drop_drop]
theorem range_strG (W : World) (s : ByteArray) : (Instr.range 9 (.string s)).run Tryd.prog W = .ok (.pointer (some ⟨W.heap.size, 0, none⟩)) (W.iter s 0) := run_range_string W 9 s Tryd.underlying9
theorem gstep_append_rd {P : Program} {ops : Array Oper} {o : Oper} {a : Act} {w : World} {K : Act → World → Prop} {Q : Exit → Act → World → Prop} {E : Prop} (hgd : o.guard = none) (s x : Operand) (t : TypeId)
    (ho : o.op = .call { callee := .builtin .append, args := #[s, x], argTypes := #[t, t] })
    (base : Nat) (e : TypeId) (i : TypeInfo) (z : Value) (bytes : Nat) (ht : P.underlying t = some (.slice e)) (hi : P.info? e = some i) (hz : i.zero = some z)
    (hsize : i.size = 1) (hby : i.bytes = bytes) (hzs : z.cells.size = 1)
    (A : Option Addr) (n c : Nat) (xs : List Value) (hs : a.eval s = .slice A n c) (hown : Own w base e A n c xs)
    (B : Nat) (D : Option Addr) (m d : Nat) (news : List Value) (hx : a.eval x = .slice D m d) (hr : Rd w B D m news) (h1 : ∀ u ∈ news, u.oneCell' = true)
    (h63 : n + m ≤ maxLen) (hbytes : (n + m) * bytes ≤ 140737488355328) (hbase : base ≤ w.heap.size)
    (h : ∀ A' c' w', Own w' base e A' (n + m) c' (xs ++ news) → w.grownBy w' (Value.slice A n c).ownBlock → K (a.put o.dst (.slice A' (n + m) c')) w') : if Region.wanted o (yielded ops a.tmps) = true then Oper.wp P o a w K Q else E := by
  have hw : Region.wanted o (yielded ops a.tmps) = true := by simp [Region.wanted, hgd]
  rw [if_pos hw]
  exact wp_append_rd w s x t ho base e i z bytes ht hi hz hsize hby hzs A n c xs hs hown B D m d news hx hr h1 h63 hbytes hbase h
set_option maxHeartbeats 4000000 in
set_option maxRecDepth 100000 in
theorem runes_any (s : ByteArray) (rs : List Nat) (hs : rns s.data.toList = rs) (w : World) (hm : s.size ≤ 4294967296) :
    Calls Tryd.prog 14 #[.string s] w fun e w' => ∃ A n c, e = .returned (.slice A n c) ∧ n = rs.length ∧ n ≤ c ∧ Fresh w w' ∧ Rd w' w'.heap.size A n (ir rs) := by
  obtain ⟨i0, hi0, hz0, hz1, hz2⟩ := info_parts info_intG
  have hrg := fun W => range_strG W s
  have hle : rs.length ≤ s.size := by
    rw [← hs]
    have h1 := rns_len s.data.toList
    have h2 : s.size = s.data.toList.length := (Array.length_toList (xs := s.data)).symm
    omega
  have hrl : ∀ r ∈ rs, r ≤ 1114111 := by rw [← hs]; exact rns_le _
  have HS := Lib.hid hs
  have HLE := Lib.hid hle
  have HRL := Lib.hid hrl
  have hit0 := World.iter_heap w s 0
  have HI0 := Lib.hid hit0
  clear hs hle hrl hit0
  go_enter Tryd.func14, Tryd.ntmps14
  go_wp2
  go_loopw [3] (fun v wr => ∃ (P k c : Nat) (A : Option Addr) (done rest : List Nat), v = .slice A k c ∧ Hid (rs = done ++ rest) ∧ Hid (rns (s.data.toList.drop P) = rest) ∧ P ≤ s.size + 4 ∧ Hid (done.length = k) ∧ wr.heap[w.heap.size]? = some (.stringIter s P) ∧ Own wr (w.heap.size + 1) tInt A k c (ir done) ∧ Fresh w wr) (fun _ wr => s.size + 4 - wr.iterPos w.heap.size)
  case atStart => exact ⟨0, 0, 0, none, [], rs, rfl, rfl, HS.out, Nat.zero_le _, rfl, HI0.out, Own.nil _ _ _, Fresh.alloc w _⟩
  case round =>
    obtain ⟨P, k, c, A, done, rest, rfl, hdr, hrest, hP, hk, hit, hown, hfr⟩ := hrel
    by_cases hlt : P < s.size
    · obtain ⟨d1, d2, d3⟩ := rns_at s P hlt
      obtain ⟨r, wd, hrw⟩ : ∃ r wd, dcd (s.data.toList.drop P) = (r, wd) := ⟨_, _, rfl⟩
      rw [hrw] at d1 d2 d3
      simp only at d2 d3
      have hnx : ∀ ty, (Instr.next (.pointer (some ⟨w.heap.size, 0, none⟩)) true ty).run Tryd.prog wr = _ := fun ty => Lib.run_next_any_at wr w.heap.size s _ ty hit hlt
      rw [d1] at hnx
      simp only at hnx
      have hbut := iterAt_but wr w.heap.size s (P + wd)
      have hown2 := hown.but hbut (own_ne_iter hown hit)
      have hf2 := hfr.but (Nat.le_refl _) hbut
      have hit2 := Lib.iterAt_heap wr w.heap.size s _ (P + wd) hit
      have hold : wr.iterPos w.heap.size = P := by simp only [World.iterPos, hit]
      have hr2 : rest = r :: rns (s.data.toList.drop (P + wd)) := by rw [← hrest.out, d2]
      have hrl : r ≤ 1114111 := HRL.out r (by rw [hdr.out, hr2]; simp)
      have hkb : k ≤ s.size := by
        have h1 := HLE.out
        rw [hdr.out, List.length_append, hk.out] at h1
        omega
      have hpw : P + wd ≤ s.size + 4 := by
        have hne : s.data.toList.drop P ≠ [] := by
          intro h2
          have := congrArg List.length h2
          rw [List.length_drop, ← str_size] at this
          simp at this
          omega
        rcases dcd_split _ hne with e | ⟨q, t', hq, e⟩
        · rw [e] at hrw; injection hrw with _ h2; omega
        · rw [e, dcd_good hq] at hrw; injection hrw with _ h2; have := (wid_bd q).2; omega
      have HO2 := Lib.hid hown2
      have HF2 := Lib.hid hf2
      have HI2 := Lib.hid hit2
      have HR2 := Lib.hid hr2
      have HOLD := Lib.hid hold
      clear hit hown hfr hbut hown2 hf2 hit2 hold hr2 d1 d2 hrw
      obtain ⟨V, hV⟩ : ∃ V, wr.iterAt w.heap.size s (P + wd) = V := ⟨_, rfl⟩
      rw [hV] at hnx HF2 HO2 HI2
      have er : IntKind.i64.wrap (r : Int) = (r : Int) := by rw [IntWalk.i64_in _ (by omega)]
      clear hV
      go_wp2_with (at_builtin; refine wpList_append_rd _ rfl _ _ 34 rfl (w.heap.size + 1) tInt i0 _ 8 Tryd.underlying34 hi0 hz0 hz1 hz2 rfl A k c _ rfl (Own.fresh HO2.out (Fresh.alloc _ _)) (V.heap.size + 1) (some ⟨V.heap.size, 0, none⟩) 1 1 [iv (r : Nat)] rfl (Rd.lit V #[iv (r : Nat)] tInt) (one_one _ _) (by unfold maxLen; omega) (by omega) (by have := (in_of_cell' HI2.out); simp; omega) ?_; intro A3 c3 w3 hown3 hg3)
      have hne := own_ne_iter HO2.out HI2.out
      have hit3 : w3.heap[w.heap.size]? = some (.stringIter s (P + wd)) := by
        rw [hg3.block _ (by have := in_of_cell' HI2.out; simp; omega) (fun e => hne e.symm)]
        exact (Below.heap_alloc V _ _ (in_of_cell' HI2.out)).trans HI2.out
      have hf3 : Fresh w w3 := (HF2.out.trans (Fresh.alloc _ _)).append (Own.fresh HO2.out (Fresh.alloc _ _)) (Nat.le_succ _) hg3
      have hl : ir done ++ [iv (r : Nat)] = ir (done ++ [r]) := by simp
      rw [hl] at hown3
      have HPO := HOLD.out
      go_roundw
      case rel => exact ⟨P + wd, k + 1, c3, A3, done ++ [r], _, rfl, show _ = _ by rw [hdr.out, HR2.out]; simp, rfl, hpw, show _ = _ by rw [List.length_append, hk.out]; rfl, hit3, hown3, hf3⟩
      case measure =>
        simp only [World.iterPos, hit3] at HPO ⊢
        omega
    · have hnx : ∀ ty, (Instr.next (.pointer (some ⟨w.heap.size, 0, none⟩)) true ty).run Tryd.prog wr = _ := fun ty => Lib.run_next_end_at wr w.heap.size s _ ty hit hlt
      have hr0 : rest = [] := by
        rw [← hrest.out, List.drop_of_length_le (by rw [← str_size]; omega)]
        rfl
      have hrd : rs = done := by have := hdr.out; rwa [hr0, List.append_nil] at this
      have hcap := hown.cap
      have HRD := Lib.hid hrd
      have HO := Lib.hid hown
      have HF := Lib.hid hfr
      clear hit hown hfr hdr hrest hr0 hrd
      go_wp2
      go_ret
      exact ⟨A, k, c, rfl, by rw [HRD.out]; exact hk.out.symm, hcap.1, HF.out, by rw [HRD.out]; exact HO.out.rd⟩
abbrev tRHead : TypeId := 39
/-- how far the head has come -/
def HdAt (ps : List Pt) (k : Nat) (rs : List Nat) (al : Bool) : Prop := if al = true then ps = rs.map Pt.it ++ ps.drop k ∧ rs.length = k else hd ps = (rs, false)
theorem hdAt_end {ps : List Pt} {k : Nat} {rs : List Nat} {al : Bool} (h : HdAt ps k rs al) (hk : al = true → ps.length ≤ k) : hd ps = (rs, al) := by
  cases al with
  | false => exact h
  | true =>
    obtain ⟨h1, h2⟩ := h
    rw [List.drop_of_length_le (hk rfl)] at h1
    have h3 := hd_its rs []
    rw [← h1] at h3
    rw [h3]
    simp [hd]
theorem hdAt_it {ps : List Pt} {k r : Nat} {rs : List Nat} (h : HdAt ps k rs true) (hp : ps[k]? = some (.it r)) : HdAt ps (k + 1) (rs ++ [r]) true := by
  obtain ⟨h1, h2⟩ := h
  refine ⟨?_, by rw [List.length_append, h2]; rfl⟩
  rw [drop_parts hp] at h1
  rw [List.map_append, List.append_assoc]
  exact h1
theorem hdAt_no {ps : List Pt} {k : Nat} {p : Pt} {rs : List Nat} (h : HdAt ps k rs true) (hp : ps[k]? = some p) (hk : kd p ≠ 0) : HdAt ps (k + 1) rs false := by
  obtain ⟨h1, h2⟩ := h
  have h3 := hd_its rs (ps.drop k)
  rw [← h1, drop_parts hp] at h3
  show hd ps = _
  rw [h3]
  cases p with
  | it r => exact absurd rfl hk
  | _ => simp [hd]
set_option maxHeartbeats 4000000 in
set_option maxRecDepth 100000 in
theorem refHead_any (A : Option Addr) (l cA : Nat) (ps : List Pt) (w : World) (hA : RPts w A l ps) (hl : l ≤ 1000) :
    Calls Tryd.prog 16 #[.agg #[.slice A l cA, iv 0]] w fun e w' => ∃ B n c, e = .returned (.agg #[.slice B n c, .bool (hd ps).2]) ∧ n = (hd ps).1.length ∧ Fresh w w' ∧ Rd w' w'.heap.size B n (ir (hd ps).1) := by
  obtain ⟨i0, hi0, hz0, hz1, hz2⟩ := info_parts info_intG
  have hps : ps.length = l := by obtain ⟨vs, h1, h2, h3, h4⟩ := hA; exact h2
  have hs : Bk (((w.alloc (.cells #[.slice A l cA, iv 0] tRGlob)).alloc (.cells #[nilS, .bool false] tRHead)).alloc (.cells #[nilS, .bool true] tRHead)) w.heap.size tRGlob [.slice A l cA, iv 0] ∧ Bk (((w.alloc (.cells #[.slice A l cA, iv 0] tRGlob)).alloc (.cells #[nilS, .bool false] tRHead)).alloc (.cells #[nilS, .bool true] tRHead)) (w.heap.size + 1) tRHead [nilS, .bool false] ∧ Bk (((w.alloc (.cells #[.slice A l cA, iv 0] tRGlob)).alloc (.cells #[nilS, .bool false] tRHead)).alloc (.cells #[nilS, .bool true] tRHead)) (w.heap.size + 2) tRHead [nilS, .bool true] ∧ Fresh w (((w.alloc (.cells #[.slice A l cA, iv 0] tRGlob)).alloc (.cells #[nilS, .bool false] tRHead)).alloc (.cells #[nilS, .bool true] tRHead)) := by
    have h0 := Bk.made w tRGlob #[.slice A l cA, iv 0]
    have h1 := Bk.made (w.alloc (.cells #[.slice A l cA, iv 0] tRGlob)) tRHead #[nilS, .bool false]
    have h2 := Bk.made ((w.alloc (.cells #[.slice A l cA, iv 0] tRGlob)).alloc (.cells #[nilS, .bool false] tRHead)) tRHead #[nilS, .bool true]
    have e1 : (w.alloc (.cells #[.slice A l cA, iv 0] tRGlob)).heap.size = w.heap.size + 1 := by simp
    have e2 : ((w.alloc (.cells #[.slice A l cA, iv 0] tRGlob)).alloc (.cells #[nilS, .bool false] tRHead)).heap.size = w.heap.size + 2 := by simp
    rw [e1] at h1
    rw [e2] at h2
    exact ⟨(h0.alloc _).alloc _, h1.alloc _, h2, ((Fresh.alloc _ _).trans (Fresh.alloc _ _)).trans (Fresh.alloc _ _)⟩
  have HA := Lib.hid hA
  have HL := Lib.hid hps
  have HS := Lib.hid hs
  clear hA hps hs
  go_enter Tryd.func16, Tryd.ntmps16
  go_wp2
  go_loopw [4] (fun v wr => ∃ (k n c : Nat) (B : Option Addr) (rs : List Nat) (al : Bool), v = .int .i64 (k : Nat) ∧ k ≤ l ∧ n ≤ k ∧ Bk wr w.heap.size tRGlob [.slice A l cA, iv 0] ∧ Bk wr (w.heap.size + 1) tRHead [nilS, .bool false] ∧ Bk wr (w.heap.size + 2) tRHead [.slice B n c, .bool al] ∧ Own wr (w.heap.size + 3) tInt B n c (ir rs) ∧ Hid (rs.length = n) ∧ Hid (HdAt ps k rs al) ∧ Fresh w wr) (fun v _ => l - (intOf v).toNat)
  case atStart => exact ⟨0, 0, 0, none, [], true, rfl, Nat.zero_le _, Nat.le_refl _, HS.out.1, HS.out.2.1, HS.out.2.2.1, Own.nil _ _ _, rfl, ⟨rfl, rfl⟩, HS.out.2.2.2⟩
  case round =>
    obtain ⟨k, n, c, B, rs, al, rfl, hk, hnk, hb0, hb1, hb2, hown, hrl, hat, hfr⟩ := hrel
    have g0 := hb0.cell (i := 0) rfl
    have g2 := hb2.cell (i := 1) rfl
    have HB0 := Lib.hid hb0
    have HB1 := Lib.hid hb1
    have HB2 := Lib.hid hb2
    have HO := Lib.hid hown
    have HF := Lib.hid hfr
    clear hb0 hb1 hb2 hown hfr
    by_cases hgo : k < l ∧ al = true
    · obtain ⟨hlt, rfl⟩ := hgo
      obtain ⟨p, hp⟩ : ∃ p, ps[k]? = some p := ⟨_, List.getElem?_eq_getElem (by rw [HL.out]; exact hlt)⟩
      obtain ⟨b, off, v, rfl, hrg, hpv⟩ := (HA.out.fresh HF.out).at_ hp
      have hkd := hrg 0 _ rfl
      have hrr := hrg 1 _ rfl
      rw [hpv.1, Nat.add_zero] at hkd
      rw [hpv.2.1] at hrr
      have x2 : (k : Int) < (l : Int) := by omega
      by_cases hk0 : kd p = 0
      · obtain ⟨r, rfl⟩ : ∃ r, p = .it r := by
          cases p with
          | it r => exact ⟨r, rfl⟩
          | _ => cases hk0
        have hat2 := hdAt_it hat.out hp
        have e0 : ((kd (.it r) : Nat) : Int) = 0 := rfl
        have e1 : rv1 (.it r) = r := rfl
        rw [e0] at hkd
        rw [e1] at hrr
        have HAT := Lib.hid hat2
        have fa1 : Fresh wr wr.drew := Fresh.drew _
        have fa2 : Fresh wr (wr.alloc (.cells #[iv (r : Nat)] tInt)).drew := (Fresh.alloc _ _).trans (Fresh.drew _)
        have hbw : b < wr.heap.size := in_of_cell hrr
        have c1 : wr.drew.cell? ⟨b, off + k * 5 + 1, none⟩ = some (iv (r : Nat)) := hrr
        have c2 := (HB2.out.fresh fa1).cell (i := 0) rfl
        have c3 := (HB0.out.fresh fa1).cell (i := 0) rfl
        have c4 := (HB2.out.fresh fa2).cell (i := 0) rfl
        have c5 := (HB0.out.fresh fa2).cell (i := 0) rfl
        have hwz : w.heap.size + 3 ≤ (wr.alloc (.cells #[iv (r : Nat)] tInt)).drew.heap.size := by have h1 := fa2.size; have h2 := HB2.out.inside; omega
        clear hpv hp hat hat2 hrg e0 e1 hk0
        go_wp2
        go_region_law (refine gstep_append_rd (by rfl) (.tmp 25) (.tmp 32) 34 (by rfl) (w.heap.size + 3) tInt i0 _ 8 Tryd.underlying34 hi0 hz0 hz1 hz2 rfl B n c (ir rs) (by rfl) (HO.out.fresh fa2) (wr.heap.size + 1) (some ⟨wr.heap.size, 0, none⟩) 1 1 [iv (r : Nat)] (by rfl) ((Rd.lit wr #[iv (r : Nat)] tInt).keep (fun _ _ => rfl)) (one_one _ _) (by unfold maxLen; omega) (by omega) hwz ?_; intro A4 c4 w4 hown4 hg4; have hbb4 := (HB2.out.fresh fa2).grown hg4 ((HO.out.fresh fa2).ne_block (HB2.out.fresh fa2) (by decide)); have d0 : w4.cell? ⟨w.heap.size + 1 + 1, 0, none⟩ = some (.slice B n c) := hbb4.cell (i := 0) rfl; have df : w4.frozen? ⟨w.heap.size + 1 + 1, 0, none⟩ = false := hbb4.free 0; have HB4 := Lib.hid hbb4; have HG4 := Lib.hid hg4; have HO4 := Lib.hid hown4; clear hbb4 hg4 hown4)
        all_goals go_wp2
        all_goals
          have e4 : ir rs ++ [iv (r : Nat)] = ir (rs ++ [r]) := by simp
          have ho4 := HO4.out
          rw [e4] at ho4
          have hp4 := HB4.out.put 0 (.slice A4 (n + 1) c4)
          have hx0 := ((HB0.out.fresh fa2).grown HG4.out ((HO.out.fresh fa2).ne_block (HB0.out.fresh fa2) (by decide))).apart (p := ⟨w.heap.size + 2, 0, none⟩) (by simp) (.slice A4 (n + 1) c4)
          have hx1 := ((HB1.out.fresh fa2).grown HG4.out ((HO.out.fresh fa2).ne_block (HB1.out.fresh fa2) (by decide))).apart (p := ⟨w.heap.size + 2, 0, none⟩) (by simp) (.slice A4 (n + 1) c4)
          have ho5 := ho4.but (But.put (g := w.heap.size + 2) (i := 0) w4 (.slice A4 (n + 1) c4)) (ho4.ne_block HB4.out (by decide))
          have hf5 : Fresh w (w4.setCell ⟨w.heap.size + 2, 0, none⟩ (.slice A4 (n + 1) c4)) := Fresh.but (Fresh.append (HF.out.trans fa2) (HO.out.fresh fa2) (by omega) HG4.out) (by omega) (But.put _ _)
          exact ⟨⟨k + 1, n + 1, c4, A4, rs ++ [r], true, by go_num, by omega, by omega, hx0, hx1, hp4, ho5, show _ = _ by rw [List.length_append, hrl.out]; rfl, HAT.out, hf5⟩, by simp [intOf]; omega⟩
      · have hat2 := hdAt_no hat.out hp hk0
        have t0 : ((kd p : Int) == 0) = false := by rw [beq_eq_false_iff_ne]; omega
        obtain ⟨Z, hZ⟩ : ∃ Z : Int, (kd p : Int) = Z := ⟨_, rfl⟩
        rw [hZ] at t0 hkd
        have f2 := HB2.out.free 1
        have HAT := Lib.hid hat2
        have HP2 := Lib.hid (HB2.out.put 1 (.bool false))
        have HX0 := Lib.hid (HB0.out.apart (p := ⟨w.heap.size + 2, 1, none⟩) (by simp) (.bool false))
        have HX1 := Lib.hid (HB1.out.apart (p := ⟨w.heap.size + 2, 1, none⟩) (by simp) (.bool false))
        have HOX := Lib.hid (HO.out.but (But.put (g := w.heap.size + 2) (i := 1) wr (.bool false)) (HO.out.ne_block HB2.out (by decide)))
        have HFX := Lib.hid (Fresh.but HF.out (by omega) (But.put (g := w.heap.size + 2) (i := 1) wr (.bool false)))
        clear hpv hp hat hat2 hrg hrr hZ hk0
        go_wp2
        go_roundw
        case rel => exact ⟨k + 1, n, c, B, rs, false, by go_num, by omega, by omega, HX0.out, HX1.out, HP2.out, HOX.out, hrl, HAT.out, HFX.out⟩
        case measure => simp [intOf]; omega
    · have hend := hdAt_end hat.out (fun h => by
        rw [HL.out]
        by_cases h2 : k < l
        · exact absurd ⟨h2, h⟩ hgo
        · omega)
      have HE := Lib.hid hend
      have hrd := HO.out.rd
      have hload : ∀ W, But (w.heap.size + 1) wr W → Rd W W.heap.size B n (ir rs) := fun W hW => (HO.out.but hW (HO.out.ne_block HB1.out (by decide))).rd
      have HLD := Lib.hid hload
      have HRL := Lib.hid hrl.out
      clear hat hend hrd hload hrl
      by_cases hlt : k < l
      · obtain rfl : al = false := by
          cases al with
          | true => exact absurd ⟨hlt, rfl⟩ hgo
          | false => rfl
        have x2 : decide ((k : Int) < (l : Int)) = true := by rw [decide_eq_true_iff]; omega
        clear hgo
        go_wp2_with (first
          | ((with_reducible refine at_slot_ 36 ?_); refine wpList_load_blk rfl tRHead (.tmp 3) rfl (w.heap.size + 2) 0 2 tRHead [.slice B n c, .bool false] rfl HB2.out (by simp) _ Tryd.underlying39 rfl (by kernel_rfl) ?_)
          | ((with_reducible refine at_store_ 2 36 ?_); refine wpList_store_blk rfl _ _ _ rfl (w.heap.size + 1) 0 tRHead _ [.slice B n c, .bool false] rfl rfl HB1.out (by simp) (by intro v hv; simp at hv; rcases hv with rfl | rfl <;> rfl) (by kernel_rfl) ?_; intro w9 hb9 hbut9; have HB9 := Lib.hid hb9; have HU9 := Lib.hid hbut9; clear hb9 hbut9))
        exact bodyPost_ret (results_cell_row (p := 2) (by kernel_rfl) _ _ (w.heap.size + 1) tRHead #[.slice B n c, .bool false] (0, 0) _ rfl HB9.out Tryd.underlying39 rfl (by kernel_rfl)) rfl ⟨B, n, c, by rw [HE.out], by rw [HE.out]; exact HRL.out.symm, Fresh.but HF.out (Nat.le_succ _) HU9.out, by rw [HE.out]; exact HLD.out _ HU9.out⟩
      · have x2 : decide ((k : Int) < (l : Int)) = false := by rw [decide_eq_false_iff_not]; omega
        clear hgo
        go_wp2_with (first
          | ((with_reducible refine at_slot_ 36 ?_); refine wpList_load_blk rfl tRHead (.tmp 3) rfl (w.heap.size + 2) 0 2 tRHead [.slice B n c, .bool al] rfl HB2.out (by simp) _ Tryd.underlying39 rfl (by kernel_rfl) ?_)
          | ((with_reducible refine at_store_ 2 36 ?_); refine wpList_store_blk rfl _ _ _ rfl (w.heap.size + 1) 0 tRHead _ [.slice B n c, .bool al] rfl rfl HB1.out (by simp) (by intro v hv; simp at hv; rcases hv with rfl | rfl <;> rfl) (by kernel_rfl) ?_; intro w9 hb9 hbut9; have HB9 := Lib.hid hb9; have HU9 := Lib.hid hbut9; clear hb9 hbut9))
        exact bodyPost_ret (results_cell_row (p := 2) (by kernel_rfl) _ _ (w.heap.size + 1) tRHead #[.slice B n c, .bool al] (0, 0) _ rfl HB9.out Tryd.underlying39 rfl (by kernel_rfl)) rfl ⟨B, n, c, by rw [HE.out], by rw [HE.out]; exact HRL.out.symm, Fresh.but HF.out (Nat.le_succ _) HU9.out, by rw [HE.out]; exact HLD.out _ HU9.out⟩
end Go.Proofs.YtkkkjadfhimahaaDoor.glbp
