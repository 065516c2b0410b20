/-
  Layer 13: WriteByte, Quote; head, Head. My own text.
-/
import Derived.Test.YtkkkjadfhimahaaDoorNamVal
import Derived.Test.YtkkkjadfhimahaaDoorGlbPrs
import Derived.Test.YtkkkjadfhimahaaDoorGlbMt
namespace Go.Proofs.YtkkkjadfhimahaaDoor.glbp
open Go.RowKit Go.Proofs.YtkkkjadfhimahaaDoor.base Go.Proofs.YtkkkjadfhimahaaDoor.nam Go.Proofs.YtkkkjadfhimahaaDoor.namp Go.Proofs.YtkkkjadfhimahaaDoor.glb
set_option linter.unusedVariables false
theorem info_byteG : (Tryd.prog.info? 5).map (fun i => (i.zero, i.size, i.bytes)) = some (some (.int .u8 0), 1, 1) := by kernel_rfl
set_option maxRecDepth 100000 in
theorem writeByte_any (b : Nat) (c : UInt8) (bs : List UInt8) (w : World) (h : Bld w b bs) (hl : bs.length ≤ 70368744177664) :
    Calls Tryd.prog 27 #[.pointer (some ⟨b, 0, none⟩), bv c] w fun e w' => e = .returned .nilIface ∧ Bld w' b (bs ++ [c]) ∧ Below b w w' := by
  obtain ⟨i0, hi0, hz0, hz1, hz2⟩ := info_parts info_byteG
  obtain ⟨p, A, cc, hp, hb, ho⟩ := h
  have hin := hb.inside
  have hcc := check_any b p (.slice A bs.length cc) w hb hp
  obtain ⟨L, hL⟩ : ∃ L, bs.length = L := ⟨_, rfl⟩
  rw [hL] at hb ho hcc hl
  have HO := Lib.hid ho
  have HC := Lib.hid hcc
  have HL := Lib.hid hL
  obtain ⟨z, hz⟩ : ∃ z : Nat, c.toNat = z := ⟨_, rfl⟩
  have HZ := Lib.hid hz
  have ebv : bv c = .int .u8 (z : Nat) := by rw [bv, hz]
  rw [ebv]
  have HE := Lib.hid ebv
  clear hcc hb ho hp hL hz ebv
  go_enter Tryd.func27, Tryd.ntmps27
  go_wp2_with (first
    | (go_at_call 33; (refine HC.out.mono ?_); rintro e w1 ⟨rfl, hb1, hbut1⟩; have k1 := hb1.cell (i := 1) rfl; have HB1 := Lib.hid hb1; have HU1 := Lib.hid hbut1; have HO1 := Lib.hid (HO.out.but hbut1 (fun e => by have := HO.out.row _ e; omega)); clear hb1 hbut1)
    | (at_builtin; refine wpList_append_rd _ rfl _ _ 45 rfl (b + 1) 5 i0 _ 1 Tryd.underlying45 hi0 hz0 hz1 hz2 rfl A L cc _ rfl (Own.fresh HO1.out (Fresh.alloc _ _)) (w1.heap.size + 1) (some ⟨w1.heap.size, 0, none⟩) 1 1 [.int .u8 (z : Nat)] rfl (Rd.lit w1 #[.int .u8 (z : Nat)] 5) (one_one _ _) (by unfold maxLen; omega) (by omega) (by have := HB1.out.inside; simp; omega) ?_; intro A3 c3 w3 hown3 hg3; have hb3 := (HB1.out.alloc (.cells #[.int .u8 (z : Nat)] 5)).grown hg3 (fun e => by have := (Own.fresh HO1.out (Fresh.alloc w1 (.cells #[.int .u8 (z : Nat)] 5))).row _ e; omega); have k3 := hb3.cell (i := 1) rfl; have f3 := hb3.free 1; have HB3 := Lib.hid hb3; have HO3 := Lib.hid hown3; have HG3 := Lib.hid hg3; clear hb3 hown3 hg3))
  go_ret
  have hb4 := HB3.out.put 1 (.slice A3 (L + 1) c3)
  refine ⟨rfl, ⟨_, A3, c3, Or.inr rfl, ?_, ?_⟩, ?_⟩
  · rw [List.length_append, HL.out]; exact hb4
  · rw [List.length_append, HL.out, List.map_append, List.map_cons, List.map_nil, HE.out]
    exact Own.but HO3.out (But.put w3 _) (fun e => by have := Own.row HO3.out _ e; omega)
  · have e1 : Below b w w1 := (Below.refl b w).grown HU1.out (by omega) (fun k hk => by injection hk with hk; omega)
    have e2 : Below b w (w1.alloc (.cells #[.int .u8 (z : Nat)] 5)) := e1.alloc (by have := HB1.out.inside; omega) _
    have e3 : Below b w w3 := e2.grown HG3.out (by have := HB1.out.inside; simp; omega) (fun k hk => by have := HO.out.row _ hk; omega)
    exact e3.grown (But.put (g := b) (i := 1) w3 _) (by have := HB3.out.inside; omega) (fun k hk => by injection hk with hk; omega)
theorem qb_snoc (bs : List UInt8) (k : Nat) (x : UInt8) (h : bs[k]? = some x) : qb (bs.take (k + 1)) = qb (bs.take k) ++ qb1 x := by
  rw [List.take_add_one, h]
  show qb (bs.take k ++ [x]) = _
  unfold qb
  rw [List.flatMap_append]
  simp
set_option maxRecDepth 100000 in
theorem quote_any (s : ByteArray) (bs : List UInt8) (hs : s.data.toList = bs) (w : World) (hm : s.size ≤ 4294967296) :
    Calls Tryd.prog 18 #[.string s] w fun e w' => e = .returned (.string ⟨(qb bs).toArray⟩) ∧ Fresh w w' := by
  have hsz : s.size = bs.length := by rw [← hs]; exact (Array.length_toList (xs := s.data)).symm
  obtain ⟨n, hn⟩ : ∃ n, s.size = n := ⟨_, rfl⟩
  have HM := Lib.hid (Bld.made w)
  have hget : ∀ (k : Nat) (x : UInt8), bs[k]? = some x → ∀ h : k < s.size, (s[k]'h).toNat = x.toNat := fun k x hx h => by
    rw [← hs, Array.getElem?_toList, Array.getElem?_eq_getElem h] at hx
    exact congrArg UInt8.toNat (Option.some.inj hx)
  have HI := Lib.hid hget
  have HL := Lib.hid (hsz.symm.trans hn)
  have HN := Lib.hid hn
  rw [hn] at hm
  have hlen : ∀ k, k ≤ n → (qb (bs.take k)).length ≤ 2 * n := fun k hk => Nat.le_trans (qb_len _) (by rw [List.length_take]; omega)
  have HLEN := Lib.hid hlen
  clear hs hsz hn hget hlen
  go_enter Tryd.func18, Tryd.ntmps18
  go_wp2
  rw [HN.out]
  go_loopw [7] (fun i wr => ∃ k : Nat, k ≤ n ∧ i = .int .i64 k ∧ Fresh w wr ∧ Bld wr w.heap.size (qb (bs.take k))) (fun i _ => n - (intOf i).toNat)
  case atStart => exact ⟨0, Nat.zero_le _, rfl, Fresh.alloc _ _, HM.out⟩
  case round =>
    obtain ⟨k, hk, rfl, hfr, hbl⟩ := hrel
    by_cases hlt : k < n
    · obtain ⟨x, hx⟩ : ∃ x, bs[k]? = some x := ⟨_, List.getElem?_eq_getElem (by rw [HL.out]; exact hlt)⟩
      have hg := HI.out k x hx
      have hsn := HN.out
      have hle := HLEN.out k hk
      have hq := qb_snoc bs k x hx
      have hwr := fun (c : UInt8) (l : List UInt8) W h h2 => writeByte_any w.heap.size c l W h h2
      have hbx := x.toNat_lt
      obtain ⟨z, hz⟩ : ∃ z, x.toNat = z := ⟨_, rfl⟩
      rw [hz] at hg hbx
      have hbv : bv x = .int .u8 (z : Nat) := by rw [bv, hz]
      have HWX := Lib.hid (hwr x)
      rw [hbv] at HWX
      have h92 : bv 92 = .int .u8 92 := rfl
      have HW9 := Lib.hid (hwr 92)
      rw [h92] at HW9
      have HQ := Lib.hid hq
      have HB := Lib.hid hbl
      have HLE := Lib.hid hle
      have HF := Lib.hid hfr
      by_cases hsp : spec z = true
      · have hq1 : qb1 x = [92] ++ [x] := by rw [qb1, hz, if_pos hsp]; rfl
        have HQ1 := Lib.hid hq1
        unfold spec at hsp
        simp at hsp
        have hgZ : ∀ h : k < s.size, ((s[k]'h).toNat : Int) = (z : Int) := fun h => by rw [hg h]
        obtain ⟨Z, hZ⟩ : ∃ Z : Int, (z : Int) = Z := ⟨_, rfl⟩
        have hZ4 : Z = 63 ∨ (Z = 42 ∨ (Z = 91 ∨ Z = 92)) := by omega
        rw [hZ] at hgZ HWX
        clear hq hwr hz hbv hbl hq1 hx hle hbx hfr hsp hZ hg h92
        rcases hZ4 with rfl | rfl | rfl | rfl
        all_goals
          go_wp2_with (first
            | (go_at_call 27; (with_reducible refine (HW9.out _ _ HB.out (by have := HLE.out; omega)).mono ?_); rintro e w2 ⟨rfl, hb2, hbl2⟩; have HB2 := Lib.hid hb2; have HL2 := Lib.hid hbl2; clear hb2 hbl2)
            | (go_at_call 27; (with_reducible refine (HWX.out _ _ HB2.out (by have := HLE.out; rw [List.length_append]; simp; omega)).mono ?_); rintro e w3 ⟨rfl, hb3, hbl3⟩; have HB3 := Lib.hid hb3; have HL3 := Lib.hid hbl3; clear hb3 hbl3))
          go_roundw
          case rel => exact ⟨k + 1, by omega, by go_num, Below.trans (Below.trans HF.out HL2.out) HL3.out, by rw [HQ.out, HQ1.out, ← List.append_assoc]; exact HB3.out⟩
          case measure => simp [intOf]; omega
      · have hq1 : qb1 x = [x] := by rw [qb1, hz, if_neg hsp]
        have HQ1 := Lib.hid hq1
        unfold spec at hsp
        simp at hsp
        have t1 : ((z : Int) == 63) = false := by rw [beq_eq_false_iff_ne]; omega
        have t2 : ((z : Int) == 42) = false := by rw [beq_eq_false_iff_ne]; omega
        have t3 : ((z : Int) == 91) = false := by rw [beq_eq_false_iff_ne]; omega
        have t4 : ((z : Int) == 92) = false := by rw [beq_eq_false_iff_ne]; omega
        clear hq hwr hz hbv hbl hq1 hx hle hbx hfr hsp h92
        go_wp2_with (go_at_call 27; (with_reducible refine (HWX.out _ _ HB.out (by have := HLE.out; omega)).mono ?_); rintro e w3 ⟨rfl, hb3, hbl3⟩; have HB3 := Lib.hid hb3; have HL3 := Lib.hid hbl3; clear hb3 hbl3)
        go_roundw
        case rel => exact ⟨k + 1, by omega, by go_num, Below.trans HF.out HL3.out, by rw [HQ.out, HQ1.out]; exact HB3.out⟩
        case measure => simp [intOf]; omega
    · obtain rfl : k = n := by omega
      rw [List.take_of_length_le (Nat.le_of_eq HL.out)] at hbl
      have hi := hfr.size
      have hst := fun W h h2 => Tryd.Builder_String_any w.heap.size w.heap.size (qb bs) W h h2
      have HB := Lib.hid hbl.lib
      have HST := Lib.hid hst
      clear hbl hst
      go_wp2_with (go_at_call 28; (refine (HST.out _ HB.out hi).mono ?_); rintro e w1 ⟨rfl, hf1⟩)
      go_ret
      exact ⟨rfl, Below.trans hfr hf1⟩
set_option maxRecDepth 100000 in
theorem head_any (A : Option Addr) (l cA : Nat) (ps : List Pt) (w : World) (hA : Pts w A l ps) (hl : l ≤ 1000) (hok : ∀ p ∈ ps, okP Rn p) :
    Calls Tryd.prog 24 #[.slice A l cA] w fun e w' => e = .returned (.tuple #[.string ⟨(tx (hd ps).1).toArray⟩, .bool (hd ps).2]) ∧ Fresh w w' := by
  have hps : ps.length = l := by obtain ⟨vs, h1, h2, h3, h4⟩ := hA; exact h2
  have HA := Lib.hid hA
  have HL := Lib.hid hps
  have HOK := Lib.hid hok
  have HM := Lib.hid (Bld.made w)
  clear hA hps hok
  go_enter Tryd.func24, Tryd.ntmps24
  go_wp2
  go_loopw [11] (fun i wr => ∃ (k : Nat) (rs : List Nat), k ≤ l ∧ i = .int .i64 k ∧ Fresh w wr ∧ Hid (ps = rs.map Pt.it ++ ps.drop k) ∧ Hid (rs.length = k) ∧ Bld wr w.heap.size (tx rs)) (fun i _ => l - (intOf i).toNat)
  case atStart => exact ⟨0, [], Nat.zero_le _, rfl, Fresh.alloc _ _, rfl, rfl, HM.out⟩
  case round =>
    obtain ⟨k, rs, hk, rfl, hfr, hrs, hrl, hbl⟩ := hrel
    have htl : (tx rs).length ≤ 4 * rs.length := by
      clear hrs hrl hbl
      induction rs with
      | nil => simp
      | cons r rs ih => rw [tx_cons, List.length_append, List.length_cons, en_len]; have := wid_bd r; omega
    rw [hrl.out] at htl
    by_cases hlt : k < l
    · obtain ⟨p, hp⟩ : ∃ p, ps[k]? = some p := ⟨_, List.getElem?_eq_getElem (by rw [HL.out]; exact hlt)⟩
      obtain ⟨b, off, v, rfl, hcv, hpv⟩ := (HA.out.fresh hfr).at_ hp
      have hdr : ps.drop k = p :: ps.drop (k + 1) := by
        have h1 : k < ps.length := by rw [HL.out]; exact hlt
        rw [List.drop_eq_getElem_cons h1]
        congr 1
        have h2 := List.getElem?_eq_getElem h1
        rw [hp] at h2
        exact (Option.some.inj h2).symm
      have hhd : hd ps = (rs ++ (hd (p :: ps.drop (k + 1))).1, (hd (p :: ps.drop (k + 1))).2) := by
        have h1 := hd_its rs (ps.drop k)
        rw [← hrs.out, hdr] at h1
        exact h1
      have hst := fun W h h2 => Tryd.Builder_String_any w.heap.size w.heap.size (tx rs) W h h2
      have hi := hfr.size
      have HB := Lib.hid hbl
      have HLB := Lib.hid hbl.lib
      have HF := Lib.hid hfr
      have HST := Lib.hid hst
      have HTL := Lib.hid htl
      cases p with
      | it r =>
        have hrn : Rn r := HOK.out (.it r) (List.mem_of_getElem? hp)
        have hrs2 : ps = (rs ++ [r]).map Pt.it ++ ps.drop (k + 1) := by
          have h := hrs.out
          rw [hdr] at h
          rw [List.map_append, List.append_assoc]
          exact h
        have hv : v = .iface 79 (r32 r) := hpv
        subst hv
        have a1 := as_it_it (r32 r)
        have HRN := Lib.hid hrn
        have HRS := Lib.hid hrs2
        have HRL := Lib.hid (show (rs ++ [r]).length = k + 1 by rw [List.length_append, hrl.out]; rfl)
        clear hbl hfr hst htl hp hpv hdr hhd hrs hrl hrn hrs2
        go_wp2_with (go_at_call 32; (refine (writeRune_any _ _ HRN.out _ _ HB.out (by have := HTL.out; omega)).mono ?_); rintro e w2 ⟨⟨x2, rfl⟩, hb2, hbl2⟩; have HB2 := Lib.hid hb2; have HL2 := Lib.hid hbl2; clear hb2 hbl2)
        go_roundw
        case rel => exact ⟨k + 1, rs ++ [r], by omega, by go_num, Below.trans HF.out HL2.out, HRS.out, HRL.out, by rw [tx_snoc]; exact HB2.out⟩
        case measure => simp [intOf]; omega
      | one =>
        have e1 : hd ps = (rs, false) := by rw [hhd]; simp [hd]
        have hv : v = .iface 90 (.agg #[]) := hpv
        subst hv
        have a1 := as_one_it (.agg #[])
        have HE := Lib.hid e1
        clear hbl hfr hst htl hp hpv hdr hhd hrs hrl e1
        go_wp2_with (go_at_call 28; (refine (HST.out _ HLB.out hi).mono ?_); rintro e w1 ⟨rfl, hf1⟩)
        go_ret2
        exact ⟨by rw [HE.out]; rfl, Below.trans HF.out hf1⟩
      | star =>
        have e1 : hd ps = (rs, false) := by rw [hhd]; simp [hd]
        have hv : v = .iface 93 (.agg #[]) := hpv
        subst hv
        have a1 := as_star_it (.agg #[])
        have HE := Lib.hid e1
        clear hbl hfr hst htl hp hpv hdr hhd hrs hrl e1
        go_wp2_with (go_at_call 28; (refine (HST.out _ HLB.out hi).mono ?_); rintro e w1 ⟨rfl, hf1⟩)
        go_ret2
        exact ⟨by rw [HE.out]; rfl, Below.trans HF.out hf1⟩
      | all =>
        have e1 : hd ps = (rs, false) := by rw [hhd]; simp [hd]
        have hv : v = .iface 92 (.agg #[]) := hpv
        subst hv
        have a1 := as_all_it (.agg #[])
        have HE := Lib.hid e1
        clear hbl hfr hst htl hp hpv hdr hhd hrs hrl e1
        go_wp2_with (go_at_call 28; (refine (HST.out _ HLB.out hi).mono ?_); rintro e w1 ⟨rfl, hf1⟩)
        go_ret2
        exact ⟨by rw [HE.out]; rfl, Below.trans HF.out hf1⟩
      | cls nt sp =>
        have e1 : hd ps = (rs, false) := by rw [hhd]; simp [hd]
        obtain ⟨AS, cs, rfl, _, _, _⟩ := hpv
        have a1 := as_cls_it (.agg #[.bool nt, .slice AS sp.length cs])
        have HE := Lib.hid e1
        clear hbl hfr hst htl hp hdr hhd hrs hrl e1
        go_wp2_with (go_at_call 28; (refine (HST.out _ HLB.out hi).mono ?_); rintro e w1 ⟨rfl, hf1⟩)
        go_ret2
        exact ⟨by rw [HE.out]; rfl, Below.trans HF.out hf1⟩
    · obtain rfl : k = l := by omega
      have e1 : hd ps = (rs, true) := by
        have h1 := hd_its rs (ps.drop k)
        rw [← hrs.out, List.drop_of_length_le (by rw [HL.out]; exact Nat.le_refl _)] at h1
        rw [h1]
        simp [hd]
      have hst := fun W h h2 => Tryd.Builder_String_any w.heap.size w.heap.size (tx rs) W h h2
      have hi := hfr.size
      have HLB := Lib.hid hbl.lib
      have HF := Lib.hid hfr
      have HST := Lib.hid hst
      have HE := Lib.hid e1
      clear hbl hfr hst hrs hrl e1
      go_wp2_with (go_at_call 28; (refine (HST.out _ HLB.out hi).mono ?_); rintro e w1 ⟨rfl, hf1⟩)
      go_ret2
      exact ⟨by rw [HE.out]; rfl, Below.trans HF.out hf1⟩
theorem head2_any (g : Nat) (ps : List Pt) (w : World) (hg : GlobAt w g ps) (hl : ps.length ≤ 1000) (hok : ∀ p ∈ ps, okP Rn p) :
    Calls Tryd.prog 15 #[ptg g] w fun e w' => e = .returned (.tuple #[.string ⟨(tx (hd ps).1).toArray⟩, .bool (hd ps).2]) ∧ Fresh w w' := by
  obtain ⟨A, l, c, hb, hlm, hP⟩ := hg
  have hps : ps.length = l := by obtain ⟨vs, h1, h2, h3, h4⟩ := hP; exact h2
  have c0 := hb.cell (i := 0) rfl
  have hh := head_any A l c ps w hP (by omega) hok
  have HH := Lib.hid hh
  clear hh hP hok hb hlm hps
  go_enter Tryd.func15, Tryd.ntmps15
  go_wp2_with (go_at_call 24; (refine HH.out.mono ?_); rintro e w1 ⟨rfl, hf1⟩)
  go_ret2
  exact ⟨rfl, hf1⟩
theorem head3_any (w : World) : Calls Tryd.prog 15 #[.pointer none] w fun e w' => e = .returned (.tuple #[.string ⟨#[]⟩, .bool false]) ∧ Fresh w w' := by
  go_enter Tryd.func15, Tryd.ntmps15
  go_wp2
  go_ret2
  exact ⟨rfl, Fresh.refl _⟩
end Go.Proofs.YtkkkjadfhimahaaDoor.glbp
