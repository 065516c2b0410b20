import Derived.Test.YtmnegmebkmihhaaGreatDoorMgUza
import Derived.Test.YtmnegmebkmihhaaGreatDoorRecCen
import Derived.Test.YtmnegmebkmihhaaGreatDoorMgMth
import Derived.Test.YtmnegmebkmihhaaGreatDoorMgRef
import Derived.Test.YtmnegmebkmihhaaGreatDoorMgPut
import Derived.Test.YtmnegmebkmihhaaGreatDoorRecHead
import Derived.Laws.ResultCell
import Derived.Deep.RegionHeld3
import Derived.Test.YtmnegmebkmihhaaGreatDoorMgNam
import Derived.StringKeys
import Derived.Deep.DeepCutAuto
/- Several of my own texts, one behind the other. -/
/-
  unzip's centrals: the heads that a tail tells of. My own text.
-/
namespace Go.Proofs.YtmnegmebkmihhaaGreatDoor.unzp
open Go.RowKit Go.Proofs.YtmnegmebkmihhaaGreatDoor.base Go.Proofs.YtmnegmebkmihhaaGreatDoor.recn Go.Proofs.YtmnegmebkmihhaaGreatDoor.recp Go.Proofs.YtmnegmebkmihhaaGreatDoor.unz
set_option linter.unusedVariables false
abbrev tHeads : TypeId := 80
/-- a head in a row of heads: with where its name lies -/
structure HRow where
  h : Hd
  A : Option Addr
  c : Nat
def hrow (r : HRow) : List Value := headV r.h r.A r.c
theorem hrow_len (r : HRow) : (hrow r).length = 9 := rfl
theorem hrow_one (r : HRow) : ∀ u ∈ hrow r, u.oneCell' = true := by
  intro v hv
  simp only [hrow, headV, List.mem_cons, List.not_mem_nil, or_false] at hv
  rcases hv with rfl | rfl | rfl | rfl | rfl | rfl | rfl | rfl | rfl <;> rfl
theorem headInfo : (Tryz.prog.info? tHead).map (fun i => (i.zero, i.size, i.bytes)) = some (some (.agg zeroV.toArray), 9, 88) := by kernel_rfl
/-- a row of heads that is the call's own; their names lie apart from it -/
structure HeadsAt (w : World) (base : Nat) (A : Option Addr) (n c : Nat) (l : List HRow) : Prop where
  row : OwnK w base tHead 9 A n c hrow l
  nms : ∀ r ∈ l, RdA w (Value.slice A n c).ownBlock.toList r.A r.h.nm.length (r.h.nm.map bv) ∧ r.h.nm.length ≤ r.c ∧ r.c ≤ maxLen
theorem HeadsAt.nil (w : World) (base : Nat) : HeadsAt w base none 0 0 [] := ⟨OwnK.nil _ _ _ _ _, fun r hr => by cases hr⟩
theorem HeadsAt.fresh {w w' : World} {base n c : Nat} {A : Option Addr} {l : List HRow} (h : HeadsAt w base A n c l) (q : Fresh w w') : HeadsAt w' base A n c l :=
  ⟨h.row.fresh q, fun r hr => ⟨(h.nms r hr).1.fresh q, (h.nms r hr).2⟩⟩
theorem HeadsAt.len {w : World} {base n c : Nat} {A : Option Addr} {l : List HRow} (h : HeadsAt w base A n c l) : l.length = n := h.row.len hrow_len (by omega)
def CensIs (w : World) (r : Except Nat (List Hd)) (e : Ending) (w' : World) : Prop :=
  Fresh w w' ∧ match r with
  | .error k => e = .returned (.tuple #[.slice none 0 0, .int .i64 (k : Nat)])
  | .ok hs => ∃ A c l, e = .returned (.tuple #[.slice A hs.length c, .int .i64 0]) ∧ HeadsAt w' w.heap.size A hs.length c l ∧ l.map HRow.h = hs
theorem cen_row (A : Option Addr) (n c : Nat) (xs : List UInt8) (p : Nat) (w : World) (B : Nat) (hr : Rd w B A n (xs.map bv)) (hB : B ≤ w.heap.size) (hc : n ≤ c) (hm : c ≤ maxLen) (hn : n ≤ 1099511627776) (hp : p ≤ 1099511627776) {fl me dt cr cs si at_ en : Nat} {nm : List UInt8} {wd : Bool} (h : cen xs (p : Nat) = .ok (⟨fl, me, dt, cr, cs, si, at_, nm, wd⟩, en)) :
    Calls Tryz.prog 70 #[.slice A n c, .int .i64 (p : Nat)] w fun e w' => Fresh w w' ∧ ∃ A3 c3, e = .returned (.tuple #[.agg #[iv (fl : Nat), iv (me : Nat), iv (dt : Nat), .int .u32 (cr : Nat), iv (cs : Nat), iv (si : Nat), iv (at_ : Nat), .slice A3 nm.length c3, .bool wd], iv (en : Nat), iv 0]) ∧ nm.length ≤ c3 ∧ c3 ≤ maxLen ∧ RdA w' (List.range w.heap.size) A3 nm.length (nm.map bv) := by
  have h1 := getCentral_any A n c xs (p : Nat) w B hr hB hc hm hn (by omega) (by omega)
  rw [h] at h1
  exact h1
theorem cen_bad (A : Option Addr) (n c : Nat) (xs : List UInt8) (p : Nat) (w : World) (B : Nat) (hr : Rd w B A n (xs.map bv)) (hB : B ≤ w.heap.size) (hc : n ≤ c) (hm : c ≤ maxLen) (hn : n ≤ 1099511627776) (hp : p ≤ 1099511627776) {k : Nat} (h : cen xs (p : Nat) = .error k) :
    Calls Tryz.prog 70 #[.slice A n c, .int .i64 (p : Nat)] w fun e w' => Fresh w w' ∧ e = .returned (.tuple #[.agg #[iv 0, iv 0, iv 0, .int .u32 0, iv 0, iv 0, iv 0, .slice none 0 0, .bool false], .int .i64 0, .int .i64 (k : Nat)]) := by
  have h1 := getCentral_any A n c xs (p : Nat) w B hr hB hc hm hn (by omega) (by omega)
  rw [h] at h1
  exact h1
set_option maxRecDepth 100000 in
set_option maxHeartbeats 8000000 in
theorem centrals_any (A : Option Addr) (n c : Nat) (xs : List UInt8) (t : Tl) (w : World) (B : Nat) (hr : Rd w B A n (xs.map bv)) (hB : B ≤ w.heap.size) (hc : n ≤ c) (hm : c ≤ maxLen) (hn : n ≤ 1099511627776) (ht1 : t.many < 281474976710656) (ht2 : t.long < 281474976710656) (ht3 : t.at_ < 281474976710656) (r : Except Nat (List Hd)) (hres : cens xs t = r) :
    Calls Tryz.prog 37 #[.slice A n c, .agg #[iv (t.many : Nat), iv (t.long : Nat), iv (t.at_ : Nat), .bool t.wd]] w (CensIs w r) := by
  have hlx : xs.length = n := by have := hr.1; rwa [List.length_map] at this
  obtain ⟨many, long, at_, wd⟩ := t
  simp only at ht1 ht2 ht3 ⊢
  have hal := Fresh.alloc w (.cells #[iv (many : Nat), iv (long : Nat), iv (at_ : Nat), .bool wd] 76)
  have hbk := Bk.made w 76 #[iv (many : Nat), iv (long : Nat), iv (at_ : Nat), .bool wd]
  have hr0 := hr.alloc hB (.cells #[iv (many : Nat), iv (long : Nat), iv (at_ : Nat), .bool wd] 76)
  have hsz : (w.alloc (.cells #[iv (many : Nat), iv (long : Nat), iv (at_ : Nat), .bool wd] 76)).heap.size = w.heap.size + 1 := by simp
  unfold cens at hres
  simp only [hlx] at hres
  by_cases h1 : n < at_ + long
  · rw [if_pos h1] at hres
    subst hres
    have hwi := fun W => within_any at_ long n W (by omega) (by omega) (by omega) false (by rw [decide_eq_false_iff_not]; omega)
    have HWI := Lib.hid hwi
    have HAL := Lib.hid hal
    clear hwi hal hbk hr0 hsz
    go_enter Tryz.func37, Tryz.ntmps37
    go_wp2_with (go_at_call 69; ((with_reducible refine (HWI.out _).mono ?_); rintro e w1 ⟨rfl, rfl⟩))
    go_ret2
    exact ⟨HAL.out, rfl⟩
  rw [if_neg h1] at hres
  have hwi := fun W => within_any at_ long n W (by omega) (by omega) (by omega) true (by rw [decide_eq_true_iff]; omega)
  have HWI := Lib.hid hwi
  by_cases h2 : 1000 < many
  · rw [if_pos h2] at hres
    subst hres
    have t1 : decide ((many : Int) > 1000) = true := by rw [decide_eq_true_iff]; omega
    have t2 : decide (1000 < (many : Int)) = true := by rw [decide_eq_true_iff]; omega
    have HAL := Lib.hid hal
    clear hwi hal hbk hr0 hsz h1 h2 ht1
    go_enter Tryz.func37, Tryz.ntmps37
    go_wp2_with (go_at_call 69; ((with_reducible refine (HWI.out _).mono ?_); rintro e w1 ⟨rfl, rfl⟩))
    go_ret2
    exact ⟨HAL.out, rfl⟩
  rw [if_neg h2] at hres
  have hmany : many ≤ 1000 := by omega
  have t1 : decide ((many : Int) > 1000) = false := by rw [decide_eq_false_iff_not]; omega
  have t2 : decide (1000 < (many : Int)) = false := by rw [decide_eq_false_iff_not]; omega
  have hat : at_ ≤ n := by omega
  have hwr : wrap64 ((at_ : Int) + (long : Int)) = (at_ : Int) + (long : Int) := by unfold wrap64; omega
  have HAL := Lib.hid hal
  have HBK := Lib.hid hbk
  have HR0 := Lib.hid hr0
  have HSZ := Lib.hid hsz
  have HRES := Lib.hid hres
  have HLX := Lib.hid hlx
  have HM := Lib.hid hm
  have HN := Lib.hid hn
  have HB := Lib.hid hB
  obtain ⟨i0, hi0, hz0, hz1, hz2⟩ := info_parts headInfo
  clear hwi hal hbk hr0 hsz h1 h2 ht1 ht2 ht3 hres hlx hr hm hn hB
  go_enter Tryz.func37, Tryz.ntmps37
  go_wp2_with (go_at_call 69; ((with_reducible refine (HWI.out _).mono ?_); rintro e w1 ⟨rfl, rfl⟩))
  go_loopw [6, 7, 26] (fun vh va vi wr => ∃ (i p ch : Nat) (Ah : Option Addr) (l : List HRow), vi = .int .i64 (i : Nat) ∧ va = .int .i64 (p : Nat) ∧ vh = .slice Ah i ch ∧ i ≤ many ∧ p ≤ n ∧ Hid (HeadsAt wr (w.heap.size + 1) Ah i ch l) ∧ Hid (Hup xs many at_ (many - i) (l.map HRow.h) p) ∧ Hid (Fresh (w.alloc (.cells #[iv (many : Nat), iv (long : Nat), iv (at_ : Nat), .bool wd] 76)) wr)) (fun _ _ vi _ => many - (intOf vi).toNat)
  case atStart => exact ⟨0, at_, 0, none, [], rfl, rfl, rfl, Nat.zero_le _, hat, Lib.hid (HeadsAt.nil _ _), Lib.hid (Hup.start _ _ _), Lib.hid (Fresh.refl _)⟩
  case round =>
    obtain ⟨i, p, ch, Ah, l, rfl, rfl, rfl, hi, hp, HH, HU, HF⟩ := hrel
    have hm1 := (HBK.out.fresh HF.out).cell (i := 0) rfl
    have hm2 := (HBK.out.fresh HF.out).cell (i := 1) rfl
    have hm3 := (HBK.out.fresh HF.out).cell (i := 2) rfl
    by_cases hlt : i < many
    · have ti : decide ((i : Int) < (many : Int)) = true := by rw [decide_eq_true_iff]; omega
      have hrr : Rd wr B A n (xs.map bv) := HR0.out.keep fun q hq => HF.out.block q (by have := HB.out; have := HSZ.out; omega)
      have hBr : B ≤ wr.heap.size := Nat.le_trans HB.out (Nat.le_trans HAL.out.size HF.out.size)
      have hmi : many - i = (many - i - 1) + 1 := by omega
      have HU' : Hid (Hup xs many at_ ((many - i - 1) + 1) (l.map HRow.h) p) := by rw [← hmi]; exact HU.out
      cases hce : cen xs (p : Nat) with
      | error k =>
        have hcall := cen_bad A n c xs p wr B hrr hBr hc HM.out HN.out (by have := HN.out; omega) hce
        have hk := cen_err_ne hce
        have hres := HRES.out
        rw [HU'.out.bad hce] at hres
        simp only at hres
        have hkk : ((k : Int) != 0) = true := by rw [bne_iff_ne]; omega
        have hkk2 : ((k : Int) == 0) = false := by simp; omega
        have HCALL := Lib.hid hcall
        have HR := Lib.hid hres
        clear hcall hrr hce hres hk hmi
        go_wp2_with (go_at_call 70; ((with_reducible refine HCALL.out.mono ?_); rintro e w2 ⟨hf2, rfl⟩))
        go_ret2
        rw [← HR.out]
        exact ⟨(HAL.out.trans HF.out).trans (hf2.trans (Fresh.alloc _ _)), rfl⟩
      | ok x =>
        obtain ⟨⟨fl, me, dt, cr, cs, si, at', nm, wd'⟩, en⟩ := x
        have hcall := cen_row A n c xs p wr B hrr hBr hc HM.out HN.out (by have := HN.out; omega) hce
        have hen := (cen_ok hce).2
        rw [HLX.out] at hen
        have hnext := HU'.out.next hce
        have HNX := Lib.hid hnext
        have HCALL := Lib.hid hcall
        have HEN := Lib.hid hen
        clear hcall hrr hce hnext hen hmi
        go_wp2_with (first
          | (go_at_call 70; ((with_reducible refine HCALL.out.mono ?_); rintro e w2 ⟨hf2, A3, c3, rfl, hl3, hc3, hr3⟩; have hal2 := Fresh.alloc w2 (.cells #[iv (fl : Nat), iv (me : Nat), iv (dt : Nat), .int .u32 (cr : Nat), iv (cs : Nat), iv (si : Nat), iv (at' : Nat), .slice A3 nm.length c3, .bool wd'] tHead); have hal3 := Fresh.alloc (w2.alloc (.cells #[iv (fl : Nat), iv (me : Nat), iv (dt : Nat), .int .u32 (cr : Nat), iv (cs : Nat), iv (si : Nat), iv (at' : Nat), .slice A3 nm.length c3, .bool wd'] tHead)) (.cells #[iv (fl : Nat), iv (me : Nat), iv (dt : Nat), .int .u32 (cr : Nat), iv (cs : Nat), iv (si : Nat), iv (at' : Nat), .slice A3 nm.length c3, .bool wd'] tHead); have HF2 := Lib.hid (hf2.trans (hal2.trans hal3)); have HBX := Lib.hid (Bk.made (w2.alloc (.cells #[iv (fl : Nat), iv (me : Nat), iv (dt : Nat), .int .u32 (cr : Nat), iv (cs : Nat), iv (si : Nat), iv (at' : Nat), .slice A3 nm.length c3, .bool wd'] tHead)) tHead #[iv (fl : Nat), iv (me : Nat), iv (dt : Nat), .int .u32 (cr : Nat), iv (cs : Nat), iv (si : Nat), iv (at' : Nat), .slice A3 nm.length c3, .bool wd']); have HNM := Lib.hid ((hr3.of_range (row := (Value.slice Ah i ch).ownBlock) fun q hq => (HH.out.row.block q hq).2.1).fresh (hal2.trans hal3)); have HL3 := Lib.hid hl3; have HC3 := Lib.hid hc3; have HHX := Lib.hid (HH.out.fresh HF2.out); have hsz2 : (w2.alloc (.cells #[iv (fl : Nat), iv (me : Nat), iv (dt : Nat), .int .u32 (cr : Nat), iv (cs : Nat), iv (si : Nat), iv (at' : Nat), .slice A3 nm.length c3, .bool wd'] tHead)).heap.size = w2.heap.size + 1 := (by simp); rw [hsz2] at HBX; have HFX := Lib.hid (HF.out.trans HF2.out); have hb9 := HFX.out.size; rw [HSZ.out] at hb9; have HB9 := Lib.hid hb9; clear hb9; clear hf2 hal2 hal3 hr3 hl3 hc3 hsz2))
          | (at_builtin; (refine wpList_append_cells _ rfl _ _ tHeads rfl (w.heap.size + 1) tHead i0 _ 9 88 Tryz.underlying80 hi0 hz0 hz1 hz2 rfl (by omega) hrow Ah i ch l rfl HHX.out.row (w2.heap.size + 1) ⟨⟨fl, me, dt, cr, cs, si, at', nm, wd'⟩, A3, c3⟩ rfl HBX.out rfl (hrow_one _) (by omega) (by omega) HB9.out ?_; intro A4 c4 w4 hown4 hg4 hb4)))
        refine ⟨⟨i + 1, en, c4, A4, l ++ [⟨⟨fl, me, dt, cr, cs, si, at', nm, wd'⟩, A3, c3⟩], by go_num, rfl, rfl, by omega, HEN.out, Lib.hid ⟨hown4, fun r hr => ?_⟩, ?_, Lib.hid (HHX.out.row.append HFX.out (by have := HSZ.out; omega) hg4)⟩, ?_⟩
        · rcases List.mem_append.1 hr with hr | hr
          · exact ⟨(HHX.out.nms r hr).1.grown hg4 hb4, (HHX.out.nms r hr).2⟩
          · rw [List.mem_singleton] at hr
            subst hr
            exact ⟨HNM.out.grown hg4 hb4, HL3.out, HC3.out⟩
        · rw [List.map_append]
          have e : many - (i + 1) = many - i - 1 := by omega
          rw [e]
          exact HNX
        · simp [intOf]; omega
    · obtain rfl : i = many := by omega
      have hU := HU.out
      rw [Nat.sub_self] at hU
      have hres := HRES.out
      rw [hU.done] at hres
      simp only at hres
      have ti : decide ((i : Int) < (i : Int)) = false := by simp
      by_cases hz : p = at_ + long
      · rw [if_pos hz] at hres
        have tz : ((p : Int) != (at_ : Int) + (long : Int)) = false := by rw [hz]; simp
        have HR := Lib.hid hres
        clear hres hU hz
        go_wp2
        go_ret2
        rw [← HR.out]
        have hl := HH.out.len
        refine ⟨HAL.out.trans HF.out, Ah, ch, l, ?_, ?_, rfl⟩
        · rw [List.length_map, hl]
          rfl
        · rw [List.length_map, hl]
          exact ⟨HH.out.row.low (by omega), HH.out.nms⟩
      · rw [if_neg hz] at hres
        have tz : ((p : Int) != (at_ : Int) + (long : Int)) = true := by rw [bne_iff_ne]; omega
        have HR := Lib.hid hres
        clear hres hU hz
        go_wp2
        go_ret2
        rw [← HR.out]
        exact ⟨HAL.out.trans HF.out, rfl⟩
end Go.Proofs.YtmnegmebkmihhaaGreatDoor.unzp
/-
  unzip's dataAt: where the data of an entry begin. My own text.
-/
namespace Go.Proofs.YtmnegmebkmihhaaGreatDoor.unzp
open Go.RowKit Go.Proofs.YtmnegmebkmihhaaGreatDoor.base Go.Proofs.YtmnegmebkmihhaaGreatDoor.recn Go.Proofs.YtmnegmebkmihhaaGreatDoor.recp Go.Proofs.YtmnegmebkmihhaaGreatDoor.unz
set_option linter.unusedVariables false
theorem ne_dec (a b : Nat) : ((a : Int) != (b : Int)) = !decide (a = b) := by
  rw [Bool.eq_iff_iff, bne_iff_ne]; simp; omega
theorem eq_dec (a b : Nat) : ((a : Int) == (b : Int)) = decide (a = b) := by
  rw [Bool.eq_iff_iff, beq_iff_eq]; simp; omega
def DatIs (w : World) (r : Except Nat Nat) (e : Ending) (w' : World) : Prop :=
  Fresh w w' ∧ match r with
  | .error k => e = .returned (.tuple #[iv 0, .int .i64 (k : Nat)])
  | .ok a => e = .returned (.tuple #[iv (a : Nat), .int .i64 0])
theorem loc_row (A : Option Addr) (n c : Nat) (xs : List UInt8) (p : Nat) (w : World) (B : Nat) (hr : Rd w B A n (xs.map bv)) (hB : B ≤ w.heap.size) (hc : n ≤ c) (hm : c ≤ maxLen) (hn : n ≤ 1099511627776) (hp : p < 281474976710656) {fl me dt cr cs si at_ en : Nat} {nm : List UInt8} {wd : Bool} (h : loc xs (p : Nat) = .ok (⟨fl, me, dt, cr, cs, si, at_, nm, wd⟩, en)) :
    Calls Tryz.prog 137 #[.slice A n c, .int .i64 (p : Nat)] w fun e w' => Fresh w w' ∧ ∃ A3 c3, e = .returned (.tuple #[.agg #[iv (fl : Nat), iv (me : Nat), iv (dt : Nat), .int .u32 (cr : Nat), iv (cs : Nat), iv (si : Nat), iv (at_ : Nat), .slice A3 nm.length c3, .bool wd], iv (en : Nat), iv 0]) ∧ nm.length ≤ c3 ∧ c3 ≤ maxLen ∧ RdA w' (List.range w.heap.size) A3 nm.length (nm.map bv) := by
  have h1 := getLocal_any A n c xs (p : Nat) w B hr hB hc hm hn (by omega) (by omega)
  rw [h] at h1
  exact h1
theorem loc_bad (A : Option Addr) (n c : Nat) (xs : List UInt8) (p : Nat) (w : World) (B : Nat) (hr : Rd w B A n (xs.map bv)) (hB : B ≤ w.heap.size) (hc : n ≤ c) (hm : c ≤ maxLen) (hn : n ≤ 1099511627776) (hp : p < 281474976710656) {k : Nat} (h : loc xs (p : Nat) = .error k) :
    Calls Tryz.prog 137 #[.slice A n c, .int .i64 (p : Nat)] w fun e w' => Fresh w w' ∧ e = .returned (.tuple #[.agg #[iv 0, iv 0, iv 0, .int .u32 0, iv 0, iv 0, iv 0, .slice none 0 0, .bool false], .int .i64 0, .int .i64 (k : Nat)]) := by
  have h1 := getLocal_any A n c xs (p : Nat) w B hr hB hc hm hn (by omega) (by omega)
  rw [h] at h1
  exact h1
set_option maxRecDepth 100000 in
set_option maxHeartbeats 16000000 in
theorem dataAt_any (A : Option Addr) (n c : Nat) (xs : List UInt8) (h : Hd) (N : Option Addr) (nc : Nat) (w : World) (B : Nat) (hr : Rd w B A n (xs.map bv)) (hB : B ≤ w.heap.size) (hc : n ≤ c) (hm : c ≤ maxLen) (hn : n ≤ 1099511627776) (hN : Rd w w.heap.size N h.nm.length (h.nm.map bv)) (hat : h.at_ < 281474976710656) (r : Except Nat Nat) (hres : dat xs h = r) :
    Calls Tryz.prog 73 #[.slice A n c, .agg (headV h N nc).toArray] w (DatIs w r) := by
  obtain ⟨fl, me, dt, cr, cs, si, at_, nm, wd⟩ := h
  simp only [headV] at hat hN ⊢
  unfold dat at hres
  simp only at hres
  have hal := Fresh.alloc w (.cells #[iv (fl : Nat), iv (me : Nat), iv (dt : Nat), .int .u32 (cr : Nat), iv (cs : Nat), iv (si : Nat), iv (at_ : Nat), .slice N nm.length nc, .bool wd] tHead)
  have hbk := Bk.made w tHead #[iv (fl : Nat), iv (me : Nat), iv (dt : Nat), .int .u32 (cr : Nat), iv (cs : Nat), iv (si : Nat), iv (at_ : Nat), .slice N nm.length nc, .bool wd]
  have hr0 := hr.alloc hB (.cells #[iv (fl : Nat), iv (me : Nat), iv (dt : Nat), .int .u32 (cr : Nat), iv (cs : Nat), iv (si : Nat), iv (at_ : Nat), .slice N nm.length nc, .bool wd] tHead)
  have hN0 := hN.fresh hal
  have hB0 : B ≤ (w.alloc (.cells #[iv (fl : Nat), iv (me : Nat), iv (dt : Nat), .int .u32 (cr : Nat), iv (cs : Nat), iv (si : Nat), iv (at_ : Nat), .slice N nm.length nc, .bool wd] tHead)).heap.size := Nat.le_trans hB hal.size
  cases hlo : loc xs (at_ : Nat) with
  | error k =>
    rw [hlo] at hres
    simp only at hres
    subst hres
    have hcall := loc_bad A n c xs at_ _ B hr0 hB0 hc hm hn hat hlo
    have hk := loc_err_ne hlo
    have hkk : ((k : Int) != 0) = true := by rw [bne_iff_ne]; omega
    have HCALL := Lib.hid hcall
    have HAL := Lib.hid hal
    clear hcall hal hr0 hN0 hB0 hlo hbk hr hN hk
    go_enter Tryz.func73, Tryz.ntmps73
    go_wp2_with (go_at_call 137; ((with_reducible refine HCALL.out.mono ?_); rintro e w2 ⟨hf2, rfl⟩))
    go_ret2
    exact ⟨HAL.out.trans (hf2.trans (Fresh.alloc _ _)), rfl⟩
  | ok x =>
    obtain ⟨⟨fl', me', dt', cr', cs', si', at', nm', wd'⟩, en⟩ := x
    rw [hlo] at hres
    simp only at hres
    have hcall := loc_row A n c xs at_ _ B hr0 hB0 hc hm hn hat hlo
    have hbd := (loc_ok' hlo).1
    simp only at hbd
    have t3 := and_8 fl' hbd.1
    have t3b : (fl' / 8 % 2 == 0) = !(fl' / 8 % 2 == 1) := by rw [Bool.eq_iff_iff]; simp
    have t2 := ne_dec me' me
    have t4 := ne_dec cr' cr
    have t5 := ne_dec cs' cs
    have t6 := ne_dec si' si
    rw [t3b] at hres
    have heq := fun (W : World) (D : Option Addr) (d : Nat) (h1 : Rd W W.heap.size D nm'.length (nm'.map bv)) (h2 : Rd W W.heap.size N nm.length (nm.map bv)) => equal_any D N nm'.length nm.length d nc nm' nm W _ _ h1 h2 _ rfl
    generalize decide (nm' = nm) = b1 at *
    generalize decide (me' = me) = b2 at *
    generalize (fl' / 8 % 2 == 1) = b3 at *
    generalize decide (cr' = cr) = b4 at *
    generalize decide (cs' = cs) = b5 at *
    generalize decide (si' = si) = b6 at *
    generalize nm'.length = L' at *
    generalize nm.length = L at *
    have HEQ := Lib.hid heq
    have HCALL := Lib.hid hcall
    have HAL := Lib.hid hal
    have HBK := Lib.hid hbk
    have HN0 := Lib.hid hN0
    have hbr : b1 = false ∨ (b1 = true ∧ b2 = false) ∨ (b1 = true ∧ b2 = true ∧ b3 = true) ∨ (b1 = true ∧ b2 = true ∧ b3 = false ∧ b4 = false) ∨ (b1 = true ∧ b2 = true ∧ b3 = false ∧ b4 = true ∧ b5 = false) ∨ (b1 = true ∧ b2 = true ∧ b3 = false ∧ b4 = true ∧ b5 = true ∧ b6 = false) ∨ (b1 = true ∧ b2 = true ∧ b3 = false ∧ b4 = true ∧ b5 = true ∧ b6 = true) := by
      cases b1 <;> cases b2 <;> cases b3 <;> cases b4 <;> cases b5 <;> cases b6 <;> simp
    clear hcall hal hr0 hN0 hB0 hlo hbk hr hN hbd heq
    rcases hbr with rfl | ⟨rfl, rfl⟩ | ⟨rfl, rfl, rfl⟩ | ⟨rfl, rfl, rfl, rfl⟩ | ⟨rfl, rfl, rfl, rfl, rfl⟩ | ⟨rfl, rfl, rfl, rfl, rfl, rfl⟩ | ⟨rfl, rfl, rfl, rfl, rfl, rfl⟩
    all_goals simp only [Bool.not_true, Bool.not_false, Bool.true_or, Bool.or_true, Bool.or_false, Bool.false_and, Bool.and_true, Bool.and_false, if_true, if_false, Bool.false_eq_true] at hres t2 t3 t4 t5 t6
    all_goals subst hres
    all_goals go_enter Tryz.func73, Tryz.ntmps73
    all_goals go_upto_region 2 with (go_at_call 137; ((with_reducible refine HCALL.out.mono ?_); rintro e w2 ⟨hf2, A3, c3, rfl, hl3, hc3, hr3⟩; have hal2 := Fresh.alloc w2 (.cells #[iv (fl' : Nat), iv (me' : Nat), iv (dt' : Nat), .int .u32 (cr' : Nat), iv (cs' : Nat), iv (si' : Nat), iv (at' : Nat), .slice A3 L' c3, .bool wd'] tHead); have HB2 := Lib.hid (Bk.made w2 tHead #[iv (fl' : Nat), iv (me' : Nat), iv (dt' : Nat), .int .u32 (cr' : Nat), iv (cs' : Nat), iv (si' : Nat), iv (at' : Nat), .slice A3 L' c3, .bool wd']); have HF2 := Lib.hid (HAL.out.trans (hf2.trans hal2)); have HBK2 := Lib.hid (HBK.out.fresh (hf2.trans hal2)); have HEQ2 := Lib.hid (HEQ.out _ A3 c3 (hr3.rd.fresh hal2) (HN0.out.fresh (hf2.trans hal2))); clear hf2 hl3 hc3 hr3 hal2))
    all_goals generalize w2.alloc (.cells #[iv (fl' : Nat), iv (me' : Nat), iv (dt' : Nat), .int .u32 (cr' : Nat), iv (cs' : Nat), iv (si' : Nat), iv (at' : Nat), .slice A3 L' c3, .bool wd'] tHead) = W2 at *
    all_goals generalize w2.heap.size = g2 at *
    all_goals have k1 := HBK2.out.cell (i := 1) rfl
    all_goals have k3 := HBK2.out.cell (i := 3) rfl
    all_goals have k4 := HBK2.out.cell (i := 4) rfl
    all_goals have k5 := HBK2.out.cell (i := 5) rfl
    all_goals have k7 := HBK2.out.cell (i := 7) rfl
    all_goals have l0 := HB2.out.cell (i := 0) rfl
    all_goals have l1 := HB2.out.cell (i := 1) rfl
    all_goals have l3 := HB2.out.cell (i := 3) rfl
    all_goals have l4 := HB2.out.cell (i := 4) rfl
    all_goals have l5 := HB2.out.cell (i := 5) rfl
    all_goals have l7 := HB2.out.cell (i := 7) rfl
    all_goals go_wp2_with (go_at_call 138; ((with_reducible refine HEQ2.out.mono ?_); rintro e w3 ⟨rfl, rfl⟩))
    all_goals go_ret2
    all_goals exact ⟨HF2.out, rfl⟩
end Go.Proofs.YtmnegmebkmihhaaGreatDoor.unzp
/-
  Names, as the program and the reference decode and allow them, by one model. My own text.
-/
namespace Go.Proofs.YtmnegmebkmihhaaGreatDoor.unzp
open Go.RowKit Go.Proofs.YtmnegmebkmihhaaGreatDoor.base Go.Proofs.YtmnegmebkmihhaaGreatDoor.nam Go.Proofs.YtmnegmebkmihhaaGreatDoor.namp Go.Proofs.YtmnegmebkmihhaaGreatDoor.recn Go.Proofs.YtmnegmebkmihhaaGreatDoor.unz
set_option linter.unusedVariables false
theorem mayP_is (rs : List Nat) (u : List UInt8) (h : ∀ r ∈ rs, Rn r) (hu : u = [] ∨ Bad u) : mayP rs u = mayL (tx rs ++ u) := by
  unfold mayP mayL
  rcases hu with rfl | hu
  · rw [List.append_nil, valid_good rs h, tx_ok rs h, Bool.true_and]
    simp
  · rw [valid_bad rs u h hu, decide_eq_false hu.1]
    simp
def decV (r : Option (List UInt8)) : Value := match r with
  | none => .tuple #[.string ⟨#[]⟩, .bool false]
  | some L => .tuple #[.string ⟨L.toArray⟩, .bool true]
theorem decV_is (told : Bool) (bs : List UInt8) : decP told bs = decV (decL told bs) := by
  unfold decP decL
  cases told with
  | false => rfl
  | true =>
    rw [if_pos rfl, if_pos rfl]
    split <;> rfl
theorem dec_any (A : Option Addr) (n c : Nat) (bs : List UInt8) (told : Bool) (w : World) (B : Nat) (hr : Rd w B A n (bs.map bv)) (hB : B ≤ w.heap.size) (hn : n ≤ 4294967296) (hU : Laid w) (r : Option (List UInt8)) (hres : decL told bs = r) :
    Calls Tryz.prog 71 #[.slice A n c, .bool told] w fun e w' => e = .returned (decV r) ∧ Fresh w w' := by
  subst hres
  have h := decode_any A n c bs told w B hr hB hn hU
  rwa [decV_is] at h
theorem refDec_any (A : Option Addr) (n c : Nat) (bs : List UInt8) (told : Bool) (w : World) (B : Nat) (hr : Rd w B A n (bs.map bv)) (hB : B ≤ w.heap.size) (hn : n ≤ 4294967296) (hc : n ≤ c) (hcm : c ≤ maxLen) (r : Option (List UInt8)) (hres : decL told bs = r) :
    Calls Tryz.prog 80 #[.slice A n c, .bool told] w (NameIs (r.getD []) r.isSome w) := by
  subst hres
  cases told with
  | false => exact refDecode_page A n c bs w B hr hB hn
  | true =>
    obtain ⟨rs, u, hrn, ht, hu⟩ := read_or bs
    have hd := refDecode_told A n c bs rs u ht hrn hu w B hr hB hn hc hcm
    unfold decL
    rw [if_pos rfl]
    rcases hu with hu | hu
    · have hv : Lib.validD bs = true := by rw [ht, hu, List.append_nil]; exact valid_good rs hrn
      rw [if_pos hu, decide_eq_true hu] at hd
      rw [if_pos hv]
      exact hd
    · have hv : Lib.validD bs = false := by rw [ht]; exact valid_bad rs u hrn hu
      rw [if_neg hu.1, decide_eq_false hu.1] at hd
      rw [if_neg (by rw [hv]; simp)]
      exact hd
theorem may_of (L : List UInt8) (w : World) (hl : L.length ≤ 4294967296) (hU : Laid w) (b : Bool) (hb : mayL L = b) :
    Calls Tryz.prog 26 #[.string ⟨L.toArray⟩] w fun e w' => e = .returned (.bool b) ∧ Fresh w w' := by
  subst hb
  obtain ⟨rs, u, hrn, ht, hu⟩ := read_or L
  have h := may_any ⟨L.toArray⟩ rs u (by rw [← ht]) hrn hu w hl hU
  rw [mayP_is rs u hrn hu, ← ht] at h
  exact h
theorem refMay_of (A : Option Addr) (n c : Nat) (L : List UInt8) (w : World) (B : Nat) (hr : Rd w B A n (L.map bv)) (hB : B ≤ w.heap.size) (hn : n ≤ 4294967296) (hc : n ≤ c) (hcm : c ≤ maxLen) (b : Bool) (hb : mayL L = b) :
    Calls Tryz.prog 29 #[.slice A n c] w fun e w' => e = .returned (.bool b) ∧ Fresh w w' := by
  subst hb
  obtain ⟨rs, u, hrn, ht, hu⟩ := read_or L
  have h := refMay_any A n c L rs u ht hrn hu w B hr hB hn hc hcm
  rw [mayP_is rs u hrn hu, ← ht] at h
  exact h
end Go.Proofs.YtmnegmebkmihhaaGreatDoor.unzp
/-
  record's reaches, getEnd: my own text.
-/
namespace Go.Proofs.YtmnegmebkmihhaaGreatDoor.recp
open Go.RowKit Go.Proofs.YtmnegmebkmihhaaGreatDoor.base Go.Proofs.YtmnegmebkmihhaaGreatDoor.num Go.Proofs.YtmnegmebkmihhaaGreatDoor.word Go.Proofs.YtmnegmebkmihhaaGreatDoor.recn
set_option linter.unusedVariables false
theorem eq_len (z n : Nat) : ((22 : Int) + (z : Int) == (n : Int)) = decide (22 + z = n) := by
  rw [Bool.eq_iff_iff, beq_iff_eq, decide_eq_true_iff]; omega
set_option maxHeartbeats 2000000 in
theorem reaches_any (A : Option Addr) (n c : Nat) (xs : List UInt8) (w : World) (B : Nat) (hr : Rd w B A n (xs.map bv)) (hB : B ≤ w.heap.size) (hc : n ≤ c) (hm : c ≤ maxLen) (hn : n ≤ 1099511627776) (h22 : 22 ≤ n) (b : Bool) (hb9 : decide (22 + nm xs 20 2 = n) = b) :
    Calls Tryz.prog 128 #[.slice A n c] w fun e w' => e = .returned (.bool b) ∧ Fresh w w' := by
  have hraw := (RdA.of_rd (S := [w.heap.size]) hr hB (by intro i hi; simp at hi; omega)).fresh (Fresh.alloc w (.cells #[.int .i64 0] tInt))
  have ht := hraw.tail (m := 20) (c := c) (by omega) hc
  rw [if_neg (by omega), ← List.map_drop] at ht
  have hb := Bk.made w tInt #[.int .i64 0]
  have hfw := Fresh.alloc w (.cells #[.int .i64 0] tInt)
  have hget : Calls Tryz.prog 129 #[.slice (A.map fun x => (⟨x.block, x.off + 20, none⟩ : Addr)) (n - 20) (c - 20), .int .i64 2, .slice (some ⟨w.heap.size + 1, 0, none⟩) 1 1] ((w.alloc (.cells #[.int .i64 0] tInt)).alloc (.cells #[ptr w.heap.size] tPtr)) (Got [w.heap.size] (sets ((w.alloc (.cells #[.int .i64 0] tInt)).alloc (.cells #[ptr w.heap.size] tPtr)) (gets 2 (xs.drop 20) [⟨w.heap.size, 0, none⟩])) (n - 20 - 1 * 2) ((xs.drop 20).drop (1 * 2))) :=
    get_row (A.map (·.add 20)) (n - 20) (c - 20) 2 (xs.drop 20) [⟨w.heap.size, 0, none⟩] [w.heap.size] 1 _ (w.alloc (.cells #[.int .i64 0] tInt)) ht (by omega) (by unfold maxLen at *; omega) (by omega) (.inl rfl) rfl (by simp) (by intro p hp; rw [List.mem_singleton] at hp; subst hp; exact ⟨by simp, hb.wr (by simp)⟩) (by intro i hi; rw [List.mem_singleton] at hi; subst hi; exact hb.inside) (by omega)
  have e0 : nm (xs.drop 20) (0 * 2) 2 = nm xs 20 2 := nm_drop _ _ _ _
  have hb2 : Bk (sets ((w.alloc (.cells #[.int .i64 0] tInt)).alloc (.cells #[ptr w.heap.size] tPtr)) (gets 2 (xs.drop 20) [⟨w.heap.size, 0, none⟩])) w.heap.size tInt [iv (nm xs 20 2 : Nat)] := by
    rw [← e0]
    exact (hb.alloc _).put 0 _
  have hfs : Fresh w (sets ((w.alloc (.cells #[.int .i64 0] tInt)).alloc (.cells #[ptr w.heap.size] tPtr)) (gets 2 (xs.drop 20) [⟨w.heap.size, 0, none⟩])) :=
    (sets_turn (S := [w.heap.size]) _ _ (by intro x hx; simp [gets] at hx; subst hx; simp)).new (hfw.trans (Fresh.alloc _ _)) (by intro i hi; simp at hi; omega)
  have h2 := nm2 xs 20
  generalize nm xs 20 2 = z at *
  have HE := Lib.hid (eq_len z n)
  have HBE := Lib.hid hb9
  have HGET := Lib.hid hget
  have HB2 := Lib.hid hb2
  have HFS := Lib.hid hfs
  unfold maxLen at hm
  clear hget hb2 hfs hb hfw hraw ht hr e0 hb9
  go_enter Tryz.func128, Tryz.ntmps128
  go_wp2_with (go_at_call 129; ((with_reducible refine HGET.out.mono ?_); rintro e w2 ⟨A2, c2, rfl, hc2, hm2, hf2, hr2⟩; have k0 : w2.cell? ⟨w.heap.size, 0, none⟩ = some (iv (z : Nat)) := (HB2.out.fresh hf2).cell rfl; have HF3 := Lib.hid (HFS.out.trans hf2); clear hf2 hr2 hm2))
  go_ret
  exact ⟨by rw [← HBE.out, ← HE.out]; rfl, HF3.out⟩
theorem one4 (x y z : Int) (b : Bool) : (#[iv x, iv y, iv z, .bool b] : Array Value).all (·.oneCell') = true := all_one _ (by
  intro v hv
  simp only [List.mem_cons, List.not_mem_nil, or_false] at hv
  rcases hv with rfl | rfl | rfl | rfl <;> rfl)
/-- a tail's cells -/
abbrev tailV (a b c : Int) (d : Bool) : List Value := [iv a, iv b, iv c, .bool d]
theorem boxes2 (w : World) (hv : List Value) :
    Bk ((((w.alloc (.cells hv.toArray tTail)).alloc (.cells hv.toArray tTail)).alloc (.cells #[.int .i64 0] tInt)).alloc (.cells #[.int .i64 0] tInt)) w.heap.size tTail hv ∧
    Bk ((((w.alloc (.cells hv.toArray tTail)).alloc (.cells hv.toArray tTail)).alloc (.cells #[.int .i64 0] tInt)).alloc (.cells #[.int .i64 0] tInt)) (w.heap.size + 1) tTail hv ∧
    Bk ((((w.alloc (.cells hv.toArray tTail)).alloc (.cells hv.toArray tTail)).alloc (.cells #[.int .i64 0] tInt)).alloc (.cells #[.int .i64 0] tInt)) (w.heap.size + 1 + 1) tInt [iv 0] ∧
    Bk ((((w.alloc (.cells hv.toArray tTail)).alloc (.cells hv.toArray tTail)).alloc (.cells #[.int .i64 0] tInt)).alloc (.cells #[.int .i64 0] tInt)) (w.heap.size + 1 + 1 + 1) tInt [iv 0] ∧
    Fresh w ((((w.alloc (.cells hv.toArray tTail)).alloc (.cells hv.toArray tTail)).alloc (.cells #[.int .i64 0] tInt)).alloc (.cells #[.int .i64 0] tInt)) ∧
    ((((w.alloc (.cells hv.toArray tTail)).alloc (.cells hv.toArray tTail)).alloc (.cells #[.int .i64 0] tInt)).alloc (.cells #[.int .i64 0] tInt)).heap.size = w.heap.size + 4 := by
  have h0 := Bk.made w tTail hv.toArray
  have h1 := Bk.made (w.alloc (.cells hv.toArray tTail)) tTail hv.toArray
  have h2 := Bk.made ((w.alloc (.cells hv.toArray tTail)).alloc (.cells hv.toArray tTail)) tInt #[.int .i64 0]
  have h3 := Bk.made (((w.alloc (.cells hv.toArray tTail)).alloc (.cells hv.toArray tTail)).alloc (.cells #[.int .i64 0] tInt)) tInt #[.int .i64 0]
  have e1 : (w.alloc (.cells hv.toArray tTail)).heap.size = w.heap.size + 1 := by simp
  have e2 : ((w.alloc (.cells hv.toArray tTail)).alloc (.cells hv.toArray tTail)).heap.size = w.heap.size + 1 + 1 := by simp
  have e3 : (((w.alloc (.cells hv.toArray tTail)).alloc (.cells hv.toArray tTail)).alloc (.cells #[.int .i64 0] tInt)).heap.size = w.heap.size + 1 + 1 + 1 := by simp
  rw [e1] at h1
  rw [e2] at h2
  rw [e3] at h3
  exact ⟨((h0.alloc _).alloc _).alloc _, (h1.alloc _).alloc _, h2.alloc _, h3, (((Fresh.alloc _ _).trans (Fresh.alloc _ _)).trans (Fresh.alloc _ _)).trans (Fresh.alloc _ _), by simp⟩
set_option maxRecDepth 100000 in
set_option maxHeartbeats 4000000 in
theorem getEnd_any (A : Option Addr) (n c : Nat) (xs : List UInt8) (w : World) (B : Nat) (hr : Rd w B A n (xs.map bv)) (hB : B ≤ w.heap.size) (hc : n ≤ c) (hm : c ≤ maxLen) (hn : n ≤ 1099511627776) (h22 : 22 ≤ n) (m l a : Nat) (hem : nm xs 10 2 = m) (hel : nm xs 12 4 = l) (hea : nm xs 16 4 = a) :
    Calls Tryz.prog 66 #[.slice A n c] w fun e w' => e = .returned (.agg #[iv (m : Nat), iv (l : Nat), iv (a : Nat), .bool false]) ∧ Fresh w w' := by
  have HB : RowKit.Hid (B ≤ w.heap.size) := hB
  have HMX : RowKit.Hid (c ≤ maxLen) := hm
  have HR := Lib.hid hr
  have HEM := Lib.hid hem
  have HEL := Lib.hid hel
  have HEA := Lib.hid hea
  clear hr hem hel hea hB hm
  go_enter Tryz.func66, Tryz.ntmps66
  go_upto_region 3 with (fail)
  obtain ⟨b0, b1, b2, b3, hfW, hszW⟩ := boxes2 w [iv 0, iv 0, iv 0, .bool false]
  have hr := HR.out
  have hB := HB.out
  have hm := HMX.out
  have hra := ((RdA.of_rd (S := [w.heap.size, w.heap.size + 1, w.heap.size + 1 + 1, w.heap.size + 1 + 1 + 1]) hr hB (by intro i hi; simp at hi; omega)).fresh hfW)
  have ht := hra.tail (m := 4) (c := c) (by omega) hc
  rw [if_neg (by omega), ← List.map_drop] at ht
  have e2 : nm (xs.drop 4) (2 * 2) 2 = nm xs 8 2 := nm_drop _ _ _ _
  have e3 : nm (xs.drop 4) (3 * 2) 2 = nm xs 10 2 := nm_drop _ _ _ _
  have e4 : nm ((xs.drop 4).drop (4 * 2)) (0 * 4) 4 = nm xs 12 4 := by rw [nm_drop, nm_drop]
  have e5 : nm ((xs.drop 4).drop (4 * 2)) (1 * 4) 4 = nm xs 16 4 := by rw [nm_drop, nm_drop]
  rw [HEM.out] at e3
  rw [HEL.out] at e4
  rw [HEA.out] at e5
  generalize ((((w.alloc (.cells #[.int .i64 0, .int .i64 0, .int .i64 0, .bool false] tTail)).alloc (.cells #[.int .i64 0, .int .i64 0, .int .i64 0, .bool false] tTail)).alloc (.cells #[.int .i64 0] tInt)).alloc (.cells #[.int .i64 0] tInt)) = W at *
  obtain ⟨g, hg⟩ : ∃ g, w.heap.size = g := ⟨_, rfl⟩
  rw [hg] at b0 b1 b2 b3 hra ht hszW hB ⊢
  have hS : ∀ i ∈ [g, g + 1, g + 1 + 1, g + 1 + 1 + 1], i < W.heap.size := by intro i hi; simp at hi; omega
  have hget : Calls Tryz.prog 129 #[.slice (A.map fun x => (⟨x.block, x.off + 4, none⟩ : Addr)) (n - 4) (c - 4), .int .i64 2, .slice (some ⟨W.heap.size, 0, none⟩) 4 4] (W.alloc (.cells #[ptr (g + 1 + 1), ptr (g + 1 + 1), ptr (g + 1 + 1 + 1), ptrA ⟨g + 1, 0, none⟩] tPtr)) (Got [g, g + 1, g + 1 + 1, g + 1 + 1 + 1] (sets (W.alloc (.cells #[ptr (g + 1 + 1), ptr (g + 1 + 1), ptr (g + 1 + 1 + 1), ptrA ⟨g + 1, 0, none⟩] tPtr)) (gets 2 (xs.drop 4) [⟨g + 1 + 1, 0, none⟩, ⟨g + 1 + 1, 0, none⟩, ⟨g + 1 + 1 + 1, 0, none⟩, ⟨g + 1, 0, none⟩])) (n - 4 - 4 * 2) ((xs.drop 4).drop (4 * 2))) :=
    get_row (A.map (·.add 4)) (n - 4) (c - 4) 2 (xs.drop 4) [⟨g + 1 + 1, 0, none⟩, ⟨g + 1 + 1, 0, none⟩, ⟨g + 1 + 1 + 1, 0, none⟩, ⟨g + 1, 0, none⟩] [g, g + 1, g + 1 + 1, g + 1 + 1 + 1] 4 _ W ht (by omega) (by unfold maxLen at *; omega) (by omega) (.inl rfl) rfl rfl (by
      intro p hp
      simp only [List.mem_cons, List.not_mem_nil, or_false] at hp
      rcases hp with rfl | rfl | rfl | rfl
      · exact ⟨by simp, b2.wr (by simp)⟩
      · exact ⟨by simp, b2.wr (by simp)⟩
      · exact ⟨by simp, b3.wr (by simp)⟩
      · exact ⟨by simp, b1.wr (by simp)⟩) hS (by omega)
  have hT2 : ∀ W2, Fresh (sets (W.alloc (.cells #[ptr (g + 1 + 1), ptr (g + 1 + 1), ptr (g + 1 + 1 + 1), ptrA ⟨g + 1, 0, none⟩] tPtr)) (gets 2 (xs.drop 4) [⟨g + 1 + 1, 0, none⟩, ⟨g + 1 + 1, 0, none⟩, ⟨g + 1 + 1 + 1, 0, none⟩, ⟨g + 1, 0, none⟩])) W2 → Turn [g + 1, g + 1 + 1, g + 1 + 1 + 1] [g + 1, g + 1 + 1, g + 1 + 1 + 1] W W2 ∧ Bk W2 (g + 1) tTail (tailV m 0 0 false) := fun W2 h =>
    ⟨turn_of (Fresh.alloc _ _) h (by intro x hx; simp [gets] at hx; rcases hx with rfl | rfl | rfl | rfl <;> simp), by
      rw [← e3]
      exact (((((b1.alloc _).apart (p := ⟨g + 1 + 1, 0, none⟩) (by simp) _).apart (p := ⟨g + 1 + 1, 0, none⟩) (by simp) _).apart (p := ⟨g + 1 + 1 + 1, 0, none⟩) (by simp) _).put 0 _).fresh h⟩
  have hget2 : ∀ W2 A2 c2, Turn [g + 1, g + 1 + 1, g + 1 + 1 + 1] [g + 1, g + 1 + 1, g + 1 + 1 + 1] W W2 → Bk W2 (g + 1) tTail (tailV m 0 0 false) → RdA W2 [g, g + 1, g + 1 + 1, g + 1 + 1 + 1] A2 (n - 4 - 4 * 2) (((xs.drop 4).drop (4 * 2)).map bv) → n - 4 - 4 * 2 ≤ c2 → c2 ≤ maxLen →
      Calls Tryz.prog 129 #[.slice A2 (n - 4 - 4 * 2) c2, .int .i64 4, .slice (some ⟨W2.heap.size, 0, none⟩) 2 2] (W2.alloc (.cells #[ptrA ⟨g + 1, 1, none⟩, ptrA ⟨g + 1, 2, none⟩] tPtr)) (Got [g, g + 1, g + 1 + 1, g + 1 + 1 + 1] (sets (W2.alloc (.cells #[ptrA ⟨g + 1, 1, none⟩, ptrA ⟨g + 1, 2, none⟩] tPtr)) (gets 4 ((xs.drop 4).drop (4 * 2)) [⟨g + 1, 1, none⟩, ⟨g + 1, 2, none⟩])) (n - 4 - 4 * 2 - 2 * 4) (((xs.drop 4).drop (4 * 2)).drop (2 * 4))) := fun W2 A2 c2 hT hb hr2 hc2 hm2 =>
    get_row A2 (n - 4 - 4 * 2) c2 4 ((xs.drop 4).drop (4 * 2)) [⟨g + 1, 1, none⟩, ⟨g + 1, 2, none⟩] [g, g + 1, g + 1 + 1, g + 1 + 1 + 1] 2 _ W2 hr2 hc2 hm2 (by omega) (.inr rfl) rfl rfl (by
      intro p hp
      simp only [List.mem_cons, List.not_mem_nil, or_false] at hp
      rcases hp with rfl | rfl
      · exact ⟨by simp, hb.wr (by simp)⟩
      · exact ⟨by simp, hb.wr (by simp)⟩) (fun i hi => Nat.lt_of_lt_of_le (hS i hi) hT.size) (by omega)
  have hT3 : ∀ W2 W3, Bk W2 (g + 1) tTail (tailV m 0 0 false) → Fresh (sets (W2.alloc (.cells #[ptrA ⟨g + 1, 1, none⟩, ptrA ⟨g + 1, 2, none⟩] tPtr)) (gets 4 ((xs.drop 4).drop (4 * 2)) [⟨g + 1, 1, none⟩, ⟨g + 1, 2, none⟩])) W3 → Turn [g + 1] [g + 1] W2 W3 ∧ Bk W3 (g + 1) tTail (tailV m l a false) := fun W2 W3 hb h =>
    ⟨turn_of (Fresh.alloc _ _) h (by intro x hx; simp [gets] at hx; rcases hx with rfl | rfl <;> simp), by
      rw [← e4, ← e5]
      exact (((hb.alloc _).put 1 _).put 2 _).fresh h⟩
  have hall : (#[iv (m : Nat), iv (l : Nat), iv (a : Nat), .bool false] : Array Value).all (·.oneCell') = true := one4 _ _ _ _
  have hfn : ∀ W2 W3, Turn [g + 1, g + 1 + 1, g + 1 + 1 + 1] [g + 1, g + 1 + 1, g + 1 + 1 + 1] W W2 → Turn [g + 1] [g + 1] W2 W3 → Fresh w W3 ∧ Bk W3 g tTail (tailV 0 0 0 false) := fun W2 W3 h2 h3 =>
    ⟨(h2.trans (h3.wide (T := [g + 1, g + 1 + 1, g + 1 + 1 + 1]) (by simp))).new hfW (by intro i hi; simp at hi; omega), (b0.turn h2 (by simp; omega)).turn h3 (by simp)⟩
  have HGET := Lib.hid hget
  have HT2 := Lib.hid hT2
  have HGET2 := Lib.hid hget2
  have HT3 := Lib.hid hT3
  have HALL := Lib.hid hall
  have HG := Lib.hid hg
  have HFN := Lib.hid hfn
  unfold maxLen at hm
  clear hget hT2 hget2 hT3 hall b0 b1 b2 b3 hfW hra ht e2 e3 e4 e5 hr hS hfn hg hszW
  go_upto_region 5 with (first
    | (go_at_call 129; ((with_reducible refine HGET.out.mono ?_); rintro e w2 ⟨A2, c2, rfl, hc2, hm2, hf2, hr2⟩; obtain ⟨hT2, hb2⟩ := HT2.out _ hf2; have HS2 := Lib.hid (HGET2.out w2 A2 c2 hT2 hb2 hr2 hc2 hm2); have HTT := Lib.hid hT2; have HBB := Lib.hid hb2; clear hf2 hr2 hm2 hT2 hb2))
    | (go_at_call 129; ((with_reducible refine HS2.out.mono ?_); rintro e w3 ⟨A3, c3, rfl, hc3, hm3, hf3, hr3⟩; obtain ⟨hT3, hb3⟩ := HT3.out _ _ HBB.out hf3; obtain ⟨hf4, hb4⟩ := HFN.out _ _ HTT.out hT3; have HB3 := Lib.hid hb3; have HF4 := Lib.hid hf4; have HB4 := Lib.hid hb4; clear hf3 hr3 hm3 hT3 hb3 hf4 hb4)))
  have hb3 := HB3.out
  have c0 := hb3.cell (i := 0) rfl
  have c1' := hb3.cell (i := 1) rfl
  have c2' := hb3.cell (i := 2) rfl
  have c3' := hb3.cell (i := 3) rfl
  clear hb3
  go_wp2_with (refine wpList_store_row (o := ⟨none, _, _, _, _, _⟩) rfl tTail (.tmp 2) (.tmp 16) rfl g #[iv (m : Nat), iv (l : Nat), iv (a : Nat), .bool false] rfl rfl tTail _ HB4.out (by kernel_rfl) (by rfl) HALL.out ?_)
  exact bodyPost_ret (results_cell_row (p := 2) (by kernel_rfl) _ _ g tTail #[iv (m : Nat), iv (l : Nat), iv (a : Nat), .bool false] (0, 0) _ rfl (HB4.out.row _) Tryz.underlying76 rfl (by kernel_rfl)) rfl ⟨rfl, HF4.out.but (Nat.le_of_eq HG.out) (But.row _ _ _)⟩
end Go.Proofs.YtmnegmebkmihhaaGreatDoor.recp
/-
  record's wideTail: my own text.
-/
namespace Go.Proofs.YtmnegmebkmihhaaGreatDoor.recp
open Go.RowKit Go.Proofs.YtmnegmebkmihhaaGreatDoor.base Go.Proofs.YtmnegmebkmihhaaGreatDoor.num Go.Proofs.YtmnegmebkmihhaaGreatDoor.word Go.Proofs.YtmnegmebkmihhaaGreatDoor.recn
set_option linter.unusedVariables false
theorem results_row_tmp {P : Program} {fn : Func} {p u : Tmp} {ty : TypeId} (h : fn.results = #[.cell p ty, .tmp u]) (tmps : Array Value) (w : World) (g : Nat) (t : TypeId) (cs : List Value) (d : TypeDesc)
    (hp : tmps.getD p undef = .pointer (some ⟨g, 0, none⟩)) (hg : Bk w g t cs)
    (hu : P.underlying ty = some d) (hd : (match d with | .struct _ | .array _ _ => true | _ => false) = true) (hi : (P.info? ty).map (·.size) = some cs.length) :
    (results fn tmps).run P w = .ok (.tuple #[.agg cs.toArray, tmps.getD u undef]) w := by
  rw [results_cell_tmp h, hp]
  simp [asAddr, run_loadVar_row w g t ty cs.toArray (0, 0) d hg hu hd (by simpa using hi)]
/-- the wide tail that is told at u -/
def wideAt (xs : List UInt8) (u : Nat) : Option Tl :=
  if xs.length < u + 56 then none else
  if sg xs u 6 6 = false then none else
  if nm xs (u + 32) 8 < 281474976710656 ∧ nm xs (u + 40) 8 < 281474976710656 ∧ nm xs (u + 48) 8 < 281474976710656 then some ⟨nm xs (u + 32) 8, nm xs (u + 40) 8, nm xs (u + 48) 8, true⟩ else none
theorem wideTl_no {xs : List UInt8} {p k : Nat} (hp : p + 22 ≤ xs.length) (h : bg xs ((p : Int) - 20) [80, 75, 6, 7] 20 = .error k) : wideTl xs p = none := by
  unfold wideTl
  by_cases h1 : p < 20
  · rw [if_pos h1]
  · rw [if_neg h1]
    obtain ⟨q, rfl⟩ : ∃ q, p = q + 20 := ⟨p - 20, by omega⟩
    have e : (((q + 20 : Nat) : Int) - 20) = (q : Int) := by omega
    rw [e] at h
    unfold bg at h
    rw [if_neg (by omega), Int.toNat_natCast, if_neg (by omega)] at h
    by_cases h2 : sg xs q 6 7 = false
    · rw [show q + 20 - 20 = q from by omega, if_pos h2]
    · unfold sg at h2
      rw [if_neg h2, if_neg (by omega)] at h
      cases h
theorem wideTl_ok {xs : List UInt8} {p : Nat} {ys : List UInt8} (h : bg xs ((p : Int) - 20) [80, 75, 6, 7] 20 = .ok ys) :
    ∃ q : Nat, p = q + 20 ∧ ys = (xs.drop (q + 4)).take 16 ∧ q + 20 ≤ xs.length ∧ wideTl xs p = wideAt xs (nm xs (q + 8) 8) := by
  obtain ⟨q, hq, h1, h2, h3, h4⟩ := bg_ok h
  refine ⟨q, by omega, h4, h3, ?_⟩
  have hp : p = q + 20 := by omega
  subst hp
  unfold wideTl wideAt
  rw [if_neg (by omega), show q + 20 - 20 = q from by omega, show q + 20 - 12 = q + 8 from by omega, if_neg (by unfold sg; rw [h1]; simp)]
theorem wideAt_no {xs : List UInt8} {u k : Nat} (hl : xs.length ≤ 1099511627776) (hu : u < 18446744073709551616) (h : bg xs (sg64 u) [80, 75, 6, 6] 56 = .error k) : wideAt xs u = none := by
  unfold wideAt
  by_cases h1 : xs.length < u + 56
  · rw [if_pos h1]
  · rw [if_neg h1]
    rw [sg64_small u (by omega)] at h
    unfold bg at h
    rw [if_neg (by omega), Int.toNat_natCast, if_neg (by omega)] at h
    by_cases h2 : sg xs u 6 6 = false
    · rw [if_pos h2]
    · unfold sg at h2
      rw [if_neg h2, if_neg (by omega)] at h
      cases h
theorem wideAt_ok {xs : List UInt8} {u : Nat} {ys : List UInt8} (hl : xs.length ≤ 1099511627776) (hu : u < 18446744073709551616) (h : bg xs (sg64 u) [80, 75, 6, 6] 56 = .ok ys) :
    u + 56 ≤ xs.length ∧ ys = (xs.drop (u + 4)).take 52 ∧ wideAt xs u = (if nm xs (u + 32) 8 < 281474976710656 ∧ nm xs (u + 40) 8 < 281474976710656 ∧ nm xs (u + 48) 8 < 281474976710656 then some ⟨nm xs (u + 32) 8, nm xs (u + 40) 8, nm xs (u + 48) 8, true⟩ else none) := by
  obtain ⟨q, hq, h1, h2, h3, h4⟩ := bg_ok h
  have e : u = q := by
    unfold sg64 at hq
    split at hq <;> omega
  subst e
  refine ⟨h3, h4, ?_⟩
  unfold wideAt
  rw [if_neg (by omega), if_neg (by unfold sg; rw [h1]; simp)]
theorem fits63 (U V X : Int) (hU : -9223372036854775808 ≤ U ∧ U ≤ 9223372036854775807) (hV : -9223372036854775808 ≤ V ∧ V ≤ 9223372036854775807) (hX : -9223372036854775808 ≤ X ∧ X ≤ 9223372036854775807) (b : Bool)
    (hb : decide ((0 ≤ U ∧ U < 281474976710656) ∧ (0 ≤ V ∧ V < 281474976710656) ∧ (0 ≤ X ∧ X < 281474976710656)) = b) (w : World) :
    Calls Tryz.prog 109 #[.int .i64 6, .slice (some ⟨w.heap.size, 0, none⟩) 3 3] (w.alloc (.cells #[.int .i64 U, .int .i64 V, .int .i64 X] tInt)).drew fun e w' => e = .returned (.bool b) ∧ (w.alloc (.cells #[.int .i64 U, .int .i64 V, .int .i64 X] tInt)).drew = w' := by
  refine fits_is _ 3 3 [U, V, X] 6 _ (w.heap.size + 1) b ((Rd.lit w #[.int .i64 U, .int .i64 V, .int .i64 X] tInt).keep fun i hi => rfl) (by unfold maxLen; omega) ?_ ?_
  · intro z hz
    simp only [List.mem_cons, List.not_mem_nil, or_false] at hz
    rcases hz with rfl | rfl | rfl
    · exact WalkArith.wf_i64 hU
    · exact WalkArith.wf_i64 hV
    · exact WalkArith.wf_i64 hX
  · show fits 6 [U, V, X] = b
    rw [fits, List.all_cons, List.all_cons, List.all_cons, List.all_nil, Bool.and_true, ← hb]
    show (decide (0 ≤ U ∧ U < 281474976710656) && (decide (0 ≤ V ∧ V < 281474976710656) && decide (0 ≤ X ∧ X < 281474976710656))) = _
    simp
def WideIs (r : Option Tl) (e : Ending) : Prop :=
  match r with
  | none => ∃ (x y z : Int) (b : Bool), e = .returned (.tuple #[.agg #[iv x, iv y, iv z, .bool b], .bool false])
  | some t => e = .returned (.tuple #[.agg #[iv (t.many : Nat), iv (t.long : Nat), iv (t.at_ : Nat), .bool true], .bool true])
theorem box_two (w : World) :
    Bk ((w.alloc (.cells #[.int .i64 0] tInt)).alloc (.cells #[.int .i64 0] tInt)) w.heap.size tInt [iv 0] ∧ Bk ((w.alloc (.cells #[.int .i64 0] tInt)).alloc (.cells #[.int .i64 0] tInt)) (w.heap.size + 1) tInt [iv 0] ∧
    Fresh w ((w.alloc (.cells #[.int .i64 0] tInt)).alloc (.cells #[.int .i64 0] tInt)) ∧ ((w.alloc (.cells #[.int .i64 0] tInt)).alloc (.cells #[.int .i64 0] tInt)).heap.size = w.heap.size + 2 := by
  have h0 := Bk.made w tInt #[.int .i64 0]
  have h1 := Bk.made (w.alloc (.cells #[.int .i64 0] tInt)) tInt #[.int .i64 0]
  have e1 : (w.alloc (.cells #[.int .i64 0] tInt)).heap.size = w.heap.size + 1 := by simp
  rw [e1] at h1
  exact ⟨h0.alloc _, h1, (Fresh.alloc _ _).trans (Fresh.alloc _ _), by simp⟩
theorem boxes4 (w : World) (hv : List Value) :
    Bk ((((w.alloc (.cells hv.toArray tTail)).alloc (.cells #[.int .i64 0] tInt)).alloc (.cells #[.int .i64 0] tInt)).alloc (.cells #[.int .i64 0] tInt)) w.heap.size tTail hv ∧
    Bk ((((w.alloc (.cells hv.toArray tTail)).alloc (.cells #[.int .i64 0] tInt)).alloc (.cells #[.int .i64 0] tInt)).alloc (.cells #[.int .i64 0] tInt)) (w.heap.size + 1) tInt [iv 0] ∧
    Bk ((((w.alloc (.cells hv.toArray tTail)).alloc (.cells #[.int .i64 0] tInt)).alloc (.cells #[.int .i64 0] tInt)).alloc (.cells #[.int .i64 0] tInt)) (w.heap.size + 1 + 1) tInt [iv 0] ∧
    Bk ((((w.alloc (.cells hv.toArray tTail)).alloc (.cells #[.int .i64 0] tInt)).alloc (.cells #[.int .i64 0] tInt)).alloc (.cells #[.int .i64 0] tInt)) (w.heap.size + 1 + 1 + 1) tInt [iv 0] ∧
    Fresh w ((((w.alloc (.cells hv.toArray tTail)).alloc (.cells #[.int .i64 0] tInt)).alloc (.cells #[.int .i64 0] tInt)).alloc (.cells #[.int .i64 0] tInt)) ∧
    ((((w.alloc (.cells hv.toArray tTail)).alloc (.cells #[.int .i64 0] tInt)).alloc (.cells #[.int .i64 0] tInt)).alloc (.cells #[.int .i64 0] tInt)).heap.size = w.heap.size + 4 := by
  have h0 := Bk.made w tTail hv.toArray
  have h1 := Bk.made (w.alloc (.cells hv.toArray tTail)) tInt #[.int .i64 0]
  have h2 := Bk.made ((w.alloc (.cells hv.toArray tTail)).alloc (.cells #[.int .i64 0] tInt)) tInt #[.int .i64 0]
  have h3 := Bk.made (((w.alloc (.cells hv.toArray tTail)).alloc (.cells #[.int .i64 0] tInt)).alloc (.cells #[.int .i64 0] tInt)) tInt #[.int .i64 0]
  have e1 : (w.alloc (.cells hv.toArray tTail)).heap.size = w.heap.size + 1 := by simp
  have e2 : ((w.alloc (.cells hv.toArray tTail)).alloc (.cells #[.int .i64 0] tInt)).heap.size = w.heap.size + 1 + 1 := by simp
  have e3 : (((w.alloc (.cells hv.toArray tTail)).alloc (.cells #[.int .i64 0] tInt)).alloc (.cells #[.int .i64 0] tInt)).heap.size = w.heap.size + 1 + 1 + 1 := by simp
  rw [e1] at h1
  rw [e2] at h2
  rw [e3] at h3
  exact ⟨((h0.alloc _).alloc _).alloc _, (h1.alloc _).alloc _, h2.alloc _, h3, (((Fresh.alloc _ _).trans (Fresh.alloc _ _)).trans (Fresh.alloc _ _)).trans (Fresh.alloc _ _), by simp⟩
end Go.Proofs.YtmnegmebkmihhaaGreatDoor.recp
/-
  unzip's entry: what a central head tells. My own text.
-/
namespace Go.Proofs.YtmnegmebkmihhaaGreatDoor.unzp
open Go.RowKit Go.Maps Go.Proofs.YtmnegmebkmihhaaGreatDoor.base Go.Proofs.YtmnegmebkmihhaaGreatDoor.nam Go.Proofs.YtmnegmebkmihhaaGreatDoor.namp Go.Proofs.YtmnegmebkmihhaaGreatDoor.recn Go.Proofs.YtmnegmebkmihhaaGreatDoor.recp Go.Proofs.YtmnegmebkmihhaaGreatDoor.unz
set_option linter.unusedVariables false
abbrev tFile : TypeId := 47
abbrev tStr : TypeId := 9
abbrev tNames : TypeId := 83
abbrev tNone : TypeId := 86
theorem strKey : Keyed Tryz.prog tStr := string_keyed Tryz.underlying9
theorem key_str (s : ByteArray) (h : s.size ≤ maxLen) : keyOf Tryz.prog tStr (.string s) = some (.string s.data.toList) := by
  simp [keyOf, Tryz.underlying9, mapKey, h]
theorem zero_none (w : World) : (zeroValue tNone).run Tryz.prog w = .ok (.agg #[]) w := by kernel_rfl
/-- names that came, in a map -/
def nmkv (l : List (List UInt8)) : List (Value × Value) := l.map fun t => (.string ⟨t.toArray⟩, .agg #[])
theorem nm_hit {l : List (List UInt8)} {t : List UInt8} (h : t ∈ l) : ((.string ⟨t.toArray⟩, .agg #[]) : Value × Value) ∈ nmkv l := List.mem_map.2 ⟨t, h, rfl⟩
theorem nm_miss {l : List (List UInt8)} {t : List UInt8} (h : t ∉ l) : ∀ p ∈ nmkv l, p.1 ≠ .string ⟨t.toArray⟩ := by
  intro p hp
  obtain ⟨q, hq, rfl⟩ := List.mem_map.1 hp
  intro e
  simp only at e
  injection e with e
  injection e with e
  injection e with e
  subst e
  exact h hq
def fileZ : List Value := [.string ⟨#[]⟩, iv 0, iv 0, .int .u32 0, iv 0, iv 0, iv 0]
def fileV (f : Fe) : List Value := [.string ⟨f.nm.toArray⟩, iv (f.me : Nat), iv (f.dt : Nat), .int .u32 (f.cr : Nat), iv (f.cs : Nat), iv (f.si : Nat), iv (f.at_ : Nat)]
def EntIs (w : World) (r : Except Nat Fe) (e : Ending) (w' : World) : Prop :=
  Fresh w w' ∧ match r with
  | .error k => e = .returned (.tuple #[.agg fileZ.toArray, .int .i64 (k : Nat)])
  | .ok f => e = .returned (.tuple #[.agg (fileV f).toArray, .int .i64 0])
theorem file_one (s : ByteArray) (a b c d e f : Int) : (#[.string s, iv a, iv b, .int .u32 c, iv d, iv e, iv f] : Array Value).all (·.oneCell') = true := all_one _ (by
  intro v hv
  simp only [List.mem_cons, List.not_mem_nil, or_false] at hv
  rcases hv with rfl | rfl | rfl | rfl | rfl | rfl | rfl <;> rfl)
set_option maxRecDepth 100000 in
set_option maxHeartbeats 16000000 in
theorem entry_any (A : Option Addr) (n c : Nat) (xs : List UInt8) (h : Hd) (N : Option Addr) (nc en m : Nat) (ahead : List (List UInt8)) (w : World) (B : Nat) (hr : Rd w B A n (xs.map bv)) (hB : B ≤ w.heap.size) (hc : n ≤ c) (hm : c ≤ maxLen) (hn : n ≤ 1099511627776)
    (hN : Rd w w.heap.size N h.nm.length (h.nm.map bv)) (hok : HdOk h xs) (hen : en < 281474976710656) (hM : MapOf Tryz.prog tStr w m (nmkv ahead)) (hU : Laid w) (r : Except Nat Fe) (hres : ent xs h en ahead = r) :
    Calls Tryz.prog 38 #[.slice A n c, .agg (headV h N nc).toArray, .int .i64 (en : Nat), .map (some m)] w (EntIs w r) := by
  have hlx : xs.length = n := by have := hr.1; rwa [List.length_map] at this
  have hdat := fun (W : World) (hf : Fresh w W) => dataAt_any A n c xs h N nc W B (hr.keep fun i hi => hf.block i (by omega)) (Nat.le_trans hB hf.size) hc hm hn (hN.fresh hf) hok.at_
  obtain ⟨fl, me, dt, cr, cs, si, at_, nm, wd⟩ := h
  obtain ⟨ofl, ome, odt, ocr, ocs, osi, oat, onm⟩ := hok
  simp only at ofl ome odt ocr ocs osi oat onm
  simp only [headV] at hN hdat ⊢
  unfold ent at hres
  simp only at hres
  have hal : Fresh w ((w.alloc (.cells #[iv (fl : Nat), iv (me : Nat), iv (dt : Nat), .int .u32 (cr : Nat), iv (cs : Nat), iv (si : Nat), iv (at_ : Nat), .slice N nm.length nc, .bool wd] tHead)).alloc (.cells #[.string ⟨#[]⟩, iv 0, iv 0, .int .u32 0, iv 0, iv 0, iv 0] tFile)) := (Fresh.alloc _ _).trans (Fresh.alloc _ _)
  have hbk : Bk ((w.alloc (.cells #[iv (fl : Nat), iv (me : Nat), iv (dt : Nat), .int .u32 (cr : Nat), iv (cs : Nat), iv (si : Nat), iv (at_ : Nat), .slice N nm.length nc, .bool wd] tHead)).alloc (.cells #[.string ⟨#[]⟩, iv 0, iv 0, .int .u32 0, iv 0, iv 0, iv 0] tFile)) w.heap.size tHead [iv (fl : Nat), iv (me : Nat), iv (dt : Nat), .int .u32 (cr : Nat), iv (cs : Nat), iv (si : Nat), iv (at_ : Nat), .slice N nm.length nc, .bool wd] := (Bk.made w tHead _).alloc _
  have hbz : Bk ((w.alloc (.cells #[iv (fl : Nat), iv (me : Nat), iv (dt : Nat), .int .u32 (cr : Nat), iv (cs : Nat), iv (si : Nat), iv (at_ : Nat), .slice N nm.length nc, .bool wd] tHead)).alloc (.cells #[.string ⟨#[]⟩, iv 0, iv 0, .int .u32 0, iv 0, iv 0, iv 0] tFile)) (w.heap.size + 1) tFile fileZ := by
    have h := Bk.made (w.alloc (.cells #[iv (fl : Nat), iv (me : Nat), iv (dt : Nat), .int .u32 (cr : Nat), iv (cs : Nat), iv (si : Nat), iv (at_ : Nat), .slice N nm.length nc, .bool wd] tHead)) tFile #[.string ⟨#[]⟩, iv 0, iv 0, .int .u32 0, iv 0, iv 0, iv 0]
    have e : (w.alloc (.cells #[iv (fl : Nat), iv (me : Nat), iv (dt : Nat), .int .u32 (cr : Nat), iv (cs : Nat), iv (si : Nat), iv (at_ : Nat), .slice N nm.length nc, .bool wd] tHead)).heap.size = w.heap.size + 1 := by simp
    rwa [e] at h
  have hdec := fun (W : World) (hf : Fresh w W) => dec_any N nm.length nc nm (fl / 2048 % 2 == 1) W _ (hN.fresh hf) (Nat.le_refl _) (by omega) (hU.fresh hf) _ rfl
  have tb0 := and_2048 fl ofl
  have tb1 := and_1 fl ofl
  have hdl := fun t => decL_len (fl / 2048 % 2 == 1) nm t
  generalize (fl / 2048 % 2 == 1) = b0 at *
  generalize nm.length = L at *
  have hgz : w.heap.size ≤ w.heap.size + 1 := Nat.le_succ _
  generalize hg8 : w.heap.size + 1 = g8 at *
  cases hd : decL b0 nm with
  | none =>
    rw [hd] at hres hdec
    simp only at hres
    subst hres
    have hdv : decV none = .tuple #[.string ⟨#[]⟩, .bool false] := rfl
    rw [hdv] at hdec
    have HDEC := Lib.hid hdec
    have HF0 := Lib.hid hal
    have HB0 := Lib.hid hbk
    have HZ0 := Lib.hid hbz
    clear hdec hal hbk hbz hdat hd hr hN hM hU hdl tb1 hdv
    go_enter Tryz.func38, Tryz.ntmps38
    go_upto_region 1 with (fail)
    generalize (w.alloc (.cells #[.int .i64 (fl : Nat), .int .i64 (me : Nat), .int .i64 (dt : Nat), .int .u32 (cr : Nat), .int .i64 (cs : Nat), .int .i64 (si : Nat), .int .i64 (at_ : Nat), .slice N L nc, .bool wd] tHead)).alloc (.cells #[.string ⟨#[]⟩, .int .i64 0, .int .i64 0, .int .u32 0, .int .i64 0, .int .i64 0, .int .i64 0] tFile) = W0 at *
    have k0 := HB0.out.cell (i := 0) rfl
    have k7 := HB0.out.cell (i := 7) rfl
    go_wp2_with (first
      | (go_at_call 71; ((with_reducible refine (HDEC.out _ HF0.out).mono ?_); rintro e w1 ⟨rfl, hf1⟩; have HZ1 := Lib.hid (HZ0.out.fresh hf1); have HF1 := Lib.hid (HF0.out.trans hf1); clear hf1))
      | ((with_reducible (refine at_store_ 8 33 ?_)); refine wpList_store_row (o := ⟨none, _, _, _, _, _⟩) rfl tFile (.tmp 8) (.tmp 33) rfl g8 fileZ.toArray rfl rfl tFile _ HZ1.out (by kernel_rfl) (by rfl) (by kernel_rfl) ?_))
    exact bodyPost_ret (results_row_tmp (p := 8) (u := 9) (by kernel_rfl) _ _ g8 tFile fileZ _ rfl (HZ1.out.row _) Tryz.underlying47 rfl (by kernel_rfl)) rfl ⟨HF1.out.but hgz (But.row _ _ _), rfl⟩
  | some t =>
    have htl : t.length ≤ 262140 := by have := hdl t hd; omega
    rw [hd] at hres hdec
    simp only at hres
    obtain ⟨s, hs⟩ : ∃ s, (⟨t.toArray⟩ : ByteArray) = s := ⟨_, rfl⟩
    have hss : s.size ≤ maxLen := by rw [← hs]; show t.toArray.size ≤ _; rw [List.size_toArray]; unfold maxLen; omega
    have hmay := fun (W : World) (hf : Fresh w W) b hb => may_of t W (by omega) (hU.fresh hf) b hb
    rw [hs] at hmay
    have hkey := key_str s hss
    have HS := Lib.hid hs
    have hdv : decV (some t) = .tuple #[.string s, .bool true] := by rw [← hs]; rfl
    rw [hdv] at hdec
    have HDEC := Lib.hid hdec
    have HF0 := Lib.hid hal
    have HB0 := Lib.hid hbk
    have HZ0 := Lib.hid hbz
    cases hmy : mayL t with
    | false =>
      have HMAY := Lib.hid fun (W : World) hf => hmay W hf _ hmy
      rw [hmy, if_pos rfl] at hres
      subst hres
      clear hdec hal hbk hbz hdat hd hr hN hM hU hdl tb1 hmay hs hss hkey hdv hmy
      go_enter Tryz.func38, Tryz.ntmps38
      go_upto_region 1 with (fail)
      generalize (w.alloc (.cells #[.int .i64 (fl : Nat), .int .i64 (me : Nat), .int .i64 (dt : Nat), .int .u32 (cr : Nat), .int .i64 (cs : Nat), .int .i64 (si : Nat), .int .i64 (at_ : Nat), .slice N L nc, .bool wd] tHead)).alloc (.cells #[.string ⟨#[]⟩, .int .i64 0, .int .i64 0, .int .u32 0, .int .i64 0, .int .i64 0, .int .i64 0] tFile) = W0 at *
      have k0 := HB0.out.cell (i := 0) rfl
      have k7 := HB0.out.cell (i := 7) rfl
      go_wp2_with (first
        | (go_at_call 71; ((with_reducible refine (HDEC.out _ HF0.out).mono ?_); rintro e w1 ⟨rfl, hf1⟩; have HZ1 := Lib.hid (HZ0.out.fresh hf1); have HF1 := Lib.hid (HF0.out.trans hf1); clear hf1))
        | (go_at_call 26; ((with_reducible refine (HMAY.out _ HF1.out).mono ?_); rintro e w2 ⟨rfl, hf2⟩; have HZ2 := Lib.hid (HZ1.out.fresh hf2); have HF2 := Lib.hid (HF1.out.trans hf2); clear hf2))
        | ((with_reducible (refine at_store_ 8 33 ?_)); refine wpList_store_row (o := ⟨none, _, _, _, _, _⟩) rfl tFile (.tmp 8) (.tmp 33) rfl g8 fileZ.toArray rfl rfl tFile _ HZ2.out (by kernel_rfl) (by rfl) (by kernel_rfl) ?_))
      exact bodyPost_ret (results_row_tmp (p := 8) (u := 9) (by kernel_rfl) _ _ g8 tFile fileZ _ rfl (HZ2.out.row _) Tryz.underlying47 rfl (by kernel_rfl)) rfl ⟨HF2.out.but hgz (But.row _ _ _), rfl⟩
    | true =>
      have HMAY := Lib.hid fun (W : World) hf => hmay W hf _ hmy
      rw [hmy, if_neg (by simp)] at hres
      have HM := Lib.hid (fun (W : World) (hf : Fresh w W) => (hM.old (hf.block m hM.inside) : MapOf Tryz.prog tStr W m (nmkv ahead)))
      have HKEY := Lib.hid hkey
      by_cases hmem : t ∈ ahead
      · have hhit := nm_hit hmem
        rw [hs] at hhit
        have HHIT := Lib.hid hhit
        rw [if_pos hmem] at hres
        subst hres
        clear hdec hal hbk hbz hdat hd hr hN hM hU hdl tb1 hmay hs hss hkey hdv hmy hmem hhit
        go_enter Tryz.func38, Tryz.ntmps38
        go_upto_region 1 with (fail)
        generalize (w.alloc (.cells #[.int .i64 (fl : Nat), .int .i64 (me : Nat), .int .i64 (dt : Nat), .int .u32 (cr : Nat), .int .i64 (cs : Nat), .int .i64 (si : Nat), .int .i64 (at_ : Nat), .slice N L nc, .bool wd] tHead)).alloc (.cells #[.string ⟨#[]⟩, .int .i64 0, .int .i64 0, .int .u32 0, .int .i64 0, .int .i64 0, .int .i64 0] tFile) = W0 at *
        have k0 := HB0.out.cell (i := 0) rfl
        have k7 := HB0.out.cell (i := 7) rfl
        go_wp2_with (first
          | (go_at_call 71; ((with_reducible refine (HDEC.out _ HF0.out).mono ?_); rintro e w1 ⟨rfl, hf1⟩; have HZ1 := Lib.hid (HZ0.out.fresh hf1); have HF1 := Lib.hid (HF0.out.trans hf1); clear hf1))
          | (go_at_call 26; ((with_reducible refine (HMAY.out _ HF1.out).mono ?_); rintro e w2 ⟨rfl, hf2⟩; have HZ2 := Lib.hid ((HZ1.out.fresh hf2).fresh (Fresh.alloc w2 (.cells #[] tNone))); have HF2 := Lib.hid (HF1.out.trans hf2); have HF3 := Lib.hid (HF2.out.trans (Fresh.alloc w2 (.cells #[] tNone))); clear hf2))
          | (at_lookup; (refine wpList_look_hit_ok _ rfl (.tmp 35) (.tmp 36) tNames rfl tStr tNone strKey Tryz.underlying83 m _ rfl (HM.out _ HF2.out) (.string s) (.agg #[]) _ rfl HKEY.out HHIT.out ?_))
          | ((with_reducible (refine at_store_ 8 41 ?_)); refine wpList_store_row (o := ⟨none, _, _, _, _, _⟩) rfl tFile (.tmp 8) (.tmp 41) rfl g8 fileZ.toArray rfl rfl tFile _ HZ2.out (by kernel_rfl) (by rfl) (by kernel_rfl) ?_))
        exact bodyPost_ret (results_row_tmp (p := 8) (u := 9) (by kernel_rfl) _ _ g8 tFile fileZ _ rfl (HZ2.out.row _) Tryz.underlying47 rfl (by kernel_rfl)) rfl ⟨HF3.out.but hgz (But.row _ _ _), rfl⟩
      · have hmiss := nm_miss hmem
        rw [hs] at hmiss
        have HMISS := Lib.hid hmiss
        rw [if_neg hmem] at hres
        have t5 : (!(me == 0) && !(me == 8)) = !(me == 0 || me == 8) := by cases me == 0 <;> cases me == 8 <;> rfl
        have hrd := fun (W : World) => readable_any me W ome _ rfl
        rw [t5] at hres
        have HRD := Lib.hid hrd
        have t6 : ((me : Int) == 0) = (me == 0) := by rw [Bool.eq_iff_iff]; simp
        have t7 : ((cs : Int) != (si : Int)) = !(cs == si) := by rw [Bool.eq_iff_iff, bne_iff_ne]; simp <;> omega
        clear hrd t5
        generalize (fl % 2 == 1) = b4 at *
        generalize (me == 0 || me == 8) = b5 at *
        generalize (me == 0) = b6 at *
        generalize (cs == si) = b7 at *
        have HDT := Lib.hid hdat
        clear hdat
        clear hdec hal hbk hbz hd hr hN hM hU hdl hmay hs hss hkey hdv hmy hmem hmiss
        by_cases hbr : b4 = true ∨ (b4 = false ∧ b5 = false)
        · have hres' : Except.error 13 = r := by rcases hbr with rfl | ⟨rfl, rfl⟩ <;> simpa using hres
          subst hres'
          clear hres t6 t7
          rcases hbr with rfl | ⟨rfl, rfl⟩
          · go_enter Tryz.func38, Tryz.ntmps38
            go_upto_region 1 with (fail)
            generalize (w.alloc (.cells #[.int .i64 (fl : Nat), .int .i64 (me : Nat), .int .i64 (dt : Nat), .int .u32 (cr : Nat), .int .i64 (cs : Nat), .int .i64 (si : Nat), .int .i64 (at_ : Nat), .slice N L nc, .bool wd] tHead)).alloc (.cells #[.string ⟨#[]⟩, .int .i64 0, .int .i64 0, .int .u32 0, .int .i64 0, .int .i64 0, .int .i64 0] tFile) = W0 at *
            have k0 := HB0.out.cell (i := 0) rfl
            have k7 := HB0.out.cell (i := 7) rfl
            go_upto_region 5 with (first
              | (go_at_call 71; ((with_reducible refine (HDEC.out _ HF0.out).mono ?_); rintro e w1 ⟨rfl, hf1⟩; have HZ1 := Lib.hid (HZ0.out.fresh hf1); have HB1 := Lib.hid (HB0.out.fresh hf1); have HF1 := Lib.hid (HF0.out.trans hf1); clear hf1))
              | (go_at_call 26; ((with_reducible refine (HMAY.out _ HF1.out).mono ?_); rintro e w2 ⟨rfl, hf2⟩; have HZ3 := Lib.hid ((HZ1.out.fresh hf2).fresh (Fresh.alloc w2 (.cells #[] tNone))); have HB3 := Lib.hid ((HB1.out.fresh hf2).fresh (Fresh.alloc w2 (.cells #[] tNone))); have HF2 := Lib.hid (HF1.out.trans hf2); have HF3 := Lib.hid (HF2.out.trans (Fresh.alloc w2 (.cells #[] tNone))); clear hf2))
              | (at_lookup; (refine wpList_look_miss_ok _ rfl (.tmp 35) (.tmp 36) tNames rfl tStr tNone strKey Tryz.underlying83 _ (zero_none _) m _ rfl (HM.out _ HF2.out) (.string s) _ rfl HKEY.out HMISS.out ?_)))
            generalize w2.alloc (.cells #[] tNone) = W3 at *
            clear k0 k7
            have k0 := HB3.out.cell (i := 0) rfl
            have k1 := HB3.out.cell (i := 1) rfl
            have HGZ := Lib.hid hgz
            clear HDEC HMAY HM HKEY HMISS HF0 HB0 HZ0 HZ1 HB1 HF1 HF2 hB hc hm hn hen hlx ofl ome odt ocr ocs osi oat onm htl hg8 hgz tb0
            go_wp2_with ((with_reducible (refine at_store_ 8 52 ?_)); refine wpList_store_row (o := ⟨none, _, _, _, _, _⟩) rfl tFile (.tmp 8) (.tmp 52) rfl g8 fileZ.toArray rfl rfl tFile _ HZ3.out (by kernel_rfl) (by rfl) (by kernel_rfl) ?_)
            exact bodyPost_ret (results_row_tmp (p := 8) (u := 9) (by kernel_rfl) _ _ g8 tFile fileZ _ rfl (HZ3.out.row _) Tryz.underlying47 rfl (by kernel_rfl)) rfl ⟨HF3.out.but HGZ.out (But.row _ _ _), rfl⟩
          · go_enter Tryz.func38, Tryz.ntmps38
            go_upto_region 1 with (fail)
            generalize (w.alloc (.cells #[.int .i64 (fl : Nat), .int .i64 (me : Nat), .int .i64 (dt : Nat), .int .u32 (cr : Nat), .int .i64 (cs : Nat), .int .i64 (si : Nat), .int .i64 (at_ : Nat), .slice N L nc, .bool wd] tHead)).alloc (.cells #[.string ⟨#[]⟩, .int .i64 0, .int .i64 0, .int .u32 0, .int .i64 0, .int .i64 0, .int .i64 0] tFile) = W0 at *
            have k0 := HB0.out.cell (i := 0) rfl
            have k7 := HB0.out.cell (i := 7) rfl
            go_upto_region 5 with (first
              | (go_at_call 71; ((with_reducible refine (HDEC.out _ HF0.out).mono ?_); rintro e w1 ⟨rfl, hf1⟩; have HZ1 := Lib.hid (HZ0.out.fresh hf1); have HB1 := Lib.hid (HB0.out.fresh hf1); have HF1 := Lib.hid (HF0.out.trans hf1); clear hf1))
              | (go_at_call 26; ((with_reducible refine (HMAY.out _ HF1.out).mono ?_); rintro e w2 ⟨rfl, hf2⟩; have HZ3 := Lib.hid ((HZ1.out.fresh hf2).fresh (Fresh.alloc w2 (.cells #[] tNone))); have HB3 := Lib.hid ((HB1.out.fresh hf2).fresh (Fresh.alloc w2 (.cells #[] tNone))); have HF2 := Lib.hid (HF1.out.trans hf2); have HF3 := Lib.hid (HF2.out.trans (Fresh.alloc w2 (.cells #[] tNone))); clear hf2))
              | (at_lookup; (refine wpList_look_miss_ok _ rfl (.tmp 35) (.tmp 36) tNames rfl tStr tNone strKey Tryz.underlying83 _ (zero_none _) m _ rfl (HM.out _ HF2.out) (.string s) _ rfl HKEY.out HMISS.out ?_)))
            generalize w2.alloc (.cells #[] tNone) = W3 at *
            clear k0 k7
            have k0 := HB3.out.cell (i := 0) rfl
            have k1 := HB3.out.cell (i := 1) rfl
            have HGZ := Lib.hid hgz
            clear HDEC HMAY HM HKEY HMISS HF0 HB0 HZ0 HZ1 HB1 HF1 HF2 hB hc hm hn hen hlx ofl ome odt ocr ocs osi oat onm htl hg8 hgz tb0
            go_wp2_with (first
              | (go_at_call 72; ((with_reducible refine (HRD.out _).mono ?_); rintro e w3 ⟨rfl, rfl⟩))
              | ((with_reducible (refine at_store_ 8 52 ?_)); refine wpList_store_row (o := ⟨none, _, _, _, _, _⟩) rfl tFile (.tmp 8) (.tmp 52) rfl g8 fileZ.toArray rfl rfl tFile _ HZ3.out (by kernel_rfl) (by rfl) (by kernel_rfl) ?_))
            exact bodyPost_ret (results_row_tmp (p := 8) (u := 9) (by kernel_rfl) _ _ g8 tFile fileZ _ rfl (HZ3.out.row _) Tryz.underlying47 rfl (by kernel_rfl)) rfl ⟨HF3.out.but HGZ.out (But.row _ _ _), rfl⟩
        · have hb4 : b4 = false := by cases b4 <;> simp_all
          have hb5 : b5 = true := by cases b5 <;> simp_all
          subst hb4
          subst hb5
          simp only [Bool.not_true, Bool.or_false, Bool.false_eq_true, if_false] at hres
          clear hbr
          cases hda : dat xs ⟨fl, me, dt, cr, cs, si, at_, nm, wd⟩ with
          | error k =>
            rw [hda] at hres
            simp only at hres
            subst hres
            have hdk : ∀ W, Fresh w W → Calls Tryz.prog 73 #[.slice A n c, .agg #[iv (fl : Nat), iv (me : Nat), iv (dt : Nat), .int .u32 (cr : Nat), iv (cs : Nat), iv (si : Nat), iv (at_ : Nat), .slice N L nc, .bool wd]] W fun e w' => Fresh W w' ∧ e = .returned (.tuple #[iv 0, .int .i64 (k : Nat)]) := fun W hf => HDT.out W hf _ hda
            have hk := dat_err_ne hda
            have hkk : ((k : Int) != 0) = true := by rw [bne_iff_ne]; omega
            have HDAT := Lib.hid hdk
            clear hdk hk hda t6 t7
            go_enter Tryz.func38, Tryz.ntmps38
            go_upto_region 1 with (fail)
            generalize (w.alloc (.cells #[.int .i64 (fl : Nat), .int .i64 (me : Nat), .int .i64 (dt : Nat), .int .u32 (cr : Nat), .int .i64 (cs : Nat), .int .i64 (si : Nat), .int .i64 (at_ : Nat), .slice N L nc, .bool wd] tHead)).alloc (.cells #[.string ⟨#[]⟩, .int .i64 0, .int .i64 0, .int .u32 0, .int .i64 0, .int .i64 0, .int .i64 0] tFile) = W0 at *
            have k0 := HB0.out.cell (i := 0) rfl
            have k7 := HB0.out.cell (i := 7) rfl
            go_upto_region 5 with (first
              | (go_at_call 71; ((with_reducible refine (HDEC.out _ HF0.out).mono ?_); rintro e w1 ⟨rfl, hf1⟩; have HZ1 := Lib.hid (HZ0.out.fresh hf1); have HB1 := Lib.hid (HB0.out.fresh hf1); have HF1 := Lib.hid (HF0.out.trans hf1); clear hf1))
              | (go_at_call 26; ((with_reducible refine (HMAY.out _ HF1.out).mono ?_); rintro e w2 ⟨rfl, hf2⟩; have HZ3 := Lib.hid ((HZ1.out.fresh hf2).fresh (Fresh.alloc w2 (.cells #[] tNone))); have HB3 := Lib.hid ((HB1.out.fresh hf2).fresh (Fresh.alloc w2 (.cells #[] tNone))); have HF2 := Lib.hid (HF1.out.trans hf2); have HF3 := Lib.hid (HF2.out.trans (Fresh.alloc w2 (.cells #[] tNone))); clear hf2))
              | (at_lookup; (refine wpList_look_miss_ok _ rfl (.tmp 35) (.tmp 36) tNames rfl tStr tNone strKey Tryz.underlying83 _ (zero_none _) m _ rfl (HM.out _ HF2.out) (.string s) _ rfl HKEY.out HMISS.out ?_)))
            generalize w2.alloc (.cells #[] tNone) = W3 at *
            clear k0 k7
            have k0 := HB3.out.cell (i := 0) rfl
            have k1 := HB3.out.cell (i := 1) rfl
            have HGZ := Lib.hid hgz
            clear HDEC HMAY HM HKEY HMISS HF0 HB0 HZ0 HZ1 HB1 HF1 HF2 hB hc hm hn hen hlx ofl ome odt ocr ocs osi oat onm htl hg8 hgz tb0
            go_wp2_with (first
              | (go_at_call 72; ((with_reducible refine (HRD.out _).mono ?_); rintro e w3 ⟨rfl, rfl⟩))
              | ((with_reducible (refine at_slot_ 55 ?_)); refine wpList_load_mid rfl tHead (.tmp 5) rfl w.heap.size 0 rfl [iv (fl : Nat), iv (me : Nat), iv (dt : Nat), .int .u32 (cr : Nat), iv (cs : Nat), iv (si : Nat), iv (at_ : Nat), .slice N L nc, .bool wd] _ (fun j v hj => by rw [Nat.zero_add]; exact HB3.out.cell hj) Tryz.underlying73 rfl (by kernel_rfl) ?_)
              | (go_at_call 73; ((with_reducible refine (HDAT.out _ HF3.out).mono ?_); rintro e w4 ⟨hf4, rfl⟩; have HZ4 := Lib.hid (HZ3.out.fresh hf4); have HB4 := Lib.hid (HB3.out.fresh hf4); have HF4 := Lib.hid (HF3.out.trans hf4); have q1 := HB4.out.cell (i := 1) rfl; have q2 := HB4.out.cell (i := 2) rfl; have q3 := HB4.out.cell (i := 3) rfl; have q4 := HB4.out.cell (i := 4) rfl; have q5 := HB4.out.cell (i := 5) rfl; clear hf4))
              | (go_at_call 69; ((with_reducible refine (HWI.out _).mono ?_); rintro e w5 ⟨rfl, rfl⟩))
              | ((with_reducible (refine at_store_ 8 62 ?_)); refine wpList_store_row (o := ⟨none, _, _, _, _, _⟩) rfl tFile (.tmp 8) (.tmp 62) rfl g8 fileZ.toArray rfl rfl tFile _ HZ4.out (by kernel_rfl) (by rfl) (by kernel_rfl) ?_))
            exact bodyPost_ret (results_row_tmp (p := 8) (u := 9) (by kernel_rfl) _ _ g8 tFile fileZ _ rfl (HZ4.out.row _) Tryz.underlying47 rfl (by kernel_rfl)) rfl ⟨HF4.out.but HGZ.out (But.row _ _ _), rfl⟩
          | ok a =>
            rw [hda] at hres
            simp only at hres
            have hdk : ∀ W, Fresh w W → Calls Tryz.prog 73 #[.slice A n c, .agg #[iv (fl : Nat), iv (me : Nat), iv (dt : Nat), .int .u32 (cr : Nat), iv (cs : Nat), iv (si : Nat), iv (at_ : Nat), .slice N L nc, .bool wd]] W fun e w' => Fresh W w' ∧ e = .returned (.tuple #[iv (a : Nat), .int .i64 0]) := fun W hf => HDT.out W hf _ hda
            have ha := dat_ok hda
            rw [hlx] at ha
            have hwi := fun (W : World) => within_any a cs en W (by omega) (by omega) (by omega)
            have HDAT := Lib.hid hdk
            clear hdk hda ha
            by_cases hw : en < a + cs
            · rw [if_pos hw] at hres
              subst hres
              have HWI := Lib.hid fun W => hwi W false (by rw [decide_eq_false_iff_not]; omega)
              clear hwi hw t6 t7
              go_enter Tryz.func38, Tryz.ntmps38
              go_upto_region 1 with (fail)
              generalize (w.alloc (.cells #[.int .i64 (fl : Nat), .int .i64 (me : Nat), .int .i64 (dt : Nat), .int .u32 (cr : Nat), .int .i64 (cs : Nat), .int .i64 (si : Nat), .int .i64 (at_ : Nat), .slice N L nc, .bool wd] tHead)).alloc (.cells #[.string ⟨#[]⟩, .int .i64 0, .int .i64 0, .int .u32 0, .int .i64 0, .int .i64 0, .int .i64 0] tFile) = W0 at *
              have k0 := HB0.out.cell (i := 0) rfl
              have k7 := HB0.out.cell (i := 7) rfl
              go_upto_region 5 with (first
                | (go_at_call 71; ((with_reducible refine (HDEC.out _ HF0.out).mono ?_); rintro e w1 ⟨rfl, hf1⟩; have HZ1 := Lib.hid (HZ0.out.fresh hf1); have HB1 := Lib.hid (HB0.out.fresh hf1); have HF1 := Lib.hid (HF0.out.trans hf1); clear hf1))
                | (go_at_call 26; ((with_reducible refine (HMAY.out _ HF1.out).mono ?_); rintro e w2 ⟨rfl, hf2⟩; have HZ3 := Lib.hid ((HZ1.out.fresh hf2).fresh (Fresh.alloc w2 (.cells #[] tNone))); have HB3 := Lib.hid ((HB1.out.fresh hf2).fresh (Fresh.alloc w2 (.cells #[] tNone))); have HF2 := Lib.hid (HF1.out.trans hf2); have HF3 := Lib.hid (HF2.out.trans (Fresh.alloc w2 (.cells #[] tNone))); clear hf2))
                | (at_lookup; (refine wpList_look_miss_ok _ rfl (.tmp 35) (.tmp 36) tNames rfl tStr tNone strKey Tryz.underlying83 _ (zero_none _) m _ rfl (HM.out _ HF2.out) (.string s) _ rfl HKEY.out HMISS.out ?_)))
              generalize w2.alloc (.cells #[] tNone) = W3 at *
              clear k0 k7
              have k0 := HB3.out.cell (i := 0) rfl
              have k1 := HB3.out.cell (i := 1) rfl
              have HGZ := Lib.hid hgz
              clear HDEC HMAY HM HKEY HMISS HF0 HB0 HZ0 HZ1 HB1 HF1 HF2 hB hc hm hn hen hlx ofl ome odt ocr ocs osi oat onm htl hg8 hgz tb0
              go_wp2_with (first
                | (go_at_call 72; ((with_reducible refine (HRD.out _).mono ?_); rintro e w3 ⟨rfl, rfl⟩))
                | ((with_reducible (refine at_slot_ 55 ?_)); refine wpList_load_mid rfl tHead (.tmp 5) rfl w.heap.size 0 rfl [iv (fl : Nat), iv (me : Nat), iv (dt : Nat), .int .u32 (cr : Nat), iv (cs : Nat), iv (si : Nat), iv (at_ : Nat), .slice N L nc, .bool wd] _ (fun j v hj => by rw [Nat.zero_add]; exact HB3.out.cell hj) Tryz.underlying73 rfl (by kernel_rfl) ?_)
                | (go_at_call 73; ((with_reducible refine (HDAT.out _ HF3.out).mono ?_); rintro e w4 ⟨hf4, rfl⟩; have HZ4 := Lib.hid (HZ3.out.fresh hf4); have HB4 := Lib.hid (HB3.out.fresh hf4); have HF4 := Lib.hid (HF3.out.trans hf4); have q1 := HB4.out.cell (i := 1) rfl; have q2 := HB4.out.cell (i := 2) rfl; have q3 := HB4.out.cell (i := 3) rfl; have q4 := HB4.out.cell (i := 4) rfl; have q5 := HB4.out.cell (i := 5) rfl; clear hf4))
                | (go_at_call 69; ((with_reducible refine (HWI.out _).mono ?_); rintro e w5 ⟨rfl, rfl⟩))
                | ((with_reducible (refine at_store_ 8 71 ?_)); refine wpList_store_row (o := ⟨none, _, _, _, _, _⟩) rfl tFile (.tmp 8) (.tmp 71) rfl g8 fileZ.toArray rfl rfl tFile _ HZ4.out (by kernel_rfl) (by rfl) (by kernel_rfl) ?_))
              exact bodyPost_ret (results_row_tmp (p := 8) (u := 9) (by kernel_rfl) _ _ g8 tFile fileZ _ rfl (HZ4.out.row _) Tryz.underlying47 rfl (by kernel_rfl)) rfl ⟨HF4.out.but HGZ.out (But.row _ _ _), rfl⟩
            · rw [if_neg hw] at hres
              have HWI := Lib.hid fun W => hwi W true (by rw [decide_eq_true_iff]; omega)
              clear hwi hw
              by_cases hbr : b6 = true ∧ b7 = false
              · obtain ⟨rfl, rfl⟩ := hbr
                have hres' : Except.error 14 = r := by simpa using hres
                subst hres'
                clear hres
                go_enter Tryz.func38, Tryz.ntmps38
                go_upto_region 1 with (fail)
                generalize (w.alloc (.cells #[.int .i64 (fl : Nat), .int .i64 (me : Nat), .int .i64 (dt : Nat), .int .u32 (cr : Nat), .int .i64 (cs : Nat), .int .i64 (si : Nat), .int .i64 (at_ : Nat), .slice N L nc, .bool wd] tHead)).alloc (.cells #[.string ⟨#[]⟩, .int .i64 0, .int .i64 0, .int .u32 0, .int .i64 0, .int .i64 0, .int .i64 0] tFile) = W0 at *
                have k0 := HB0.out.cell (i := 0) rfl
                have k7 := HB0.out.cell (i := 7) rfl
                go_upto_region 5 with (first
                  | (go_at_call 71; ((with_reducible refine (HDEC.out _ HF0.out).mono ?_); rintro e w1 ⟨rfl, hf1⟩; have HZ1 := Lib.hid (HZ0.out.fresh hf1); have HB1 := Lib.hid (HB0.out.fresh hf1); have HF1 := Lib.hid (HF0.out.trans hf1); clear hf1))
                  | (go_at_call 26; ((with_reducible refine (HMAY.out _ HF1.out).mono ?_); rintro e w2 ⟨rfl, hf2⟩; have HZ3 := Lib.hid ((HZ1.out.fresh hf2).fresh (Fresh.alloc w2 (.cells #[] tNone))); have HB3 := Lib.hid ((HB1.out.fresh hf2).fresh (Fresh.alloc w2 (.cells #[] tNone))); have HF2 := Lib.hid (HF1.out.trans hf2); have HF3 := Lib.hid (HF2.out.trans (Fresh.alloc w2 (.cells #[] tNone))); clear hf2))
                  | (at_lookup; (refine wpList_look_miss_ok _ rfl (.tmp 35) (.tmp 36) tNames rfl tStr tNone strKey Tryz.underlying83 _ (zero_none _) m _ rfl (HM.out _ HF2.out) (.string s) _ rfl HKEY.out HMISS.out ?_)))
                generalize w2.alloc (.cells #[] tNone) = W3 at *
                clear k0 k7
                have k0 := HB3.out.cell (i := 0) rfl
                have k1 := HB3.out.cell (i := 1) rfl
                have HGZ := Lib.hid hgz
                clear HDEC HMAY HM HKEY HMISS HF0 HB0 HZ0 HZ1 HB1 HF1 HF2 hB hc hm hn hen hlx ofl ome odt ocr ocs osi oat onm htl hg8 hgz tb0
                go_wp2_with (first
                  | (go_at_call 72; ((with_reducible refine (HRD.out _).mono ?_); rintro e w3 ⟨rfl, rfl⟩))
                  | ((with_reducible (refine at_slot_ 55 ?_)); refine wpList_load_mid rfl tHead (.tmp 5) rfl w.heap.size 0 rfl [iv (fl : Nat), iv (me : Nat), iv (dt : Nat), .int .u32 (cr : Nat), iv (cs : Nat), iv (si : Nat), iv (at_ : Nat), .slice N L nc, .bool wd] _ (fun j v hj => by rw [Nat.zero_add]; exact HB3.out.cell hj) Tryz.underlying73 rfl (by kernel_rfl) ?_)
                  | (go_at_call 73; ((with_reducible refine (HDAT.out _ HF3.out).mono ?_); rintro e w4 ⟨hf4, rfl⟩; have HZ4 := Lib.hid (HZ3.out.fresh hf4); have HB4 := Lib.hid (HB3.out.fresh hf4); have HF4 := Lib.hid (HF3.out.trans hf4); have q1 := HB4.out.cell (i := 1) rfl; have q2 := HB4.out.cell (i := 2) rfl; have q3 := HB4.out.cell (i := 3) rfl; have q4 := HB4.out.cell (i := 4) rfl; have q5 := HB4.out.cell (i := 5) rfl; clear hf4))
                  | (go_at_call 69; ((with_reducible refine (HWI.out _).mono ?_); rintro e w5 ⟨rfl, rfl⟩))
                  | ((with_reducible (refine at_store_ 8 83 ?_)); refine wpList_store_row (o := ⟨none, _, _, _, _, _⟩) rfl tFile (.tmp 8) (.tmp 83) rfl g8 fileZ.toArray rfl rfl tFile _ HZ4.out (by kernel_rfl) (by rfl) (by kernel_rfl) ?_))
                exact bodyPost_ret (results_row_tmp (p := 8) (u := 9) (by kernel_rfl) _ _ g8 tFile fileZ _ rfl (HZ4.out.row _) Tryz.underlying47 rfl (by kernel_rfl)) rfl ⟨HF4.out.but HGZ.out (But.row _ _ _), rfl⟩
              · have hres' : Except.ok ⟨t, me, dt, cr, cs, si, a⟩ = r := by cases b6 <;> cases b7 <;> simp_all
                subst hres'
                clear hres
                have hb : b6 = false ∨ (b6 = true ∧ b7 = true) := by cases b6 <;> cases b7 <;> simp_all
                have hsv : ∀ e : Ending, e = .returned (.tuple #[.agg #[.string s, iv (me : Nat), iv (dt : Nat), .int .u32 (cr : Nat), iv (cs : Nat), iv (si : Nat), iv (a : Nat)], .int .i64 0]) → e = .returned (.tuple #[.agg (fileV ⟨t, me, dt, cr, cs, si, a⟩).toArray, .int .i64 0]) := fun e he => by rw [he, ← HS.out]; rfl
                have HSV := Lib.hid hsv
                clear hbr hsv
                rcases hb with rfl | ⟨rfl, rfl⟩
                · go_enter Tryz.func38, Tryz.ntmps38
                  go_upto_region 1 with (fail)
                  generalize (w.alloc (.cells #[.int .i64 (fl : Nat), .int .i64 (me : Nat), .int .i64 (dt : Nat), .int .u32 (cr : Nat), .int .i64 (cs : Nat), .int .i64 (si : Nat), .int .i64 (at_ : Nat), .slice N L nc, .bool wd] tHead)).alloc (.cells #[.string ⟨#[]⟩, .int .i64 0, .int .i64 0, .int .u32 0, .int .i64 0, .int .i64 0, .int .i64 0] tFile) = W0 at *
                  have k0 := HB0.out.cell (i := 0) rfl
                  have k7 := HB0.out.cell (i := 7) rfl
                  go_upto_region 5 with (first
                    | (go_at_call 71; ((with_reducible refine (HDEC.out _ HF0.out).mono ?_); rintro e w1 ⟨rfl, hf1⟩; have HZ1 := Lib.hid (HZ0.out.fresh hf1); have HB1 := Lib.hid (HB0.out.fresh hf1); have HF1 := Lib.hid (HF0.out.trans hf1); clear hf1))
                    | (go_at_call 26; ((with_reducible refine (HMAY.out _ HF1.out).mono ?_); rintro e w2 ⟨rfl, hf2⟩; have HZ3 := Lib.hid ((HZ1.out.fresh hf2).fresh (Fresh.alloc w2 (.cells #[] tNone))); have HB3 := Lib.hid ((HB1.out.fresh hf2).fresh (Fresh.alloc w2 (.cells #[] tNone))); have HF2 := Lib.hid (HF1.out.trans hf2); have HF3 := Lib.hid (HF2.out.trans (Fresh.alloc w2 (.cells #[] tNone))); clear hf2))
                    | (at_lookup; (refine wpList_look_miss_ok _ rfl (.tmp 35) (.tmp 36) tNames rfl tStr tNone strKey Tryz.underlying83 _ (zero_none _) m _ rfl (HM.out _ HF2.out) (.string s) _ rfl HKEY.out HMISS.out ?_)))
                  generalize w2.alloc (.cells #[] tNone) = W3 at *
                  clear k0 k7
                  have k0 := HB3.out.cell (i := 0) rfl
                  have k1 := HB3.out.cell (i := 1) rfl
                  have HGZ := Lib.hid hgz
                  clear HDEC HMAY HM HKEY HMISS HF0 HB0 HZ0 HZ1 HB1 HF1 HF2 hB hc hm hn hen hlx ofl ome odt ocr ocs osi oat onm htl hg8 hgz tb0
                  go_wp2_with (first
                    | (go_at_call 72; ((with_reducible refine (HRD.out _).mono ?_); rintro e w3 ⟨rfl, rfl⟩))
                    | ((with_reducible (refine at_slot_ 55 ?_)); refine wpList_load_mid rfl tHead (.tmp 5) rfl w.heap.size 0 rfl [iv (fl : Nat), iv (me : Nat), iv (dt : Nat), .int .u32 (cr : Nat), iv (cs : Nat), iv (si : Nat), iv (at_ : Nat), .slice N L nc, .bool wd] _ (fun j v hj => by rw [Nat.zero_add]; exact HB3.out.cell hj) Tryz.underlying73 rfl (by kernel_rfl) ?_)
                    | (go_at_call 73; ((with_reducible refine (HDAT.out _ HF3.out).mono ?_); rintro e w4 ⟨hf4, rfl⟩; have HZ4 := Lib.hid (HZ3.out.fresh hf4); have HB4 := Lib.hid (HB3.out.fresh hf4); have HF4 := Lib.hid (HF3.out.trans hf4); have q1 := HB4.out.cell (i := 1) rfl; have q2 := HB4.out.cell (i := 2) rfl; have q3 := HB4.out.cell (i := 3) rfl; have q4 := HB4.out.cell (i := 4) rfl; have q5 := HB4.out.cell (i := 5) rfl; clear hf4))
                    | (go_at_call 69; ((with_reducible refine (HWI.out _).mono ?_); rintro e w5 ⟨rfl, rfl⟩))
                    | ((with_reducible (refine at_store_ 8 96 ?_)); refine wpList_store_row (o := ⟨none, _, _, _, _, _⟩) rfl tFile (.tmp 8) (.tmp 96) rfl g8 #[.string s, iv (me : Nat), iv (dt : Nat), .int .u32 (cr : Nat), iv (cs : Nat), iv (si : Nat), iv (a : Nat)] rfl rfl tFile _ HZ4.out (by kernel_rfl) (by rfl) (file_one _ _ _ _ _ _ _) ?_))
                  exact bodyPost_ret (results_row_tmp (p := 8) (u := 9) (by kernel_rfl) _ _ g8 tFile [.string s, iv (me : Nat), iv (dt : Nat), .int .u32 (cr : Nat), iv (cs : Nat), iv (si : Nat), iv (a : Nat)] _ rfl (HZ4.out.row _) Tryz.underlying47 rfl (by kernel_rfl)) rfl ⟨HF4.out.but HGZ.out (But.row _ _ _), HSV.out _ rfl⟩
                · go_enter Tryz.func38, Tryz.ntmps38
                  go_upto_region 1 with (fail)
                  generalize (w.alloc (.cells #[.int .i64 (fl : Nat), .int .i64 (me : Nat), .int .i64 (dt : Nat), .int .u32 (cr : Nat), .int .i64 (cs : Nat), .int .i64 (si : Nat), .int .i64 (at_ : Nat), .slice N L nc, .bool wd] tHead)).alloc (.cells #[.string ⟨#[]⟩, .int .i64 0, .int .i64 0, .int .u32 0, .int .i64 0, .int .i64 0, .int .i64 0] tFile) = W0 at *
                  have k0 := HB0.out.cell (i := 0) rfl
                  have k7 := HB0.out.cell (i := 7) rfl
                  go_upto_region 5 with (first
                    | (go_at_call 71; ((with_reducible refine (HDEC.out _ HF0.out).mono ?_); rintro e w1 ⟨rfl, hf1⟩; have HZ1 := Lib.hid (HZ0.out.fresh hf1); have HB1 := Lib.hid (HB0.out.fresh hf1); have HF1 := Lib.hid (HF0.out.trans hf1); clear hf1))
                    | (go_at_call 26; ((with_reducible refine (HMAY.out _ HF1.out).mono ?_); rintro e w2 ⟨rfl, hf2⟩; have HZ3 := Lib.hid ((HZ1.out.fresh hf2).fresh (Fresh.alloc w2 (.cells #[] tNone))); have HB3 := Lib.hid ((HB1.out.fresh hf2).fresh (Fresh.alloc w2 (.cells #[] tNone))); have HF2 := Lib.hid (HF1.out.trans hf2); have HF3 := Lib.hid (HF2.out.trans (Fresh.alloc w2 (.cells #[] tNone))); clear hf2))
                    | (at_lookup; (refine wpList_look_miss_ok _ rfl (.tmp 35) (.tmp 36) tNames rfl tStr tNone strKey Tryz.underlying83 _ (zero_none _) m _ rfl (HM.out _ HF2.out) (.string s) _ rfl HKEY.out HMISS.out ?_)))
                  generalize w2.alloc (.cells #[] tNone) = W3 at *
                  clear k0 k7
                  have k0 := HB3.out.cell (i := 0) rfl
                  have k1 := HB3.out.cell (i := 1) rfl
                  have HGZ := Lib.hid hgz
                  clear HDEC HMAY HM HKEY HMISS HF0 HB0 HZ0 HZ1 HB1 HF1 HF2 hB hc hm hn hen hlx ofl ome odt ocr ocs osi oat onm htl hg8 hgz tb0
                  go_wp2_with (first
                    | (go_at_call 72; ((with_reducible refine (HRD.out _).mono ?_); rintro e w3 ⟨rfl, rfl⟩))
                    | ((with_reducible (refine at_slot_ 55 ?_)); refine wpList_load_mid rfl tHead (.tmp 5) rfl w.heap.size 0 rfl [iv (fl : Nat), iv (me : Nat), iv (dt : Nat), .int .u32 (cr : Nat), iv (cs : Nat), iv (si : Nat), iv (at_ : Nat), .slice N L nc, .bool wd] _ (fun j v hj => by rw [Nat.zero_add]; exact HB3.out.cell hj) Tryz.underlying73 rfl (by kernel_rfl) ?_)
                    | (go_at_call 73; ((with_reducible refine (HDAT.out _ HF3.out).mono ?_); rintro e w4 ⟨hf4, rfl⟩; have HZ4 := Lib.hid (HZ3.out.fresh hf4); have HB4 := Lib.hid (HB3.out.fresh hf4); have HF4 := Lib.hid (HF3.out.trans hf4); have q1 := HB4.out.cell (i := 1) rfl; have q2 := HB4.out.cell (i := 2) rfl; have q3 := HB4.out.cell (i := 3) rfl; have q4 := HB4.out.cell (i := 4) rfl; have q5 := HB4.out.cell (i := 5) rfl; clear hf4))
                    | (go_at_call 69; ((with_reducible refine (HWI.out _).mono ?_); rintro e w5 ⟨rfl, rfl⟩))
                    | ((with_reducible (refine at_store_ 8 96 ?_)); refine wpList_store_row (o := ⟨none, _, _, _, _, _⟩) rfl tFile (.tmp 8) (.tmp 96) rfl g8 #[.string s, iv (me : Nat), iv (dt : Nat), .int .u32 (cr : Nat), iv (cs : Nat), iv (si : Nat), iv (a : Nat)] rfl rfl tFile _ HZ4.out (by kernel_rfl) (by rfl) (file_one _ _ _ _ _ _ _) ?_))
                  exact bodyPost_ret (results_row_tmp (p := 8) (u := 9) (by kernel_rfl) _ _ g8 tFile [.string s, iv (me : Nat), iv (dt : Nat), .int .u32 (cr : Nat), iv (cs : Nat), iv (si : Nat), iv (a : Nat)] _ rfl (HZ4.out.row _) Tryz.underlying47 rfl (by kernel_rfl)) rfl ⟨HF4.out.but HGZ.out (But.row _ _ _), HSV.out _ rfl⟩
end Go.Proofs.YtmnegmebkmihhaaGreatDoor.unzp
/-
  record's wideTail, the walk: my own text.
-/
namespace Go.Proofs.YtmnegmebkmihhaaGreatDoor.recp
open Go.RowKit Go.Proofs.YtmnegmebkmihhaaGreatDoor.base Go.Proofs.YtmnegmebkmihhaaGreatDoor.num Go.Proofs.YtmnegmebkmihhaaGreatDoor.word Go.Proofs.YtmnegmebkmihhaaGreatDoor.recn
set_option linter.unusedVariables false
theorem step_store_row {P : Program} {ops : Array Oper} {o : Oper} {a : Act} {w : World} {K : Act → World → Prop} {Q : Exit → Act → World → Prop} {E : Prop} (hgd : o.guard = none) (ty : TypeId) (x y : Operand) (ho : o.op = .store ty x y)
    (g : Nat) (cells : Array Value) (hx : a.eval x = .pointer (some ⟨g, 0, none⟩)) (hy : a.eval y = .agg cells)
    (t : TypeId) (old : Array Value) (hg : w.heap[g]? = some (.cells old t (0, 0))) (hi : (P.info? ty).map (·.size) = some cells.size)
    (hold : old.size = cells.size) (h1 : cells.all (·.oneCell') = true)
    (h : K (a.put o.dst undef) (w.setRow g cells)) : if Region.wanted o (yielded ops a.tmps) = true then Oper.wp P o a w K Q else E := by
  have hw : Region.wanted o (yielded ops a.tmps) = true := by simp [Region.wanted, hgd]
  rw [if_pos hw]
  exact wp_store_row ty x y ho g cells hx hy t old hg hi hold h1 h
theorem st_none_ {P : Program} {ops : Array Oper} {a : Act} {w : World} {K : Act → World → Prop} {Q : Exit → Act → World → Prop} {E : Prop} {t : TypeId} {op : Op} {ps : String} {af gd} (h : if Region.wanted (⟨none, op, t, ps, af, gd⟩ : Oper) (yielded ops a.tmps) = true then Oper.wp P ⟨none, op, t, ps, af, gd⟩ a w K Q else E) :
    if Region.wanted (⟨none, op, t, ps, af, gd⟩ : Oper) (yielded ops a.tmps) = true then Oper.wp P ⟨none, op, t, ps, af, gd⟩ a w K Q else E := h
theorem st_slotw_ {P : Program} {ops : Array Oper} {a : Act} {w : World} {K : Act → World → Prop} {Q : Exit → Act → World → Prop} {E : Prop} {t : TypeId} (d : Nat) {op : Op} {ps : String} {af gd} (h : if Region.wanted (⟨some d, op, t, ps, af, gd⟩ : Oper) (yielded ops a.tmps) = true then Oper.wp P ⟨some d, op, t, ps, af, gd⟩ a w K Q else E) :
    if Region.wanted (⟨some d, op, t, ps, af, gd⟩ : Oper) (yielded ops a.tmps) = true then Oper.wp P ⟨some d, op, t, ps, af, gd⟩ a w K Q else E := h
set_option maxRecDepth 100000 in
set_option maxHeartbeats 8000000 in
theorem wideTail_any (A : Option Addr) (n c : Nat) (xs : List UInt8) (p : Nat) (z : Int) (w : World) (B : Nat) (hr : Rd w B A n (xs.map bv)) (hB : B ≤ w.heap.size) (hc : n ≤ c) (hm : c ≤ maxLen) (hn : n ≤ 1099511627776) (hp : p + 22 ≤ n) (hz9 : z = (p : Int)) (r : Option Tl) (hres : wideTl xs p = r) :
    Calls Tryz.prog 68 #[.slice A n c, .int .i64 z] w fun e w' => WideIs r e ∧ Fresh w w' := by
  subst hz9
  have hlx : xs.length = n := by have := hr.1; rwa [List.length_map] at this
  have hr0 := hr.alloc hB (.cells #[iv 0, iv 0, iv 0, .bool false] tTail)
  have hbg := begun_any A n c xs ((p : Int) - 20) ⟨#[80, 75, 6, 7]⟩ [80, 75, 6, 7] 20 (w.alloc (.cells #[iv 0, iv 0, iv 0, .bool false] tTail)) B hr0 (by simp; omega) hc hm hn (by omega) (by omega) rfl rfl (by omega)
  have hz := Bk.made w tTail #[iv 0, iv 0, iv 0, .bool false]
  have hf := Fresh.alloc w (.cells #[iv 0, iv 0, iv 0, .bool false] tTail)
  cases hb : bg xs ((p : Int) - 20) [80, 75, 6, 7] 20 with
  | error k =>
    rw [hb] at hbg
    have hk := bg_err hb
    rw [wideTl_no (by omega) hb] at hres
    subst hres
    have HB := Lib.hid hbg
    have HZ := Lib.hid hz
    have HF := Lib.hid hf
    clear hbg hz hf hb hr hr0 hlx
    go_enter Tryz.func68, Tryz.ntmps68
    go_wp2_with (first
      | (go_at_call 131; (refine (HB.out).mono ?_); rintro e w1 ⟨hf1, hE⟩; simp only at hE; subst hE; have HZ1 := Lib.hid (HZ.out.fresh hf1); have HF1 := Lib.hid (HF.out.trans hf1); clear hf1)
      | (refine wpList_store_row (o := ⟨none, _, _, _, _, _⟩) rfl tTail (.tmp 4) (.tmp 23) rfl w.heap.size #[iv 0, iv 0, iv 0, .bool false] rfl rfl tTail _ HZ1.out (by kernel_rfl) (by rfl) (by kernel_rfl) ?_))
    exact bodyPost_ret (results_row_tmp (p := 4) (u := 5) (by kernel_rfl) _ _ w.heap.size tTail [iv 0, iv 0, iv 0, .bool false] _ rfl (HZ1.out.row _) Tryz.underlying76 rfl (by kernel_rfl)) rfl ⟨⟨0, 0, 0, false, rfl⟩, HF1.out.but (Nat.le_refl _) (But.row _ _ _)⟩
  | ok ys =>
    rw [hb] at hbg
    obtain ⟨q, hpq, hys, hq, hw⟩ := wideTl_ok hb
    rw [hw] at hres
    have hly : ys.length = 16 := by rw [hys, List.length_take, List.length_drop]; omega
    have hV : nm (ys.drop 4) (0 * 8) 8 = nm xs (q + 8) 8 := by rw [nm_drop, hys, nm_take _ (by omega), nm_drop]
    have hu := nm8_lt xs (q + 8)
    have hvb := sg64_bd _ hu
    generalize nm xs (q + 8) 8 = u at *
    have HB := Lib.hid hbg
    have HZ := Lib.hid hz
    have HF := Lib.hid hf
    have HLY := Lib.hid hly
    have HV := Lib.hid hV
    have HRES := Lib.hid hres
    have HR := Lib.hid hr
    have HLX := Lib.hid hlx
    have HMX : RowKit.Hid (c ≤ maxLen) := hm
    have HU := Lib.hid hu
    have HVB := Lib.hid hvb
    clear hbg hz hf hb hr hr0 hlx hw hly hV hres hys hm hu hvb hpq hq
    go_enter Tryz.func68, Tryz.ntmps68
    go_upto_region 5 with (go_at_call 131; (refine (HB.out).mono ?_); rintro e w1 ⟨hf1, A1, c1, hE, hO1⟩; subst hE; have HZ1 := Lib.hid (HZ.out.fresh hf1); have HF1 := Lib.hid (HF.out.trans hf1); have HO1 := Lib.hid hO1; clear hf1 hO1)
    obtain ⟨b0, b1, hfW, hszW⟩ := box_two w1
    have hgz : w.heap.size < w1.heap.size := HZ1.out.inside
    have hra : RdA _ [w1.heap.size, w1.heap.size + 1] A1 ys.length (ys.map bv) := ((RdA.of_rd (S := []) HO1.out.rd (Nat.le_refl _) (by simp)).more (R := [w1.heap.size, w1.heap.size + 1]) (by intro i hi; simp at hi; omega)).fresh hfW
    have HZ2 := Lib.hid (HZ1.out.fresh hfW)
    have HF2 := Lib.hid (HF1.out.trans hfW)
    have hcap := HO1.out.cap
    rw [HLY.out] at hra hcap
    have hsl : (Value.slice A1 ys.length c1) = .slice A1 16 c1 := by rw [HLY.out]
    rw [hsl]
    clear hsl HZ1 HF1 HO1 hfW HB HZ HF
    generalize ((w1.alloc (.cells #[.int .i64 0] tInt)).alloc (.cells #[.int .i64 0] tInt)) = W at *
    generalize w1.heap.size = g at *
    have hS : ∀ i ∈ [g, g + 1], i < W.heap.size := by intro i hi; simp at hi; omega
    have hget1 : Calls Tryz.prog 129 #[.slice A1 16 c1, .int .i64 4, .slice (some ⟨W.heap.size, 0, none⟩) 1 1] (W.alloc (.cells #[ptr g] tPtr)) (Got [g, g + 1] (sets (W.alloc (.cells #[ptr g] tPtr)) (gets 4 ys [⟨g, 0, none⟩])) 12 (ys.drop 4)) :=
      get_row A1 16 c1 4 ys [⟨g, 0, none⟩] [g, g + 1] 1 _ W hra hcap.1 hcap.2 (by omega) (.inr rfl) rfl rfl (by
        intro p hp
        rw [List.mem_singleton] at hp
        subst hp
        exact ⟨by simp, b0.wr (by simp)⟩) hS (by omega)
    have hT1 : ∀ W2, Fresh (sets (W.alloc (.cells #[ptr g] tPtr)) (gets 4 ys [⟨g, 0, none⟩])) W2 → Turn [g] [g] W W2 ∧ Bk W2 g tInt [iv (nm ys (0 * 4) 4 : Nat)] := fun W2 h =>
      ⟨turn_of (Fresh.alloc _ _) h (by intro x hx; simp [gets] at hx; subst hx; simp), ((b0.alloc _).put 0 _).fresh h⟩
    have hget2 : ∀ W2 A2 c2, Turn [g] [g] W W2 → RdA W2 [g, g + 1] A2 12 ((ys.drop 4).map bv) → 12 ≤ c2 → c2 ≤ maxLen → Calls Tryz.prog 132 #[.slice A2 12 c2, .slice (some ⟨W2.heap.size, 0, none⟩) 1 1] (W2.alloc (.cells #[ptr (g + 1)] tPtr)) (Got [g, g + 1] (sets (W2.alloc (.cells #[ptr (g + 1)] tPtr)) (getsW (ys.drop 4) [⟨g + 1, 0, none⟩])) 4 ((ys.drop 4).drop 8)) := fun W2 A2 c2 hT hr2 hc2 hm2 =>
      getWide_row A2 12 c2 (ys.drop 4) [⟨g + 1, 0, none⟩] [g, g + 1] 1 _ W2 hr2 hc2 hm2 (by omega) rfl rfl (by
        intro p hp
        rw [List.mem_singleton] at hp
        subst hp
        exact ⟨by simp, (b1.turn hT (by simp)).wr (by simp)⟩) (fun i hi => Nat.lt_of_lt_of_le (hS i hi) hT.size) (by omega)
    have hT2 : ∀ W2 W3, Turn [g] [g] W W2 → Bk W2 g tInt [iv (nm ys (0 * 4) 4 : Nat)] → Fresh (sets (W2.alloc (.cells #[ptr (g + 1)] tPtr)) (getsW (ys.drop 4) [⟨g + 1, 0, none⟩])) W3 → Turn [g, g + 1] [g, g + 1] W W3 ∧ Bk W3 g tInt [iv (nm ys (0 * 4) 4 : Nat)] ∧ Bk W3 (g + 1) tInt [iv (sg64 u)] := fun W2 W3 hT hb2 h =>
      ⟨(hT.wide (T := [g, g + 1]) (by simp)).trans (turn_of (T := [g, g + 1]) (Fresh.alloc _ _) h (by intro x hx; simp [getsW] at hx; subst hx; simp)), ((hb2.alloc _).apart (p := ⟨g + 1, 0, none⟩) (by simp) _).fresh h, by
        have h3 := (((b1.turn hT (by simp)).alloc (.cells #[ptr (g + 1)] tPtr)).put 0 (iv (sg64 (nm (ys.drop 4) (0 * 8) 8)))).fresh h
        rw [HV.out] at h3
        exact h3⟩
    have hfr : ∀ W3, Turn [g, g + 1] [g, g + 1] W W3 → Fresh w W3 ∧ Bk W3 w.heap.size tTail [iv 0, iv 0, iv 0, .bool false] := fun W3 h3 =>
      ⟨h3.new HF2.out (by intro i hi; simp at hi; omega), HZ2.out.turn h3 (by simp; omega)⟩
    have hbg2 := fun W3 (h : Fresh w W3) => begun_any A n c xs (sg64 u) ⟨#[80, 75, 6, 6]⟩ [80, 75, 6, 6] 56 W3 B (HR.out.keep fun i hi => h.block i (by omega)) (by have := h.size; omega) hc HMX.out hn HVB.out.1 HVB.out.2 rfl rfl (by omega)
    have HGET1 := Lib.hid hget1
    have HT1 := Lib.hid hT1
    have HGET2 := Lib.hid hget2
    have HT2 := Lib.hid hT2
    have HFR := Lib.hid hfr
    have HBG2 := Lib.hid hbg2
    clear hget1 hT1 hget2 hT2 hfr hbg2 b0 b1 hra hcap hS hszW
    cases hb2 : bg xs (sg64 u) [80, 75, 6, 6] 56 with
    | error k2 =>
      rw [hb2] at HBG2
      have hk2 := bg_err hb2
      have hres := HRES.out
      rw [wideAt_no (by rw [HLX.out]; exact hn) HU.out hb2] at hres
      subst hres
      clear hb2 HRES
      go_wp2_with (first
        | (go_at_call 129; ((with_reducible refine HGET1.out.mono ?_); rintro e w2 ⟨A2, c2, rfl, hc2, hm2, hf2, hr2⟩; obtain ⟨hT2, hb2⟩ := HT1.out _ hf2; have HS2 := Lib.hid (HGET2.out w2 A2 c2 hT2 hr2 hc2 hm2); have HTT := Lib.hid hT2; have HBB := Lib.hid hb2; clear hf2 hr2 hm2 hT2 hb2))
        | (go_at_call 132; ((with_reducible refine HS2.out.mono ?_); rintro e w3 ⟨A3, c3, rfl, hc3, hm3, hf3, hr3⟩; obtain ⟨hT3, hb3, hb4⟩ := HT2.out _ _ HTT.out HBB.out hf3; obtain ⟨hf4, hz4⟩ := HFR.out _ hT3; have k1 : w3.cell? ⟨g + 1, 0, none⟩ = some (iv (sg64 u)) := hb4.cell rfl; have HF4 := Lib.hid hf4; have HZ4 := Lib.hid hz4; clear hf3 hr3 hm3 hT3 hb3 hb4 hf4 hz4))
        | (go_at_call 131; (refine (HBG2.out _ HF4.out).mono ?_); rintro e w5 ⟨hf5, hE⟩; simp only at hE; subst hE; have HZ5 := Lib.hid (HZ4.out.fresh hf5); have HF5 := Lib.hid (HF4.out.trans hf5); clear hf5)
        | (refine wpList_store_row (o := ⟨none, _, _, _, _, _⟩) rfl tTail (.tmp 4) (.tmp 37) rfl w.heap.size #[iv 0, iv 0, iv 0, .bool false] rfl rfl tTail _ HZ5.out (by kernel_rfl) (by rfl) (by kernel_rfl) ?_))
      exact bodyPost_ret (results_row_tmp (p := 4) (u := 5) (by kernel_rfl) _ _ w.heap.size tTail [iv 0, iv 0, iv 0, .bool false] _ rfl (HZ5.out.row _) Tryz.underlying76 rfl (by kernel_rfl)) rfl ⟨⟨0, 0, 0, false, rfl⟩, HF5.out.but (Nat.le_refl _) (But.row _ _ _)⟩
    | ok y2 =>
      rw [hb2] at HBG2
      obtain ⟨hu56, hy2, hwa⟩ := wideAt_ok (by rw [HLX.out]; exact hn) HU.out hb2
      have hly2 : y2.length = 52 := by rw [hy2, List.length_take, List.length_drop]; omega
      have hres := HRES.out
      rw [hwa] at hres
      have e0 : nm ((((y2.drop 8).drop 4).drop 8)) (1 * 8) 8 = nm xs (u + 32) 8 := by rw [nm_drop, nm_drop, nm_drop, hy2, nm_take _ (by omega), nm_drop]
      have e1 : nm ((((y2.drop 8).drop 4).drop 8)) (2 * 8) 8 = nm xs (u + 40) 8 := by rw [nm_drop, nm_drop, nm_drop, hy2, nm_take _ (by omega), nm_drop]
      have e2 : nm ((((y2.drop 8).drop 4).drop 8)) (3 * 8) 8 = nm xs (u + 48) 8 := by rw [nm_drop, nm_drop, nm_drop, hy2, nm_take _ (by omega), nm_drop]
      have n0 := nm8_lt xs (u + 32)
      have n1 := nm8_lt xs (u + 40)
      have n2 := nm8_lt xs (u + 48)
      generalize nm xs (u + 32) 8 = M at *
      generalize nm xs (u + 40) 8 = L at *
      generalize nm xs (u + 48) 8 = Q at *
      have HLY2 := Lib.hid hly2
      have HE0 := Lib.hid e0
      have HE1 := Lib.hid e1
      have HE2 := Lib.hid e2
      have HRES2 := Lib.hid hres
      have HN0 := Lib.hid n0
      have HN1 := Lib.hid n1
      have HN2 := Lib.hid n2
      clear hb2 HRES hu56 hy2 hwa hly2 hres e0 e1 e2 n0 n1 n2
      go_upto_region 11 with (first
        | (go_at_call 129; ((with_reducible refine HGET1.out.mono ?_); rintro e w2 ⟨A2, c2, rfl, hc2, hm2, hf2, hr2⟩; obtain ⟨hT2, hb2⟩ := HT1.out _ hf2; have HS2 := Lib.hid (HGET2.out w2 A2 c2 hT2 hr2 hc2 hm2); have HTT := Lib.hid hT2; have HBB := Lib.hid hb2; clear hf2 hr2 hm2 hT2 hb2))
        | (go_at_call 132; ((with_reducible refine HS2.out.mono ?_); rintro e w3 ⟨A3, c3, rfl, hc3, hm3, hf3, hr3⟩; obtain ⟨hT3, hb3, hb4⟩ := HT2.out _ _ HTT.out HBB.out hf3; obtain ⟨hf4, hz4⟩ := HFR.out _ hT3; have k1 : w3.cell? ⟨g + 1, 0, none⟩ = some (iv (sg64 u)) := hb4.cell rfl; have HF4 := Lib.hid hf4; have HZ4 := Lib.hid hz4; have HG3 := Lib.hid hb3; have hgin := hb3.inside; clear hf3 hr3 hm3 hT3 hb3 hb4 hf4 hz4))
        | (go_at_call 131; (refine (HBG2.out _ HF4.out).mono ?_); rintro e w5 ⟨hf5, A5, c5, hE, hO5⟩; subst hE; have HZ5 := Lib.hid (HZ4.out.fresh hf5); have HF5 := Lib.hid (HF4.out.trans hf5); have HG5 := Lib.hid (HG3.out.fresh hf5); have HO5 := Lib.hid hO5; clear hf5 hO5))
      obtain ⟨b0, b1, b2, b3, hfX, hszX⟩ := boxes4 w5 [iv 0, iv 0, iv 0, .bool true]
      have hra : RdA _ [w5.heap.size, w5.heap.size + 1, w5.heap.size + 1 + 1, w5.heap.size + 1 + 1 + 1, g] A5 y2.length (y2.map bv) := ((RdA.of_own (S := [g]) HO5.out (by intro i hi; simp at hi; omega)).more (R := [w5.heap.size, w5.heap.size + 1, w5.heap.size + 1 + 1, w5.heap.size + 1 + 1 + 1]) (by intro i hi; simp at hi; omega)).fresh hfX
      have bg0 := HG5.out.fresh hfX
      have hg5 := HG5.out.inside
      have hz5 := HZ5.out.inside
      have HZ6 := Lib.hid (HZ5.out.fresh hfX)
      have HF6 := Lib.hid (HF5.out.trans hfX)
      have hcap := HO5.out.cap
      rw [HLY2.out] at hra hcap
      have hsl : (Value.slice A5 y2.length c5) = .slice A5 52 c5 := by rw [HLY2.out]
      rw [hsl]
      clear hsl HZ5 HF5 HO5 hfX HG5 HG3 HF4 HZ4 HBB HTT HS2 k1 HBG2
      generalize ((((w5.alloc (.cells #[.int .i64 0, .int .i64 0, .int .i64 0, .bool true] tTail)).alloc (.cells #[.int .i64 0] tInt)).alloc (.cells #[.int .i64 0] tInt)).alloc (.cells #[.int .i64 0] tInt)) = X at *
      generalize w5.heap.size = t at *
      have hS : ∀ i ∈ [t, t + 1, t + 1 + 1, t + 1 + 1 + 1, g], i < X.heap.size := by intro i hi; simp at hi; omega
      have hgt : g < t := hg5
      have ha1 : Calls Tryz.prog 132 #[.slice A5 52 c5, .slice (some ⟨X.heap.size, 0, none⟩) 1 1] (X.alloc (.cells #[ptr (t + 1)] tPtr)) (Got [t, t + 1, t + 1 + 1, t + 1 + 1 + 1, g] (sets (X.alloc (.cells #[ptr (t + 1)] tPtr)) (getsW y2 [⟨t + 1, 0, none⟩])) 44 (y2.drop 8)) :=
        getWide_row A5 52 c5 y2 [⟨t + 1, 0, none⟩] [t, t + 1, t + 1 + 1, t + 1 + 1 + 1, g] 1 _ X hra hcap.1 hcap.2 (by omega) rfl rfl (by
          intro p hp
          rw [List.mem_singleton] at hp
          subst hp
          exact ⟨by simp, b1.wr (by simp)⟩) hS (by omega)
      have ht1 : ∀ X1, Fresh (sets (X.alloc (.cells #[ptr (t + 1)] tPtr)) (getsW y2 [⟨t + 1, 0, none⟩])) X1 → Turn [t + 1] [t + 1] X X1 := fun X1 h => turn_of (Fresh.alloc _ _) h (by intro x hx; simp [getsW] at hx; subst hx; simp)
      have ha2 : ∀ X1 A6 c6, Turn [t + 1] [t + 1] X X1 → RdA X1 [t, t + 1, t + 1 + 1, t + 1 + 1 + 1, g] A6 44 ((y2.drop 8).map bv) → 44 ≤ c6 → c6 ≤ maxLen → Calls Tryz.prog 129 #[.slice A6 44 c6, .int .i64 2, .slice (some ⟨X1.heap.size, 0, none⟩) 2 2] (X1.alloc (.cells #[ptr (t + 1 + 1), ptr (t + 1 + 1)] tPtr)) (Got [t, t + 1, t + 1 + 1, t + 1 + 1 + 1, g] (sets (X1.alloc (.cells #[ptr (t + 1 + 1), ptr (t + 1 + 1)] tPtr)) (gets 2 (y2.drop 8) [⟨t + 1 + 1, 0, none⟩, ⟨t + 1 + 1, 0, none⟩])) 40 ((y2.drop 8).drop 4)) := fun X1 A6 c6 hT h6 hc6 hm6 =>
        get_row A6 44 c6 2 (y2.drop 8) [⟨t + 1 + 1, 0, none⟩, ⟨t + 1 + 1, 0, none⟩] [t, t + 1, t + 1 + 1, t + 1 + 1 + 1, g] 2 _ X1 h6 hc6 hm6 (by omega) (.inl rfl) rfl rfl (by
          intro p hp
          simp only [List.mem_cons, List.not_mem_nil, or_false, or_self] at hp
          subst hp
          exact ⟨by simp, (b2.turn hT (by simp)).wr (by simp)⟩) (fun i hi => Nat.lt_of_lt_of_le (hS i hi) hT.size) (by omega)
      have ht2 : ∀ X1 X2, Turn [t + 1] [t + 1] X X1 → Fresh (sets (X1.alloc (.cells #[ptr (t + 1 + 1), ptr (t + 1 + 1)] tPtr)) (gets 2 (y2.drop 8) [⟨t + 1 + 1, 0, none⟩, ⟨t + 1 + 1, 0, none⟩])) X2 → Turn [t + 1, t + 1 + 1] [t + 1, t + 1 + 1] X X2 := fun X1 X2 hT h => (hT.wide (T := [t + 1, t + 1 + 1]) (by simp)).trans (turn_of (T := [t + 1, t + 1 + 1]) (Fresh.alloc _ _) h (by intro x hx; simp [gets] at hx; rcases hx with rfl | rfl <;> simp))
      have ha3 : ∀ X2 A7 c7, Turn [t + 1, t + 1 + 1] [t + 1, t + 1 + 1] X X2 → RdA X2 [t, t + 1, t + 1 + 1, t + 1 + 1 + 1, g] A7 40 (((y2.drop 8).drop 4).map bv) → 40 ≤ c7 → c7 ≤ maxLen → Calls Tryz.prog 129 #[.slice A7 40 c7, .int .i64 4, .slice (some ⟨X2.heap.size, 0, none⟩) 2 2] (X2.alloc (.cells #[ptr g, ptr g] tPtr)) (Got [t, t + 1, t + 1 + 1, t + 1 + 1 + 1, g] (sets (X2.alloc (.cells #[ptr g, ptr g] tPtr)) (gets 4 ((y2.drop 8).drop 4) [⟨g, 0, none⟩, ⟨g, 0, none⟩])) 32 (((y2.drop 8).drop 4).drop 8)) := fun X2 A7 c7 hT h7 hc7 hm7 =>
        get_row A7 40 c7 4 ((y2.drop 8).drop 4) [⟨g, 0, none⟩, ⟨g, 0, none⟩] [t, t + 1, t + 1 + 1, t + 1 + 1 + 1, g] 2 _ X2 h7 hc7 hm7 (by omega) (.inr rfl) rfl rfl (by
          intro p hp
          simp only [List.mem_cons, List.not_mem_nil, or_false, or_self] at hp
          subst hp
          exact ⟨by simp, (bg0.turn hT (by simp; omega)).wr (by simp)⟩) (fun i hi => Nat.lt_of_lt_of_le (hS i hi) hT.size) (by omega)
      have ht3 : ∀ X2 X3, Turn [t + 1, t + 1 + 1] [t + 1, t + 1 + 1] X X2 → Fresh (sets (X2.alloc (.cells #[ptr g, ptr g] tPtr)) (gets 4 ((y2.drop 8).drop 4) [⟨g, 0, none⟩, ⟨g, 0, none⟩])) X3 → Turn [t + 1, t + 1 + 1, g] [t + 1, t + 1 + 1, g] X X3 := fun X2 X3 hT h => (hT.wide (T := [t + 1, t + 1 + 1, g]) (by simp)).trans (turn_of (T := [t + 1, t + 1 + 1, g]) (Fresh.alloc _ _) h (by intro x hx; simp [gets] at hx; rcases hx with rfl | rfl <;> simp))
      have ha4 : ∀ X3 A8 c8, Turn [t + 1, t + 1 + 1, g] [t + 1, t + 1 + 1, g] X X3 → RdA X3 [t, t + 1, t + 1 + 1, t + 1 + 1 + 1, g] A8 32 ((((y2.drop 8).drop 4).drop 8).map bv) → 32 ≤ c8 → c8 ≤ maxLen → Calls Tryz.prog 132 #[.slice A8 32 c8, .slice (some ⟨X3.heap.size, 0, none⟩) 4 4] (X3.alloc (.cells #[ptr (t + 1 + 1 + 1), ptrA ⟨t, 0, none⟩, ptrA ⟨t, 1, none⟩, ptrA ⟨t, 2, none⟩] tPtr)) (Got [t, t + 1, t + 1 + 1, t + 1 + 1 + 1, g] (sets (X3.alloc (.cells #[ptr (t + 1 + 1 + 1), ptrA ⟨t, 0, none⟩, ptrA ⟨t, 1, none⟩, ptrA ⟨t, 2, none⟩] tPtr)) (getsW (((y2.drop 8).drop 4).drop 8) [⟨t + 1 + 1 + 1, 0, none⟩, ⟨t, 0, none⟩, ⟨t, 1, none⟩, ⟨t, 2, none⟩])) 0 ((((y2.drop 8).drop 4).drop 8).drop 32)) := fun X3 A8 c8 hT h8 hc8 hm8 =>
        getWide_row A8 32 c8 (((y2.drop 8).drop 4).drop 8) [⟨t + 1 + 1 + 1, 0, none⟩, ⟨t, 0, none⟩, ⟨t, 1, none⟩, ⟨t, 2, none⟩] [t, t + 1, t + 1 + 1, t + 1 + 1 + 1, g] 4 _ X3 h8 hc8 hm8 (by omega) rfl rfl (by
          have b3' := b3.turn hT (by simp; omega)
          have b0' := b0.turn hT (by simp; omega)
          intro p hp
          simp only [List.mem_cons, List.not_mem_nil, or_false] at hp
          rcases hp with rfl | rfl | rfl | rfl
          · exact ⟨by simp, b3'.wr (by simp)⟩
          · exact ⟨by simp, b0'.wr (by simp)⟩
          · exact ⟨by simp, b0'.wr (by simp)⟩
          · exact ⟨by simp, b0'.wr (by simp)⟩) (fun i hi => Nat.lt_of_lt_of_le (hS i hi) hT.size) (by omega)
      have ht4 : ∀ X3 X4, Turn [t + 1, t + 1 + 1, g] [t + 1, t + 1 + 1, g] X X3 → Fresh (sets (X3.alloc (.cells #[ptr (t + 1 + 1 + 1), ptrA ⟨t, 0, none⟩, ptrA ⟨t, 1, none⟩, ptrA ⟨t, 2, none⟩] tPtr)) (getsW (((y2.drop 8).drop 4).drop 8) [⟨t + 1 + 1 + 1, 0, none⟩, ⟨t, 0, none⟩, ⟨t, 1, none⟩, ⟨t, 2, none⟩])) X4 → Fresh w X4 ∧ Bk X4 w.heap.size tTail [iv 0, iv 0, iv 0, .bool false] ∧ Bk X4 t tTail [iv (sg64 M), iv (sg64 L), iv (sg64 Q), .bool true] := fun X3 X4 hT h => by
        have hT4 := (hT.wide (T := [t, t + 1, t + 1 + 1, t + 1 + 1 + 1, g]) (by simp)).trans (turn_of (T := [t, t + 1, t + 1 + 1, t + 1 + 1 + 1, g]) (Fresh.alloc _ _) h (by intro x hx; simp [getsW] at hx; rcases hx with rfl | rfl | rfl | rfl <;> simp))
        refine ⟨hT4.new HF6.out (by intro i hi; simp at hi; omega), HZ6.out.turn hT4 (by simp; omega), ?_⟩
        rw [← HE0.out, ← HE1.out, ← HE2.out]
        exact (((((b0.turn hT (by simp; omega)).alloc _).apart (p := ⟨t + 1 + 1 + 1, 0, none⟩) (by simp; omega) _).put 0 _).put 1 _ |>.put 2 _).fresh h
      have HA1 := Lib.hid ha1
      have HT1' := Lib.hid ht1
      have HA2 := Lib.hid ha2
      have HT2' := Lib.hid ht2
      have HA3 := Lib.hid ha3
      have HT3' := Lib.hid ht3
      have HA4 := Lib.hid ha4
      have HT4' := Lib.hid ht4
      clear ha1 ht1 ha2 ht2 ha3 ht3 ha4 ht4 b0 b1 b2 b3 bg0 hra hcap hS hszX HGET1 HT1 HGET2 HT2 HFR
      go_cut [6] (fun v wx => ∃ A6 c6, v = .slice A6 44 c6 ∧ Hid (Calls Tryz.prog 129 #[.slice A6 44 c6, .int .i64 2, .slice (some ⟨wx.heap.size, 0, none⟩) 2 2] (wx.alloc (.cells #[ptr (t + 1 + 1), ptr (t + 1 + 1)] tPtr)) (Got [t, t + 1, t + 1 + 1, t + 1 + 1 + 1, g] (sets (wx.alloc (.cells #[ptr (t + 1 + 1), ptr (t + 1 + 1)] tPtr)) (gets 2 (y2.drop 8) [⟨t + 1 + 1, 0, none⟩, ⟨t + 1 + 1, 0, none⟩])) 40 ((y2.drop 8).drop 4))) ∧ Hid (Turn [t + 1] [t + 1] X wx))
      case first =>
        go_wp2_with (go_at_call 132; ((with_reducible refine HA1.out.mono ?_); rintro e w6 ⟨A6, c6, rfl, hc6, hm6, hf6, hr6⟩; have hT6 := HT1'.out _ hf6; have HS6 := Lib.hid (HA2.out w6 A6 c6 hT6 hr6 hc6 hm6); have HT6 := Lib.hid hT6; clear hf6 hr6 hm6 hT6))
        all_goals go_meet
        all_goals exact ⟨A6, c6, rfl, HS6, HT6⟩
      case rest =>
      obtain ⟨A6, c6, rfl, HS6, HT6⟩ := hcut
      clear HA1 HT1' HA2
      go_upto_region 12 with (fail)
      go_cut [6] (fun v wx => ∃ A6 c6, v = .slice A6 40 c6 ∧ Hid (Calls Tryz.prog 129 #[.slice A6 40 c6, .int .i64 4, .slice (some ⟨wx.heap.size, 0, none⟩) 2 2] (wx.alloc (.cells #[ptr g, ptr g] tPtr)) (Got [t, t + 1, t + 1 + 1, t + 1 + 1 + 1, g] (sets (wx.alloc (.cells #[ptr g, ptr g] tPtr)) (gets 4 ((y2.drop 8).drop 4) [⟨g, 0, none⟩, ⟨g, 0, none⟩])) 32 (((y2.drop 8).drop 4).drop 8))) ∧ Hid (Turn [t + 1, t + 1 + 1] [t + 1, t + 1 + 1] X wx))
      case first =>
        go_wp2_with (go_at_call 129; ((with_reducible refine HS6.out.mono ?_); rintro e w7 ⟨A7, c7, rfl, hc7, hm7, hf7, hr7⟩; have hT7 := HT2'.out _ _ HT6.out hf7; have HS7 := Lib.hid (HA3.out w7 A7 c7 hT7 hr7 hc7 hm7); have HT7 := Lib.hid hT7; clear hf7 hr7 hm7 hT7))
        all_goals go_meet
        all_goals exact ⟨A7, c7, rfl, HS7, HT7⟩
      case rest =>
      clear HS6 HT6
      obtain ⟨A7, c7, rfl, HS7, HT7⟩ := hcut
      clear HT2' HA3
      go_upto_region 13 with (fail)
      go_cut [6] (fun v wx => ∃ A6 c6, v = .slice A6 32 c6 ∧ Hid (Calls Tryz.prog 132 #[.slice A6 32 c6, .slice (some ⟨wx.heap.size, 0, none⟩) 4 4] (wx.alloc (.cells #[ptr (t + 1 + 1 + 1), ptrA ⟨t, 0, none⟩, ptrA ⟨t, 1, none⟩, ptrA ⟨t, 2, none⟩] tPtr)) (Got [t, t + 1, t + 1 + 1, t + 1 + 1 + 1, g] (sets (wx.alloc (.cells #[ptr (t + 1 + 1 + 1), ptrA ⟨t, 0, none⟩, ptrA ⟨t, 1, none⟩, ptrA ⟨t, 2, none⟩] tPtr)) (getsW (((y2.drop 8).drop 4).drop 8) [⟨t + 1 + 1 + 1, 0, none⟩, ⟨t, 0, none⟩, ⟨t, 1, none⟩, ⟨t, 2, none⟩])) 0 ((((y2.drop 8).drop 4).drop 8).drop 32))) ∧ Hid (Turn [t + 1, t + 1 + 1, g] [t + 1, t + 1 + 1, g] X wx))
      case first =>
        go_wp2_with (go_at_call 129; ((with_reducible refine HS7.out.mono ?_); rintro e w8 ⟨A8, c8, rfl, hc8, hm8, hf8, hr8⟩; have hT8 := HT3'.out _ _ HT7.out hf8; have HS8 := Lib.hid (HA4.out w8 A8 c8 hT8 hr8 hc8 hm8); have HT8 := Lib.hid hT8; clear hf8 hr8 hm8 hT8))
        all_goals go_meet
        all_goals exact ⟨A8, c8, rfl, HS8, HT8⟩
      case rest =>
      clear HS7 HT7
      obtain ⟨A8, c8, rfl, HS8, HT8⟩ := hcut
      clear HT3' HA4
      go_upto_region 14 with (fail)
      go_cut [53] (fun v wx => Hid (Fresh w wx) ∧ Hid (Bk wx w.heap.size tTail [iv 0, iv 0, iv 0, .bool false]) ∧ Hid (Bk wx t tTail [iv (sg64 M), iv (sg64 L), iv (sg64 Q), .bool true]))
      case first =>
        go_wp2_with (go_at_call 132; ((with_reducible refine HS8.out.mono ?_); rintro e w9 ⟨A9, c9, rfl, hc9, hm9, hf9, hr9⟩; obtain ⟨hf10, hz10, ht10⟩ := HT4'.out _ _ HT8.out hf9; have HF10 := Lib.hid hf10; have HZ10 := Lib.hid hz10; have HB10 := Lib.hid ht10; clear hf9 hr9 hm9 hf10 hz10 ht10))
        all_goals go_meet
        all_goals exact ⟨HF10, HZ10, HB10⟩
      case rest =>
      clear HS8 HT8 HT4'
      obtain ⟨HF10, HZ10, HB10⟩ := hcut
      go_upto_region 15 with (fail)
      have s0 := sg64_bd _ HN0.out
      have s1 := sg64_bd _ HN1.out
      have s2 := sg64_bd _ HN2.out
      have hfit := fun b hb => fits63 (sg64 M) (sg64 L) (sg64 Q) s0 s1 s2 b hb wc
      have hd : decide ((0 ≤ sg64 M ∧ sg64 M < 281474976710656) ∧ (0 ≤ sg64 L ∧ sg64 L < 281474976710656) ∧ (0 ≤ sg64 Q ∧ sg64 Q < 281474976710656)) = decide (M < 281474976710656 ∧ L < 281474976710656 ∧ Q < 281474976710656) := by
        rw [decide_eq_decide, sg64_fits _ HN0.out, sg64_fits _ HN1.out, sg64_fits _ HN2.out]
      rw [hd] at hfit
      clear hd
      have hv0 : M < 281474976710656 → sg64 M = (M : Int) := sg64_small M
      have hv1 : L < 281474976710656 → sg64 L = (L : Int) := sg64_small L
      have hv2 : Q < 281474976710656 → sg64 Q = (Q : Int) := sg64_small Q
      generalize sg64 M = VM at *
      generalize sg64 L = VL at *
      generalize sg64 Q = VQ at *
      have HV0 := Lib.hid hv0
      have HV1 := Lib.hid hv1
      have HV2 := Lib.hid hv2
      clear hv0 hv1 hv2
      have hb10 := HB10.out.fresh (Fresh.drew wc)
      have hal : Fresh wc (wc.alloc (.cells #[iv VM, iv VL, iv VQ] tInt)).drew := (Fresh.alloc wc (.cells #[iv VM, iv VL, iv VQ] tInt)).trans (Fresh.drew _)
      have hbA := HB10.out.fresh hal
      have k0 : wc.drew.cell? ⟨t, 0, none⟩ = some (iv VM) ∧ wc.drew.cell? ⟨t, 1, none⟩ = some (iv VL) ∧ wc.drew.cell? ⟨t, 2, none⟩ = some (iv VQ) ∧ wc.drew.cell? ⟨t, 3, none⟩ = some (.bool true) := ⟨hb10.cell rfl, hb10.cell rfl, hb10.cell rfl, hb10.cell rfl⟩
      have k1 : (wc.alloc (.cells #[iv VM, iv VL, iv VQ] tInt)).drew.cell? ⟨t, 0, none⟩ = some (iv VM) ∧ (wc.alloc (.cells #[iv VM, iv VL, iv VQ] tInt)).drew.cell? ⟨t, 1, none⟩ = some (iv VL) ∧ (wc.alloc (.cells #[iv VM, iv VL, iv VQ] tInt)).drew.cell? ⟨t, 2, none⟩ = some (iv VQ) ∧ (wc.alloc (.cells #[iv VM, iv VL, iv VQ] tInt)).drew.cell? ⟨t, 3, none⟩ = some (.bool true) := ⟨hbA.cell rfl, hbA.cell rfl, hbA.cell rfl, hbA.cell rfl⟩
      have HBA := Lib.hid hbA
      have HZA := Lib.hid (HZ10.out.fresh hal)
      have HFA := Lib.hid (HF10.out.trans hal)
      have hne2 : t ≠ w.heap.size := by omega
      have HNE := Lib.hid hne2
      clear hal hb10 hbA hne2 s0 s1 s2 HB10 HZ10 HF10 HE0 HE1 HE2
      by_cases hall : M < 281474976710656 ∧ L < 281474976710656 ∧ Q < 281474976710656
      · have hft := hfit true (decide_eq_true hall)
        have hres := HRES2.out
        rw [if_pos hall] at hres
        subst hres
        have HFT := Lib.hid hft
        have HAL := Lib.hid hall
        clear hfit hft hall HRES2
        go_cut [5] (fun v wx => v = .bool true ∧ Bk wx w.heap.size tTail [iv VM, iv VL, iv VQ, .bool true] ∧ Fresh w wx)
        case first =>
          go_region_held3 (fun w' => w'.cell? ⟨t, 0, none⟩ = some (iv VM) ∧ w'.cell? ⟨t, 1, none⟩ = some (iv VL) ∧ w'.cell? ⟨t, 2, none⟩ = some (iv VQ) ∧ w'.cell? ⟨t, 3, none⟩ = some (.bool true)) (first | with_reducible exact k0 | with_reducible exact k1 | with_reducible exact k6 | with_reducible exact k7) (first | (go_at_call 109; ((refine HFT.out.mono ?_); rintro e w10 ⟨rfl, hw⟩; have hb := HBA.out; rw [hw] at hb; have hz := HZA.out; rw [hw] at hz; have hf := HFA.out; rw [hw] at hf; have k6 : w10.cell? ⟨t, 0, none⟩ = some (iv VM) ∧ w10.cell? ⟨t, 1, none⟩ = some (iv VL) ∧ w10.cell? ⟨t, 2, none⟩ = some (iv VQ) ∧ w10.cell? ⟨t, 3, none⟩ = some (.bool true) := ⟨hb.cell rfl, hb.cell rfl, hb.cell rfl, hb.cell rfl⟩; have hb7 := (((hb.apart (p := ⟨w.heap.size, 0, none⟩) HNE.out (iv VM)).apart (p := ⟨w.heap.size, 1, none⟩) HNE.out (iv VL)).apart (p := ⟨w.heap.size, 2, none⟩) HNE.out (iv VQ)).apart (p := ⟨w.heap.size, 3, none⟩) HNE.out (.bool true); have k7 : ((((w10.setCell ⟨w.heap.size, 0, none⟩ (iv VM)).setCell ⟨w.heap.size, 1, none⟩ (iv VL)).setCell ⟨w.heap.size, 2, none⟩ (iv VQ)).setCell ⟨w.heap.size, 3, none⟩ (.bool true)).cell? ⟨t, 0, none⟩ = some (iv VM) ∧ ((((w10.setCell ⟨w.heap.size, 0, none⟩ (iv VM)).setCell ⟨w.heap.size, 1, none⟩ (iv VL)).setCell ⟨w.heap.size, 2, none⟩ (iv VQ)).setCell ⟨w.heap.size, 3, none⟩ (.bool true)).cell? ⟨t, 1, none⟩ = some (iv VL) ∧ ((((w10.setCell ⟨w.heap.size, 0, none⟩ (iv VM)).setCell ⟨w.heap.size, 1, none⟩ (iv VL)).setCell ⟨w.heap.size, 2, none⟩ (iv VQ)).setCell ⟨w.heap.size, 3, none⟩ (.bool true)).cell? ⟨t, 2, none⟩ = some (iv VQ) ∧ ((((w10.setCell ⟨w.heap.size, 0, none⟩ (iv VM)).setCell ⟨w.heap.size, 1, none⟩ (iv VL)).setCell ⟨w.heap.size, 2, none⟩ (iv VQ)).setCell ⟨w.heap.size, 3, none⟩ (.bool true)).cell? ⟨t, 3, none⟩ = some (.bool true) := ⟨hb7.cell rfl, hb7.cell rfl, hb7.cell rfl, hb7.cell rfl⟩; have z0 : w10.cell? ⟨w.heap.size, 0, none⟩ = some (iv 0) ∧ w10.cell? ⟨w.heap.size, 1, none⟩ = some (iv 0) ∧ w10.cell? ⟨w.heap.size, 2, none⟩ = some (iv 0) ∧ w10.cell? ⟨w.heap.size, 3, none⟩ = some (.bool false) := ⟨hz.cell rfl, hz.cell rfl, hz.cell rfl, hz.cell rfl⟩; have z1 : w10.frozen? ⟨w.heap.size, 0, none⟩ = false ∧ w10.frozen? ⟨w.heap.size, 1, none⟩ = false ∧ w10.frozen? ⟨w.heap.size, 2, none⟩ = false ∧ w10.frozen? ⟨w.heap.size, 3, none⟩ = false := ⟨hz.free 0, hz.free 1, hz.free 2, hz.free 3⟩; have HZE := Lib.hid ((((hz.put 0 (iv VM)).put 1 (iv VL)).put 2 (iv VQ)).put 3 (.bool true)); have HFE := Lib.hid ((((hf.but (Nat.le_refl _) (But.put (g := w.heap.size) (i := 0) _ (iv VM))).but (Nat.le_refl _) (But.put (g := w.heap.size) (i := 1) _ (iv VL))).but (Nat.le_refl _) (But.put (g := w.heap.size) (i := 2) _ (iv VQ))).but (Nat.le_refl _) (But.put (g := w.heap.size) (i := 3) _ (.bool true))); clear hb hz hf hb7 hw)))
          all_goals go_wp2
          all_goals go_meet
          all_goals exact ⟨rfl, HZE.out, HFE.out⟩
        case rest =>
          obtain ⟨rfl, hz9, hf9⟩ := hcut
          clear k0 k1 HBA HZA HFA HNE HFT
          have HZ9 := Lib.hid hz9
          have HF9 := Lib.hid hf9
          clear hz9 hf9
          go_wp2
          exact bodyPost_ret (results_row_tmp (p := 4) (u := 5) (by kernel_rfl) _ _ w.heap.size tTail [iv VM, iv VL, iv VQ, .bool true] _ rfl HZ9.out Tryz.underlying76 rfl (by kernel_rfl)) rfl ⟨by rw [HV0.out HAL.out.1, HV1.out HAL.out.2.1, HV2.out HAL.out.2.2]; rfl, HF9.out⟩
      · have hft := hfit false (decide_eq_false hall)
        have hres := HRES2.out
        rw [if_neg hall] at hres
        subst hres
        have HFT := Lib.hid hft
        clear hfit hft hall HRES2
        go_cut [5] (fun v wx => v = .bool false ∧ Bk wx w.heap.size tTail [iv VM, iv VL, iv VQ, .bool true] ∧ Fresh w wx)
        case first =>
          go_region_held3 (fun w' => w'.cell? ⟨t, 0, none⟩ = some (iv VM) ∧ w'.cell? ⟨t, 1, none⟩ = some (iv VL) ∧ w'.cell? ⟨t, 2, none⟩ = some (iv VQ) ∧ w'.cell? ⟨t, 3, none⟩ = some (.bool true)) (first | with_reducible exact k0 | with_reducible exact k1 | with_reducible exact k6 | with_reducible exact k7) (first | (go_at_call 109; ((refine HFT.out.mono ?_); rintro e w10 ⟨rfl, hw⟩; have hb := HBA.out; rw [hw] at hb; have hz := HZA.out; rw [hw] at hz; have hf := HFA.out; rw [hw] at hf; have k6 : w10.cell? ⟨t, 0, none⟩ = some (iv VM) ∧ w10.cell? ⟨t, 1, none⟩ = some (iv VL) ∧ w10.cell? ⟨t, 2, none⟩ = some (iv VQ) ∧ w10.cell? ⟨t, 3, none⟩ = some (.bool true) := ⟨hb.cell rfl, hb.cell rfl, hb.cell rfl, hb.cell rfl⟩; have hb7 := (((hb.apart (p := ⟨w.heap.size, 0, none⟩) HNE.out (iv VM)).apart (p := ⟨w.heap.size, 1, none⟩) HNE.out (iv VL)).apart (p := ⟨w.heap.size, 2, none⟩) HNE.out (iv VQ)).apart (p := ⟨w.heap.size, 3, none⟩) HNE.out (.bool true); have k7 : ((((w10.setCell ⟨w.heap.size, 0, none⟩ (iv VM)).setCell ⟨w.heap.size, 1, none⟩ (iv VL)).setCell ⟨w.heap.size, 2, none⟩ (iv VQ)).setCell ⟨w.heap.size, 3, none⟩ (.bool true)).cell? ⟨t, 0, none⟩ = some (iv VM) ∧ ((((w10.setCell ⟨w.heap.size, 0, none⟩ (iv VM)).setCell ⟨w.heap.size, 1, none⟩ (iv VL)).setCell ⟨w.heap.size, 2, none⟩ (iv VQ)).setCell ⟨w.heap.size, 3, none⟩ (.bool true)).cell? ⟨t, 1, none⟩ = some (iv VL) ∧ ((((w10.setCell ⟨w.heap.size, 0, none⟩ (iv VM)).setCell ⟨w.heap.size, 1, none⟩ (iv VL)).setCell ⟨w.heap.size, 2, none⟩ (iv VQ)).setCell ⟨w.heap.size, 3, none⟩ (.bool true)).cell? ⟨t, 2, none⟩ = some (iv VQ) ∧ ((((w10.setCell ⟨w.heap.size, 0, none⟩ (iv VM)).setCell ⟨w.heap.size, 1, none⟩ (iv VL)).setCell ⟨w.heap.size, 2, none⟩ (iv VQ)).setCell ⟨w.heap.size, 3, none⟩ (.bool true)).cell? ⟨t, 3, none⟩ = some (.bool true) := ⟨hb7.cell rfl, hb7.cell rfl, hb7.cell rfl, hb7.cell rfl⟩; have z0 : w10.cell? ⟨w.heap.size, 0, none⟩ = some (iv 0) ∧ w10.cell? ⟨w.heap.size, 1, none⟩ = some (iv 0) ∧ w10.cell? ⟨w.heap.size, 2, none⟩ = some (iv 0) ∧ w10.cell? ⟨w.heap.size, 3, none⟩ = some (.bool false) := ⟨hz.cell rfl, hz.cell rfl, hz.cell rfl, hz.cell rfl⟩; have z1 : w10.frozen? ⟨w.heap.size, 0, none⟩ = false ∧ w10.frozen? ⟨w.heap.size, 1, none⟩ = false ∧ w10.frozen? ⟨w.heap.size, 2, none⟩ = false ∧ w10.frozen? ⟨w.heap.size, 3, none⟩ = false := ⟨hz.free 0, hz.free 1, hz.free 2, hz.free 3⟩; have HZE := Lib.hid ((((hz.put 0 (iv VM)).put 1 (iv VL)).put 2 (iv VQ)).put 3 (.bool true)); have HFE := Lib.hid ((((hf.but (Nat.le_refl _) (But.put (g := w.heap.size) (i := 0) _ (iv VM))).but (Nat.le_refl _) (But.put (g := w.heap.size) (i := 1) _ (iv VL))).but (Nat.le_refl _) (But.put (g := w.heap.size) (i := 2) _ (iv VQ))).but (Nat.le_refl _) (But.put (g := w.heap.size) (i := 3) _ (.bool true))); clear hb hz hf hb7 hw)))
          all_goals go_wp2
          all_goals go_meet
          all_goals exact ⟨rfl, HZE.out, HFE.out⟩
        case rest =>
          obtain ⟨rfl, hz9, hf9⟩ := hcut
          clear k0 k1 HBA HZA HFA HNE HFT
          have HZ9 := Lib.hid hz9
          have HF9 := Lib.hid hf9
          clear hz9 hf9
          go_wp2
          exact bodyPost_ret (results_row_tmp (p := 4) (u := 5) (by kernel_rfl) _ _ w.heap.size tTail [iv VM, iv VL, iv VQ, .bool true] _ rfl HZ9.out Tryz.underlying76 rfl (by kernel_rfl)) rfl ⟨⟨_, _, _, _, rfl⟩, HF9.out⟩
end Go.Proofs.YtmnegmebkmihhaaGreatDoor.recp
