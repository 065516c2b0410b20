import Derived.Test.YtmnejphdjnlbjaaGreatDoorUnzLeaf
import Derived.Test.YtmnejphdjnlbjaaGreatDoorRecCen
/- Several of my own texts, one behind the other. -/
/-
  unzip's centrals: the heads that a tail tells of. My own text.
-/
namespace Go.Proofs.YtmnejphdjnlbjaaGreatDoor.unzp
open Go.RowKit Go.Proofs.YtmnejphdjnlbjaaGreatDoor.base Go.Proofs.YtmnejphdjnlbjaaGreatDoor.recn Go.Proofs.YtmnejphdjnlbjaaGreatDoor.recp Go.Proofs.YtmnejphdjnlbjaaGreatDoor.unz
set_option linter.unusedVariables false
abbrev tHeads : TypeId := 47
/-- a head in a row of heads: with where its name lies -/
structure HRow where
  h : Hd
  A : Option Addr
  c : Nat
def hrow (r : HRow) : List Value := headV r.h r.A r.c
theorem hrow_len (r : HRow) : (hrow r).length = 9 := rfl
theorem hrow_one (r : HRow) : ∀ u ∈ hrow r, u.oneCell' = true := by
  intro v hv
  simp only [hrow, headV, List.mem_cons, List.not_mem_nil, or_false] at hv
  rcases hv with rfl | rfl | rfl | rfl | rfl | rfl | rfl | rfl | rfl <;> rfl
theorem headInfo : (Tryz.prog.info? tHead).map (fun i => (i.zero, i.size, i.bytes)) = some (some (.agg zeroV.toArray), 9, 88) := by kernel_rfl
/-- a row of heads that is the call's own; their names lie apart from it -/
structure HeadsAt (w : World) (base : Nat) (A : Option Addr) (n c : Nat) (l : List HRow) : Prop where
  row : OwnK w base tHead 9 A n c hrow l
  nms : ∀ r ∈ l, RdA w (Value.slice A n c).ownBlock.toList r.A r.h.nm.length (r.h.nm.map bv) ∧ r.h.nm.length ≤ r.c ∧ r.c ≤ maxLen
theorem HeadsAt.nil (w : World) (base : Nat) : HeadsAt w base none 0 0 [] := ⟨OwnK.nil _ _ _ _ _, fun r hr => by cases hr⟩
theorem HeadsAt.fresh {w w' : World} {base n c : Nat} {A : Option Addr} {l : List HRow} (h : HeadsAt w base A n c l) (q : Fresh w w') : HeadsAt w' base A n c l :=
  ⟨h.row.fresh q, fun r hr => ⟨(h.nms r hr).1.fresh q, (h.nms r hr).2⟩⟩
theorem HeadsAt.len {w : World} {base n c : Nat} {A : Option Addr} {l : List HRow} (h : HeadsAt w base A n c l) : l.length = n := h.row.len hrow_len (by omega)
def CensIs (w : World) (r : Except Nat (List Hd)) (e : Ending) (w' : World) : Prop :=
  Fresh w w' ∧ match r with
  | .error k => e = .returned (.tuple #[.slice none 0 0, .int .i64 (k : Nat)])
  | .ok hs => ∃ A c l, e = .returned (.tuple #[.slice A hs.length c, .int .i64 0]) ∧ HeadsAt w' w.heap.size A hs.length c l ∧ l.map HRow.h = hs
theorem cen_row (A : Option Addr) (n c : Nat) (xs : List UInt8) (p : Nat) (w : World) (B : Nat) (hr : Rd w B A n (xs.map bv)) (hB : B ≤ w.heap.size) (hc : n ≤ c) (hm : c ≤ maxLen) (hn : n ≤ 1099511627776) (hp : p ≤ 1099511627776) {fl me dt cr cs si at_ en : Nat} {nm : List UInt8} {wd : Bool} (h : cen xs (p : Nat) = .ok (⟨fl, me, dt, cr, cs, si, at_, nm, wd⟩, en)) :
    Calls Tryz.prog 26 #[.slice A n c, .int .i64 (p : Nat)] w fun e w' => Fresh w w' ∧ ∃ A3 c3, e = .returned (.tuple #[.agg #[iv (fl : Nat), iv (me : Nat), iv (dt : Nat), .int .u32 (cr : Nat), iv (cs : Nat), iv (si : Nat), iv (at_ : Nat), .slice A3 nm.length c3, .bool wd], iv (en : Nat), iv 0]) ∧ nm.length ≤ c3 ∧ c3 ≤ maxLen ∧ RdA w' (List.range w.heap.size) A3 nm.length (nm.map bv) := by
  have h1 := getCentral_any A n c xs (p : Nat) w B hr hB hc hm hn (by omega) (by omega)
  rw [h] at h1
  exact h1
theorem cen_bad (A : Option Addr) (n c : Nat) (xs : List UInt8) (p : Nat) (w : World) (B : Nat) (hr : Rd w B A n (xs.map bv)) (hB : B ≤ w.heap.size) (hc : n ≤ c) (hm : c ≤ maxLen) (hn : n ≤ 1099511627776) (hp : p ≤ 1099511627776) {k : Nat} (h : cen xs (p : Nat) = .error k) :
    Calls Tryz.prog 26 #[.slice A n c, .int .i64 (p : Nat)] w fun e w' => Fresh w w' ∧ e = .returned (.tuple #[.agg #[iv 0, iv 0, iv 0, .int .u32 0, iv 0, iv 0, iv 0, .slice none 0 0, .bool false], .int .i64 0, .int .i64 (k : Nat)]) := by
  have h1 := getCentral_any A n c xs (p : Nat) w B hr hB hc hm hn (by omega) (by omega)
  rw [h] at h1
  exact h1
set_option maxRecDepth 100000 in
set_option maxHeartbeats 8000000 in
theorem centrals_any (A : Option Addr) (n c : Nat) (xs : List UInt8) (t : Tl) (w : World) (B : Nat) (hr : Rd w B A n (xs.map bv)) (hB : B ≤ w.heap.size) (hc : n ≤ c) (hm : c ≤ maxLen) (hn : n ≤ 1099511627776) (ht1 : t.many < 281474976710656) (ht2 : t.long < 281474976710656) (ht3 : t.at_ < 281474976710656) (r : Except Nat (List Hd)) (hres : cens xs t = r) :
    Calls Tryz.prog 15 #[.slice A n c, .agg #[iv (t.many : Nat), iv (t.long : Nat), iv (t.at_ : Nat), .bool t.wd]] w (CensIs w r) := by
  have hlx : xs.length = n := by have := hr.1; rwa [List.length_map] at this
  obtain ⟨many, long, at_, wd⟩ := t
  simp only at ht1 ht2 ht3 ⊢
  have hal := Fresh.alloc w (.cells #[iv (many : Nat), iv (long : Nat), iv (at_ : Nat), .bool wd] 44)
  have hbk := Bk.made w 44 #[iv (many : Nat), iv (long : Nat), iv (at_ : Nat), .bool wd]
  have hr0 := hr.alloc hB (.cells #[iv (many : Nat), iv (long : Nat), iv (at_ : Nat), .bool wd] 44)
  have hsz : (w.alloc (.cells #[iv (many : Nat), iv (long : Nat), iv (at_ : Nat), .bool wd] 44)).heap.size = w.heap.size + 1 := by simp
  unfold cens at hres
  simp only [hlx] at hres
  by_cases h1 : n < at_ + long
  · rw [if_pos h1] at hres
    subst hres
    have hwi := fun W => within_any at_ long n W (by omega) (by omega) (by omega) false (by rw [decide_eq_false_iff_not]; omega)
    have HWI := Lib.hid hwi
    have HAL := Lib.hid hal
    clear hwi hal hbk hr0 hsz
    go_enter Tryz.func15, Tryz.ntmps15
    go_wp2_with (go_at_call 17; ((with_reducible refine (HWI.out _).mono ?_); rintro e w1 ⟨rfl, rfl⟩))
    go_ret2
    exact ⟨HAL.out, rfl⟩
  rw [if_neg h1] at hres
  have hwi := fun W => within_any at_ long n W (by omega) (by omega) (by omega) true (by rw [decide_eq_true_iff]; omega)
  have HWI := Lib.hid hwi
  by_cases h2 : 1000 < many
  · rw [if_pos h2] at hres
    subst hres
    have t1 : decide ((many : Int) > 1000) = true := by rw [decide_eq_true_iff]; omega
    have t2 : decide (1000 < (many : Int)) = true := by rw [decide_eq_true_iff]; omega
    have HAL := Lib.hid hal
    clear hwi hal hbk hr0 hsz h1 h2 ht1
    go_enter Tryz.func15, Tryz.ntmps15
    go_wp2_with (go_at_call 17; ((with_reducible refine (HWI.out _).mono ?_); rintro e w1 ⟨rfl, rfl⟩))
    go_ret2
    exact ⟨HAL.out, rfl⟩
  rw [if_neg h2] at hres
  have hmany : many ≤ 1000 := by omega
  have t1 : decide ((many : Int) > 1000) = false := by rw [decide_eq_false_iff_not]; omega
  have t2 : decide (1000 < (many : Int)) = false := by rw [decide_eq_false_iff_not]; omega
  have hat : at_ ≤ n := by omega
  have hwr : wrap64 ((at_ : Int) + (long : Int)) = (at_ : Int) + (long : Int) := by unfold wrap64; omega
  have HAL := Lib.hid hal
  have HBK := Lib.hid hbk
  have HR0 := Lib.hid hr0
  have HSZ := Lib.hid hsz
  have HRES := Lib.hid hres
  have HLX := Lib.hid hlx
  have HM := Lib.hid hm
  have HN := Lib.hid hn
  have HB := Lib.hid hB
  obtain ⟨i0, hi0, hz0, hz1, hz2⟩ := info_parts headInfo
  clear hwi hal hbk hr0 hsz h1 h2 ht1 ht2 ht3 hres hlx hr hm hn hB
  go_enter Tryz.func15, Tryz.ntmps15
  go_wp2_with (go_at_call 17; ((with_reducible refine (HWI.out _).mono ?_); rintro e w1 ⟨rfl, rfl⟩))
  go_loopw [6, 7, 26] (fun vh va vi wr => ∃ (i p ch : Nat) (Ah : Option Addr) (l : List HRow), vi = .int .i64 (i : Nat) ∧ va = .int .i64 (p : Nat) ∧ vh = .slice Ah i ch ∧ i ≤ many ∧ p ≤ n ∧ Hid (HeadsAt wr (w.heap.size + 1) Ah i ch l) ∧ Hid (Hup xs many at_ (many - i) (l.map HRow.h) p) ∧ Hid (Fresh (w.alloc (.cells #[iv (many : Nat), iv (long : Nat), iv (at_ : Nat), .bool wd] 44)) wr)) (fun _ _ vi _ => many - (intOf vi).toNat)
  case atStart => exact ⟨0, at_, 0, none, [], rfl, rfl, rfl, Nat.zero_le _, hat, Lib.hid (HeadsAt.nil _ _), Lib.hid (Hup.start _ _ _), Lib.hid (Fresh.refl _)⟩
  case round =>
    obtain ⟨i, p, ch, Ah, l, rfl, rfl, rfl, hi, hp, HH, HU, HF⟩ := hrel
    have hm1 := (HBK.out.fresh HF.out).cell (i := 0) rfl
    have hm2 := (HBK.out.fresh HF.out).cell (i := 1) rfl
    have hm3 := (HBK.out.fresh HF.out).cell (i := 2) rfl
    by_cases hlt : i < many
    · have ti : decide ((i : Int) < (many : Int)) = true := by rw [decide_eq_true_iff]; omega
      have hrr : Rd wr B A n (xs.map bv) := HR0.out.keep fun q hq => HF.out.block q (by have := HB.out; have := HSZ.out; omega)
      have hBr : B ≤ wr.heap.size := Nat.le_trans HB.out (Nat.le_trans HAL.out.size HF.out.size)
      have hmi : many - i = (many - i - 1) + 1 := by omega
      have HU' : Hid (Hup xs many at_ ((many - i - 1) + 1) (l.map HRow.h) p) := by rw [← hmi]; exact HU.out
      cases hce : cen xs (p : Nat) with
      | error k =>
        have hcall := cen_bad A n c xs p wr B hrr hBr hc HM.out HN.out (by have := HN.out; omega) hce
        have hk := cen_err_ne hce
        have hres := HRES.out
        rw [HU'.out.bad hce] at hres
        simp only at hres
        have hkk : ((k : Int) != 0) = true := by rw [bne_iff_ne]; omega
        have hkk2 : ((k : Int) == 0) = false := by simp; omega
        have HCALL := Lib.hid hcall
        have HR := Lib.hid hres
        clear hcall hrr hce hres hk hmi
        go_wp2_with (go_at_call 26; ((with_reducible refine HCALL.out.mono ?_); rintro e w2 ⟨hf2, rfl⟩))
        go_ret2
        rw [← HR.out]
        exact ⟨(HAL.out.trans HF.out).trans (hf2.trans (Fresh.alloc _ _)), rfl⟩
      | ok x =>
        obtain ⟨⟨fl, me, dt, cr, cs, si, at', nm, wd'⟩, en⟩ := x
        have hcall := cen_row A n c xs p wr B hrr hBr hc HM.out HN.out (by have := HN.out; omega) hce
        have hen := (cen_ok hce).2
        rw [HLX.out] at hen
        have hnext := HU'.out.next hce
        have HNX := Lib.hid hnext
        have HCALL := Lib.hid hcall
        have HEN := Lib.hid hen
        clear hcall hrr hce hnext hen hmi
        go_wp2_with (first
          | (go_at_call 26; ((with_reducible refine HCALL.out.mono ?_); rintro e w2 ⟨hf2, A3, c3, rfl, hl3, hc3, hr3⟩; have hal2 := Fresh.alloc w2 (.cells #[iv (fl : Nat), iv (me : Nat), iv (dt : Nat), .int .u32 (cr : Nat), iv (cs : Nat), iv (si : Nat), iv (at' : Nat), .slice A3 nm.length c3, .bool wd'] tHead); have hal3 := Fresh.alloc (w2.alloc (.cells #[iv (fl : Nat), iv (me : Nat), iv (dt : Nat), .int .u32 (cr : Nat), iv (cs : Nat), iv (si : Nat), iv (at' : Nat), .slice A3 nm.length c3, .bool wd'] tHead)) (.cells #[iv (fl : Nat), iv (me : Nat), iv (dt : Nat), .int .u32 (cr : Nat), iv (cs : Nat), iv (si : Nat), iv (at' : Nat), .slice A3 nm.length c3, .bool wd'] tHead); have HF2 := Lib.hid (hf2.trans (hal2.trans hal3)); have HBX := Lib.hid (Bk.made (w2.alloc (.cells #[iv (fl : Nat), iv (me : Nat), iv (dt : Nat), .int .u32 (cr : Nat), iv (cs : Nat), iv (si : Nat), iv (at' : Nat), .slice A3 nm.length c3, .bool wd'] tHead)) tHead #[iv (fl : Nat), iv (me : Nat), iv (dt : Nat), .int .u32 (cr : Nat), iv (cs : Nat), iv (si : Nat), iv (at' : Nat), .slice A3 nm.length c3, .bool wd']); have HNM := Lib.hid ((hr3.of_range (row := (Value.slice Ah i ch).ownBlock) fun q hq => (HH.out.row.block q hq).2.1).fresh (hal2.trans hal3)); have HL3 := Lib.hid hl3; have HC3 := Lib.hid hc3; have HHX := Lib.hid (HH.out.fresh HF2.out); have hsz2 : (w2.alloc (.cells #[iv (fl : Nat), iv (me : Nat), iv (dt : Nat), .int .u32 (cr : Nat), iv (cs : Nat), iv (si : Nat), iv (at' : Nat), .slice A3 nm.length c3, .bool wd'] tHead)).heap.size = w2.heap.size + 1 := (by simp); rw [hsz2] at HBX; have HFX := Lib.hid (HF.out.trans HF2.out); have hb9 := HFX.out.size; rw [HSZ.out] at hb9; have HB9 := Lib.hid hb9; clear hb9; clear hf2 hal2 hal3 hr3 hl3 hc3 hsz2))
          | (at_builtin; (refine wpList_append_cells _ rfl _ _ tHeads rfl (w.heap.size + 1) tHead i0 _ 9 88 Tryz.underlying47 hi0 hz0 hz1 hz2 rfl (by omega) hrow Ah i ch l rfl HHX.out.row (w2.heap.size + 1) ⟨⟨fl, me, dt, cr, cs, si, at', nm, wd'⟩, A3, c3⟩ rfl HBX.out rfl (hrow_one _) (by omega) (by omega) HB9.out ?_; intro A4 c4 w4 hown4 hg4 hb4)))
        refine ⟨⟨i + 1, en, c4, A4, l ++ [⟨⟨fl, me, dt, cr, cs, si, at', nm, wd'⟩, A3, c3⟩], by go_num, rfl, rfl, by omega, HEN.out, Lib.hid ⟨hown4, fun r hr => ?_⟩, ?_, Lib.hid (HHX.out.row.append HFX.out (by have := HSZ.out; omega) hg4)⟩, ?_⟩
        · rcases List.mem_append.1 hr with hr | hr
          · exact ⟨(HHX.out.nms r hr).1.grown hg4 hb4, (HHX.out.nms r hr).2⟩
          · rw [List.mem_singleton] at hr
            subst hr
            exact ⟨HNM.out.grown hg4 hb4, HL3.out, HC3.out⟩
        · rw [List.map_append]
          have e : many - (i + 1) = many - i - 1 := by omega
          rw [e]
          exact HNX
        · simp [intOf]; omega
    · obtain rfl : i = many := by omega
      have hU := HU.out
      rw [Nat.sub_self] at hU
      have hres := HRES.out
      rw [hU.done] at hres
      simp only at hres
      have ti : decide ((i : Int) < (i : Int)) = false := by simp
      by_cases hz : p = at_ + long
      · rw [if_pos hz] at hres
        have tz : ((p : Int) != (at_ : Int) + (long : Int)) = false := by rw [hz]; simp
        have HR := Lib.hid hres
        clear hres hU hz
        go_wp2
        go_ret2
        rw [← HR.out]
        have hl := HH.out.len
        refine ⟨HAL.out.trans HF.out, Ah, ch, l, ?_, ?_, rfl⟩
        · rw [List.length_map, hl]
          rfl
        · rw [List.length_map, hl]
          exact ⟨HH.out.row.low (by omega), HH.out.nms⟩
      · rw [if_neg hz] at hres
        have tz : ((p : Int) != (at_ : Int) + (long : Int)) = true := by rw [bne_iff_ne]; omega
        have HR := Lib.hid hres
        clear hres hU hz
        go_wp2
        go_ret2
        rw [← HR.out]
        exact ⟨HAL.out.trans HF.out, rfl⟩
end Go.Proofs.YtmnejphdjnlbjaaGreatDoor.unzp
/-
  unzip's dataAt: where the data of an entry begin. My own text.
-/
namespace Go.Proofs.YtmnejphdjnlbjaaGreatDoor.unzp
open Go.RowKit Go.Proofs.YtmnejphdjnlbjaaGreatDoor.base Go.Proofs.YtmnejphdjnlbjaaGreatDoor.recn Go.Proofs.YtmnejphdjnlbjaaGreatDoor.recp Go.Proofs.YtmnejphdjnlbjaaGreatDoor.unz
set_option linter.unusedVariables false
theorem ne_dec (a b : Nat) : ((a : Int) != (b : Int)) = !decide (a = b) := by
  rw [Bool.eq_iff_iff, bne_iff_ne]; simp; omega
theorem eq_dec (a b : Nat) : ((a : Int) == (b : Int)) = decide (a = b) := by
  rw [Bool.eq_iff_iff, beq_iff_eq]; simp; omega
def DatIs (w : World) (r : Except Nat Nat) (e : Ending) (w' : World) : Prop :=
  Fresh w w' ∧ match r with
  | .error k => e = .returned (.tuple #[iv 0, .int .i64 (k : Nat)])
  | .ok a => e = .returned (.tuple #[iv (a : Nat), .int .i64 0])
theorem loc_row (A : Option Addr) (n c : Nat) (xs : List UInt8) (p : Nat) (w : World) (B : Nat) (hr : Rd w B A n (xs.map bv)) (hB : B ≤ w.heap.size) (hc : n ≤ c) (hm : c ≤ maxLen) (hn : n ≤ 1099511627776) (hp : p < 281474976710656) {fl me dt cr cs si at_ en : Nat} {nm : List UInt8} {wd : Bool} (h : loc xs (p : Nat) = .ok (⟨fl, me, dt, cr, cs, si, at_, nm, wd⟩, en)) :
    Calls Tryz.prog 48 #[.slice A n c, .int .i64 (p : Nat)] w fun e w' => Fresh w w' ∧ ∃ A3 c3, e = .returned (.tuple #[.agg #[iv (fl : Nat), iv (me : Nat), iv (dt : Nat), .int .u32 (cr : Nat), iv (cs : Nat), iv (si : Nat), iv (at_ : Nat), .slice A3 nm.length c3, .bool wd], iv (en : Nat), iv 0]) ∧ nm.length ≤ c3 ∧ c3 ≤ maxLen ∧ RdA w' (List.range w.heap.size) A3 nm.length (nm.map bv) := by
  have h1 := getLocal_any A n c xs (p : Nat) w B hr hB hc hm hn (by omega) (by omega)
  rw [h] at h1
  exact h1
theorem loc_bad (A : Option Addr) (n c : Nat) (xs : List UInt8) (p : Nat) (w : World) (B : Nat) (hr : Rd w B A n (xs.map bv)) (hB : B ≤ w.heap.size) (hc : n ≤ c) (hm : c ≤ maxLen) (hn : n ≤ 1099511627776) (hp : p < 281474976710656) {k : Nat} (h : loc xs (p : Nat) = .error k) :
    Calls Tryz.prog 48 #[.slice A n c, .int .i64 (p : Nat)] w fun e w' => Fresh w w' ∧ e = .returned (.tuple #[.agg #[iv 0, iv 0, iv 0, .int .u32 0, iv 0, iv 0, iv 0, .slice none 0 0, .bool false], .int .i64 0, .int .i64 (k : Nat)]) := by
  have h1 := getLocal_any A n c xs (p : Nat) w B hr hB hc hm hn (by omega) (by omega)
  rw [h] at h1
  exact h1
set_option maxRecDepth 100000 in
set_option maxHeartbeats 16000000 in
theorem dataAt_any (A : Option Addr) (n c : Nat) (xs : List UInt8) (h : Hd) (N : Option Addr) (nc : Nat) (w : World) (B : Nat) (hr : Rd w B A n (xs.map bv)) (hB : B ≤ w.heap.size) (hc : n ≤ c) (hm : c ≤ maxLen) (hn : n ≤ 1099511627776) (hN : Rd w w.heap.size N h.nm.length (h.nm.map bv)) (hat : h.at_ < 281474976710656) (r : Except Nat Nat) (hres : dat xs h = r) :
    Calls Tryz.prog 29 #[.slice A n c, .agg (headV h N nc).toArray] w (DatIs w r) := by
  obtain ⟨fl, me, dt, cr, cs, si, at_, nm, wd⟩ := h
  simp only [headV] at hat hN ⊢
  unfold dat at hres
  simp only at hres
  have hal := Fresh.alloc w (.cells #[iv (fl : Nat), iv (me : Nat), iv (dt : Nat), .int .u32 (cr : Nat), iv (cs : Nat), iv (si : Nat), iv (at_ : Nat), .slice N nm.length nc, .bool wd] tHead)
  have hbk := Bk.made w tHead #[iv (fl : Nat), iv (me : Nat), iv (dt : Nat), .int .u32 (cr : Nat), iv (cs : Nat), iv (si : Nat), iv (at_ : Nat), .slice N nm.length nc, .bool wd]
  have hr0 := hr.alloc hB (.cells #[iv (fl : Nat), iv (me : Nat), iv (dt : Nat), .int .u32 (cr : Nat), iv (cs : Nat), iv (si : Nat), iv (at_ : Nat), .slice N nm.length nc, .bool wd] tHead)
  have hN0 := hN.fresh hal
  have hB0 : B ≤ (w.alloc (.cells #[iv (fl : Nat), iv (me : Nat), iv (dt : Nat), .int .u32 (cr : Nat), iv (cs : Nat), iv (si : Nat), iv (at_ : Nat), .slice N nm.length nc, .bool wd] tHead)).heap.size := Nat.le_trans hB hal.size
  cases hlo : loc xs (at_ : Nat) with
  | error k =>
    rw [hlo] at hres
    simp only at hres
    subst hres
    have hcall := loc_bad A n c xs at_ _ B hr0 hB0 hc hm hn hat hlo
    have hk := loc_err_ne hlo
    have hkk : ((k : Int) != 0) = true := by rw [bne_iff_ne]; omega
    have HCALL := Lib.hid hcall
    have HAL := Lib.hid hal
    clear hcall hal hr0 hN0 hB0 hlo hbk hr hN hk
    go_enter Tryz.func29, Tryz.ntmps29
    go_wp2_with (go_at_call 48; ((with_reducible refine HCALL.out.mono ?_); rintro e w2 ⟨hf2, rfl⟩))
    go_ret2
    exact ⟨HAL.out.trans (hf2.trans (Fresh.alloc _ _)), rfl⟩
  | ok x =>
    obtain ⟨⟨fl', me', dt', cr', cs', si', at', nm', wd'⟩, en⟩ := x
    rw [hlo] at hres
    simp only at hres
    have hcall := loc_row A n c xs at_ _ B hr0 hB0 hc hm hn hat hlo
    have hbd := (loc_ok' hlo).1
    simp only at hbd
    have t3 := and_8 fl' hbd.1
    have t3b : (fl' / 8 % 2 == 0) = !(fl' / 8 % 2 == 1) := by rw [Bool.eq_iff_iff]; simp
    have t2 := ne_dec me' me
    have t4 := ne_dec cr' cr
    have t5 := ne_dec cs' cs
    have t6 := ne_dec si' si
    rw [t3b] at hres
    have heq := fun (W : World) (D : Option Addr) (d : Nat) (h1 : Rd W W.heap.size D nm'.length (nm'.map bv)) (h2 : Rd W W.heap.size N nm.length (nm.map bv)) => equal_any D N nm'.length nm.length d nc nm' nm W _ _ h1 h2 _ rfl
    generalize decide (nm' = nm) = b1 at *
    generalize decide (me' = me) = b2 at *
    generalize (fl' / 8 % 2 == 1) = b3 at *
    generalize decide (cr' = cr) = b4 at *
    generalize decide (cs' = cs) = b5 at *
    generalize decide (si' = si) = b6 at *
    generalize nm'.length = L' at *
    generalize nm.length = L at *
    have HEQ := Lib.hid heq
    have HCALL := Lib.hid hcall
    have HAL := Lib.hid hal
    have HBK := Lib.hid hbk
    have HN0 := Lib.hid hN0
    have hbr : b1 = false ∨ (b1 = true ∧ b2 = false) ∨ (b1 = true ∧ b2 = true ∧ b3 = true) ∨ (b1 = true ∧ b2 = true ∧ b3 = false ∧ b4 = false) ∨ (b1 = true ∧ b2 = true ∧ b3 = false ∧ b4 = true ∧ b5 = false) ∨ (b1 = true ∧ b2 = true ∧ b3 = false ∧ b4 = true ∧ b5 = true ∧ b6 = false) ∨ (b1 = true ∧ b2 = true ∧ b3 = false ∧ b4 = true ∧ b5 = true ∧ b6 = true) := by
      cases b1 <;> cases b2 <;> cases b3 <;> cases b4 <;> cases b5 <;> cases b6 <;> simp
    clear hcall hal hr0 hN0 hB0 hlo hbk hr hN hbd heq
    rcases hbr with rfl | ⟨rfl, rfl⟩ | ⟨rfl, rfl, rfl⟩ | ⟨rfl, rfl, rfl, rfl⟩ | ⟨rfl, rfl, rfl, rfl, rfl⟩ | ⟨rfl, rfl, rfl, rfl, rfl, rfl⟩ | ⟨rfl, rfl, rfl, rfl, rfl, rfl⟩
    all_goals simp only [Bool.not_true, Bool.not_false, Bool.true_or, Bool.or_true, Bool.or_false, Bool.false_and, Bool.and_true, Bool.and_false, if_true, if_false, Bool.false_eq_true] at hres t2 t3 t4 t5 t6
    all_goals subst hres
    all_goals go_enter Tryz.func29, Tryz.ntmps29
    all_goals go_upto_region 2 with (go_at_call 48; ((with_reducible refine HCALL.out.mono ?_); rintro e w2 ⟨hf2, A3, c3, rfl, hl3, hc3, hr3⟩; have hal2 := Fresh.alloc w2 (.cells #[iv (fl' : Nat), iv (me' : Nat), iv (dt' : Nat), .int .u32 (cr' : Nat), iv (cs' : Nat), iv (si' : Nat), iv (at' : Nat), .slice A3 L' c3, .bool wd'] tHead); have HB2 := Lib.hid (Bk.made w2 tHead #[iv (fl' : Nat), iv (me' : Nat), iv (dt' : Nat), .int .u32 (cr' : Nat), iv (cs' : Nat), iv (si' : Nat), iv (at' : Nat), .slice A3 L' c3, .bool wd']); have HF2 := Lib.hid (HAL.out.trans (hf2.trans hal2)); have HBK2 := Lib.hid (HBK.out.fresh (hf2.trans hal2)); have HEQ2 := Lib.hid (HEQ.out _ A3 c3 (hr3.rd.fresh hal2) (HN0.out.fresh (hf2.trans hal2))); clear hf2 hl3 hc3 hr3 hal2))
    all_goals generalize w2.alloc (.cells #[iv (fl' : Nat), iv (me' : Nat), iv (dt' : Nat), .int .u32 (cr' : Nat), iv (cs' : Nat), iv (si' : Nat), iv (at' : Nat), .slice A3 L' c3, .bool wd'] tHead) = W2 at *
    all_goals generalize w2.heap.size = g2 at *
    all_goals have k1 := HBK2.out.cell (i := 1) rfl
    all_goals have k3 := HBK2.out.cell (i := 3) rfl
    all_goals have k4 := HBK2.out.cell (i := 4) rfl
    all_goals have k5 := HBK2.out.cell (i := 5) rfl
    all_goals have k7 := HBK2.out.cell (i := 7) rfl
    all_goals have l0 := HB2.out.cell (i := 0) rfl
    all_goals have l1 := HB2.out.cell (i := 1) rfl
    all_goals have l3 := HB2.out.cell (i := 3) rfl
    all_goals have l4 := HB2.out.cell (i := 4) rfl
    all_goals have l5 := HB2.out.cell (i := 5) rfl
    all_goals have l7 := HB2.out.cell (i := 7) rfl
    all_goals go_wp2_with (go_at_call 49; ((with_reducible refine HEQ2.out.mono ?_); rintro e w3 ⟨rfl, rfl⟩))
    all_goals go_ret2
    all_goals exact ⟨HF2.out, rfl⟩
end Go.Proofs.YtmnejphdjnlbjaaGreatDoor.unzp
