/-
  The reference's one: an entry. My own text.
-/
import Derived.Test.YtmnejphdjnlbjaaDoorUnzOpen
import Derived.Test.YtmnejphdjnlbjaaDoorUnzSame
import Derived.Test.YtmnejphdjnlbjaaDoorRecRCen
import Derived.Deep.DeepCutAuto
namespace Go.Proofs.YtmnejphdjnlbjaaDoor.unzp
open Go.RowKit Go.Maps Go.Proofs.YtmnejphdjnlbjaaDoor.base Go.Proofs.YtmnejphdjnlbjaaDoor.nam Go.Proofs.YtmnejphdjnlbjaaDoor.namp Go.Proofs.YtmnejphdjnlbjaaDoor.recn Go.Proofs.YtmnejphdjnlbjaaDoor.recp Go.Proofs.YtmnejphdjnlbjaaDoor.unz
set_option linter.unusedVariables false
abbrev tEnt : TypeId := 61
def OneIs (w : World) (r : Except Nat Fe) (e : Ending) (w' : World) : Prop :=
  Fresh w w' ∧ match r with
  | .error k => e = .returned (.agg (fileZ ++ [iv (k : Nat)]).toArray)
  | .ok f => e = .returned (.agg (fileV f ++ [iv 0]).toArray)
theorem entz_one (k : Int) : (#[.string ⟨#[]⟩, iv 0, iv 0, .int .u32 0, iv 0, iv 0, iv 0, iv k] : Array Value).all (·.oneCell') = true := all_one _ (by
  intro v hv
  simp only [List.mem_cons, List.not_mem_nil, or_false] at hv
  rcases hv with rfl | rfl | rfl | rfl | rfl | rfl | rfl | rfl <;> rfl)
theorem entf_one (s : ByteArray) (a b c d e f : Int) : (#[.string s, iv a, iv b, .int .u32 c, iv d, iv e, iv f, iv 0] : Array Value).all (·.oneCell') = true := all_one _ (by
  intro v hv
  simp only [List.mem_cons, List.not_mem_nil, or_false] at hv
  rcases hv with rfl | rfl | rfl | rfl | rfl | rfl | rfl | rfl <;> rfl)
set_option maxRecDepth 100000 in
set_option maxHeartbeats 16000000 in
theorem one_any (A : Option Addr) (n c : Nat) (xs : List UInt8) (h : Hd) (N : Option Addr) (nc en : Nat) (Al : Option Addr) (ml cl base : Nat) (fs : List Fe) (w : World) (B : Nat) (hr : Rd w B A n (xs.map bv)) (hB : B ≤ w.heap.size) (hc : n ≤ c) (hm : c ≤ maxLen) (hn : n ≤ 1099511627776)
    (hN : Rd w w.heap.size N h.nm.length (h.nm.map bv)) (hNc : h.nm.length ≤ nc) (hNm : nc ≤ maxLen) (hok : HdOk h xs) (hen : en < 281474976710656) (hO : OwnK w base tFile 7 Al ml cl fileV fs) (hml : ml ≤ 1099511627776) (r : Except Nat Fe) (hres : ent xs h en (fs.map (·.nm)) = r) :
    Calls Tryd.prog 17 #[.slice A n c, .agg (headV h N nc).toArray, .int .i64 (en : Nat), .slice Al ml cl] w (OneIs w r) := by
  obtain ⟨fl, me, dt, cr, cs, si, at_, nm, wd⟩ := h
  simp only [headV] at hN hNc ⊢
  obtain ⟨ofl, ome, odt, ocr, ocs, osi, oat, onm⟩ := hok
  simp only at ofl ome odt ocr ocs osi oat onm
  have hlx : xs.length = n := by have := hr.1; rwa [List.length_map] at this
  unfold ent dat at hres
  simp only at hres
  have hdl := fun t => decL_len (fl / 2048 % 2 == 1) nm t
  have tb0 : ((fl : Int) / 2048 % 2 == 1) = (fl / 2048 % 2 == 1) := by rw [Bool.eq_iff_iff, beq_iff_eq, beq_iff_eq]; omega
  have hlo := fun (W : World) (hf : Fresh w W) => refLocal_any A n c xs (at_ : Nat) W B (hr.keep fun i hi => hf.block i (by omega)) (Nat.le_trans hB hf.size) hc hm hn (by omega) (by omega)
  have hdec := fun (W : World) (hf : Fresh w W) => refDec_any N nm.length nc nm (fl / 2048 % 2 == 1) W _ (hN.fresh hf) (Nat.le_refl _) (by omega) hNc hNm _ rfl
  generalize nm.length = L at *
  have hal : Fresh w ((w.alloc (.cells #[iv (fl : Nat), iv (me : Nat), iv (dt : Nat), .int .u32 (cr : Nat), iv (cs : Nat), iv (si : Nat), iv (at_ : Nat), .slice N L nc, .bool wd] tHead)).alloc (.cells #[.string ⟨#[]⟩, iv 0, iv 0, .int .u32 0, iv 0, iv 0, iv 0, iv 0] tEnt)) := (Fresh.alloc _ _).trans (Fresh.alloc _ _)
  have hbk : Bk ((w.alloc (.cells #[iv (fl : Nat), iv (me : Nat), iv (dt : Nat), .int .u32 (cr : Nat), iv (cs : Nat), iv (si : Nat), iv (at_ : Nat), .slice N L nc, .bool wd] tHead)).alloc (.cells #[.string ⟨#[]⟩, iv 0, iv 0, .int .u32 0, iv 0, iv 0, iv 0, iv 0] tEnt)) w.heap.size tHead [iv (fl : Nat), iv (me : Nat), iv (dt : Nat), .int .u32 (cr : Nat), iv (cs : Nat), iv (si : Nat), iv (at_ : Nat), .slice N L nc, .bool wd] := (Bk.made w tHead _).alloc _
  have hbz : Bk ((w.alloc (.cells #[iv (fl : Nat), iv (me : Nat), iv (dt : Nat), .int .u32 (cr : Nat), iv (cs : Nat), iv (si : Nat), iv (at_ : Nat), .slice N L nc, .bool wd] tHead)).alloc (.cells #[.string ⟨#[]⟩, iv 0, iv 0, .int .u32 0, iv 0, iv 0, iv 0, iv 0] tEnt)) (w.heap.size + 1) tEnt (fileZ ++ [iv 0]) := by
    have h := Bk.made (w.alloc (.cells #[iv (fl : Nat), iv (me : Nat), iv (dt : Nat), .int .u32 (cr : Nat), iv (cs : Nat), iv (si : Nat), iv (at_ : Nat), .slice N L nc, .bool wd] tHead)) tEnt #[.string ⟨#[]⟩, iv 0, iv 0, .int .u32 0, iv 0, iv 0, iv 0, iv 0]
    have e : (w.alloc (.cells #[iv (fl : Nat), iv (me : Nat), iv (dt : Nat), .int .u32 (cr : Nat), iv (cs : Nat), iv (si : Nat), iv (at_ : Nat), .slice N L nc, .bool wd] tHead)).heap.size = w.heap.size + 1 := by simp
    rwa [e] at h
  have hgz : w.heap.size ≤ w.heap.size + 1 := Nat.le_succ _
  generalize hg8 : w.heap.size + 1 = g8 at *
  have HF0 := Lib.hid hal
  have HB0 := Lib.hid hbk
  have HZ0 := Lib.hid hbz
  clear hal hbk hbz
  generalize (fl / 2048 % 2 == 1) = b0 at *
  cases hd : decL b0 nm with
  | none =>
    rw [hd] at hres hdec
    simp only [Option.getD_none, Option.isSome_none] at hres hdec
    subst hres
    have HDEC := Lib.hid hdec
    clear hdec hd hr hN hdl hlo hO
    go_enter Tryd.func17, Tryd.ntmps17
    go_upto_region 1 with (fail)
    generalize (w.alloc (.cells #[.int .i64 (fl : Nat), .int .i64 (me : Nat), .int .i64 (dt : Nat), .int .u32 (cr : Nat), .int .i64 (cs : Nat), .int .i64 (si : Nat), .int .i64 (at_ : Nat), .slice N L nc, .bool wd] tHead)).alloc (.cells #[.string ⟨#[]⟩, .int .i64 0, .int .i64 0, .int .u32 0, .int .i64 0, .int .i64 0, .int .i64 0, .int .i64 0] tEnt) = W0 at *
    have k0 := HB0.out.cell (i := 0) rfl
    have k7 := HB0.out.cell (i := 7) rfl
    go_upto_region 2 with (first
      | (go_at_call 35; ((with_reducible refine (HDEC.out _ HF0.out).mono ?_); rintro e w1 ⟨A4, m4, c4, rfl, hm4, hf1, hr4, hmc4, hcm4⟩; have hal := Fresh.alloc w1 (.cells #[.slice A4 m4 c4, .bool false] tName); have HX1 := Lib.hid (hf1.trans hal); have HZ1 := Lib.hid (HZ0.out.fresh HX1.out); have HB1 := Lib.hid (HB0.out.fresh HX1.out); have HF1 := Lib.hid (HF0.out.trans HX1.out); have HN1 := Lib.hid (Bk.made w1 tName #[.slice A4 m4 c4, .bool false]); have HR1 := Lib.hid (hr4.fresh hal); have HM4 := Lib.hid hm4; have HC4 := Lib.hid hmc4; have HC5 := Lib.hid hcm4; clear hf1 hr4 hal hm4 hmc4 hcm4)))
    generalize w1.alloc (.cells #[.slice A4 m4 c4, .bool false] tName) = W1 at *
    generalize w1.heap.size = g9 at *
    have n0 := HN1.out.cell (i := 0) rfl
    have n1 := HN1.out.cell (i := 1) rfl
    go_wp2_with (first
      | ((with_reducible (refine at_store_ 8 30 ?_)); refine wpList_store_row (o := ⟨none, _, _, _, _, _⟩) rfl tEnt (.tmp 8) (.tmp 30) rfl g8 #[.string ⟨#[]⟩, iv 0, iv 0, .int .u32 0, iv 0, iv 0, iv 0, iv 4] rfl rfl tEnt _ HZ1.out (by kernel_rfl) (by rfl) (by kernel_rfl) ?_))
    exact bodyPost_ret (results_cell_row (p := 8) (by kernel_rfl) _ _ g8 tEnt #[.string ⟨#[]⟩, iv 0, iv 0, .int .u32 0, iv 0, iv 0, iv 0, iv 4] (0, 0) _ rfl (HZ1.out.row _) Tryd.underlying61 rfl (by kernel_rfl)) rfl ⟨HF1.out.but hgz (But.row _ _ _), rfl⟩
  | some t =>
    rw [hd] at hres hdec
    simp only [Option.getD_some, Option.isSome_some] at hres hdec
    have htl : t.length ≤ 262140 := by have := hdl t hd; omega
    have hmay := fun (W : World) (A : Option Addr) (m c : Nat) (h : Rd W W.heap.size A m (t.map bv)) (hm : m = t.length) (hc : m ≤ c) (hcm : c ≤ maxLen) => refMay_of A m c t W _ h (Nat.le_refl _) (by omega) hc hcm
    have HDEC := Lib.hid hdec
    have HNR := Lib.hid hN
    clear hdec hd hN hdl
    cases hmy : mayL t with
    | false =>
      have HMAY := Lib.hid (fun W A m c h1 h2 h3 h4 => hmay W A m c h1 h2 h3 h4 _ hmy)
      rw [hmy, if_pos rfl] at hres
      subst hres
      clear hmay hmy hr hlo hO
      go_enter Tryd.func17, Tryd.ntmps17
      go_upto_region 1 with (fail)
      generalize (w.alloc (.cells #[.int .i64 (fl : Nat), .int .i64 (me : Nat), .int .i64 (dt : Nat), .int .u32 (cr : Nat), .int .i64 (cs : Nat), .int .i64 (si : Nat), .int .i64 (at_ : Nat), .slice N L nc, .bool wd] tHead)).alloc (.cells #[.string ⟨#[]⟩, .int .i64 0, .int .i64 0, .int .u32 0, .int .i64 0, .int .i64 0, .int .i64 0, .int .i64 0] tEnt) = W0 at *
      have k0 := HB0.out.cell (i := 0) rfl
      have k7 := HB0.out.cell (i := 7) rfl
      go_upto_region 2 with (first
        | (go_at_call 35; ((with_reducible refine (HDEC.out _ HF0.out).mono ?_); rintro e w1 ⟨A4, m4, c4, rfl, hm4, hf1, hr4, hmc4, hcm4⟩; have hal := Fresh.alloc w1 (.cells #[.slice A4 m4 c4, .bool true] tName); have HX1 := Lib.hid (hf1.trans hal); have HZ1 := Lib.hid (HZ0.out.fresh HX1.out); have HB1 := Lib.hid (HB0.out.fresh HX1.out); have HF1 := Lib.hid (HF0.out.trans HX1.out); have HN1 := Lib.hid (Bk.made w1 tName #[.slice A4 m4 c4, .bool true]); have HR1 := Lib.hid (hr4.fresh hal); have HM4 := Lib.hid hm4; have HC4 := Lib.hid hmc4; have HC5 := Lib.hid hcm4; clear hf1 hr4 hal hm4 hmc4 hcm4)))
      generalize w1.alloc (.cells #[.slice A4 m4 c4, .bool true] tName) = W1 at *
      generalize w1.heap.size = g9 at *
      clear k0 k7
      have n0 := HN1.out.cell (i := 0) rfl
      have n1 := HN1.out.cell (i := 1) rfl
      go_wp2_with (first
        | (go_at_call 36; ((with_reducible refine (HMAY.out _ A4 m4 c4 HR1.out HM4.out HC4.out HC5.out).mono ?_); rintro e w2 ⟨rfl, hf2⟩; have HZ2 := Lib.hid (HZ1.out.fresh hf2); have HB2 := Lib.hid (HB1.out.fresh hf2); have HN2 := Lib.hid (HN1.out.fresh hf2); have HR2 := Lib.hid (HR1.out.fresh hf2); have HF2 := Lib.hid (HF1.out.trans hf2); clear hf2))
        | ((with_reducible (refine at_store_ 8 30 ?_)); refine wpList_store_row (o := ⟨none, _, _, _, _, _⟩) rfl tEnt (.tmp 8) (.tmp 30) rfl g8 #[.string ⟨#[]⟩, iv 0, iv 0, .int .u32 0, iv 0, iv 0, iv 0, iv 4] rfl rfl tEnt _ HZ2.out (by kernel_rfl) (by rfl) (by kernel_rfl) ?_))
      exact bodyPost_ret (results_cell_row (p := 8) (by kernel_rfl) _ _ g8 tEnt #[.string ⟨#[]⟩, iv 0, iv 0, .int .u32 0, iv 0, iv 0, iv 0, iv 4] (0, 0) _ rfl (HZ2.out.row _) Tryd.underlying61 rfl (by kernel_rfl)) rfl ⟨HF2.out.but hgz (But.row _ _ _), rfl⟩
    | true =>
      have HMAY := Lib.hid (fun W A m c h1 h2 h3 h4 => hmay W A m c h1 h2 h3 h4 _ hmy)
      rw [hmy, if_neg (by simp)] at hres
      have HLO := Lib.hid hlo
      have hfl := hO.len fileV_len (by omega)
      have hst := fun (W : World) A m c (h : Rd W W.heap.size A m (t.map bv)) => run_str_rd (P := Tryd.prog) W 22 9 5 Tryd.underlying22 Tryd.underlying5 Tryd.underlying9 A c m _ t h
      obtain ⟨sT, hsT⟩ : ∃ s, (⟨t.toArray⟩ : ByteArray) = s := ⟨_, rfl⟩
      rw [hsT] at hst
      have HST := Lib.hid hst
      have HSE := Lib.hid hsT
      have HO := Lib.hid (fun (W : World) (hf : Fresh w W) => hO.fresh hf)
      have HFL := Lib.hid hfl
      have HRES := Lib.hid hres
      clear hmay hmy hr hlo hO hfl hst hsT hres
      go_enter Tryd.func17, Tryd.ntmps17
      go_upto_region 1 with (fail)
      generalize (w.alloc (.cells #[.int .i64 (fl : Nat), .int .i64 (me : Nat), .int .i64 (dt : Nat), .int .u32 (cr : Nat), .int .i64 (cs : Nat), .int .i64 (si : Nat), .int .i64 (at_ : Nat), .slice N L nc, .bool wd] tHead)).alloc (.cells #[.string ⟨#[]⟩, .int .i64 0, .int .i64 0, .int .u32 0, .int .i64 0, .int .i64 0, .int .i64 0, .int .i64 0] tEnt) = W0 at *
      have k0 := HB0.out.cell (i := 0) rfl
      have k7 := HB0.out.cell (i := 7) rfl
      go_upto_region 2 with (first
        | (go_at_call 35; ((with_reducible refine (HDEC.out _ HF0.out).mono ?_); rintro e w1 ⟨A4, m4, c4, rfl, hm4, hf1, hr4, hmc4, hcm4⟩; have hal := Fresh.alloc w1 (.cells #[.slice A4 m4 c4, .bool true] tName); have HX1 := Lib.hid (hf1.trans hal); have HZ1 := Lib.hid (HZ0.out.fresh HX1.out); have HB1 := Lib.hid (HB0.out.fresh HX1.out); have HF1 := Lib.hid (HF0.out.trans HX1.out); have HN1 := Lib.hid (Bk.made w1 tName #[.slice A4 m4 c4, .bool true]); have HR1 := Lib.hid (hr4.fresh hal); have HM4 := Lib.hid hm4; have HC4 := Lib.hid hmc4; have HC5 := Lib.hid hcm4; clear hf1 hr4 hal hm4 hmc4 hcm4)))
      generalize w1.alloc (.cells #[.slice A4 m4 c4, .bool true] tName) = W1 at *
      generalize w1.heap.size = g9 at *
      clear k0 k7
      have n0 := HN1.out.cell (i := 0) rfl
      have n1 := HN1.out.cell (i := 1) rfl
      go_wp2_with (first
        | (go_at_call 36; ((with_reducible refine (HMAY.out _ A4 m4 c4 HR1.out HM4.out HC4.out HC5.out).mono ?_); rintro e w2 ⟨rfl, hf2⟩; have HZ2 := Lib.hid (HZ1.out.fresh hf2); have HB2 := Lib.hid (HB1.out.fresh hf2); have HN2 := Lib.hid (HN1.out.fresh hf2); have HR2 := Lib.hid (HR1.out.fresh hf2); have HF2 := Lib.hid (HF1.out.trans hf2); clear hf2)))
      have hcv : ∀ q, (convert 22 9 (.slice A4 m4 c4)).run Tryd.prog (w2.drewN q) = .ok (.string sT) (w2.drewN q) := fun q => HST.out _ _ _ _ (HR2.out.fresh (Fresh.drewN w2 q))
      have HCV := Lib.hid hcv
      clear hcv n0 n1
      have n0 := HN2.out.cell (i := 0) rfl
      go_loopw [10] (fun vi wr => ∃ (k q : Nat), vi = .int .i64 (k : Nat) ∧ k ≤ ml ∧ wr = w2.drewN q ∧ Hid (∀ j f, j < k → fs[j]? = some f → f.nm ≠ t)) (fun vi _ => ml - (intOf vi).toNat)
      case atStart => exact ⟨0, 0, rfl, Nat.zero_le _, rfl, Lib.hid (fun j f hj => absurd hj (by omega))⟩
      case round =>
        obtain ⟨k, q, rfl, hk, rfl, HNO⟩ := hrel
        by_cases hlt : k < ml
        · have hkl : k < fs.length := by rw [HFL.out]; exact hlt
          have hgk : fs[k]? = some fs[k] := List.getElem?_eq_getElem hkl
          obtain ⟨g, rfl, _, hgl, hrange⟩ := (HO.out _ HF2.out).at_ fileV_len (by omega) hgk
          generalize fs[k] = f at *
          obtain ⟨fn, fme, fdt, fcr, fcs, fsi, fat⟩ := f
          have hc0 := hrange 0 _ rfl
          rw [Nat.add_zero] at hc0
          have tk : decide ((k : Int) < (ml : Int)) = true := by rw [decide_eq_true_iff]; omega
          have hteq := text_eq fn t
          rw [HSE.out] at hteq
          obtain ⟨sF, hsF⟩ : ∃ s, (⟨fn.toArray⟩ : ByteArray) = s := ⟨_, rfl⟩
          rw [hsF] at hteq hc0
          have hcv := HCV.out
          by_cases hft : fn = t
          · rw [decide_eq_true hft] at hteq
            have hmem : t ∈ fs.map (·.nm) := List.mem_map.2 ⟨_, List.mem_of_getElem? hgk, hft⟩
            have hres := HRES.out
            rw [if_pos hmem] at hres
            subst hres
            have HZD := Lib.hid (fun a => HZ2.out.fresh (Fresh.drewN w2 a))
            have HFD := Lib.hid (fun a => HF2.out.trans (Fresh.drewN w2 a))
            clear hrange hgk hft hmem hkl hsF
            go_wp2
            go_quiet (fail)
            go_wp2_with (first
              | ((with_reducible (refine at_store_ 8 46 ?_)); (refine wpList_store_row (o := ⟨none, _, _, _, _, _⟩) rfl tEnt (.tmp 8) (.tmp 46) rfl g8 #[.string ⟨#[]⟩, iv 0, iv 0, .int .u32 0, iv 0, iv 0, iv 0, iv 7] rfl rfl tEnt _ (HZD.out (q + nq)) (by kernel_rfl) (by rfl) (by kernel_rfl) ?_)))
            exact bodyPost_ret (results_cell_row (p := 8) (by kernel_rfl) _ _ g8 tEnt #[.string ⟨#[]⟩, iv 0, iv 0, .int .u32 0, iv 0, iv 0, iv 0, iv 7] (0, 0) _ rfl ((HZD.out (q + nq)).row _) Tryd.underlying61 rfl (by kernel_rfl)) rfl ⟨(HFD.out (q + nq)).but hgz (But.row _ _ _), rfl⟩
          · rw [decide_eq_false hft] at hteq
            have hno : Hid (∀ j f, j < k + 1 → fs[j]? = some f → f.nm ≠ t) := by
              intro j f hj hf
              by_cases hjk : j = k
              · subst hjk
                rw [hgk] at hf
                injection hf with hf
                subst hf
                exact hft
              · exact HNO.out j f (by omega) hf
            clear hrange hgk hft hkl hsF
            go_wp2
            go_quiet (fail)
            go_wp2
            go_roundw
            case rel => exact ⟨k + 1, _, by go_num, by omega, rfl, hno⟩
            case measure => simp [intOf]; omega
        · obtain rfl : k = ml := by omega
          have hnm : t ∉ fs.map (·.nm) := by
            intro hmem
            obtain ⟨f, hf, hft⟩ := List.mem_map.1 hmem
            obtain ⟨j, hj⟩ := List.mem_iff_getElem?.1 hf
            exact HNO.out j f (by rw [← HFL.out]; exact (List.getElem?_eq_some_iff.1 hj).1) hj hft
          have hres := HRES.out
          rw [if_neg hnm] at hres
          have HZ3 := Lib.hid (HZ2.out.fresh (Fresh.drewN w2 q))
          have HB3 := Lib.hid (HB2.out.fresh (Fresh.drewN w2 q))
          have HN3 := Lib.hid (HN2.out.fresh (Fresh.drewN w2 q))
          have HR3 := Lib.hid (HR2.out.fresh (Fresh.drewN w2 q))
          have HF3 := Lib.hid (HF2.out.trans (Fresh.drewN w2 q))
          have tk : decide ((k : Int) < (k : Int)) = false := by simp
          generalize w2.drewN q = W3 at *
          clear n0 hlt hnm HNO HRES HCV HZ2 HB2 HN2 HR2 HF2 HZ1 HB1 HN1 HR1 HF1 HX1 HZ0 HB0 HF0 HDEC HMAY HO HFL
          have tb4 : ((fl : Int) % 2 == 1) = (fl % 2 == 1) := by rw [Bool.eq_iff_iff, beq_iff_eq, beq_iff_eq]; omega
          have t6 : ((me : Int) != 0) = !(me == 0) := by rw [Bool.eq_iff_iff, bne_iff_ne]; simp
          have t8 : ((me : Int) != 8) = !(me == 8) := by rw [Bool.eq_iff_iff, bne_iff_ne]; simp <;> omega
          have t6e : ((me : Int) == 0) = (me == 0) := by rw [Bool.eq_iff_iff]; simp
          have t7 : ((cs : Int) != (si : Int)) = !(cs == si) := by rw [Bool.eq_iff_iff, bne_iff_ne]; simp <;> omega
          generalize (fl % 2 == 1) = b4 at *
          generalize (me == 0) = b6 at *
          generalize (me == 8) = b8 at *
          generalize (cs == si) = b7 at *
          obtain ⟨bm, hbm⟩ : ∃ b, (b4 || (!b6 && !b8)) = b := ⟨_, rfl⟩
          rw [hbm] at hres
          have HRES := Lib.hid hres
          have k0 := HB3.out.cell (i := 0) rfl
          have k1 := HB3.out.cell (i := 1) rfl
          have HT6 := Lib.hid t6e
          have HT7 := Lib.hid t7
          clear hres t6e t7
          go_upto_region 9 with (fail)
          go_cut [60] (fun v wx => v = .bool bm ∧ wx = W3)
          case first =>
            subst hbm
            cases b4 with
            | true =>
              go_wp2
              go_meet
              exact ⟨rfl, rfl⟩
            | false =>
              cases b6 with
              | true =>
                go_wp2
                go_meet
                exact ⟨rfl, rfl⟩
              | false =>
                cases b8 with
                | true =>
                  go_wp2
                  go_meet
                  exact ⟨rfl, rfl⟩
                | false =>
                  go_wp2
                  go_meet
                  exact ⟨rfl, rfl⟩
          case rest =>
            obtain ⟨rfl, rfl⟩ := hcut
            clear tb4 t6 t8 hbm
            have hres := HRES.out
            cases bm with
            | true =>
              rw [if_pos rfl] at hres
              subst hres
              go_wp2_with (((with_reducible (refine at_store_ 8 61 ?_)); refine wpList_store_row (o := ⟨none, _, _, _, _, _⟩) rfl tEnt (.tmp 8) (.tmp 61) rfl g8 #[.string ⟨#[]⟩, iv 0, iv 0, .int .u32 0, iv 0, iv 0, iv 0, iv 13] rfl rfl tEnt _ HZ3.out (by kernel_rfl) (by rfl) (by kernel_rfl) ?_))
              exact bodyPost_ret (results_cell_row (p := 8) (by kernel_rfl) _ _ g8 tEnt #[.string ⟨#[]⟩, iv 0, iv 0, .int .u32 0, iv 0, iv 0, iv 0, iv 13] (0, 0) _ rfl (HZ3.out.row _) Tryd.underlying61 rfl (by kernel_rfl)) rfl ⟨HF3.out.but hgz (But.row _ _ _), rfl⟩
            | false =>
              rw [if_neg (by simp)] at hres
              have hlo := HLO.out _ HF3.out
              cases hl : loc xs (at_ : Nat) with
              | error k' =>
                rw [hl] at hres hlo
                simp only at hres
                subst hres
                have hk := loc_err_ne hl
                have hkk : ((k' : Int) != 0) = true := by rw [bne_iff_ne]; omega
                have hgot : Calls Tryd.prog 37 #[.slice A n c, .int .i64 (at_ : Nat)] _ fun e w' => Fresh _ w' ∧ e = .returned (.agg #[iv 0, iv 0, iv 0, .int .u32 0, iv 0, iv 0, iv 0, .slice none 0 0, .bool false, iv 0, iv (k' : Nat)]) := hlo
                have HGOT := Lib.hid hgot
                have k6 := HB3.out.cell (i := 6) rfl
                clear hgot hlo hl hk HRES HLO
                go_wp2_with (first
                  | (go_at_call 37; ((with_reducible refine HGOT.out.mono ?_); rintro e w5 ⟨hf5, rfl⟩; have HF5 := Lib.hid ((HF3.out.trans hf5).trans (Fresh.alloc w5 (.cells #[iv 0, iv 0, iv 0, .int .u32 0, iv 0, iv 0, iv 0, .slice none 0 0, .bool false, iv 0, iv (k' : Nat)] tGot))); have HZ5 := Lib.hid ((HZ3.out.fresh hf5).fresh (Fresh.alloc w5 (.cells #[iv 0, iv 0, iv 0, .int .u32 0, iv 0, iv 0, iv 0, .slice none 0 0, .bool false, iv 0, iv (k' : Nat)] tGot))); clear hf5))
                  | ((with_reducible (refine at_store_ 8 71 ?_)); refine wpList_store_row (o := ⟨none, _, _, _, _, _⟩) rfl tEnt (.tmp 8) (.tmp 71) rfl g8 #[.string ⟨#[]⟩, iv 0, iv 0, .int .u32 0, iv 0, iv 0, iv 0, iv (k' : Nat)] rfl rfl tEnt _ HZ5.out (by kernel_rfl) (by rfl) (entz_one _) ?_))
                exact bodyPost_ret (results_cell_row (p := 8) (by kernel_rfl) _ _ g8 tEnt #[.string ⟨#[]⟩, iv 0, iv 0, .int .u32 0, iv 0, iv 0, iv 0, iv (k' : Nat)] (0, 0) _ rfl (HZ5.out.row _) Tryd.underlying61 rfl (by kernel_rfl)) rfl ⟨HF5.out.but hgz (But.row _ _ _), rfl⟩
              | ok x =>
                obtain ⟨⟨fl', me', dt', cr', cs', si', at', nm', wd'⟩, en'⟩ := x
                rw [hl] at hres hlo
                simp only at hres
                have hbd := (loc_ok' hl).1
                have hen' := (loc_ok' hl).2
                simp only at hbd hen'
                rw [hlx] at hen'
                have hgot : Calls Tryd.prog 37 #[.slice A n c, .int .i64 (at_ : Nat)] _ fun e w' => Fresh _ w' ∧ ∃ A5 c5, e = .returned (.agg #[iv (fl' : Nat), iv (me' : Nat), iv (dt' : Nat), .int .u32 (cr' : Nat), iv (cs' : Nat), iv (si' : Nat), iv (at' : Nat), .slice A5 nm'.length c5, .bool wd', iv (en' : Nat), iv 0]) ∧ nm'.length ≤ c5 ∧ c5 ≤ maxLen ∧ RdA w' _ A5 nm'.length (nm'.map bv) := hlo
                have hsm := fun (W : World) (D : Option Addr) (d : Nat) (h1 : Rd W W.heap.size D nm'.length (nm'.map bv)) (h2 : Rd W W.heap.size N L (nm.map bv)) => same_gen D N nm'.length L d nc nm' nm W _ _ h1 h2 (by omega) (by omega) _ rfl
                have t2 := ne_dec me' me
                have t4 := ne_dec cr' cr
                have t5 := ne_dec cs' cs
                have t9 := ne_dec si' si
                have t3 : ((fl' : Int) / 8 % 2 == 0) = (fl' / 8 % 2 == 0) := by rw [Bool.eq_iff_iff, beq_iff_eq, beq_iff_eq]; omega
                generalize decide (nm' = nm) = y1 at *
                generalize decide (me' = me) = y2 at *
                generalize (fl' / 8 % 2 == 0) = y3 at *
                generalize decide (cr' = cr) = y4 at *
                generalize decide (cs' = cs) = y5 at *
                generalize decide (si' = si) = y6 at *
                generalize nm'.length = L' at *
                obtain ⟨d1, hd1⟩ : ∃ b, (!y1 || !y2) = b := ⟨_, rfl⟩
                obtain ⟨d2, hd2⟩ : ∃ b, (y3 && (!y4 || (!y5 || !y6))) = b := ⟨_, rfl⟩
                obtain ⟨d4, hd4⟩ : ∃ b, (b6 && !b7) = b := ⟨_, rfl⟩
                rw [hd1, hd2] at hres
                have HBD8 := Lib.hid hbd.1
                have HGOT := Lib.hid hgot
                have HSM := Lib.hid hsm
                have HR := Lib.hid hres
                have HD1 := Lib.hid hd1
                have HD2 := Lib.hid hd2
                have HD4 := Lib.hid hd4
                have HT2 := Lib.hid t2
                have HT3 := Lib.hid t3
                have HT4 := Lib.hid t4
                have HT5 := Lib.hid t5
                have HT9 := Lib.hid t9
                have HEN := Lib.hid hen'
                have HEN2 := Lib.hid hen
                have HOCS := Lib.hid ocs
                have HNN := Lib.hid hn
                have k6 := HB3.out.cell (i := 6) rfl
                clear hgot hlo hl hbd hen' hsm t2 t3 t4 t5 t9 hd1 hd2 hd4 hres HRES HLO k0 k1
                go_upto_region 12 with (go_at_call 37; ((with_reducible refine HGOT.out.mono ?_); rintro e w5 ⟨hf5, A5, c5, rfl, hl5, hc5, hr5⟩; have hal := Fresh.alloc w5 (.cells #[iv (fl' : Nat), iv (me' : Nat), iv (dt' : Nat), .int .u32 (cr' : Nat), iv (cs' : Nat), iv (si' : Nat), iv (at' : Nat), .slice A5 L' c5, .bool wd', iv (en' : Nat), iv 0] tGot); have HX5 := Lib.hid (hf5.trans hal); have HF5 := Lib.hid (HF3.out.trans HX5.out); have HZ5 := Lib.hid (HZ3.out.fresh HX5.out); have HB5 := Lib.hid (HB3.out.fresh HX5.out); have HN5 := Lib.hid (HN3.out.fresh HX5.out); have HR5 := Lib.hid (HR3.out.fresh HX5.out); have HG5 := Lib.hid (Bk.made w5 tGot #[iv (fl' : Nat), iv (me' : Nat), iv (dt' : Nat), .int .u32 (cr' : Nat), iv (cs' : Nat), iv (si' : Nat), iv (at' : Nat), .slice A5 L' c5, .bool wd', iv (en' : Nat), iv 0]); have HY5 := Lib.hid (hr5.rd.fresh hal); clear hf5 hl5 hc5 hr5 hal))
                generalize w5.alloc (.cells #[.int .i64 (fl' : Nat), .int .i64 (me' : Nat), .int .i64 (dt' : Nat), .int .u32 (cr' : Nat), .int .i64 (cs' : Nat), .int .i64 (si' : Nat), .int .i64 (at' : Nat), .slice A5 L' c5, .bool wd', .int .i64 (en' : Nat), .int .i64 0] tGot) = W5 at *
                generalize w5.heap.size = g5 at *
                clear k6
                have p10 := HG5.out.cell (i := 10) rfl
                have hal6 := Fresh.alloc W5 (.cells #[iv (fl' : Nat), iv (me' : Nat), iv (dt' : Nat), .int .u32 (cr' : Nat), iv (cs' : Nat), iv (si' : Nat), iv (at' : Nat), .slice A5 L' c5, .bool wd'] tHead)
                have HF6 := Lib.hid (HF5.out.trans hal6)
                have HZ6 := Lib.hid (HZ5.out.fresh hal6)
                have HB6 := Lib.hid (HB5.out.fresh hal6)
                have HN6 := Lib.hid (HN5.out.fresh hal6)
                have HR6 := Lib.hid (HR5.out.fresh hal6)
                have HG6 := Lib.hid (HG5.out.fresh hal6)
                have HY6 := Lib.hid (HY5.out.fresh hal6)
                have HX6 := Lib.hid (Bk.made W5 tHead #[iv (fl' : Nat), iv (me' : Nat), iv (dt' : Nat), .int .u32 (cr' : Nat), iv (cs' : Nat), iv (si' : Nat), iv (at' : Nat), .slice A5 L' c5, .bool wd'])
                clear hal6
                go_upto_region 15 with ((with_reducible (refine at_slot_ 73 ?_)); refine wpList_load_mid rfl tHead (.tmp 72) rfl g5 0 rfl [iv (fl' : Nat), iv (me' : Nat), iv (dt' : Nat), .int .u32 (cr' : Nat), iv (cs' : Nat), iv (si' : Nat), iv (at' : Nat), .slice A5 L' c5, .bool wd'] _ (fun j v hj => by rw [Nat.zero_add]; exact HG5.out.cell (by have hj9 : j < 9 := (List.getElem?_eq_some_iff.1 hj).1; rw [← hj]; rcases (show j = 0 ∨ j = 1 ∨ j = 2 ∨ j = 3 ∨ j = 4 ∨ j = 5 ∨ j = 6 ∨ j = 7 ∨ j = 8 by omega) with rfl | rfl | rfl | rfl | rfl | rfl | rfl | rfl | rfl <;> rfl)) Tryd.underlying50 rfl (by kernel_rfl) ?_)
                generalize W5.alloc (.cells #[.int .i64 (fl' : Nat), .int .i64 (me' : Nat), .int .i64 (dt' : Nat), .int .u32 (cr' : Nat), .int .i64 (cs' : Nat), .int .i64 (si' : Nat), .int .i64 (at' : Nat), .slice A5 L' c5, .bool wd'] tHead) = W6 at *
                generalize W5.heap.size = g6 at *
                clear p10
                have hs6 := HSM.out W6 A5 c5 HY6.out ((HNR.out.fresh HF6.out))
                have HS6 := Lib.hid hs6
                clear hs6
                have x7 := HX6.out.cell (i := 7) rfl
                have x1 := HX6.out.cell (i := 1) rfl
                have k7 := HB6.out.cell (i := 7) rfl
                have k1 := HB6.out.cell (i := 1) rfl
                go_cut [86] (fun v wx => v = .bool d1 ∧ Hid (Fresh W6 wx))
                case first =>
                  have hd := HD1.out
                  have t2 := HT2.out
                  subst hd
                  cases y1 with
                  | false =>
                    go_wp2_with (go_at_call 8; ((with_reducible refine HS6.out.mono ?_); rintro e w7 ⟨rfl, hf7⟩; have HF7 := Lib.hid hf7; clear hf7))
                    go_meet
                    exact ⟨rfl, HF7⟩
                  | true =>
                    cases y2 with
                    | false =>
                      go_wp2_with (go_at_call 8; ((with_reducible refine HS6.out.mono ?_); rintro e w7 ⟨rfl, hf7⟩; have HF7 := Lib.hid hf7; have x1' := (HX6.out.fresh hf7).cell (i := 1) rfl; have k1' := (HB6.out.fresh hf7).cell (i := 1) rfl; clear hf7))
                      go_meet
                      exact ⟨rfl, HF7⟩
                    | true =>
                      go_wp2_with (go_at_call 8; ((with_reducible refine HS6.out.mono ?_); rintro e w7 ⟨rfl, hf7⟩; have HF7 := Lib.hid hf7; have x1' := (HX6.out.fresh hf7).cell (i := 1) rfl; have k1' := (HB6.out.fresh hf7).cell (i := 1) rfl; clear hf7))
                      go_meet
                      exact ⟨rfl, HF7⟩
                case rest =>
                  obtain ⟨rfl, hf7⟩ := hcut
                  have HF7 := Lib.hid (HF6.out.trans hf7.out)
                  have HZ7 := Lib.hid (HZ6.out.fresh hf7.out)
                  have HB7 := Lib.hid (HB6.out.fresh hf7.out)
                  have HN7 := Lib.hid (HN6.out.fresh hf7.out)
                  have HR7 := Lib.hid (HR6.out.fresh hf7.out)
                  have HG7 := Lib.hid (HG6.out.fresh hf7.out)
                  have HX7 := Lib.hid (HX6.out.fresh hf7.out)
                  clear x7 x1 k7 k1 hf7 HF6 HZ6 HB6 HN6 HR6 HG6 HX6 HS6 HY6 HF5 HZ5 HB5 HN5 HR5 HG5 HX5 HY5 HSM HGOT HF3 HZ3 HB3 HN3 HR3
                  have hres := HR.out
                  cases d1 with
                  | true =>
                    rw [if_pos rfl] at hres
                    simp only at hres
                    subst hres
                    go_wp2_with (((with_reducible (refine at_store_ 8 87 ?_)); refine wpList_store_row (o := ⟨none, _, _, _, _, _⟩) rfl tEnt (.tmp 8) (.tmp 87) rfl g8 #[.string ⟨#[]⟩, iv 0, iv 0, .int .u32 0, iv 0, iv 0, iv 0, iv 4] rfl rfl tEnt _ HZ7.out (by kernel_rfl) (by rfl) (by kernel_rfl) ?_))
                    exact bodyPost_ret (results_cell_row (p := 8) (by kernel_rfl) _ _ g8 tEnt #[.string ⟨#[]⟩, iv 0, iv 0, .int .u32 0, iv 0, iv 0, iv 0, iv 4] (0, 0) _ rfl (HZ7.out.row _) Tryd.underlying61 rfl (by kernel_rfl)) rfl ⟨HF7.out.but hgz (But.row _ _ _), rfl⟩
                  | false =>
                    rw [if_neg (by simp)] at hres
                    have k3 := HB7.out.cell (i := 3) rfl
                    have k4 := HB7.out.cell (i := 4) rfl
                    have k5 := HB7.out.cell (i := 5) rfl
                    have x0 := HX7.out.cell (i := 0) rfl
                    have x3 := HX7.out.cell (i := 3) rfl
                    have x4 := HX7.out.cell (i := 4) rfl
                    have x5 := HX7.out.cell (i := 5) rfl
                    go_upto_region 17 with (fail)
                    go_cut [113] (fun v wx => v = .bool d2 ∧ wx = wc)
                    case first =>
                      have hd := HD2.out
                      have t3 := HT3.out
                      have t4 := HT4.out
                      have t5 := HT5.out
                      have t9 := HT9.out
                      subst hd
                      clear hres HR
                      have hbr : y3 = false ∨ (y3 = true ∧ y4 = false) ∨ (y3 = true ∧ y4 = true ∧ y5 = false) ∨ (y3 = true ∧ y4 = true ∧ y5 = true ∧ y6 = false) ∨ (y3 = true ∧ y4 = true ∧ y5 = true ∧ y6 = true) := by
                        cases y3 <;> cases y4 <;> cases y5 <;> cases y6 <;> simp
                      have hb8 := HBD8.out
                      rcases hbr with rfl | ⟨rfl, rfl⟩ | ⟨rfl, rfl, rfl⟩ | ⟨rfl, rfl, rfl, rfl⟩ | ⟨rfl, rfl, rfl, rfl⟩
                      all_goals go_wp2
                      all_goals go_meet
                      all_goals exact ⟨rfl, rfl⟩
                    case rest =>
                      obtain ⟨rfl, rfl⟩ := hcut
                      clear k3 k5 x0 x3 x4 x5
                      cases d2 with
                      | true =>
                        rw [if_pos rfl] at hres
                        simp only at hres
                        subst hres
                        go_wp2_with (((with_reducible (refine at_store_ 8 114 ?_)); refine wpList_store_row (o := ⟨none, _, _, _, _, _⟩) rfl tEnt (.tmp 8) (.tmp 114) rfl g8 #[.string ⟨#[]⟩, iv 0, iv 0, .int .u32 0, iv 0, iv 0, iv 0, iv 4] rfl rfl tEnt _ HZ7.out (by kernel_rfl) (by rfl) (by kernel_rfl) ?_))
                        exact bodyPost_ret (results_cell_row (p := 8) (by kernel_rfl) _ _ g8 tEnt #[.string ⟨#[]⟩, iv 0, iv 0, .int .u32 0, iv 0, iv 0, iv 0, iv 4] (0, 0) _ rfl (HZ7.out.row _) Tryd.underlying61 rfl (by kernel_rfl)) rfl ⟨HF7.out.but hgz (But.row _ _ _), rfl⟩
                      | false =>
                        rw [if_neg (by simp)] at hres
                        simp only at hres
                        have p9 := HG7.out.cell (i := 9) rfl
                        have hcmp : (decide ((en' : Int) > (en : Int)) = true ∧ en < en' + cs) ∨ (decide ((en' : Int) > (en : Int)) = false ∧ decide ((cs : Int) > (en : Int) - (en' : Int)) = decide (en < en' + cs)) := by
                          by_cases h : en < en'
                          · exact .inl ⟨by rw [decide_eq_true_iff]; omega, by omega⟩
                          · exact .inr ⟨by rw [decide_eq_false_iff_not]; omega, by rw [decide_eq_decide]; omega⟩
                        have hwr : wrap64 ((en : Int) - (en' : Int)) = (en : Int) - (en' : Int) := by have := HEN.out; have := HEN2.out; have := HNN.out; unfold wrap64; omega
                        obtain ⟨d3, hd3⟩ : ∃ b, decide (en < en' + cs) = b := ⟨_, rfl⟩
                        have hd3' := hd3
                        have HCMP := Lib.hid hcmp
                        have HD3 := Lib.hid hd3'
                        have HRS := Lib.hid hres
                        clear hcmp hd3 hd3' hres HR
                        go_upto_region 19 with (fail)
                        go_cut [127] (fun v wx => v = .bool d3 ∧ wx = wc)
                        case first =>
                          clear HCMP
                          go_wp2
                          all_goals go_meet
                          all_goals refine ⟨?_, rfl⟩
                          all_goals congr 1
                          all_goals rw [← HD3.out, Bool.eq_iff_iff]
                          all_goals simp
                          all_goals omega
                        case rest =>
                          obtain ⟨rfl, rfl⟩ := hcut
                          have hres := HRS.out
                          cases d3 with
                          | true =>
                            have hlt : en < en' + cs := of_decide_eq_true HD3.out
                            rw [if_pos hlt] at hres
                            subst hres
                            clear hlt
                            go_wp2_with (((with_reducible (refine at_store_ 8 128 ?_)); refine wpList_store_row (o := ⟨none, _, _, _, _, _⟩) rfl tEnt (.tmp 8) (.tmp 128) rfl g8 #[.string ⟨#[]⟩, iv 0, iv 0, .int .u32 0, iv 0, iv 0, iv 0, iv 3] rfl rfl tEnt _ HZ7.out (by kernel_rfl) (by rfl) (by kernel_rfl) ?_))
                            exact bodyPost_ret (results_cell_row (p := 8) (by kernel_rfl) _ _ g8 tEnt #[.string ⟨#[]⟩, iv 0, iv 0, .int .u32 0, iv 0, iv 0, iv 0, iv 3] (0, 0) _ rfl (HZ7.out.row _) Tryd.underlying61 rfl (by kernel_rfl)) rfl ⟨HF7.out.but hgz (But.row _ _ _), rfl⟩
                          | false =>
                            have hlt : ¬ en < en' + cs := of_decide_eq_false HD3.out
                            rw [if_neg hlt, HD4.out] at hres
                            have k1 := HB7.out.cell (i := 1) rfl
                            have k5 := HB7.out.cell (i := 5) rfl
                            have HRS2 := Lib.hid hres
                            clear hlt hres HRS HD3 HCMP
                            go_upto_region 21 with (fail)
                            go_cut [138] (fun v wx => v = .bool d4 ∧ wx = wc)
                            case first =>
                              have hd := HD4.out
                              have t6 := HT6.out
                              have t7 := HT7.out
                              subst hd
                              cases b6 with
                              | false =>
                                go_wp2
                                go_meet
                                exact ⟨rfl, rfl⟩
                              | true =>
                                go_wp2
                                go_meet
                                exact ⟨rfl, rfl⟩
                            case rest =>
                              obtain ⟨rfl, rfl⟩ := hcut
                              have hres := HRS2.out
                              cases d4 with
                              | true =>
                                rw [if_pos rfl] at hres
                                subst hres
                                go_wp2_with (((with_reducible (refine at_store_ 8 139 ?_)); refine wpList_store_row (o := ⟨none, _, _, _, _, _⟩) rfl tEnt (.tmp 8) (.tmp 139) rfl g8 #[.string ⟨#[]⟩, iv 0, iv 0, .int .u32 0, iv 0, iv 0, iv 0, iv 14] rfl rfl tEnt _ HZ7.out (by kernel_rfl) (by rfl) (by kernel_rfl) ?_))
                                exact bodyPost_ret (results_cell_row (p := 8) (by kernel_rfl) _ _ g8 tEnt #[.string ⟨#[]⟩, iv 0, iv 0, .int .u32 0, iv 0, iv 0, iv 0, iv 14] (0, 0) _ rfl (HZ7.out.row _) Tryd.underlying61 rfl (by kernel_rfl)) rfl ⟨HF7.out.but hgz (But.row _ _ _), rfl⟩
                              | false =>
                                rw [if_neg (by simp)] at hres
                                subst hres
                                have k2 := HB7.out.cell (i := 2) rfl
                                have k3 := HB7.out.cell (i := 3) rfl
                                have n0 := HN7.out.cell (i := 0) rfl
                                have hcv := HST.out _ A4 m4 c4 HR7.out
                                have hsv : ∀ e : Ending, e = .returned (.agg #[.string sT, iv (me : Nat), iv (dt : Nat), .int .u32 (cr : Nat), iv (cs : Nat), iv (si : Nat), iv (en' : Nat), iv 0]) → e = .returned (.agg (fileV ⟨t, me, dt, cr, cs, si, en'⟩ ++ [iv 0]).toArray) := fun e he => by rw [he, ← HSE.out]; rfl
                                have HSV := Lib.hid hsv
                                clear hsv
                                go_wp2_with (((with_reducible (refine at_store_ 8 156 ?_)); refine wpList_store_row (o := ⟨none, _, _, _, _, _⟩) rfl tEnt (.tmp 8) (.tmp 156) rfl g8 #[.string sT, iv (me : Nat), iv (dt : Nat), .int .u32 (cr : Nat), iv (cs : Nat), iv (si : Nat), iv (en' : Nat), iv 0] rfl rfl tEnt _ HZ7.out (by kernel_rfl) (by rfl) (entf_one _ _ _ _ _ _ _) ?_))
                                exact bodyPost_ret (results_cell_row (p := 8) (by kernel_rfl) _ _ g8 tEnt #[.string sT, iv (me : Nat), iv (dt : Nat), .int .u32 (cr : Nat), iv (cs : Nat), iv (si : Nat), iv (en' : Nat), iv 0] (0, 0) _ rfl (HZ7.out.row _) Tryd.underlying61 rfl (by kernel_rfl)) rfl ⟨HF7.out.but hgz (But.row _ _ _), HSV.out _ rfl⟩
end Go.Proofs.YtmnejphdjnlbjaaDoor.unzp
