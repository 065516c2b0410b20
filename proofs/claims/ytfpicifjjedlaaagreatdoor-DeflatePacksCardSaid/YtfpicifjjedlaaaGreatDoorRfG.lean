import Derived.Test.YtfpicifjjedlaaaGreatDoorMgRfB
/-
  Layer 6's reference: coded. My own text.
-/
namespace Go.Proofs.YtfpicifjjedlaaaGreatDoor.refp
open Go.RowKit Go.Proofs.YtfpicifjjedlaaaGreatDoor.base Go.Proofs.YtfpicifjjedlaaaGreatDoor.num Go.Proofs.YtfpicifjjedlaaaGreatDoor.bitnum Go.Proofs.YtfpicifjjedlaaaGreatDoor.bitp Go.Proofs.YtfpicifjjedlaaaGreatDoor.huffnum Go.Proofs.YtfpicifjjedlaaaGreatDoor.infnum
set_option linter.unusedVariables false
/-- how many bytes came out, as it stands in memory -/
def outAt (W : World) (g : Nat) : Nat := match W.cell? ⟨g, 2, none⟩ with
  | some (.slice _ m _) => m
  | _ => 0
theorem StAt.outAt {w0 W : World} {g U T p : Nat} {out : List UInt8} (h : StAt w0 g U T p out W) : outAt W g = out.length := by
  obtain ⟨O, cO, k, _⟩ := h.got
  unfold refp.outAt
  rw [k]
theorem rstep_append_rd {P : Program} {ops : Array Oper} {o : Oper} {a : Act} {w : World} {K : Act → World → Prop} {Q : Exit → Act → World → Prop} {E : Prop} (hgd : o.guard = none) (s x : Operand) (t : TypeId)
    (ho : o.op = .call { callee := .builtin .append, args := #[s, x], argTypes := #[t, t] })
    (base : Nat) (e : TypeId) (i : TypeInfo) (z : Value) (bytes : Nat) (ht : P.underlying t = some (.slice e)) (hi : P.info? e = some i) (hz : i.zero = some z)
    (hsize : i.size = 1) (hby : i.bytes = bytes) (hzs : z.cells.size = 1)
    (A : Option Addr) (n c : Nat) (xs : List Value) (hs : a.eval s = .slice A n c) (hown : Own w base e A n c xs)
    (B : Nat) (D : Option Addr) (m d : Nat) (news : List Value) (hx : a.eval x = .slice D m d) (hr : Rd w B D m news) (h1 : ∀ u ∈ news, u.oneCell' = true)
    (h63 : n + m ≤ maxLen) (hbytes : (n + m) * bytes ≤ 140737488355328) (hbase : base ≤ w.heap.size)
    (h : ∀ A' c' w', Own w' base e A' (n + m) c' (xs ++ news) → w.grownBy w' (Value.slice A n c).ownBlock → K (a.put o.dst (.slice A' (n + m) c')) w') : if Region.wanted o (yielded ops a.tmps) = true then Oper.wp P o a w K Q else E := by
  have hw : Region.wanted o (yielded ops a.tmps) = true := by simp [Region.wanted, hgd]
  rw [if_pos hw]
  exact wp_append_rd w s x t ho base e i z bytes ht hi hz hsize hby hzs A n c xs hs hown B D m d news hx hr h1 h63 hbytes hbase h
theorem copied_snoc (f : Nat) : ∀ (n : Nat) (o : List UInt8), copied f (n + 1) o = copied f n o ++ [(copied f n o).getD ((copied f n o).length - f) 0]
  | 0, o => rfl
  | n + 1, o => by
    have h := copied_snoc f n (o ++ [o.getD (o.length - f) 0])
    rw [show copied f (n + 1 + 1) o = copied f (n + 1) (o ++ [o.getD (o.length - f) 0]) from rfl, h]
    rfl
theorem less_next {j n : Nat} (h : j < n) : n - ((j : Int) + 1).toNat < n - ((j : Int)).toNat := by omega
theorem row_max {m : Nat} (h : m ≤ 4294967296) : m + 1 ≤ maxLen := by unfold maxLen; omega
theorem row_bytes {m : Nat} (h : m ≤ 4294967296) : (m + 1) * 1 ≤ 140737488355328 := by omega
theorem wrap_succ (j : Nat) (h : j ≤ 4294967296) : IntKind.i64.wrap ((j : Int) + 1) = (j : Int) + 1 ∧ wrap64 ((j : Int) + 1) = (j : Int) + 1 :=
  ⟨by rw [IntWalk.i64_in _ (by omega)], IntWalk.wrap64_in _ ⟨by omega, by omega⟩⟩
theorem then_self (Q : Exit → Act → World → Prop) : Exit.then (Q Exit.normal) Q = Q := by
  funext e a w
  cases e <;> rfl
theorem wp_then {P : Program} {c : Code} {Q : Exit → Act → World → Prop} {a : Act} {w : World} (h : ∀ K, K = Q Exit.normal → c.wp P (Exit.then K Q) a w) : c.wp P Q a w := by
  have h1 := h _ rfl
  rwa [then_self] at h1
set_option maxHeartbeats 8000000 in
set_option maxRecDepth 100000 in
theorem coded_any (w0 : World) (g U T p q most : Nat) (out a : List UInt8) (w : World) (hs : StAt w0 g U T p out w) (la lb : List Nat) (A1 : Option Addr) (n1 c1 : Nat) (A2 : Option Addr) (n2 c2 B : Nat) (hr1 : Rd w B A1 n1 (vn la)) (hr2 : Rd w B A2 n2 (vn lb)) (hB : B ≤ w.heap.size) (hn1 : n1 ≤ 320) (hn2 : n2 ≤ 320)
    (h15a : ∀ x ∈ la, x ≤ 15) (h15b : ∀ x ∈ lb, x ≤ 15) (hta : tx la 15 ≤ 32768) (htb : tx lb 15 ≤ 32768) (hT : T ≤ 4294967296) (hsy : Sy la lb U T out p a q) (hm : a.length ≤ most) (hmm : most ≤ 4294967296) :
    Calls Tryz.prog 21 #[pg g, .agg #[.slice A1 n1 c1, .slice A2 n2 c2], .int .i64 (most : Nat)] w fun e w' => e = .returned (.tuple #[]) ∧ StAt w0 g U T q a w' ∧ KeepX w w' := by
  obtain ⟨i0, hi0, hz0, hz1, hz2⟩ := info_parts info_byte
  have hla : la.length = n1 := by have := hr1.1; rwa [List.length_map] at this
  have hlb : lb.length = n2 := by have := hr2.1; rwa [List.length_map] at this
  have hnew1 := fun V (hV : Fresh w V) => newR_any A1 n1 c1 B la V (hr1.below hV hB) (Nat.le_trans hB hV.size) hn1 h15a hta
  have hnew2 := fun V (hV : Fresh w V) => newR_any A2 n2 c2 B lb V (hr2.below hV hB) (Nat.le_trans hB hV.size) hn2 h15b htb
  obtain ⟨F1, hF1⟩ : ∃ F1 : Nat, (if tx la 15 < 32768 then 1 else 0) = F1 := ⟨_, rfl⟩
  obtain ⟨F2, hF2⟩ : ∃ F2 : Nat, (if tx lb 15 < 32768 then 1 else 0) = F2 := ⟨_, rfl⟩
  rw [hla, hF1] at hnew1
  rw [hlb, hF2] at hnew2
  have hp := Bk.made w tPair #[.slice A1 n1 c1, .slice A2 n2 c2]
  have hfp := Fresh.alloc w (.cells #[.slice A1 n1 c1, .slice A2 n2 c2] tPair)
  have HN1 := Lib.hid hnew1
  have HN2 := Lib.hid hnew2
  have HP := Lib.hid hp
  have HFP := Lib.hid hfp
  have HS := Lib.hid hs
  have HSY := Lib.hid hsy
  have HM := Lib.hid hm
  have HTA := Lib.hid hta
  have HTB := Lib.hid htb
  have H15A := Lib.hid h15a
  have H15B := Lib.hid h15b
  have HLA := Lib.hid hla
  have HLB := Lib.hid hlb
  clear hnew1 hnew2 hp hfp hs hsy hm hr1 hr2 hF1 hF2 hla hlb hta htb h15a h15b
  go_enter Tryz.func21, Tryz.ntmps21
  go_upto_region 3 with (first
    | (go_at_call 42; (with_reducible refine (HN1.out _ HFP.out).mono ?_); rintro e w1 ⟨L1, rfl, hc1, hf1⟩; have kp2 := ((HP.out.fresh hf1).alloc (.cells #[.slice (some ⟨L1, 0, none⟩) n1 n1, .int .i64 (F1 : Nat)] tCodes)).cell (i := 1) rfl; have HC1 := Lib.hid hc1; have HF1 := Lib.hid (HFP.out.trans hf1); clear hc1 hf1)
    | (go_at_call 42; (with_reducible refine (HN2.out _ (HF1.out.trans (Fresh.alloc _ _))).mono ?_); rintro e w2 ⟨L2, rfl, hc2, hf2⟩; have HC2 := Lib.hid hc2; have HF2 := Lib.hid hf2; clear hc2 hf2))
  have hb6 := ((Bk.made w1 tCodes #[.slice (some ⟨L1, 0, none⟩) n1 n1, .int .i64 (F1 : Nat)]).fresh HF2.out).alloc (.cells #[.slice (some ⟨L2, 0, none⟩) n2 n2, .int .i64 (F2 : Nat)] tCodes)
  have hb7 := Bk.made w2 tCodes #[.slice (some ⟨L2, 0, none⟩) n2 n2, .int .i64 (F2 : Nat)]
  have hcr1 := (HC1.out.fresh (Fresh.alloc w1 (.cells #[.slice (some ⟨L1, 0, none⟩) n1 n1, .int .i64 (F1 : Nat)] tCodes))).fresh (HF2.out.trans (Fresh.alloc w2 (.cells #[.slice (some ⟨L2, 0, none⟩) n2 n2, .int .i64 (F2 : Nat)] tCodes)))
  have hcr2 := HC2.out.fresh (Fresh.alloc w2 (.cells #[.slice (some ⟨L2, 0, none⟩) n2 n2, .int .i64 (F2 : Nat)] tCodes))
  have hfb : Fresh w (w2.alloc (.cells #[.slice (some ⟨L2, 0, none⟩) n2 n2, .int .i64 (F2 : Nat)] tCodes)) := (HF1.out.trans (Fresh.alloc _ _)).trans (HF2.out.trans (Fresh.alloc _ _))
  obtain ⟨wb, hwb⟩ : ∃ wb, w2.alloc (.cells #[.slice (some ⟨L2, 0, none⟩) n2 n2, .int .i64 (F2 : Nat)] tCodes) = wb := ⟨_, rfl⟩
  rw [hwb] at hb6 hb7 hcr1 hcr2 hfb ⊢
  have HB6 := Lib.hid hb6
  have HB7 := Lib.hid hb7
  have HCR1 := Lib.hid hcr1
  have HCR2 := Lib.hid hcr2
  have HFB := Lib.hid hfb
  have HSB := Lib.hid (HS.out.fresh hfb)
  clear hb6 hb7 hcr1 hcr2 hfb hwb kp2
  go_loopw [8] (fun _ wr => ∃ (p : Nat) (cur : List UInt8), StAt w0 g U T p cur wr ∧ KeepX wb wr ∧ Hid (Sy la lb U T cur p a q)) (fun _ wr => most - outAt wr g)
  case atStart => exact ⟨p, out, HSB.out, KeepX.refl _, HSY⟩
  case round =>
    obtain ⟨p, cur, hst, hkx, hsy⟩ := hrel
    have hle := sy_len hsy.out
    have hcm : cur.length ≤ most := Nat.le_trans hle HM.out
    have hcl2 : decide ((cur.length : Int) ≤ (most : Int)) = true := by rw [decide_eq_true_iff]; omega
    have k3 := hst.e0
    obtain ⟨O, cO, k2, hown, hgot⟩ := hst.got
    have hold := hst.outAt
    have hbx6 := hkx.bk (by decide) (by decide) HB6.out
    have HBX6 := Lib.hid hbx6
    have HOLD := Lib.hid hold
    have hnx : ∀ s p1, sym la U T p = .ok (s, p1) → Calls Tryz.prog 43 #[pg g, .agg #[.slice (some ⟨L1, 0, none⟩) n1 n1, .int .i64 (F1 : Nat)]] wr fun e w' => e = .returned (.int .i64 (s : Nat)) ∧ StAt w0 g U T p1 cur w' ∧ KeepX wr w' := fun s p1 h => next_any w0 g U T p s p1 cur wr hst la _ (HCR1.out.keep hkx) HTA.out H15A.out (by rw [HLA.out]; exact hn1) hT h
    have HST := Lib.hid hst
    have HKX := Lib.hid hkx
    cases hsy.out with
    | fin h =>
      have HNX := Lib.hid (hnx 256 q h)
      clear hnx hbx6 hold hgot hown hst hkx hsy h
      go_wp2_with (first
        | ((with_reducible refine at_slot_ 34 ?_); refine wpList_load_blk rfl tCodes (.tmp 6) rfl w1.heap.size 0 2 tCodes [.slice (some ⟨L1, 0, none⟩) n1 n1, .int .i64 (F1 : Nat)] rfl HBX6.out (by simp) _ Tryz.underlying91 rfl (by kernel_rfl) ?_)
        | (go_at_call 43; (with_reducible refine HNX.out.mono ?_); rintro e w5 ⟨rfl, hs5, hx5⟩; have k35 := hs5.e0; have HS5 := Lib.hid hs5; have HX5 := Lib.hid (HKX.out.trans hx5); clear hs5 hx5))
      refine bodyPost_ret (results_none rfl _ _ _) rfl ?_
      exact ⟨rfl, HS5.out, (KeepX.fresh HFB.out).trans HX5.out⟩
    | @lit _ _ k _ p1 _ h hk r =>
      have HNX := Lib.hid (hnx k p1 h)
      have HR := Lib.hid r
      have hbx : bv (UInt8.ofNat k) = .int .u8 (k : Nat) := by
        show Value.int .u8 (((UInt8.ofNat k).toNat : Nat) : Int) = _
        rw [UInt8.toNat_ofNat_of_lt' (by show k < 256; exact hk)]
      have HBX := Lib.hid hbx
      have ew : IntKind.u8.wrap (k : Int) = (k : Int) := by
        simp [IntKind.wrap, IntKind.signed, IntKind.bits]
        omega
      have e256 : ((k : Int) == 256) = false := by rw [beq_eq_false_iff_ne]; omega
      have p256 : (k : Int) < 256 := by omega
      clear hnx hbx6 hold hgot hown hst hkx hsy h r hbx
      go_upto_region 7 with (first
        | ((with_reducible refine at_slot_ 34 ?_); refine wpList_load_blk rfl tCodes (.tmp 6) rfl w1.heap.size 0 2 tCodes [.slice (some ⟨L1, 0, none⟩) n1 n1, .int .i64 (F1 : Nat)] rfl HBX6.out (by simp) _ Tryz.underlying91 rfl (by kernel_rfl) ?_)
        | (go_at_call 43; (with_reducible refine HNX.out.mono ?_); rintro e w5 ⟨rfl, hs5, hx5⟩; have k35 := hs5.e0; have HS5 := Lib.hid hs5; have HX5 := Lib.hid (HKX.out.trans hx5); clear hs5 hx5))
      obtain ⟨O5, cO5, k25, hown5, hgot5⟩ := HS5.out.got
      have ho5 := HS5.out.outAt
      obtain ⟨m5, hm5⟩ : ∃ m5, cur.length = m5 := ⟨_, rfl⟩
      rw [hm5] at k25 hown5 hgot5 hcm
      have HM5 := Lib.hid hm5
      have HO5 := Lib.hid hown5
      have HG5 := Lib.hid hgot5
      have hgl := HS5.out.inside
      have hfr5 := HS5.out.fr.size
      clear hown5 hgot5 hm5 hcl2 k2 k3 hle
      go_wp2_with ((with_reducible refine at_slot_ 55 ?_); refine wpList_append_rd _ rfl (.tmp 51) (.tmp 54) 22 rfl w0.heap.size tB i0 _ 1 Tryz.underlying22 hi0 hz0 hz1 hz2 rfl O5 m5 cO5 _ rfl (Own.fresh HO5.out (Fresh.alloc _ _)) (w5.heap.size + 1) (some ⟨w5.heap.size, 0, none⟩) 1 1 [.int .u8 (k : Nat)] rfl (Rd.lit w5 #[.int .u8 (k : Nat)] tB) (one_one _ _) (by unfold maxLen; omega) (by omega) (by simp; omega) ?_; intro A6 c6 w6 hown6 hg6; rw [← HBX.out] at hown6; obtain ⟨z1, z2, z3, z4⟩ := HG5.out _ w6 A6 c6 (UInt8.ofNat k) (Fresh.alloc _ _) hown6 hg6; have HZ3 := Lib.hid z3; have HZ4 := Lib.hid (HX5.out.trans z4); clear hown6 hg6 z3 z4)
      go_roundw
      case rel => exact ⟨p1, cur ++ [UInt8.ofNat k], HZ3.out, HZ4.out, HR⟩
      case measure =>
        rw [HZ3.out.outAt, HOLD.out, List.length_append, List.length_singleton]
        have h1 := sy_len HR.out
        have h2 := HM.out
        rw [List.length_append, List.length_singleton] at h1
        omega
    | @copy _ _ k e d x _ p1 p2 p3 p4 _ h h1 h2 he hd h3 hx h4 h5 r =>
      have hbx7 := HB7.out
      obtain ⟨kk, hkk⟩ : ∃ kk, k - 257 = kk := ⟨_, rfl⟩
      rw [hkk] at he r
      have hkk29 : kk < 29 := by omega
      obtain ⟨nn, hnn⟩ : ∃ nn, longBase.getD kk 0 + e = nn := ⟨_, rfl⟩
      obtain ⟨ff, hff⟩ : ∃ ff, farBase.getD d 0 + x = ff := ⟨_, rfl⟩
      rw [hnn, hff] at r
      rw [hff] at h4 h5
      have hff1 : 1 ≤ ff := by
        have h6 : ∀ j : _root_.Fin 30, 1 ≤ farBase.getD j.1 0 := by decide
        have h7 := h6 ⟨d, by omega⟩
        simp only at h7
        omega
      have hnl := sy_len r
      rw [copied_len] at hnl
      have hnn3 : 3 ≤ nn := by
        have h6 : ∀ j : _root_.Fin 29, 3 ≤ longBase.getD j.1 0 := by decide
        have h7 := h6 ⟨kk, hkk29⟩
        simp only at h7
        omega
      have HN3 := Lib.hid hnn3
      have hlong : ∀ V, StAt w0 g U T p1 cur V → Calls Tryz.prog 44 #[pg g, .int .i64 (kk : Nat)] V fun e' w' => e' = .returned (.int .i64 (nn : Nat)) ∧ StAt w0 g U T p2 cur w' ∧ KeepX V w' := fun V hV => by rw [← hnn]; exact long_any w0 g U T p1 e p2 kk cur V hV hkk29 hT he
      have hnx2 : ∀ V, StAt w0 g U T p2 cur V → KeepX wb V → Calls Tryz.prog 43 #[pg g, .agg #[.slice (some ⟨L2, 0, none⟩) n2 n2, .int .i64 (F2 : Nat)]] V fun e w' => e = .returned (.int .i64 (d : Nat)) ∧ StAt w0 g U T p3 cur w' ∧ KeepX V w' := fun V hV hK => next_any w0 g U T p2 d p3 cur V hV lb _ (HCR2.out.keep hK) HTB.out H15B.out (by rw [HLB.out]; exact hn2) hT hd
      have hfar : ∀ V, StAt w0 g U T p3 cur V → Calls Tryz.prog 45 #[pg g, .int .i64 (d : Nat)] V fun e' w' => e' = .returned (.int .i64 (ff : Nat)) ∧ StAt w0 g U T p4 cur w' ∧ KeepX V w' := fun V hV => by rw [← hff]; exact far_any w0 g U T p3 x p4 d cur V hV (by omega) hT hx
      have HNX := Lib.hid (hnx k p1 h)
      have HLONG := Lib.hid hlong
      have HNX2 := Lib.hid hnx2
      have HFAR := Lib.hid hfar
      have HR := Lib.hid r
      have HNL := Lib.hid hnl
      have e256 : ((k : Int) == 256) = false := by rw [beq_eq_false_iff_ne]; omega
      have p256 : decide ((k : Int) < 256) = false := by rw [decide_eq_false_iff_not]; omega
      have p285 : decide ((k : Int) > 285) = false := by rw [decide_eq_false_iff_not]; omega
      have p286 : decide (285 < (k : Int)) = false := by rw [decide_eq_false_iff_not]; omega
      have p29 : decide ((d : Int) > 29) = false := by rw [decide_eq_false_iff_not]; omega
      have p30 : decide (29 < (d : Int)) = false := by rw [decide_eq_false_iff_not]; omega
      have pf : decide ((ff : Int) > (cur.length : Int)) = false := by rw [decide_eq_false_iff_not]; omega
      have pf2 : decide ((cur.length : Int) < (ff : Int)) = false := by rw [decide_eq_false_iff_not]; omega
      have pf3 : decide ((ff : Int) > 32768) = false := by rw [decide_eq_false_iff_not]; omega
      have pf4 : decide (32768 < (ff : Int)) = false := by rw [decide_eq_false_iff_not]; omega
      have ekk : IntKind.i64.wrap ((k : Int) - 257) = (kk : Int) := by rw [IntWalk.i64_in _ (by omega)]; omega
      have ekk2 : (k : Int) - 257 = (kk : Int) := by omega
      clear hnx hbx6 hbx7 hold hgot hown hst hkx hsy h r hlong hnx2 hfar hkk hnn hff he hd hx hnl
      go_upto_region 18 with (first
        | ((with_reducible refine at_slot_ 34 ?_); refine wpList_load_blk rfl tCodes (.tmp 6) rfl w1.heap.size 0 2 tCodes [.slice (some ⟨L1, 0, none⟩) n1 n1, .int .i64 (F1 : Nat)] rfl HBX6.out (by simp) _ Tryz.underlying91 rfl (by kernel_rfl) ?_)
        | (go_at_call 43; (with_reducible refine HNX.out.mono ?_); rintro e w5 ⟨rfl, hs5, hx5⟩; have k35 := hs5.e0; have HS5 := Lib.hid hs5; have HX5 := Lib.hid (HKX.out.trans hx5); clear hs5 hx5)
        | (go_at_call 44; (with_reducible refine (HLONG.out w5 HS5.out).mono ?_); rintro e w6 ⟨rfl, hs6, hx6⟩; have HS6 := Lib.hid hs6; have HX6 := Lib.hid (HX5.out.trans hx6); have HBX7 := Lib.hid ((HX5.out.trans hx6).bk (by decide) (by decide) HB7.out); clear hs6 hx6)
        | ((with_reducible refine at_slot_ 67 ?_); refine wpList_load_blk rfl tCodes (.tmp 7) rfl w2.heap.size 0 2 tCodes [.slice (some ⟨L2, 0, none⟩) n2 n2, .int .i64 (F2 : Nat)] rfl HBX7.out (by simp) _ Tryz.underlying91 rfl (by kernel_rfl) ?_)
        | (go_at_call 43; (with_reducible refine (HNX2.out w6 HS6.out HX6.out).mono ?_); rintro e w7 ⟨rfl, hs7, hx7⟩; have k37 := hs7.e0; have HS7 := Lib.hid hs7; have HX7 := Lib.hid (HX6.out.trans hx7); clear hs7 hx7)
        | (go_at_call 45; (with_reducible refine (HFAR.out w7 HS7.out).mono ?_); rintro e w8 ⟨rfl, hs8, hx8⟩; have k38 := hs8.e0; obtain ⟨O8, cO8, k28, _, _⟩ := hs8.got; have HS8 := Lib.hid hs8; have HX8 := Lib.hid (HX7.out.trans hx8); clear hs8 hx8))
      clear k3 k2 k35 k37
      go_wp2
      rw [show decide (cur.length < ff) = false by rw [decide_eq_false_iff_not]; omega]
      go_loopw [12] (fun i wr => ∃ (j : Nat), i = .int .i64 (j : Nat) ∧ j ≤ nn ∧ StAt w0 g U T p4 (copied ff j cur) wr ∧ KeepX wb wr) (fun i _ => nn - (intOf i).toNat)
      case atStart => exact ⟨0, rfl, Nat.zero_le _, HS8.out, HX8.out⟩
      case round =>
        rename World => w9
        obtain ⟨j, rfl, hj, hst, hkx⟩ := hrel
        obtain ⟨cur2, hcur2⟩ : ∃ cur2, copied ff j cur = cur2 := ⟨_, rfl⟩
        have hl2 := copied_len ff j cur
        have hsn := copied_snoc ff j cur
        rw [hcur2] at hst hl2 hsn
        have k39 := hst.e0
        have HKX9 := Lib.hid hkx
        have HST9 := Lib.hid hst
        by_cases hlt : j < nn
        · obtain ⟨m2, hm2⟩ : ∃ m2, cur2.length = m2 := ⟨_, rfl⟩
          obtain ⟨O9, cO9, k29, hown9, hgot9⟩ := hst.got
          rw [hm2] at k29 hown9 hgot9 hl2 hsn
          have hm9 : m2 ≤ 4294967296 := by have h1 := HNL.out; have h2 := HM.out; omega
          have hfm : ff ≤ m2 := by omega
          clear hl2
          obtain ⟨ix, hix⟩ : ∃ ix, m2 - ff = ix := ⟨_, rfl⟩
          rw [hix] at hsn
          obtain ⟨b, off, x, rfl, hbb, hxx, hcx⟩ := hown9.rd.at_ (enc := bv) (k := ix) (by omega)
          have hxg : cur2.getD ix 0 = x := by rw [List.getD_eq_getElem?_getD, hxx]; rfl
          rw [hxg] at hsn
          have fa1 : Fresh w9 w9.drew := Fresh.drew _
          have fa2 : Fresh w9 (w9.alloc (.cells #[bv x] tB)).drew := (Fresh.alloc _ _).trans (Fresh.drew _)
          have c1 : w9.drew.cell? ⟨b, off + ix, none⟩ = some (bv x) := hcx
          have c2 : w9.drew.cell? ⟨g, 2, none⟩ = some (.slice (some ⟨b, off, none⟩) m2 cO9) := k29
          obtain ⟨_, _, c4, _, _⟩ := (hst.fresh fa2).got
          have c4b : (w9.alloc (.cells #[bv x] tB)).drew.cell? ⟨g, 2, none⟩ = some (.slice (some ⟨b, off, none⟩) m2 cO9) := (World.cell?_of_block (fa2.block g hst.inside)).trans k29
          have hwz : w0.heap.size ≤ (w9.alloc (.cells #[bv x] tB)).drew.heap.size := by have h1 := fa2.size; have h2 := hst.fr.size; omega
          have eix : IntKind.i64.wrap (ix : Int) = (ix : Int) := by rw [IntWalk.i64_in _ (by omega)]
          have eix2 : (m2 : Int) - (ff : Int) = (ix : Int) := by omega
          have pix : (ix : Int) < (m2 : Int) := by omega
          have pix0 : (0 : Int) ≤ (ix : Int) := by omega
          have HO9 := Lib.hid hown9
          have HG9 := Lib.hid hgot9
          have HSN := Lib.hid hsn
          have p0 : (j : Int) < (nn : Int) := by omega
          clear hown9 hgot9 hsn hcx hxg hcur2 hst hkx hxx c4 hix
          go_wp2
          refine wp_then ?_
          intro K2 hK2
          go_cut [] from 120 to 141 (fun wx => StAt w0 g U T p4 (cur2 ++ [x]) wx ∧ KeepX wb wx)
          case first =>
            go_region_law ((with_reducible refine rst_slot_ 139 ?_); refine rstep_append_rd (by rfl) (.tmp 124) (.tmp 138) 22 (by rfl) w0.heap.size tB i0 _ 1 Tryz.underlying22 hi0 hz0 hz1 hz2 rfl _ m2 cO9 (cur2.map bv) (by rfl) (HO9.out.fresh fa2) (w9.heap.size + 1) (some ⟨w9.heap.size, 0, none⟩) 1 1 [bv x] (by rfl) ((Rd.lit w9 #[bv x] tB).keep (fun _ _ => rfl)) (one_one _ _) (row_max hm9) (row_bytes hm9) hwz ?_; intro A4 c4 w4 hown4 hg4; obtain ⟨z1, z2, z3, z4⟩ := HG9.out _ w4 A4 c4 x fa2 hown4 hg4; have HZ3 := Lib.hid z3; have HZ4 := Lib.hid (HKX9.out.trans z4); clear hown4 hg4 z3 z4)
            all_goals go_wp2
            all_goals go_meet
            all_goals exact ⟨HZ3.out, HZ4.out⟩
          case rest =>
            obtain ⟨z3, z4⟩ := hcut
            have HZ3 := Lib.hid z3
            have HZ4 := Lib.hid z4
            subst hK2
            clear z3 z4
            have hjb : j ≤ 4294967296 := Nat.le_trans hj (Nat.le_trans (Nat.le_trans (Nat.le_add_left _ _) HNL.out) (Nat.le_trans HM.out hmm))
            obtain ⟨ej, ej2⟩ := wrap_succ j hjb
            go_wp2
            go_roundw
            case rel => exact ⟨j + 1, congrArg (Value.int .i64) (Int.natCast_succ j).symm, hlt, by rw [HSN.out]; exact HZ3.out, HZ4.out⟩
            case measure => exact less_next hlt
        · obtain rfl : j = nn := by omega
          have p0 : decide ((j : Int) < (j : Int)) = false := by simp
          clear hl2 hsn
          go_wp2
          go_roundw
          case rel => exact ⟨p4, cur2, HST9.out, HKX9.out, by rw [← hcur2]; exact HR⟩
          case measure =>
            rw [HST9.out.outAt, HOLD.out, ← hcur2, copied_len]
            have h1 := HNL.out
            have h2 := HM.out
            have h3 := HN3.out
            omega
end Go.Proofs.YtfpicifjjedlaaaGreatDoor.refp
