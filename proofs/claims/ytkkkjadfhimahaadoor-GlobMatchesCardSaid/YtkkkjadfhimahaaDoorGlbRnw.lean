/-
  Layer 13's reference: New. My own text.
-/
import Derived.Test.YtkkkjadfhimahaaDoorGlbRma
import Derived.Test.YtkkkjadfhimahaaDoorGlbNew
import Derived.Test.YtkkkjadfhimahaaDoorNamRead
import Derived.Test.YtkkkjadfhimahaaDoorNamStr
import Derived.Test.YtkkkjadfhimahaaDoorGlbEq
namespace Go.Proofs.YtkkkjadfhimahaaDoor.glbp
open Go.RowKit Go.Proofs.YtkkkjadfhimahaaDoor.base Go.Proofs.YtkkkjadfhimahaaDoor.nam Go.Proofs.YtkkkjadfhimahaaDoor.namp Go.Proofs.YtkkkjadfhimahaaDoor.glb
set_option linter.unusedVariables false
theorem rpartInfo : (Tryd.prog.info? tRPart).map (fun i => (i.zero, i.size, i.bytes)) = some (some (.agg #[iv 0, iv 0, .bool false, nilS, nilS]), 5, 72) := by kernel_rfl
/-- parts in a row that is the call's own -/
def RRow (w : World) (base : Nat) (A : Option Addr) (k c : Nat) (ps : List Pt) : Prop :=
  ∃ vs : List RPart, OwnK w base tRPart 5 A k c RPart.val vs ∧ vs.length = k ∧ ps.length = k ∧ ∀ (j : Nat) (v : RPart) (p : Pt), vs[j]? = some v → ps[j]? = some p → RPtV w v p
theorem RRow.fresh {w w' : World} {base k c : Nat} {A : Option Addr} {ps : List Pt} (h : RRow w base A k c ps) (hf : Fresh w w') : RRow w' base A k c ps := by
  obtain ⟨vs, h1, h2, h3, h4⟩ := h
  exact ⟨vs, h1.fresh hf, h2, h3, fun j v p hv hp => (h4 j v p hv hp).keep (KeepT.fresh hf)⟩
theorem RRow.but {w w' : World} {base k c g : Nat} {A : Option Addr} {ps : List Pt} {cs : List Value} {t : TypeId} (h : RRow w base A k c ps) (hb : But g w w') (hg : Bk w g t cs) (h1 : t ≠ tRPart) (h2 : t ≠ tInt) : RRow w' base A k c ps := by
  obtain ⟨vs, k1, k2, k3, k4⟩ := h
  exact ⟨vs, k1.but hb (k1.ne hg (fun e => h1 e.symm)), k2, k3, fun j v p hv hp => (k4 j v p hv hp).keep (KeepT.but hb hg h2)⟩
theorem RRow.pts {w : World} {base k c : Nat} {A : Option Addr} {ps : List Pt} (h : RRow w base A k c ps) : RPts w A k ps := by
  obtain ⟨vs, h1, h2, h3, h4⟩ := h
  exact ⟨vs, h2, h3, RdT.of_own h1 rval_len, h4⟩
theorem RRow.nil (w : World) (base : Nat) : RRow w base none 0 0 [] := ⟨[], OwnK.nil _ _ _ _ _, rfl, rfl, fun j v p hv => by simp at hv⟩
/-- 'append(g.L, p)' -/
theorem wpList_append_rpart (w : World) {ops : Array Oper} {rest : List Oper} {o : Oper} {a : Act} {Q : Exit → Act → World → Prop} (hgd : o.guard = none) (s x : Operand)
    (ho : o.op = .call { callee := .builtin .append, args := #[s, x], argTypes := #[28, 28] })
    (base : Nat) (A : Option Addr) (k c : Nat) (ps : List Pt) (hs : a.eval s = .slice A k c) (hrow : RRow w base A k c ps)
    (g : Nat) (v : RPart) (p : Pt) (hx : a.eval x = .slice (some ⟨g, 0, none⟩) 1 1) (hg : Bk w g tRPart v.val) (hv : RPtV w v p) (hk : k ≤ 4294967296) (hbase : base ≤ w.heap.size)
    (h : ∀ A' c' w', RRow w' base A' (k + 1) c' (ps ++ [p]) → (∀ (q : Nat) (t : TypeId) (cs : List Value), t ≠ tRPart → Bk w q t cs → Bk w' q t cs) → (∀ q, Fresh q w → q.heap.size ≤ base → Fresh q w') → wpList Tryd.prog ops Q rest (a.put o.dst (.slice A' (k + 1) c')) w') : wpList Tryd.prog ops Q (o :: rest) a w := by
  obtain ⟨i0, hi0, hz0, hz1, hz2⟩ := info_parts rpartInfo
  obtain ⟨vs, h1, h2, h3, h4⟩ := hrow
  refine wpList_append_cells w hgd s x 28 ho base tRPart i0 _ 5 72 Tryd.underlying28 hi0 hz0 hz1 hz2 rfl (by omega) RPart.val A k c vs hs h1 g v hx hg (rval_len v) (fun u hu => by simp [RPart.val] at hu; rcases hu with rfl | rfl | rfl | rfl | rfl <;> rfl) (by omega) (by omega) hbase ?_
  intro A' c' w' ho' hg' _
  have hkt : KeepT tInt w w' := KeepT.own hg' h1 (by decide)
  refine h A' c' w' ⟨vs ++ [v], ho', by rw [List.length_append, h2]; rfl, by rw [List.length_append, h3]; rfl, fun j u q hu hq => ?_⟩ (fun q t cs ht hb => hb.grown hg' (h1.ne hb (fun e => ht e.symm))) (fun q hq hb => OwnK.append h1 hq hb hg')
  by_cases hj : j < k
  · rw [List.getElem?_append_left (by omega)] at hu hq
    exact (h4 j u q hu hq).keep hkt
  · rw [List.getElem?_append_right (by omega)] at hu hq
    rw [h2] at hu
    rw [h3] at hq
    cases hjk : j - k with
    | zero =>
      rw [hjk] at hu hq
      simp at hu hq
      subst hu; subst hq
      exact hv.keep hkt
    | succ i => rw [hjk] at hu; simp at hu
/-- what the reference's New tells -/
def RNewIs (r : Option (List Pt)) (w : World) (e : Ending) (w' : World) : Prop := match r with
  | none => e = .returned (.agg #[nilS, iv 4]) ∧ Fresh w w'
  | some ps => ∃ A k c, e = .returned (.agg #[.slice A k c, iv 0]) ∧ k ≤ 1000 ∧ RPts w' A k ps ∧ Fresh w w'
theorem rnew_none {r : Option (List Pt)} {w w' : World} (hr : r = none) (h : Fresh w w') : RNewIs r w (.returned (.agg #[nilS, iv 4])) w' := by
  subst hr
  exact ⟨rfl, h⟩
theorem rnew_some {r : Option (List Pt)} {ps : List Pt} {A : Option Addr} {k c : Nat} {w w' : World} (hr : r = some ps) (hk : k ≤ 1000) (hp : RPts w' A k ps) (h : Fresh w w') : RNewIs r w (.returned (.agg #[.slice A k c, iv 0])) w' := by
  subst hr
  exact ⟨A, k, c, rfl, hk, hp, h⟩
theorem rpt_const (w : World) (p : Pt) (h : spn p = []) : RPtV w ⟨kd p, rv1 p, ng p, 0, none, 0, none, 0⟩ p := by
  refine ⟨rfl, rfl, rfl, by rw [h]; rfl, Nat.zero_le _, ?_, ?_⟩
  · rw [h]; exact RdT.nil _ _ _
  · rw [h]; exact RdT.nil _ _ _
theorem refNew_long (s : ByteArray) (w : World) (hm : 100 < s.size) :
    Calls Tryd.prog 11 #[.string s] w fun e w' => e = .returned (.agg #[nilS, iv 10]) ∧ Fresh w w' := by
  have t1 : decide ((s.size : Int) > 100) = true := by rw [decide_eq_true_iff]; omega
  have t2 : decide (100 < (s.size : Int)) = true := by rw [decide_eq_true_iff]; omega
  have HB := Lib.hid (Bk.made w tRGlob #[nilS, iv 0])
  clear hm
  go_enter Tryd.func11, Tryd.ntmps11
  go_wp2_with ((with_reducible refine at_store_ 2 13 ?_); refine wpList_store_blk rfl _ _ _ rfl w.heap.size 0 tRGlob _ [nilS, iv 10] rfl rfl HB.out (by simp) (by intro v hv; simp at hv; rcases hv with rfl | rfl <;> rfl) (by kernel_rfl) ?_; intro w9 hb9 hbut9; have HB9 := Lib.hid hb9; have HU9 := Lib.hid hbut9; clear hb9 hbut9)
  exact bodyPost_ret (results_cell_row (p := 2) (by kernel_rfl) _ _ w.heap.size tRGlob #[nilS, iv 10] (0, 0) _ rfl HB9.out Tryd.underlying30 rfl (by kernel_rfl)) rfl ⟨rfl, Fresh.but (Fresh.alloc _ _) (Nat.le_refl _) HU9.out⟩
theorem prs_go {rs : List Nat} {done : List Pt} {at_ d : Nat} {p : Pt} (h : prs rs = (prs (rs.drop at_)).map (done ++ ·)) (hp : prt (rs.drop at_) = some (p, d)) : prs rs = (prs (rs.drop (at_ + d))).map ((done ++ [p]) ++ ·) := by
  rw [h, prs_step hp, Option.map_map, List.drop_drop]
  congr 1
  funext q
  simp
theorem prs_stop {rs : List Nat} {done : List Pt} {at_ : Nat} (h : prs rs = (prs (rs.drop at_)).map (done ++ ·)) (h0 : at_ < rs.length) (hp : prt (rs.drop at_) = none) : prs rs = none := by
  rw [h, prs_bad (fun e => ?_) hp]
  · rfl
  · have := congrArg List.length e
    rw [List.length_drop] at this
    simp at this
    omega
/-- how far New has come -/
def NSt (w w2 : World) (X gg base : Nat) (A : Option Addr) (k c : Nat) (done : List Pt) (W : World) : Prop :=
  Bk W X tRGlob [nilS, iv 0] ∧ Bk W gg tRGlob [.slice A k c, iv 0] ∧ RRow W base A k c done ∧ Fresh w W ∧ Fresh w2 W
section
variable {w w2 W V w4 : World} {X gg base k c c' : Nat} {A A' : Option Addr} {done : List Pt} {p : Pt}
theorem NSt.fresh (h : NSt w w2 X gg base A k c done W) (hf : Fresh W V) : NSt w w2 X gg base A k c done V :=
  ⟨h.1.fresh hf, h.2.1.fresh hf, h.2.2.1.fresh hf, h.2.2.2.1.trans hf, h.2.2.2.2.trans hf⟩
theorem NSt.grow (h : NSt w w2 X gg base A k c done V) (hXg : X ≠ gg) (hw : w.heap.size ≤ gg) (hw2 : w2.heap.size ≤ gg) (hgb : gg ≤ base)
    (h1 : RRow w4 base A' (k + 1) c' (done ++ [p])) (h2 : ∀ (q : Nat) (t : TypeId) (cs : List Value), t ≠ tRPart → Bk V q t cs → Bk w4 q t cs) (h3 : ∀ q, Fresh q V → q.heap.size ≤ base → Fresh q w4) :
    w4.cell? ⟨gg, 0, none⟩ = some (.slice A k c) ∧ w4.frozen? ⟨gg, 0, none⟩ = false ∧ NSt w w2 X gg base A' (k + 1) c' (done ++ [p]) (w4.setCell ⟨gg, 0, none⟩ (.slice A' (k + 1) c')) := by
  obtain ⟨hX, hg, hr, hf, hf2⟩ := h
  have hg4 := h2 _ _ _ (by decide) hg
  have hX4 := h2 _ _ _ (by decide) hX
  exact ⟨hg4.cell (i := 0) rfl, hg4.free 0, hX4.apart (p := ⟨gg, 0, none⟩) hXg _, hg4.put 0 _, h1.but (But.put _ _) hg4 (by decide) (by decide), Fresh.but (h3 w hf (Nat.le_trans hw hgb)) hw (But.put _ _), Fresh.but (h3 w2 hf2 (Nat.le_trans hw2 hgb)) hw2 (But.put _ _)⟩
end
/-- New, whole -/
theorem read_good (rs : List Nat) (hrn : ∀ r ∈ rs, Rn r) (A : Option Addr) (n0 c : Nat) (w : World) (hr : Rd w w.heap.size A n0 ((tx rs ++ []).map bv)) (hm : n0 ≤ 4294967296) (hc : n0 ≤ c) (hcm : c ≤ maxLen) :
    Calls Tryd.prog 17 #[.slice A n0 c] w fun e w' => ∃ L cL, e = .returned (.agg #[.slice L rs.length cL, .bool true]) ∧ Fresh w w' ∧ rs.length ≤ cL ∧ Rd w' w'.heap.size L rs.length (ir rs) := by
  refine (read_any A n0 c _ rs [] rfl hrn (.inl rfl) w w.heap.size hr (Nat.le_refl _) hm hc hcm).mono ?_
  rintro e w' ⟨L, m, cL, rfl, hf, hmc, h⟩
  obtain ⟨rfl, h2⟩ := h rfl
  exact ⟨L, cL, rfl, hf, hmc, h2⟩
set_option maxHeartbeats 8000000 in
set_option maxRecDepth 100000 in
theorem refNew_any (s : ByteArray) (rs : List Nat) (u : List UInt8) (hs : s.data.toList = tx rs ++ u) (hrn : ∀ r ∈ rs, Rn r) (hu : u = [] ∨ Bad u) (w : World) (hm : s.size ≤ 100) :
    Calls Tryd.prog 11 #[.string s] w (RNewIs (prsT rs u) w) := by
  have t1 : decide ((s.size : Int) > 100) = false := by rw [decide_eq_false_iff_not]; omega
  have t2 : decide (100 < (s.size : Int)) = false := by rw [decide_eq_false_iff_not]; omega
  have HB := Lib.hid (Bk.made w tRGlob #[nilS, iv 0])
  obtain ⟨n0, hn0⟩ : ∃ n0, (tx rs ++ u).length = n0 := ⟨_, rfl⟩
  have hsz : s.size = n0 := by rw [← hn0, ← hs]; exact (Array.length_toList (xs := s.data)).symm
  have hlen : rs.length ≤ n0 := by
    have h1 := tx_le rs
    rw [← hn0, List.length_append]
    omega
  have hd0 : n0 ≤ 100 := by omega
  have HS := Lib.hid hs
  have HN0 := Lib.hid hn0
  cases hb : decide (u = []) with
  | false =>
    have hp : prsT rs u = none := if_neg (of_decide_eq_false hb)
    have hread : ∀ A c w', Rd w' w'.heap.size A n0 ((tx rs ++ u).map bv) → n0 ≤ c → c ≤ maxLen → Calls Tryd.prog 17 #[.slice A n0 c] w' fun e w'' => ∃ A1 m1 c1, e = .returned (.agg #[.slice A1 m1 c1, .bool false]) ∧ Fresh w' w'' := fun A c w' h1 h2 h3 => read_is rs u hrn hu false hb A n0 c w'.heap.size w' h1 (Nat.le_refl _) (by omega) h2 h3
    have HREAD := Lib.hid hread
    have HP := Lib.hid hp
    clear hp hread hs hn0 hsz hlen hb hrn hu hm
    go_enter Tryd.func11, Tryd.ntmps11
    go_wp2_with (first
      | ((with_reducible refine at_slot_ 15 ?_); refine wpList_bytes_of rfl 9 45 5 _ rfl Tryd.underlying9 Tryd.underlying45 Tryd.underlying5 s rfl _ HS.out n0 HN0.out (by unfold maxLen; omega) ?_; intro L0 c0 w1 hf1 hr1 hc1 hm1; have HF1 := Lib.hid hf1; have HR1 := Lib.hid hr1; have HC1 := Lib.hid hc1; have HM1 := Lib.hid hm1; clear hf1 hr1 hc1 hm1)
      | (go_at_call 17; (with_reducible refine (HREAD.out L0 c0 w1 HR1.out HC1.out HM1.out).mono ?_); rintro e w2 ⟨A1, m1, c1, rfl, hf2⟩; have HF2 := Lib.hid hf2; clear hf2)
      | ((with_reducible refine at_store_ 2 20 ?_); refine wpList_store_blk rfl _ _ _ rfl w.heap.size 0 tRGlob _ [nilS, iv 4] rfl rfl (((HB.out.fresh HF1.out).fresh HF2.out).alloc _) (by simp) (by intro v hv; simp at hv; rcases hv with rfl | rfl <;> rfl) (by kernel_rfl) ?_; intro w9 hb9 hbut9; have HB9 := Lib.hid hb9; have HU9 := Lib.hid hbut9; clear hb9 hbut9))
    exact bodyPost_ret (results_cell_row (p := 2) (by kernel_rfl) _ _ w.heap.size tRGlob #[nilS, iv 4] (0, 0) _ rfl HB9.out Tryd.underlying30 rfl (by kernel_rfl)) rfl (rnew_none HP.out (Fresh.but ((Fresh.alloc _ _).trans (HF1.out.trans (HF2.out.trans (Fresh.alloc _ _)))) (Nat.le_refl _) HU9.out))
  | true =>
    obtain rfl : u = [] := of_decide_eq_true hb
    have hp : prsT rs [] = prs rs := if_pos rfl
    rw [hp]
    have hread := read_good rs hrn
    obtain ⟨n, hn⟩ : ∃ n, rs.length = n := ⟨_, rfl⟩
    rw [hn] at hlen hread
    have HREAD := Lib.hid hread
    have HN := Lib.hid hn
    clear hp hread hs hn0 hsz hb hrn hu hm hn
    go_enter Tryd.func11, Tryd.ntmps11
    go_upto_region 4 with (first
      | ((with_reducible refine at_slot_ 15 ?_); refine wpList_bytes_of rfl 9 45 5 _ rfl Tryd.underlying9 Tryd.underlying45 Tryd.underlying5 s rfl _ HS.out n0 HN0.out (by unfold maxLen; omega) ?_; intro L0 c0 w1 hf1 hr1 hc1 hm1; have HF1 := Lib.hid hf1; have HR1 := Lib.hid hr1; have HC1 := Lib.hid hc1; have HM1 := Lib.hid hm1; clear hf1 hr1 hc1 hm1)
      | (go_at_call 17; (with_reducible refine (HREAD.out L0 n0 c0 w1 HR1.out (by omega) HC1.out HM1.out).mono ?_); rintro e w2 ⟨L, cL, rfl, hf2, hc2, hr2⟩; have HF2 := Lib.hid (((Fresh.alloc w _).trans HF1.out).trans hf2); have HB2 := Lib.hid ((HB.out.fresh HF1.out).fresh hf2); have HC2 := Lib.hid hc2; have HR2 := Lib.hid hr2; clear hf2 hc2 hr2))
    have hww := HF2.out.size
    have hc2 := HC2.out
    have hst0 : NSt w w2 w.heap.size (w2.heap.size + 1) (w2.heap.size + 2) none 0 0 [] ((w2.alloc (.cells #[.slice L n cL, .bool true] tRunes)).alloc (.cells #[nilS, iv 0] tRGlob)) := by
      have h1 := Bk.made (w2.alloc (.cells #[.slice L n cL, .bool true] tRunes)) tRGlob #[nilS, iv 0]
      have h2 : (w2.alloc (.cells #[.slice L n cL, .bool true] tRunes)).heap.size = w2.heap.size + 1 := by simp
      rw [h2] at h1
      exact ⟨(HB2.out.alloc _).alloc _, h1, RRow.nil _ _, HF2.out.trans ((Fresh.alloc _ _).trans (Fresh.alloc _ _)), (Fresh.alloc _ _).trans (Fresh.alloc _ _)⟩
    have HST0 := Lib.hid hst0
    clear hst0
    go_wp2
    go_loopw [6] (fun v wr => ∃ (at_ k c : Nat) (A : Option Addr) (done : List Pt), v = .int .i64 (at_ : Nat) ∧ at_ ≤ n ∧ k ≤ at_ ∧ NSt w w2 w.heap.size (w2.heap.size + 1) (w2.heap.size + 2) A k c done wr ∧ Hid (prs rs = (prs (rs.drop at_)).map (done ++ ·))) (fun v _ => n - (intOf v).toNat)
    case atStart =>
      refine ⟨0, 0, 0, none, [], rfl, Nat.zero_le _, Nat.zero_le _, HST0.out, ?_⟩
      show prs rs = _
      cases h : prs rs <;> simp [h]
    case round =>
      obtain ⟨at_, k, c, A, done, rfl, hat, hk, hst, hprs⟩ := hrel
      have dk := hst.2.1.cell (i := 0) rfl
      have hsize := hst.2.2.2.2.size
      have hgi := hst.2.1.inside
      have hrd := HR2.out.below hst.2.2.2.2 (Nat.le_refl _)
      have HST := Lib.hid hst
      have ea : IntKind.i64.wrap ((at_ : Int) + 1) = ((at_ + 1 : Nat) : Int) := by rw [IntWalk.i64_in _ (by omega)]; omega
      have ea2 : IntKind.i64.wrap ((at_ : Int) + 2) = ((at_ + 2 : Nat) : Int) := by rw [IntWalk.i64_in _ (by omega)]; omega
      clear hst
      by_cases h0 : at_ < n
      · have p1 : (at_ : Int) < (n : Int) := by omega
        obtain ⟨b, off, x, rfl, hb, hx, hcx⟩ := hrd.at_ h0
        have HRD := Lib.hid hrd
        clear hrd
        have hd1 := drop_head hx
        have hnl : at_ < rs.length := by rw [HN.out]; exact h0
        by_cases h63 : x = 63
        · subst h63
          have hp : prt (rs.drop at_) = some (.one, 1) := by rw [hd1]; rfl
          have HP := Lib.hid hp
          clear hp hd1 hx
          go_wp2_with ((with_reducible refine at_slot_ 38 ?_); refine wpList_append_rpart _ rfl (.tmp 35) (.tmp 37) rfl (w2.heap.size + 2) A k c done rfl (HST.out.fresh (Fresh.alloc wr _)).2.2.1 wr.heap.size ⟨1, 0, false, 0, none, 0, none, 0⟩ .one rfl (Bk.made wr tRPart #[iv 1, iv 0, .bool false, nilS, nilS]) (rpt_const _ .one rfl) (by omega) (by simp; omega) ?_; intro A4 c4 w4 h1 h2 h3; obtain ⟨d1, d2, hd3⟩ := (HST.out.fresh (Fresh.alloc wr _)).grow (by omega) (by omega) (by omega) (by omega) h1 h2 h3; have HD3 := Lib.hid hd3; clear h1 h2 h3 hd3)
          go_roundw
          case rel => exact ⟨at_ + 1, k + 1, c4, A4, done ++ [.one], rfl, by omega, by omega, HD3.out, prs_go hprs.out HP.out⟩
          case measure => simp [intOf]; omega
        · have q1 : ((x : Int) == 63) = false := by rw [beq_eq_false_iff_ne]; omega
          by_cases h42 : x = 42
          · subst h42
            have hp0 : prt (rs.drop at_) = if beg (rs.drop (at_ + 1)) 42 = true then some (.all, 2) else some (.star, 1) := by rw [hd1, prt, if_neg (by decide), if_pos rfl]
            by_cases h1 : at_ + 1 < n
            · obtain ⟨b', off', y, e', hb', hy, hcy⟩ := HRD.out.at_ h1
              injection e' with e'
              injection e' with e2 e3 _
              subst e2; subst e3
              have p2 : (at_ : Int) + 1 < (n : Int) := by omega
              have p3 : ((at_ + 1 : Nat) : Int) < (n : Int) := by omega
              rw [beg_at hy] at hp0
              by_cases hy2 : y = 42
              · subst hy2
                have hp : prt (rs.drop at_) = some (.all, 2) := by rw [hp0, if_pos (decide_eq_true rfl)]
                have HP := Lib.hid hp
                clear hp hd1 hx hp0 hy
                go_wp2_with ((with_reducible refine at_slot_ 63 ?_); refine wpList_append_rpart _ rfl (.tmp 60) (.tmp 62) rfl (w2.heap.size + 2) A k c done rfl (HST.out.fresh (Fresh.alloc wr _)).2.2.1 wr.heap.size ⟨3, 0, false, 0, none, 0, none, 0⟩ .all rfl (Bk.made wr tRPart #[iv 3, iv 0, .bool false, nilS, nilS]) (rpt_const _ .all rfl) (by omega) (by simp; omega) ?_; intro A4 c4 w4 h1 h2 h3; obtain ⟨d1, d2, hd3⟩ := (HST.out.fresh (Fresh.alloc wr _)).grow (by omega) (by omega) (by omega) (by omega) h1 h2 h3; have HD3 := Lib.hid hd3; clear h1 h2 h3 hd3)
                go_roundw
                case rel => exact ⟨at_ + 2, k + 1, c4, A4, done ++ [.all], rfl, by omega, by omega, HD3.out, prs_go hprs.out HP.out⟩
                case measure => simp [intOf]; omega
              · have q2 : ((y : Int) == 42) = false := by rw [beq_eq_false_iff_ne]; omega
                have hp : prt (rs.drop at_) = some (.star, 1) := by rw [hp0, decide_eq_false hy2, if_neg (by decide)]
                have HP := Lib.hid hp
                clear hp hd1 hx hp0 hy
                go_wp2_with ((with_reducible refine at_slot_ 73 ?_); refine wpList_append_rpart _ rfl (.tmp 70) (.tmp 72) rfl (w2.heap.size + 2) A k c done rfl (HST.out.fresh (Fresh.alloc wr _)).2.2.1 wr.heap.size ⟨2, 0, false, 0, none, 0, none, 0⟩ .star rfl (Bk.made wr tRPart #[iv 2, iv 0, .bool false, nilS, nilS]) (rpt_const _ .star rfl) (by omega) (by simp; omega) ?_; intro A4 c4 w4 h1 h2 h3; obtain ⟨d1, d2, hd3⟩ := (HST.out.fresh (Fresh.alloc wr _)).grow (by omega) (by omega) (by omega) (by omega) h1 h2 h3; have HD3 := Lib.hid hd3; clear h1 h2 h3 hd3)
                go_roundw
                case rel => exact ⟨at_ + 1, k + 1, c4, A4, done ++ [.star], rfl, by omega, by omega, HD3.out, prs_go hprs.out HP.out⟩
                case measure => simp [intOf]; omega
            · have p2 : decide ((at_ : Int) + 1 < (n : Int)) = false := by rw [decide_eq_false_iff_not]; omega
              have p3 : decide (((at_ + 1 : Nat) : Int) < (n : Int)) = false := by rw [decide_eq_false_iff_not]; omega
              have p4 : decide (at_ + 1 < n) = false := decide_eq_false h1
              have hp : prt (rs.drop at_) = some (.star, 1) := by
                rw [hp0, List.drop_of_length_le (by rw [HN.out]; omega), if_neg (by decide)]
              have HP := Lib.hid hp
              clear hp hd1 hx hp0
              go_wp2_with ((with_reducible refine at_slot_ 73 ?_); refine wpList_append_rpart _ rfl (.tmp 70) (.tmp 72) rfl (w2.heap.size + 2) A k c done rfl (HST.out.fresh (Fresh.alloc wr _)).2.2.1 wr.heap.size ⟨2, 0, false, 0, none, 0, none, 0⟩ .star rfl (Bk.made wr tRPart #[iv 2, iv 0, .bool false, nilS, nilS]) (rpt_const _ .star rfl) (by omega) (by simp; omega) ?_; intro A4 c4 w4 h1 h2 h3; obtain ⟨d1, d2, hd3⟩ := (HST.out.fresh (Fresh.alloc wr _)).grow (by omega) (by omega) (by omega) (by omega) h1 h2 h3; have HD3 := Lib.hid hd3; clear h1 h2 h3 hd3)
              go_roundw
              case rel => exact ⟨at_ + 1, k + 1, c4, A4, done ++ [.star], rfl, by omega, by omega, HD3.out, prs_go hprs.out HP.out⟩
              case measure => simp [intOf]; omega
          · have q2 : ((x : Int) == 42) = false := by rw [beq_eq_false_iff_ne]; omega
            by_cases h91 : x = 91
            · subst h91
              obtain ⟨nt, hnt⟩ : ∃ nt, beg (rs.drop (at_ + 1)) 33 = nt := ⟨_, rfl⟩
              obtain ⟨cK, hcK⟩ : ∃ cK, clK (rs.drop at_) = cK := ⟨_, rfl⟩
              have hcK2 : cK = 1 + if nt = true then 1 else 0 := by
                rw [← hcK, clK, List.drop_drop, hnt]
                cases nt <;> rfl
              obtain ⟨a1, ha1⟩ : ∃ a1, at_ + 1 = a1 := ⟨_, rfl⟩
              have ea9 : IntKind.i64.wrap ((at_ : Int) + 1) = (a1 : Int) := by rw [ea, ha1]
              have hco := class_any (some ⟨b, off, none⟩) n cL w2.heap.size a1 rs wr HRD.out hsize (by omega) (by omega) nt (by rw [← ha1]; exact hnt) (at_ + cK) (by omega)
              have hpt : prt (rs.drop at_) = (cl true (rs.drop (at_ + cK))).map fun q => (.cls nt q.1, cK + q.2) := by
                rw [← List.drop_drop, ← hcK, hd1, prt, if_neg (by decide), if_neg (by decide), if_pos rfl, ← hd1]
                unfold clsP
                rw [List.drop_drop, hnt]
              have hcKl : cK ≤ 2 := by rw [hcK2]; cases nt <;> decide
              obtain ⟨R, hR⟩ : ∃ R, cl true (rs.drop (at_ + cK)) = R := ⟨_, rfl⟩
              have hcle : ∀ sp kk, R = some (sp, kk) → at_ + cK + kk ≤ n := fun sp kk h => by
                have h2 := cl_le (hR.trans h)
                rw [List.length_drop, HN.out] at h2
                omega
              rw [hR] at hco hpt
              have HCO := Lib.hid hco
              have HHK := Lib.hid hcK2
              clear hR hco hnt hcK hcK2 hd1 hx ea ea2 ha1
              cases R with
              | none =>
                have hX : prs rs = none := prs_stop hprs.out hnl (by rw [hpt]; rfl)
                have HX := Lib.hid hX
                clear hpt hX hcle hnl
                go_wp2_with (first
                  | (go_at_call 20; (with_reducible refine HCO.out.mono ?_); rintro e w3 ⟨he, hf3⟩; replace he : e = .returned (.agg #[.int .i64 (-1), iv 0, .bool false, nilS, nilS]) := he; subst he; have HF3 := Lib.hid hf3; clear hf3)
                  | ((with_reducible refine at_store_ 2 86 ?_); refine wpList_store_blk rfl _ _ _ rfl w.heap.size 0 tRGlob _ [nilS, iv 4] rfl rfl (((HST.out.fresh HF3.out).fresh (Fresh.alloc _ _)).1) (by simp) (by intro v hv; simp at hv; rcases hv with rfl | rfl <;> rfl) (by kernel_rfl) ?_; intro w9 hb9 hbut9; have HB9 := Lib.hid hb9; have HU9 := Lib.hid hbut9; clear hb9 hbut9))
                exact bodyPost_ret (results_cell_row (p := 2) (by kernel_rfl) _ _ w.heap.size tRGlob #[nilS, iv 4] (0, 0) _ rfl HB9.out Tryd.underlying30 rfl (by kernel_rfl)) rfl (rnew_none HX.out (Fresh.but ((HST.out.fresh HF3.out).fresh (Fresh.alloc _ _)).2.2.2.1 (Nat.le_refl _) HU9.out))
              | some q =>
                obtain ⟨sp, kk⟩ := q
                have hkn := hcle sp kk rfl
                have hp : prt (rs.drop at_) = some (.cls nt sp, cK + kk) := by rw [hpt]; rfl
                have hgo := prs_go hprs.out hp
                rw [← Nat.add_assoc] at hgo
                obtain ⟨q', hq'⟩ : ∃ q', at_ + cK + kk = q' := ⟨_, rfl⟩
                rw [hq'] at hgo hkn
                have hqk : at_ + 1 ≤ q' := by have := HHK.out; omega
                have HQ := Lib.hid hq'
                have HGO := Lib.hid hgo
                obtain ⟨m, hm⟩ : ∃ m, sp.length = m := ⟨_, rfl⟩
                have HM := Lib.hid hm
                clear hpt hp hcle hnl hgo hm hq'
                go_upto_region 22 with (go_at_call 20; (with_reducible refine HCO.out.mono ?_); rintro e w3 ⟨A1, c1, A2, c2, he, hr1, hr2, hm9, hf3⟩; rw [HM.out, HQ.out] at he; rw [HM.out] at hm9; subst he; have HR3 := Lib.hid hr1; have HR4 := Lib.hid hr2; have HF3 := Lib.hid hf3; clear hr1 hr2 hf3)
                have hb5 := Bk.made w3 tRPart #[iv 4, iv (q' : Nat), .bool nt, .slice A1 m c1, .slice A2 m c2]
                have hf5 := Fresh.alloc w3 (.cells #[iv 4, iv (q' : Nat), .bool nt, .slice A1 m c1, .slice A2 m c2] tRPart)
                obtain ⟨W1, hW1⟩ : ∃ W1, w3.alloc (.cells #[iv 4, iv (q' : Nat), .bool nt, .slice A1 m c1, .slice A2 m c2] tRPart) = W1 := ⟨_, rfl⟩
                rw [hW1] at hb5 hf5 ⊢
                have k0 := hb5.cell (i := 0) rfl
                have k1 := hb5.cell (i := 1) rfl
                have f1 := hb5.free 1
                have hp2 := hb5.put 1 (iv 0)
                have hf6 : Fresh w3 (W1.setCell ⟨w3.heap.size, 1, none⟩ (iv 0)) := Fresh.but hf5 (Nat.le_refl _) (But.put _ _)
                have HP2 := Lib.hid hp2
                have HF6 := Lib.hid hf6
                clear hW1 hb5 hf5 hp2 hf6
                go_upto_region 26 with (fail)
                obtain ⟨W2, hW2⟩ : ∃ W2, W1.setCell ⟨w3.heap.size, 1, none⟩ (iv 0) = W2 := ⟨_, rfl⟩
                rw [hW2] at HP2 HF6 ⊢
                have HST2 := Lib.hid (HST.out.fresh (HF3.out.trans HF6.out))
                have dk2 := HST2.out.2.1.cell (i := 0) rfl
                have hs2 := (HF3.out.trans HF6.out).size
                have hrp : ∀ W, Fresh W2 W → RPtV W ⟨4, 0, nt, m, A1, c1, A2, c2⟩ (.cls nt sp) := fun W hW => ⟨rfl, rfl, rfl, HM.out.symm, hm9, (HR3.out.keep (KeepT.fresh HF6.out)).keep (KeepT.fresh hW), (HR4.out.keep (KeepT.fresh HF6.out)).keep (KeepT.fresh hW)⟩
                have HRP := Lib.hid hrp
                clear k0 k1 f1 hW2 dk hrp
                go_wp2_with (first
                  | ((with_reducible refine at_slot_ 92 ?_); refine wpList_load_blk rfl tRPart (.tmp 8) rfl w3.heap.size 0 5 tRPart [iv 4, iv 0, .bool nt, .slice A1 m c1, .slice A2 m c2] rfl HP2.out (by simp) _ Tryd.underlying55 rfl (by kernel_rfl) ?_)
                  | ((with_reducible refine at_slot_ 94 ?_); refine wpList_append_rpart _ rfl (.tmp 91) (.tmp 93) rfl (w2.heap.size + 2) A k c done rfl (HST2.out.fresh (Fresh.alloc W2 _)).2.2.1 W2.heap.size ⟨4, 0, nt, m, A1, c1, A2, c2⟩ (.cls nt sp) rfl (Bk.made W2 tRPart #[iv 4, iv 0, .bool nt, .slice A1 m c1, .slice A2 m c2]) (HRP.out _ (Fresh.alloc _ _)) (by omega) (by simp; omega) ?_; intro A4 c4 w4 h1 h2 h3; obtain ⟨d1, d2, hd3⟩ := (HST2.out.fresh (Fresh.alloc W2 _)).grow (by omega) (by omega) (by omega) (by omega) h1 h2 h3; have HD3 := Lib.hid hd3; clear h1 h2 h3 hd3))
                go_roundw
                case rel => exact ⟨q', k + 1, c4, A4, done ++ [.cls nt sp], rfl, hkn, by omega, HD3.out, HGO⟩
                case measure => simp [intOf]; omega
            · have q3 : ((x : Int) == 91) = false := by rw [beq_eq_false_iff_ne]; omega
              have hpt : prt (rs.drop at_) = (runeP (rs.drop at_)).map fun q => (.it q.1, q.2) := by
                rw [hd1, prt, if_neg h63, if_neg h42, if_neg h91]
              have hpl := plain_any (some ⟨b, off, none⟩) n cL w2.heap.size at_ rs wr HRD.out hsize (by omega) hat
              clear hd1 hx
              cases hrp : runeP (rs.drop at_) with
              | none =>
                rw [hrp] at hpt
                have hX : prs rs = none := prs_stop hprs.out hnl hpt
                have HX := Lib.hid hX
                have ht : tookL rs at_ = [iv 0, iv 0, .bool false] := by rw [tookL, hrp]
                unfold TookIs at hpl
                rw [ht] at hpl
                have HPL := Lib.hid hpl
                clear hpt hX hnl hrp ht hpl
                go_wp2_with (first
                  | (go_at_call 21; (with_reducible refine HPL.out.mono ?_); rintro e w3 ⟨rfl, hf3⟩; have HF3 := Lib.hid hf3; clear hf3)
                  | ((with_reducible refine at_store_ 2 102 ?_); refine wpList_store_blk rfl _ _ _ rfl w.heap.size 0 tRGlob _ [nilS, iv 4] rfl rfl (((HST.out.fresh HF3.out).fresh (Fresh.alloc _ _)).1) (by simp) (by intro v hv; simp at hv; rcases hv with rfl | rfl <;> rfl) (by kernel_rfl) ?_; intro w9 hb9 hbut9; have HB9 := Lib.hid hb9; have HU9 := Lib.hid hbut9; clear hb9 hbut9))
                exact bodyPost_ret (results_cell_row (p := 2) (by kernel_rfl) _ _ w.heap.size tRGlob #[nilS, iv 4] (0, 0) _ rfl HB9.out Tryd.underlying30 rfl (by kernel_rfl)) rfl (rnew_none HX.out (Fresh.but ((HST.out.fresh HF3.out).fresh (Fresh.alloc _ _)).2.2.2.1 (Nat.le_refl _) HU9.out))
              | some q =>
                obtain ⟨r, kk⟩ := q
                rw [hrp] at hpt
                have hkn : at_ + kk ≤ n := by
                  have h2 := prt_le hpt
                  rw [List.length_drop, HN.out] at h2
                  omega
                have hkp : 1 ≤ kk := (prt_le hpt).1
                have hgo := prs_go hprs.out hpt
                have ht : tookL rs at_ = [iv (r : Nat), iv ((at_ + kk : Nat) : Int), .bool true] := by rw [tookL, hrp]
                obtain ⟨q', hq'⟩ : ∃ q', at_ + kk = q' := ⟨_, rfl⟩
                have hqk : at_ + 1 ≤ q' := by omega
                rw [hq'] at ht hgo hkn
                have HGO := Lib.hid hgo
                unfold TookIs at hpl
                rw [ht] at hpl
                have HPL := Lib.hid hpl
                clear hpt hnl hrp ht hpl hgo hq'
                go_upto_region 28 with (go_at_call 21; (with_reducible refine HPL.out.mono ?_); rintro e w3 ⟨rfl, hf3⟩; have HF3 := Lib.hid hf3; clear hf3)
                have hb5 := Bk.made w3 tTook #[iv (r : Nat), iv (q' : Nat), .bool true]
                have hf5 := Fresh.alloc w3 (.cells #[iv (r : Nat), iv (q' : Nat), .bool true] tTook)
                obtain ⟨W1, hW1⟩ : ∃ W1, w3.alloc (.cells #[iv (r : Nat), iv (q' : Nat), .bool true] tTook) = W1 := ⟨_, rfl⟩
                rw [hW1] at hb5 hf5 ⊢
                have k0 := hb5.cell (i := 0) rfl
                have k2 := hb5.cell (i := 2) rfl
                have HST2 := Lib.hid (HST.out.fresh (HF3.out.trans hf5))
                have dk2 := HST2.out.2.1.cell (i := 0) rfl
                have hs2 := (HF3.out.trans hf5).size
                have hs3 := HF3.out.size
                have HB5 := Lib.hid hb5
                clear hb5 hf5 hW1 dk
                go_wp2_with ((with_reducible refine at_slot_ 109 ?_); refine wpList_append_rpart _ rfl (.tmp 104) (.tmp 108) rfl (w2.heap.size + 2) A k c done rfl (HST2.out.fresh (Fresh.alloc W1 _)).2.2.1 W1.heap.size ⟨0, r, false, 0, none, 0, none, 0⟩ (.it r) rfl (Bk.made W1 tRPart #[iv 0, iv (r : Nat), .bool false, nilS, nilS]) (rpt_const _ (.it r) rfl) (by omega) (by simp; omega) ?_; intro A4 c4 w4 h1 h2 h3; obtain ⟨d1, d2, hd3⟩ := (HST2.out.fresh (Fresh.alloc W1 _)).grow (by omega) (by omega) (by omega) (by omega) h1 h2 h3; have HD3 := Lib.hid hd3; have dk4 := ((h2 _ _ _ (by decide) (HB5.out.alloc _)).apart (p := ⟨w2.heap.size + 1, 0, none⟩) (by show w3.heap.size ≠ w2.heap.size + 1; omega) (.slice A4 (k + 1) c4)).cell (i := 1) rfl; clear h1 h2 h3 hd3)
                go_roundw
                case rel => exact ⟨q', k + 1, c4, A4, done ++ [.it r], rfl, hkn, by omega, HD3.out, HGO⟩
                case measure => simp [intOf]; omega
      · obtain rfl : at_ = n := by omega
        have hX : prs rs = some done := by rw [hprs.out, List.drop_of_length_le (by rw [HN.out]; omega), prs_nil]; simp
        have HX := Lib.hid hX
        clear hX hrd
        go_wp2_with (first
          | ((with_reducible refine at_slot_ 113 ?_); refine wpList_load_blk rfl tRGlob (.tmp 4) rfl (w2.heap.size + 1) 0 2 tRGlob [.slice A k c, iv 0] rfl HST.out.2.1 (by simp) _ Tryd.underlying30 rfl (by kernel_rfl) ?_)
          | ((with_reducible refine at_store_ 2 113 ?_); refine wpList_store_blk rfl _ _ _ rfl w.heap.size 0 tRGlob _ [.slice A k c, iv 0] rfl rfl (HST.out.1) (by simp) (by intro v hv; simp at hv; rcases hv with rfl | rfl <;> rfl) (by kernel_rfl) ?_; intro w9 hb9 hbut9; have HB9 := Lib.hid hb9; have HU9 := Lib.hid hbut9; clear hb9 hbut9))
        exact bodyPost_ret (results_cell_row (p := 2) (by kernel_rfl) _ _ w.heap.size tRGlob #[.slice A k c, iv 0] (0, 0) _ rfl HB9.out Tryd.underlying30 rfl (by kernel_rfl)) rfl (rnew_some HX.out (by omega) (HST.out.2.2.1.but HU9.out HST.out.1 (by decide) (by decide)).pts (Fresh.but HST.out.2.2.2.1 (Nat.le_refl _) HU9.out))
end Go.Proofs.YtkkkjadfhimahaaDoor.glbp
