import Derived.Test.YtcdehklcdipcfaaGreatMgPc
import Derived.Test.YtcdehklcdipcfaaGreatMgPu
/- Several of my own texts, one behind the other. -/
/-
  pager's Commit, where it writes. My own text.
-/
namespace Go.Proofs.YtcdehklcdipcfaaGreat.pgrp
open Go.RowKit Go.Maps Go.Proofs.YtcdehklcdipcfaaGreat.base Go.Proofs.YtcdehklcdipcfaaGreat.num Go.Proofs.YtcdehklcdipcfaaGreat.word Go.Proofs.YtcdehklcdipcfaaGreat.pagn Go.Proofs.YtcdehklcdipcfaaGreat.pgr Go.Proofs.YtcdehklcdipcfaaGreat.waln Go.Proofs.YtcdehklcdipcfaaGreat.walp Go.Proofs.YtcdehklcdipcfaaGreat.pagp
open Go.Proofs.YtcdehklcdipcfaaGreat.vfsnum hiding Bs
open Go.Proofs.YtcdehklcdipcfaaGreat.vfs (FsAt fsPtr Did tFS intKey key_int)
set_option linter.unusedVariables false
set_option linter.unusedSimpArgs false

theorem batchL_len (m : Mm) : (batchL m).length ≤ manyOf m + 1 := by
  unfold batchL manyOf
  rw [List.length_cons, List.length_map]
  have := List.length_filter_le (fun z : Int => decide (z ≠ 0)) (sortN m.ch)
  rw [sortN_len] at this
  omega
theorem mem_cells {w : World} {p f : Nat} {m : Mm} {bl : List Nat} (h : MemAt w p f m bl) : w.cell? ⟨p, 0, none⟩ = some (fsPtr f) ∧ w.cell? ⟨p, 1, none⟩ = some (.string dbN) ∧ w.cell? ⟨p, 2, none⟩ = some (.string logN) := by
  obtain ⟨mb, kb, A, n, c, ob, rfl, hnd, hb, hm, hk, ho, hmok⟩ := h
  exact ⟨hb.cell (pg_files (i := 0) (by omega)), hb.cell (pg_files (i := 1) (by omega)), hb.cell (pg_files (i := 2) (by omega))⟩
set_option maxRecDepth 100000 in
set_option maxHeartbeats 4000000 in
theorem commit_ok (w : World) (p f : Nat) (a a' : Fs) (m : Mm) (b1 bl : List Nat) (x : Fl) (hF : FsAt w f a b1) (h : MemAt w p f m bl) (hd : ∀ x ∈ bl, x ∉ b1) (hde : m.dead = false) (hch : m.ch ≠ []) (hok : FsOk a) (hup : a.down = false) (hg : getF a.files dbN = some x)
    (hmy : manyOf m ≤ 99) (hr : roomF a x (manyOf m) m.hd.many = true) (hst : a.stamp < 4611686018427000000) (hri : right (batchL m) = true) (k : Int) (hs : saveF a (batchL m) = (k, a')) (hk0 : k = 0) :
    Calls Tryz.prog 14 #[pgPtr p] w (PDid w p f b1 bl (.int .i64 0) a' { m with last := m.hd, ch := [] }) := by
  subst hk0
  have hsa := state_any w p f m bl h hde
  have hma := may_any w p f m bl h a b1 x hF hok hup hg (by omega)
  rw [hr] at hma
  have hba := fun W (q : Fresh w W) => batch_any W p f m bl (h.fresh q) (by unfold manyOf at hmy; omega)
  have hbl := batchL_len m
  have hsv := fun (W W' : World) A n c l (q : Fresh w W) (q' : Fresh W W') (ho : OwnK W' W.heap.size tWr 2 A n c wpV l) (hw : ∀ s ∈ l, WpIs W' W.heap.size s) (hl : l.map Wp.pg = batchL m) => Did.part hs (by
    have hln := ho.len wpV_len (by omega)
    have hll := congrArg List.length hl
    rw [List.length_map] at hll
    obtain ⟨e1, e2⟩ := ws_of_bat (S := b1) ho hw (fun b hb => Nat.lt_of_lt_of_le (hF.inside b hb) q.size)
    exact save_any W' f a b1 A n c l (hF.fresh (q.trans q')) hok (by omega) e1 e2 (batchL m) hl (by omega) hri)
  have hkeep := fun W' b1' (k : VTurn b1 b1' w W') => sto_p h hd k
  obtain ⟨mb, kb, A, n, c, ob, rfl, hnd, hb, hm, hk, ho, hmok⟩ := h
  have hc0 := hb.cell (pg_tail hmok 0)
  have hcs : ∀ W, Fresh w W → W.cell? ⟨p, 0, none⟩ = some (fsPtr f) ∧ W.cell? ⟨p, 1, none⟩ = some (.string dbN) ∧ W.cell? ⟨p, 2, none⟩ = some (.string logN) := fun W q =>
    ⟨(hb.fresh q).cell (pg_files (i := 0) (by omega)), (hb.fresh q).cell (pg_files (i := 1) (by omega)), (hb.fresh q).cell (pg_files (i := 2) (by omega))⟩
  have hl := hm.len Tryz.underlying65 tI
  have hkl : (kvB m.ch).length = m.ch.length := by unfold kvB; rw [List.length_map]
  rw [hkl] at hl
  have hne : ((m.ch.length : Int) == 0) = false := by
    have : 0 < m.ch.length := List.length_pos_iff.2 hch
    simp; omega
  have HS := Lib.hid hsa
  have HMA := Lib.hid hma
  have HBA := Lib.hid hba
  have HSV := Lib.hid hsv
  have HKP := Lib.hid hkeep
  have HCS := Lib.hid hcs
  have HMOK := Lib.hid hmok
  have HX := Lib.hid (nums10 hmok.hd)
  clear hsa hma hba hsv hkeep hcs hF hd hnd hb hm hk ho hmok hkl hch hok hup hg hr hmy hri hs hst hbl hde
  go_enter Tryz.func14, Tryz.ntmps14
  go_upto_region 10 with (first
    | (go_at_call 40; refine HS.out.mono ?_; rintro e w1 ⟨rfl, rfl⟩)
    | (go_at_call 41; refine HMA.out.mono ?_; rintro e w1 ⟨rfl, hf1⟩; have HF1 := Lib.hid hf1; clear hf1))
  have hk0 := HCS.out w1.drew (HF1.out.trans (Fresh.drew _))
  have HFD := Lib.hid (HF1.out.trans (Fresh.drew w1))
  clear hc0 hl hne
  go_region_held3 (fun w' => w'.cell? ⟨p, 0, none⟩ = some (fsPtr f) ∧ w'.cell? ⟨p, 1, none⟩ = some (.string dbN) ∧ w'.cell? ⟨p, 2, none⟩ = some (.string logN)) (first | exact hk0 | exact HK2.out | exact HK3.out)
    (first
    | (go_at_call 44; (refine (HBA.out w1.drew HFD.out).mono ?_); rintro e w2 ⟨A2, n2, c2, l2, rfl, ho2, hw2, hl2, hf2⟩; have HSV2 := Lib.hid (HSV.out w1.drew w2 A2 n2 c2 l2 HFD.out hf2 ho2 hw2 hl2); have HF2 := Lib.hid (HFD.out.trans hf2); have HK2 := Lib.hid (HCS.out w2 (HFD.out.trans hf2)); clear ho2 hw2 hl2 hf2)
    | (go_at_call 43; (refine HSV2.out.mono ?_); rintro e w3 ⟨rfl, b3, hF3, hT3⟩; have HKM := Lib.hid (HKP.out w3 b3 ((vfs.Turn.fresh HF2.out).trans hT3)); have HK3 := Lib.hid (mem_cells HKM.out.1); clear hT3))
  obtain ⟨hM3, hd3, hT03⟩ := HKM.out
  go_upto_region 14 with (fail)
  have HF3 := Lib.hid hF3
  have HD3 := Lib.hid hd3
  have HT03 := Lib.hid hT03
  have HIN := Lib.hid hM3.inside
  clear hF3 hd3 hT03 hk0
  obtain ⟨mb3, kb3, A3, n3, c3, ob3, hbe, hnd, hb, hm, hk, ho, hmok⟩ := hM3
  rw [hbe] at hnd
  have hown := fun w4 (q : But p w3 w4) (hb4 : Bk w4 p tPgr (pgCells f { m with last := m.hd } mb3 kb3 (.slice A3 n3 c3))) => MemAt.own (m := m) (m' := { m with last := m.hd }) hnd hm hk ho hb4 q rfl rfl ⟨hmok.hd, hmok.hd, hmok.ch, hmok.sh, hmok.few, hmok.rd⟩
  have hsp := pg_splice2 (f := f) (mb := mb3) (kb := kb3) (ov := .slice A3 n3 c3) hmok hmok.hd
  have hlen := pg_len (f := f) (mb := mb3) (kb := kb3) (ov := .slice A3 n3 c3) hmok
  have hla := pg_head (f := f) (mb := mb3) (kb := kb3) (ov := .slice A3 n3 c3) hmok
  have HO := Lib.hid hown
  have HB := Lib.hid hb
  have HSP := Lib.hid hsp
  have HLEN := Lib.hid hlen
  have HLA := Lib.hid hla
  have HONE := Lib.hid (hd_one m.hd)
  have HBE := Lib.hid hbe
  clear hnd hb hm hk ho hmok hown hsp hlen hla hbe
  go_upto_region 15 with (first
    | ((with_reducible (refine at_slot_ 41 ?_)); refine wpList_load_blk rfl tHd (.tmp 40) rfl p 3 10 tPgr _ rfl HB.out (by rw [HLEN.out]; omega) _ Tryz.underlying71 rfl size_hd ?_; rw [HLA.out])
    | ((with_reducible (refine at_store_ 43 41 ?_)); refine wpList_store_blk rfl tHd (.tmp 43) (.tmp 41) rfl p 13 tPgr _ (m.hd.nums.map iv) rfl rfl HB.out (by rw [HX.out, HLEN.out]; omega) HONE.out (by rw [size_hd, HX.out]) ?_; intro w4 hb4 hbu4; rw [HSP.out] at hb4))
  obtain ⟨hM4, hT4⟩ := HO.out w4 hbu4 hb4
  clear hb4 hbu4
  have HT4 := Lib.hid hT4
  obtain ⟨mb4, kb4, A4, n4, c4, ob4, hbe4, hnd, hb, hm, hk, ho, hmok⟩ := hM4
  rw [hbe4] at hnd
  have hcm := hb.cell (pg_tail hmok 0)
  have hch := fun w5 (q : But mb4 w4 w5) (hm5 : MapOf Tryz.prog tI w5 mb4 (kvB [])) => MemAt.chput hnd hb hk ho hmok hm5 q ent_nil
  have HCH := Lib.hid hch
  have HM4 := Lib.hid hm
  have HBE4 := Lib.hid hbe4
  clear hnd hb hm hk ho hmok hch hT4 hbe4
  go_wp2_with ((with_reducible (refine at_none_ ?_)); refine wpList_clear_map rfl (.tmp 47) tMapB rfl tI tBlk Tryz.underlying65 mb4 _ rfl HM4.out ?_; intro w5 hm5 hb5; have HQ := Lib.hid (HCH.out w5 hb5 hm5); clear hm5 hb5)
  go_ret
  have hq := HQ.out
  rw [← HBE4.out, ← HBE.out] at hq
  have ht4 := HT4.out
  rw [← HBE.out] at ht4
  obtain ⟨q1, q2, q3⟩ := mem_p HF3.out HD3.out hq.1 (ht4.trans hq.2)
  exact ⟨rfl, b3, _, q1, hq.1, q2, HT03.out.trans q3⟩
end Go.Proofs.YtcdehklcdipcfaaGreat.pgrp
/-
  What holds of a pager and its store, where no fuse burns; a commit keeps it. My own text.
-/
namespace Go.Proofs.YtcdehklcdipcfaaGreat.pgrp
open Go.RowKit Go.Maps Go.Proofs.YtcdehklcdipcfaaGreat.base Go.Proofs.YtcdehklcdipcfaaGreat.num Go.Proofs.YtcdehklcdipcfaaGreat.word Go.Proofs.YtcdehklcdipcfaaGreat.pagn Go.Proofs.YtcdehklcdipcfaaGreat.pgr Go.Proofs.YtcdehklcdipcfaaGreat.waln Go.Proofs.YtcdehklcdipcfaaGreat.walp Go.Proofs.YtcdehklcdipcfaaGreat.pagp
open Go.Proofs.YtcdehklcdipcfaaGreat.vfsnum hiding Bs
open Go.Proofs.YtcdehklcdipcfaaGreat.vfs (FsAt fsPtr Did tFS intKey key_int)
set_option linter.unusedVariables false
set_option linter.unusedSimpArgs false

theorem lookE_dropE (l : List Ent) (n j : Nat) : lookE (dropE l n) j = if j = n then none else lookE l j := by
  unfold lookE dropE
  induction l with
  | nil => simp
  | cons e r ih =>
    by_cases h1 : e.1 = n
    · rw [List.filter_cons_of_neg (by simpa using h1), ih]
      by_cases h2 : j = n
      · rw [if_pos h2, if_pos h2]
      · rw [if_neg h2, if_neg h2, List.find?_cons_of_neg (by simp; omega)]
    · rw [List.filter_cons_of_pos (by simpa using h1)]
      by_cases h3 : e.1 = j
      · rw [List.find?_cons_of_pos (by simpa using h3), List.find?_cons_of_pos (by simpa using h3), if_neg (by omega)]
      · rw [List.find?_cons_of_neg (by simpa using h3), List.find?_cons_of_neg (by simpa using h3)]
        exact ih
theorem lookE_putE (l : List Ent) (n j : Nat) (b : Bs) : lookE (putE l n b) j = if j = n then some b else lookE l j := by
  unfold putE
  by_cases h : j = n
  · rw [if_pos h]
    unfold lookE
    rw [List.find?_cons_of_pos (by simp [h])]
    rfl
  · rw [if_neg h]
    have : lookE ((n, b) :: dropE l n) j = lookE (dropE l n) j := by unfold lookE; rw [List.find?_cons_of_neg (by simp; omega)]
    rw [this, lookE_dropE, if_neg h]
theorem mem_dropE {l : List Ent} {n : Nat} {e : Ent} (h : e ∈ dropE l n) : e ∈ l ∧ e.1 ≠ n := ⟨(List.mem_filter.1 h).1, by simpa using (List.mem_filter.1 h).2⟩
/-- what a page has, as it was changed -/
def viewE (m : Mm) (C : List Bs) (j : Nat) : Option Bs := match lookE m.ch j with | some b => some b | none => C[j]?
structure PgInv (a : Fs) (C : List Bs) (T : Nat) (m : Mm) : Prop where
  cv : Cv a (flat 0 C) [] T
  all : All508 C
  len : C.length = m.last.many
  last : C ≠ [] → C[0]? = some (hdB m.last) ∧ m.last.Good
  hd : m.hd.Good
  chl : ∀ e ∈ m.ch, e.1 < m.hd.many ∧ e.2.length = 508
  nd : EntNd m.ch
  cov : ∀ j, C.length ≤ j → j < m.hd.many → ∃ b, lookE m.ch j = some b
  le : C.length ≤ m.hd.many
  zero : ∀ b, lookE m.ch 0 = some b → b = hdB m.hd
  zno : lookE m.ch 0 = none → m.hd = m.last
  sh : ∀ e ∈ m.sh, C[e.1]? = some e.2 ∧ lookE m.ch e.1 = none
  dead : m.dead = false
theorem many_len (m : Mm) (hn : EntNd m.ch) : (batchL m).length ≤ manyOf m := by
  unfold batchL manyOf
  rw [List.length_cons, List.length_map]
  have hp := ((sortN_perm m.ch).filter fun z => decide (z ≠ 0)).length_eq
  rw [hp]
  have hf : ((noS m.ch).filter fun z => decide (z ≠ 0)).length = (dropE m.ch 0).length := by
    unfold noS dropE
    rw [List.filter_map, List.length_map]
    congr 1
    refine List.filter_congr fun e _ => ?_
    simp
  rw [hf]
  cases hl : lookE m.ch 0 with
  | none =>
    rw [dropE_none (lookE_none hl)]
    simp
  | some b =>
    obtain ⟨s, t, hst⟩ := List.append_of_mem (lookE_some hl)
    have hd : dropE m.ch 0 = s ++ t := by rw [hst]; exact dropE_mid (hst ▸ hn)
    rw [hd]
    have := congrArg List.length hst
    rw [List.length_append, List.length_cons] at this
    rw [List.length_append]
    simp
    omega
theorem PgInv.fits {a : Fs} {C : List Bs} {T : Nat} {m : Mm} (h : PgInv a C T m) : fitsB C.length (pgsE (entE m)) ∧ lastB C.length (pgsE (entE m)) = m.hd.many := by
  have hz0 : 0 < m.hd.many := by have := h.hd.first; omega
  have hcov0 : C.length = 0 → True := fun _ => trivial
  rw [← batchL_ent]
  have hm : batchL m = ((0 : Int) :: (sortN m.ch).filter fun z => decide (z ≠ 0)).map (fun z => if z = 0 then (0, page 0 (hdB m.hd)) else batR m.ch z) := by
    unfold batchL
    rw [List.map_cons, if_pos rfl]
    congr 1
    refine List.map_congr_left fun z hz => ?_
    have := (List.mem_filter.1 hz).2
    rw [if_neg (by simpa using this)]
  rw [hm]
  refine fits_of m.hd.many _ _ _ (fun z hz => ?_) ?_ (fun j h1 h2 => ?_) h.le
  · rcases List.mem_cons.1 hz with rfl | hz
    · rw [if_pos rfl]
      exact ⟨rfl, page_length _ _ (hdB_len h.hd.eight), by omega, by omega⟩
    · obtain ⟨hz1, hz2⟩ := List.mem_filter.1 hz
      rw [if_neg (by simpa using hz2)]
      obtain ⟨e, he, rfl⟩ := mem_sortN hz1
      obtain ⟨c1, c2⟩ := h.chl e he
      refine ⟨rfl, ?_, by omega, by omega⟩
      show (page _ _).length = 512
      rw [Int.toNat_natCast, lookE_mem h.nd he]
      exact page_length _ _ c2
  · rw [List.pairwise_cons]
    refine ⟨fun z hz => ?_, (sortN_lt m.ch h.nd).filter _⟩
    obtain ⟨hz1, hz2⟩ := List.mem_filter.1 hz
    obtain ⟨e, he, rfl⟩ := mem_sortN hz1
    have : ¬ ((e.1 : Nat) : Int) = 0 := by simpa using hz2
    omega
  · by_cases hj : j = 0
    · subst hj; simp
    · obtain ⟨b, hb⟩ := h.cov j h1 h2
      refine List.mem_cons_of_mem _ (List.mem_filter.2 ⟨mem_sortN' (lookE_some hb), by simpa using hj⟩)
theorem rise_of : ∀ (l : List Int) (q : Int), (∀ z ∈ l, q < z ∧ 0 ≤ z ∧ z < 16777216) → l.Pairwise (fun x y => x < y) → rise q l = true := by
  intro l
  induction l with
  | nil => intro q _ _; rfl
  | cons z r ih =>
    intro q hz hp
    obtain ⟨z1, z2, z3⟩ := hz z (by simp)
    have hp2 := List.pairwise_cons.1 hp
    have := ih z (fun y hy => ⟨hp2.1 y hy, (hz y (by simp [hy])).2⟩) hp2.2
    unfold rise
    rw [this]
    simp [fitN, z1, z2, z3]
theorem PgInv.right {a : Fs} {C : List Bs} {T : Nat} {m : Mm} (h : PgInv a C T m) (hm : manyOf m ≤ 4096) : right (batchL m) = true := by
  have hml := many_len m h.nd
  unfold waln.right
  rw [Bool.and_eq_true, Bool.and_eq_true, List.all_eq_true, decide_eq_true_iff]
  refine ⟨fun p hp => ?_, by omega, ?_⟩
  · rw [decide_eq_true_iff]
    rw [batchL_ent] at hp
    obtain ⟨e, he, rfl⟩ := List.mem_map.1 hp
    refine page_length _ _ ?_
    rcases List.mem_cons.1 he with rfl | he
    · exact hdB_len h.hd.eight
    · obtain ⟨z, hz, rfl⟩ := List.mem_map.1 he
      obtain ⟨x, hx, rfl⟩ := mem_sortN (List.mem_filter.1 hz).1
      simp only [Int.toNat_natCast]
      rw [lookE_mem h.nd hx]
      exact (h.chl x hx).2
  · have hfst : (batchL m).map Prod.fst = 0 :: (sortN m.ch).filter fun z => decide (z ≠ 0) := by
      unfold batchL
      rw [List.map_cons, List.map_map]
      congr 1
      conv => rhs; rw [← List.map_id ((sortN m.ch).filter fun z => decide (z ≠ 0))]
      rfl
    rw [hfst]
    have hmb := h.hd.many
    refine rise_of _ _ (fun z hz => ?_) ?_
    · rcases List.mem_cons.1 hz with rfl | hz
      · omega
      · obtain ⟨x, hx, rfl⟩ := mem_sortN (List.mem_filter.1 hz).1
        have := (h.chl x hx).1
        omega
    · rw [List.pairwise_cons]
      refine ⟨fun z hz => ?_, (sortN_lt m.ch h.nd).filter _⟩
      obtain ⟨hz1, hz2⟩ := List.mem_filter.1 hz
      obtain ⟨e, he, rfl⟩ := mem_sortN hz1
      have : ¬ ((e.1 : Nat) : Int) = 0 := by simpa using hz2
      omega
theorem ent_look {m : Mm} (hn : EntNd m.ch) (j : Nat) : lookE (entE m) j = if j = 0 then some (hdB m.hd) else lookE m.ch j := by
  unfold entE
  by_cases hj : j = 0
  · rw [if_pos hj]
    unfold lookE
    rw [List.find?_cons_of_pos (by simp [hj])]
    rfl
  · rw [if_neg hj]
    have h1 : lookE ((0, hdB m.hd) :: ((sortN m.ch).filter fun z => decide (z ≠ 0)).map fun z => (z.toNat, (lookE m.ch z.toNat).getD [])) j = lookE (((sortN m.ch).filter fun z => decide (z ≠ 0)).map fun z => (z.toNat, (lookE m.ch z.toNat).getD [])) j := by
      unfold lookE; rw [List.find?_cons_of_neg (by simp; omega)]
    rw [h1]
    cases hl : lookE m.ch j with
    | none =>
      unfold lookE
      rw [Option.map_eq_none_iff, List.find?_eq_none]
      intro x hx
      obtain ⟨z, hz, rfl⟩ := List.mem_map.1 hx
      obtain ⟨e, he, rfl⟩ := mem_sortN (List.mem_filter.1 hz).1
      have := lookE_none hl e he
      simpa using this
    | some b =>
      have hmem : (j, b) ∈ ((sortN m.ch).filter fun z => decide (z ≠ 0)).map fun z => (z.toNat, (lookE m.ch z.toNat).getD []) := by
        refine List.mem_map.2 ⟨(j : Int), List.mem_filter.2 ⟨mem_sortN' (lookE_some hl), by simpa using hj⟩, ?_⟩
        rw [Int.toNat_natCast, hl]; rfl
      cases hq : lookE (((sortN m.ch).filter fun z => decide (z ≠ 0)).map fun z => (z.toNat, (lookE m.ch z.toNat).getD [])) j with
      | none => exact absurd rfl (lookE_none hq (j, b) hmem)
      | some b2 =>
        have h2 := lookE_some hq
        obtain ⟨z, hz, he⟩ := List.mem_map.1 h2
        injection he with e1 e2
        rw [e1, hl] at e2
        rw [← e2]; rfl
theorem ent_nd {m : Mm} (hn : EntNd m.ch) : EntNd (entE m) := by
  unfold entE EntNd
  rw [List.pairwise_cons]
  refine ⟨fun x hx => ?_, ?_⟩
  · obtain ⟨z, hz, rfl⟩ := List.mem_map.1 hx
    obtain ⟨hz1, hz2⟩ := List.mem_filter.1 hz
    obtain ⟨e, he, rfl⟩ := mem_sortN hz1
    have : ¬ ((e.1 : Nat) : Int) = 0 := by simpa using hz2
    simp only [Int.toNat_natCast]
    omega
  · rw [List.pairwise_map]
    refine ((sortN_lt m.ch hn).filter _).imp_of_mem fun {x y} hx hy hlt => ?_
    have h1 := sortN_nat (List.mem_filter.1 hx).1
    have h2 := sortN_nat (List.mem_filter.1 hy).1
    simp only
    omega
/-- a commit: what the store has then, what holds of it -/
theorem PgInv.commit {a : Fs} {C : List Bs} {T : Nat} {m : Mm} (h : PgInv a C T m) (hm : manyOf m ≤ 4096) (hT : takes (512 * m.hd.many) + takes (12 + 516 * manyOf m + 4) ≤ T) :
    ∃ a' C', saveF a (batchL m) = (0, a') ∧ PgInv a' C' T { m with last := m.hd, ch := [] } ∧ ∀ j, j < m.hd.many → C'[j]? = viewE m C j := by
  obtain ⟨hf, hlb⟩ := h.fits
  have hri := h.right hm
  have hml := many_len m h.nd
  have hz0 : 0 < m.hd.many := by have := h.hd.first; omega
  rw [batchL_ent] at hri hml ⊢
  have htm := takes_mono (show 12 + 516 * (pgsE (entE m)).length + 4 ≤ 12 + 516 * manyOf m + 4 by omega)
  obtain ⟨a', e1, c1, l1⟩ := h.cv.save (n := C.length) (flat_len C 0 h.all) hf hri (by rw [hlb]; omega)
  have hE : ∀ e ∈ entE m, e.2.length = 508 := fun e he => by
    rcases List.mem_cons.1 he with rfl | he
    · exact hdB_len h.hd.eight
    · obtain ⟨z, hz, rfl⟩ := List.mem_map.1 he
      obtain ⟨x, hx, rfl⟩ := mem_sortN (List.mem_filter.1 hz).1
      simp only [Int.toNat_natCast]
      rw [lookE_mem h.nd hx]
      exact (h.chl x hx).2
  obtain ⟨p1, p2, p3⟩ := pages_fold (entE m) C h.all hE hf
  have hat : ∀ j, (foldC C (entE m))[j]? = if j = 0 then some (hdB m.hd) else viewE m C j := fun j => by
    rw [foldC_at (entE m) C j hf (ent_nd h.nd), ent_look h.nd]
    by_cases hj : j = 0
    · rw [if_pos hj, if_pos hj]
    · rw [if_neg hj, if_neg hj]; rfl
  have hv0 : viewE m C 0 = some (hdB m.hd) := by
    unfold viewE
    cases hl : lookE m.ch 0 with
    | some b => simp only []; rw [h.zero b hl]
    | none =>
      simp only []
      rw [h.zno hl]
      by_cases hC : C = []
      · subst hC
        obtain ⟨b, hb⟩ := h.cov 0 (Nat.zero_le _) hz0
        rw [hl] at hb; cases hb
      · exact (h.last hC).1
  have hat' : ∀ j, (foldC C (entE m))[j]? = viewE m C j := fun j => by
    rw [hat j]
    by_cases hj : j = 0
    · rw [if_pos hj, hj, hv0]
    · rw [if_neg hj]
  rw [p1] at c1
  rw [hlb] at p3
  refine ⟨a', foldC C (entE m), e1, ⟨c1, p2, p3, fun _ => ⟨by rw [hat' 0, hv0], h.hd⟩, h.hd, (fun e he => by cases he), List.Pairwise.nil, (fun j h1 h2 => absurd (show j < m.hd.many from h2) (by rw [p3] at h1; omega)), (by rw [p3]; exact Nat.le_refl _), (fun b hb => by cases hb), (fun _ => rfl), fun e he => ?_, h.dead⟩, fun j _ => hat' j⟩
  obtain ⟨s1, s2⟩ := h.sh e he
  refine ⟨?_, rfl⟩
  rw [hat' e.1]
  unfold viewE
  rw [s2]
  exact s1
end Go.Proofs.YtcdehklcdipcfaaGreat.pgrp
/-
  pager's files: settle of an empty journal, open. My own text.
-/
namespace Go.Proofs.YtcdehklcdipcfaaGreat.pgrp
open Go.RowKit Go.Maps Go.Proofs.YtcdehklcdipcfaaGreat.base Go.Proofs.YtcdehklcdipcfaaGreat.num Go.Proofs.YtcdehklcdipcfaaGreat.word Go.Proofs.YtcdehklcdipcfaaGreat.pagn Go.Proofs.YtcdehklcdipcfaaGreat.pgr Go.Proofs.YtcdehklcdipcfaaGreat.waln Go.Proofs.YtcdehklcdipcfaaGreat.walp Go.Proofs.YtcdehklcdipcfaaGreat.pagp
open Go.Proofs.YtcdehklcdipcfaaGreat.vfsnum hiding Bs
open Go.Proofs.YtcdehklcdipcfaaGreat.vfs (FsAt fsPtr Did tFS intKey key_int)
set_option linter.unusedVariables false
set_option linter.unusedSimpArgs false

abbrev tStr0 : TypeId := 9
theorem settle_none (w : World) (f : Nat) (a : Fs) (bl : List Nat) (y : Fl) (h : FsAt w f a bl) (hd : a.down = false) (hg : getF a.files logN = some y) (hy : y.bs = []) :
    Calls Tryz.prog 64 #[filV f] w fun e w' => e = .returned (.int .i64 0) ∧ Fresh w w' := by
  have hl := fun W (q : Fresh w W) => vfs.len_some W f a bl logN y (h.fresh q) logN_le hd hg
  rw [hy] at hl
  have h0 : (((([] : Bs).length : Nat)) : Int) = 0 := rfl
  rw [h0] at hl
  have HL := Lib.hid hl
  clear hl h hd hg hy h0
  unfold filV
  go_enter Tryz.func64, Tryz.ntmps64
  go_wp2_with (go_at_call 62; refine (HL.out _ (Fresh.alloc _ _)).mono ?_; rintro e w1 ⟨rfl, rfl⟩)
  go_ret
  exact ⟨rfl, Fresh.alloc _ _⟩
/-- a file is there, or is created -/
def StepF (a : Fs) (n : ByteArray) (a' : Fs) : Prop := a.down = false ∧ ((∃ x, getF a.files n = some x ∧ a' = a) ∨ (getF a.files n = none ∧ a.create n = (0, a')))
theorem step_stamp {a a' : Fs} {n : ByteArray} (h : StepF a n a') : a'.stamp ≤ a.stamp + 1 := by
  obtain ⟨hd, ⟨x, hx, rfl⟩ | ⟨hx, hc⟩⟩ := h
  · exact Nat.le_succ _
  · have : (a.create n).2.stamp ≤ a.stamp + 1 := by
      unfold Fs.create
      repeat' split
      all_goals first | exact Nat.le_succ _ | exact Nat.le_refl _
    rw [hc] at this
    exact this
theorem step_ok {a a' : Fs} {n : ByteArray} (h : StepF a n a') (hok : FsOk a) : FsOk a' := by
  obtain ⟨hd, ⟨x, hx, rfl⟩ | ⟨hx, hc⟩⟩ := h
  · exact hok
  · have := vfs.create_ok (n := n) hok
    rw [hc] at this
    exact this
set_option maxRecDepth 100000 in
set_option maxHeartbeats 2000000 in
theorem open_any (w : World) (f : Nat) (a a1 a2 : Fs) (bl : List Nat) (y : Fl) (h : FsAt w f a bl) (hok : FsOk a) (hst : a.stamp + 2 < 4611686018427387904)
    (s1 : StepF a dbN a1) (s2 : StepF a1 logN a2) (hd2 : a2.down = false) (hg : getF a2.files logN = some y) (hy : y.bs = []) :
    Calls Tryz.prog 34 #[filV f] w (Done w f bl 0 a2) := by
  have hbx := fun w1 bl1 (hT : VTurn bl bl1 ((w.alloc (.cells #[fsPtr f, .string dbN, .string logN] tFiles)).alloc (.cells #[.string dbN, .string logN] tStr0)) w1) => boxF h ((vfs.Turn.fresh (Fresh.alloc _ _)).trans hT)
  have hnm := fun w1 bl1 (hT : VTurn bl bl1 ((w.alloc (.cells #[fsPtr f, .string dbN, .string logN] tFiles)).alloc (.cells #[.string dbN, .string logN] tStr0)) w1) => (Bk.made (w.alloc (.cells #[fsPtr f, .string dbN, .string logN] tFiles)) tStr0 #[.string dbN, .string logN]).old (hT.block _ (by simp) (fun hm => by have := h.inside _ hm; simp at this; omega))
  have hF0 := (h.fresh (Fresh.alloc w (.cells #[fsPtr f, .string dbN, .string logN] tFiles))).fresh (Fresh.alloc _ (.cells #[.string dbN, .string logN] tStr0))
  have hsz : (w.alloc (.cells #[fsPtr f, .string dbN, .string logN] tFiles)).heap.size = w.heap.size + 1 := by simp
  rw [hsz] at hnm
  have HBX := Lib.hid hbx
  have HNM := Lib.hid hnm
  have HF0 := Lib.hid hF0
  have HOK := Lib.hid hok
  have HST := Lib.hid hst
  have HS1 := Lib.hid s1
  have HS2 := Lib.hid s2
  have HSE := Lib.hid (fun W blx (hF : FsAt W f a2 blx) => settle_none W f a2 blx y hF hd2 hg hy)
  clear hbx hnm hF0 h hok hst s1 s2 hd2 hg hy hsz
  unfold filV
  go_enter Tryz.func34, Tryz.ntmps34
  go_wp2
  go_loopw [14] (fun i wr => ∃ (k : Nat) (ak : Fs) (blk : List Nat), i = .int .i64 k ∧ FsAt wr f ak blk ∧ VTurn bl blk ((w.alloc (.cells #[fsPtr f, .string dbN, .string logN] tFiles)).alloc (.cells #[.string dbN, .string logN] tStr0)) wr ∧ Hid ((k = 0 ∧ ak = a) ∨ (k = 1 ∧ ak = a1) ∨ (k = 2 ∧ ak = a2))) (fun i _ => 2 - (intOf i).toNat)
  case atStart => exact ⟨0, a, bl, rfl, HF0.out, vfs.Turn.refl _ _, Lib.hid (.inl ⟨rfl, rfl⟩)⟩
  case round =>
    obtain ⟨k, ak, blk, rfl, hFk, hTk, hkk⟩ := hrel
    have hbk := HBX.out _ _ hTk
    have hnk := HNM.out _ _ hTk
    have hc0 := hbk.cell (i := 0) rfl
    by_cases hk2 : k < 2
    · obtain ⟨n, ak', hn, hnle, hstp, hokk, hskk, hnext⟩ : ∃ n ak', [Value.string dbN, .string logN][k]? = some (.string n) ∧ n.size ≤ maxLen ∧ StepF ak n ak' ∧ FsOk ak ∧ ak.stamp < 4611686018427387904 ∧ Hid ((k + 1 = 0 ∧ ak' = a) ∨ (k + 1 = 1 ∧ ak' = a1) ∨ (k + 1 = 2 ∧ ak' = a2)) := by
        rcases hkk.out with ⟨rfl, rfl⟩ | ⟨rfl, rfl⟩ | ⟨rfl, rfl⟩
        · exact ⟨dbN, a1, rfl, dbN_le, HS1.out, HOK.out, by have := HST.out; omega, Lib.hid (.inr (.inl ⟨rfl, rfl⟩))⟩
        · exact ⟨logN, a2, rfl, logN_le, HS2.out, step_ok HS1.out HOK.out, by have := HST.out; have := step_stamp HS1.out; omega, Lib.hid (.inr (.inr ⟨rfl, rfl⟩))⟩
        · omega
      have hcn := hnk.cell hn
      have HTK := Lib.hid hTk
      clear hkk hn hbk hnk HSE HBX HNM HF0 HOK HST HS1 HS2 hTk
      obtain ⟨hdk, ⟨x, hx, rfl⟩ | ⟨hx, hcr⟩⟩ := hstp
      · have HL := Lib.hid (vfs.len_some wr f _ blk n x hFk hnle hdk hx)
        have HFK := Lib.hid hFk
        clear hdk hx hFk hokk hskk hnle
        go_wp2_with (go_at_call 62; refine HL.out.mono ?_; rintro e w1 ⟨rfl, rfl⟩)
        exact ⟨⟨k + 1, _, blk, by go_num, HFK.out, HTK.out, hnext⟩, by simp [intOf]; omega⟩
      · have HL := Lib.hid (vfs.len_none wr f _ blk n hFk hnle (.inr hx))
        have HC := Lib.hid (Did.part hcr (vfs.create_any wr f ak blk n hFk hokk hskk hnle))
        clear hdk hx hFk hokk hskk hnle hcr
        go_wp2_with (first
          | (go_at_call 62; refine HL.out.mono ?_; rintro e w1 ⟨rfl, rfl⟩)
          | (go_at_call 63; refine HC.out.mono ?_; rintro e w2 ⟨rfl, bl2, hF2, hT2⟩; have HT2 := Lib.hid (HTK.out.trans hT2); have HFK := Lib.hid hF2; clear hT2 hF2))
        exact ⟨⟨k + 1, _, bl2, by go_num, HFK.out, HT2.out, hnext⟩, by simp [intOf]; omega⟩
    · obtain ⟨rfl, rfl⟩ : k = 2 ∧ ak = a2 := by
        rcases hkk.out with ⟨rfl, rfl⟩ | ⟨rfl, rfl⟩ | ⟨rfl, rfl⟩
        · omega
        · omega
        · exact ⟨rfl, rfl⟩
      have HB := Lib.hid hbk
      have HS := Lib.hid (HSE.out _ _ hFk)
      have HFK := Lib.hid hFk
      have HTK := Lib.hid hTk
      clear hkk hnk hbk hFk hTk HSE HBX HNM HF0 HOK HST HS1 HS2
      unfold filV at HS
      go_wp2_with (first
        | ((with_reducible (refine at_slot_ 34 ?_)); refine wpList_load_row (o := ⟨some 34, _, _, _, _, _⟩) rfl tFiles (.tmp 1) rfl w.heap.size rfl tFiles #[fsPtr f, .string dbN, .string logN] (0, 0) _ HB.out Tryz.underlying63 rfl (by rw [size_files]; rfl) ?_)
        | (go_at_call 64; refine HS.out.mono ?_; rintro e w1 ⟨rfl, hf1⟩))
      go_ret
      exact ⟨rfl, blk, HFK.out.fresh hf1, (((vfs.Turn.fresh (Fresh.alloc _ _)).trans (vfs.Turn.fresh (Fresh.alloc _ _))).trans HTK.out).trans (vfs.Turn.fresh hf1)⟩
end Go.Proofs.YtcdehklcdipcfaaGreat.pgrp
/-
  pager's newShelf; a pager as it is made. My own text.
-/
namespace Go.Proofs.YtcdehklcdipcfaaGreat.pgrp
open Go.RowKit Go.Maps Go.Proofs.YtcdehklcdipcfaaGreat.base Go.Proofs.YtcdehklcdipcfaaGreat.num Go.Proofs.YtcdehklcdipcfaaGreat.word Go.Proofs.YtcdehklcdipcfaaGreat.pagn Go.Proofs.YtcdehklcdipcfaaGreat.pgr Go.Proofs.YtcdehklcdipcfaaGreat.waln Go.Proofs.YtcdehklcdipcfaaGreat.walp Go.Proofs.YtcdehklcdipcfaaGreat.pagp
open Go.Proofs.YtcdehklcdipcfaaGreat.vfsnum hiding Bs
open Go.Proofs.YtcdehklcdipcfaaGreat.vfs (FsAt fsPtr Did tFS intKey key_int)
set_option linter.unusedVariables false
set_option linter.unusedSimpArgs false

abbrev tShf : TypeId := 67
theorem size_shf : (Tryz.prog.info? tShf).map (·.size) = some 3 := by kernel_rfl
def mm0 : Mm := ⟨hd0, hd0, [], [], 0, false⟩
theorem pgBuilt (f mb kb : Nat) : Tryz.prog.built tPgr [(0, .agg #[fsPtr f, .string dbN, .string logN]), (3, .map (some mb)), (4, .agg #[.map (some kb), .slice none 0 0, .int .i64 0])] = some (pgCells f mm0 mb kb (.slice none 0 0)).toArray := by kernel_rfl
theorem shelf_any (w : World) :
    Calls Tryz.prog 33 #[] w fun e w' => ∃ b, e = .returned (.agg #[.map (some b), .slice none 0 0, .int .i64 0]) ∧ w.heap.size ≤ b ∧ MapOf Tryz.prog tI w' b (kvB []) ∧ Fresh w w' := by
  have hmm := @run_makeMap Tryz.prog
  go_enter Tryz.func33, Tryz.ntmps33
  go_wp2
  have hb1 : Bk ((w.alloc (.cells #[.map (some (w.heap.size + 1)), .slice none 0 0, .int .i64 0] tShf)).alloc (.map #[] 0)) w.heap.size tShf [.map (some (w.heap.size + 1)), .slice none 0 0, .int .i64 0] := (Bk.made w tShf #[.map (some (w.heap.size + 1)), .slice none 0 0, .int .i64 0]).fresh (Fresh.alloc _ _)
  have hmp := MapOf.made Tryz.prog tI (w.alloc (.cells #[.map (some (w.heap.size + 1)), .slice none 0 0, .int .i64 0] tShf))
  have hsz : (w.alloc (.cells #[.map (some (w.heap.size + 1)), .slice none 0 0, .int .i64 0] tShf)).heap.size = w.heap.size + 1 := by simp
  rw [hsz] at hmp
  exact bodyPost_ret (results_cell_row (p := 0) (by kernel_rfl) _ _ w.heap.size tShf #[.map (some (w.heap.size + 1)), .slice none 0 0, .int .i64 0] (0, 0) _ rfl hb1 Tryz.underlying67 rfl (by rw [size_shf]; rfl)) rfl ⟨_, rfl, Nat.le_succ _, hmp, (Fresh.alloc _ _).trans (Fresh.alloc _ _)⟩
/-- a pager as Open makes it, ahead of its first page -/
theorem mem_made {w : World} {f mb kb : Nat} (h1 : mb ≠ kb) (hm : MapOf Tryz.prog tI w mb (kvB [])) (hk : MapOf Tryz.prog tI w kb (kvB [])) :
    MemAt (w.alloc (.cells (pgCells f mm0 mb kb (.slice none 0 0)).toArray tPgr)) w.heap.size f mm0 [w.heap.size, mb, kb] := by
  have e1 := hm.inside
  have e2 := hk.inside
  refine ⟨mb, kb, none, 0, 0, [], rfl, by simp; omega, ?_, hm.old (Below.heap_alloc _ _ _ (by simpa using e1)), hk.old (Below.heap_alloc _ _ _ (by simpa using e2)), ⟨rfl, Nat.le_refl _, Nat.zero_le _, .inl ⟨rfl, rfl, rfl⟩⟩, ⟨hd0_ok, hd0_ok, (fun e he => by cases he), (fun e he => by cases he), (by decide), (by decide)⟩⟩
  have := Bk.made w tPgr (pgCells f mm0 mb kb (.slice none 0 0)).toArray
  rwa [List.toList_toArray] at this
end Go.Proofs.YtcdehklcdipcfaaGreat.pgrp
/-
  pager's Commit, where what holds of a pager does; how far the stamps go. My own text.
-/
namespace Go.Proofs.YtcdehklcdipcfaaGreat.pgrp
open Go.RowKit Go.Maps Go.Proofs.YtcdehklcdipcfaaGreat.base Go.Proofs.YtcdehklcdipcfaaGreat.num Go.Proofs.YtcdehklcdipcfaaGreat.word Go.Proofs.YtcdehklcdipcfaaGreat.pagn Go.Proofs.YtcdehklcdipcfaaGreat.pgr Go.Proofs.YtcdehklcdipcfaaGreat.waln Go.Proofs.YtcdehklcdipcfaaGreat.walp Go.Proofs.YtcdehklcdipcfaaGreat.pagp
open Go.Proofs.YtcdehklcdipcfaaGreat.vfsnum hiding Bs
open Go.Proofs.YtcdehklcdipcfaaGreat.vfs (FsAt fsPtr Did tFS intKey key_int)
set_option linter.unusedVariables false
set_option linter.unusedSimpArgs false

theorem syncF_stamp (a : Fs) : (syncF a).2.stamp ≤ a.stamp + 1 := by
  unfold syncF
  have h1 := sync_stamp a dbN
  split
  · have := cut_stamp (a.sync dbN).2 logN 0; omega
  · omega
theorem writeF_stamp (a : Fs) (l : List Pg) : (writeF a l).2.stamp ≤ a.stamp + l.length + 1 := by
  unfold writeF
  have h1 := pagesF_stamp l a
  split
  · have := syncF_stamp (pagesF a l).2; omega
  · omega
theorem saveF_stamp (a : Fs) (l : List Pg) : (saveF a l).2.stamp ≤ a.stamp + l.length + 3 := by
  unfold saveF
  have h1 := noteF_stamp a 0 (batch l)
  have h2 := noteF_stamp (noteF a 0 (batch l)).2 (batch l).length done4
  have h3 := writeF_stamp (noteF (noteF a 0 (batch l)).2 (batch l).length done4).2 l
  split
  · split <;> omega
  · omega
theorem PgInv.room {a : Fs} {C : List Bs} {T : Nat} {m : Mm} (h : PgInv a C T m) {n : Nat} {x : Fl} (hx : getF a.files dbN = some x) (hT : takes (512 * m.hd.many) + takes (12 + 516 * n + 4) ≤ T) : roomF a x n m.hd.many = true := by
  obtain ⟨x', hx', hD⟩ := h.cv.db
  rw [hx] at hx'
  injection hx' with hx'
  subst hx'
  have hr := h.cv.room
  have hlen : (flat 0 C).length = 512 * C.length := by have := flat_len C 0 h.all; omega
  have hle := h.le
  have hmo := takes_mono (show (flat 0 C).length ≤ 512 * m.hd.many by omega)
  rw [← hD] at hr hmo
  have h0 : takes ([] : Bs).length = 0 := rfl
  unfold roomF
  simp only [decide_eq_true_eq]
  omega
theorem save_inv {a : Fs} {C : List Bs} {T : Nat} {m : Mm} (hi : PgInv a C T m) (hmy : manyOf m ≤ 99) (hT : takes (512 * m.hd.many) + takes (12 + 516 * manyOf m + 4) ≤ T) :
    ∃ a' C', saveF a (batchL m) = (0, a') ∧ PgInv a' C' T { m with last := m.hd, ch := [] } ∧ (∀ j, j < m.hd.many → C'[j]? = viewE m C j) ∧ a'.stamp ≤ a.stamp + 102 := by
  obtain ⟨a', C', hs, hi', hv⟩ := hi.commit (by omega) hT
  have hml := many_len m hi.nd
  have hss := saveF_stamp a (batchL m)
  rw [hs] at hss
  exact ⟨a', C', hs, hi', hv, by simp only at hss; omega⟩
theorem commit_inv (w : World) (p f : Nat) (a a' : Fs) (C : List Bs) (T : Nat) (m : Mm) (b1 bl : List Nat) (hF : FsAt w f a b1) (h : MemAt w p f m bl) (hd : ∀ x ∈ bl, x ∉ b1) (hi : PgInv a C T m) (hch : m.ch ≠ [])
    (hmy : manyOf m ≤ 99) (hT : takes (512 * m.hd.many) + takes (12 + 516 * manyOf m + 4) ≤ T) (hst : a.stamp < 4611686018427000000) (hs : saveF a (batchL m) = (0, a')) :
    Calls Tryz.prog 14 #[pgPtr p] w (PDid w p f b1 bl (.int .i64 0) a' { m with last := m.hd, ch := [] }) := by
  obtain ⟨x, hx, hD⟩ := hi.cv.db
  exact commit_ok w p f a a' m b1 bl x hF h hd hi.dead hch hi.cv.ok hi.cv.up hx hmy (hi.room hx hT) hst (hi.right (by omega)) 0 hs rfl
/-- a pager that was just made, and tells its first head -/
def mm1 : Mm := { mm0 with hd := hd1, ch := putE [] 0 (hdB hd1) }
theorem inv_first {a : Fs} {T : Nat} (h : Cv a [] [] T) : PgInv a [] T mm1 where
  cv := h
  all := fun b hb => by cases hb
  len := rfl
  last := fun h => absurd rfl h
  hd := hd1_good
  chl := fun e he => by
    have : e ∈ [(0, hdB hd1)] := he
    rw [List.mem_singleton] at this
    subst this
    exact ⟨by decide, hdB_len rfl⟩
  nd := List.pairwise_singleton _ _
  cov := fun j _ hj => by
    have hj' : j < 1 := hj
    obtain rfl : j = 0 := by omega
    exact ⟨hdB hd1, rfl⟩
  le := Nat.zero_le _
  zero := fun b hb => by
    have : some (hdB hd1) = some b := hb
    injection this with this
    exact this.symm
  zno := fun h => by
    have : some (hdB hd1) = none := h
    cases this
  sh := fun e he => by cases he
  dead := rfl
end Go.Proofs.YtcdehklcdipcfaaGreat.pgrp
/-
  pager's begin, of a new pager. My own text.
-/
namespace Go.Proofs.YtcdehklcdipcfaaGreat.pgrp
open Go.RowKit Go.Maps Go.Proofs.YtcdehklcdipcfaaGreat.base Go.Proofs.YtcdehklcdipcfaaGreat.num Go.Proofs.YtcdehklcdipcfaaGreat.word Go.Proofs.YtcdehklcdipcfaaGreat.pagn Go.Proofs.YtcdehklcdipcfaaGreat.pgr Go.Proofs.YtcdehklcdipcfaaGreat.waln Go.Proofs.YtcdehklcdipcfaaGreat.walp Go.Proofs.YtcdehklcdipcfaaGreat.pagp
open Go.Proofs.YtcdehklcdipcfaaGreat.vfsnum hiding Bs
open Go.Proofs.YtcdehklcdipcfaaGreat.vfs (FsAt fsPtr Did tFS intKey key_int)
set_option linter.unusedVariables false
set_option linter.unusedSimpArgs false

theorem hdBuilt1 : Tryz.prog.built tHd [(0, .int .i64 1)] = some (hd1.nums.map iv).toArray := by kernel_rfl
theorem mem_files {w : World} {p f : Nat} {m : Mm} {bl : List Nat} (h : MemAt w p f m bl) : ∃ cur, Bk w p tPgr cur ∧ cur.length = 28 ∧ (cur.drop 0).take 3 = [fsPtr f, .string dbN, .string logN] := by
  obtain ⟨mb, kb, A, n, c, ob, rfl, hnd, hb, hm, hk, ho, hmok⟩ := h
  exact ⟨_, hb, pg_len hmok, rfl⟩
set_option maxRecDepth 100000 in
set_option maxHeartbeats 2000000 in
theorem begin_new (w : World) (p f : Nat) (a a' : Fs) (T : Nat) (b1 bl : List Nat) (hF : FsAt w f a b1) (h : MemAt w p f mm0 bl) (hd : ∀ x ∈ bl, x ∉ b1) (hc : Cv a [] [] T) (hT : 17 ≤ T) (hst : a.stamp < 4611686018427000000) (hs : saveF a (batchL mm1) = (0, a')) :
      Calls Tryz.prog 35 #[pgPtr p] w (PDid w p f b1 bl (.int .i64 0) a' { mm0 with hd := hd1, last := hd1 }) := by
  have hT1 : takes (512 * mm1.hd.many) + takes (12 + 516 * manyOf mm1 + 4) ≤ T := by
    have : takes (512 * mm1.hd.many) + takes (12 + 516 * manyOf mm1 + 4) = 17 := by decide
    omega
  obtain ⟨x, hx, hD⟩ := hc.db
  have hlo := fun W (q : Fresh w W) => long_any W f a b1 x (hF.fresh q) hc.up hx
  rw [hD] at hlo
  have htu := fun W (q : Fresh w W) => turn_any W p f mm0 bl (h.fresh q) hd1 hd1_good.ok
  obtain ⟨cur, hb, hl, hh⟩ := mem_files h
  have hcm := fun W blx (hM : MemAt W p f mm1 blx) (hT : VTurn bl blx w W) => commit_inv W p f a a' [] T mm1 b1 blx (mem_p hF hd hM hT).1 hM (mem_p hF hd hM hT).2.1 (inv_first hc) (by intro e; cases e) (by decide) hT1 hst hs
  have hmp := fun W blx (hM : MemAt W p f mm1 blx) (hT : VTurn bl blx w W) => (mem_p hF hd hM hT).2.2
  have h00 : (((([] : Bs).length : Nat)) : Int) = 0 := rfl
  rw [h00] at hlo
  have HLO := Lib.hid hlo
  have HTU := Lib.hid htu
  have HB := Lib.hid hb
  have HL := Lib.hid hl
  have HHH := Lib.hid hh
  have HCM := Lib.hid hcm
  have HMP := Lib.hid hmp
  clear hlo htu hb hl hh hcm hmp hF h hd hc hT hst hT1 hs hx hD h00
  unfold filV at HLO
  unfold hdV at HTU
  go_enter Tryz.func35, Tryz.ntmps35
  go_wp2_with (first
    | ((with_reducible (refine at_slot_ 6 ?_)); refine wpList_load_blk rfl tFiles (.tmp 5) rfl p 0 3 tPgr cur rfl HB.out (by rw [HL.out]; omega) _ Tryz.underlying63 rfl size_files ?_; rw [HHH.out])
    | (go_at_call 65; refine (HLO.out _ (Fresh.refl _)).mono ?_; rintro e w1 ⟨rfl, hf1⟩; have HF1 := Lib.hid hf1; clear hf1)
    | ((with_reducible (refine at_slot_ 10 ?_)); refine wpList_buildTo rfl tHd _ rfl (some 10) rfl _ hdBuilt1 ?_)
    | (go_at_call 52; refine (HTU.out _ HF1.out).mono ?_; intro e w3 hk3; obtain ⟨rfl, bl3, hM3, hT3⟩ := hk3; have HM3 := Lib.hid hM3; have HT3 := Lib.hid ((vfs.Turn.fresh HF1.out).trans hT3); clear hM3 hT3)
    | (go_at_call 14; refine (HCM.out _ bl3 HM3.out HT3.out).mono ?_; intro e w4 hk4; obtain ⟨rfl, b4, bl4, hF4, hM4, hd4, hT4⟩ := hk4))
  go_ret
  exact ⟨rfl, b4, bl4, hF4, hM4, hd4, (HMP.out _ bl3 HM3.out HT3.out).trans hT4⟩
end Go.Proofs.YtcdehklcdipcfaaGreat.pgrp
