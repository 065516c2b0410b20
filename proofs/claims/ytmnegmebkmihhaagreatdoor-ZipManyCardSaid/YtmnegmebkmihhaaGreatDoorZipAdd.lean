/-
  zip's archive on its way: add, of a plain item. My own text.
-/
import Derived.Test.YtmnegmebkmihhaaGreatDoorZipArc
import Derived.Deep.RegionLaw
import Derived.Test.YtmnegmebkmihhaaGreatDoorRecPut4
namespace Go.Proofs.YtmnegmebkmihhaaGreatDoor.zipp
open Go.RowKit Go.Proofs.YtmnegmebkmihhaaGreatDoor.base Go.Proofs.YtmnegmebkmihhaaGreatDoor.num Go.Proofs.YtmnegmebkmihhaaGreatDoor.recn Go.Proofs.YtmnegmebkmihhaaGreatDoor.recp Go.Proofs.YtmnegmebkmihhaaGreatDoor.nam Go.Proofs.YtmnegmebkmihhaaGreatDoor.namp Go.Proofs.YtmnegmebkmihhaaGreatDoor.zipn
set_option linter.unusedVariables false
/-- an archive on its way -/
def ArcAt (w : World) (base g : Nat) (bs hs : List UInt8) (k : Nat) : Prop := ∃ A n c D m d, ArcL w base g A n c D m d (bs.map bv) (hs.map bv) (k : Nat) false
theorem ArcAt.fresh {w w' : World} {base g k : Nat} {bs hs : List UInt8} (h : ArcAt w base g bs hs k) (hf : Fresh w w') : ArcAt w' base g bs hs k := by
  obtain ⟨A, n, c, D, m, d, h1⟩ := h
  exact ⟨A, n, c, D, m, d, h1.fresh hf⟩
theorem byteInfo : (Tryz.prog.info? 5).map (fun i => (i.zero, i.size, i.bytes)) = some (some (.int .u8 0), 1, 1) := by kernel_rfl
theorem own_len {w : World} {base n c : Nat} {e : TypeId} {A : Option Addr} {bs : List UInt8} (h : Own w base e A n c (bs.map bv)) : bs.length = n := by
  have := h.1
  rw [List.length_map] at this
  omega
set_option maxRecDepth 100000 in
set_option maxHeartbeats 8000000 in
theorem add_plain (i : Itm) (x : Pl) (hp : IsPl i x) (w : World) (base g k : Nat) (bs hs : List UInt8) (ha : ArcAt w base g bs hs k) (hbg : base ≤ g) (hbase : base ≤ w.heap.size) (hdd : Rd w base i.A i.n (i.bs.map bv)) (hU : Laid w) (hl : bs.length ≤ 4000000000) (hl2 : hs.length ≤ 4000000000) (hk : k ≤ 100000) :
    Calls Tryz.prog 23 #[.pointer (some ⟨g, 0, none⟩), .agg (itmV i).toArray] w fun e w' => e = .returned (.int .i64 0) ∧ ArcAt w' base g (bs ++ locB (hd x bs.length) ++ x.bs) (hs ++ cenB (hd x bs.length)) (k + 1) ∧ Below base w w' := by
  obtain ⟨Aa, b, ca, D, m, d, harc⟩ := ha
  have hoA := harc.rowA
  have hoD := harc.rowD
  obtain ⟨i0, hi0, hz0, hz1, hz2⟩ := info_parts byteInfo
  have hbl := own_len hoA
  have hml := own_len hoD
  have hln : i.bs.length = i.n := by have := hdd.1; rwa [List.length_map] at this
  have hxl : x.bs.length = i.n := by rw [← hp.bs]; exact hln
  have hnl : i.n ≤ 65536 := by have := hp.ok.len; omega
  have hel := enc_le x hp.ok
  have hv : itmV i = [.string i.s, iv (x.dt : Nat), .slice i.A i.n i.c, iv 0, .bool false, .bool false] := by
    unfold itmV; rw [hp.dt, hp.how, hp.wd, hp.ds]
  have hR := hd_rgt x hp.ok bs.length (by omega)
  have hgl := harc.bk.inside
  have hal := Fresh.alloc w (.cells #[.string i.s, iv (x.dt : Nat), .slice i.A i.n i.c, iv 0, .bool false, .bool false] tItem)
  have hbi := Bk.made w tItem #[.string i.s, iv (x.dt : Nat), .slice i.A i.n i.c, iv 0, .bool false, .bool false]
  have hhead : Calls Tryz.prog 51 #[.agg #[.string i.s, iv (x.dt : Nat), .slice i.A i.n i.c, iv 0, .bool false, .bool false]] (w.alloc (.cells #[.string i.s, iv (x.dt : Nat), .slice i.A i.n i.c, iv 0, .bool false, .bool false] tItem)) fun e w' => ∃ N c1, e = .returned (.agg #[iv (fl x : Nat), iv 0, iv (x.dt : Nat), .int .u32 (crcnum.sum x.bs : Nat), iv 0, iv (x.bs.length : Nat), iv 0, .slice N (encB x.rs []).length c1, .bool false]) ∧ Fresh (w.alloc (.cells #[.string i.s, iv (x.dt : Nat), .slice i.A i.n i.c, iv 0, .bool false, .bool false] tItem)) w' ∧ Rd w' w'.heap.size N (encB x.rs []).length ((encB x.rs []).map bv) := by
    have := head_plain i x hp (w.alloc (.cells #[.string i.s, iv (x.dt : Nat), .slice i.A i.n i.c, iv 0, .bool false, .bool false] tItem)) ((hdd.up hbase).fresh hal) (hU.fresh hal)
    rw [hv] at this
    exact this
  have hloc : ∀ W N c1, Rd W W.heap.size N (encB x.rs []).length ((encB x.rs []).map bv) → Calls Tryz.prog 52 #[.agg #[iv (fl x : Nat), iv 0, iv (x.dt : Nat), .int .u32 (crcnum.sum x.bs : Nat), iv (x.bs.length : Nat), iv (x.bs.length : Nat), iv (bs.length : Nat), .slice N (encB x.rs []).length c1, .bool false]] W fun e w' => ∃ A' c', e = .returned (.tuple #[.slice A' (30 + (encB x.rs []).length) c', .int .i64 0]) ∧ Fresh W w' ∧ Own w' W.heap.size 5 A' (30 + (encB x.rs []).length) c' ((locB (hd x bs.length)).map bv) := fun W N c1 h =>
    local_plain (hd x bs.length) N c1 hR rfl (fl_des x _) W h
  have hcen : ∀ W N c1, Rd W W.heap.size N (encB x.rs []).length ((encB x.rs []).map bv) → Calls Tryz.prog 53 #[.agg #[iv (fl x : Nat), iv 0, iv (x.dt : Nat), .int .u32 (crcnum.sum x.bs : Nat), iv (x.bs.length : Nat), iv (x.bs.length : Nat), iv (bs.length : Nat), .slice N (encB x.rs []).length c1, .bool false]] W fun e w' => ∃ A' c', e = .returned (.tuple #[.slice A' (46 + (encB x.rs []).length) c', .int .i64 0]) ∧ Fresh W w' ∧ Own w' W.heap.size 5 A' (46 + (encB x.rs []).length) c' ((cenB (hd x bs.length)).map bv) := fun W N c1 h =>
    central_plain (hd x bs.length) N c1 hR rfl W h
  have hbeh : ∀ W N c1, Calls Tryz.prog 54 #[.agg #[iv (fl x : Nat), iv 0, iv (x.dt : Nat), .int .u32 (crcnum.sum x.bs : Nat), iv (x.bs.length : Nat), iv (x.bs.length : Nat), iv (bs.length : Nat), .slice N (encB x.rs []).length c1, .bool false]] W fun e w' => e = .returned (.slice none 0 0) ∧ Fresh W w' := fun W N c1 =>
    behind_plain (hd x bs.length) N c1 (by have := hR.fl; omega) (fl_des x _) W
  have hpk : ∀ W A n c, Calls Tryz.prog 50 #[.slice A n c, .int .i64 0] W fun e w' => e = .returned (.tuple #[.slice A n c, .int .i64 0]) ∧ W = w' := fun W A n c => pack_plain A n c W
  rw [hv]
  have hrd := hdd
  rw [hp.bs] at hrd
  generalize locB (hd x bs.length) = LB at *
  generalize cenB (hd x bs.length) = CB at *
  generalize fl x = F at *
  generalize crcnum.sum x.bs = S at *
  generalize (encB x.rs []).length = E at *
  rw [hbl] at hloc hcen hbeh hl
  rw [hxl] at hloc hcen hbeh hhead
  rw [hml] at hl2
  generalize x.dt = dt at *
  generalize i.n = n at *
  generalize i.A = A at *
  generalize i.c = c at *
  have hg0 := harc.bk.fresh hal
  have HHEAD := Lib.hid hhead
  have HLOC := Lib.hid hloc
  have HCEN := Lib.hid hcen
  have HBEH := Lib.hid hbeh
  have HPK := Lib.hid hpk
  have HBI := Lib.hid hbi
  have HAL := Lib.hid hal
  have HG := Lib.hid hg0
  have HARC := Lib.hid harc
  have HRD := Lib.hid hrd
  have HN := Lib.hid (show b ≤ 4000000000 ∧ m ≤ 4000000000 ∧ n ≤ 65536 ∧ E ≤ 40 ∧ base ≤ g ∧ base ≤ w.heap.size ∧ g < w.heap.size ∧ k ≤ 100000 from ⟨hl, hl2, hnl, hel, hbg, hbase, hgl, hk⟩)
  clear hhead hloc hcen hbeh hpk hbi hal hg0 harc hoA hoD hrd hdd hv hR hU hl hl2 hnl hel hbg hbase hgl hk hln hxl hbl hml hp
  go_enter Tryz.func23, Tryz.ntmps23
  go_upto_region 3 with (first
    | (go_at_call 50; ((with_reducible refine (HPK.out _ _ _ _).mono ?_); rintro e w1 ⟨rfl, rfl⟩))
    | ((with_reducible (refine at_slot_ 19 ?_)); refine wpList_load_whole rfl tItem (.tmp 3) rfl w.heap.size tItem [.string i.s, iv (dt : Nat), .slice A n c, iv 0, .bool false, .bool false] 6 rfl rfl HBI.out _ Tryz.underlying31 rfl size_item ?_)
    | (go_at_call 51; ((with_reducible refine HHEAD.out.mono ?_); rintro e w1 ⟨N, c1, rfl, hf1, hr1⟩; have HF1 := Lib.hid hf1; have HG1 := Lib.hid (HG.out.fresh hf1); have HR1 := Lib.hid hr1; clear hf1 hr1)))
  have hq := Bk.made w1 tHead #[iv (F : Nat), iv 0, iv (dt : Nat), .int .u32 (S : Nat), iv 0, iv (n : Nat), iv 0, .slice N E c1, .bool false]
  have hf2 := Fresh.alloc w1 (.cells #[iv (F : Nat), iv 0, iv (dt : Nat), .int .u32 (S : Nat), iv 0, iv (n : Nat), iv 0, .slice N E c1, .bool false] tHead)
  have hgq : g < w1.heap.size := HG1.out.inside
  have hwq := HF1.out.size
  have hiq := HBI.out.inside
  have HQ := Lib.hid hq
  have HF2 := Lib.hid (HF1.out.trans hf2)
  have HG2 := Lib.hid (HG1.out.fresh hf2)
  have HR2 := Lib.hid (HR1.out.fresh hf2)
  clear hq hf2 HF1 HG1 HR1
  generalize w1.alloc (.cells #[iv (F : Nat), iv 0, iv (dt : Nat), .int .u32 (S : Nat), iv 0, iv (n : Nat), iv 0, .slice N E c1, .bool false] tHead) = W1 at *
  generalize w1.heap.size = q at *
  have c0 := (HG2.out.fresh (Fresh.drew W1)).cell (i := 0) rfl
  have f1 := (HQ.out.fresh (Fresh.drew W1)).free 1
  have f4 := (HQ.out.fresh (Fresh.drew W1)).free 4
  have f6 := (HQ.out.fresh (Fresh.drew W1)).free 6
  have v1 := (HQ.out.fresh (Fresh.drew W1)).cell (i := 1) rfl
  have v4 := (HQ.out.fresh (Fresh.drew W1)).cell (i := 4) rfl
  have v6 := (HQ.out.fresh (Fresh.drew W1)).cell (i := 6) rfl
  have hne : g ≠ q := by omega
  have hqa := HQ.out.put 1 (.int .i64 0)
  have hqb := hqa.put 4 (.int .i64 (n : Nat))
  have hqc := (hqb.put 6 (.int .i64 (b : Nat))).fresh (Fresh.drew _)
  have hga := HG2.out.apart (p := ⟨q, 1, none⟩) hne (.int .i64 0)
  have hgb := hga.apart (p := ⟨q, 4, none⟩) hne (.int .i64 (n : Nat))
  have c0a := (hga.fresh (Fresh.drew _)).cell (i := 0) rfl
  have c0b := (hgb.fresh (Fresh.drew _)).cell (i := 0) rfl
  have va4 := (hqa.fresh (Fresh.drew _)).cell (i := 4) rfl
  have fa4 := (hqa.fresh (Fresh.drew _)).free 4
  have vb6 := (hqb.fresh (Fresh.drew _)).cell (i := 6) rfl
  have fb6 := (hqb.fresh (Fresh.drew _)).free 6
  have hbut : But q W1 (((W1.setCell ⟨q, 1, none⟩ (.int .i64 0)).setCell ⟨q, 4, none⟩ (.int .i64 (n : Nat))).setCell ⟨q, 6, none⟩ (.int .i64 (b : Nat))).drew := ((But.put _ _).trans (But.put _ _)).trans ((But.put _ _).trans (But.of_fresh (Fresh.drew _)))
  have hfq := HF2.out.but hwq hbut
  have hrq := HR2.out.off (Nat.le_refl _) HQ.out rfl hbut
  have HQc := Lib.hid (show Bk _ q tHead [iv (F : Nat), iv 0, iv (dt : Nat), .int .u32 (S : Nat), iv (n : Nat), iv (n : Nat), iv (b : Nat), .slice N E c1, .bool false] from hqc)
  have HFq := Lib.hid hfq
  have HRq := Lib.hid hrq
  have HIq := Lib.hid (HBI.out.fresh hfq)
  have HAq := Lib.hid (HARC.out.fresh (HAL.out.trans hfq))
  clear hqa hqb hqc hga hgb hbut hfq hrq
  go_region
  clear c0 f1 f4 f6 v1 v4 v6 c0a c0b va4 fa4 vb6 fb6 HQ HF2 HG2 HR2
  generalize (((W1.setCell ⟨q, 1, none⟩ (.int .i64 0)).setCell ⟨q, 4, none⟩ (.int .i64 (n : Nat))).setCell ⟨q, 6, none⟩ (.int .i64 (b : Nat))).drew = Wq at *
  go_upto_region 10 with (first
    | ((with_reducible (refine at_slot_ 33 ?_)); refine wpList_load_whole rfl tHead (.tmp 7) rfl q tHead [iv (F : Nat), iv 0, iv (dt : Nat), .int .u32 (S : Nat), iv (n : Nat), iv (n : Nat), iv (b : Nat), .slice N E c1, .bool false] 9 rfl rfl HQc.out _ Tryz.underlying73 rfl size_head ?_)
    | (go_at_call 52; ((with_reducible refine (HLOC.out _ _ _ HRq.out).mono ?_); rintro e w3 ⟨A8, c8, rfl, hf3, ho3⟩; have HF3 := Lib.hid (HFq.out.trans hf3); have HQ3 := Lib.hid (HQc.out.fresh hf3); have HI3 := Lib.hid (HIq.out.fresh hf3); have HR3 := Lib.hid (HRq.out.fresh hf3); have HA3 := Lib.hid (HAq.out.fresh hf3); have HO8 := Lib.hid ho3; clear hf3 ho3))
    | ((with_reducible (refine at_slot_ 41 ?_)); refine wpList_load_whole rfl tHead (.tmp 7) rfl q tHead [iv (F : Nat), iv 0, iv (dt : Nat), .int .u32 (S : Nat), iv (n : Nat), iv (n : Nat), iv (b : Nat), .slice N E c1, .bool false] 9 rfl rfl HQ3.out _ Tryz.underlying73 rfl size_head ?_)
    | (go_at_call 53; ((with_reducible refine (HCEN.out _ _ _ HR3.out).mono ?_); rintro e w4 ⟨A10, c10, rfl, hf4, ho4⟩; have HF4 := Lib.hid (HF3.out.trans hf4); have HQ4 := Lib.hid (HQ3.out.fresh hf4); have HI4 := Lib.hid (HI3.out.fresh hf4); have HA4 := Lib.hid (HA3.out.fresh hf4); have HO4 := Lib.hid (HO8.out.fresh hf4); have HOC := Lib.hid ho4; have hs3 := HF3.out.size; clear hf4 ho4)))
  obtain ⟨N1, N2, N3, N4, N5, N6, N7, N8⟩ := HN.out
  have hfw4 := HAL.out.trans HF4.out
  have hb4 : base ≤ w4.heap.size := Nat.le_trans N6 hfw4.size
  have hbl4 : Below base w w4 := hfw4.mono N6
  have hqg : q ≠ g := fun e => hne e.symm
  have hwg : w.heap.size ≠ g := by omega
  have hap4 : ∀ r, (Value.slice Aa b ca).ownBlock = some r → (Value.slice A10 (46 + E) c10).ownBlock ≠ some r := fun r hr hr' => by
    have h1 := (World.ownsRow.lt HARC.out.rowA r hr).2
    have h2 := (World.ownsRow.lt HOC.out r hr').1
    have h3 := HAL.out.size
    omega
  have k4 := HA4.out.bk.cell (i := 0) rfl
  have HBL4 := Lib.hid hbl4
  have HAP4 := Lib.hid hap4
  clear hfw4 hbl4 hap4 HAq HA3 HRq HQc HIq HFq HQ3 HI3
  go_upto_region 11 with (at_builtin; refine wpList_append_rdx _ rfl (.tmp 52) (.tmp 53) 25 rfl base 5 i0 _ 1 Tryz.underlying25 hi0 hz0 hz1 hz2 rfl Aa b ca (bs.map bv) rfl HA4.out.rowA w4.heap.size A8 (30 + E) c8 (LB.map bv) rfl HO4.out.rd (bv_one _) (by unfold maxLen; omega) (by omega) hb4 ?_; intro A5 c5 w5 hown5 hg5 hw5; have hb5 := HA4.out.grow0 hg5; have k5 := hb5.cell (i := 0) rfl; have kf5 := hb5.free 0; have HA5 := Lib.hid (HA4.out.put0 hg5 hown5 hw5); have HBL5 := Lib.hid (HA4.out.below0 hg5 HBL4.out hb4 N5 (.slice A5 (b + (30 + E)) c5)); have HQ5 := Lib.hid (HA4.out.keep0 hg5 HQ4.out (by decide) hqg (.slice A5 (b + (30 + E)) c5)); have HI5 := Lib.hid (HA4.out.keep0 hg5 HI4.out (by decide) hwg (.slice A5 (b + (30 + E)) c5)); have hoc5 := HOC.out.beside hg5 HAP4.out; have HOC5 := Lib.hid (hoc5.but (But.put (g := g) (i := 0) w5 (.slice A5 (b + (30 + E)) c5)) (hoc5.ne_block hb5 (by decide))); have hs5 := hg5.size; have HAP5 : Hid (∀ r, (Value.slice A5 (b + (30 + E)) c5).ownBlock = some r → (Value.slice A10 (46 + E) c10).ownBlock ≠ some r) := Lib.hid (apart_next HAP4.out hw5 (fun r hr => (World.ownsRow.lt HOC.out r hr).2)); clear hown5 hg5 hw5 hb5 hoc5)
  have k6 := HA5.out.bk.cell (i := 0) rfl
  have hs5' : (w5.setCell ⟨g, 0, none⟩ (.slice A5 (b + (30 + E)) c5)).heap.size = w5.heap.size := by simp [World.setCell]
  clear k4 k5 kf5 HA4 HQ4 HI4 HO4 HOC
  generalize w5.setCell ⟨g, 0, none⟩ (.slice A5 (b + (30 + E)) c5) = W5 at *
  have hb5 : base ≤ W5.heap.size := by omega
  have HRD5 := Lib.hid (HRD.out.below HBL5.out (Nat.le_refl _))
  obtain ⟨b6, hb6⟩ : ∃ x, b + (30 + E) + n = x := ⟨_, rfl⟩
  go_upto_region 12 with (at_builtin; refine wpList_append_rdx _ rfl (.tmp 61) (.tmp 62) 25 rfl base 5 i0 _ 1 Tryz.underlying25 hi0 hz0 hz1 hz2 rfl A5 (b + (30 + E)) c5 (bs.map bv ++ LB.map bv) rfl HA5.out.rowA base A n c (x.bs.map bv) rfl HRD5.out (bv_one _) (by unfold maxLen; omega) (by omega) hb5 ?_; intro A6 c6 w6 hown6 hg6 hw6; rw [hb6] at hown6 hw6; rw [hb6]; have hb6' := HA5.out.grow0 hg6; have k7 := hb6'.cell (i := 0) rfl; have kf7 := hb6'.free 0; have HA6 := Lib.hid (HA5.out.put0 hg6 hown6 hw6); have HBL6 := Lib.hid (HA5.out.below0 hg6 HBL5.out hb5 N5 (.slice A6 b6 c6)); have HQ6 := Lib.hid (HA5.out.keep0 hg6 HQ5.out (by decide) hqg (.slice A6 b6 c6)); have HI6 := Lib.hid (HA5.out.keep0 hg6 HI5.out (by decide) hwg (.slice A6 b6 c6)); have hoc6 := HOC5.out.beside hg6 HAP5.out; have HOC6 := Lib.hid (hoc6.but (But.put (g := g) (i := 0) w6 (.slice A6 b6 c6)) (hoc6.ne_block hb6' (by decide))); have hs6 := hg6.size; have HAP6 : Hid (∀ r, (Value.slice A6 b6 c6).ownBlock = some r → (Value.slice A10 (46 + E) c10).ownBlock ≠ some r) := Lib.hid (apart_next HAP5.out hw6 (fun r hr => (World.ownsRow.lt HOC5.out r hr).2)); clear hown6 hg6 hw6 hb6' hoc6)
  have hs6' : (w6.setCell ⟨g, 0, none⟩ (.slice A6 b6 c6)).heap.size = w6.heap.size := by simp [World.setCell]
  clear k6 k7 kf7 HA5 HQ5 HI5 HOC5 HRD5
  generalize w6.setCell ⟨g, 0, none⟩ (.slice A6 b6 c6) = W6 at *
  have hbw6 : base ≤ W6.heap.size := by omega
  have hq6 := HQ6.out.fresh (Fresh.drew W6)
  have q0 := hq6.cell (i := 0) rfl
  have q1 := hq6.cell (i := 1) rfl
  have q2 := hq6.cell (i := 2) rfl
  have q3 := hq6.cell (i := 3) rfl
  have q4 := hq6.cell (i := 4) rfl
  have q5 := hq6.cell (i := 5) rfl
  have q6 := hq6.cell (i := 6) rfl
  have q7 := hq6.cell (i := 7) rfl
  have q8 := hq6.cell (i := 8) rfl
  have k8 := (HA6.out.bk.fresh (Fresh.drew W6)).cell (i := 0) rfl
  clear hq6
  go_region_law (first
    | ((with_reducible refine zst_slot_ 72 ?_); go_simp; (refine (HBEH.out _ _ _).mono ?_); rintro e w7 ⟨rfl, hf7⟩; have hf7' := (Fresh.drew W6).trans hf7; have HA7 := Lib.hid (HA6.out.fresh hf7'); have HQ7 := Lib.hid (HQ6.out.fresh hf7'); have HI7 := Lib.hid (HI6.out.fresh hf7'); have HOC7 := Lib.hid (HOC6.out.fresh hf7'); have HBL7 := Lib.hid (Below.fresh HBL6.out hbw6 hf7'); have hbw7 := Nat.le_trans hbw6 hf7'.size; have k9 := HA7.out.bk.cell (i := 0) rfl; clear hf7 hf7')
    | ((with_reducible refine zst_slot_ 73 ?_); refine step_append_rdx (by rfl) (.tmp 70) (.tmp 72) 25 (by rfl) base 5 i0 _ 1 Tryz.underlying25 hi0 hz0 hz1 hz2 rfl A6 b6 c6 _ (by rfl) HA7.out.rowA base none 0 0 [] (by rfl) (Rd.nil _ _ _) (fun u hu => by cases hu) (by unfold maxLen; omega) (by omega) hbw7 ?_; intro A9 c9 w9 hown9 hg9 hw9; rw [Nat.add_zero] at hown9 hw9; rw [Nat.add_zero]; have hb9 := HA7.out.grow0 hg9; have k10 := hb9.cell (i := 0) rfl; have kf10 := hb9.free 0; have HA9 := Lib.hid (HA7.out.put0 hg9 hown9 hw9); have HBL9 := Lib.hid (HA7.out.below0 hg9 HBL7.out hbw7 N5 (.slice A9 b6 c9)); have HI9 := Lib.hid (HA7.out.keep0 hg9 HI7.out (by decide) hwg (.slice A9 b6 c9)); have hoc9 := HOC7.out.beside hg9 HAP6.out; have HOC9 := Lib.hid (hoc9.but (But.put (g := g) (i := 0) w9 (.slice A9 b6 c9)) (hoc9.ne_block hb9 (by decide))); have hs9 := hg9.size; clear hown9 hg9 hw9 hb9 hoc9))
  all_goals
    have hs9' : (w9.setCell ⟨g, 0, none⟩ (.slice A9 b6 c9)).heap.size = w9.heap.size := by simp [World.setCell]
    have hbw9 : base ≤ (w9.setCell ⟨g, 0, none⟩ (.slice A9 b6 c9)).heap.size := by omega
    clear q0 q1 q2 q3 q4 q5 q6 q7 q8 k8 k9 k10 kf10 HA7 HQ7 HI7 HOC7 HBL7 HA6 HQ6 HI6 HOC6 HBL6 hs9'
    generalize w9.setCell ⟨g, 0, none⟩ (.slice A9 b6 c9) = W9 at *
    have k11 := HA9.out.bk.cell (i := 1) rfl
    obtain ⟨m9, hm9⟩ : ∃ y, m + (46 + E) = y := ⟨_, rfl⟩
    go_upto_region 14 with (at_builtin; refine wpList_append_rdx _ rfl (.tmp 80) (.tmp 81) 25 rfl base 5 i0 _ 1 Tryz.underlying25 hi0 hz0 hz1 hz2 rfl D m d (hs.map bv) rfl HA9.out.rowD W9.heap.size A10 (46 + E) c10 (CB.map bv) rfl HOC9.out.rd (bv_one _) (by unfold maxLen; omega) (by omega) hbw9 ?_; intro D9 d9 w10 hown10 hg10 hw10; rw [hm9] at hown10 hw10; rw [hm9]; have hb10 := HA9.out.grow1 hg10; have k12 := hb10.cell (i := 1) rfl; have kf12 := hb10.free 1; have HA10 := Lib.hid (HA9.out.put1 hg10 hown10 hw10); have HBL10 := Lib.hid (HA9.out.below1 hg10 HBL9.out hbw9 N5 (.slice D9 m9 d9)); have HI10 := Lib.hid (HA9.out.keep1 hg10 HI9.out (by decide) hwg (.slice D9 m9 d9)); have hs10 := hg10.size; clear hown10 hg10 hw10 hb10)
    have hs10' : (w10.setCell ⟨g, 1, none⟩ (.slice D9 m9 d9)).heap.size = w10.heap.size := by simp [World.setCell]
    have hbw10 : base ≤ (w10.setCell ⟨g, 1, none⟩ (.slice D9 m9 d9)).heap.size := by omega
    clear k11 k12 kf12 HA9 HI9 HOC9 HBL9 hs10'
    generalize w10.setCell ⟨g, 1, none⟩ (.slice D9 m9 d9) = W10 at *
    have kk2 := HA10.out.bk.cell (i := 2) rfl
    have kf2 := HA10.out.bk.free 2
    have hk1 : IntKind.i64.wrap ((k : Int) + 1) = (k : Int) + 1 := IntWalk.i64_in _ (by omega)
    have HA11 := HA10.out.put2 ((k : Int) + 1)
    have kk3 := HA11.bk.cell (i := 3) rfl
    have kf3 := HA11.bk.free 3
    have ii4 := (HI10.out.apart (p := ⟨g, 2, none⟩) hwg (.int .i64 ((k : Int) + 1))).cell (i := 4) rfl
    have HAF := Lib.hid (HA11.put3 false)
    have HBF := Lib.hid (Below.but (Below.but HBL10.out N5 hbw10 (But.put (g := g) (i := 2) W10 (.int .i64 ((k : Int) + 1)))) N5 (by simpa [World.setCell] using hbw10) (But.put (g := g) (i := 3) _ (.bool false)))
    clear HA11 HA10 HI10 HBL10
    go_wp2
    go_ret
    refine ⟨rfl, ⟨A9, b6, c9, D9, m9, d9, ?_⟩, HBF.out⟩
    have h := HAF.out
    rw [List.append_nil, ← List.map_append, ← List.map_append, ← List.map_append] at h
    exact h
end Go.Proofs.YtmnegmebkmihhaaGreatDoor.zipp
