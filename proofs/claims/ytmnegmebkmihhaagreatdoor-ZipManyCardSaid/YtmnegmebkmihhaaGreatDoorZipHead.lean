import Derived.Test.YtmnegmebkmihhaaGreatDoorMgMth
import Derived.Test.YtmnegmebkmihhaaGreatDoorMgTrn
import Derived.Test.YtmnegmebkmihhaaGreatDoorRecPut
import Derived.Test.YtmnegmebkmihhaaGreatDoorMgCrc
import Derived.Test.YtmnegmebkmihhaaGreatDoorMgRef
import Derived.Deep.RegionHeld3
import Derived.Deep.DeepCutAuto
/-
  zip's head. My own text.
-/
namespace Go.Proofs.YtmnegmebkmihhaaGreatDoor.zipp
open Go.RowKit Go.Proofs.YtmnegmebkmihhaaGreatDoor.base Go.Proofs.YtmnegmebkmihhaaGreatDoor.num Go.Proofs.YtmnegmebkmihhaaGreatDoor.recn Go.Proofs.YtmnegmebkmihhaaGreatDoor.recp Go.Proofs.YtmnegmebkmihhaaGreatDoor.nam Go.Proofs.YtmnegmebkmihhaaGreatDoor.namp Go.Proofs.YtmnegmebkmihhaaGreatDoor.zipn
set_option linter.unusedVariables false
abbrev tItem : TypeId := 31
abbrev tArc : TypeId := 58
theorem size_item : (Tryz.prog.info? 31).map (·.size) = some 6 := by kernel_rfl
/-- an item, as it lies -/
structure Itm where
  s : ByteArray
  dt : Int
  A : Option Addr
  n : Nat
  c : Nat
  bs : List UInt8
  how : Int
  wd : Bool
  ds : Bool
def itmV (i : Itm) : List Value := [.string i.s, .int .i64 i.dt, .slice i.A i.n i.c, .int .i64 i.how, .bool i.wd, .bool i.ds]
theorem itmV_len (i : Itm) : (itmV i).length = 6 := rfl
theorem itmV_one (i : Itm) : ∀ u ∈ itmV i, u.oneCell' = true := by
  intro u hu
  simp only [itmV, List.mem_cons, List.not_mem_nil, or_false] at hu
  rcases hu with rfl | rfl | rfl | rfl | rfl | rfl <;> rfl
/-- it is plain -/
structure IsPl (i : Itm) (x : Pl) : Prop where
  s : i.s.data.toList = tx x.rs
  dt : i.dt = (x.dt : Nat)
  bs : i.bs = x.bs
  how : i.how = 0
  wd : i.wd = false
  ds : i.ds = false
  ok : x.Ok
theorem IsPl.size {i : Itm} {x : Pl} (h : IsPl i x) : i.s.size ≤ 40 := by
  have hm := h.ok.may
  unfold mayP at hm
  rw [List.append_nil] at hm
  simp only [Bool.and_eq_true, decide_eq_true_eq] at hm
  have : i.s.size = (tx x.rs).length := by rw [← h.s]; exact (Array.length_toList (xs := i.s.data)).symm
  omega
theorem pack_plain (A : Option Addr) (n c : Nat) (w : World) : Calls Tryz.prog 50 #[.slice A n c, .int .i64 0] w fun e w' => e = .returned (.tuple #[.slice A n c, .int .i64 0]) ∧ w = w' := by
  go_enter Tryz.func50, Tryz.ntmps50
  go_wp2
  go_ret2
  exact ⟨rfl, rfl⟩
/-- the head of a plain item, as 'head' tells it -/
def hd0 (x : Pl) : Hd := ⟨fl x, 0, x.dt, crcnum.sum x.bs, 0, x.bs.length, 0, encB x.rs [], false⟩
theorem or_2048 : bits .or .i64 0 2048 = 2048 := by decide
set_option maxRecDepth 100000 in
set_option maxHeartbeats 8000000 in
theorem head_plain (i : Itm) (x : Pl) (hp : IsPl i x) (w : World) (hd : Rd w w.heap.size i.A i.n (i.bs.map bv)) (hU : Laid w) :
    Calls Tryz.prog 51 #[.agg (itmV i).toArray] w fun e w' => ∃ N c, e = .returned (.agg (headV (hd0 x) N c).toArray) ∧ Fresh w w' ∧ Rd w' w'.heap.size N (encB x.rs []).length ((encB x.rs []).map bv) := by
  have hsz := hp.size
  have hln : i.bs.length = i.n := by have := hd.1; rwa [List.length_map] at this
  have hxl : x.bs.length = i.n := by rw [← hp.bs]; exact hln
  have hnl : i.n ≤ 65536 := by have := hp.ok.len; omega
  obtain ⟨S, hS⟩ : ∃ S, crcnum.sum x.bs = S := ⟨_, rfl⟩
  have hv : itmV i = [.string i.s, iv (x.dt : Nat), .slice i.A i.n i.c, iv 0, .bool false, .bool false] := by
    unfold itmV; rw [hp.dt, hp.how, hp.wd, hp.ds]
  have hof : ∀ X q, Bk X q 25 [.slice i.A i.n i.c] → Fresh w X → Calls Tryz.prog 99 #[.slice (some ⟨q, 0, none⟩) 1 1] X fun e w' => e = .returned (.int .u32 S) ∧ Fresh X w' := fun X q hq hf => by
    refine crc.pieces_is (some ⟨q, 0, none⟩) 1 1 [⟨i.A, i.n, i.c, i.bs⟩] S X X.heap.size ⟨⟨rfl, fun _ => ⟨q, 0, rfl, hq.inside, fun j u hu => ?_⟩⟩, ?_⟩ (Nat.le_refl _) (by omega) ?_ ?_
    · rw [Nat.zero_add]; exact hq.cell hu
    · intro r hr
      rw [List.mem_singleton] at hr
      subst hr
      exact hd.fresh hf
    · intro r hr
      rw [List.mem_singleton] at hr
      subst hr
      exact hnl
    · rw [← hS, ← hp.bs]; simp [crc.flat]
  have henc := fun W (h : Fresh w W) => encode_any i.s x.rs [] (by rw [List.append_nil]; exact hp.s) hp.ok.rn (.inl rfl) W (by omega) (hU.fresh h)
  have hfin : ∀ N m c1, m = (encB x.rs []).length → headV (hd0 x) N c1 = [iv (fl x : Nat), iv 0, iv (x.dt : Nat), .int .u32 (S : Nat), iv 0, iv (i.n : Nat), iv 0, .slice N m c1, .bool false] := by
    intro N m c1 hm
    subst hm
    unfold headV hd0
    rw [hS, hxl]
    rfl
  have hfl : fl x = if encT x.rs [] then 2048 else 0 := rfl
  rw [hv]
  have hbi := (Bk.made w tItem #[.string i.s, iv (x.dt : Nat), .slice i.A i.n i.c, iv 0, .bool false, .bool false]).alloc (.cells #[iv 0, iv 0, iv 0, .int .u32 0, iv 0, iv 0, iv 0, .slice none 0 0, .bool false] tHead)
  have hbz := Bk.made (w.alloc (.cells #[.string i.s, iv (x.dt : Nat), .slice i.A i.n i.c, iv 0, .bool false, .bool false] tItem)) tHead #[iv 0, iv 0, iv 0, .int .u32 0, iv 0, iv 0, iv 0, .slice none 0 0, .bool false]
  have hal := (Fresh.alloc w (.cells #[.string i.s, iv (x.dt : Nat), .slice i.A i.n i.c, iv 0, .bool false, .bool false] tItem)).trans (Fresh.alloc _ (.cells #[iv 0, iv 0, iv 0, .int .u32 0, iv 0, iv 0, iv 0, .slice none 0 0, .bool false] tHead))
  have hz1 : (w.alloc (.cells #[.string i.s, iv (x.dt : Nat), .slice i.A i.n i.c, iv 0, .bool false, .bool false] tItem)).heap.size = w.heap.size + 1 := by simp
  rw [hz1] at hbz
  have hencI := henc _ hal
  have HE := Lib.hid hencI
  have HOF := Lib.hid hof
  have HFIN := Lib.hid hfin
  have HFL := Lib.hid hfl
  have HI := Lib.hid hbi
  have HZ := Lib.hid hbz
  have HF := Lib.hid hal
  clear hof henc hencI hfin hfl hbi hbz hal hz1 hv hU hsz hln hxl hnl hS hd hp
  generalize i.n = n at *
  generalize i.A = A at *
  generalize i.c = c at *
  generalize x.dt = dt at *
  go_enter Tryz.func51, Tryz.ntmps51
  go_upto_region 2 with (go_at_call 98; ((with_reducible refine HE.out.mono ?_); rintro e w1 ⟨N, m, c1, rfl, hm, hmc, hcm, hf1, hr1⟩; have HF1 := Lib.hid (HF.out.trans hf1); have HI1 := Lib.hid (HI.out.fresh hf1); have HZ1 := Lib.hid (HZ.out.fresh hf1); have HR1 := Lib.hid hr1; have HM := Lib.hid hm; clear hf1 hr1 hm hmc hcm))
  go_cut [5] (fun v wx => ∃ q, v = .pointer (some ⟨q, 0, none⟩) ∧ Hid (Bk wx q tHead [iv 0, iv 0, iv (dt : Nat), .int .u32 (S : Nat), iv 0, iv (n : Nat), iv 0, .slice N m c1, .bool false]) ∧ Hid (Fresh w wx) ∧ Hid (Bk wx (w.heap.size + 1) tHead [iv 0, iv 0, iv 0, .int .u32 0, iv 0, iv 0, iv 0, .slice none 0 0, .bool false]) ∧ Hid (Bk wx w.heap.size tItem [.string i.s, iv (dt : Nat), .slice A n c, iv 0, .bool false, .bool false]) ∧ Hid (Rd wx wx.heap.size N m ((encB x.rs []).map bv)) ∧ Hid (w.heap.size + 1 < q))
  case first =>
    have hS : ∀ w' : World, Fresh w1 w' → (w'.cell? ⟨w.heap.size, 1, none⟩ = some (iv (dt : Nat)) ∧ w'.cell? ⟨w.heap.size, 2, none⟩ = some (.slice A n c) ∧ w'.cell? ⟨w.heap.size, 4, none⟩ = some (.bool false)) := fun w' hf => ⟨(HI1.out.fresh hf).cell rfl, (HI1.out.fresh hf).cell rfl, (HI1.out.fresh hf).cell rfl⟩
    have HS := Lib.hid hS
    clear hS
    have HW0 := Lib.hid (HS.out (w1) (Fresh.refl _))
    have HW1 := Lib.hid (HS.out (w1.drew) (Fresh.drew _))
    have HW2 := Lib.hid (HS.out ((w1.alloc (.cells #[.slice A n c] 25)).drew) ((Fresh.alloc w1 (.cells #[.slice A n c] 25)).trans (Fresh.drew _)))
    have HW3 := Lib.hid (HS.out ((w1.alloc (.cells #[iv 0, iv 0, iv 0, .int .u32 0, iv 0, iv 0, iv 0, .slice none 0 0, .bool false] tHead)).drew) ((Fresh.alloc w1 (.cells #[iv 0, iv 0, iv 0, .int .u32 0, iv 0, iv 0, iv 0, .slice none 0 0, .bool false] tHead)).trans (Fresh.drew _)))
    have HW4 := Lib.hid (HS.out (((w1.alloc (.cells #[.slice A n c] 25)).alloc (.cells #[iv 0, iv 0, iv 0, .int .u32 0, iv 0, iv 0, iv 0, .slice none 0 0, .bool false] tHead)).drew) (((Fresh.alloc w1 (.cells #[.slice A n c] 25)).trans (Fresh.alloc _ (.cells #[iv 0, iv 0, iv 0, .int .u32 0, iv 0, iv 0, iv 0, .slice none 0 0, .bool false] tHead))).trans (Fresh.drew _)))
    have HW5 := Lib.hid (HS.out (((w1.alloc (.cells #[iv 0, iv 0, iv 0, .int .u32 0, iv 0, iv 0, iv 0, .slice none 0 0, .bool false] tHead)).alloc (.cells #[.slice A n c] 25)).drew) (((Fresh.alloc w1 (.cells #[iv 0, iv 0, iv 0, .int .u32 0, iv 0, iv 0, iv 0, .slice none 0 0, .bool false] tHead)).trans (Fresh.alloc _ (.cells #[.slice A n c] 25))).trans (Fresh.drew _)))
    have HA := Lib.hid (HOF.out ((w1.alloc (.cells #[.slice A n c] 25)).drew) w1.heap.size ((Bk.made w1 25 #[.slice A n c]).fresh (Fresh.drew _)) (HF1.out.trans ((Fresh.alloc w1 (.cells #[.slice A n c] 25)).trans (Fresh.drew _))))
    have HC := Lib.hid (HOF.out (((w1.alloc (.cells #[.slice A n c] 25)).alloc (.cells #[iv 0, iv 0, iv 0, .int .u32 0, iv 0, iv 0, iv 0, .slice none 0 0, .bool false] tHead)).drew) w1.heap.size (((Bk.made w1 25 #[.slice A n c]).alloc _).fresh (Fresh.drew _)) (HF1.out.trans (((Fresh.alloc w1 (.cells #[.slice A n c] 25)).trans (Fresh.alloc _ (.cells #[iv 0, iv 0, iv 0, .int .u32 0, iv 0, iv 0, iv 0, .slice none 0 0, .bool false] tHead))).trans (Fresh.drew _))))
    have HBo := Lib.hid (HOF.out (((w1.alloc (.cells #[iv 0, iv 0, iv 0, .int .u32 0, iv 0, iv 0, iv 0, .slice none 0 0, .bool false] tHead)).alloc (.cells #[.slice A n c] 25)).drew) (w1.heap.size + 1) (by have := (Bk.made (w1.alloc (.cells #[iv 0, iv 0, iv 0, .int .u32 0, iv 0, iv 0, iv 0, .slice none 0 0, .bool false] tHead)) 25 #[.slice A n c]).fresh (Fresh.drew _); simpa using this) (HF1.out.trans (((Fresh.alloc w1 (.cells #[iv 0, iv 0, iv 0, .int .u32 0, iv 0, iv 0, iv 0, .slice none 0 0, .bool false] tHead)).trans (Fresh.alloc _ (.cells #[.slice A n c] 25))).trans (Fresh.drew _))))
    go_region_held3 (fun w' => w'.cell? ⟨w.heap.size, 1, none⟩ = some (iv (dt : Nat)) ∧ w'.cell? ⟨w.heap.size, 2, none⟩ = some (.slice A n c) ∧ w'.cell? ⟨w.heap.size, 4, none⟩ = some (.bool false)) (first | with_reducible exact HW0.out | with_reducible exact HW1.out | with_reducible exact HW2.out | with_reducible exact HW3.out | with_reducible exact HW4.out | with_reducible exact HW5.out | with_reducible exact HK2.out | with_reducible exact HK4.out | with_reducible exact HK3.out)
      (first | (go_at_call 99; (first | ((with_reducible refine HA.out.mono ?_); rintro e w3 ⟨rfl, hf3⟩; have hf4 := ((Fresh.alloc w1 (.cells #[.slice A n c] 25)).trans (Fresh.drew _)).trans hf3; have hsz3 := hf4.size; have HK2 := Lib.hid (HS.out _ hf4); have HK4 := Lib.hid (HS.out _ (hf4.trans (Fresh.alloc w3 (.cells #[iv 0, iv 0, iv 0, .int .u32 0, iv 0, iv 0, iv 0, .slice none 0 0, .bool false] tHead)))); have hal3 := Fresh.alloc w3 (.cells #[iv 0, iv 0, iv (dt : Nat), .int .u32 (S : Nat), iv 0, iv (n : Nat), iv 0, .slice N m c1, .bool false] tHead); have HK3 := Lib.hid (HS.out _ (hf4.trans hal3)); have HX3 := Lib.hid (hf4.trans hal3); have HB3 := Lib.hid (Bk.made w3 tHead #[iv 0, iv 0, iv (dt : Nat), .int .u32 (S : Nat), iv 0, iv (n : Nat), iv 0, .slice N m c1, .bool false]); clear hf3 hf4 hal3) | ((with_reducible refine HC.out.mono ?_); rintro e w3 ⟨rfl, hf3⟩; have hf4 := (((Fresh.alloc w1 (.cells #[.slice A n c] 25)).trans (Fresh.alloc _ (.cells #[iv 0, iv 0, iv 0, .int .u32 0, iv 0, iv 0, iv 0, .slice none 0 0, .bool false] tHead))).trans (Fresh.drew _)).trans hf3; have hsz3 := hf4.size; have HK2 := Lib.hid (HS.out _ hf4); have HBB := Lib.hid (((show Bk ((w1.alloc (.cells #[.slice A n c] 25)).alloc (.cells #[iv 0, iv 0, iv 0, .int .u32 0, iv 0, iv 0, iv 0, .slice none 0 0, .bool false] tHead)) (w1.heap.size + 1) tHead [iv 0, iv 0, iv 0, .int .u32 0, iv 0, iv 0, iv 0, .slice none 0 0, .bool false] by have := Bk.made (w1.alloc (.cells #[.slice A n c] 25)) tHead #[iv 0, iv 0, iv 0, .int .u32 0, iv 0, iv 0, iv 0, .slice none 0 0, .bool false]; simpa using this).fresh (Fresh.drew _)).fresh hf3); have z0 := HBB.out.cell (i := 0) rfl; have zf0 := HBB.out.free 0; have z1 := HBB.out.cell (i := 1) rfl; have zf1 := HBB.out.free 1; have z2 := HBB.out.cell (i := 2) rfl; have zf2 := HBB.out.free 2; have z3 := HBB.out.cell (i := 3) rfl; have zf3 := HBB.out.free 3; have z4 := HBB.out.cell (i := 4) rfl; have zf4 := HBB.out.free 4; have z5 := HBB.out.cell (i := 5) rfl; have zf5 := HBB.out.free 5; have z6 := HBB.out.cell (i := 6) rfl; have zf6 := HBB.out.free 6; have z7 := HBB.out.cell (i := 7) rfl; have zf7 := HBB.out.free 7; have z8 := HBB.out.cell (i := 8) rfl; have zf8 := HBB.out.free 8; have hset := (sets_turn (S := [w1.heap.size + 1]) w3 [(⟨w1.heap.size + 1, 0, none⟩, iv 0), (⟨w1.heap.size + 1, 1, none⟩, iv 0), (⟨w1.heap.size + 1, 2, none⟩, iv (dt : Nat)), (⟨w1.heap.size + 1, 3, none⟩, .int .u32 (S : Nat)), (⟨w1.heap.size + 1, 4, none⟩, iv 0), (⟨w1.heap.size + 1, 5, none⟩, iv (n : Nat)), (⟨w1.heap.size + 1, 6, none⟩, iv 0), (⟨w1.heap.size + 1, 7, none⟩, .slice N m c1), (⟨w1.heap.size + 1, 8, none⟩, .bool false)] (by simp)).new hf4 (by simp); have hk5 := HS.out _ hset; simp only [sets] at hk5 hset; have HK3 := Lib.hid hk5; have HX3 := Lib.hid hset; have HB3 := Lib.hid (((((((((((HBB.out).put 0 (iv 0)).put 1 (iv 0)).put 2 (iv (dt : Nat))).put 3 (.int .u32 (S : Nat))).put 4 (iv 0)).put 5 (iv (n : Nat))).put 6 (iv 0)).put 7 (.slice N m c1)).put 8 (.bool false))); clear hf3 hf4 hk5 hset) | ((with_reducible refine HBo.out.mono ?_); rintro e w3 ⟨rfl, hf3⟩; have hf4 := (((Fresh.alloc w1 (.cells #[iv 0, iv 0, iv 0, .int .u32 0, iv 0, iv 0, iv 0, .slice none 0 0, .bool false] tHead)).trans (Fresh.alloc _ (.cells #[.slice A n c] 25))).trans (Fresh.drew _)).trans hf3; have hsz3 := hf4.size; have HK2 := Lib.hid (HS.out _ hf4); have HBB := Lib.hid ((((Bk.made w1 tHead #[iv 0, iv 0, iv 0, .int .u32 0, iv 0, iv 0, iv 0, .slice none 0 0, .bool false]).alloc _).fresh (Fresh.drew _)).fresh hf3); have z0 := HBB.out.cell (i := 0) rfl; have zf0 := HBB.out.free 0; have z1 := HBB.out.cell (i := 1) rfl; have zf1 := HBB.out.free 1; have z2 := HBB.out.cell (i := 2) rfl; have zf2 := HBB.out.free 2; have z3 := HBB.out.cell (i := 3) rfl; have zf3 := HBB.out.free 3; have z4 := HBB.out.cell (i := 4) rfl; have zf4 := HBB.out.free 4; have z5 := HBB.out.cell (i := 5) rfl; have zf5 := HBB.out.free 5; have z6 := HBB.out.cell (i := 6) rfl; have zf6 := HBB.out.free 6; have z7 := HBB.out.cell (i := 7) rfl; have zf7 := HBB.out.free 7; have z8 := HBB.out.cell (i := 8) rfl; have zf8 := HBB.out.free 8; have hset := (sets_turn (S := [w1.heap.size]) w3 [(⟨w1.heap.size, 0, none⟩, iv 0), (⟨w1.heap.size, 1, none⟩, iv 0), (⟨w1.heap.size, 2, none⟩, iv (dt : Nat)), (⟨w1.heap.size, 3, none⟩, .int .u32 (S : Nat)), (⟨w1.heap.size, 4, none⟩, iv 0), (⟨w1.heap.size, 5, none⟩, iv (n : Nat)), (⟨w1.heap.size, 6, none⟩, iv 0), (⟨w1.heap.size, 7, none⟩, .slice N m c1), (⟨w1.heap.size, 8, none⟩, .bool false)] (by simp)).new hf4 (by simp); have hk5 := HS.out _ hset; simp only [sets] at hk5 hset; have HK3 := Lib.hid hk5; have HX3 := Lib.hid hset; have HB3 := Lib.hid (((((((((((HBB.out).put 0 (iv 0)).put 1 (iv 0)).put 2 (iv (dt : Nat))).put 3 (.int .u32 (S : Nat))).put 4 (iv 0)).put 5 (iv (n : Nat))).put 6 (iv 0)).put 7 (.slice N m c1)).put 8 (.bool false))); clear hf3 hf4 hk5 hset))))
    all_goals go_wp2
    all_goals go_meet
    all_goals exact ⟨_, rfl, HB3, Lib.hid (HF1.out.trans HX3.out), Lib.hid (HZ1.out.fresh HX3.out), Lib.hid (HI1.out.fresh HX3.out), Lib.hid (HR1.out.fresh HX3.out), Lib.hid (by have := HZ1.out.inside; omega)⟩
  case rest =>
    obtain ⟨q, rfl, HQ, HFx, HZx, HIx, HRx, HLT⟩ := hcut
    clear HE HOF HI HZ HF HF1 HI1 HZ1 HR1
    have k5 := HIx.out.cell (i := 5) rfl
    have hor := or_2048
    have q0 := HQ.out.cell (i := 0) rfl
    have qf := HQ.out.free 0
    by_cases hT : encT x.rs [] = true
    · have hfl := HFL.out
      rw [if_pos hT] at hfl
      rw [hT]
      have HQ2 := Lib.hid (HQ.out.put 0 (iv 2048))
      have HF2 := Lib.hid (HFx.out.but (g := q) (by have := HLT.out; omega) (But.put (g := q) (i := 0) wc (iv 2048)))
      have HZ2 := Lib.hid (HZx.out.apart (p := ⟨q, 0, none⟩) (by have := HLT.out; simp; omega) (iv 2048))
      have hrx := HRx.out.off (Nat.le_refl _) HQ.out rfl (But.put (g := q) (i := 0) wc (iv 2048))
      have HR2 := Lib.hid hrx
      clear hrx
      have k52 := (HIx.out.apart (p := ⟨q, 0, none⟩) (by have := HLT.out; simp; omega) (iv 2048)).cell (i := 5) rfl
      clear hT
      go_wp2_with (first
        | ((with_reducible (refine at_slot_ 36 ?_)); refine wpList_load_whole rfl tHead (.tmp 5) rfl q tHead _ 9 rfl rfl HQ2.out _ Tryz.underlying73 rfl size_head ?_)
        | ((with_reducible (refine at_store_ 2 36 ?_)); refine wpList_store_row (o := ⟨none, _, _, _, _, _⟩) rfl tHead (.tmp 2) (.tmp 36) rfl (w.heap.size + 1) #[iv 2048, iv 0, iv (dt : Nat), .int .u32 (S : Nat), iv 0, iv (n : Nat), iv 0, .slice N m c1, .bool false] rfl rfl tHead _ HZ2.out (by kernel_rfl) (by rfl) (all_one [iv 2048, iv 0, iv (dt : Nat), .int .u32 (S : Nat), iv 0, iv (n : Nat), iv 0, .slice N m c1, .bool false] (by intro v hv; simp only [List.mem_cons, List.not_mem_nil, or_false] at hv; rcases hv with rfl | rfl | rfl | rfl | rfl | rfl | rfl | rfl | rfl <;> rfl)) ?_))
      refine bodyPost_ret (results_cell_row (p := 2) (by kernel_rfl) _ _ (w.heap.size + 1) tHead #[iv 2048, iv 0, iv (dt : Nat), .int .u32 (S : Nat), iv 0, iv (n : Nat), iv 0, .slice N m c1, .bool false] (0, 0) _ rfl (HZ2.out.row _) Tryz.underlying73 rfl (by kernel_rfl)) rfl ⟨N, c1, ?_, HF2.out.but (by omega) (But.row _ _ _), ?_⟩
      · rw [HFIN.out N m c1 HM.out, hfl]; rfl
      · rw [← HM.out]
        exact HR2.out.off (Nat.le_refl _) HZ2.out rfl (But.row _ _ _)
    · have hT' : encT x.rs [] = false := by simpa using hT
      have hfl := HFL.out
      rw [if_neg hT] at hfl
      rw [hT']
      clear hT hT'
      go_wp2_with (first
        | ((with_reducible (refine at_slot_ 36 ?_)); refine wpList_load_whole rfl tHead (.tmp 5) rfl q tHead _ 9 rfl rfl HQ.out _ Tryz.underlying73 rfl size_head ?_)
        | ((with_reducible (refine at_store_ 2 36 ?_)); refine wpList_store_row (o := ⟨none, _, _, _, _, _⟩) rfl tHead (.tmp 2) (.tmp 36) rfl (w.heap.size + 1) #[iv 0, iv 0, iv (dt : Nat), .int .u32 (S : Nat), iv 0, iv (n : Nat), iv 0, .slice N m c1, .bool false] rfl rfl tHead _ HZx.out (by kernel_rfl) (by rfl) (all_one [iv 0, iv 0, iv (dt : Nat), .int .u32 (S : Nat), iv 0, iv (n : Nat), iv 0, .slice N m c1, .bool false] (by intro v hv; simp only [List.mem_cons, List.not_mem_nil, or_false] at hv; rcases hv with rfl | rfl | rfl | rfl | rfl | rfl | rfl | rfl | rfl <;> rfl)) ?_))
      refine bodyPost_ret (results_cell_row (p := 2) (by kernel_rfl) _ _ (w.heap.size + 1) tHead #[iv 0, iv 0, iv (dt : Nat), .int .u32 (S : Nat), iv 0, iv (n : Nat), iv 0, .slice N m c1, .bool false] (0, 0) _ rfl (HZx.out.row _) Tryz.underlying73 rfl (by kernel_rfl)) rfl ⟨N, c1, ?_, HFx.out.but (by omega) (But.row _ _ _), ?_⟩
      · rw [HFIN.out N m c1 HM.out, hfl]; rfl
      · rw [← HM.out]
        exact HRx.out.off (Nat.le_refl _) HZx.out rfl (But.row _ _ _)
end Go.Proofs.YtmnegmebkmihhaaGreatDoor.zipp
