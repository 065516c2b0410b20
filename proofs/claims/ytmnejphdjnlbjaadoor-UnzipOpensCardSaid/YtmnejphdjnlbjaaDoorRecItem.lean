/-
  The reference's item: my own text.
-/
import Derived.Test.YtmnejphdjnlbjaaDoorRecRef3
namespace Go.Proofs.YtmnejphdjnlbjaaDoor.recp
open Go.RowKit Go.Proofs.YtmnejphdjnlbjaaDoor.base Go.Proofs.YtmnejphdjnlbjaaDoor.num Go.Proofs.YtmnejphdjnlbjaaDoor.word Go.Proofs.YtmnejphdjnlbjaaDoor.recn
set_option linter.unusedVariables false
abbrev tBes : TypeId := 110
def besZ : List Value := [.slice none 0 0, .bool false, .bool false]
def ItemIs (B : Nat) (w : World) (r : Option (List UInt8)) (e : Ending) (w' : World) : Prop :=
  Fresh w w' ∧ match r with
  | none => e = .returned (.agg #[.slice none 0 0, .bool false, .bool false])
  | some f => ∃ F c is, e = .returned (.agg #[.slice F f.length c, .bool is, .bool true]) ∧ f.length ≤ c ∧ c ≤ maxLen ∧ f.length ≤ 65535 ∧ Rd w' B F f.length (f.map bv)
structure ItemAt (B : Nat) (w : World) (xs : List UInt8) (p : Nat) (is : Bool) (F : Option Addr) (nF cF : Nat) (f : List UInt8) (wr : World) : Prop where
  res : Bk wr w.heap.size tBes besZ
  out : Bk wr (w.heap.size + 1) tBes [.slice F nF cF, .bool is, .bool true]
  fresh : Fresh w wr
  rdF : Rd wr B F nF (f.map bv)
  capF : nF ≤ cF
  maxF : cF ≤ maxLen
  lenF : nF ≤ 65535
  same : items (xs.drop p) is f = items xs false []
theorem ItemAt.lf {B : Nat} {w : World} {xs : List UInt8} {p : Nat} {is : Bool} {F : Option Addr} {nF cF : Nat} {f : List UInt8} {wr : World} (h : ItemAt B w xs p is F nF cF f wr) : f.length = nF := by
  have := h.rdF.1; rwa [List.length_map] at this
theorem item_start (B : Nat) (w : World) (xs : List UInt8) : ItemAt B w xs 0 false none 0 0 [] ((w.alloc (.cells besZ.toArray tBes)).alloc (.cells #[.slice none 0 0, .bool false, .bool true] tBes)) where
  res := (Bk.made w tBes _).alloc _
  out := by
    have h := Bk.made (w.alloc (.cells besZ.toArray tBes)) tBes #[.slice none 0 0, .bool false, .bool true]
    have e : (w.alloc (.cells besZ.toArray tBes)).heap.size = w.heap.size + 1 := by simp
    rwa [e] at h
  fresh := (Fresh.alloc _ _).trans (Fresh.alloc _ _)
  rdF := Rd.nil _ _ _
  capF := Nat.le_refl _
  maxF := Nat.zero_le _
  lenF := Nat.zero_le _
  same := rfl
theorem ItemAt.next {B : Nat} {w : World} {xs : List UInt8} {p : Nat} {is : Bool} {F : Option Addr} {nF cF : Nat} {f : List UInt8} {wr : World} (h : ItemAt B w xs p is F nF cF f wr) {lo : Nat} (hs : items (xs.drop (p + (4 + lo))) is f = items xs false []) : ItemAt B w xs (p + (4 + lo)) is F nF cF f wr :=
  { h with same := hs }
theorem ItemAt.took {B : Nat} {w : World} {xs : List UInt8} {p : Nat} {F : Option Addr} {nF cF : Nat} {f : List UInt8} {wr : World} (h : ItemAt B w xs p false F nF cF f wr) {lo n c : Nat} {A : Option Addr} (hr : Rd w B A n (xs.map bv)) (hB : B ≤ w.heap.size) (hc : n ≤ c) (hm : c ≤ maxLen) (hn : n ≤ 65535) (hl : p + 4 + lo ≤ n)
    (hs : items (xs.drop (p + (4 + lo))) true ((xs.drop (p + 4)).take lo) = items xs false []) :
    ItemAt B w xs (p + (4 + lo)) true (if c = p + 4 then A else A.map (·.add (p + 4))) lo (c - (p + 4)) ((xs.drop (p + 4)).take lo) ((wr.setCell ⟨w.heap.size + 1, 1, none⟩ (.bool true)).setCell ⟨w.heap.size + 1, 0, none⟩ (.slice (if c = p + 4 then A else A.map (·.add (p + 4))) lo (c - (p + 4)))) where
  res := (h.res.apart (p := ⟨w.heap.size + 1, 1, none⟩) (by simp) _).apart (p := ⟨w.heap.size + 1, 0, none⟩) (by simp) _
  out := (h.out.put 1 _).put 0 _
  fresh := (h.fresh.but (by omega) (But.put (g := w.heap.size + 1) (i := 1) _ _)).but (by omega) (But.put (g := w.heap.size + 1) (i := 0) _ _)
  rdF := by
    have h1 := ((h.fresh.but (by omega) (But.put (g := w.heap.size + 1) (i := 1) _ (.bool true))).but (by omega) (But.put (g := w.heap.size + 1) (i := 0) _ (.slice (if c = p + 4 then A else A.map (·.add (p + 4))) lo (c - (p + 4)))))
    exact cut_one (hr.keep fun i hi => h1.block i (by omega)) (p := p + 4) (k := lo) (by omega) hc
  capF := by omega
  maxF := by omega
  lenF := by omega
  same := hs
set_option maxRecDepth 100000 in
set_option maxHeartbeats 4000000 in
theorem item_any (A : Option Addr) (n c : Nat) (xs : List UInt8) (w : World) (B : Nat) (hr : Rd w B A n (xs.map bv)) (hB : B ≤ w.heap.size) (hc : n ≤ c) (hm : c ≤ maxLen) (hn : n ≤ 65535) :
    Calls Tryd.prog 55 #[.slice A n c] w (ItemIs B w (items xs false [])) := by
  have hl : xs.length = n := by have := hr.1; rwa [List.length_map] at this
  have hat : ∀ (z : Int) (p : Nat), z = (p : Int) → p + 2 ≤ n → ∀ W, Fresh w W → Calls Tryd.prog 30 #[.slice A n c, .int .i64 z, .int .i64 2] W fun e w' => e = .returned (.int .i64 (nm xs p 2 : Nat)) ∧ W = w' := fun z p hz hp W hW =>
    at24 A n c xs z p 2 W B (hr.keep fun i hi => hW.block i (by omega)) hz hc hm (by omega) (.inl rfl) hp
  have HAT := Lib.hid hat
  have HL := Lib.hid hl
  have HR := Lib.hid hr
  have HST := Lib.hid (item_start B w xs)
  have HMAX : RowKit.Hid (c ≤ maxLen) := hm
  unfold maxLen at hm
  clear hat hl hr
  go_enter Tryd.func55, Tryd.ntmps55
  go_wp2
  go_loopw [4] (fun i wr => ∃ (p nF cF : Nat) (F : Option Addr) (f : List UInt8) (is : Bool), p ≤ n ∧ i = .int .i64 p ∧ Hid (ItemAt B w xs p is F nF cF f wr)) (fun i _ => n - (intOf i).toNat)
  case atStart => exact ⟨0, 0, 0, none, [], false, by omega, rfl, HST⟩
  case round =>
    obtain ⟨p, nF, cF, F, f, is, hp, rfl, hAt⟩ := hrel
    have hld : (xs.drop p).length = n - p := by rw [List.length_drop, HL.out]
    by_cases h0 : p = n
    · have hx : xs.drop p = [] := List.eq_nil_of_length_eq_zero (by omega)
      have hs := hAt.out.same
      rw [hx, items_nil] at hs
      have HS := Lib.hid hs
      have o0 := hAt.out.out.cell (i := 0) rfl
      have o1 := hAt.out.out.cell (i := 1) rfl
      have o2 := hAt.out.out.cell (i := 2) rfl
      clear hs hx hld
      subst h0
      have hall : (#[.slice F nF cF, .bool is, .bool true] : Array Value).all (·.oneCell') = true := all_one [.slice F nF cF, .bool is, .bool true] (by
        intro v hv
        simp only [List.mem_cons, List.not_mem_nil, or_false] at hv
        rcases hv with rfl | rfl | rfl <;> rfl)
      have HALL := Lib.hid hall
      clear hall
      go_wp2_with (refine wpList_store_row (o := ⟨none, _, _, _, _, _⟩) rfl tBes (.tmp 2) (.tmp 52) rfl w.heap.size #[.slice F nF cF, .bool is, .bool true] rfl rfl tBes _ hAt.out.res (by kernel_rfl) (by rfl) HALL.out ?_)
      exact bodyPost_ret (results_cell_row (p := 2) (by kernel_rfl) _ _ w.heap.size tBes #[.slice F nF cF, .bool is, .bool true] (0, 0) _ rfl (hAt.out.res.row _) Tryd.underlying110 rfl (by kernel_rfl)) rfl ⟨hAt.out.fresh.but (Nat.le_refl _) (But.row _ _ _), by
        rw [← HS.out]
        have hlf := hAt.out.lf
        subst hlf
        exact ⟨F, cF, is, rfl, hAt.out.capF, hAt.out.maxF, hAt.out.lenF, hAt.out.rdF.but (Nat.le_trans hB hAt.out.fresh.size) hB (But.row _ _ _)⟩⟩
    · by_cases h4 : n < p + 4
      · have hs := hAt.out.same
        rw [items_short _ _ _ (by omega) (by omega)] at hs
        have HS := Lib.hid hs
        clear hs hld
        go_wp2_with (refine wpList_store_row (o := ⟨none, _, _, _, _, _⟩) rfl tBes (.tmp 2) (.tmp 16) rfl w.heap.size besZ.toArray rfl rfl tBes _ hAt.out.res (by kernel_rfl) (by rfl) (by kernel_rfl) ?_)
        exact bodyPost_ret (results_cell_row (p := 2) (by kernel_rfl) _ _ w.heap.size tBes besZ.toArray (0, 0) _ rfl (hAt.out.res.row _) Tryd.underlying110 rfl (by kernel_rfl)) rfl ⟨hAt.out.fresh.but (Nat.le_refl _) (But.row _ _ _), by
          rw [← HS.out]
          rfl⟩
      · have hN2 := HAT.out ((p : Int) + 2) (p + 2) (by omega) (by omega) wr hAt.out.fresh
        have hN0 := HAT.out (p : Int) p rfl (by omega) wr hAt.out.fresh
        have hend := items_end (xs.drop p) is f (by omega)
        have hstp := items_step (xs.drop p) is f
        have e2 : nm (xs.drop p) 2 2 = nm xs (p + 2) 2 := nm_drop _ _ _ _
        have e0 : nm (xs.drop p) 0 2 = nm xs p 2 := nm_drop _ _ _ _
        rw [e2, hld] at hend
        rw [e2, e0, hld, List.drop_drop, List.drop_drop] at hstp
        have hlo := nm2 xs (p + 2)
        generalize nm xs (p + 2) 2 = lo at *
        generalize nm xs p 2 = nu at *
        have HN2 := Lib.hid hN2
        have HN0 := Lib.hid hN0
        have hs := hAt.out.same
        clear hN2 hN0 e2 e0 hld
        by_cases hl : n < p + 4 + lo
        · rw [hend (by omega)] at hs
          have HS := Lib.hid hs
          clear hs hend hstp
          go_wp2_with (first
            | (go_at_call 30; ((with_reducible refine HN2.out.mono ?_); rintro e w1 ⟨rfl, rfl⟩))
            | (refine wpList_store_row (o := ⟨none, _, _, _, _, _⟩) rfl tBes (.tmp 2) (.tmp 28) rfl w.heap.size besZ.toArray rfl rfl tBes _ hAt.out.res (by kernel_rfl) (by rfl) (by kernel_rfl) ?_))
          exact bodyPost_ret (results_cell_row (p := 2) (by kernel_rfl) _ _ w.heap.size tBes besZ.toArray (0, 0) _ rfl (hAt.out.res.row _) Tryd.underlying110 rfl (by kernel_rfl)) rfl ⟨hAt.out.fresh.but (Nat.le_refl _) (But.row _ _ _), by
            rw [← HS.out]
            rfl⟩
        · rw [hstp (by omega)] at hs
          have o1 := hAt.out.out.cell (i := 1) rfl
          have o0 := hAt.out.out.cell (i := 0) rfl
          have z0 := hAt.out.out.free 0
          have z1 := hAt.out.out.free 1
          by_cases hn1 : nu = 1
          · have h1 : ((nu : Int) == 1) = true := by rw [beq_iff_eq]; omega
            rw [show (nu == 1) = true from by rw [beq_iff_eq]; exact hn1] at hs
            clear hend hstp hn1
            cases is
            · simp only [Bool.false_or, Bool.not_false, Bool.and_true, if_true] at hs
              have HTK := Lib.hid (hAt.out.took HR.out hB hc HMAX.out hn (by omega) hs)
              clear hs
              go_wp2_with (first
                | (go_at_call 30; ((with_reducible refine HN2.out.mono ?_); rintro e w1 ⟨rfl, rfl⟩))
                | (go_at_call 30; ((with_reducible refine HN0.out.mono ?_); rintro e w1 ⟨rfl, rfl⟩)))
              exact ⟨⟨p + (4 + lo), _, _, _, _, true, by omega, by go_num, HTK⟩, by simp [intOf]; omega⟩
            · simp only [Bool.true_or, Bool.not_true, Bool.and_false, Bool.false_eq_true, if_false] at hs
              have HNX := Lib.hid (hAt.out.next hs)
              clear hs
              go_wp2_with (first
                | (go_at_call 30; ((with_reducible refine HN2.out.mono ?_); rintro e w1 ⟨rfl, rfl⟩))
                | (go_at_call 30; ((with_reducible refine HN0.out.mono ?_); rintro e w1 ⟨rfl, rfl⟩)))
              go_roundw
              case rel => exact ⟨p + (4 + lo), _, _, _, _, _, by omega, by go_num, HNX⟩
              case measure => simp [intOf]; omega
          · have h1 : ((nu : Int) == 1) = false := by rw [beq_eq_false_iff_ne]; omega
            rw [show (nu == 1) = false from by rw [beq_eq_false_iff_ne]; exact hn1] at hs
            simp only [Bool.or_false, Bool.false_and, Bool.false_eq_true, if_false] at hs
            have HNX := Lib.hid (hAt.out.next hs)
            clear hs hend hstp hn1
            go_wp2_with (first
              | (go_at_call 30; ((with_reducible refine HN2.out.mono ?_); rintro e w1 ⟨rfl, rfl⟩))
              | (go_at_call 30; ((with_reducible refine HN0.out.mono ?_); rintro e w1 ⟨rfl, rfl⟩)))
            go_roundw
            case rel => exact ⟨p + (4 + lo), _, _, _, _, _, by omega, by go_num, HNX⟩
            case measure => simp [intOf]; omega
end Go.Proofs.YtmnejphdjnlbjaaDoor.recp
