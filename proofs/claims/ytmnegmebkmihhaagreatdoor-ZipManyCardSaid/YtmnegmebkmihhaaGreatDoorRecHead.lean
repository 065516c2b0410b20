import Derived.Test.YtmnegmebkmihhaaGreatDoorMgRec
import Derived.Laws.ResultCell
import Derived.Deep.DeepCutAuto
/-
  record's begun, GetLocal, GetCentral: my own text.
-/
namespace Go.Proofs.YtmnegmebkmihhaaGreatDoor.recp
open Go.RowKit Go.Proofs.YtmnegmebkmihhaaGreatDoor.base Go.Proofs.YtmnegmebkmihhaaGreatDoor.num Go.Proofs.YtmnegmebkmihhaaGreatDoor.word Go.Proofs.YtmnegmebkmihhaaGreatDoor.recn
set_option linter.unusedVariables false
/-- what is behind the mark, of so many bytes in all -/
def bg (xs : List UInt8) (p : Int) (ms : List UInt8) (long : Nat) : Except Nat (List UInt8) :=
  if p < 0 then .error 1 else
  if xs.length < p.toNat + 4 then .error 3 else
  if ((xs.drop p.toNat).take 4 == ms) = false then .error 4 else
  if xs.length < p.toNat + long then .error 3 else .ok ((xs.drop (p.toNat + 4)).take (long - 4))
def BegunIs (w : World) (r : Except Nat (List UInt8)) (e : Ending) (w' : World) : Prop :=
  Fresh w w' ∧ match r with
  | .error k => e = .returned (.tuple #[.slice none 0 0, .int .i64 k])
  | .ok ys => ∃ A c, e = .returned (.tuple #[.slice A ys.length c, .int .i64 0]) ∧ Own w' w.heap.size 5 A ys.length c (ys.map bv)
theorem Own.up {w : World} {b b' : Nat} {e : TypeId} {A : Option Addr} {n c : Nat} {xs : List Value} (h : Own w b e A n c xs) (hb : b' ≤ b) : Own w b' e A n c xs :=
  ⟨h.1, h.2.imp id fun ⟨g, cap, cur, hv, hg, r⟩ => ⟨g, cap, cur, hv, Nat.le_trans hb hg, r⟩⟩
set_option maxRecDepth 100000 in
set_option maxHeartbeats 4000000 in
theorem begun_any (A : Option Addr) (n c : Nat) (xs : List UInt8) (p : Int) (s : ByteArray) (ms : List UInt8) (long : Nat) (w : World) (B : Nat) (hr : Rd w B A n (xs.map bv)) (hB : B ≤ w.heap.size) (hc : n ≤ c) (hm : c ≤ maxLen) (hn : n ≤ 1099511627776)
    (hp1 : -9223372036854775808 ≤ p) (hp2 : p ≤ 9223372036854775807) (hs : s.data.toList = ms) (hms : ms.length = 4) (hlong : 4 ≤ long ∧ long ≤ 100) :
    Calls Tryz.prog 131 #[.slice A n c, .int .i64 p, .string s, .int .i64 long] w (BegunIs w (bg xs p ms long)) := by
  have hlx : xs.length = n := by have := hr.1; rwa [List.length_map] at this
  have hmn : n ≤ maxLen := by unfold maxLen; omega
  by_cases h1 : p < 0
  · have hres : bg xs p ms long = .error 1 := by unfold bg; rw [if_pos h1]
    rw [hres]
    clear hres
    go_enter Tryz.func131, Tryz.ntmps131
    go_wp2_with (go_at_call 134; ((with_reducible refine (cut_arg _ _ _ _ _ _ (.inl h1)).mono ?_); rintro e w' ⟨rfl, rfl⟩))
    go_ret2
    exact ⟨Fresh.refl _, rfl⟩
  · obtain ⟨q, rfl⟩ : ∃ q : Nat, p = (q : Int) := ⟨p.toNat, by omega⟩
    by_cases h2 : n < q + 4
    · have hres : bg xs q ms long = .error 3 := by unfold bg; rw [if_neg h1, if_pos (by rw [hlx]; simpa using h2)]
      rw [hres]
      clear hres
      go_enter Tryz.func131, Tryz.ntmps131
      go_wp2_with (go_at_call 134; ((with_reducible refine (cut_end _ _ _ _ _ _ hmn (by omega) (by omega) (by omega) (by omega)).mono ?_); rintro e w' ⟨rfl, rfl⟩))
      go_ret2
      exact ⟨Fresh.refl _, rfl⟩
    · have hcut := fun W (k : Fresh w W) => cut_is A n c xs ((xs.drop q).take 4) (q : Int) 4 4 W B (hr.keep fun i hi => k.block i (by omega)) (by have := k.size; omega) hc hm (by omega) rfl (by simp; omega) hn (by simp)
      have hl4 : ((xs.drop q).take 4).length = 4 := by rw [List.length_take, List.length_drop]; omega
      have hbeg := fun (W : World) A1 c1 (h : Rd W W.heap.size A1 4 (((xs.drop q).take 4).map bv)) => begins_any A1 4 c1 ((xs.drop q).take 4) s ms W W.heap.size h (Nat.le_refl _) (Nat.le_refl _) (by unfold maxLen; omega) hs hms
      rw [List.take_of_length_le (l := (xs.drop q).take 4) (by omega)] at hbeg
      have HCUT := Lib.hid hcut
      by_cases h3 : ((xs.drop q).take 4 == ms) = false
      · have hres : bg xs q ms long = .error 4 := by unfold bg; rw [if_neg h1, if_neg (by rw [hlx]; simpa using h2), Int.toNat_natCast, if_pos h3]
        rw [hres]
        rw [h3] at hbeg
        have HBEG := Lib.hid hbeg
        clear hres hcut hbeg h3 hl4 hr
        go_enter Tryz.func131, Tryz.ntmps131
        go_wp2_with (first
          | (go_at_call 134; ((with_reducible refine (HCUT.out _ (Fresh.refl _)).mono ?_); rintro e w1 ⟨A1, c1, rfl, hf1, ho1⟩; have HF1 := Lib.hid hf1; have HO1 := Lib.hid ho1; clear hf1 ho1))
          | (go_at_call 127; ((with_reducible refine (HBEG.out _ _ _ HO1.out.rd).mono ?_); rintro e w2 ⟨rfl, hf2⟩)))
        go_ret2
        exact ⟨HF1.out.trans hf2, rfl⟩
      · have h3' : ((xs.drop q).take 4 == ms) = true := by simpa using h3
        rw [h3'] at hbeg
        have HBEG := Lib.hid hbeg
        by_cases h4 : n < q + long
        · have hres : bg xs q ms long = .error 3 := by unfold bg; rw [if_neg h1, if_neg (by rw [hlx]; simpa using h2), Int.toNat_natCast, if_neg h3, if_pos (by omega)]
          rw [hres]
          clear hres hcut hbeg h3 h3' hl4 hr
          go_enter Tryz.func131, Tryz.ntmps131
          go_wp2_with (first
            | (go_at_call 134; ((with_reducible refine (HCUT.out _ (Fresh.refl _)).mono ?_); rintro e w1 ⟨A1, c1, rfl, hf1, ho1⟩; have HF1 := Lib.hid hf1; have HO1 := Lib.hid ho1; clear hf1 ho1))
            | (go_at_call 127; ((with_reducible refine (HBEG.out _ _ _ HO1.out.rd).mono ?_); rintro e w2 ⟨rfl, hf2⟩))
            | (go_at_call 134; ((with_reducible refine (cut_end _ _ _ _ _ _ hmn (by omega) (by omega) (by omega) (by omega)).mono ?_); rintro e w' ⟨rfl, rfl⟩)))
          go_ret2
          exact ⟨HF1.out.trans hf2, rfl⟩
        · have hres : bg xs q ms long = .ok ((xs.drop (q + 4)).take (long - 4)) := by unfold bg; rw [if_neg h1, if_neg (by rw [hlx]; simpa using h2), Int.toNat_natCast, if_neg h3, if_neg (by omega)]
          rw [hres]
          obtain ⟨k, rfl⟩ : ∃ k, long = k + 4 := ⟨long - 4, by omega⟩
          have hl5 : ((xs.drop (q + 4)).take k).length = k := by rw [List.length_take, List.length_drop]; omega
          have hcut2 := fun W (h : Fresh w W) => cut_is A n c xs ((xs.drop (q + 4)).take k) ((q : Int) + 4) (k : Int) k W B (hr.keep fun i hi => h.block i (by omega)) (by have := h.size; omega) hc hm (by omega) rfl (by omega) hn (by rw [show ((q : Int) + 4).toNat = q + 4 from by omega])
          rw [show k + 4 - 4 = k from by omega]
          have HCUT2 := Lib.hid hcut2
          have HL5 := Lib.hid hl5
          have hk4 : ((k + 4 : Nat) : Int) - 4 = (k : Int) := by omega
          clear hres hcut hbeg h3 h3' hl4 hr hcut2 hl5
          go_enter Tryz.func131, Tryz.ntmps131
          go_wp2_with (first
            | (go_at_call 134; ((with_reducible refine (HCUT.out _ (Fresh.refl _)).mono ?_); rintro e w1 ⟨A1, c1, rfl, hf1, ho1⟩; have HF1 := Lib.hid hf1; have HO1 := Lib.hid ho1; clear hf1 ho1))
            | (go_at_call 127; ((with_reducible refine (HBEG.out _ _ _ HO1.out.rd).mono ?_); rintro e w2 ⟨rfl, hf2⟩; have HF2 := Lib.hid (HF1.out.trans hf2); clear hf2))
            | (go_at_call 134; ((with_reducible refine (HCUT2.out _ HF2.out).mono ?_); rintro e w3 ⟨A3, c3, rfl, hf3, ho3⟩)))
          go_ret2
          refine ⟨HF2.out.trans hf3, A3, c3, by rw [HL5.out]; rfl, ?_⟩
          rw [HL5.out]
          exact Own.up ho3 HF2.out.size

/-- a head, as it lies -/
def headV (h : Hd) (A : Option Addr) (c : Nat) : List Value := [iv (h.fl : Nat), iv (h.me : Nat), iv (h.dt : Nat), .int .u32 (h.cr : Nat), iv (h.cs : Nat), iv (h.si : Nat), iv (h.at_ : Nat), .slice A h.nm.length c, .bool h.wd]
def zeroV : List Value := [iv 0, iv 0, iv 0, .int .u32 0, iv 0, iv 0, iv 0, .slice none 0 0, .bool false]
def HeadIs (w : World) (r : Except Nat (Hd × Nat)) (e : Ending) (w' : World) : Prop :=
  Fresh w w' ∧ match r with
  | .error k => e = .returned (.tuple #[.agg zeroV.toArray, .int .i64 0, .int .i64 k])
  | .ok x => ∃ A c, e = .returned (.tuple #[.agg (headV x.1 A c).toArray, .int .i64 (x.2 : Nat), .int .i64 0]) ∧ x.1.nm.length ≤ c ∧ c ≤ maxLen ∧ RdA w' (List.range w.heap.size) A x.1.nm.length (x.1.nm.map bv)
theorem results_row_two {P : Program} {fn : Func} {p u v : Tmp} {ty : TypeId} (h : fn.results = #[.cell p ty, .tmp u, .tmp v]) (tmps : Array Value) (w : World) (g : Nat) (t : TypeId) (cs : List Value) (d : TypeDesc)
    (hp : tmps.getD p undef = .pointer (some ⟨g, 0, none⟩)) (hg : Bk w g t cs)
    (hu : P.underlying ty = some d) (hd : (match d with | .struct _ | .array _ _ => true | _ => false) = true) (hi : (P.info? ty).map (·.size) = some cs.length) :
    (results fn tmps).run P w = .ok (.tuple #[.agg cs.toArray, tmps.getD u undef, tmps.getD v undef]) w := by
  have e1 : tmps[p]?.getD undef = .pointer (some ⟨g, 0, none⟩) := by simpa using hp
  have r1 := run_loadVar_row (P := P) w g t ty cs.toArray (0, 0) d hg hu hd (by simpa using hi)
  simp [results, h, e1, asAddr, r1]
theorem bg_err {xs : List UInt8} {p : Int} {ms : List UInt8} {long k : Nat} (h : bg xs p ms long = .error k) : ((k : Int) != 0) = true := by
  unfold bg at h
  split at h
  · injection h with h; subst h; rfl
  split at h
  · injection h with h; subst h; rfl
  split at h
  · injection h with h; subst h; rfl
  split at h
  · injection h with h; subst h; rfl
  · cases h
theorem loc_err {xs : List UInt8} {p : Int} {k : Nat} (h : bg xs p [80, 75, 3, 4] 30 = .error k) : loc xs p = .error k := by
  unfold bg at h
  unfold loc sg
  split at h
  · next h1 => rw [if_pos h1]; exact congrArg Except.error (by injection h)
  next h1 =>
  rw [if_neg h1]
  simp only
  split at h
  · next h1 => rw [if_pos h1]; exact congrArg Except.error (by injection h)
  next h1 =>
  rw [if_neg h1]
  split at h
  · next h1 => rw [if_pos h1]; exact congrArg Except.error (by injection h)
  next h1 =>
  rw [if_neg h1]
  split at h
  · next h1 => rw [if_pos h1]; exact congrArg Except.error (by injection h)
  · cases h
theorem cen_err {xs : List UInt8} {p : Int} {k : Nat} (h : bg xs p [80, 75, 1, 2] 46 = .error k) : cen xs p = .error k := by
  unfold bg at h
  unfold cen sg
  split at h
  · next h1 => rw [if_pos h1]; exact congrArg Except.error (by injection h)
  next h1 =>
  rw [if_neg h1]
  simp only
  split at h
  · next h1 => rw [if_pos h1]; exact congrArg Except.error (by injection h)
  next h1 =>
  rw [if_neg h1]
  split at h
  · next h1 => rw [if_pos h1]; exact congrArg Except.error (by injection h)
  next h1 =>
  rw [if_neg h1]
  split at h
  · next h1 => rw [if_pos h1]; exact congrArg Except.error (by injection h)
  · cases h
/-- what begins so -/
theorem bg_ok {xs : List UInt8} {p : Int} {ms : List UInt8} {long : Nat} {ys : List UInt8} (h : bg xs p ms long = .ok ys) :
    ∃ q : Nat, p = (q : Int) ∧ ((xs.drop q).take 4 == ms) = true ∧ q + 4 ≤ xs.length ∧ q + long ≤ xs.length ∧ ys = (xs.drop (q + 4)).take (long - 4) := by
  unfold bg at h
  split at h
  · cases h
  split at h
  · cases h
  split at h
  · cases h
  split at h
  · cases h
  injection h with h
  refine ⟨p.toNat, by omega, by simpa using (by assumption : ¬ ((xs.drop p.toNat).take 4 == ms) = false), by omega, by omega, h.symm⟩
theorem all_one (cs : List Value) (h : ∀ v ∈ cs, v.oneCell' = true) : cs.toArray.all (·.oneCell') = true := by
  rw [Array.all_eq_true_iff_forall_mem]
  intro v hv
  exact h v (by simpa using hv)
theorem boxes3 (w : World) (hv : List Value) :
    Bk ((((w.alloc (.cells hv.toArray tHead)).alloc (.cells #[.int .i64 0] tInt)).alloc (.cells #[.int .i64 0] tInt)).alloc (.cells #[.int .i64 0] tInt)) w.heap.size tHead hv ∧
    Bk ((((w.alloc (.cells hv.toArray tHead)).alloc (.cells #[.int .i64 0] tInt)).alloc (.cells #[.int .i64 0] tInt)).alloc (.cells #[.int .i64 0] tInt)) (w.heap.size + 1) tInt [iv 0] ∧
    Bk ((((w.alloc (.cells hv.toArray tHead)).alloc (.cells #[.int .i64 0] tInt)).alloc (.cells #[.int .i64 0] tInt)).alloc (.cells #[.int .i64 0] tInt)) (w.heap.size + 1 + 1) tInt [iv 0] ∧
    Bk ((((w.alloc (.cells hv.toArray tHead)).alloc (.cells #[.int .i64 0] tInt)).alloc (.cells #[.int .i64 0] tInt)).alloc (.cells #[.int .i64 0] tInt)) (w.heap.size + 1 + 1 + 1) tInt [iv 0] ∧
    Fresh w ((((w.alloc (.cells hv.toArray tHead)).alloc (.cells #[.int .i64 0] tInt)).alloc (.cells #[.int .i64 0] tInt)).alloc (.cells #[.int .i64 0] tInt)) ∧
    ((((w.alloc (.cells hv.toArray tHead)).alloc (.cells #[.int .i64 0] tInt)).alloc (.cells #[.int .i64 0] tInt)).alloc (.cells #[.int .i64 0] tInt)).heap.size = w.heap.size + 4 := by
  have h0 := Bk.made w tHead hv.toArray
  have h1 := Bk.made (w.alloc (.cells hv.toArray tHead)) tInt #[.int .i64 0]
  have h2 := Bk.made ((w.alloc (.cells hv.toArray tHead)).alloc (.cells #[.int .i64 0] tInt)) tInt #[.int .i64 0]
  have h3 := Bk.made (((w.alloc (.cells hv.toArray tHead)).alloc (.cells #[.int .i64 0] tInt)).alloc (.cells #[.int .i64 0] tInt)) tInt #[.int .i64 0]
  have e1 : (w.alloc (.cells hv.toArray tHead)).heap.size = w.heap.size + 1 := by simp
  have e2 : ((w.alloc (.cells hv.toArray tHead)).alloc (.cells #[.int .i64 0] tInt)).heap.size = w.heap.size + 1 + 1 := by simp
  have e3 : (((w.alloc (.cells hv.toArray tHead)).alloc (.cells #[.int .i64 0] tInt)).alloc (.cells #[.int .i64 0] tInt)).heap.size = w.heap.size + 1 + 1 + 1 := by simp
  rw [e1] at h1
  rw [e2] at h2
  rw [e3] at h3
  exact ⟨((h0.alloc _).alloc _).alloc _, (h1.alloc _).alloc _, h2.alloc _, h3, (((Fresh.alloc _ _).trans (Fresh.alloc _ _)).trans (Fresh.alloc _ _)).trans (Fresh.alloc _ _), by simp⟩
theorem loc_ok {xs : List UInt8} {p : Int} {ys : List UInt8} (h : bg xs p [80, 75, 3, 4] 30 = .ok ys) :
    ∃ q : Nat, p = (q : Int) ∧ q + 30 ≤ xs.length ∧ ys = (xs.drop (q + 4)).take 26 ∧ loc xs p = (if xs.length < q + 30 + nm xs (q + 26) 2 + nm xs (q + 28) 2 then .error 3 else
      match widn ((xs.drop (q + 30 + nm xs (q + 26) 2)).take (nm xs (q + 28) 2)) [nm xs (q + 22) 4, nm xs (q + 18) 4] with
      | some [s', c'] => .ok (⟨nm xs (q + 6) 2, nm xs (q + 8) 2, nm xs (q + 10) 4, nm xs (q + 14) 4, c', s', q, (xs.drop (q + 30)).take (nm xs (q + 26) 2), isOnes (nm xs (q + 22) 4) || isOnes (nm xs (q + 18) 4)⟩, q + 30 + nm xs (q + 26) 2 + nm xs (q + 28) 2)
      | _ => .error 4) := by
  obtain ⟨q, rfl, h1, h2, h3, h4⟩ := bg_ok h
  refine ⟨q, rfl, h3, h4, ?_⟩
  unfold loc
  rw [if_neg (by omega)]
  simp only [Int.toNat_natCast]
  rw [if_neg (by omega), if_neg (by unfold sg; rw [h1]; simp), if_neg (by omega)]
  rfl
set_option maxRecDepth 100000 in
set_option maxHeartbeats 4000000 in
theorem getLocal_any (A : Option Addr) (n c : Nat) (xs : List UInt8) (p : Int) (w : World) (B : Nat) (hr : Rd w B A n (xs.map bv)) (hB : B ≤ w.heap.size) (hc : n ≤ c) (hm : c ≤ maxLen) (hn : n ≤ 1099511627776)
    (hp1 : -9223372036854775808 ≤ p) (hp2 : p ≤ 9223372036854775807) :
    Calls Tryz.prog 137 #[.slice A n c, .int .i64 p] w (HeadIs w (loc xs p)) := by
  have hr0 := hr.alloc hB (.cells zeroV.toArray tHead)
  have hbg := begun_any A n c xs p ⟨#[80, 75, 3, 4]⟩ [80, 75, 3, 4] 30 (w.alloc (.cells zeroV.toArray tHead)) B hr0 (by simp; omega) hc hm hn hp1 hp2 rfl rfl (by omega)
  have hz := Bk.made w tHead zeroV.toArray
  have hf := Fresh.alloc w (.cells zeroV.toArray tHead)
  cases hb : bg xs p [80, 75, 3, 4] 30 with
  | error k =>
    rw [hb] at hbg
    rw [loc_err hb]
    have hk := bg_err hb
    have HB := Lib.hid hbg
    have HZ := Lib.hid hz
    have HF := Lib.hid hf
    clear hbg hz hf hb hr hr0
    go_enter Tryz.func137, Tryz.ntmps137
    go_wp2_with (first
      | (go_at_call 131; (refine (HB.out).mono ?_); rintro e w1 ⟨hf1, hE⟩; simp only at hE; subst hE; have HZ1 := Lib.hid (HZ.out.fresh hf1); have HF1 := Lib.hid (HF.out.trans hf1); clear hf1)
      | (refine wpList_store_row (o := ⟨none, _, _, _, _, _⟩) rfl tHead (.tmp 4) (.tmp 22) rfl w.heap.size zeroV.toArray rfl rfl tHead _ HZ1.out (by kernel_rfl) (by simp) (by kernel_rfl) ?_))
    exact bodyPost_ret (results_row_two (p := 4) (u := 5) (v := 6) (by kernel_rfl) _ _ w.heap.size tHead zeroV _ rfl (HZ1.out.row _) Tryz.underlying73 rfl (by kernel_rfl)) rfl ⟨HF1.out.but (Nat.le_refl _) (But.row _ _ _), rfl⟩
  | ok ys =>
    rw [hb] at hbg
    obtain ⟨q, rfl, hq, hys, hloc⟩ := loc_ok hb
    have HLOC := Lib.hid hloc
    have hly : ys.length = 26 := by rw [hys, List.length_take, List.length_drop]; omega
    have hnm : ∀ i k, 2 + i + k ≤ 26 → nm (ys.drop 2) i k = nm xs (q + 4 + (2 + i)) k := fun i k h => by rw [nm_drop, hys, nm_take _ (by omega), nm_drop]
    have HB := Lib.hid hbg
    have HZ := Lib.hid hz
    have HF := Lib.hid hf
    have HLY := Lib.hid hly
    have HNM := Lib.hid hnm
    have HYS := Lib.hid hys
    clear hbg hz hf hb hr0 hloc hly hnm hys
    go_enter Tryz.func137, Tryz.ntmps137
    go_upto_region 6 with (go_at_call 131; (refine (HB.out).mono ?_); rintro e w1 ⟨hf1, A1, c1, hE, hO1⟩; subst hE; have HZ1 := Lib.hid (HZ.out.fresh hf1); have HF1 := Lib.hid (HF.out.trans hf1); have HO1 := Lib.hid hO1; clear hf1 hO1)
    obtain ⟨b0, b1, b2, b3, hfW, hszW⟩ := boxes3 w1 [iv 0, iv 0, iv 0, .int .u32 0, iv 0, iv 0, iv q, .slice none 0 0, .bool false]
    have hgz : w.heap.size < w1.heap.size := HZ1.out.inside
    have hra : RdA _ [w1.heap.size, w1.heap.size + 1, w1.heap.size + 1 + 1, w1.heap.size + 1 + 1 + 1] A1 ys.length (ys.map bv) := ((RdA.of_rd (S := []) HO1.out.rd (Nat.le_refl _) (by simp)).more (R := [w1.heap.size, w1.heap.size + 1, w1.heap.size + 1 + 1, w1.heap.size + 1 + 1 + 1]) (by intro i hi; simp at hi; omega)).fresh hfW
    have HZ2 := Lib.hid (HZ1.out.fresh hfW)
    have HF2 := Lib.hid (HF1.out.trans hfW)
    have hcap := HO1.out.cap
    rw [HLY.out] at hra hcap
    have hsl : (Value.slice A1 ys.length c1) = .slice A1 26 c1 := by rw [HLY.out]
    rw [hsl]
    clear hsl HZ1 HF1 HO1 hfW HB HZ HF
    generalize ((((w1.alloc (.cells #[.int .i64 0, .int .i64 0, .int .i64 0, .int .u32 0, .int .i64 0, .int .i64 0, .int .i64 q, .slice none 0 0, .bool false] tHead)).alloc (.cells #[.int .i64 0] tInt)).alloc (.cells #[.int .i64 0] tInt)).alloc (.cells #[.int .i64 0] tInt)) = W at *
    generalize w1.heap.size = g at *
    have hS : ∀ i ∈ [g, g + 1, g + 1 + 1, g + 1 + 1 + 1], i < W.heap.size := by intro i hi; simp at hi; omega
    have hget : Calls Tryz.prog 129 #[.slice A1 26 c1, .int .i64 2, .slice (some ⟨W.heap.size, 0, none⟩) 1 1] (W.alloc (.cells #[ptr (g + 1)] tPtr)) (Got [g, g + 1, g + 1 + 1, g + 1 + 1 + 1] (sets (W.alloc (.cells #[ptr (g + 1)] tPtr)) (gets 2 ys [⟨g + 1, 0, none⟩])) 24 (ys.drop 2)) :=
      get_row A1 26 c1 2 ys [⟨g + 1, 0, none⟩] [g, g + 1, g + 1 + 1, g + 1 + 1 + 1] 1 _ W hra hcap.1 hcap.2 (by omega) (.inl rfl) rfl rfl (by
        intro p hp
        rw [List.mem_singleton] at hp
        subst hp
        exact ⟨by simp, b1.wr (by simp)⟩) hS (by omega)
    have e0 : nm (ys.drop 2) 0 2 = nm xs (q + 6) 2 := HNM.out 0 2 (by omega)
    have e1 : nm (ys.drop 2) 2 2 = nm xs (q + 8) 2 := HNM.out 2 2 (by omega)
    have e2 : nm (ys.drop 2) 4 4 = nm xs (q + 10) 4 := HNM.out 4 4 (by omega)
    have e3 : nm (ys.drop 2) 8 4 = nm xs (q + 14) 4 := HNM.out 8 4 (by omega)
    have e4 : nm (ys.drop 2) 12 4 = nm xs (q + 18) 4 := HNM.out 12 4 (by omega)
    have e5 : nm (ys.drop 2) 16 4 = nm xs (q + 22) 4 := HNM.out 16 4 (by omega)
    have e6 : nm (ys.drop 2) 20 2 = nm xs (q + 26) 2 := HNM.out 20 2 (by omega)
    have e7 : nm (ys.drop 2) 22 2 = nm xs (q + 28) 2 := HNM.out 22 2 (by omega)
    have hnn := nm2 xs (q + 26)
    have hkk := nm2 xs (q + 28)
    generalize nm xs (q + 6) 2 = fl at *
    generalize nm xs (q + 8) 2 = me at *
    generalize nm xs (q + 10) 4 = dt at *
    generalize nm xs (q + 14) 4 = cr at *
    generalize nm xs (q + 18) 4 = zc at *
    generalize nm xs (q + 22) 4 = zs at *
    generalize nm xs (q + 26) 2 = nn at *
    generalize nm xs (q + 28) 2 = kk at *
    have hsh : ∀ W2 A2 c2, Turn [g + 1] [g + 1] W W2 → RdA W2 [g, g + 1, g + 1 + 1, g + 1 + 1 + 1] A2 24 ((ys.drop 2).map bv) → 24 ≤ c2 → c2 ≤ maxLen →
        Calls Tryz.prog 133 #[.slice A2 24 c2, ptr g, ptr (g + 1 + 1), ptr (g + 1 + 1 + 1)] W2 (SharedIs g (g + 1 + 1) (g + 1 + 1 + 1) [g, g + 1, g + 1 + 1, g + 1 + 1 + 1] (ys.drop 2) 24 (iv q) (.slice none 0 0) (.bool false) W2) := fun W2 A2 c2 hT hr2 hc2 hm2 =>
      getShared_any A2 24 c2 (ys.drop 2) g (g + 1 + 1) (g + 1 + 1 + 1) _ _ _ _ _ _ _ _ _ _ _ _ W2 hr2 hc2 hm2 (by omega) (b0.turn hT (by simp)) (b2.turn hT (by simp <;> omega)) (b3.turn hT (by simp <;> omega)) (by omega) (by simp) (by simp) (by simp) (fun i hi => Nat.lt_of_lt_of_le (hS i hi) hT.size) (by omega)
    unfold SharedIs at hsh
    rw [e0, e1, e2, e3, e4, e5, e6, e7] at hsh
    have hTW : ∀ W2, Fresh (sets (W.alloc (.cells #[ptr (g + 1)] tPtr)) (gets 2 ys [⟨g + 1, 0, none⟩])) W2 → Turn [g + 1] [g + 1] W W2 := fun W2 h => turn_of (Fresh.alloc _ _) h (by intro x hx; simp [gets] at hx; subst hx; simp)
    have HGET := Lib.hid hget
    have HSH := Lib.hid hsh
    have HTW := Lib.hid hTW
    have HSZ := Lib.hid hszW
    clear hget hsh hTW hS e0 e1 e2 e3 e4 e5 e6 e7 HNM b0 b1 b2 b3 hra hcap hszW
    have hWw : Fresh w W := HF2.out
    have hfresh : ∀ W2 W3, Turn [g + 1] [g + 1] W W2 → Turn [g, g + 1 + 1, g + 1 + 1 + 1] [g, g + 1 + 1, g + 1 + 1 + 1] W2 W3 → Fresh w W3 := fun W2 W3 h2 h3 =>
      ((h2.wide (T := [g, g + 1, g + 1 + 1, g + 1 + 1 + 1]) (by simp)).trans (h3.wide (T := [g, g + 1, g + 1 + 1, g + 1 + 1 + 1]) (by simp))).new hWw (by intro i hi; simp at hi; omega)
    have hzt : ∀ W2 W3, Turn [g + 1] [g + 1] W W2 → Turn [g, g + 1 + 1, g + 1 + 1 + 1] [g, g + 1 + 1, g + 1 + 1 + 1] W2 W3 → Bk W3 w.heap.size tHead zeroV := fun W2 W3 h2 h3 => (HZ2.out.turn h2 (by simp <;> omega)).turn h3 (by simp <;> omega)
    have hrr : ∀ W2 W3, Turn [g + 1] [g + 1] W W2 → Turn [g, g + 1 + 1, g + 1 + 1 + 1] [g, g + 1 + 1, g + 1 + 1 + 1] W2 W3 → Rd W3 B A n (xs.map bv) := fun W2 W3 h2 h3 => hr.keep fun i hi => (hfresh W2 W3 h2 h3).block i (by omega)
    have HFR := Lib.hid hfresh
    have HZT := Lib.hid hzt
    have HRR := Lib.hid hrr
    have hlx : xs.length = n := by have := hr.1; rwa [List.length_map] at this
    have HLX := Lib.hid hlx
    have hqn : q + 30 ≤ n := by omega
    have hmn : n ≤ maxLen := by unfold maxLen; omega
    have HMN : RowKit.Hid (n ≤ maxLen) := hmn
    clear hfresh hzt hrr hWw hr hlx hmn
    by_cases hlen : xs.length < q + 30 + nn + kk
    · have hs1 : (n : Int) - ((q : Int) + 30) < (nn : Int) + (kk : Int) := by have := HLX.out; omega
      go_wp2_with (first
        | (go_at_call 129; ((with_reducible refine HGET.out.mono ?_); rintro e w2 ⟨A2, c2, rfl, hc2, hm2, hf2, hr2⟩; have hT2 := HTW.out w2 hf2; have HS2 := Lib.hid (HSH.out w2 A2 c2 hT2 hr2 hc2 hm2); have HT2 := Lib.hid hT2; clear hf2 hr2 hT2 hm2))
        | (go_at_call 133; ((with_reducible refine HS2.out.mono ?_); rintro e w3 ⟨A3, c3, rfl, hc3, hm3, hr3, hT3, hg3, ha3, hb3⟩; have k2 : w3.cell? ⟨g + 1 + 1, 0, none⟩ = some (iv (nn : Nat)) := ha3.cell rfl; have k3 : w3.cell? ⟨g + 1 + 1 + 1, 0, none⟩ = some (iv (kk : Nat)) := hb3.cell rfl; have HT3 := Lib.hid hT3; have HG3 := Lib.hid hg3; have HA3 := Lib.hid ha3; have HB3 := Lib.hid hb3; clear hm3 hr3 hT3 hg3 ha3 hb3))
        | (go_at_call 134; ((with_reducible refine (cut_end _ _ _ _ _ _ HMN.out (by omega) (by omega) (by omega) hs1).mono ?_); rintro e w4 ⟨rfl, rfl⟩; have HZ4 := Lib.hid (HZT.out _ _ HT2.out HT3.out); have HF4 := Lib.hid (HFR.out _ _ HT2.out HT3.out)))
        | (refine wpList_store_row (o := ⟨none, _, _, _, _, _⟩) rfl tHead (.tmp 4) (.tmp 43) rfl w.heap.size zeroV.toArray rfl rfl tHead _ HZ4.out (by kernel_rfl) (by simp) (by kernel_rfl) ?_))
      exact bodyPost_ret (results_row_two (p := 4) (u := 5) (v := 6) (by kernel_rfl) _ _ w.heap.size tHead zeroV _ rfl (HZ4.out.row _) Tryz.underlying73 rfl (by kernel_rfl)) rfl ⟨HF4.out.but (Nat.le_refl _) (But.row _ _ _), by rw [HLOC.out, if_pos hlen]; rfl⟩
    · have hwd := wd_len [zs, zc]
      have hcut : ∀ W3, Rd W3 B A n (xs.map bv) → B ≤ W3.heap.size → Calls Tryz.prog 134 #[.slice A n c, .int .i64 ((q : Int) + 30), .int .i64 ((nn : Int) + (kk : Int))] W3 fun e w' =>
          ∃ A' c', e = .returned (.tuple #[.slice A' (nn + kk) c', .int .i64 0]) ∧ Fresh W3 w' ∧ Own w' W3.heap.size 5 A' (nn + kk) c' (((xs.drop (q + 30)).take (nn + kk)).map bv) := fun W3 h hB3 =>
        cut_is A n c xs _ ((q : Int) + 30) ((nn : Int) + (kk : Int)) (nn + kk) W3 B h hB3 hc hm (by omega) (by simp) (by rw [show ((q : Int) + 30).toNat = q + 30 from by omega]; have := HLX.out; omega) hn (by rw [show ((q : Int) + 30).toNat = q + 30 from by omega])
      have HCUT := Lib.hid hcut
      clear hcut
      go_upto_region 9 with (first
        | (go_at_call 129; ((with_reducible refine HGET.out.mono ?_); rintro e w2 ⟨A2, c2, rfl, hc2, hm2, hf2, hr2⟩; have hT2 := HTW.out w2 hf2; have HS2 := Lib.hid (HSH.out w2 A2 c2 hT2 hr2 hc2 hm2); have HT2 := Lib.hid hT2; clear hf2 hr2 hT2 hm2))
        | (go_at_call 133; ((with_reducible refine HS2.out.mono ?_); rintro e w3 ⟨A3, c3, rfl, hc3, hm3, hr3, hT3, hg3, ha3, hb3⟩; have k2 : w3.cell? ⟨g + 1 + 1, 0, none⟩ = some (iv (nn : Nat)) := ha3.cell rfl; have k3 : w3.cell? ⟨g + 1 + 1 + 1, 0, none⟩ = some (iv (kk : Nat)) := hb3.cell rfl; have HT3 := Lib.hid hT3; have HG3 := Lib.hid hg3; have HA3 := Lib.hid ha3; have HB3 := Lib.hid hb3; clear hm3 hr3 hT3 hg3 ha3 hb3))
        | (go_at_call 134; ((with_reducible refine (HCUT.out _ (HRR.out _ _ HT2.out HT3.out) (by have := (HFR.out _ _ HT2.out HT3.out).size; omega)).mono ?_); rintro e w4 ⟨A4, c4, rfl, hf4, ho4⟩; have HZ4 := Lib.hid ((HZT.out _ _ HT2.out HT3.out).fresh hf4); have HF4 := Lib.hid ((HFR.out _ _ HT2.out HT3.out).trans hf4); have HG4 := Lib.hid (HG3.out.fresh hf4); have HA4 := Lib.hid (HA3.out.fresh hf4); have HO4 := Lib.hid ho4; have hgs4 := HG3.out.inside; clear k2 k3 hf4 ho4)))
      have k2 : w4.cell? ⟨g + 1 + 1, 0, none⟩ = some (iv (nn : Nat)) := HA4.out.cell rfl
      have kf7 := HG4.out.free 7
      have kc7 : w4.cell? ⟨g, 7, none⟩ = some (.slice none 0 0) := HG4.out.cell rfl
      have hg5 := HG4.out.put 7 (.slice A4 nn c4)
      have k2' : (w4.setCell ⟨g, 7, none⟩ (.slice A4 nn c4)).cell? ⟨g + 1 + 1, 0, none⟩ = some (iv (nn : Nat)) := (HA4.out.apart (p := ⟨g, 7, none⟩) (by simp; omega) _).cell rfl
      have hcap4 := HO4.out.cap
      have hfr4 := HF4.out.size
      have hrd4 := RdA.of_own (S := [g]) HO4.out (by intro i hi; simp at hi; omega)
      have hrd5 := (hrd4.turn (Turn.put (S := [g]) (p := ⟨g, 7, none⟩) w4 (.slice A4 nn c4) (by simp))).tail (m := nn) (c := c4) (by omega) hcap4.1
      have hrd4b := RdA.of_own (S := g :: w.heap.size :: List.range w.heap.size) HO4.out (by intro i hi; simp at hi; omega)
      have hnm5 := (hrd4b.turn (Turn.put (S := g :: w.heap.size :: List.range w.heap.size) (p := ⟨g, 7, none⟩) w4 (.slice A4 nn c4) (by simp))).head (m := nn) (by omega)
      rw [← List.map_take, List.take_take, Nat.min_eq_left (by omega)] at hnm5
      rw [show nn + kk - nn = kk from by omega, ← List.map_drop, List.drop_take, List.drop_drop, show nn + kk - nn = kk from by omega] at hrd5
      have hal := Fresh.alloc (w4.setCell ⟨g, 7, none⟩ (.slice A4 nn c4)) (.cells #[ptrA ⟨g, 5, none⟩, ptrA ⟨g, 4, none⟩] tPtr)
      have hrow := RdA.lit (S := [g]) (w4.setCell ⟨g, 7, none⟩ (.slice A4 nn c4)) #[ptrA ⟨g, 5, none⟩, ptrA ⟨g, 4, none⟩] tPtr (by intro i hi; simp at hi; subst hi; exact hg5.inside)
      have hwid := widen_any _ kk (c4 - nn) ((xs.drop (q + 30 + nn)).take kk) g _ [5, 4] [zs, zc] 2 2 _ _ (hrd5.fresh hal) (by omega) (by omega) (by omega) (hg5.fresh hal) hrow (by decide) rfl (by omega) (by
        intro i f z hf hz
        match i, hf, hz with
        | 0, hf, hz => injection hf with hf; injection hz with hz; subst hf; subst hz; rfl
        | 1, hf, hz => injection hf with hf; injection hz with hz; subst hf; subst hz; rfl)
      have hzz5 : ∀ W6, Turn [g] [g] ((w4.setCell ⟨g, 7, none⟩ (.slice A4 nn c4)).alloc (.cells #[ptrA ⟨g, 5, none⟩, ptrA ⟨g, 4, none⟩] tPtr)) W6 → Turn [g] [g] w4 W6 := fun W6 h => ((Turn.put (S := [g]) (p := ⟨g, 7, none⟩) w4 (.slice A4 nn c4) (by simp)).trans (Turn.fresh hal)).trans h
      have hsw : (w4.setCell ⟨g, 7, none⟩ (.slice A4 nn c4)).heap.size = w4.heap.size := by simp [World.setCell]
      rw [hsw] at hwid
      have HNM5 := Lib.hid (hnm5.fresh hal)
      have HZZ5 := Lib.hid hzz5
      clear hg5 hrd4 hrd4b hrd5 hnm5 hal hrow hzz5 hsw
      have hc4n : nn ≤ c4 := by omega
      have HCM : RowKit.Hid (c4 ≤ maxLen) := hcap4.2
      have hcm := hcap4.2
      unfold maxLen at hcm
      cases hwn : widn ((xs.drop (q + 30 + nn)).take kk) [zs, zc] with
      | none =>
        rw [hwn] at hwid
        have HWID := Lib.hid hwid
        have HWN := Lib.hid hwn
        clear hwid hwn hwd
        go_wp2_with (first
          | (go_at_call 135; ((with_reducible refine HWID.out.mono ?_); rintro e w6 ⟨hT6, rfl, cs6, hl6, hb6⟩; have HT6 := Lib.hid (HZZ5.out _ hT6); have kf8 := hb6.free 8; obtain ⟨⟨v8, kc8⟩, _⟩ := hb6.wr (i := 8) (by rw [hl6]; simp); have HZ6 := Lib.hid ((HZ4.out.turn HT6.out (by simp; omega)).apart (p := ⟨g, 8, none⟩) (by simp; omega) (.bool false)); have HF6 := Lib.hid ((HT6.out.trans (Turn.put (S := [g]) (p := ⟨g, 8, none⟩) _ (.bool false) (by simp))).new HF4.out (by intro i hi; simp at hi; omega)); clear hT6 hb6))
          | (refine wpList_store_row (o := ⟨none, _, _, _, _, _⟩) rfl tHead (.tmp 4) (.tmp 62) rfl w.heap.size zeroV.toArray rfl rfl tHead _ HZ6.out (by kernel_rfl) (by simp) (by kernel_rfl) ?_))
        all_goals exact bodyPost_ret (results_row_two (p := 4) (u := 5) (v := 6) (by kernel_rfl) _ _ w.heap.size tHead zeroV _ rfl (HZ6.out.row _) Tryz.underlying73 rfl (by kernel_rfl)) rfl ⟨HF6.out.but (Nat.le_refl _) (But.row _ _ _), by rw [HLOC.out, if_neg hlen, HWN.out]; rfl⟩
      | some vs =>
        rw [hwn] at hwid
        obtain ⟨fw, _, hfw⟩ := Option.bind_eq_some_iff.1 hwn
        have hlv := hwd fw vs hfw
        clear hfw
        obtain ⟨va, vb, rfl⟩ : ∃ va vb, vs = [va, vb] := by
          match vs, hlv with
          | [va, vb], _ => exact ⟨va, vb, rfl⟩
        have hany : [zs, zc].any isOnes = (isOnes zs || isOnes zc) := by simp
        generalize hQ : (isOnes zs || isOnes zc) = Q at *
        have HWID := Lib.hid hwid
        have HWN := Lib.hid hwn
        have HANY := Lib.hid hany
        obtain ⟨NM, hNM⟩ : ∃ NM, NM = Value.slice A4 nn c4 := ⟨_, rfl⟩
        have HNAM := Lib.hid hNM
        have hall : (#[iv (fl : Nat), iv (me : Nat), iv (dt : Nat), .int .u32 (cr : Nat), iv (vb : Nat), iv (va : Nat), iv (q : Nat), NM, .bool Q] : Array Value).all (·.oneCell') = true := by
          subst hNM
          exact all_one [iv (fl : Nat), iv (me : Nat), iv (dt : Nat), .int .u32 (cr : Nat), iv (vb : Nat), iv (va : Nat), iv (q : Nat), .slice A4 nn c4, .bool Q] (by
            intro v hv
            simp only [List.mem_cons, List.not_mem_nil, or_false] at hv
            rcases hv with rfl | rfl | rfl | rfl | rfl | rfl | rfl | rfl | rfl <;> rfl)
        have HALL := Lib.hid hall
        clear hNM hall
        have HEND := Lib.hid (show ((q + 30 + nn + kk : Nat) : Int) = (q : Int) + 30 + ((nn : Int) + (kk : Int)) from by omega)
        clear hwid hwn hwd hany hQ hlv
        go_upto_region 13 with (first
          | (go_at_call 135; ((with_reducible refine HWID.out.mono ?_); rintro e w6 ⟨hT6, hE, hb6⟩; rw [HANY.out] at hE; subst hE; have HT6 := Lib.hid (HZZ5.out _ hT6); have kf8 := hb6.free 8; have kc8 : w6.cell? ⟨g, 8, none⟩ = some (.bool false) := hb6.cell rfl; have hb7 : Bk (w6.setCell ⟨g, 8, none⟩ (.bool Q)) g tHead [iv (fl : Nat), iv (me : Nat), iv (dt : Nat), .int .u32 (cr : Nat), iv (vb : Nat), iv (va : Nat), iv (q : Nat), NM, .bool Q] := (by rw [HNAM.out]; exact hb6.put 8 (.bool Q)); have HB7 := Lib.hid hb7; have HZ6 := Lib.hid ((HZ4.out.turn HT6.out (by simp; omega)).apart (p := ⟨g, 8, none⟩) (by simp; omega) (.bool Q)); have HT7 := Lib.hid (Turn.put (S := [g]) (p := ⟨g, 8, none⟩) w6 (.bool Q) (by simp)); have HF6 := Lib.hid ((HT6.out.trans HT7.out).new HF4.out (by intro i hi; simp at hi; omega)); have HNM6 := Lib.hid ((HNM5.out.turn (hT6.wide (T := g :: w.heap.size :: List.range w.heap.size) (by simp))).turn (HT7.out.wide (T := g :: w.heap.size :: List.range w.heap.size) (by simp))); clear hT6 hb6 hb7)))
        all_goals
          have hb7 := HB7.out
          have c0 := hb7.cell (i := 0) rfl
          have c1' := hb7.cell (i := 1) rfl
          have c2' := hb7.cell (i := 2) rfl
          have c3' := hb7.cell (i := 3) rfl
          have c4' := hb7.cell (i := 4) rfl
          have c5' := hb7.cell (i := 5) rfl
          have c6' := hb7.cell (i := 6) rfl
          have c7' := hb7.cell (i := 7) rfl
          have c8' := hb7.cell (i := 8) rfl
          clear hb7 kf8 kc8 k2 k2' kf7 kc7
          generalize w6.setCell ⟨g, 8, none⟩ (.bool Q) = w7 at *
          go_wp2_with (refine wpList_store_row (o := ⟨none, _, _, _, _, _⟩) rfl tHead (.tmp 4) (.tmp 64) rfl w.heap.size #[iv (fl : Nat), iv (me : Nat), iv (dt : Nat), .int .u32 (cr : Nat), iv (vb : Nat), iv (va : Nat), iv (q : Nat), NM, .bool Q] rfl rfl tHead _ HZ6.out (by kernel_rfl) (by rfl) HALL.out ?_)
          all_goals have hl5 := HNM6.out.1
          all_goals rw [List.length_map] at hl5
          all_goals exact bodyPost_ret (results_row_two (p := 4) (u := 5) (v := 6) (by kernel_rfl) _ _ w.heap.size tHead [iv (fl : Nat), iv (me : Nat), iv (dt : Nat), .int .u32 (cr : Nat), iv (vb : Nat), iv (va : Nat), iv (q : Nat), NM, .bool Q] _ rfl (HZ6.out.row _) Tryz.underlying73 rfl (by kernel_rfl)) rfl ⟨HF6.out.but (Nat.le_refl _) (But.row _ _ _), by
            rw [HLOC.out, if_neg hlen, HWN.out]
            refine ⟨A4, c4, ?_, by rw [hl5]; omega, HCM.out, ?_⟩
            · unfold headV
              simp only [hl5, HEND.out, HNAM.out]
              rfl
            · simp only [hl5]
              exact (HNM6.out.turn (Turn.row (S := g :: w.heap.size :: List.range w.heap.size) _ _ (by simp))).sub (by intro i hi; simp [hi])⟩
end Go.Proofs.YtmnegmebkmihhaaGreatDoor.recp
