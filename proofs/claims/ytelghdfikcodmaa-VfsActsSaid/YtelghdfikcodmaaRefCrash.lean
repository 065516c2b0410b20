/-
  The contract of the reference's Crash. My own text.
-/
import Derived.Test.YtelghdfikcodmaaRefWrite
/-
  A crash, in the reference's rows: plain mathematics. My own text.
-/
namespace Go.Proofs.Ytelghdfikcodmaa.vref
open Go.Proofs.Ytelghdfikcodmaa.base Go.Proofs.Ytelghdfikcodmaa.vfsnum Go.Proofs.Ytelghdfikcodmaa.vfs
set_option linter.unusedVariables false

def crB (x : Fl) (keep i0 k : Nat) : Bs := (List.range x.bs.length).map fun p => if p / 64 < k then lost x keep i0 p else x.bs.getD p 0
/-- when k sectors were gone through -/
def crR (x : Fl) (keep i0 k : Nat) : RRaw := ⟨crB x keep i0 k, secs (tk x) fun s => if s < k then secAt (cr x keep i0).bs s else oldSec x s, (List.range (tk x)).map fun s => if s < k then false else (x.old s).isSome, x.stamp⟩
theorem crB_len (x : Fl) (keep i0 k : Nat) : (crB x keep i0 k).length = x.bs.length := by simp [crB]
theorem gd_crB (x : Fl) (keep i0 k p : Nat) (h : p < x.bs.length) : (crB x keep i0 k).getD p 0 = if p / 64 < k then lost x keep i0 p else x.bs.getD p 0 := by rw [crB, gd_range, if_pos h]
theorem crR_wlen (x : Fl) (keep i0 k : Nat) : (crR x keep i0 k).wt.length = tk x := by simp [crR]
theorem crR_olen (x : Fl) (keep i0 k : Nat) : (crR x keep i0 k).old.length = 64 * tk x := secs_len (tk x) fun s => if s < k then secAt (cr x keep i0).bs s else oldSec x s
theorem cr_gd (x : Fl) (keep i0 p : Nat) (h : p < x.bs.length) : (cr x keep i0).bs.getD p 0 = lost x keep i0 p := by
  show ((List.range x.bs.length).map (lost x keep i0)).getD p 0 = _
  rw [gd_range, if_pos h]
theorem cr_len (x : Fl) (keep i0 : Nat) : (cr x keep i0).bs.length = x.bs.length := by simp [cr]
theorem crR_zero {x : Fl} (hx : FlOk x) (keep i0 : Nat) : crR x keep i0 0 = rawR x := by
  refine RRaw.same ?_ (by rw [rawR_old hx]; rfl) rfl rfl
  refine ext_gd (crB_len _ _ _ _) fun p hp => ?_
  have hp2 : p < x.bs.length := by rw [show (crR x keep i0 0).b.length = x.bs.length from crB_len _ _ _ _] at hp; exact hp
  show (crB x keep i0 0).getD p 0 = x.bs.getD p 0
  rw [gd_crB _ _ _ _ _ hp2, if_neg (by omega)]
theorem crR_all (x : Fl) (keep i0 : Nat) : crR x keep i0 (tk x) = rawR (cr x keep i0) := by
  have htk : tk (cr x keep i0) = tk x := by unfold tk; rw [cr_len]
  refine RRaw.same ?_ ?_ ?_ rfl
  · refine ext_gd (by rw [show (crR x keep i0 (tk x)).b.length = x.bs.length from crB_len _ _ _ _]; exact (cr_len _ _ _).symm) fun p hp => ?_
    have hp2 : p < x.bs.length := by rw [show (crR x keep i0 (tk x)).b.length = x.bs.length from crB_len _ _ _ _] at hp; exact hp
    show (crB x keep i0 (tk x)).getD p 0 = (cr x keep i0).bs.getD p 0
    rw [gd_crB _ _ _ _ _ hp2, if_pos (by unfold tk takes; omega), cr_gd _ _ _ _ hp2]
  · show (secs (tk x) fun s => if s < tk x then secAt (cr x keep i0).bs s else oldSec x s) = (List.range (tk (cr x keep i0))).flatMap (oldSec (cr x keep i0))
    rw [htk, flat_secs (tk x) (oldSec (cr x keep i0)) (fun j _ => secAt_len _ _)]
    exact secs_ext fun j i hj hi => by simp [hj, oldSec, cr]
  · show (List.range (tk x)).map (fun s => if s < tk x then false else (x.old s).isSome) = (List.range (tk (cr x keep i0))).map fun k => ((cr x keep i0).old k).isSome
    rw [htk]
    exact map_ext fun j hj => by simp [hj, cr]
theorem lost_none {x : Fl} {keep i0 p : Nat} (h : x.old (p / 64) = none) : lost x keep i0 p = x.bs.getD p 0 := by unfold lost; rw [h]
theorem secAt_cr (x : Fl) (keep i0 k : Nat) (b : Bs) (hb : b.length = x.bs.length) (h : ∀ p, p < x.bs.length → p / 64 = k → b.getD p 0 = lost x keep i0 p) : secAt b k = secAt (cr x keep i0).bs k := by
  refine secAt_congr fun j h1 h2 => ?_
  by_cases hj : j < x.bs.length
  · rw [h j hj (by omega), cr_gd _ _ _ _ hj]
  · rw [gd_ge _ _ (by omega), gd_ge _ _ (by rw [cr_len]; omega)]
theorem crR_skip (x : Fl) (keep i0 k : Nat) (hk : k < tk x) (ho : x.old k = none) : crR x keep i0 k = crR x keep i0 (k + 1) := by
  refine RRaw.same ?_ ?_ ?_ rfl
  · show crB x keep i0 k = crB x keep i0 (k + 1)
    refine ext_gd (by rw [crB_len, crB_len]) fun p hp => ?_
    rw [crB_len] at hp
    rw [gd_crB _ _ _ _ _ hp, gd_crB _ _ _ _ _ hp]
    by_cases h1 : p / 64 < k
    · rw [if_pos h1, if_pos (by omega)]
    · rw [if_neg h1]
      by_cases h2 : p / 64 = k
      · rw [if_pos (by omega), lost_none (by rw [h2]; exact ho)]
      · rw [if_neg (by omega)]
  · show (secs (tk x) fun s => if s < k then secAt (cr x keep i0).bs s else oldSec x s) = secs (tk x) fun s => if s < k + 1 then secAt (cr x keep i0).bs s else oldSec x s
    refine secs_ext fun j i hj hi => ?_
    by_cases h1 : j = k
    · subst h1
      rw [if_neg (by omega), if_pos (by omega), ← secAt_cr x keep i0 j x.bs rfl (fun p hp h => (lost_none (by rw [h]; exact ho)).symm)]
      show ((x.old j).getD (secAt x.bs j)).getD i 0 = _
      rw [ho]; rfl
    · by_cases h2 : j < k
      · rw [if_pos h2, if_pos (by omega)]
      · rw [if_neg h2, if_neg (by omega)]
  · refine map_ext fun j hj => ?_
    by_cases h1 : j = k
    · subst h1; simp [ho]
    · by_cases h2 : j < k
      · rw [if_pos h2, if_pos (by omega)]
      · rw [if_neg h2, if_neg (by omega)]
/-- a sector that waits has come to its end -/
theorem crR_done (x : Fl) (keep i0 k : Nat) (hk : k < tk x) (b : Bs) (hb : b = crB x keep i0 (k + 1)) :
    ({ b := b, old := lastRow b (crR x keep i0 k).old k 64, wt := (crR x keep i0 k).wt.set k false, stamp := x.stamp } : RRaw) = crR x keep i0 (k + 1) := by
  subst hb
  refine RRaw.same rfl ?_ ?_ rfl
  · show lastRow (crB x keep i0 (k + 1)) (secs (tk x) fun s => if s < k then secAt (cr x keep i0).bs s else oldSec x s) k 64 = secs (tk x) fun s => if s < k + 1 then secAt (cr x keep i0).bs s else oldSec x s
    rw [lastRow_secs _ _ _ _ hk]
    refine secs_ext fun j i hj hi => ?_
    by_cases h1 : j = k
    · subst h1
      rw [if_pos rfl, if_pos (by omega), secAt_cr x keep i0 j _ (crB_len _ _ _ _) (fun p hp h => by rw [gd_crB _ _ _ _ _ hp, if_pos (by omega)])]
    · by_cases h2 : j < k
      · rw [if_neg h1, if_pos h2, if_pos (by omega)]
      · rw [if_neg h1, if_neg h2, if_neg (by omega)]
  · show ((List.range (tk x)).map fun s => if s < k then false else (x.old s).isSome).set k false = (List.range (tk x)).map fun s => if s < k + 1 then false else (x.old s).isSome
    rw [set_range]
    refine map_ext fun j hj => ?_
    by_cases h1 : j = k
    · subst h1; simp
    · by_cases h2 : j < k
      · rw [if_neg h1, if_pos h2, if_pos (by omega)]
      · rw [if_neg h1, if_neg h2, if_neg (by omega)]
theorem crB_keep (x : Fl) (keep i0 k : Nat) (o : Bs) (ho : x.old k = some o) (hkp : keeps keep (i0 + cnt x.old k) = true) : crB x keep i0 k = crB x keep i0 (k + 1) := by
  refine ext_gd (by rw [crB_len, crB_len]) fun p hp => ?_
  rw [crB_len] at hp
  rw [gd_crB _ _ _ _ _ hp, gd_crB _ _ _ _ _ hp]
  by_cases h1 : p / 64 < k
  · rw [if_pos h1, if_pos (by omega)]
  · rw [if_neg h1]
    by_cases h2 : p / 64 = k
    · rw [if_pos (by omega), lost, h2, ho]
      simp only
      rw [if_pos hkp]
    · rw [if_neg (by omega)]
/-- a sector that is lost, when t of its bytes were -/
def crI (x : Fl) (keep i0 k : Nat) (o : Bs) (t : Nat) : Bs := (List.range x.bs.length).map fun p => if p / 64 < k then lost x keep i0 p else if 64 * k ≤ p ∧ p < 64 * k + t then o.getD (p - 64 * k) 0 else x.bs.getD p 0
theorem crI_len (x : Fl) (keep i0 k : Nat) (o : Bs) (t : Nat) : (crI x keep i0 k o t).length = x.bs.length := by simp [crI]
theorem gd_crI (x : Fl) (keep i0 k : Nat) (o : Bs) (t p : Nat) (h : p < x.bs.length) : (crI x keep i0 k o t).getD p 0 = if p / 64 < k then lost x keep i0 p else if 64 * k ≤ p ∧ p < 64 * k + t then o.getD (p - 64 * k) 0 else x.bs.getD p 0 := by rw [crI, gd_range, if_pos h]
theorem crI_zero (x : Fl) (keep i0 k : Nat) (o : Bs) : crI x keep i0 k o 0 = crB x keep i0 k := by
  refine ext_gd (by rw [crI_len, crB_len]) fun p hp => ?_
  rw [crI_len] at hp
  rw [gd_crI _ _ _ _ _ _ _ hp, gd_crB _ _ _ _ _ hp, if_neg (c := 64 * k ≤ p ∧ p < 64 * k + 0) (by omega)]
theorem crI_step (x : Fl) (keep i0 k : Nat) (o : Bs) (t : Nat) (ht : t < 64) (hp0 : 64 * k + t < x.bs.length) : (crI x keep i0 k o t).set (64 * k + t) (o.getD t 0) = crI x keep i0 k o (t + 1) := by
  refine ext_gd (by rw [List.length_set, crI_len, crI_len]) fun p hp => ?_
  rw [List.length_set, crI_len] at hp
  rw [gd_set _ _ _ _ (by rw [crI_len]; exact hp0), gd_crI _ _ _ _ _ _ _ hp, gd_crI _ _ _ _ _ _ _ hp]
  by_cases h0 : p = 64 * k + t
  · rw [if_pos h0, if_neg (by omega), if_pos (by omega), h0, Nat.add_sub_cancel_left]
  · rw [if_neg h0]
    by_cases h1 : p / 64 < k
    · rw [if_pos h1, if_pos h1]
    · rw [if_neg h1, if_neg h1]
      by_cases h2 : 64 * k ≤ p ∧ p < 64 * k + t
      · rw [if_pos h2, if_pos (by omega)]
      · rw [if_neg h2, if_neg (by omega)]
theorem crI_all (x : Fl) (keep i0 k : Nat) (o : Bs) (t : Nat) (ho : x.old k = some o) (hkp : keeps keep (i0 + cnt x.old k) = false) (ht : t = 64 ∨ x.bs.length ≤ 64 * k + t) (ht2 : t ≤ 64) : crI x keep i0 k o t = crB x keep i0 (k + 1) := by
  refine ext_gd (by rw [crI_len, crB_len]) fun p hp => ?_
  rw [crI_len] at hp
  rw [gd_crI _ _ _ _ _ _ _ hp, gd_crB _ _ _ _ _ hp]
  by_cases h1 : p / 64 < k
  · rw [if_pos h1, if_pos (by omega)]
  · rw [if_neg h1]
    by_cases h2 : p / 64 = k
    · rw [if_pos (by omega), if_pos (by omega), lost, h2, ho]
      simp only
      rw [if_neg (by rw [hkp]; simp)]
      congr 1
      omega
    · rw [if_neg (by omega), if_neg (by omega)]
theorem crR_old_at {x : Fl} (hx : FlOk x) (keep i0 k : Nat) (o : Bs) (t : Nat) (hk : k < tk x) (ht : t < 64) (ho : x.old k = some o) : (crR x keep i0 k).old.getD (64 * k + t) 0 = o.getD t 0 := by
  show (secs (tk x) fun s => if s < k then secAt (cr x keep i0).bs s else oldSec x s).getD (64 * k + t) 0 = _
  rw [gd_secs _ _ _ (by omega), show (64 * k + t) / 64 = k by omega, if_neg (by omega), show (64 * k + t) % 64 = t by omega]
  show ((x.old k).getD (secAt x.bs k)).getD t 0 = _
  rw [ho]; rfl
theorem crR_wt_at (x : Fl) (keep i0 k : Nat) (hk : k < tk x) : (crR x keep i0 k).wt.getD k false = (x.old k).isSome := by
  show ((List.range (tk x)).map fun s => if s < k then false else (x.old s).isSome).getD k false = _
  rw [List.getD_eq_getElem?_getD, isSome_range _ _ _ hk]
  simp

/-! all files -/
def crG (keep : Nat) : List Gh → Nat → List Gh
  | [], _ => []
  | x :: r, i => { x with fl := cr x.fl keep i } :: crG keep r (i + cnt x.fl.old (tk x.fl))
def tot (l : List Gh) : Nat := (l.map fun x => cnt x.fl.old (tk x.fl)).sum
theorem crG_snoc (keep : Nat) (l : List Gh) (x : Gh) (i : Nat) : crG keep (l ++ [x]) i = crG keep l i ++ [{ x with fl := cr x.fl keep (i + tot l) }] := by
  induction l generalizing i with
  | nil => simp [crG, tot]
  | cons y r ih => rw [List.cons_append, crG, ih, crG]; simp [tot, Nat.add_assoc]
theorem crG_len (keep : Nat) (l : List Gh) (i : Nat) : (crG keep l i).length = l.length := by
  induction l generalizing i with
  | nil => rfl
  | cons y r ih => rw [crG, List.length_cons, ih, List.length_cons]
theorem crG_files (keep : Nat) (l : List Gh) (i : Nat) : (crG keep l i).map Gh.fst = crF keep (l.map Gh.fst) i := by
  induction l generalizing i with
  | nil => rfl
  | cons y r ih => rw [crG, List.map_cons, List.map_cons, crF, ih]; rfl
theorem crG_tk (keep : Nat) (l : List Gh) (i : Nat) : ((crG keep l i).map fun p => tk p.fl).sum = (l.map fun p => tk p.fl).sum := by
  induction l generalizing i with
  | nil => rfl
  | cons y r ih => rw [crG, List.map_cons, List.map_cons, List.sum_cons, List.sum_cons, ih]; show tk (cr y.fl keep i) + _ = _; rw [show tk (cr y.fl keep i) = tk y.fl by unfold tk; rw [cr_len]]
end Go.Proofs.Ytelghdfikcodmaa.vref
namespace Go.Proofs.Ytelghdfikcodmaa.vref
open Go.RowKit Go.Maps Go.Proofs.Ytelghdfikcodmaa.base Go.Proofs.Ytelghdfikcodmaa.vfsnum Go.Proofs.Ytelghdfikcodmaa.vfs
set_option linter.unusedVariables false

theorem bit_one (keep i : Nat) (h : keep < 18446744073709551616) (hk : keeps keep i = true) : bits .and .u64 ((keep : Int) / 2 ^ (i % 64)) 1 = 1 := by rw [keep_bit keep i h, if_pos hk]
theorem bit_zero (keep i : Nat) (h : keep < 18446744073709551616) (hk : keeps keep i = false) : bits .and .u64 ((keep : Int) / 2 ^ (i % 64)) 1 = 0 := by rw [keep_bit keep i h, if_neg (by rw [hk]; simp)]
theorem last_is (w : World) (g : Nat) (n : ByteArray) (r r' : RRaw) (bl : List Nat) (k : Nat) (h : RFile w g n r bl) (hk : k < r.wt.length) (ho : 64 * k + 64 ≤ r.old.length) (hol : r.old.length ≤ 16777216) (hbl : r.b.length ≤ 16777216) (hwl : r.wt.length ≤ 16777216)
    (hr : ({ b := r.b, old := lastRow r.b r.old k 64, wt := r.wt.set k false, stamp := r.stamp } : RRaw) = r') :
    Calls Try.prog 90 #[.pointer (some ⟨g, 0, none⟩), .int .i64 k] w fun e w' => e = .returned (.tuple #[]) ∧ RFile w' g n r' bl ∧ Turn bl bl w w' := by
  subst hr
  exact last_r w g n r bl k h hk ho hol hbl hwl

set_option maxRecDepth 100000 in
set_option maxHeartbeats 8000000 in
theorem crash_r (w : World) (f : Nat) (a : Fs) (bl : List Nat) (keep : Nat) (h : RefAt w f a bl) (hok : FsOk a) (hlen : a.files.length ≤ 1048576) (hkp : keep < 18446744073709551616) :
    Calls Try.prog 54 #[.pointer (some ⟨f, 0, none⟩), .int .u64 keep] w fun e w' => e = .returned (.tuple #[]) ∧ ∃ bl', RefAt w' f (a.crash keep) bl' ∧ Turn bl bl' w w' := by
  obtain ⟨A, c, gs, rfl, hg⟩ := h
  obtain ⟨M, hM⟩ : ∃ M, most a = M := ⟨_, rfl⟩
  rw [hM] at hg
  have HM := Lib.hid hM
  have hflo : ∀ x ∈ gs, FlOk x.fl := fun x hx => hok.fls (x.name, x.fl) (by rw [hg.2.1]; exact List.mem_map.2 ⟨x, hx, rfl⟩)
  have HFL := Lib.hid hflo
  obtain ⟨N, hN⟩ : ∃ N, gs.length = N := ⟨_, rfl⟩
  have hNb : N ≤ 1048576 := by rw [← hN, hg.len]; exact hlen
  have HN := Lib.hid hN
  have HFS := Lib.hid hg.2.1
  have hc0 : w.cell? ⟨f, 0, none⟩ = some (.slice A N c) := by have : w.cell? ⟨f, 0, none⟩ = some (.slice A gs.length c) := hg.2.2.1.cell rfl; rwa [hN] at this
  have hst0 : RefG w f M { a with files := gs.map Gh.fst } A c gs := ⟨hg.1, rfl, hg.2.2.1, hg.2.2.2.1, hg.2.2.2.2⟩
  clear hM hflo hN
  go_enter Try.func54, Try.ntmps54
  go_wp2
  go_loopw [4, 5] (fun n4 i5 wr => ∃ (j i0 : Nat), j ≤ N ∧ i5 = .int .i64 j ∧ n4 = .int .i64 i0 ∧ Hid (i0 = tot (gs.take j)) ∧ i0 ≤ 65536 * j ∧ RefG wr f M { a with files := (crG keep (gs.take j) 0 ++ gs.drop j).map Gh.fst } A c (crG keep (gs.take j) 0 ++ gs.drop j) ∧ Turn (rsBlocks f A gs) (rsBlocks f A (crG keep (gs.take j) 0 ++ gs.drop j)) w wr) (fun _ i5 _ => N - (intOf i5).toNat)
  case atStart => exact ⟨0, 0, Nat.zero_le _, rfl, rfl, rfl, by omega, by simpa [crG] using hst0, by simpa [crG] using Turn.refl (rsBlocks f A gs) w⟩
  case round =>
    obtain ⟨j, i0, hj, rfl, rfl, hi0, hi0b, hG, hTo⟩ := hrel
    have hPl : (crG keep (gs.take j) 0).length = j := by rw [crG_len, List.length_take, HN.out]; omega
    by_cases hlt : j < N
    · obtain ⟨x, hx⟩ : ∃ x, gs[j]? = some x := ⟨_, List.getElem?_eq_getElem (by rw [HN.out]; exact hlt)⟩
      have hdr : gs.drop j = x :: gs.drop (j + 1) := by
        obtain ⟨hl, e⟩ := List.getElem?_eq_some_iff.1 hx
        rw [List.drop_eq_getElem_cons hl, e]
      have htk1 : gs.take (j + 1) = gs.take j ++ [x] := by
        obtain ⟨hl, e⟩ := List.getElem?_eq_some_iff.1 hx
        rw [List.take_succ_eq_append_getElem hl, e]
      rw [hdr] at hG hTo
      have hxo := HFL.out x (List.mem_of_getElem? hx)
      obtain ⟨nm, fl, g, xbl⟩ := x
      simp only at hxo
      have hxb : fl.bs.length ≤ 4194304 := hxo.1
      obtain ⟨L, hL⟩ : ∃ L, fl.bs.length = L := ⟨_, rfl⟩
      obtain ⟨T, hT⟩ : ∃ T, tk fl = T := ⟨_, rfl⟩
      have hTb : T ≤ 65536 := by rw [← hT]; unfold tk takes; omega
      have hLT : L ≤ 64 * T := by rw [← hT, ← hL]; exact le_takes _
      rw [hL] at hxb
      have hx0 : RFile wr g nm (rawR fl) xbl := hG.2.2.2.2 ⟨nm, fl, g, xbl⟩ (by simp)
      rw [← crR_zero hxo keep i0] at hx0
      obtain ⟨hd0, bA, offA, hA, hde⟩ := hG.hold (x := ⟨nm, fl, g, xbl⟩) (Turn.refl _ wr)
      have hlenN : (crG keep (gs.take j) 0 ++ (⟨nm, fl, g, xbl⟩ : Gh) :: gs.drop (j + 1)).length = N := by rw [List.length_append, hPl, List.length_cons, List.length_drop, HN.out]; omega
      rw [hlenN] at hd0
      rw [hPl] at hde
      subst hA
      have HL := Lib.hid hL
      have HT := Lib.hid hT
      have HG := Lib.hid hG
      have HTO := Lib.hid hTo
      have HTK := Lib.hid htk1
      have HPL := Lib.hid hPl
      clear hx hdr hL hT hG hTo htk1 hlenN hg hPl hc0 hst0
      go_wp2
      go_loopw [4, 7] (fun n4 i7 wr' => ∃ (k q : Nat), k ≤ T ∧ i7 = .int .i64 k ∧ n4 = .int .i64 q ∧ Hid (q = i0 + cnt fl.old k) ∧ q ≤ i0 + k ∧ RFile wr' g nm (crR fl keep i0 k) xbl ∧ Turn xbl xbl wr wr') (fun _ i7 _ => T - (intOf i7).toNat)
      case atStart => exact ⟨0, i0, Nat.zero_le _, rfl, rfl, by simp [Hid, cnt], by omega, hx0, Turn.refl _ _⟩
      case round =>
        obtain ⟨k, q, hk, rfl, rfl, hq, hqb, hf, hTk⟩ := hrel
        have hwl : (crR fl keep i0 k).wt.length = T := by rw [crR_wlen, HT.out]
        have hol : (crR fl keep i0 k).old.length = 64 * T := by rw [crR_olen, HT.out]
        have hbl : (crR fl keep i0 k).b.length = L := by rw [show (crR fl keep i0 k).b.length = fl.bs.length from crB_len _ _ _ _, HL.out]
        by_cases hltk : k < T
        · obtain ⟨q3, c3, hc3, _, hcq3, _, _⟩ := hf.wt_at (i := k) (by rw [hwl]; exact hltk)
          rw [hwl] at hc3
          rw [crR_wt_at _ _ _ _ (by rw [HT.out]; exact hltk)] at hcq3
          have hcs := cnt_succ fl.old k
          cases ho : fl.old k with
          | none =>
            rw [ho] at hcq3 hcs
            simp only [Option.isSome_none, Bool.false_eq_true, if_false, Nat.add_zero] at hcq3 hcs
            have hf2 := hf
            rw [crR_skip _ _ _ _ (by rw [HT.out]; exact hltk) ho] at hf2
            have HF2 := Lib.hid hf2
            have HCS := Lib.hid hcs
            clear hf hf2 hcs hwl hol hbl ho
            go_wp2
            go_roundw
            case rel => exact ⟨k + 1, q, by omega, by go_num, rfl, by show _ = _; rw [HCS.out]; exact hq.out, by omega, HF2.out, hTk⟩
            case measure => simp [intOf]; omega
          | some o =>
            rw [ho] at hcq3 hcs
            simp only [Option.isSome_some, if_true] at hcq3 hcs
            have HCS := Lib.hid hcs
            have HO := Lib.hid ho
            obtain ⟨s, hs⟩ : ∃ s, q % 64 = s := ⟨_, rfl⟩
            have hqm : (q : Int) % 64 = (s : Int) := by omega
            have hs64 : s < 64 := by omega
            cases hkb : keeps keep q with
            | true =>
              have hbit := bit_one keep q hkp hkb
              rw [hs] at hbit
              clear hs
              have hla := last_is wr g nm (crR fl keep i0 k) (crR fl keep i0 (k + 1)) xbl k hf (by rw [hwl]; exact hltk) (by rw [hol]; omega) (by rw [hol]; omega) (by rw [hbl]; omega) (by rw [hwl]; omega)
                (crR_done fl keep i0 k (by rw [HT.out]; exact hltk) _ (crB_keep fl keep i0 k o HO.out (by rw [← hq.out]; exact hkb)))
              have HLA := Lib.hid hla
              clear hf hla hcs hwl hol hbl ho
              go_wp2_with (go_at_call 90; refine HLA.out.mono ?_; rintro e w2 ⟨rfl, hf2, hT2⟩)
              go_roundw
              case rel => exact ⟨k + 1, q + 1, by omega, by go_num, by go_num, by show _ = _; rw [HCS.out, hq.out, Nat.add_assoc], by omega, hf2, hTk.trans hT2⟩
              case measure => simp [intOf]; omega
            | false =>
              have hbit := bit_zero keep q hkp hkb
              rw [hs] at hbit
              clear hs
              have HKB := Lib.hid hkb
              have hf0 : RFile wr g nm ⟨crI fl keep i0 k o 0, (crR fl keep i0 k).old, (crR fl keep i0 k).wt, fl.stamp⟩ xbl := by rw [crI_zero]; exact hf
              have HWL := Lib.hid hwl
              have HOL := Lib.hid hol
              clear hf hcs hwl hol hbl ho hkb
              go_wp2
              clear hqm hbit
              go_loopw [8] (fun i8 wr' => ∃ t : Nat, t ≤ 64 ∧ i8 = .int .i64 (64 * k + t : Nat) ∧ RFile wr' g nm ⟨crI fl keep i0 k o t, (crR fl keep i0 k).old, (crR fl keep i0 k).wt, fl.stamp⟩ xbl ∧ Turn xbl xbl wr wr') (fun i8 _ => 64 * k + 64 - (intOf i8).toNat)
              case atStart => exact ⟨0, by omega, congrArg (Value.int .i64) (by omega), hf0, Turn.refl _ _⟩
              case round =>
                obtain ⟨t, ht, rfl, hf, hTt⟩ := hrel
                have hbl : (crI fl keep i0 k o t).length = L := by rw [crI_len, HL.out]
                obtain ⟨p, hp⟩ : ∃ p, 64 * k + t = p := ⟨_, rfl⟩
                by_cases hgo : t < 64 ∧ p < L
                · obtain ⟨ht64, hpL⟩ := hgo
                  have hplt : p < 64 * k + 64 := by omega
                  obtain ⟨OL, hOL⟩ : ∃ OL, 64 * T = OL := ⟨_, rfl⟩
                  have hpO : p < OL := by omega
                  have hOLb : OL ≤ 4194304 := by omega
                  obtain ⟨q1, e1, hc1, hq1b, hcq1, hfz1, hst1⟩ := hf.b_at (i := p) (by show p < (crI fl keep i0 k o t).length; rw [hbl]; exact hpL)
                  obtain ⟨q2, e2, hc2, hq2b, hcq2, hfz2, _⟩ := hf.old_at (i := p) (by show p < (crR fl keep i0 k).old.length; rw [HOL.out]; omega)
                  have hc1' : wr.cell? ⟨g, 1, none⟩ = some (.slice (some ⟨q1, 0, none⟩) L e1) := by rw [← hbl]; exact hc1
                  have hc2' : wr.cell? ⟨g, 2, none⟩ = some (.slice (some ⟨q2, 0, none⟩) OL e2) := by rw [← hOL, ← HOL.out]; exact hc2
                  obtain ⟨u, hu⟩ : ∃ u, o.getD t 0 = u := ⟨_, rfl⟩
                  have hov : (crR fl keep i0 k).old.getD p 0 = u := by rw [← hp, ← hu]; exact crR_old_at hxo keep i0 k o t (by rw [HT.out]; exact hltk) ht64 HO.out
                  have hcq2' : wr.cell? ⟨q2, p, none⟩ = some (bv u) := by rw [← hov]; exact hcq2
                  have hfn := hst1 u
                  have hstep := crI_step fl keep i0 k o t ht64 (by rw [HL.out, hp]; exact hpL)
                  rw [hp, hu] at hstep
                  have hfn2 : RFile (wr.setCell ⟨q1, p, none⟩ (bv u)) g nm ⟨crI fl keep i0 k o (t + 1), (crR fl keep i0 k).old, (crR fl keep i0 k).wt, fl.stamp⟩ xbl := by rw [← hstep]; exact hfn
                  have HFN := Lib.hid hfn2
                  have HQ1 := Lib.hid hq1b
                  rw [hp]
                  have HP := Lib.hid hp
                  clear hf hfn hfn2 hst1 hstep hu hov hc1 hc2 hcq2 hbl hOL hp hq1b hq2b hfz2
                  go_wp2
                  go_region
                  all_goals
                    go_wp2
                    go_roundw
                    case rel => exact ⟨t + 1, by omega, congrArg (Value.int .i64) (by have := HP.out; omega), HFN.out.keep fun b hb => rfl, (hTt.trans (Turn.but (But.put wr _) HQ1.out)).trans (Turn.fresh (Fresh.drew _))⟩
                    case measure => simp [intOf]; have := HP.out; omega
                · obtain ⟨⟨B1, e1, hcb⟩, _⟩ := hf.lens
                  simp only [hbl] at hcb
                  have hstop : t = 64 ∨ fl.bs.length ≤ 64 * k + t := by rw [HL.out, hp]; omega
                  have hla := last_is wr g nm _ (crR fl keep i0 (k + 1)) xbl k hf (by show k < (crR fl keep i0 k).wt.length; rw [HWL.out]; exact hltk) (by show _ ≤ (crR fl keep i0 k).old.length; rw [HOL.out]; omega) (by show (crR fl keep i0 k).old.length ≤ _; rw [HOL.out]; omega) (by show (crI fl keep i0 k o t).length ≤ _; rw [hbl]; omega) (by show (crR fl keep i0 k).wt.length ≤ _; rw [HWL.out]; omega)
                    (crR_done fl keep i0 k (by rw [HT.out]; exact hltk) _ (crI_all fl keep i0 k o t HO.out (by rw [← hq.out]; exact HKB.out) hstop ht))
                  have HLA := Lib.hid hla
                  rw [hp]
                  have hcase : ¬ p < 64 * k + 64 ∨ (p < 64 * k + 64 ∧ ¬ p < L) := by omega
                  clear hf hla hbl hstop hp
                  rcases hcase with hc64 | ⟨hc64, hcL⟩
                  all_goals
                    go_wp2_with (go_at_call 90; refine HLA.out.mono ?_; rintro e w2 ⟨rfl, hf2, hT2⟩)
                    go_roundw
                    case rel => exact ⟨k + 1, q + 1, by omega, by go_num, by go_num, by show _ = _; rw [HCS.out, hq.out, Nat.add_assoc], by omega, hf2, (hTk.trans hTt).trans hT2⟩
                    case measure => simp [intOf]; omega
        · obtain rfl : k = T := by omega
          obtain ⟨⟨_, _, _⟩, B3, e3, hcw⟩ := hf.lens
          rw [hwl] at hcw
          have hf2 := hf
          rw [← HT.out, crR_all] at hf2
          have hup := HG.out.upd ⟨nm, cr fl keep i0, g, xbl⟩ rfl hf2 hTk _ rfl
          have hnew : crG keep (gs.take (j + 1)) 0 ++ gs.drop (j + 1) = crG keep (gs.take j) 0 ++ (⟨nm, cr fl keep i0, g, xbl⟩ : Gh) :: gs.drop (j + 1) := by
            rw [HTK.out, crG_snoc, List.append_assoc, hi0.out, Nat.zero_add]
            rfl
          rw [← hnew] at hup
          have htot : tot (gs.take (j + 1)) = i0 + cnt fl.old k := by
            rw [HTK.out, hi0.out]
            simp [tot, HT.out]
          have HUP := Lib.hid hup
          have HTOT := Lib.hid htot
          clear hf hf2 hup hnew htot hwl hol hbl
          go_wp2
          go_roundw
          case rel => exact ⟨j + 1, q, by omega, by go_num, rfl, by show _ = _; rw [hq.out, HTOT.out], by omega, HUP.out.1, HTO.out.trans HUP.out.2⟩
          case measure => simp [intOf]; omega
    · obtain rfl : j = N := by omega
      have htake : gs.take j = gs := List.take_of_length_le (Nat.le_of_eq HN.out)
      have hdrop : gs.drop j = [] := List.drop_eq_nil_of_le (Nat.le_of_eq HN.out)
      rw [htake, hdrop, List.append_nil] at hG hTo
      have HG := Lib.hid hG
      have hp3 := hG.put 3 (.int .i64 (-1)) { a with files := (crG keep gs 0).map Gh.fst, fuse := -1 } rfl rfl
      have hp4 := hp3.1.put 4 (.bool false) { a with files := (crG keep gs 0).map Gh.fst, fuse := -1, down := false } rfl rfl
      have hd0 : wr.cell? ⟨f, 0, none⟩ = some (.slice A j c) := by have : wr.cell? ⟨f, 0, none⟩ = some (.slice A (crG keep gs 0).length c) := hG.2.2.1.cell rfl; rwa [crG_len, HN.out] at this
      have hc3 : wr.cell? ⟨f, 3, none⟩ = some (.int .i64 a.fuse) := hG.2.2.1.cell rfl
      have hz3 := hG.2.2.1.free 3
      have hc4 : (wr.setCell ⟨f, 3, none⟩ (.int .i64 (-1))).cell? ⟨f, 4, none⟩ = some (.bool a.down) := hp3.1.2.2.1.cell rfl
      have hz4 := hp3.1.2.2.1.free 4
      have hcr : a.crash keep = { a with files := (crG keep gs 0).map Gh.fst, fuse := -1, down := false } := by
        unfold Fs.crash
        rw [crG_files, ← HFS.out]
      have hmo : M = most (a.crash keep) := by
        rw [← HM.out, hcr]
        unfold most
        show a.room + _ = a.room + (((crG keep gs 0).map Gh.fst).map fun p => tk p.2).sum
        rw [HFS.out, List.map_map, List.map_map]
        congr 1
        exact (crG_tk keep gs 0).symm
      have H4 := Lib.hid hp4
      have H3 := Lib.hid hp3
      have HCR := Lib.hid hcr
      have HMO := Lib.hid hmo
      clear hG hp3 hp4 hcr hmo hg hst0 hc0
      go_wp2
      go_end0
      refine ⟨rfl, _, ⟨A, c, crG keep gs 0, rfl, ?_⟩, (hTo.trans H3.out.2).trans H4.out.2⟩
      rw [← HMO.out, HCR.out]
      exact H4.out.1
end Go.Proofs.Ytelghdfikcodmaa.vref
