import Derived.Test.YtmnegmebkmihhaaGreatDoorMgTrn
import Derived.Test.YtmnegmebkmihhaaGreatDoorMgNum
import Derived.Test.YtmnegmebkmihhaaGreatDoorMgWrd
import Derived.Laws.Cover3
import Derived.Laws.IdiomStrings
import Derived.ChangeKeysEq
import Derived.Laws.StructEq
import Derived.Deep.RegionLaw
import Derived.Deep.RegionHeld3
/- Several of my own texts, one behind the other. -/
/-
  record's begins, get, ones: my own text.
-/
namespace Go.Proofs.YtmnegmebkmihhaaGreatDoor.recp
open Go.RowKit Go.Proofs.YtmnegmebkmihhaaGreatDoor.base Go.Proofs.YtmnegmebkmihhaaGreatDoor.num Go.Proofs.YtmnegmebkmihhaaGreatDoor.word Go.Proofs.YtmnegmebkmihhaaGreatDoor.recn
set_option linter.unusedVariables false
abbrev ptr (g : Nat) : Value := .pointer (some ⟨g, 0, none⟩)
abbrev ptrA (p : Addr) : Value := .pointer (some p)
abbrev tFour : TypeId := 277

theorem eq_four (x0 x1 x2 x3 m0 m1 m2 m3 : UInt8) (V : World) : (Op.equalIn 10000 tFour (.agg #[bv x0, bv x1, bv x2, bv x3]) (.agg #[bv m0, bv m1, bv m2, bv m3])).run Tryz.prog V = .ok ([x0, x1, x2, x3] == [m0, m1, m2, m3]) V := by
  obtain ⟨i0, hi0, hz0, hz1, hz2⟩ := info_parts byte_info
  have u := Tryz.underlying5
  have a3 := Tryz.isAgg5
  have z3 := Tryz.sizeOf5
  have hce : Tryz.prog.cellsOf 5 = 1 := by kernel_rfl
  rw [show (10000 : Nat) = 9999 + 1 from rfl, run_equalIn_array V 9999 _ _ (n := 4) (e := 5) (by kernel_rfl) hi0, hce]
  have hr4 : List.range 4 = [0, 1, 2, 3] := rfl
  rw [hr4]
  simp only [Op.eqItems]
  go_simp
  have iff := fun (x y : UInt8) => show ((x.toNat : Int) = (y.toNat : Int)) ↔ x = y from ⟨fun h => UInt8.toNat_inj.1 (by omega), fun h => by rw [h]⟩
  simp only [iff]
  by_cases h0 : x0 = m0 <;> simp [h0]
  by_cases h1 : x1 = m1 <;> simp [h1]
  by_cases h2 : x2 = m2 <;> simp [h2]
  by_cases h3 : x3 = m3 <;> simp [h3]
set_option maxHeartbeats 1000000 in
theorem begins_any (A : Option Addr) (n c : Nat) (xs : List UInt8) (s : ByteArray) (ms : List UInt8) (w : World) (B : Nat) (hr : Rd w B A n (xs.map bv)) (hB : B ≤ w.heap.size) (h4 : 4 ≤ n) (hn : n ≤ maxLen) (hs : s.data.toList = ms) (hm : ms.length = 4) :
    Calls Tryz.prog 127 #[.slice A n c, .string s] w fun e w' => e = .returned (.bool (xs.take 4 == ms)) ∧ Fresh w w' := by
  obtain ⟨b, off, x0, rfl, hb, hx0, hc0⟩ := hr.at_ (k := 0) (by omega)
  obtain ⟨b', off', x1, e1, hb1, hx1, hc1⟩ := hr.at_ (k := 1) (by omega)
  injection e1 with e1; injection e1 with e1 e2 _; subst e1; subst e2
  obtain ⟨b', off', x2, e1, hb1, hx2, hc2⟩ := hr.at_ (k := 2) (by omega)
  injection e1 with e1; injection e1 with e1 e2 _; subst e1; subst e2
  obtain ⟨b', off', x3, e1, hb1, hx3, hc3⟩ := hr.at_ (k := 3) (by omega)
  injection e1 with e1; injection e1 with e1 e2 _; subst e1; subst e2
  have hsa := fun W => run_arrayAt (P := Tryz.prog) (w := W) tFour 5 4 (some ⟨b, off, none⟩) n c (by kernel_rfl) h4
  have hcv := fun W => run_bytes_of_string (P := Tryz.prog) W 9 25 5 s Tryz.underlying9 Tryz.underlying25 Tryz.underlying5
  have hsz : s.size = 4 := by have := congrArg List.length hs; rw [hm] at this; simpa using this
  rw [hsz] at hcv
  have hbw : b < w.heap.size := by omega
  rw [Nat.add_zero] at hc0
  obtain ⟨m0, m1, m2, m3, rfl⟩ : ∃ m0 m1 m2 m3, ms = [m0, m1, m2, m3] := by
    match ms, hm with
    | [m0, m1, m2, m3], _ => exact ⟨m0, m1, m2, m3, rfl⟩
  have hrow : ∀ (W : World) (q : Nat) (fr : Nat × Nat) (i : Nat) (m : UInt8), [m0, m1, m2, m3][i]? = some m → (W.alloc (.cells (bytesRow s q) 5 fr)).cell? ⟨W.heap.size, i, none⟩ = some (bv m) := by
    intro W q fr i m hi
    have hj : i < s.data.size := by
      have h1 := (List.getElem?_eq_some_iff.1 hi).1
      rw [← hs, Array.length_toList] at h1
      exact h1
    rw [cell_of_row (W.alloc (.cells (bytesRow s q) 5 fr)) W.heap.size i _ _ fr (heap_alloc_new W _), bytesRow_at s _ i hj]
    rw [← hs, Array.getElem?_toList, Array.getElem?_eq_getElem hj] at hi
    injection hi with hi
    rw [hi]
  have r0 := fun W q fr => hrow W q fr 0 m0 rfl
  have r1 := fun W q fr => hrow W q fr 1 m1 rfl
  have r2 := fun W q fr => hrow W q fr 2 m2 rfl
  have r3 := fun W q fr => hrow W q fr 3 m3 rfl
  have hsa2 := fun W g c => run_arrayAt (P := Tryz.prog) (w := W) tFour 5 4 (some ⟨g, 0, none⟩) 4 c (by kernel_rfl) (Nat.le_refl _)
  have heq := fun V => eq_four x0 x1 x2 x3 m0 m1 m2 m3 V
  have hres : (xs.take 4 == [m0, m1, m2, m3]) = ([x0, x1, x2, x3] == [m0, m1, m2, m3]) := by
    congr 1
    match xs, hx0, hx1, hx2, hx3 with
    | a :: b :: c :: d :: r, hx0, hx1, hx2, hx3 => simp at hx0 hx1 hx2 hx3; subst hx0; subst hx1; subst hx2; subst hx3; rfl
  rw [hres]
  clear hres
  obtain ⟨R, hR⟩ : ∃ R, ([x0, x1, x2, x3] == [m0, m1, m2, m3]) = R := ⟨_, rfl⟩
  rw [hR] at heq ⊢
  clear hR
  clear hrow hs hsz hm hr hx0 hx1 hx2 hx3
  go_enter Tryz.func127, Tryz.ntmps127
  go_wp2
  go_region
  all_goals (go_wp2; go_ret)
  all_goals exact ⟨rfl, ((Fresh.alloc _ _).trans (Fresh.drew _)).trans (Fresh.drew _)⟩
end Go.Proofs.YtmnegmebkmihhaaGreatDoor.recp
/-
  record's ones, get, getWide: my own text.
-/
namespace Go.Proofs.YtmnegmebkmihhaaGreatDoor.recp
open Go.RowKit Go.Proofs.YtmnegmebkmihhaaGreatDoor.base Go.Proofs.YtmnegmebkmihhaaGreatDoor.num Go.Proofs.YtmnegmebkmihhaaGreatDoor.word Go.Proofs.YtmnegmebkmihhaaGreatDoor.recn
set_option linter.unusedVariables false

theorem ones4 (w : World) : Calls Tryz.prog 130 #[.int .i64 4] w fun e w' => e = .returned (.int .i64 4294967295) ∧ w = w' := by
  go_enter Tryz.func130, Tryz.ntmps130
  go_wp2
  go_ret
  exact ⟨rfl, rfl⟩
theorem ones2 (w : World) : Calls Tryz.prog 130 #[.int .i64 2] w fun e w' => e = .returned (.int .i64 65535) ∧ w = w' := by
  go_enter Tryz.func130, Tryz.ntmps130
  go_wp2
  go_ret
  exact ⟨rfl, rfl⟩

/-- what get sets: the numbers of k bytes, one behind the other -/
def gets (k : Nat) (xs : List UInt8) (ps : List Addr) : List (Addr × Value) := ps.zipIdx.map fun x => (x.1, iv (nm xs (x.2 * k) k : Nat))
theorem gets_snoc (k : Nat) (xs : List UInt8) (ps : List Addr) (j : Nat) (p : Addr) (h : ps[j]? = some p) : gets k xs (ps.take (j + 1)) = gets k xs (ps.take j) ++ [(p, iv (nm xs (j * k) k : Nat))] := by
  have hj := (List.getElem?_eq_some_iff.1 h).1
  unfold gets
  rw [take_snoc _ _ _ h, List.zipIdx_append, List.map_append, List.length_take, Nat.min_eq_left (by omega)]
  simp
theorem gets_mem {k : Nat} {xs : List UInt8} {ps : List Addr} {S : List Nat} (h : ∀ p ∈ ps, p.block ∈ S) : ∀ x ∈ gets k xs ps, x.1.block ∈ S := by
  intro x hx
  obtain ⟨y, hy, rfl⟩ := List.mem_map.1 hx
  exact h _ (List.fst_mem_of_mem_zipIdx hy)

/-- what is left of the bytes, in a world behind w1 -/
def Got (S : List Nat) (w1 : World) (n : Nat) (xs : List UInt8) (e : Ending) (w' : World) : Prop :=
  ∃ A' c', e = .returned (.slice A' n c') ∧ n ≤ c' ∧ c' ≤ maxLen ∧ Fresh w1 w' ∧ RdA w' S A' n (xs.map bv)
set_option maxHeartbeats 1000000 in
/-- get -/
theorem get_any (A : Option Addr) (n c k : Nat) (xs : List UInt8) (D : Option Addr) (m d : Nat) (ps : List Addr) (S : List Nat) (w : World) (hr : RdA w S A n (xs.map bv)) (hc : n ≤ c) (hm : c ≤ maxLen) (hn : n ≤ 1099511627776) (hk : k = 2 ∨ k = 4)
    (hd : RdA w S D m (ps.map ptrA)) (hp : ∀ p ∈ ps, p.block ∈ S ∧ Wr w p) (hfit : m * k ≤ n) :
    Calls Tryz.prog 129 #[.slice A n c, .int .i64 k, .slice D m d] w (Got S (sets w (gets k xs ps)) (n - m * k) (xs.drop (m * k))) := by
  have hlp : ps.length = m := by have := hd.1; rwa [List.length_map] at this
  have hT : ∀ j, Turn S S w (sets w (gets k xs (ps.take j))) := fun j => sets_turn w _ (gets_mem fun p hp' => (hp p (List.mem_of_mem_take hp')).1)
  have hcut := ((hr.turn (hT m)).cut (lo := m * k) (hi := n) (cap := c) hfit (Nat.le_refl _) hc)
  rw [← List.map_drop, ← List.map_take, List.take_of_length_le (l := xs.drop (m * k)) (by have := hr.1; rw [List.length_map] at this; rw [List.length_drop]; omega)] at hcut
  have hw : ∀ z : Nat, z = 2 ∨ z = 4 → wide (z : Int) = z := by rintro z (rfl | rfl) <;> rfl
  have hget : ∀ (j : Nat) (z : Int), j < m → z = ((j * k : Nat) : Int) → Calls Tryz.prog 181 #[.slice A n c, .int .i64 z, .int .i64 k] (sets w (gets k xs (ps.take j))) fun e w' => e = .returned (.tuple #[.int .i64 (nm xs (j * k) k : Nat), .int .i64 0]) ∧ (sets w (gets k xs (ps.take j))) = w' := by
    intro j z hj hz
    subst hz
    have hjk : (j + 1) * k ≤ m * k := Nat.mul_le_mul_right _ hj
    rw [Nat.succ_mul] at hjk
    have := get_ok A n c xs (j * k) k (sets w (gets k xs (ps.take j))) _ (hr.turn (hT j)).rd hc hm (by rw [hw k hk]; omega)
    rwa [hw k hk] at this
  have hmk : m * k ≤ n := hfit
  have hkm : k * m = m * k := Nat.mul_comm _ _
  have hmul : ∀ j : Nat, (j : Int) * (k : Int) = ((j * k : Nat) : Int) := fun j => by simp
  have hk1 : 1 ≤ k := by omega
  have hmn : m ≤ m * k := Nat.le_mul_of_pos_right _ hk1
  have HG := Lib.hid hget
  have HD := Lib.hid hd
  have HP := Lib.hid hp
  have HT := Lib.hid hT
  have HLP := Lib.hid hlp
  have HCUT := Lib.hid hcut
  have HMUL := Lib.hid hmul
  have HMAX : RowKit.Hid (c ≤ maxLen) := hm
  have hbnd : m * k ≤ 1099511627776 := by omega
  unfold maxLen at hm
  clear hget hd hp hT hlp hcut hr hw hmk hkm hmul
  go_enter Tryz.func129, Tryz.ntmps129
  go_wp2
  go_loopw [11] (fun i wr => ∃ j : Nat, j ≤ m ∧ i = .int .i64 j ∧ Hid (wr = sets w (gets k xs (ps.take j)))) (fun i _ => m - (intOf i).toNat)
  case atStart => exact ⟨0, by omega, rfl, rfl⟩
  case round =>
    obtain ⟨j, hj, rfl, hwr⟩ := hrel
    have e := hwr.out
    subst e
    clear hwr
    by_cases hlt : j < m
    · obtain ⟨b, off, p, rfl, hb, hbS, hpx⟩ : ∃ b off p, D = some ⟨b, off, none⟩ ∧ b < w.heap.size ∧ b ∉ S ∧ ps[j]? = some p := by
        obtain ⟨b, off, e, hb, hS, _⟩ := HD.out.2 (by omega)
        exact ⟨b, off, ps[j]'(by have := HLP.out; omega), e, hb, hS, List.getElem?_eq_getElem _⟩
      have hcell : (sets w (gets k xs (ps.take j))).cell? ⟨b, off + j, none⟩ = some (ptrA p) := by
        obtain ⟨b', off', e, _, _, hc'⟩ := (HD.out.turn (HT.out j)).2 (by omega)
        injection e with e; injection e with e1 e2 _; subst e1; subst e2
        exact hc' j _ (by rw [List.getElem?_map, hpx]; rfl)
      obtain ⟨⟨pv, hpv⟩, hpf⟩ := ((HP.out p (List.mem_of_getElem? hpx)).2).sets (gets k xs (ps.take j))
      have hjk : (j + 1) * k ≤ m * k := Nat.mul_le_mul_right _ hlt
      rw [Nat.succ_mul] at hjk
      have hm1 := HMUL.out j
      have hb1 : 0 ≤ (j : Int) * (k : Int) := by rw [hm1]; omega
      have hb2 : (j : Int) * (k : Int) ≤ 140737488355328 := by rw [hm1]; omega
      have HGJ := Lib.hid (HG.out j _ hlt hm1)
      have HSN := Lib.hid (gets_snoc k xs ps j p hpx)
      clear hm1 hpx hjk
      generalize hW : sets w (gets k xs (ps.take j)) = W at *
      have HW := Lib.hid hW
      clear hW
      go_wp2_with (go_at_call 181; ((with_reducible refine (HGJ.out).mono ?_); rintro e w' ⟨rfl, rfl⟩))
      go_roundw
      case rel => exact ⟨j + 1, by omega, by go_num, by show _ = _; rw [HSN.out, sets_append, HW.out]; rfl⟩
      case measure => simp [intOf]; omega
    · have h0 : j = m := by omega
      subst h0
      have hm1 := HMUL.out j
      have hb1 : 0 ≤ (j : Int) * (k : Int) := by rw [hm1]; omega
      have hb2 : (j : Int) * (k : Int) ≤ (n : Int) := by rw [hm1]; omega
      have hlt' : ps.take j = ps := List.take_of_length_le (by have := HLP.out; omega)
      rw [hlt'] at HCUT
      rw [hlt']
      clear hlt'
      have HM1 := Lib.hid hm1
      clear hm1
      go_wp2
      all_goals go_ret
      · refine ⟨_, _, rfl, by omega, by have := HMAX.out; omega, Fresh.refl _, ?_⟩
        have := HCUT.out
        rwa [if_pos (by assumption)] at this
      · refine ⟨_, _, rfl, by omega, by have := HMAX.out; omega, Fresh.refl _, ?_⟩
        have := HCUT.out
        rwa [if_neg (by assumption)] at this

/-- what getWide sets: the numbers of eight bytes -/
def getsW (xs : List UInt8) (ps : List Addr) : List (Addr × Value) := ps.zipIdx.map fun x => (x.1, iv (sg64 (nm xs (x.2 * 8) 8)))
theorem getsW_snoc (xs : List UInt8) (ps : List Addr) (j : Nat) (p : Addr) (h : ps[j]? = some p) : getsW xs (ps.take (j + 1)) = getsW xs (ps.take j) ++ [(p, iv (sg64 (nm xs (j * 8) 8)))] := by
  have hj := (List.getElem?_eq_some_iff.1 h).1
  unfold getsW
  rw [take_snoc _ _ _ h, List.zipIdx_append, List.map_append, List.length_take, Nat.min_eq_left (by omega)]
  simp
theorem getsW_mem {xs : List UInt8} {ps : List Addr} {S : List Nat} (h : ∀ p ∈ ps, p.block ∈ S) : ∀ x ∈ getsW xs ps, x.1.block ∈ S := by
  intro x hx
  obtain ⟨y, hy, rfl⟩ := List.mem_map.1 hx
  exact h _ (List.fst_mem_of_mem_zipIdx hy)
/-- 'high<<32 | low' -/
theorem or_wide (lo hi : Nat) (h1 : lo < 4294967296) (h2 : hi < 4294967296) : bits .or .i64 (wrap64 ((hi : Int) * 4294967296)) (lo : Int) = sg64 (lo + 4294967296 * hi) := by
  have hd : (4294967296 * hi ||| lo) = 4294967296 * hi + lo := by
    have := Nat.two_pow_add_eq_or_of_lt (i := 32) (b := lo) (by omega) hi
    rw [show (2 : Nat) ^ 32 = 4294967296 from rfl] at this
    omega
  show IntKind.i64.wrap ((BitVec.ofInt 64 (wrap64 ((hi : Int) * 4294967296)) ||| BitVec.ofInt 64 (lo : Int)).toNat : Int) = _
  have e1 : (BitVec.ofInt 64 (wrap64 ((hi : Int) * 4294967296))).toNat = 4294967296 * hi := by
    rw [BitVec.toNat_ofInt]
    unfold wrap64
    omega
  rw [BitVec.toNat_or, e1, ofInt_64 lo (by omega), hd, IntKind.wrap_i64]
  unfold sg64
  split <;> omega
end Go.Proofs.YtmnegmebkmihhaaGreatDoor.recp
/-
  record's getWide: my own text.
-/
namespace Go.Proofs.YtmnegmebkmihhaaGreatDoor.recp
open Go.RowKit Go.Proofs.YtmnegmebkmihhaaGreatDoor.base Go.Proofs.YtmnegmebkmihhaaGreatDoor.num Go.Proofs.YtmnegmebkmihhaaGreatDoor.word Go.Proofs.YtmnegmebkmihhaaGreatDoor.recn
set_option linter.unusedVariables false
abbrev tInt : TypeId := 3
abbrev tPtr : TypeId := 204
/-- two boxes, new, and a row that points at them -/
theorem two_new (w : World) (S : List Nat) (hS : ∀ i ∈ S, i < w.heap.size) (g : Nat) (hg : w.heap.size = g) (W : World) (hW : ((w.alloc (.cells #[.int .i64 0] tInt)).alloc (.cells #[.int .i64 0] tInt)).alloc (.cells #[ptr g, ptr (g + 1)] tPtr) = W) :
    Bk W g tInt [iv 0] ∧ Bk W (g + 1) tInt [iv 0] ∧ RdA W ([g, g + 1] ++ S) (some ⟨g + 1 + 1, 0, none⟩) 2 [ptr g, ptr (g + 1)] ∧ Fresh w W ∧ W.heap.size = g + 3 := by
  subst hg
  subst hW
  have h0 := Bk.made w tInt #[.int .i64 0]
  have h1 := Bk.made (w.alloc (.cells #[.int .i64 0] tInt)) tInt #[.int .i64 0]
  have e1 : (w.alloc (.cells #[.int .i64 0] tInt)).heap.size = w.heap.size + 1 := by simp
  have e2 : ((w.alloc (.cells #[.int .i64 0] tInt)).alloc (.cells #[.int .i64 0] tInt)).heap.size = w.heap.size + 1 + 1 := by simp
  rw [e1] at h1
  have h2 := RdA.lit (S := [w.heap.size, w.heap.size + 1] ++ S) ((w.alloc (.cells #[.int .i64 0] tInt)).alloc (.cells #[.int .i64 0] tInt)) #[ptr w.heap.size, ptr (w.heap.size + 1)] tPtr (by
    intro i hi
    rw [e2]
    rcases List.mem_append.1 hi with h | h
    · simp at h; omega
    · have := hS i h; omega)
  rw [e2] at h2
  exact ⟨(h0.alloc _).alloc _, h1.alloc _, h2, ((Fresh.alloc _ _).trans (Fresh.alloc _ _)).trans (Fresh.alloc _ _), by simp⟩
theorem two_set {w : World} {a b : Nat} {t t' : TypeId} {u v : Value} (ha : Bk w a t [u]) (hb : Bk w b t' [v]) (hne : a ≠ b) (x y : Value) :
    Bk (sets w [(⟨a, 0, none⟩, x), (⟨b, 0, none⟩, y)]) a t [x] ∧ Bk (sets w [(⟨a, 0, none⟩, x), (⟨b, 0, none⟩, y)]) b t' [y] :=
  ⟨(ha.put 0 x).apart (p := ⟨b, 0, none⟩) hne y, (hb.apart (p := ⟨a, 0, none⟩) (fun h => hne h.symm) x).put 0 y⟩

set_option maxHeartbeats 2000000 in
/-- getWide -/
theorem getWide_any (A : Option Addr) (n c : Nat) (xs : List UInt8) (D : Option Addr) (m d : Nat) (ps : List Addr) (S : List Nat) (w : World) (hr : RdA w S A n (xs.map bv)) (hc : n ≤ c) (hm : c ≤ maxLen) (hn : n ≤ 1099511627776)
    (hd : RdA w S D m (ps.map ptrA)) (hp : ∀ p ∈ ps, p.block ∈ S ∧ Wr w p) (hS : ∀ i ∈ S, i < w.heap.size) (hfit : m * 8 ≤ n) :
    Calls Tryz.prog 132 #[.slice A n c, .slice D m d] w (Got S (sets w (getsW xs ps)) (n - m * 8) (xs.drop (m * 8))) := by
  have hlp : ps.length = m := by have := hd.1; rwa [List.length_map] at this
  have hlx : xs.length = n := by have := hr.1; rwa [List.length_map] at this
  have hT : ∀ j, Turn S S w (sets w (getsW xs (ps.take j))) := fun j => sets_turn w _ (getsW_mem fun p hp' => (hp p (List.mem_of_mem_take hp')).1)
  have hsz : ∀ j, (sets w (getsW xs (ps.take j))).heap.size = w.heap.size := fun j => sets_size _ _
  have HS := Lib.hid hS
  have HD := Lib.hid hd
  have HP := Lib.hid hp
  have HT := Lib.hid hT
  have HLP := Lib.hid hlp
  have HLX := Lib.hid hlx
  have HSZ := Lib.hid hsz
  have HR := Lib.hid hr
  have HMAX : RowKit.Hid (c ≤ maxLen) := hm
  unfold maxLen at hm
  clear hS hd hp hT hlp hlx hsz hr
  go_enter Tryz.func132, Tryz.ntmps132
  go_wp2
  go_loopw [0, 11] (fun v i wr => ∃ (j N c' : Nat) (A' : Option Addr), j ≤ m ∧ i = .int .i64 j ∧ v = .slice A' N c' ∧ N + j * 8 = n ∧ N ≤ c' ∧ Hid (c' ≤ maxLen) ∧ Hid (Fresh (sets w (getsW xs (ps.take j))) wr) ∧ Hid (RdA wr S A' N ((xs.drop (j * 8)).map bv))) (fun _ i _ => m - (intOf i).toNat)
  case atStart => exact ⟨0, n, c, A, by omega, rfl, rfl, by omega, hc, HMAX, Lib.hid (Fresh.refl _), HR⟩
  case round =>
    obtain ⟨j, N, c', A', hj, rfl, rfl, hN, hNc, hcm, hF, hRA⟩ := hrel
    by_cases hlt : j < m
    · obtain ⟨b, off, p, rfl, hb, hbS, hpx⟩ : ∃ b off p, D = some ⟨b, off, none⟩ ∧ b < w.heap.size ∧ b ∉ S ∧ ps[j]? = some p := by
        obtain ⟨b, off, e, hb, hS, _⟩ := HD.out.2 (by omega)
        exact ⟨b, off, ps[j]'(by have := HLP.out; omega), e, hb, hS, List.getElem?_eq_getElem _⟩
      have hcell : wr.cell? ⟨b, off + j, none⟩ = some (ptrA p) := by
        obtain ⟨b', off', e, _, _, hc'⟩ := ((HD.out.turn (HT.out j)).fresh hF.out).2 (by omega)
        injection e with e; injection e with e1 e2 _; subst e1; subst e2
        exact hc' j _ (by rw [List.getElem?_map, hpx]; rfl)
      have hpm := HP.out p (List.mem_of_getElem? hpx)
      have hpw := ((hpm.2).sets (getsW xs (ps.take j)))
      have hpb := hpw.inside
      have hwr := hpw.fresh hF.out
      have hwsz : w.heap.size ≤ wr.heap.size := by have := hF.out.size; rw [HSZ.out j] at this; exact this
      have hj8 : (j + 1) * 8 ≤ m * 8 := Nat.mul_le_mul_right _ hlt
      obtain ⟨g, hg⟩ : ∃ g, wr.heap.size = g := ⟨_, rfl⟩
      obtain ⟨h0, h1, h2, hf3, hs3⟩ := two_new wr S (fun i hi => Nat.lt_of_lt_of_le (HS.out i hi) hwsz) g hg _ rfl
      have hx8 : 8 ≤ N := by omega
      have hgt := fun d => get_any A' N c' 4 (xs.drop (j * 8)) _ 2 d [⟨g, 0, none⟩, ⟨g + 1, 0, none⟩] ([g, g + 1] ++ S) _ ((hRA.out.more (R := [g, g + 1]) (by intro i hi; simp at hi; omega)).fresh hf3) hNc hcm.out (by omega) (.inr rfl) h2 (by
        intro q hq
        simp only [List.mem_cons, List.not_mem_nil, or_false] at hq
        rcases hq with rfl | rfl
        · exact ⟨by simp, h0.wr (by simp)⟩
        · exact ⟨by simp, h1.wr (by simp)⟩) (by omega)
      obtain ⟨H4a, H4b⟩ := two_set h0 h1 (by omega) (iv (nm (xs.drop (j * 8)) (0 * 4) 4 : Nat)) (iv (nm (xs.drop (j * 8)) (1 * 4) 4 : Nat))
      have hge : gets 4 (xs.drop (j * 8)) [⟨g, 0, none⟩, ⟨g + 1, 0, none⟩] = [(⟨g, 0, none⟩, iv (nm (xs.drop (j * 8)) (0 * 4) 4 : Nat)), (⟨g + 1, 0, none⟩, iv (nm (xs.drop (j * 8)) (1 * 4) 4 : Nat))] := rfl
      rw [hge] at hgt
      rw [List.drop_drop] at hgt
      have b4 := nm4 (xs.drop (j * 8)) (0 * 4)
      have b5 := nm4 (xs.drop (j * 8)) (1 * 4)
      have hval : sg64 (nm xs (j * 8) 8) = sg64 (nm (xs.drop (j * 8)) (0 * 4) 4 + 4294967296 * nm (xs.drop (j * 8)) (1 * 4) 4) := by
        rw [nm_drop, nm_drop, nm8 xs (j * 8) (by have := HLX.out; omega)]
        rfl
      generalize nm (xs.drop (j * 8)) (0 * 4) 4 = lo at *
      generalize nm (xs.drop (j * 8)) (1 * 4) 4 = hi at *
      have hor := or_wide lo hi (by omega) (by omega)
      have hv2 := hval.symm
      generalize hV : sg64 (nm xs (j * 8) 8) = V at *
      rw [hv2] at hor
      have hsn := getsW_snoc xs ps j p hpx
      rw [hV] at hsn
      have HV := Lib.hid hV
      have HSN := Lib.hid hsn
      have hfw4 : Fresh wr (sets (((wr.alloc (.cells #[.int .i64 0] tInt)).alloc (.cells #[.int .i64 0] tInt)).alloc (.cells #[ptr g, ptr (g + 1)] tPtr)) [(⟨g, 0, none⟩, iv (lo : Nat)), (⟨g + 1, 0, none⟩, iv (hi : Nat))]) :=
        (sets_turn (S := [g, g + 1]) _ _ (by intro x hx; simp at hx; rcases hx with rfl | rfl <;> simp)).new hf3 (by intro i hi; simp at hi; omega)
      have HGT := Lib.hid hgt
      have H4A := Lib.hid H4a
      have H4B := Lib.hid H4b
      have HFW4 := Lib.hid hfw4
      have HWR := Lib.hid hwr
      have HPB := Lib.hid hpb
      have HPM := Lib.hid hpm.1
      have HG := Lib.hid hg
      clear hval hv2 hV hsn hgt H4a H4b hfw4 h0 h1 h2 hf3 hs3 hge hpm hpw hwr hpb hpx hg
      have hg' := HG.out
      subst hg'
      go_wp2_with (go_at_call 129; refine (HGT.out _).mono ?_; rintro e w4 ⟨A4, c4, rfl, hc4, hm4, hf4, hr4⟩; have k0 : w4.cell? ⟨wr.heap.size, 0, none⟩ = some (iv (lo : Nat)) := (H4A.out.fresh hf4).cell rfl; have k1 : w4.cell? ⟨wr.heap.size + 1, 0, none⟩ = some (iv (hi : Nat)) := (H4B.out.fresh hf4).cell rfl; have hf5 := HFW4.out.trans hf4; obtain ⟨⟨pv, hpv⟩, hpf⟩ := HWR.out.fresh hf5; have HF5 := Lib.hid hf5; have HR4 := Lib.hid hr4; have HM4 := Lib.hid hm4; clear hf5 hr4 hf4 hm4)
      go_roundw
      case rel =>
        refine ⟨j + 1, N - 8, c4, A4, by omega, by go_num, rfl, by omega, by omega, HM4, ?_, ?_⟩
        · refine Lib.hid ?_
          rw [HSN.out, sets_append]
          exact (hF.out.trans HF5.out).set HPB.out _
        · refine Lib.hid ?_
          have h6 := (HR4.out.sub (T := S) fun i hi => List.mem_append_right _ hi).turn (Turn.put (p := p) w4 (iv V) HPM.out)
          rw [show (j + 1) * 8 = j * 8 + 2 * 4 from by omega]
          exact h6
      case measure => simp [intOf]; omega
    · have h0 : j = m := by omega
      subst h0
      have hlt' : ps.take j = ps := List.take_of_length_le (by have := HLP.out; omega)
      rw [hlt'] at hF
      go_wp2
      go_ret
      exact ⟨A', c', by rw [show n - j * 8 = N from by omega]; rfl, by omega, hcm.out, hF.out, by rw [show n - j * 8 = N from by omega]; exact hRA.out⟩
end Go.Proofs.YtmnegmebkmihhaaGreatDoor.recp
/-
  record's getShared, begun: my own text.
-/
namespace Go.Proofs.YtmnegmebkmihhaaGreatDoor.recp
open Go.RowKit Go.Proofs.YtmnegmebkmihhaaGreatDoor.base Go.Proofs.YtmnegmebkmihhaaGreatDoor.num Go.Proofs.YtmnegmebkmihhaaGreatDoor.word Go.Proofs.YtmnegmebkmihhaaGreatDoor.recn
set_option linter.unusedVariables false
abbrev tHead : TypeId := 73
/-- get, behind the making of its row of pointers -/
theorem get_row (A : Option Addr) (n c k : Nat) (xs : List UInt8) (ps : List Addr) (S : List Nat) (m g0 : Nat) (w : World) (hr : RdA w S A n (xs.map bv)) (hc : n ≤ c) (hm : c ≤ maxLen) (hn : n ≤ 1099511627776) (hk : k = 2 ∨ k = 4)
    (hl : ps.length = m) (hg0 : g0 = w.heap.size) (hp : ∀ p ∈ ps, p.block ∈ S ∧ Wr w p) (hS : ∀ i ∈ S, i < w.heap.size) (hfit : m * k ≤ n) :
    Calls Tryz.prog 129 #[.slice A n c, .int .i64 k, .slice (some ⟨g0, 0, none⟩) m m] (w.alloc (.cells (ps.map ptrA).toArray tPtr)) (Got S (sets (w.alloc (.cells (ps.map ptrA).toArray tPtr)) (gets k xs ps)) (n - m * k) (xs.drop (m * k))) := by
  subst hg0
  have hf := Fresh.alloc w (.cells (ps.map ptrA).toArray tPtr)
  have hl2 := RdA.lit (S := S) w (ps.map ptrA).toArray tPtr hS
  rw [show (ps.map ptrA).toArray.size = m from by simp [hl]] at hl2
  exact get_any A n c k xs _ m m ps S _ (hr.fresh hf) hc hm hn hk hl2 (fun p h => ⟨(hp p h).1, (hp p h).2.fresh hf⟩) hfit
theorem getWide_row (A : Option Addr) (n c : Nat) (xs : List UInt8) (ps : List Addr) (S : List Nat) (m g0 : Nat) (w : World) (hr : RdA w S A n (xs.map bv)) (hc : n ≤ c) (hm : c ≤ maxLen) (hn : n ≤ 1099511627776)
    (hl : ps.length = m) (hg0 : g0 = w.heap.size) (hp : ∀ p ∈ ps, p.block ∈ S ∧ Wr w p) (hS : ∀ i ∈ S, i < w.heap.size) (hfit : m * 8 ≤ n) :
    Calls Tryz.prog 132 #[.slice A n c, .slice (some ⟨g0, 0, none⟩) m m] (w.alloc (.cells (ps.map ptrA).toArray tPtr)) (Got S (sets (w.alloc (.cells (ps.map ptrA).toArray tPtr)) (getsW xs ps)) (n - m * 8) (xs.drop (m * 8))) := by
  subst hg0
  have hf := Fresh.alloc w (.cells (ps.map ptrA).toArray tPtr)
  have hl2 := RdA.lit (S := S) w (ps.map ptrA).toArray tPtr hS
  rw [show (ps.map ptrA).toArray.size = m from by simp [hl]] at hl2
  exact getWide_any A n c xs _ m m ps S _ (hr.fresh hf) hc hm hn hl2 (fun p h => ⟨(hp p h).1, (hp p h).2.fresh hf⟩) (fun i hi => Nat.lt_of_lt_of_le (hS i hi) hf.size) hfit
/-- of what was there just T has turned -/
theorem turn_of {T : List Nat} {w w1 w' : World} {l : List (Addr × Value)} (hf : Fresh w w1) (h : Fresh (sets w1 l) w') (hT : ∀ x ∈ l, x.1.block ∈ T) : Turn T T w w' :=
  ((Turn.fresh hf).trans (sets_turn w1 l hT)).trans (Turn.fresh h)
theorem wrap_u32 (z : Nat) (h : z ≤ 4294967295) : IntKind.u32.wrap (z : Int) = (z : Int) := by
  simp [IntKind.wrap, IntKind.signed, IntKind.bits]; omega
/-- what local and central heads have alike -/
def SharedIs (g a b : Nat) (S : List Nat) (xs : List UInt8) (n : Nat) (x6 x7 x8 : Value) (w : World) (e : Ending) (w' : World) : Prop :=
  ∃ A' c', e = .returned (.slice A' (n - 24) c') ∧ n - 24 ≤ c' ∧ c' ≤ maxLen ∧ RdA w' S A' (n - 24) ((xs.drop 24).map bv) ∧ Turn [g, a, b] [g, a, b] w w' ∧
    Bk w' g tHead [iv (nm xs 0 2 : Nat), iv (nm xs 2 2 : Nat), iv (nm xs 4 4 : Nat), .int .u32 (nm xs 8 4 : Nat), iv (nm xs 12 4 : Nat), iv (nm xs 16 4 : Nat), x6, x7, x8] ∧
    Bk w' a tInt [iv (nm xs 20 2 : Nat)] ∧ Bk w' b tInt [iv (nm xs 22 2 : Nat)]
set_option maxHeartbeats 4000000 in
theorem getShared_any (A : Option Addr) (n c : Nat) (xs : List UInt8) (g a b : Nat) (S : List Nat) (x0 x1 x2 x3 x4 x5 x6 x7 x8 u v : Value) (w : World) (hr : RdA w S A n (xs.map bv)) (hc : n ≤ c) (hm : c ≤ maxLen) (hn : n ≤ 1099511627776)
    (hg : Bk w g tHead [x0, x1, x2, x3, x4, x5, x6, x7, x8]) (ha : Bk w a tInt [u]) (hb : Bk w b tInt [v]) (hab : a ≠ b) (hgS : g ∈ S) (haS : a ∈ S) (hbS : b ∈ S) (hS : ∀ i ∈ S, i < w.heap.size) (hfit : 24 ≤ n) :
    Calls Tryz.prog 133 #[.slice A n c, ptr g, ptr a, ptr b] w (SharedIs g a b S xs n x6 x7 x8 w) := by
  have hga : g ≠ a := hg.ne ha (by decide)
  have hgb : g ≠ b := hg.ne hb (by decide)
  obtain ⟨q, hq⟩ : ∃ q, w.heap.size = q := ⟨_, rfl⟩
  have hf0 := Fresh.alloc w (.cells #[.int .i64 0] tInt)
  have hqk := Bk.made w tInt #[.int .i64 0]
  have hsz0 : (w.alloc (.cells #[.int .i64 0] tInt)).heap.size = q + 1 := by simp [hq]
  rw [hq] at hqk
  have hqg : q ≠ g := by have := hg.inside; omega
  have hqa : q ≠ a := by have := ha.inside; omega
  have hqb : q ≠ b := by have := hb.inside; omega
  have hqS : q ∉ S := fun h => by have := hS q h; omega
  have hS1 : ∀ i ∈ q :: S, i < (w.alloc (.cells #[.int .i64 0] tInt)).heap.size := by
    intro i hi
    rw [hsz0]
    rcases List.mem_cons.1 hi with rfl | hi
    · omega
    · have := hS i hi; omega
  have hr0 : RdA (w.alloc (.cells #[.int .i64 0] tInt)) (q :: S) A n (xs.map bv) := (hr.more (R := [q]) (by intro i hi; simp at hi; omega)).fresh hf0
  have hg0 := hg.fresh hf0
  have ha0 := ha.fresh hf0
  have hb0 := hb.fresh hf0
  have HR := Lib.hid hr0
  have HG := Lib.hid hg0
  have HA := Lib.hid ha0
  have HB := Lib.hid hb0
  have HQ := Lib.hid hqk
  have HS1 := Lib.hid hS1
  have HF0 := Lib.hid hf0
  have HSZ := Lib.hid hsz0
  have HMAX : RowKit.Hid (c ≤ maxLen) := hm
  clear hr hg ha hb hS hf0 hqk hS1 hr0 hg0 ha0 hb0 hsz0 hm
  have HQE := Lib.hid hq
  clear hq
  go_enter Tryz.func133, Tryz.ntmps133
  go_wp2
  have hq := HQE.out
  subst hq
  have H1 := Lib.hid (Fresh.alloc w (.cells #[.int .i64 0] tInt))
  generalize w.alloc (.cells #[.int .i64 0] tInt) = W1 at *
  have hw0 : ∀ p ∈ [(⟨g, 0, none⟩ : Addr), ⟨g, 1, none⟩], p.block ∈ w.heap.size :: S ∧ Wr W1.drew p := by
    intro p hp
    simp only [List.mem_cons, List.not_mem_nil, or_false] at hp
    have hk := HG.out.fresh (Fresh.drew W1)
    rcases hp with rfl | rfl
    · exact ⟨by simp [hgS], hk.wr (by simp)⟩
    · exact ⟨by simp [hgS], hk.wr (by simp)⟩
  have HW0 := Lib.hid hw0
  clear hw0
  go_region_held3 (fun w' => True) (exact trivial)
    (first
    | (go_at_call 129; (refine (get_row A n c 2 xs [⟨g, 0, none⟩, ⟨g, 1, none⟩] (w.heap.size :: S) 2 _ W1.drew (HR.out.fresh (Fresh.drew _)) hc HMAX.out hn (.inl rfl) rfl rfl HW0.out HS1.out (by omega)).mono ?_); rintro e w2 ⟨A2, c2, rfl, hc2, hm2, hf2, hr2⟩; have HF2 := Lib.hid hf2; have HR2 := Lib.hid hr2; have HM2 := Lib.hid hm2; clear hf2 hr2 hm2))
  have hT2 : Turn [g] [g] W1 w2 := turn_of ((Fresh.drew W1).trans (Fresh.alloc _ _)) HF2.out (by intro x hx; simp [gets] at hx; rcases hx with rfl | rfl <;> simp)
  have hG2 : Bk w2 g tHead [iv (nm xs 0 2 : Nat), iv (nm xs 2 2 : Nat), x2, x3, x4, x5, x6, x7, x8] := ((((HG.out.fresh (Fresh.drew W1)).alloc _).put 0 _).put 1 _).fresh HF2.out
  have hQ2 := HQ.out.turn hT2 (by simp [hqg])
  have hA2 := HA.out.turn hT2 (by simp [Ne.symm hga])
  have hB2 := HB.out.turn hT2 (by simp [Ne.symm hgb])
  have hS2 : ∀ i ∈ w.heap.size :: S, i < w2.heap.size := fun i hi => Nat.lt_of_lt_of_le (HS1.out i hi) hT2.size
  have hw2 : ∀ p ∈ [(⟨g, 2, none⟩ : Addr), ⟨w.heap.size, 0, none⟩, ⟨g, 4, none⟩, ⟨g, 5, none⟩], p.block ∈ w.heap.size :: S ∧ Wr w2.drew p := by
    intro p hp
    simp only [List.mem_cons, List.not_mem_nil, or_false] at hp
    have hk := hG2.fresh (Fresh.drew w2)
    rcases hp with rfl | rfl | rfl | rfl
    · exact ⟨by simp [hgS], hk.wr (by simp)⟩
    · exact ⟨by simp, (hQ2.fresh (Fresh.drew w2)).wr (by simp)⟩
    · exact ⟨by simp [hgS], hk.wr (by simp)⟩
    · exact ⟨by simp [hgS], hk.wr (by simp)⟩
  have HT2 := Lib.hid hT2
  have HG2 := Lib.hid hG2
  have HQ2 := Lib.hid hQ2
  have HA2 := Lib.hid hA2
  have HB2 := Lib.hid hB2
  have HS2 := Lib.hid hS2
  have HW2 := Lib.hid hw2
  clear hT2 hG2 hQ2 hA2 hB2 hS2 hw2
  go_wp2
  go_region_held3 (fun w' => True) (exact trivial)
    (first
    | (go_at_call 129; (refine (get_row A2 (n - 2 * 2) c2 4 (xs.drop (2 * 2)) [⟨g, 2, none⟩, ⟨w.heap.size, 0, none⟩, ⟨g, 4, none⟩, ⟨g, 5, none⟩] (w.heap.size :: S) 4 _ w2.drew (HR2.out.fresh (Fresh.drew _)) hc2 HM2.out (by omega) (.inr rfl) rfl rfl HW2.out HS2.out (by omega)).mono ?_); rintro e w3 ⟨A3, c3, rfl, hc3, hm3, hf3, hr3⟩; have HF3 := Lib.hid hf3; have HR3 := Lib.hid hr3; have HM3 := Lib.hid hm3; clear hf3 hr3 hm3))
  have hT3 : Turn [g, w.heap.size] [g, w.heap.size] w2 w3 := turn_of ((Fresh.drew w2).trans (Fresh.alloc _ _)) HF3.out (by intro x hx; simp [gets] at hx; rcases hx with rfl | rfl | rfl | rfl <;> simp)
  have e1 : nm (xs.drop (2 * 2)) (0 * 4) 4 = nm xs 4 4 := nm_drop _ _ _ _
  have e2 : nm (xs.drop (2 * 2)) (1 * 4) 4 = nm xs 8 4 := nm_drop _ _ _ _
  have e3 : nm (xs.drop (2 * 2)) (2 * 4) 4 = nm xs 12 4 := nm_drop _ _ _ _
  have e4 : nm (xs.drop (2 * 2)) (3 * 4) 4 = nm xs 16 4 := nm_drop _ _ _ _
  have hG3 : Bk w3 g tHead [iv (nm xs 0 2 : Nat), iv (nm xs 2 2 : Nat), iv (nm xs 4 4 : Nat), x3, iv (nm xs 12 4 : Nat), iv (nm xs 16 4 : Nat), x6, x7, x8] := by
    rw [← e1, ← e3, ← e4]
    exact ((((((HG2.out.fresh (Fresh.drew w2)).alloc _).put 2 _).apart (p := ⟨w.heap.size, 0, none⟩) (Ne.symm hqg) _).put 4 _).put 5 _).fresh HF3.out
  have hQ3 : Bk w3 w.heap.size tInt [iv (nm xs 8 4 : Nat)] := by
    rw [← e2]
    exact ((((((HQ2.out.fresh (Fresh.drew w2)).alloc _).apart (p := ⟨g, 2, none⟩) hqg _).put 0 _).apart (p := ⟨g, 4, none⟩) hqg _).apart (p := ⟨g, 5, none⟩) hqg _).fresh HF3.out
  have hA3 := HA2.out.turn hT3 (by simp [Ne.symm hga, Ne.symm hqa])
  have hB3 := HB2.out.turn hT3 (by simp [Ne.symm hgb, Ne.symm hqb])
  have hS3 : ∀ i ∈ w.heap.size :: S, i < w3.heap.size := fun i hi => Nat.lt_of_lt_of_le (HS2.out i hi) hT3.size
  clear e1 e2 e3 e4
  have hcq : w3.cell? ⟨w.heap.size, 0, none⟩ = some (iv (nm xs 8 4 : Nat)) := hQ3.cell rfl
  have hc3' : w3.cell? ⟨g, 3, none⟩ = some x3 := hG3.cell rfl
  have hf3' := hG3.free 3
  have hwr : ((nm xs 8 4 : Nat) : Int) % 4294967296 = ((nm xs 8 4 : Nat) : Int) := by have := nm4 xs 8; omega
  have hG4 := hG3.put 3 (.int .u32 (nm xs 8 4 : Nat))
  have hA4 := hA3.apart (p := ⟨g, 3, none⟩) (Ne.symm hga) (.int .u32 (nm xs 8 4 : Nat))
  have hB4 := hB3.apart (p := ⟨g, 3, none⟩) (Ne.symm hgb) (.int .u32 (nm xs 8 4 : Nat))
  have hT4 := Turn.put (S := [g, w.heap.size]) (p := ⟨g, 3, none⟩) w3 (.int .u32 (nm xs 8 4 : Nat)) (by simp)
  have hR4 := HR3.out.turn (Turn.put (S := w.heap.size :: S) (p := ⟨g, 3, none⟩) w3 (.int .u32 (nm xs 8 4 : Nat)) (by simp [hgS]))
  have hS4 : ∀ i ∈ w.heap.size :: S, i < (w3.setCell ⟨g, 3, none⟩ (.int .u32 (nm xs 8 4 : Nat))).heap.size := fun i hi => Nat.lt_of_lt_of_le (hS3 i hi) hT4.size
  rw [List.drop_drop] at hR4
  have hw4 : ∀ p ∈ [(⟨a, 0, none⟩ : Addr), ⟨b, 0, none⟩], p.block ∈ w.heap.size :: S ∧ Wr (w3.setCell ⟨g, 3, none⟩ (.int .u32 (nm xs 8 4 : Nat))) p := by
    intro p hp
    simp only [List.mem_cons, List.not_mem_nil, or_false] at hp
    rcases hp with rfl | rfl
    · exact ⟨by simp [haS], hA4.wr (by simp)⟩
    · exact ⟨by simp [hbS], hB4.wr (by simp)⟩
  have HT4 := Lib.hid (hT3.trans hT4)
  have HG4 := Lib.hid hG4
  have HA4 := Lib.hid hA4
  have HB4 := Lib.hid hB4
  have HR4 := Lib.hid hR4
  have HS4 := Lib.hid hS4
  have HW4 := Lib.hid hw4
  clear hT3 hG3 hQ3 hA3 hB3 hS3 hG4 hA4 hB4 hT4 hR4 hS4 hw4
  have hget : Calls Tryz.prog 129 #[.slice A3 (n - 4 - 16) c3, .int .i64 2, .slice (some ⟨w3.heap.size, 0, none⟩) 2 2] ((w3.setCell ⟨g, 3, none⟩ (.int .u32 (nm xs 8 4 : Nat))).alloc (.cells #[ptr a, ptr b] tPtr)) (Got (w.heap.size :: S) (sets ((w3.setCell ⟨g, 3, none⟩ (.int .u32 (nm xs 8 4 : Nat))).alloc (.cells #[ptr a, ptr b] tPtr)) (gets 2 (xs.drop (2 * 2 + 4 * 4)) [⟨a, 0, none⟩, ⟨b, 0, none⟩])) (n - 24) ((xs.drop (2 * 2 + 4 * 4)).drop (2 * 2))) :=
    get_row A3 (n - 4 - 16) c3 2 (xs.drop (2 * 2 + 4 * 4)) [⟨a, 0, none⟩, ⟨b, 0, none⟩] (w.heap.size :: S) 2 _ (w3.setCell ⟨g, 3, none⟩ (.int .u32 (nm xs 8 4 : Nat))) HR4.out hc3 HM3.out (by omega) (.inl rfl) rfl (by simp [World.setCell]) HW4.out HS4.out (by omega)
  have HGET := Lib.hid hget
  clear hget
  go_wp2_with (go_at_call 129; ((with_reducible refine HGET.out.mono ?_); rintro e w5 ⟨A5, c5, rfl, hc5, hm5, hf5, hr5⟩; have HF5 := Lib.hid hf5; have HR5 := Lib.hid hr5; have HM5 := Lib.hid hm5; clear hf5 hr5 hm5))
  go_ret
  have f1 : nm (xs.drop (2 * 2 + 4 * 4)) (0 * 2) 2 = nm xs 20 2 := nm_drop _ _ _ _
  have f2 : nm (xs.drop (2 * 2 + 4 * 4)) (1 * 2) 2 = nm xs 22 2 := nm_drop _ _ _ _
  have hT5 : Turn [a, b] [a, b] (w3.setCell ⟨g, 3, none⟩ (.int .u32 (nm xs 8 4 : Nat))) w5 := turn_of (Fresh.alloc _ _) HF5.out (by intro x hx; simp [gets] at hx; rcases hx with rfl | rfl <;> simp)
  have hall := (((HT2.out.wide (T := [g, w.heap.size, a, b]) (by simp)).trans (HT4.out.wide (T := [g, w.heap.size, a, b]) (by simp))).trans (hT5.wide (T := [g, w.heap.size, a, b]) (by simp)))
  refine ⟨A5, c5, rfl, hc5, HM5.out, ?_, ?_, HG4.out.turn hT5 (by simp [hga, hgb]), ?_, ?_⟩
  · have := HR5.out.sub (T := S) (by simp +contextual)
    rw [List.drop_drop] at this
    exact this
  · have h1 := H1.out
    refine ⟨hall.os.trans h1.os, hall.tape.trans h1.tape, hall.output.trans h1.output, Nat.le_trans h1.size hall.size, fun k hk hkS => ?_, fun k hk => .inl hk⟩
    refine (hall.block k (Nat.lt_of_lt_of_le hk h1.size) ?_).trans (h1.block k hk)
    simp only [List.mem_cons, List.not_mem_nil, or_false, not_or] at hkS ⊢
    exact ⟨hkS.1, by omega, hkS.2.1, hkS.2.2⟩
  · rw [← f1]
    exact (((HA4.out.alloc _).put 0 _).apart (p := ⟨b, 0, none⟩) hab _).fresh HF5.out
  · rw [← f2]
    exact (((HB4.out.alloc _).apart (p := ⟨a, 0, none⟩) (Ne.symm hab) _).put 0 _).fresh HF5.out
end Go.Proofs.YtmnegmebkmihhaaGreatDoor.recp
/-
  record's sizes: my own text.
-/
namespace Go.Proofs.YtmnegmebkmihhaaGreatDoor.recp
open Go.RowKit Go.Proofs.YtmnegmebkmihhaaGreatDoor.base Go.Proofs.YtmnegmebkmihhaaGreatDoor.num Go.Proofs.YtmnegmebkmihhaaGreatDoor.word Go.Proofs.YtmnegmebkmihhaaGreatDoor.recn
set_option linter.unusedVariables false
def lenV : Value → Nat
  | .slice _ n _ => n
  | _ => 0
/-- the answer of sizes -/
def SizesIs (S : List Nat) (w : World) (r : Option (List UInt8)) (e : Ending) (w' : World) : Prop :=
  Fresh w w' ∧ match r with
  | none => e = .returned (.tuple #[.slice none 0 0, .bool false])
  | some f => ∃ A c, e = .returned (.tuple #[.slice A f.length c, .bool true]) ∧ f.length ≤ c ∧ c ≤ maxLen ∧ f.length ≤ 65535 ∧ RdA w' S A f.length (f.map bv)
/-- the relation of the loop -/
structure SizesAt (S : List Nat) (w : World) (xs : List UInt8) (N : Nat) (A : Option Addr) (c : Nat) (x : List UInt8) (is : Bool) (F : Option Addr) (nF cF : Nat) (f : List UInt8) (wr : World) : Prop where
  rd : RdA wr S A N (x.map bv)
  cap : N ≤ c
  max : c ≤ maxLen
  len : N ≤ 65535
  rdF : RdA wr S F nF (f.map bv)
  capF : nF ≤ cF
  lenF : nF ≤ 65535
  maxF : cF ≤ maxLen
  fresh : Fresh w wr
  same : items x is f = items xs false []
theorem SizesAt.lx {S : List Nat} {w : World} {xs : List UInt8} {N : Nat} {A : Option Addr} {c : Nat} {x : List UInt8} {is : Bool} {F : Option Addr} {nF cF : Nat} {f : List UInt8} {wr : World} (h : SizesAt S w xs N A c x is F nF cF f wr) : x.length = N := by
  have := h.rd.1; rwa [List.length_map] at this
theorem SizesAt.lf {S : List Nat} {w : World} {xs : List UInt8} {N : Nat} {A : Option Addr} {c : Nat} {x : List UInt8} {is : Bool} {F : Option Addr} {nF cF : Nat} {f : List UInt8} {wr : World} (h : SizesAt S w xs N A c x is F nF cF f wr) : f.length = nF := by
  have := h.rdF.1; rwa [List.length_map] at this
/-- a step on -/
theorem SizesAt.next {S R : List Nat} {w : World} {xs : List UInt8} {N4 : Nat} {A : Option Addr} {c : Nat} {x : List UInt8} {is : Bool} {F : Option Addr} {nF cF : Nat} {f : List UInt8} {wr w4 : World} (h : SizesAt S w xs (N4 + 4) A c x is F nF cF f wr)
    {A4 : Option Addr} {c4 lo : Nat} (hf : Fresh wr w4) (hR : RdA w4 (R ++ S) A4 N4 ((x.drop 4).map bv)) (hc : N4 ≤ c4) (hm : c4 ≤ maxLen) (hl : lo ≤ N4) (is' : Bool) (hs : items x is f = items (x.drop (4 + lo)) is' f) :
    SizesAt S w xs (N4 - lo) (if c4 = lo then A4 else A4.map (·.add lo)) (c4 - lo) (x.drop (4 + lo)) is' F nF cF f w4 where
  rd := by
    have := (hR.sub (T := S) fun i hi => List.mem_append_right _ hi).tail hl hc
    rwa [← List.map_drop, List.drop_drop] at this
  cap := by omega
  max := by omega
  len := by have := h.len; omega
  rdF := h.rdF.fresh hf
  capF := h.capF
  lenF := h.lenF
  maxF := h.maxF
  fresh := h.fresh.trans hf
  same := hs.symm.trans h.same
theorem SizesAt.took {S R : List Nat} {w : World} {xs : List UInt8} {N4 : Nat} {A : Option Addr} {c : Nat} {x : List UInt8} {is : Bool} {F : Option Addr} {nF cF : Nat} {f : List UInt8} {wr w4 : World} (h : SizesAt S w xs (N4 + 4) A c x is F nF cF f wr)
    {A4 : Option Addr} {c4 lo : Nat} (hf : Fresh wr w4) (hR : RdA w4 (R ++ S) A4 N4 ((x.drop 4).map bv)) (hc : N4 ≤ c4) (hm : c4 ≤ maxLen) (hl : lo ≤ N4) (hs : items x is f = items (x.drop (4 + lo)) true ((x.drop 4).take lo)) :
    SizesAt S w xs (N4 - lo) (if c4 = lo then A4 else A4.map (·.add lo)) (c4 - lo) (x.drop (4 + lo)) true A4 lo c4 ((x.drop 4).take lo) w4 where
  rd := by
    have := (hR.sub (T := S) fun i hi => List.mem_append_right _ hi).tail hl hc
    rwa [← List.map_drop, List.drop_drop] at this
  cap := by omega
  max := by omega
  len := by have := h.len; omega
  rdF := by
    have := (hR.sub (T := S) fun i hi => List.mem_append_right _ hi).head hl
    rwa [← List.map_take] at this
  capF := by omega
  lenF := by have := h.len; omega
  maxF := hm
  fresh := h.fresh.trans hf
  same := hs.symm.trans h.same
set_option maxHeartbeats 4000000 in
theorem sizes_any (A : Option Addr) (n c : Nat) (xs : List UInt8) (S : List Nat) (w : World) (hr : RdA w S A n (xs.map bv)) (hc : n ≤ c) (hm : c ≤ maxLen) (hn : n ≤ 65535) (hS : ∀ i ∈ S, i < w.heap.size) :
    Calls Tryz.prog 183 #[.slice A n c] w (SizesIs S w (items xs false [])) := by
  have hstart : SizesAt S w xs n A c xs false none 0 0 [] w := ⟨hr, hc, hm, hn, RdA.nil _ _ _, Nat.le_refl _, Nat.zero_le _, Nat.zero_le _, Fresh.refl _, rfl⟩
  have HST := Lib.hid hstart
  have HS := Lib.hid hS
  clear hstart hS hr hc hm hn
  go_enter Tryz.func183, Tryz.ntmps183
  go_wp2
  go_loopw [0, 4, 5] (fun v f b wr => ∃ (N c' nF cF : Nat) (A' F : Option Addr) (x fs : List UInt8) (is : Bool), v = .slice A' N c' ∧ f = .slice F nF cF ∧ b = .bool is ∧ Hid (SizesAt S w xs N A' c' x is F nF cF fs wr)) (fun v _ _ _ => lenV v)
  case atStart => exact ⟨n, c, 0, 0, A, none, xs, [], false, rfl, rfl, rfl, HST⟩
  case round =>
    obtain ⟨N, c', nF, cF, A', F, x, fs, is, rfl, rfl, rfl, hAt⟩ := hrel
    have hlx := hAt.out.lx
    have hlen := hAt.out.len
    have hmx := hAt.out.max
    have hmxF := hAt.out.maxF
    unfold maxLen at hmx hmxF
    by_cases h0 : N = 0
    · subst h0
      go_wp2
      go_ret2
      have hx : x = [] := List.eq_nil_of_length_eq_zero hlx
      subst hx
      have hs := hAt.out.same
      rw [items_nil] at hs
      refine ⟨hAt.out.fresh, ?_⟩
      rw [← hs]
      have hl := hAt.out.lf
      subst hl
      exact ⟨F, cF, rfl, hAt.out.capF, hAt.out.maxF, hAt.out.lenF, hAt.out.rdF⟩
    · by_cases h4 : N < 4
      · go_wp2
        go_ret2
        have hs := hAt.out.same
        rw [items_short x is fs (by omega) (by omega)] at hs
        refine ⟨hAt.out.fresh, ?_⟩
        rw [← hs]
        rfl
      · obtain ⟨N4, rfl⟩ : ∃ N4, N = N4 + 4 := ⟨N - 4, by omega⟩
        have hwsz : w.heap.size ≤ wr.heap.size := hAt.out.fresh.size
        obtain ⟨g, hg⟩ : ∃ g, wr.heap.size = g := ⟨_, rfl⟩
        obtain ⟨b0, b1, b2, hf3, hs3⟩ := two_new wr S (fun i hi => Nat.lt_of_lt_of_le (HS.out i hi) hwsz) g hg _ rfl
        have hgt := fun d => get_any A' (N4 + 4) c' 2 x _ 2 d [⟨g, 0, none⟩, ⟨g + 1, 0, none⟩] ([g, g + 1] ++ S) _ ((hAt.out.rd.more (R := [g, g + 1]) (by intro i hi; simp at hi; omega)).fresh hf3) hAt.out.cap hAt.out.max (by omega) (.inl rfl) b2 (by
          intro q hq
          simp only [List.mem_cons, List.not_mem_nil, or_false] at hq
          rcases hq with rfl | rfl
          · exact ⟨by simp, b0.wr (by simp)⟩
          · exact ⟨by simp, b1.wr (by simp)⟩) (by omega)
        obtain ⟨d0, d1⟩ := two_set b0 b1 (by omega) (iv (nm x 0 2 : Nat)) (iv (nm x 2 2 : Nat))
        have hge : gets 2 x [⟨g, 0, none⟩, ⟨g + 1, 0, none⟩] = [(⟨g, 0, none⟩, iv (nm x 0 2 : Nat)), (⟨g + 1, 0, none⟩, iv (nm x 2 2 : Nat))] := rfl
        rw [hge] at hgt
        simp only [show N4 + 4 - 2 * 2 = N4 from by omega, show 2 * 2 = 4 from rfl] at hgt
        have hfw4 : Fresh wr (sets (((wr.alloc (.cells #[.int .i64 0] tInt)).alloc (.cells #[.int .i64 0] tInt)).alloc (.cells #[ptr g, ptr (g + 1)] tPtr)) [(⟨g, 0, none⟩, iv (nm x 0 2 : Nat)), (⟨g + 1, 0, none⟩, iv (nm x 2 2 : Nat))]) :=
          (sets_turn (S := [g, g + 1]) _ _ (by intro x hx; simp at hx; rcases hx with rfl | rfl <;> simp)).new hf3 (by intro i hi; simp at hi; omega)
        have hlo := nm2 x 2
        have hend := fun h => items_end x is fs (by omega) h
        have hstep := fun h => items_step x is fs h
        rw [hlx] at hend hstep
        generalize nm x 0 2 = nu at *
        generalize nm x 2 2 = lo at *
        have HGT := Lib.hid hgt
        have D0 := Lib.hid d0
        have D1 := Lib.hid d1
        have HFW4 := Lib.hid hfw4
        have HEND := Lib.hid hend
        have HSTEP := Lib.hid hstep
        have HLX := Lib.hid hlx
        have hg' := Lib.hid hg
        clear hgt d0 d1 hfw4 hge b0 b1 b2 hf3 hs3 hg hend hstep hlx
        have hg'' := hg'.out
        subst hg''
        by_cases hl : N4 < lo
        · have hl2 : decide ((N4 : Int) < (lo : Int)) = true := decide_eq_true (by omega)
          go_wp2_with (go_at_call 129; refine (HGT.out _).mono ?_; rintro e w4 ⟨A4, c4, rfl, hc4, hm4, hf4, hr4⟩; have k0 : w4.cell? ⟨wr.heap.size, 0, none⟩ = some (iv (nu : Nat)) := (D0.out.fresh hf4).cell rfl; have k1 : w4.cell? ⟨wr.heap.size + 1, 0, none⟩ = some (iv (lo : Nat)) := (D1.out.fresh hf4).cell rfl; have hf5 := HFW4.out.trans hf4; have HF5 := Lib.hid hf5; have HR4 := Lib.hid hr4; have HM4 := Lib.hid hm4; clear hf5 hr4 hf4 hm4)
          go_ret2
          have hs := hAt.out.same
          rw [HEND.out (by omega)] at hs
          refine ⟨hAt.out.fresh.trans HF5.out, ?_⟩
          rw [← hs]
          rfl
        · have hl2 : decide ((N4 : Int) < (lo : Int)) = false := decide_eq_false (by omega)
          have hst := HSTEP.out (by omega)
          have HSTEP2 := Lib.hid hst
          clear hst HSTEP
          by_cases hn : nu = 1
          · subst hn
            cases is
            · go_wp2_with (go_at_call 129; refine (HGT.out _).mono ?_; rintro e w4 ⟨A4, c4, rfl, hc4, hm4, hf4, hr4⟩; have k0 : w4.cell? ⟨wr.heap.size, 0, none⟩ = some (iv 1) := (D0.out.fresh hf4).cell rfl; have k1 : w4.cell? ⟨wr.heap.size + 1, 0, none⟩ = some (iv (lo : Nat)) := (D1.out.fresh hf4).cell rfl; have hf5 := HFW4.out.trans hf4; have HF5 := Lib.hid hf5; have HR4 := Lib.hid hr4; have HM4 := Lib.hid hm4; unfold maxLen at hm4; clear hf5 hr4 hf4)
              exact ⟨⟨_, _, _, _, _, _, _, _, true, rfl, rfl, rfl, Lib.hid (hAt.out.took HF5.out HR4.out hc4 HM4.out (by omega) HSTEP2.out)⟩, by simp [lenV]; omega⟩
            · go_wp2_with (go_at_call 129; refine (HGT.out _).mono ?_; rintro e w4 ⟨A4, c4, rfl, hc4, hm4, hf4, hr4⟩; have k0 : w4.cell? ⟨wr.heap.size, 0, none⟩ = some (iv 1) := (D0.out.fresh hf4).cell rfl; have k1 : w4.cell? ⟨wr.heap.size + 1, 0, none⟩ = some (iv (lo : Nat)) := (D1.out.fresh hf4).cell rfl; have hf5 := HFW4.out.trans hf4; have HF5 := Lib.hid hf5; have HR4 := Lib.hid hr4; have HM4 := Lib.hid hm4; unfold maxLen at hm4; clear hf5 hr4 hf4)
              exact ⟨⟨_, _, _, _, _, _, _, _, true, rfl, rfl, rfl, Lib.hid (hAt.out.next HF5.out HR4.out hc4 HM4.out (by omega) true HSTEP2.out)⟩, by simp [lenV]; omega⟩
          · have hn1 : ((nu : Int) == 1) = false := by rw [beq_eq_false_iff_ne]; omega
            have hs2 := HSTEP2.out
            rw [show (nu == 1) = false from by rw [beq_eq_false_iff_ne]; exact hn] at hs2
            simp only [Bool.or_false, Bool.false_and, Bool.false_eq_true, if_false] at hs2
            have HS2 := Lib.hid hs2
            clear hs2 HSTEP2
            go_wp2_with (go_at_call 129; refine (HGT.out _).mono ?_; rintro e w4 ⟨A4, c4, rfl, hc4, hm4, hf4, hr4⟩; have k0 : w4.cell? ⟨wr.heap.size, 0, none⟩ = some (iv (nu : Nat)) := (D0.out.fresh hf4).cell rfl; have k1 : w4.cell? ⟨wr.heap.size + 1, 0, none⟩ = some (iv (lo : Nat)) := (D1.out.fresh hf4).cell rfl; have hf5 := HFW4.out.trans hf4; have HF5 := Lib.hid hf5; have HR4 := Lib.hid hr4; have HM4 := Lib.hid hm4; unfold maxLen at hm4; clear hf5 hr4 hf4)
            exact ⟨⟨_, _, _, _, _, _, _, _, is, rfl, rfl, rfl, Lib.hid (hAt.out.next HF5.out HR4.out hc4 HM4.out (by omega) is HS2.out)⟩, by simp [lenV]; omega⟩
end Go.Proofs.YtmnegmebkmihhaaGreatDoor.recp
/-
  record's widen: my own text.
-/
namespace Go.Proofs.YtmnegmebkmihhaaGreatDoor.recp
open Go.RowKit Go.Proofs.YtmnegmebkmihhaaGreatDoor.base Go.Proofs.YtmnegmebkmihhaaGreatDoor.num Go.Proofs.YtmnegmebkmihhaaGreatDoor.word Go.Proofs.YtmnegmebkmihhaaGreatDoor.recn
set_option linter.unusedVariables false
/-- fields are set -/
def upd (cs : List Value) : List Nat → List Nat → List Value
  | f :: fs, v :: vs => upd (cs.set f (iv (v : Nat))) fs vs
  | _, _ => cs
theorem upd_len (cs : List Value) (fs vs : List Nat) : (upd cs fs vs).length = cs.length := by
  induction fs generalizing cs vs with
  | nil => rfl
  | cons f fs ih => cases vs with
    | nil => rfl
    | cons v vs => rw [upd, ih, List.length_set]
theorem upd_other (cs : List Value) (fs vs : List Nat) (i : Nat) (h : i ∉ fs) : (upd cs fs vs)[i]? = cs[i]? := by
  induction fs generalizing cs vs with
  | nil => rfl
  | cons f fs ih => cases vs with
    | nil => rfl
    | cons v vs =>
      rw [upd, ih _ _ (fun h' => h (List.mem_cons_of_mem _ h')), List.getElem?_set]
      rw [if_neg (fun e => h (by simp [e]))]
theorem upd_snoc (cs : List Value) (fs vs : List Nat) (f v : Nat) (h : fs.length = vs.length) : upd cs (fs ++ [f]) (vs ++ [v]) = (upd cs fs vs).set f (iv (v : Nat)) := by
  induction fs generalizing cs vs with
  | nil => cases vs with
    | nil => rfl
    | cons v vs => simp at h
  | cons g fs ih => cases vs with
    | nil => simp at h
    | cons u vs =>
      rw [List.cons_append, List.cons_append, upd, upd, ih _ _ (by simpa using h)]
/-- a field is set to what it holds -/
theorem set_same (cs : List Value) (i : Nat) (v : Value) (h : cs[i]? = some v) : cs.set i v = cs := by
  obtain ⟨hi, rfl⟩ := List.getElem?_eq_some_iff.1 h
  exact List.set_getElem_self hi
/-- the answer of widen -/
def WidenIs (g : Nat) (cs : List Value) (fs l : List Nat) (r : Option (List Nat)) (w : World) (e : Ending) (w' : World) : Prop :=
  Turn [g] [g] w w' ∧ match r with
  | none => e = .returned (.tuple #[.bool false, .int .i64 4]) ∧ ∃ cs', cs'.length = cs.length ∧ Bk w' g tHead cs'
  | some vs => e = .returned (.tuple #[.bool (l.any isOnes), .int .i64 0]) ∧ Bk w' g tHead (upd cs fs vs)
/-- the relation of the loop -/
structure WidenAt (g : Nat) (cs : List Value) (fs l : List Nat) (R : Option (List Nat)) (w : World) (j N : Nat) (A : Option Addr) (c : Nat) (t : List UInt8) (vs : List Nat) (wr : World) : Prop where
  rd : RdA wr [g] A N (t.map bv)
  cap : N ≤ c
  max : c ≤ maxLen
  len : N ≤ 65535
  lv : vs.length = j
  bk : Bk wr g tHead (upd cs (fs.take j) vs)
  turn : Turn [g] [g] w wr
  same : (wd (l.drop j) t).map (vs ++ ·) = R
theorem fits6 (V : Int) (hV : -9223372036854775808 ≤ V ∧ V ≤ 9223372036854775807) (b : Bool) (hb : decide (0 ≤ V ∧ V < 281474976710656) = b) (w : World) (g : Nat) (hg : g = w.heap.size) :
    Calls Tryz.prog 109 #[.int .i64 6, .slice (some ⟨g, 0, none⟩) 1 1] (w.alloc (.cells #[.int .i64 V] tInt)) fun e w' => e = .returned (.bool b) ∧ (w.alloc (.cells #[.int .i64 V] tInt)) = w' := by
  subst hg
  refine fits_is _ 1 1 [V] 6 _ _ b (Rd.lit w #[.int .i64 V] tInt) (by unfold maxLen; omega) ?_ ?_
  · intro z hz
    rw [List.mem_singleton] at hz
    subst hz
    exact WalkArith.wf_i64 hV
  · show fits 6 [V] = b
    rw [fits, List.all_cons, List.all_nil, Bool.and_true]
    exact hb
theorem wd_same (l : List Nat) (t : List UInt8) (j z : Nat) (h : l[j]? = some z) (hz : z ≠ 4294967295) : wd (l.drop j) t = (wd (l.drop (j + 1)) t).map (z :: ·) := by
  obtain ⟨hj, rfl⟩ := List.getElem?_eq_some_iff.1 h
  rw [List.drop_eq_getElem_cons hj, wd, if_neg hz]
theorem wd_ones (l : List Nat) (t : List UInt8) (j : Nat) (h : l[j]? = some 4294967295) : wd (l.drop j) t = if t.length < 8 then none else if 281474976710656 ≤ nm t 0 8 then none else (wd (l.drop (j + 1)) (t.drop 8)).map (nm t 0 8 :: ·) := by
  obtain ⟨hj, e⟩ := List.getElem?_eq_some_iff.1 h
  rw [List.drop_eq_getElem_cons hj, e, wd, if_pos rfl]
theorem any_snoc (l : List Nat) (j z : Nat) (h : l[j]? = some z) : (l.take (j + 1)).any isOnes = ((l.take j).any isOnes || isOnes z) := by
  rw [take_snoc _ _ _ h, List.any_append]; simp
theorem nm8_lt (xs : List UInt8) (p : Nat) : nm xs p 8 < 18446744073709551616 := by have := nm_lt xs p 8; omega
theorem notin_take {fs : List Nat} {j f : Nat} (h : fs.Nodup) (hf : fs[j]? = some f) : f ∉ fs.take j := by
  intro hm
  obtain ⟨i, hi, e⟩ := List.mem_iff_getElem.1 hm
  rw [List.length_take] at hi
  rw [List.getElem_take] at e
  obtain ⟨hj, e'⟩ := List.getElem?_eq_some_iff.1 hf
  exact List.pairwise_iff_getElem.1 h i j (by omega) hj (by omega) (e.trans e'.symm)
section
variable {g : Nat} {cs : List Value} {fs l : List Nat} {R : Option (List Nat)} {w : World} {j N : Nat} {A : Option Addr} {c : Nat} {t : List UInt8} {vs : List Nat} {wr w' : World}
theorem WidenAt.step (h : WidenAt g cs fs l R w j N A c t vs wr) {f z : Nat} (hf : fs[j]? = some f) (hz : l[j]? = some z) (hne : z ≠ 4294967295) (hnd : fs.Nodup) (hc : cs[f]? = some (iv (z : Nat))) (k : Fresh wr w') :
    WidenAt g cs fs l R w (j + 1) N A c t (vs ++ [z]) w' where
  rd := h.rd.fresh k
  cap := h.cap
  max := h.max
  len := h.len
  lv := by simp [h.lv]
  bk := by
    have hj := (List.getElem?_eq_some_iff.1 hf).1
    rw [take_snoc _ _ _ hf, upd_snoc _ _ _ _ _ (by rw [List.length_take, h.lv]; omega), set_same _ f]
    · exact h.bk.fresh k
    · rw [upd_other, hc]
      exact notin_take hnd hf
  turn := h.turn.trans (Turn.fresh k)
  same := by
    rw [← h.same, wd_same l t j z hz hne, Option.map_map]
    congr 1
    funext x
    simp
theorem WidenAt.told (h : WidenAt g cs fs l R w j N A c t vs wr) {f U : Nat} (hf : fs[j]? = some f) (hz : l[j]? = some 4294967295) (hU : nm t 0 8 = U) (hs : U < 281474976710656) (hN : 8 ≤ N) (hl : t.length = N)
    {N' c' : Nat} {A' : Option Addr} (hT : Turn [g] [g] wr w') (hrd : RdA w' [g] A' N' ((t.drop 8).map bv)) (hb : Bk w' g tHead ((upd cs (fs.take j) vs).set f (iv (U : Nat)))) (hc : N' ≤ c') (hm : c' ≤ maxLen) (hN' : N' ≤ N) :
    WidenAt g cs fs l R w (j + 1) N' A' c' (t.drop 8) (vs ++ [U]) w' where
  rd := hrd
  cap := hc
  max := hm
  len := by have := h.len; omega
  lv := by simp [h.lv]
  bk := by
    have hj := (List.getElem?_eq_some_iff.1 hf).1
    rw [take_snoc _ _ _ hf, upd_snoc _ _ _ _ _ (by rw [List.length_take, h.lv]; omega)]
    exact hb
  turn := h.turn.trans hT
  same := by
    rw [← h.same, wd_ones l t j hz, if_neg (by omega), hU, if_neg (by omega), Option.map_map]
    congr 1
    funext x
    simp
end
set_option maxHeartbeats 4000000 in
theorem widen_any (A : Option Addr) (n c : Nat) (xs : List UInt8) (g : Nat) (cs : List Value) (fs l : List Nat) (m d : Nat) (D : Option Addr) (w : World) (hr : RdA w [g] A n (xs.map bv)) (hc : n ≤ c) (hm : c ≤ maxLen) (hn : n ≤ 65535)
    (hg : Bk w g tHead cs) (hd : RdA w [g] D m ((fs.map fun f => (⟨g, f, none⟩ : Addr)).map ptrA)) (hnd : fs.Nodup) (hl : l.length = m) (hmB : m ≤ 8) (hcs : ∀ (i f z : Nat), fs[i]? = some f → l[i]? = some z → cs[f]? = some (iv (z : Nat))) :
    Calls Tryz.prog 135 #[.slice A n c, .slice D m d] w (WidenIs g cs fs l (widn xs l) w) := by
  have hlf : fs.length = m := by have := hd.1; simpa using this
  have hsz := sizes_any A n c xs [g] w hr hc hm hn (by intro i hi; simp at hi; subst hi; exact hg.inside)
  have HSZ := Lib.hid hsz
  have HG := Lib.hid hg
  have HD := Lib.hid hd
  have HND := Lib.hid hnd
  have HL := Lib.hid hl
  have HLF := Lib.hid hlf
  have HCS := Lib.hid hcs
  clear hsz hg hd hnd hl hlf hcs hr
  have hO : ∀ W, Calls Tryz.prog 130 #[.int .i64 4] W fun e w' => e = .returned (.int .i64 4294967295) ∧ w' = W := fun W => (ones4 W).mono fun _ _ ⟨h1, h2⟩ => ⟨h1, h2.symm⟩
  have HO := Lib.hid hO
  clear hO
  cases hit : items xs false [] with
  | none =>
    have hres : widn xs l = none := by unfold widn; rw [hit]; rfl
    rw [hit] at HSZ
    rw [hres]
    go_enter Tryz.func135, Tryz.ntmps135
    go_wp2_with (go_at_call 183; (refine HSZ.out.mono ?_); rintro e w1 ⟨hf1, hE⟩; simp only at hE; subst hE)
    go_ret2
    exact ⟨Turn.fresh hf1, rfl, cs, rfl, HG.out.fresh hf1⟩
  | some f =>
    have hres : widn xs l = wd l f := by unfold widn; rw [hit]; rfl
    rw [hit] at HSZ
    rw [hres]
    have HRES := Lib.hid hit
    clear hres hit
    go_enter Tryz.func135, Tryz.ntmps135
    go_wp2_with (go_at_call 183; (refine HSZ.out.mono ?_); rintro e w1 ⟨hf1, A1, c1, rfl, hc1, hm1, hn1, hr1⟩; have HF1 := Lib.hid hf1; have HR1 := Lib.hid hr1; have HM1 := Lib.hid hm1; clear hf1 hr1 hm1)
    have hstart : WidenAt g cs fs l (wd l f) w 0 f.length A1 c1 f [] w1 := ⟨HR1.out, hc1, HM1.out, hn1, rfl, HG.out.fresh HF1.out, Turn.fresh HF1.out, by simp⟩
    have HST := Lib.hid hstart
    clear hstart
    go_loopw [6, 8, 20] (fun v b i wr => ∃ (j N c' : Nat) (A' : Option Addr) (t : List UInt8) (vs : List Nat), j ≤ m ∧ i = .int .i64 j ∧ v = .slice A' N c' ∧ b = .bool ((l.take j).any isOnes) ∧ Hid (WidenAt g cs fs l (wd l f) w j N A' c' t vs wr)) (fun _ _ i _ => m - (intOf i).toNat)
    case atStart => exact ⟨0, f.length, c1, A1, f, [], by omega, rfl, rfl, rfl, HST⟩
    case round =>
      obtain ⟨j, N, c', A', t, vs, hj, rfl, rfl, rfl, hAt⟩ := hrel
      by_cases hlt : j < m
      · obtain ⟨fj, hfj⟩ : ∃ fj, fs[j]? = some fj := ⟨fs[j]'(by have := HLF.out; omega), List.getElem?_eq_getElem _⟩
        obtain ⟨z, hz⟩ : ∃ z, l[j]? = some z := ⟨l[j]'(by have := HL.out; omega), List.getElem?_eq_getElem _⟩
        have hcz := HCS.out j fj z hfj hz
        obtain ⟨b, off, rfl, hb, hbS⟩ : ∃ b off, D = some ⟨b, off, none⟩ ∧ b < w.heap.size ∧ b ∉ [g] := by
          obtain ⟨b, off, e, hb, hS, _⟩ := HD.out.2 (by omega)
          exact ⟨b, off, e, hb, hS⟩
        have hcell : wr.cell? ⟨b, off + j, none⟩ = some (ptrA ⟨g, fj, none⟩) := by
          obtain ⟨b', off', e, _, _, hc'⟩ := (HD.out.turn hAt.out.turn).2 (by omega)
          injection e with e; injection e with e1 e2 _; subst e1; subst e2
          exact hc' j _ (by rw [List.getElem?_map, List.getElem?_map, hfj]; rfl)
        have hfc : wr.cell? ⟨g, fj, none⟩ = some (iv (z : Nat)) := hAt.out.bk.cell (by rw [upd_other _ _ _ _ (notin_take HND.out hfj)]; exact hcz)
        have hsn := any_snoc l j z hz
        have hlen := hAt.out.len
        have hlt8 : t.length = N := by have := hAt.out.rd.1; rwa [List.length_map] at this
        by_cases h1 : z = 4294967295
        · subst h1
          have ho : isOnes 4294967295 = true := rfl
          rw [ho, Bool.or_true] at hsn
          have hon := wd_ones l t j hz
          rw [hlt8] at hon
          have hbk := hAt.out.bk
          have hcap := hAt.out.cap
          have hmax := hAt.out.max
          have hrd := hAt.out.rd
          have hs := hAt.out.same
          rw [hon] at hs
          by_cases hN8 : N < 8
          · rw [if_pos hN8] at hs
            have HS := Lib.hid hs
            have HT := Lib.hid hAt.out.turn
            have HBK := Lib.hid hbk
            clear hsn hfj hz hcz ho hlt8 hon hbk hmax hrd hs hAt
            generalize hQ : (l.take j).any isOnes = Q at *
            go_wp2
            go_quiet (with_reducible exact Calls.quiet_of_same (HO.out _))
            go_wp2
            go_ret2
            refine ⟨HT.out.trans (Turn.fresh (Fresh.drewN _ _)), ?_⟩
            rw [← HS.out]
            exact ⟨rfl, _, upd_len _ _ _, HBK.out.fresh (Fresh.drewN _ _)⟩
          · rw [if_neg hN8] at hs
            have hfjc : fj < cs.length := by
              rcases Nat.lt_or_ge fj cs.length with h | h
              · exact h
              · rw [List.getElem?_eq_none h] at hcz; cases hcz
            have hrow := fun W (k : Fresh wr W) g0 (e : g0 = W.heap.size) => getWide_row A' N c' t [⟨g, fj, none⟩] [g] 1 g0 W (hrd.fresh k) hcap hmax (by omega) rfl e (by
              intro p hp
              rw [List.mem_singleton] at hp
              subst hp
              exact ⟨by simp, (hbk.fresh k).wr (by rw [upd_len]; exact hfjc)⟩) (by
              intro i hi
              rw [List.mem_singleton] at hi
              subst hi
              exact (hbk.fresh k).inside) (by omega)
            have hge : getsW t [⟨g, fj, none⟩] = [(⟨g, fj, none⟩, iv (sg64 (nm t (0 * 8) 8)))] := rfl
            rw [hge] at hrow
            have hU8 := nm8_lt t 0
            have HN := fun (w' : World) => WidenAt.told (w' := w') hAt.out (U := nm t 0 8) hfj hz rfl
            rw [show nm t (0 * 8) 8 = nm t 0 8 from rfl] at hrow
            generalize nm t 0 8 = U at *
            have hV := sg64_bd U hU8
            have hft := sg64_fits U hU8
            have hsm := sg64_small U
            have hbV : ∀ W w5, Fresh wr W → Fresh (sets (W.alloc (.cells #[ptrA ⟨g, fj, none⟩] tPtr)) [(⟨g, fj, none⟩, iv (sg64 U))]) w5 → Bk w5 g tHead ((upd cs (fs.take j) vs).set fj (iv (sg64 U))) := fun W w5 k h => (((hbk.fresh k).alloc _).put fj _).fresh h
            have hTV : ∀ W w5, Fresh wr W → Fresh (sets (W.alloc (.cells #[ptrA ⟨g, fj, none⟩] tPtr)) [(⟨g, fj, none⟩, iv (sg64 U))]) w5 → Turn [g] [g] wr w5 := fun W w5 k h => turn_of (k.trans (Fresh.alloc _ _)) h (by simp)
            have hsg : ((upd cs (fs.take j) vs).set fj (iv (sg64 U)))[fj]? = some (iv (sg64 U)) := by rw [List.getElem?_set_self (by rw [upd_len]; exact hfjc)]
            generalize hVe : sg64 U = V at *
            have HROW := Lib.hid hrow
            have HBV := Lib.hid hbV
            have HTV := Lib.hid hTV
            have HSG := Lib.hid hsg
            have HT0 := Lib.hid hAt.out.turn
            have HS := Lib.hid hs
            by_cases hU : U < 281474976710656
            · have hdec : decide (0 ≤ V ∧ V < 281474976710656) = true := decide_eq_true (hft.2 hU)
              have hfit := fun w5 g0 e => fits6 V hV true hdec w5 g0 e
              have hVU : V = ((U : Nat) : Int) := hsm hU
              have HFT := Lib.hid hfit
              have HSN := Lib.hid hsn
              have HVU := Lib.hid hVU
              have HUB := Lib.hid hU
              have HNN := Lib.hid HN
              have HL8 := Lib.hid hlt8
              clear hsn hfj hz hcz ho hlt8 hon hbk hcap hmax hrd hs hAt hrow hge hU8 hV hft hsm hbV hTV hsg hVe hdec hfit hVU hU HN hfjc
              generalize hQ : (l.take j).any isOnes = Q at *
              go_wp2
              go_quiet (with_reducible exact Calls.quiet_of_same (HO.out _))
              go_wp2_with (first
              | (go_at_call 132; (refine (HROW.out _ (Fresh.drewN _ _) _ rfl).mono ?_); rintro e w5 ⟨A5, c5, rfl, hc5, hm5, hf5, hr5⟩; have hb5 := HBV.out _ w5 (Fresh.drewN _ _) hf5; have hc5' : w5.cell? ⟨g, fj, none⟩ = some (iv V) := hb5.cell HSG.out; have HT5 := Lib.hid (HTV.out _ w5 (Fresh.drewN _ _) hf5); have HB5 := Lib.hid hb5; have HR5 := Lib.hid hr5; have HM5 := Lib.hid hm5; clear hb5 hf5 hr5 hm5)
              | (go_at_call 109; ((with_reducible refine (HFT.out _ _ rfl).mono ?_); rintro e w6 ⟨rfl, rfl⟩)))
              have hal := Fresh.alloc w5 (.cells #[.int .i64 V] tInt)
              have hk := HB5.out.fresh hal
              have hvu := HVU.out
              subst hvu
              go_roundw
              case rel => exact ⟨j + 1, N - 1 * 8, c5, A5, t.drop 8, vs ++ [U], by omega, by go_num, rfl, by rw [HSN.out], Lib.hid (HNN.out _ HUB.out (by omega) HL8.out (HT5.out.trans (Turn.fresh hal)) (HR5.out.fresh hal) hk hc5 HM5.out (by omega))⟩
              case measure => simp [intOf]; omega
            · have hdec : decide (0 ≤ V ∧ V < 281474976710656) = false := decide_eq_false (fun h => hU (hft.1 h))
              have hfit := fun w5 g0 e => fits6 V hV false hdec w5 g0 e
              rw [if_pos (by omega)] at hs
              have HFT := Lib.hid hfit
              have HS2 := Lib.hid hs
              clear hsn hfj hz hcz ho hlt8 hon hbk hcap hmax hrd hs hAt hrow hge hU8 hV hft hsm hbV hTV hsg hVe hdec hfit hU HN hfjc
              generalize hQ : (l.take j).any isOnes = Q at *
              go_wp2
              go_quiet (with_reducible exact Calls.quiet_of_same (HO.out _))
              go_wp2_with (first
              | (go_at_call 132; (refine (HROW.out _ (Fresh.drewN _ _) _ rfl).mono ?_); rintro e w5 ⟨A5, c5, rfl, hc5, hm5, hf5, hr5⟩; have hb5 := HBV.out _ w5 (Fresh.drewN _ _) hf5; have hc5' : w5.cell? ⟨g, fj, none⟩ = some (iv V) := hb5.cell HSG.out; have HT5 := Lib.hid (HTV.out _ w5 (Fresh.drewN _ _) hf5); have HB5 := Lib.hid hb5; have HR5 := Lib.hid hr5; have HM5 := Lib.hid hm5; clear hb5 hf5 hr5 hm5)
              | (go_at_call 109; ((with_reducible refine (HFT.out _ _ rfl).mono ?_); rintro e w6 ⟨rfl, rfl⟩)))
              go_ret2
              refine ⟨(HT0.out.trans HT5.out).trans (Turn.fresh (Fresh.alloc _ _)), ?_⟩
              rw [← HS2.out]
              exact ⟨rfl, _, by rw [List.length_set]; exact upd_len _ _ _, HB5.out.fresh (Fresh.alloc _ _)⟩
        · have h2 : ((z : Int) != 4294967295) = true := by rw [bne_iff_ne]; omega
          have ho : isOnes z = false := by unfold isOnes; rw [beq_eq_false_iff_ne]; exact h1
          rw [ho, Bool.or_false] at hsn
          have HSN := Lib.hid hsn
          have HN := Lib.hid (fun W (k : Fresh wr W) => hAt.out.step hfj hz h1 HND.out hcz k)
          clear hsn hfj hz hcz h1 ho hlt8
          generalize hQ : (l.take j).any isOnes = Q at *
          go_wp2
          go_quiet (with_reducible exact Calls.quiet_of_same (HO.out _))
          go_wp2
          go_roundw
          case rel => exact ⟨j + 1, N, c', A', t, vs ++ [z], by omega, by go_num, rfl, by rw [HSN.out], Lib.hid (HN.out _ (Fresh.drewN _ _))⟩
          case measure => simp [intOf]; omega
      · have h0 : j = m := by omega
        subst h0
        have hlj : l.take j = l := List.take_of_length_le (Nat.le_of_eq HL.out)
        have hfj : fs.take j = fs := List.take_of_length_le (Nat.le_of_eq HLF.out)
        rw [hlj]
        clear hlj
        generalize hQ : l.any isOnes = Q at *
        have HQ := Lib.hid hQ
        clear hQ
        go_wp2
        go_ret2
        have hs := hAt.out.same
        rw [List.drop_of_length_le (Nat.le_of_eq HL.out)] at hs
        simp only [wd, Option.map_some, List.append_nil] at hs
        refine ⟨hAt.out.turn, ?_⟩
        rw [← hs]
        have hb := hAt.out.bk
        rw [hfj] at hb
        exact ⟨by rw [HQ.out]; rfl, hb⟩
end Go.Proofs.YtmnegmebkmihhaaGreatDoor.recp
