import Derived.Test.YtmnegmebkmihhaaGreatDoorMgPut
import Derived.Test.YtmnegmebkmihhaaGreatDoorRecHead
import Derived.Test.YtmnegmebkmihhaaGreatDoorMgNum
import Derived.Test.YtmnegmebkmihhaaGreatDoorMgMth
import Derived.Test.YtmnegmebkmihhaaGreatDoorCatB
import Derived.Test.YtmnegmebkmihhaaGreatDoorMgNam
/-
  record's writing calls, plain (not wide): may, described, version, item, putShared, Local, Behind, End. My own text.
-/
namespace Go.Proofs.YtmnegmebkmihhaaGreatDoor.recp
open Go.RowKit Go.Proofs.YtmnegmebkmihhaaGreatDoor.base Go.Proofs.YtmnegmebkmihhaaGreatDoor.num Go.Proofs.YtmnegmebkmihhaaGreatDoor.word Go.Proofs.YtmnegmebkmihhaaGreatDoor.recn
set_option linter.unusedVariables false
theorem size_head : (Tryz.prog.info? 73).map (·.size) = some 9 := by kernel_rfl
theorem size_tail : (Tryz.prog.info? 76).map (·.size) = some 4 := by kernel_rfl
section
variable {P : Program} {w : World} {ops : Array Oper} {rest : List Oper} {o : Oper} {a : Act} {Q : Exit → Act → World → Prop}
/-- a struct is loaded whole -/
theorem wpList_load_whole (hgd : o.guard = none) (ty : TypeId) (x : Operand) (ho : o.op = .load ty x) (g t : Nat) (V : List Value) (n : Nat) (hn : V.length = n) (hx : a.eval x = .pointer (some ⟨g, 0, none⟩)) (hg : Bk w g t V)
    (d : TypeDesc) (hu : P.underlying ty = some d) (hd : d.isRow = true) (hi : (P.info? ty).map (·.size) = some n)
    (h : wpList P ops Q rest (a.put o.dst (.agg V.toArray)) w) : wpList P ops Q (o :: rest) a w := by
  refine wpList_load_blk hgd ty x ho g 0 n t V hx hg (by omega) d hu hd hi ?_
  rw [List.drop_zero, List.take_of_length_le (by omega)]
  exact h
end
theorem u64_nat (a : Nat) (h : a < 9223372036854775808) : u64 (a : Int) = a := by unfold u64; omega
theorem puts_nat (k : Nat) (ns : List Nat) (h : ∀ a ∈ ns, a < 9223372036854775808) : puts k (ns.map fun a : Nat => (a : Int)) = ns.flatMap (low k) := by
  induction ns with
  | nil => rfl
  | cons a r ih =>
    have := ih fun b hb => h b (by simp [hb])
    rw [List.map_cons, List.flatMap_cons, ← this, ← u64_nat a (h a (by simp)), puts, List.flatMap_cons, ← puts, u64_nat a (h a (by simp)), u64_nat a (h a (by simp))]
/-- word.Put of a row just laid -/
theorem put_n (W : World) (A : Option Addr) (n c : Nat) (bs : List UInt8) (x : Int) (k : Nat) (ns : List Nat) (m N g : Nat) (ys : List UInt8) (h : Rd W W.heap.size A n (bs.map bv)) (ha : ∀ a ∈ ns, a < 9223372036854775808) (hn : n ≤ 4294967296) (hm : ns.length = m) (hm9 : m ≤ 100) (hk : word.wide x = k) (hN : n + m * k = N) (hy : bs ++ ns.flatMap (low k) = ys) (hg : g = W.heap.size) :
    Calls Tryz.prog 103 #[.slice A n c, .int .i64 x, .slice (some ⟨g, 0, none⟩) m m] (W.alloc (.cells (ns.map fun a => iv (a : Nat)).toArray tInt)) fun e w' => ∃ A' c', e = .returned (.slice A' N c') ∧ Fresh W w' ∧ Own w' W.heap.size 5 A' N c' (ys.map bv) := by
  subst hg
  have hd := Rd.lit W (ns.map fun a => iv (a : Nat)).toArray tInt
  have hsz : (ns.map fun a => iv (a : Nat)).toArray.size = m := by simp [hm]
  rw [hsz] at hd
  have hd2 : Rd (W.alloc (.cells (ns.map fun a => iv (a : Nat)).toArray tInt)) (W.heap.size + 1) (some ⟨W.heap.size, 0, none⟩) m ((ns.map fun a : Nat => (a : Int)).map iv) := by
    rw [List.map_map]; exact hd
  refine (put_is A n c bs x _ m m (ns.map fun a : Nat => (a : Int)) _ W.heap.size (W.heap.size + 1) N ys (h.alloc (Nat.le_refl _) _) (by simp) hd2 (by simp) ?_ hn (by omega) (by rw [hk]; exact hN) (by rw [hk, puts_nat k ns ha]; exact hy)).mono ?_
  · intro z hz
    obtain ⟨a, ha', rfl⟩ := List.mem_map.1 hz
    have := ha a ha'
    exact WalkArith.wf_i64 ⟨by omega, by omega⟩
  · rintro e w' ⟨A', c', rfl, hf, ho⟩
    exact ⟨A', c', rfl, (Fresh.alloc _ _).trans hf, ⟨ho.1, ho.2.imp id fun ⟨g, cap, cur, hv, hg, r⟩ => ⟨g, cap, cur, hv, by simp at hg; omega, r⟩⟩⟩
theorem fits_row (W : World) (x : Int) (k : Nat) (ns : List Nat) (m g : Nat) (ha : ∀ a ∈ ns, a < 256 ^ k) (hk7 : k ≤ 7) (hm : ns.length = m) (hm9 : m ≤ 100) (hk : word.wide x = k) (hg : g = W.heap.size) :
    Calls Tryz.prog 109 #[.int .i64 x, .slice (some ⟨g, 0, none⟩) m m] (W.alloc (.cells (ns.map fun a => iv (a : Nat)).toArray tInt)) fun e w' => e = .returned (.bool true) ∧ (W.alloc (.cells (ns.map fun a => iv (a : Nat)).toArray tInt)) = w' := by
  subst hg
  have hd := Rd.lit W (ns.map fun a => iv (a : Nat)).toArray tInt
  have hsz : (ns.map fun a => iv (a : Nat)).toArray.size = m := by simp [hm]
  rw [hsz] at hd
  have hd2 : Rd (W.alloc (.cells (ns.map fun a => iv (a : Nat)).toArray tInt)) (W.heap.size + 1) (some ⟨W.heap.size, 0, none⟩) m ((ns.map fun a : Nat => (a : Int)).map iv) := by
    rw [List.map_map]; exact hd
  have h7 := pow7 hk7
  refine fits_is _ m m (ns.map fun a : Nat => (a : Int)) x _ _ true hd2 (by unfold maxLen; omega) ?_ ?_
  · intro z hz
    obtain ⟨a, ha', rfl⟩ := List.mem_map.1 hz
    have := ha a ha'
    exact WalkArith.wf_i64 ⟨by omega, by omega⟩
  · rw [hk]
    unfold fits
    rw [List.all_eq_true]
    intro z hz
    obtain ⟨a, ha', rfl⟩ := List.mem_map.1 hz
    have := ha a ha'
    have e : (256 : Int) ^ k = ((256 ^ k : Nat) : Int) := by simp
    rw [e]
    exact decide_eq_true ⟨by omega, by omega⟩
theorem fitsN_row (W : World) (k : Nat) (hk : k = 2 ∨ k = 4) (ns : List Nat) (m g : Nat) (ha : ∀ a ∈ ns, a < 256 ^ k - 1) (hm : ns.length = m) (hm9 : m ≤ 100) (hg : g = W.heap.size) :
    Calls Tryz.prog 67 #[.bool false, .int .i64 k, .slice (some ⟨g, 0, none⟩) m m] (W.alloc (.cells (ns.map fun a => iv (a : Nat)).toArray tInt)) fun e w' => e = .returned (.bool true) ∧ Fresh W w' := by
  subst hg
  have hd := Rd.lit W (ns.map fun a => iv (a : Nat)).toArray tInt
  have hsz : (ns.map fun a => iv (a : Nat)).toArray.size = m := by simp [hm]
  rw [hsz] at hd
  have hd2 : Rd (W.alloc (.cells (ns.map fun a => iv (a : Nat)).toArray tInt)) (W.heap.size + 1) (some ⟨W.heap.size, 0, none⟩) m ((ns.map fun a : Nat => (a : Int)).map iv) := by
    rw [List.map_map]; exact hd
  have h4 : 256 ^ k - 1 ≤ 4294967295 := by rcases hk with rfl | rfl <;> decide
  refine (fitsN_any k hk _ m m (ns.map fun a : Nat => (a : Int)) _ _ hd2 (by simp) (by omega) ?_).mono ?_
  · intro z hz
    obtain ⟨a, ha', rfl⟩ := List.mem_map.1 hz
    have := ha a ha'
    omega
  · rintro e w' ⟨rfl, hf⟩
    refine ⟨?_, (Fresh.alloc _ _).trans hf⟩
    congr 2
    rw [List.all_eq_true]
    intro z hz
    obtain ⟨a, ha', rfl⟩ := List.mem_map.1 hz
    have := ha a ha'
    have e : (256 : Int) ^ k = ((256 ^ k : Nat) : Int) := by simp
    unfold may
    rw [e, Bool.and_eq_true]
    exact ⟨decide_eq_true ⟨by omega, by omega⟩, by rw [Bool.not_eq_true', beq_eq_false_iff_ne]; omega⟩
theorem version_no (w : World) : Calls Tryz.prog 104 #[.bool false] w fun e w' => e = .returned (iv 20) ∧ w = w' := by
  go_enter Tryz.func104, Tryz.ntmps104
  go_wp2
  go_ret
  exact ⟨rfl, rfl⟩
theorem item_no (D : Option Addr) (m d : Nat) (w : World) : Calls Tryz.prog 102 #[.bool false, .slice D m d] w fun e w' => e = .returned (.slice none 0 0) ∧ w = w' := by
  go_enter Tryz.func102, Tryz.ntmps102
  go_wp2
  go_ret
  exact ⟨rfl, rfl⟩
theorem described_any (h : Hd) (A : Option Addr) (c : Nat) (hf : h.fl ≤ 65535) (w : World) :
    Calls Tryz.prog 101 #[.agg (headV h A c).toArray] w fun e w' => e = .returned (.bool (des h)) ∧ Fresh w w' := by
  have t := unz.and_8 h.fl hf
  rw [show (h.fl / 8 % 2 == 1) = des h from rfl] at t
  obtain ⟨fl, me, dt, cr, cs, si, at_, nm, wd⟩ := h
  simp only [headV] at t hf ⊢
  generalize des _ = b at *
  clear hf
  go_enter Tryz.func101, Tryz.ntmps101
  go_wp2
  go_ret
  exact ⟨rfl, Fresh.alloc _ _⟩
set_option maxRecDepth 100000 in
set_option maxHeartbeats 4000000 in
theorem may_plain (h : Hd) (A : Option Addr) (c : Nat) (hR : Rgt h) (hw : h.wd = false) (w : World) :
    Calls Tryz.prog 100 #[.agg (headV h A c).toArray] w fun e w' => e = .returned (.bool true) ∧ Fresh w w' := by
  obtain ⟨r1, r2, r3, r4, r5, r6, r7, r8⟩ := hR
  obtain ⟨fl, me, dt, cr, cs, si, at_, nm, wd⟩ := h
  simp only at hw r1 r2 r3 r4 r5 r6 r7 r8
  subst hw
  simp only [headV]
  generalize nm.length = L at *
  rw [if_neg (by decide)] at r6 r7 r8
  have f1 : ∀ (W : World) (g : Nat), g = W.heap.size → Calls Tryz.prog 109 #[.int .i64 2, .slice (some ⟨g, 0, none⟩) 3 3] (W.alloc (.cells #[iv (fl : Nat), iv (me : Nat), iv (L : Nat)] tInt)) fun e w' => e = .returned (.bool true) ∧ (W.alloc (.cells #[iv (fl : Nat), iv (me : Nat), iv (L : Nat)] tInt)) = w' := fun W g hg =>
    fits_row W 2 2 [fl, me, L] 3 g (by intro a ha; simp only [List.mem_cons, List.not_mem_nil, or_false] at ha; rcases ha with rfl | rfl | rfl <;> omega) (by omega) rfl (by omega) rfl hg
  have f2 : ∀ (W : World) (g : Nat), g = W.heap.size → Calls Tryz.prog 109 #[.int .i64 4, .slice (some ⟨g, 0, none⟩) 1 1] (W.alloc (.cells #[iv (dt : Nat)] tInt)) fun e w' => e = .returned (.bool true) ∧ (W.alloc (.cells #[iv (dt : Nat)] tInt)) = w' := fun W g hg =>
    fits_row W 4 4 [dt] 1 g (by intro a ha; simp only [List.mem_cons, List.not_mem_nil, or_false] at ha; subst ha; omega) (by omega) rfl (by omega) rfl hg
  have f3 : ∀ (W : World) (g : Nat), g = W.heap.size → Calls Tryz.prog 67 #[.bool false, .int .i64 4, .slice (some ⟨g, 0, none⟩) 3 3] (W.alloc (.cells #[iv (cs : Nat), iv (si : Nat), iv (at_ : Nat)] tInt)) fun e w' => e = .returned (.bool true) ∧ Fresh W w' := fun W g hg =>
    fitsN_row W 4 (.inr rfl) [cs, si, at_] 3 g (by intro a ha; simp only [List.mem_cons, List.not_mem_nil, or_false] at ha; rcases ha with rfl | rfl | rfl <;> omega) rfl (by omega) hg
  have F1 := Lib.hid f1
  have F2 := Lib.hid f2
  have F3 := Lib.hid f3
  have hf0 := Lib.hid (Fresh.alloc w (.cells #[iv (fl : Nat), iv (me : Nat), iv (dt : Nat), .int .u32 (cr : Nat), iv (cs : Nat), iv (si : Nat), iv (at_ : Nat), .slice A L c, .bool false] tHead))
  clear f1 f2 f3 r1 r2 r3 r4 r5 r6 r7 r8
  go_enter Tryz.func100, Tryz.ntmps100
  go_wp2_with (first
    | (go_at_call 109; ((with_reducible refine (F1.out _ _ (by simp)).mono ?_); rintro e w1 ⟨rfl, rfl⟩))
    | (go_at_call 109; ((with_reducible refine (F2.out _ _ (by simp)).mono ?_); rintro e w1 ⟨rfl, rfl⟩))
    | (go_at_call 67; ((with_reducible refine (F3.out _ _ (by simp)).mono ?_); rintro e w1 ⟨rfl, hf1⟩)))
  go_ret
  exact ⟨rfl, ((hf0.out.trans (Fresh.alloc _ _)).trans (Fresh.alloc _ _)).trans hf1⟩
end Go.Proofs.YtmnegmebkmihhaaGreatDoor.recp
