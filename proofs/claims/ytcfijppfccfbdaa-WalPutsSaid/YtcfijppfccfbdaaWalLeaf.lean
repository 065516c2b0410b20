/-
  wal's small functions: Size, number, sum, told, may; bytes.Equal. My own text.
-/
import Derived.Test.YtcfijppfccfbdaaWalNum
import Derived.Test.YtcfijppfccfbdaaPagLeaf
import Derived.Test.YtcfijppfccfbdaaRowOf
import Derived.Test.YtcfijppfccfbdaaNamStr
import Derived.Test.YtcfijppfccfbdaaCrcUse
import Derived.Laws.Strings
namespace Go.Proofs.Ytcfijppfccfbdaa.walp
open Go.RowKit Go.Proofs.Ytcfijppfccfbdaa.base Go.Proofs.Ytcfijppfccfbdaa.num Go.Proofs.Ytcfijppfccfbdaa.word Go.Proofs.Ytcfijppfccfbdaa.waln
set_option linter.unusedVariables false

abbrev tWrite : TypeId := 27
abbrev tWrites : TypeId := 22
abbrev tB : TypeId := 5
abbrev tI : TypeId := 3
theorem size_write : (Try.prog.info? tWrite).map (·.size) = some 2 := by kernel_rfl
theorem write_info : (Try.prog.info? tWrite).map (fun i => (i.zero, i.size, i.bytes)) = some (some (.agg #[.int .i64 0, .slice none 0 0]), 2, 32) := by kernel_rfl

/-- a page as it lies -/
structure Wp where
  no : Int
  A : Option Addr
  n : Nat
  c : Nat
  bs : List UInt8
def Wp.pg (p : Wp) : Pg := (p.no, p.bs)
def wpV (p : Wp) : List Value := [.int .i64 p.no, .slice p.A p.n p.c]
theorem wpV_len (p : Wp) : (wpV p).length = 2 := rfl
theorem wpV_one (p : Wp) : ∀ u ∈ wpV p, u.oneCell' = true := by
  intro u hu
  simp only [wpV, List.mem_cons, List.not_mem_nil, or_false] at hu
  rcases hu with rfl | rfl <;> rfl
/-- what is known of each -/
structure Wp.Ok (p : Wp) : Prop where
  no : -9223372036854775808 ≤ p.no ∧ p.no ≤ 9223372036854775807
  cap : p.n ≤ p.c ∧ p.c ≤ maxLen
/-- pages that lie one behind the other -/
def WsAt (w : World) (B : Nat) (A : Option Addr) (n : Nat) (l : List Wp) : Prop :=
  l.length = n ∧ (0 < n → ∃ b off, A = some ⟨b, off, none⟩ ∧ b < B ∧ ∀ i s, l[i]? = some s → w.rangeAt b (off + i * 2) (wpV s)) ∧ ∀ s ∈ l, Rd w B s.A s.n (s.bs.map bv) ∧ s.Ok
theorem WsAt.keep {w w' : World} {B n : Nat} {A : Option Addr} {l : List Wp} (h : WsAt w B A n l) (hk : ∀ k, k < B → w'.heap[k]? = w.heap[k]?) : WsAt w' B A n l :=
  ⟨h.1, fun hn => by
    obtain ⟨b, off, e, hb, hc⟩ := h.2.1 hn
    exact ⟨b, off, e, hb, fun i s hs j v hv => (World.cell?_of_block (hk b hb)).trans (hc i s hs j v hv)⟩, fun s hs => ⟨(h.2.2 s hs).1.keep hk, (h.2.2 s hs).2⟩⟩
theorem WsAt.below {w w' : World} {B B' n : Nat} {A : Option Addr} {l : List Wp} (h : WsAt w B A n l) (hb : Below B' w w') (hB : B ≤ B') : WsAt w' B A n l := h.keep fun k hk => hb.block k (by omega)
theorem WsAt.up {w : World} {B B' n : Nat} {A : Option Addr} {l : List Wp} (h : WsAt w B A n l) (hB : B ≤ B') : WsAt w B' A n l :=
  ⟨h.1, fun hn => by
    obtain ⟨b, off, e, hb, hc⟩ := h.2.1 hn
    exact ⟨b, off, e, by omega, hc⟩, fun s hs => ⟨(h.2.2 s hs).1.up hB, (h.2.2 s hs).2⟩⟩
theorem WsAt.fresh {w w' : World} {n : Nat} {A : Option Addr} {l : List Wp} (h : WsAt w w.heap.size A n l) (hb : Fresh w w') : WsAt w' w'.heap.size A n l := (h.below hb (Nat.le_refl _)).up hb.size
theorem WsAt.nil (w : World) (B : Nat) (A : Option Addr) : WsAt w B A 0 [] := ⟨rfl, fun h => absurd h (by omega), fun s hs => by cases hs⟩
theorem WsAt.at_ {w : World} {B n : Nat} {A : Option Addr} {l : List Wp} (h : WsAt w B A n l) {i : Nat} (hi : i < n) :
    ∃ b off s, A = some ⟨b, off, none⟩ ∧ b < B ∧ l[i]? = some s ∧ w.rangeAt b (off + i * 2) (wpV s) ∧ Rd w B s.A s.n (s.bs.map bv) ∧ s.Ok := by
  obtain ⟨b, off, e, hb, hc⟩ := h.2.1 (by omega)
  have hlt : i < l.length := by rw [h.1]; exact hi
  exact ⟨b, off, l[i], e, hb, List.getElem?_eq_getElem hlt, hc i _ (List.getElem?_eq_getElem hlt), h.2.2 _ (List.getElem_mem hlt)⟩
theorem range_two {w : World} {b o : Nat} {p : Wp} (h : w.rangeAt b o (wpV p)) : w.cell? ⟨b, o, none⟩ = some (.int .i64 p.no) ∧ w.cell? ⟨b, o + 1, none⟩ = some (.slice p.A p.n p.c) := ⟨h 0 _ rfl, h 1 _ rfl⟩
theorem Rd.len8 {w : World} {B n : Nat} {A : Option Addr} {xs : List UInt8} (h : Rd w B A n (xs.map bv)) : xs.length = n := by have := h.1; rwa [List.length_map] at this

theorem text_eq (xs ys : List UInt8) : ((⟨xs.toArray⟩ : ByteArray).toList == (⟨ys.toArray⟩ : ByteArray).toList) = decide (xs = ys) := by
  rw [ByteArray.toList_eq, ByteArray.toList_eq, Bool.eq_iff_iff, decide_eq_true_iff, beq_iff_eq]
theorem equal_any (A D : Option Addr) (n m c d : Nat) (xs ys : List UInt8) (w : World) (B B' : Nat) (ha : Rd w B A n (xs.map bv)) (hd : Rd w B' D m (ys.map bv)) (b : Bool) (hb : decide (xs = ys) = b) :
    Calls Try.prog 23 #[.slice A n c, .slice D m d] w fun e w' => e = .returned (.bool b) ∧ w' = w := by
  have h1 := run_str_rd (P := Try.prog) w 23 9 5 Try.underlying23 Try.underlying5 Try.underlying9 A c n B xs ha
  have h2 := run_str_rd (P := Try.prog) w 23 9 5 Try.underlying23 Try.underlying5 Try.underlying9 D d m B' ys hd
  have h3 := text_eq xs ys
  rw [hb] at h3
  generalize (⟨xs.toArray⟩ : ByteArray) = s at *
  generalize (⟨ys.toArray⟩ : ByteArray) = t at *
  go_enter Try.func23, Try.ntmps23
  go_wp2
  go_ret
  exact ⟨rfl, rfl⟩

/-- how many bytes so many pages have -/
def sizeI (z : Int) : Int := if z < 0 ∨ 4096 < z then 0 else 12 + 516 * z
theorem size_any (z : Int) (w : World) (hz : -9223372036854775808 ≤ z ∧ z ≤ 9223372036854775807) : Calls Try.prog 12 #[.int .i64 z] w fun e w' => e = .returned (.int .i64 (sizeI z)) ∧ w = w' := by
  by_cases h0 : z < 0
  · have hs : sizeI z = 0 := by unfold sizeI; rw [if_pos (.inl h0)]
    rw [hs]
    go_enter Try.func12, Try.ntmps12
    go_wp2
    go_ret
    exact ⟨rfl, rfl⟩
  · by_cases h1 : 4096 < z
    · have hs : sizeI z = 0 := by unfold sizeI; rw [if_pos (.inr h1)]
      rw [hs]
      go_enter Try.func12, Try.ntmps12
      go_wp2
      go_ret
      exact ⟨rfl, rfl⟩
    · have hs : sizeI z = 8 + z * 516 + 4 := by unfold sizeI; rw [if_neg (by omega)]; omega
      rw [hs]
      go_enter Try.func12, Try.ntmps12
      go_wp2
      go_ret
      exact ⟨rfl, rfl⟩
theorem size_nat (k : Nat) (z : Int) (w : World) (hk : k ≤ 4096) (hz : z = (k : Int)) (N : Int) (hN : N = 12 + 516 * (k : Int)) : Calls Try.prog 12 #[.int .i64 z] w fun e w' => e = .returned (.int .i64 N) ∧ w = w' := by
  subst hz
  have := size_any (k : Int) w ⟨by omega, by omega⟩
  have e : sizeI (k : Int) = N := by unfold sizeI; rw [if_neg (by omega), hN]
  rwa [e] at this

theorem number_any (z : Int) (a : Nat) (w : World) (ha : a < 4294967296) (hz : z = (a : Int)) : Calls Try.prog 17 #[.int .i64 z] w fun e w' => ∃ A c, e = .returned (.slice A 4 c) ∧ Fresh w w' ∧ Rd w' w'.heap.size A 4 ((low 4 a).map bv) := by
  subst hz
  have HP := Lib.hid (pagp.put4 w a w.heap.size ha rfl)
  go_enter Try.func17, Try.ntmps17
  go_wp2_with (go_at_call 27; (refine HP.out.mono ?_); rintro e w1 ⟨A1, c1, rfl, hf1, hr1⟩)
  go_ret
  exact ⟨A1, c1, rfl, hf1, hr1⟩

theorem sum_any (A : Option Addr) (n c : Nat) (bs : List UInt8) (w : World) (B : Nat) (S : Nat) (hr : Rd w B A n (bs.map bv)) (hB : B ≤ w.heap.size) (hn : n ≤ 65536) (hS : crcnum.sum bs = S) :
    Calls Try.prog 18 #[.slice A n c] w fun e w' => ∃ A' c', e = .returned (.slice A' 4 c') ∧ Fresh w w' ∧ Rd w' w'.heap.size A' 4 ((low 4 S).map bv) := by
  have hlt := crcnum.sum_lt bs
  rw [hS] at hlt
  have HC := Lib.hid (crc.of_one A n c bs w B S hr hB hn hS w.heap.size rfl)
  have hc : IntKind.i64.wrap (S : Int) = (S : Int) := by rw [IntKind.wrap_i64]; omega
  have HN := Lib.hid (fun W : World => number_any (S : Int) S W hlt rfl)
  clear hr
  go_enter Try.func18, Try.ntmps18
  go_wp2_with (first
    | (go_at_call 28; (refine HC.out.mono ?_); rintro e w1 ⟨rfl, hf1⟩)
    | (go_at_call 17; (refine (HN.out _).mono ?_); rintro e w2 ⟨A2, c2, rfl, hf2, hr2⟩))
  go_ret
  exact ⟨A2, c2, rfl, ((Fresh.alloc _ _).trans hf1).trans hf2, hr2⟩

theorem told_short (b : List UInt8) (h : b.length < 4) : waln.told b = (0, 3) := by unfold waln.told; rw [if_pos h]
theorem told_mark (b : List UInt8) (h : ¬ b.length < 4) (hm : ¬ b.take 4 = mk4) : waln.told b = (0, 4) := by unfold waln.told; rw [if_neg h, if_neg hm]
theorem told_eight (b : List UInt8) (h : ¬ b.length < 4) (hm : b.take 4 = mk4) (h8 : b.length < 8) : waln.told b = (0, 3) := by unfold waln.told; rw [if_neg h, if_pos hm, if_pos h8]
theorem told_many (b : List UInt8) (h : ¬ b.length < 4) (hm : b.take 4 = mk4) (h8 : ¬ b.length < 8) (hn : 4096 < num ((b.drop 4).take 4)) : waln.told b = (0, 4) := by unfold waln.told; rw [if_neg h, if_pos hm, if_neg h8, if_pos hn]
theorem told_ok (b : List UInt8) (h : ¬ b.length < 4) (hm : b.take 4 = mk4) (h8 : ¬ b.length < 8) (hn : ¬ 4096 < num ((b.drop 4).take 4)) : waln.told b = (num ((b.drop 4).take 4), 0) := by unfold waln.told; rw [if_neg h, if_pos hm, if_neg h8, if_neg hn]

/-- the text's mark, against what stands there -/
theorem mark_test (xs : List UInt8) : ((⟨xs.toArray⟩ : ByteArray).toList == [105, 113, 106, 49]) = decide (xs = mk4) := by
  rw [ByteArray.toList_eq, Bool.eq_iff_iff, decide_eq_true_iff, beq_iff_eq]
  rfl
theorem told_any (A : Option Addr) (n c : Nat) (bs : List UInt8) (w : World) (B : Nat) (hr : Rd w B A n (bs.map bv)) (hc : n ≤ c) (hm : c ≤ maxLen) :
    Calls Try.prog 22 #[.slice A n c] w fun e w' => e = .returned (.tuple #[.int .i64 ((waln.told bs).1 : Nat), .int .i64 ((waln.told bs).2 : Nat)]) ∧ w = w' := by
  have hl := Rd.len8 hr
  by_cases h4 : n < 4
  · rw [told_short bs (by omega)]
    clear hr hl
    go_enter Try.func22, Try.ntmps22
    go_wp2
    go_ret2
    exact ⟨rfl, rfl⟩
  · have hw4 : word.wide 4 = 4 := by decide
    have hcut : Rd w B (if c = 0 then A else A.map (·.add 0)) 4 ((bs.take 4).map bv) := by
      have := hr.cut (lo := 0) (hi := 4) (cap := c) (by omega) (by omega) hc
      rwa [← List.map_drop, ← List.map_take, List.drop_zero] at this
    have hst := fun d => run_str_rd (P := Try.prog) w 23 9 5 Try.underlying23 Try.underlying5 Try.underlying9 A d 4 B (bs.take 4) (by
      have h2 := hr
      refine ⟨by simp; omega, fun _ => ?_⟩
      obtain ⟨b, off, e1, hb, hcell⟩ := h2.2 (by omega)
      refine ⟨b, off, e1, hb, fun j u hu => hcell j u ?_⟩
      rw [List.map_take, List.getElem?_take] at hu
      split at hu
      · exact hu
      · cases hu)
    have hmt := mark_test (bs.take 4)
    generalize hx : (⟨(bs.take 4).toArray⟩ : ByteArray) = s at *
    by_cases hmk : bs.take 4 = mk4
    · rw [decide_eq_true hmk] at hmt
      by_cases h8 : n < 8
      · rw [told_eight bs (by omega) hmk (by omega)]
        have HG := Lib.hid (get_end A n c 4 4 w (by omega) (by omega) (by omega) (by rw [hw4]; omega))
        clear hr hcut hx hmk
        go_enter Try.func22, Try.ntmps22
        go_wp2_with (go_at_call 30; (refine HG.out.mono ?_); rintro e w1 ⟨rfl, rfl⟩)
        go_ret2
        exact ⟨rfl, rfl⟩
      · have HG := Lib.hid (get_is A n c bs 4 4 w B _ hr hc hm (by omega) (by rw [hw4]; simp; omega) rfl)
        simp only [hw4] at HG
        have hq : (4 : Int).toNat = 4 := rfl
        rw [hq] at HG
        have hlt := num_lt ((bs.drop 4).take 4)
        by_cases hbig : 4096 < num ((bs.drop 4).take 4)
        · rw [told_many bs (by omega) hmk (by omega) hbig]
          generalize num ((bs.drop 4).take 4) = N at *
          clear hr hcut hx hmk hlt
          go_enter Try.func22, Try.ntmps22
          go_wp2_with (go_at_call 30; (refine HG.out.mono ?_); rintro e w1 ⟨rfl, rfl⟩)
          go_ret2
          exact ⟨rfl, rfl⟩
        · rw [told_ok bs (by omega) hmk (by omega) hbig]
          generalize num ((bs.drop 4).take 4) = N at *
          clear hr hcut hx hmk hlt
          go_enter Try.func22, Try.ntmps22
          go_wp2_with (go_at_call 30; (refine HG.out.mono ?_); rintro e w1 ⟨rfl, rfl⟩)
          go_ret2
          exact ⟨rfl, rfl⟩
    · rw [decide_eq_false hmk] at hmt
      rw [told_mark bs (by omega) hmk]
      clear hr hcut hx hmk
      go_enter Try.func22, Try.ntmps22
      go_wp2
      go_ret2
      exact ⟨rfl, rfl⟩
end Go.Proofs.Ytcfijppfccfbdaa.walp
