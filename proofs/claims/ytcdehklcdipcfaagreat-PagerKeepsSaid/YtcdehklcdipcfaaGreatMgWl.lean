import Derived.Test.YtcdehklcdipcfaaGreatMgNm
import Derived.Test.YtcdehklcdipcfaaGreatPagLeaf
import Derived.Test.YtcdehklcdipcfaaGreatRowOf
import Derived.Test.YtcdehklcdipcfaaGreatNamStr
import Derived.Test.YtcdehklcdipcfaaGreatMgCr
import Derived.Laws.Strings
import Derived.Test.YtcdehklcdipcfaaGreatBase
import Derived.Lib.AppendStr
import Derived.Lib.AppendZeros
/- Several of my own texts, one behind the other. -/
/-
  wal's small functions: Size, number, sum, told, may; bytes.Equal. My own text.
-/
namespace Go.Proofs.YtcdehklcdipcfaaGreat.walp
open Go.RowKit Go.Proofs.YtcdehklcdipcfaaGreat.base Go.Proofs.YtcdehklcdipcfaaGreat.num Go.Proofs.YtcdehklcdipcfaaGreat.word Go.Proofs.YtcdehklcdipcfaaGreat.waln
set_option linter.unusedVariables false

abbrev tWrite : TypeId := 105
abbrev tWrites : TypeId := 80
abbrev tB : TypeId := 5
abbrev tI : TypeId := 3
theorem size_write : (Tryz.prog.info? tWrite).map (·.size) = some 2 := by kernel_rfl
theorem write_info : (Tryz.prog.info? tWrite).map (fun i => (i.zero, i.size, i.bytes)) = some (some (.agg #[.int .i64 0, .slice none 0 0]), 2, 32) := by kernel_rfl

/-- a page as it lies -/
structure Wp where
  no : Int
  A : Option Addr
  n : Nat
  c : Nat
  bs : List UInt8
def Wp.pg (p : Wp) : Pg := (p.no, p.bs)
def wpV (p : Wp) : List Value := [.int .i64 p.no, .slice p.A p.n p.c]
theorem wpV_len (p : Wp) : (wpV p).length = 2 := rfl
theorem wpV_one (p : Wp) : ∀ u ∈ wpV p, u.oneCell' = true := by
  intro u hu
  simp only [wpV, List.mem_cons, List.not_mem_nil, or_false] at hu
  rcases hu with rfl | rfl <;> rfl
/-- what is known of each -/
structure Wp.Ok (p : Wp) : Prop where
  no : -9223372036854775808 ≤ p.no ∧ p.no ≤ 9223372036854775807
  cap : p.n ≤ p.c ∧ p.c ≤ maxLen
/-- pages that lie one behind the other -/
def WsAt (w : World) (B : Nat) (A : Option Addr) (n : Nat) (l : List Wp) : Prop :=
  l.length = n ∧ (0 < n → ∃ b off, A = some ⟨b, off, none⟩ ∧ b < B ∧ ∀ i s, l[i]? = some s → w.rangeAt b (off + i * 2) (wpV s)) ∧ ∀ s ∈ l, Rd w B s.A s.n (s.bs.map bv) ∧ s.Ok
theorem WsAt.keep {w w' : World} {B n : Nat} {A : Option Addr} {l : List Wp} (h : WsAt w B A n l) (hk : ∀ k, k < B → w'.heap[k]? = w.heap[k]?) : WsAt w' B A n l :=
  ⟨h.1, fun hn => by
    obtain ⟨b, off, e, hb, hc⟩ := h.2.1 hn
    exact ⟨b, off, e, hb, fun i s hs j v hv => (World.cell?_of_block (hk b hb)).trans (hc i s hs j v hv)⟩, fun s hs => ⟨(h.2.2 s hs).1.keep hk, (h.2.2 s hs).2⟩⟩
theorem WsAt.below {w w' : World} {B B' n : Nat} {A : Option Addr} {l : List Wp} (h : WsAt w B A n l) (hb : Below B' w w') (hB : B ≤ B') : WsAt w' B A n l := h.keep fun k hk => hb.block k (by omega)
theorem WsAt.up {w : World} {B B' n : Nat} {A : Option Addr} {l : List Wp} (h : WsAt w B A n l) (hB : B ≤ B') : WsAt w B' A n l :=
  ⟨h.1, fun hn => by
    obtain ⟨b, off, e, hb, hc⟩ := h.2.1 hn
    exact ⟨b, off, e, by omega, hc⟩, fun s hs => ⟨(h.2.2 s hs).1.up hB, (h.2.2 s hs).2⟩⟩
theorem WsAt.fresh {w w' : World} {n : Nat} {A : Option Addr} {l : List Wp} (h : WsAt w w.heap.size A n l) (hb : Fresh w w') : WsAt w' w'.heap.size A n l := (h.below hb (Nat.le_refl _)).up hb.size
theorem WsAt.nil (w : World) (B : Nat) (A : Option Addr) : WsAt w B A 0 [] := ⟨rfl, fun h => absurd h (by omega), fun s hs => by cases hs⟩
theorem WsAt.at_ {w : World} {B n : Nat} {A : Option Addr} {l : List Wp} (h : WsAt w B A n l) {i : Nat} (hi : i < n) :
    ∃ b off s, A = some ⟨b, off, none⟩ ∧ b < B ∧ l[i]? = some s ∧ w.rangeAt b (off + i * 2) (wpV s) ∧ Rd w B s.A s.n (s.bs.map bv) ∧ s.Ok := by
  obtain ⟨b, off, e, hb, hc⟩ := h.2.1 (by omega)
  have hlt : i < l.length := by rw [h.1]; exact hi
  exact ⟨b, off, l[i], e, hb, List.getElem?_eq_getElem hlt, hc i _ (List.getElem?_eq_getElem hlt), h.2.2 _ (List.getElem_mem hlt)⟩
theorem range_two {w : World} {b o : Nat} {p : Wp} (h : w.rangeAt b o (wpV p)) : w.cell? ⟨b, o, none⟩ = some (.int .i64 p.no) ∧ w.cell? ⟨b, o + 1, none⟩ = some (.slice p.A p.n p.c) := ⟨h 0 _ rfl, h 1 _ rfl⟩
theorem Rd.len8 {w : World} {B n : Nat} {A : Option Addr} {xs : List UInt8} (h : Rd w B A n (xs.map bv)) : xs.length = n := by have := h.1; rwa [List.length_map] at this

theorem text_eq (xs ys : List UInt8) : ((⟨xs.toArray⟩ : ByteArray).toList == (⟨ys.toArray⟩ : ByteArray).toList) = decide (xs = ys) := by
  rw [ByteArray.toList_eq, ByteArray.toList_eq, Bool.eq_iff_iff, decide_eq_true_iff, beq_iff_eq]
theorem equal_any (A D : Option Addr) (n m c d : Nat) (xs ys : List UInt8) (w : World) (B B' : Nat) (ha : Rd w B A n (xs.map bv)) (hd : Rd w B' D m (ys.map bv)) (b : Bool) (hb : decide (xs = ys) = b) :
    Calls Tryz.prog 118 #[.slice A n c, .slice D m d] w fun e w' => e = .returned (.bool b) ∧ w' = w := by
  have h1 := run_str_rd (P := Tryz.prog) w 32 9 5 Tryz.underlying32 Tryz.underlying5 Tryz.underlying9 A c n B xs ha
  have h2 := run_str_rd (P := Tryz.prog) w 32 9 5 Tryz.underlying32 Tryz.underlying5 Tryz.underlying9 D d m B' ys hd
  have h3 := text_eq xs ys
  rw [hb] at h3
  generalize (⟨xs.toArray⟩ : ByteArray) = s at *
  generalize (⟨ys.toArray⟩ : ByteArray) = t at *
  go_enter Tryz.func118, Tryz.ntmps118
  go_wp2
  go_ret
  exact ⟨rfl, rfl⟩

/-- how many bytes so many pages have -/
def sizeI (z : Int) : Int := if z < 0 ∨ 4096 < z then 0 else 12 + 516 * z
theorem size_any (z : Int) (w : World) (hz : -9223372036854775808 ≤ z ∧ z ≤ 9223372036854775807) : Calls Tryz.prog 68 #[.int .i64 z] w fun e w' => e = .returned (.int .i64 (sizeI z)) ∧ w = w' := by
  by_cases h0 : z < 0
  · have hs : sizeI z = 0 := by unfold sizeI; rw [if_pos (.inl h0)]
    rw [hs]
    go_enter Tryz.func68, Tryz.ntmps68
    go_wp2
    go_ret
    exact ⟨rfl, rfl⟩
  · by_cases h1 : 4096 < z
    · have hs : sizeI z = 0 := by unfold sizeI; rw [if_pos (.inr h1)]
      rw [hs]
      go_enter Tryz.func68, Tryz.ntmps68
      go_wp2
      go_ret
      exact ⟨rfl, rfl⟩
    · have hs : sizeI z = 8 + z * 516 + 4 := by unfold sizeI; rw [if_neg (by omega)]; omega
      rw [hs]
      go_enter Tryz.func68, Tryz.ntmps68
      go_wp2
      go_ret
      exact ⟨rfl, rfl⟩
theorem size_nat (k : Nat) (z : Int) (w : World) (hk : k ≤ 4096) (hz : z = (k : Int)) (N : Int) (hN : N = 12 + 516 * (k : Int)) : Calls Tryz.prog 68 #[.int .i64 z] w fun e w' => e = .returned (.int .i64 N) ∧ w = w' := by
  subst hz
  have := size_any (k : Int) w ⟨by omega, by omega⟩
  have e : sizeI (k : Int) = N := by unfold sizeI; rw [if_neg (by omega), hN]
  rwa [e] at this

theorem number_any (z : Int) (a : Nat) (w : World) (ha : a < 4294967296) (hz : z = (a : Int)) : Calls Tryz.prog 101 #[.int .i64 z] w fun e w' => ∃ A c, e = .returned (.slice A 4 c) ∧ Fresh w w' ∧ Rd w' w'.heap.size A 4 ((low 4 a).map bv) := by
  subst hz
  have HP := Lib.hid (pagp.put4 w a w.heap.size ha rfl)
  go_enter Tryz.func101, Tryz.ntmps101
  go_wp2_with (go_at_call 57; (refine HP.out.mono ?_); rintro e w1 ⟨A1, c1, rfl, hf1, hr1⟩)
  go_ret
  exact ⟨A1, c1, rfl, hf1, hr1⟩

theorem sum_any (A : Option Addr) (n c : Nat) (bs : List UInt8) (w : World) (B : Nat) (S : Nat) (hr : Rd w B A n (bs.map bv)) (hB : B ≤ w.heap.size) (hn : n ≤ 65536) (hS : crcnum.sum bs = S) :
    Calls Tryz.prog 102 #[.slice A n c] w fun e w' => ∃ A' c', e = .returned (.slice A' 4 c') ∧ Fresh w w' ∧ Rd w' w'.heap.size A' 4 ((low 4 S).map bv) := by
  have hlt := crcnum.sum_lt bs
  rw [hS] at hlt
  have HC := Lib.hid (crc.of_one A n c bs w B S hr hB hn hS w.heap.size rfl)
  have hc : IntKind.i64.wrap (S : Int) = (S : Int) := by rw [IntKind.wrap_i64]; omega
  have HN := Lib.hid (fun W : World => number_any (S : Int) S W hlt rfl)
  clear hr
  go_enter Tryz.func102, Tryz.ntmps102
  go_wp2_with (first
    | (go_at_call 122; (refine HC.out.mono ?_); rintro e w1 ⟨rfl, hf1⟩)
    | (go_at_call 101; (refine (HN.out _).mono ?_); rintro e w2 ⟨A2, c2, rfl, hf2, hr2⟩))
  go_ret
  exact ⟨A2, c2, rfl, ((Fresh.alloc _ _).trans hf1).trans hf2, hr2⟩

theorem told_short (b : List UInt8) (h : b.length < 4) : waln.told b = (0, 3) := by unfold waln.told; rw [if_pos h]
theorem told_mark (b : List UInt8) (h : ¬ b.length < 4) (hm : ¬ b.take 4 = mk4) : waln.told b = (0, 4) := by unfold waln.told; rw [if_neg h, if_neg hm]
theorem told_eight (b : List UInt8) (h : ¬ b.length < 4) (hm : b.take 4 = mk4) (h8 : b.length < 8) : waln.told b = (0, 3) := by unfold waln.told; rw [if_neg h, if_pos hm, if_pos h8]
theorem told_many (b : List UInt8) (h : ¬ b.length < 4) (hm : b.take 4 = mk4) (h8 : ¬ b.length < 8) (hn : 4096 < num ((b.drop 4).take 4)) : waln.told b = (0, 4) := by unfold waln.told; rw [if_neg h, if_pos hm, if_neg h8, if_pos hn]
theorem told_ok (b : List UInt8) (h : ¬ b.length < 4) (hm : b.take 4 = mk4) (h8 : ¬ b.length < 8) (hn : ¬ 4096 < num ((b.drop 4).take 4)) : waln.told b = (num ((b.drop 4).take 4), 0) := by unfold waln.told; rw [if_neg h, if_pos hm, if_neg h8, if_neg hn]

/-- the text's mark, against what stands there -/
theorem mark_test (xs : List UInt8) : ((⟨xs.toArray⟩ : ByteArray).toList == [105, 113, 106, 49]) = decide (xs = mk4) := by
  rw [ByteArray.toList_eq, Bool.eq_iff_iff, decide_eq_true_iff, beq_iff_eq]
  rfl
theorem told_any (A : Option Addr) (n c : Nat) (bs : List UInt8) (w : World) (B : Nat) (hr : Rd w B A n (bs.map bv)) (hc : n ≤ c) (hm : c ≤ maxLen) :
    Calls Tryz.prog 117 #[.slice A n c] w fun e w' => e = .returned (.tuple #[.int .i64 ((waln.told bs).1 : Nat), .int .i64 ((waln.told bs).2 : Nat)]) ∧ w = w' := by
  have hl := Rd.len8 hr
  by_cases h4 : n < 4
  · rw [told_short bs (by omega)]
    clear hr hl
    go_enter Tryz.func117, Tryz.ntmps117
    go_wp2
    go_ret2
    exact ⟨rfl, rfl⟩
  · have hw4 : word.wide 4 = 4 := by decide
    have hcut : Rd w B (if c = 0 then A else A.map (·.add 0)) 4 ((bs.take 4).map bv) := by
      have := hr.cut (lo := 0) (hi := 4) (cap := c) (by omega) (by omega) hc
      rwa [← List.map_drop, ← List.map_take, List.drop_zero] at this
    have hst := fun d => run_str_rd (P := Tryz.prog) w 32 9 5 Tryz.underlying32 Tryz.underlying5 Tryz.underlying9 A d 4 B (bs.take 4) (by
      have h2 := hr
      refine ⟨by simp; omega, fun _ => ?_⟩
      obtain ⟨b, off, e1, hb, hcell⟩ := h2.2 (by omega)
      refine ⟨b, off, e1, hb, fun j u hu => hcell j u ?_⟩
      rw [List.map_take, List.getElem?_take] at hu
      split at hu
      · exact hu
      · cases hu)
    have hmt := mark_test (bs.take 4)
    generalize hx : (⟨(bs.take 4).toArray⟩ : ByteArray) = s at *
    by_cases hmk : bs.take 4 = mk4
    · rw [decide_eq_true hmk] at hmt
      by_cases h8 : n < 8
      · rw [told_eight bs (by omega) hmk (by omega)]
        have HG := Lib.hid (get_end A n c 4 4 w (by omega) (by omega) (by omega) (by rw [hw4]; omega))
        clear hr hcut hx hmk
        go_enter Tryz.func117, Tryz.ntmps117
        go_wp2_with (go_at_call 140; (refine HG.out.mono ?_); rintro e w1 ⟨rfl, rfl⟩)
        go_ret2
        exact ⟨rfl, rfl⟩
      · have HG := Lib.hid (get_is A n c bs 4 4 w B _ hr hc hm (by omega) (by rw [hw4]; simp; omega) rfl)
        simp only [hw4] at HG
        have hq : (4 : Int).toNat = 4 := rfl
        rw [hq] at HG
        have hlt := num_lt ((bs.drop 4).take 4)
        by_cases hbig : 4096 < num ((bs.drop 4).take 4)
        · rw [told_many bs (by omega) hmk (by omega) hbig]
          generalize num ((bs.drop 4).take 4) = N at *
          clear hr hcut hx hmk hlt
          go_enter Tryz.func117, Tryz.ntmps117
          go_wp2_with (go_at_call 140; (refine HG.out.mono ?_); rintro e w1 ⟨rfl, rfl⟩)
          go_ret2
          exact ⟨rfl, rfl⟩
        · rw [told_ok bs (by omega) hmk (by omega) hbig]
          generalize num ((bs.drop 4).take 4) = N at *
          clear hr hcut hx hmk hlt
          go_enter Tryz.func117, Tryz.ntmps117
          go_wp2_with (go_at_call 140; (refine HG.out.mono ?_); rintro e w1 ⟨rfl, rfl⟩)
          go_ret2
          exact ⟨rfl, rfl⟩
    · rw [decide_eq_false hmk] at hmt
      rw [told_mark bs (by omega) hmk]
      clear hr hcut hx hmk
      go_enter Tryz.func117, Tryz.ntmps117
      go_wp2
      go_ret2
      exact ⟨rfl, rfl⟩
end Go.Proofs.YtcdehklcdipcfaaGreat.walp
/-
  wal.may; the reference's Right and Rising. My own text.
-/
namespace Go.Proofs.YtcdehklcdipcfaaGreat.walp
open Go.RowKit Go.Proofs.YtcdehklcdipcfaaGreat.base Go.Proofs.YtcdehklcdipcfaaGreat.num Go.Proofs.YtcdehklcdipcfaaGreat.word Go.Proofs.YtcdehklcdipcfaaGreat.waln
set_option linter.unusedVariables false

/-- as the program goes through them -/
def okW (q : Int) : List Wp → Bool
  | [] => true
  | p :: r => decide (q < p.no) && (fitN p.no && (decide (p.n = 512) && okW p.no r))
theorem okW_is (l : List Wp) (q : Int) (h : ∀ p ∈ l, p.bs.length = p.n) : okW q l = ((l.map Wp.pg).all (fun p => decide (p.2.length = 512)) && rise q ((l.map Wp.pg).map Prod.fst)) := by
  induction l generalizing q with
  | nil => rfl
  | cons p r ih =>
    have h1 := h p (by simp)
    have h2 := ih p.no fun x hx => h x (by simp [hx])
    simp only [okW, h2, List.map_cons, List.all_cons, rise, Wp.pg, h1]
    cases decide (q < p.no) <;> cases fitN p.no <;> cases decide (p.n = 512) <;> simp
theorem right_is (l : List Wp) (h : ∀ p ∈ l, p.bs.length = p.n) : right (l.map Wp.pg) = (decide (l.length ≤ 4096) && okW (-1) l) := by
  rw [okW_is l _ h, right, List.length_map]
  cases decide (l.length ≤ 4096) <;> simp
theorem WsAt.lens {w : World} {B n : Nat} {A : Option Addr} {l : List Wp} (h : WsAt w B A n l) : ∀ p ∈ l, p.bs.length = p.n := fun p hp => Rd.len8 (h.2.2 p hp).1
theorem drop_at {α : Type} {l : List α} {k : Nat} {s : α} (h : l[k]? = some s) : l.drop k = s :: l.drop (k + 1) := by
  obtain ⟨hk, e⟩ := List.getElem?_eq_some_iff.1 h
  rw [List.drop_eq_getElem_cons hk, e]
theorem fits3 (z : Int) : word.fits (word.wide 3) [z] = fitN z := pagp.fits3 z

set_option maxRecDepth 100000 in
theorem may_any (A : Option Addr) (n c : Nat) (l : List Wp) (w : World) (B : Nat) (h : WsAt w B A n l) (hB : B ≤ w.heap.size) (b : Bool) (hb : right (l.map Wp.pg) = b) :
    Calls Tryz.prog 100 #[.slice A n c] w fun e w' => e = .returned (.bool b) ∧ Fresh w w' := by
  rw [right_is l h.lens, h.1] at hb
  by_cases hbig : 4096 < n
  · rw [decide_eq_false (by omega), Bool.false_and] at hb
    subst hb
    clear h
    go_enter Tryz.func100, Tryz.ntmps100
    go_wp2
    go_ret
    exact ⟨rfl, Fresh.refl _⟩
  · rw [decide_eq_true (by omega), Bool.true_and] at hb
    have hl := h.1
    have HL := Lib.hid hl
    have HB := Lib.hid hb
    clear hb hl
    go_enter Tryz.func100, Tryz.ntmps100
    go_wp2
    go_loopw [3, 11] (fun q i wr => ∃ (k : Nat) (z : Int), k ≤ n ∧ i = .int .i64 k ∧ q = .int .i64 z ∧ Hid (okW z (l.drop k) = b) ∧ Fresh w wr) (fun _ i _ => n - (intOf i).toNat)
    case atStart => exact ⟨0, -1, by omega, rfl, rfl, HB, Fresh.refl _⟩
    case round =>
      obtain ⟨k, z, hk, rfl, rfl, hR, hfr⟩ := hrel
      by_cases hlt : k < n
      · obtain ⟨bb, off, s, rfl, hbb, hs, hrow, hrd, hok⟩ := (h.below hfr hB).at_ hlt
        have hR2 := hR.out
        rw [drop_at hs] at hR2
        simp only [okW] at hR2
        obtain ⟨no, sA, sn, sc, sbs⟩ := s
        simp only at hR2 hrd
        have hno := hok.no
        simp only at hno
        have hRG : Hid (wr.rangeAt bb (off + k * 2) [.int .i64 no, .slice sA sn sc]) := Lib.hid hrow
        have hij : (k : Int) < (n : Int) := by omega
        have hfw := Lib.hid (hfr.trans (Fresh.alloc wr (.cells #[.int .i64 no, .slice sA sn sc] tWrite)))
        have hbk := Lib.hid (Bk.made wr tWrite #[.int .i64 no, .slice sA sn sc])
        have hzf := pagp.one_wf (WalkArith.wf_i64 hno)
        clear hR hrow hrd hok hs
        by_cases h1 : no ≤ z
        · have e1 : decide (z < no) = false := decide_eq_false (by omega)
          rw [e1, Bool.false_and] at hR2
          subst hR2
          clear e1 hzf hno
          go_wp2_with ((with_reducible (refine at_slot_ 14 ?_)); refine wpList_load_mid rfl tWrite (.tmp 13) rfl bb (off + k * 2) rfl [.int .i64 no, .slice sA sn sc] _ hRG.out Tryz.underlying105 rfl size_write ?_)
          go_ret
          exact ⟨rfl, hfw.out⟩
        · have e1 : decide (z < no) = true := decide_eq_true (by omega)
          rw [e1, Bool.true_and] at hR2
          have h1' : z < no := by omega
          have hfit := fits3 no
          have HF := Lib.hid (show ∀ (W : World) (g : Nat), g = W.heap.size → Calls Tryz.prog 121 #[.int .i64 3, .slice (some ⟨g, 0, none⟩) 1 1] (W.alloc (.cells #[.int .i64 no] tI)) fun e w' => e = .returned (.bool (fitN no)) ∧ _ = w' from fun W g hg => by subst hg; exact word.fits_is _ 1 1 [no] 3 _ _ _ (Rd.lit W #[.int .i64 no] tI) (by unfold maxLen; omega) hzf hfit)
          clear e1 hzf hfit
          by_cases h2 : fitN no = true
          · rw [h2, Bool.true_and] at hR2
            rw [h2] at HF
            clear h2 hno
            by_cases h3 : sn = 512
            · subst h3
              rw [decide_eq_true rfl, Bool.true_and] at hR2
              have HR2 := Lib.hid hR2
              clear hR2
              go_wp2_with (first
                | ((with_reducible (refine at_slot_ 14 ?_)); refine wpList_load_mid rfl tWrite (.tmp 13) rfl bb (off + k * 2) rfl [.int .i64 no, .slice sA 512 sc] _ hRG.out Tryz.underlying105 rfl size_write ?_)
                | (go_at_call 121; (refine (HF.out _ _ (by simp)).mono ?_); rintro e w1 ⟨rfl, rfl⟩))
              go_roundw
              case rel => exact ⟨k + 1, no, by omega, by go_num, rfl, HR2, hfw.out.trans (Fresh.alloc _ _)⟩
              case measure => simp [intOf]; omega
            · rw [decide_eq_false h3, Bool.false_and] at hR2
              subst hR2
              have h3' : ((sn : Int) != 512) = true := by rw [bne_iff_ne]; omega
              clear h3
              go_wp2_with (first
                | ((with_reducible (refine at_slot_ 14 ?_)); refine wpList_load_mid rfl tWrite (.tmp 13) rfl bb (off + k * 2) rfl [.int .i64 no, .slice sA sn sc] _ hRG.out Tryz.underlying105 rfl size_write ?_)
                | (go_at_call 121; (refine (HF.out _ _ (by simp)).mono ?_); rintro e w1 ⟨rfl, rfl⟩))
              go_ret
              exact ⟨rfl, hfw.out.trans (Fresh.alloc _ _)⟩
          · have h2' : fitN no = false := by simpa using h2
            rw [h2', Bool.false_and] at hR2
            rw [h2'] at HF
            subst hR2
            clear h2 h2' hno
            go_wp2_with (first
              | ((with_reducible (refine at_slot_ 14 ?_)); refine wpList_load_mid rfl tWrite (.tmp 13) rfl bb (off + k * 2) rfl [.int .i64 no, .slice sA sn sc] _ hRG.out Tryz.underlying105 rfl size_write ?_)
              | (go_at_call 121; (refine (HF.out _ _ (by simp)).mono ?_); rintro e w1 ⟨rfl, rfl⟩))
            go_ret
            exact ⟨rfl, hfw.out.trans (Fresh.alloc _ _)⟩
      · have h0 : k = n := by omega
        subst h0
        have hR2 := hR.out
        rw [List.drop_of_length_le (by have := HL.out; omega)] at hR2
        simp only [okW] at hR2
        subst hR2
        clear hR
        go_wp2
        go_ret
        exact ⟨rfl, hfr⟩
end Go.Proofs.YtcdehklcdipcfaaGreat.walp
/-
  append(x, "text"...), x a row of the call's own, as a law of the walk: over any program. My own text.
-/
namespace Go.Proofs.YtcdehklcdipcfaaGreat.base
open Go.RowKit
set_option linter.unusedVariables false
theorem wpList_append_str {P : Program} (w : World) {ops : Array Oper} {rest : List Oper} {o : Oper} {a : Act} {Q : Exit → Act → World → Prop} (hgd : o.guard = none) (s x : Operand) (t u : TypeId)
    (ho : o.op = .call { callee := .builtin .append, args := #[s, x], argTypes := #[t, u] }) (base : Nat) (e : TypeId) (i : TypeInfo) (ht : P.underlying t = some (.slice e)) (hu : P.underlying u = some .string) (hi : P.info? e = some i) (hz : i.zero = some (.int .u8 0))
    (hsize : i.size = 1) (hby : i.bytes = 1) (A : Option Addr) (n c : Nat) (xs : List Value) (hs : a.eval s = .slice A n c) (hown : Own w base e A n c xs) (st : ByteArray) (hx : a.eval x = .string st) (m : Nat) (hm : st.size = m) (ys : List Value) (hy : Lib.strCells st = ys) (h63 : n + m ≤ 1099511627776) (hbase : base ≤ w.heap.size)
    (h : ∀ A' c' w', Own w' base e A' (n + m) c' (xs ++ ys) → w.grownBy w' (Value.slice A n c).ownBlock → wpList P ops Q rest (a.put o.dst (.slice A' (n + m) c')) w') : wpList P ops Q (o :: rest) a w := by
  subst hm
  subst hy
  obtain ⟨v', w', hrun, h2, h3, _⟩ := Lib.run_append_own_string (P := P) (w := w) base t u o.type e i ht hu hi hz hsize hby (.slice A n c) n xs hown st (by unfold maxLen; omega) (by omega) hbase
  have hform : ∃ A' c', v' = .slice A' (n + st.size) c' := by
    rcases h2.2 with ⟨hv, hn⟩ | ⟨g, cap, cur, hv, _⟩
    · exact ⟨none, 0, by rw [hv, hn]⟩
    · exact ⟨_, cap, hv⟩
  obtain ⟨A', c', rfl⟩ := hform
  exact Lib.wpList_append_run w hgd s x t u ho _ _ hs hx _ _ hrun (h A' c' w' h2 h3)
end Go.Proofs.YtcdehklcdipcfaaGreat.base
/-
  wal.Put. My own text.
-/
namespace Go.Proofs.YtcdehklcdipcfaaGreat.walp
open Go.RowKit Go.Proofs.YtcdehklcdipcfaaGreat.base Go.Proofs.YtcdehklcdipcfaaGreat.num Go.Proofs.YtcdehklcdipcfaaGreat.word Go.Proofs.YtcdehklcdipcfaaGreat.waln
set_option linter.unusedVariables false

theorem put_no (A : Option Addr) (n c : Nat) (l : List Wp) (w : World) (B : Nat) (h : WsAt w B A n l) (hB : B ≤ w.heap.size) (hr : right (l.map Wp.pg) = false) :
    Calls Tryz.prog 70 #[.slice A n c] w fun e w' => e = .returned (.tuple #[.slice none 0 0, .int .i64 1]) ∧ Fresh w w' := by
  have HM := Lib.hid (may_any A n c l w B h hB _ hr)
  clear h
  go_enter Tryz.func70, Tryz.ntmps70
  go_wp2_with (go_at_call 100; (refine HM.out.mono ?_); rintro e w1 ⟨rfl, hf1⟩)
  go_ret2
  exact ⟨rfl, hf1⟩

theorem mark_cells : Lib.strCells (⟨#[105, 113, 106, 49]⟩ : ByteArray) = mk4.map bv := by rfl
theorem grown_nil {w w1 : World} (h : w.grownBy w1 (Value.slice none 0 0).ownBlock) : Fresh w w1 := below_of_grown h (Nat.le_refl _) (fun k hk => by cases hk)
theorem nos_ok {l : List Wp} (h : right (l.map Wp.pg) = true) {s : Wp} (hs : s ∈ l) : (0 ≤ s.no ∧ s.no < 16777216) ∧ s.bs.length = 512 := by
  obtain ⟨h1, _, h3⟩ := right_all h
  exact ⟨rise_fit h3 s.no (List.mem_map.2 ⟨s.pg, List.mem_map.2 ⟨s, hs, rfl⟩, rfl⟩), h1 s.pg (List.mem_map.2 ⟨s, hs, rfl⟩)⟩
theorem body_snoc (l : List Wp) (k : Nat) (s : Wp) (hs : l[k]? = some s) : body ((l.take (k + 1)).map Wp.pg) = body ((l.take k).map Wp.pg) ++ (low 4 (u64 s.no) ++ s.bs) := by
  rw [take_snoc _ _ _ hs, List.map_append, body, List.flatMap_append]
  simp [cell, body, Wp.pg]

set_option maxRecDepth 100000 in
theorem put_ok (A : Option Addr) (n c : Nat) (l : List Wp) (w : World) (h : WsAt w w.heap.size A n l) (hn : n ≤ 100) (hr : right (l.map Wp.pg) = true) (N : Nat) (hN : 12 + 516 * n = N) :
    Calls Tryz.prog 70 #[.slice A n c] w fun e w' => ∃ A' c', e = .returned (.tuple #[.slice A' N c', .int .i64 0]) ∧ Fresh w w' ∧ Own w' w.heap.size tB A' N c' ((batch (l.map Wp.pg)).map bv) := by
  obtain ⟨i0, hi0, hz0, hz1, hz2⟩ := info_parts word.byte_info
  have hl := h.1
  have HM := Lib.hid (may_any A n c l w _ h (Nat.le_refl _) _ hr)
  have HS := Lib.hid (fun W : World => size_nat n n W (by omega) rfl (N : Int) (by omega))
  have HNL := Lib.hid (fun W : World => number_any (n : Int) n W (by omega) rfl)
  have HH := Lib.hid (show head n = mk4 ++ low 4 n from rfl)
  have hbat : batch (l.map Wp.pg) = (head n ++ body (l.map Wp.pg)) ++ low 4 (crcnum.sum (head n ++ body (l.map Wp.pg))) := by
    show bat _ ++ _ = _
    unfold bat
    rw [List.length_map, hl]
  have HBAT := Lib.hid hbat
  have hslt := crcnum.sum_lt (head n ++ body (l.map Wp.pg))
  have HOK := Lib.hid (fun s (hs : s ∈ l) => nos_ok hr hs)
  have HL := Lib.hid hl
  have hN2 : N ≤ 65536 := by omega
  have HN := Lib.hid hN
  clear hbat hl hN hr
  go_enter Tryz.func70, Tryz.ntmps70
  go_wp2_with (first
    | (go_at_call 100; (refine HM.out.mono ?_); rintro e w1 ⟨rfl, hf1⟩; have HF1 := Lib.hid hf1; clear hf1)
    | (go_at_call 68; (refine (HS.out _).mono ?_); rintro e w2 ⟨rfl, rfl⟩)
    | (at_make; refine wpList_make_own _ rfl _ _ 32 rfl w.heap.size 5 i0 _ 1 Tryz.underlying32 hi0 hz0 hz1 _ _ _ N rfl rfl rfl (by rw [hz2]; omega) (by unfold maxLen; omega) HF1.out.size ?_; intro w3 hown3 hg3; have hf3 := HF1.out.trans (grown_nil hg3); have HF3 := Lib.hid hf3; have HO3 := Lib.hid hown3; clear hf3 hown3 hg3)
    | ((with_reducible refine at_slot_ 15 ?_); refine wpList_append_str _ rfl _ _ 32 9 rfl w.heap.size 5 i0 Tryz.underlying32 Tryz.underlying9 hi0 hz0 hz1 hz2 _ 0 _ _ rfl HO3.out _ rfl 4 rfl _ mark_cells (by omega) HF3.out.size ?_; intro A4 c4 w4 ho4 hg4; have hf4 : Fresh w w4 := HF3.out.append HO3.out (Nat.le_refl _) hg4; rw [Nat.zero_add, List.nil_append] at ho4; have HF4 := Lib.hid hf4; have HO4 := Lib.hid ho4; clear hf4 ho4 hg4)
    | (go_at_call 101; (refine (HNL.out _).mono ?_); rintro e w5 ⟨A5, c5, rfl, hf5, hr5⟩; have HF5 := Lib.hid (HF4.out.trans hf5); have HO5 := Lib.hid (Own.fresh HO4.out hf5); have HR5 := Lib.hid hr5; clear hf5 hr5)
    | ((with_reducible refine at_slot_ 20 ?_); refine wpList_append_rd _ rfl _ _ 32 rfl w.heap.size 5 i0 _ 1 Tryz.underlying32 hi0 hz0 hz1 hz2 rfl A4 4 c4 _ rfl HO5.out _ A5 4 c5 _ rfl HR5.out (bv_one _) (by unfold maxLen; omega) (by omega) HF5.out.size ?_; intro A6 c6 w6 ho6 hg6; have hf6 : Fresh w w6 := HF5.out.append HO5.out (Nat.le_refl _) hg6; rw [← List.map_append, ← HH.out] at ho6; have HF6 := Lib.hid hf6; have HO6 := Lib.hid ho6; clear hf6 ho6 hg6))
  go_loopw [4, 23] (fun v i wr => ∃ (k M cc : Nat) (AA : Option Addr), k ≤ n ∧ i = .int .i64 k ∧ Hid (M = 8 + 516 * k) ∧ v = .slice AA M cc ∧ Fresh w wr ∧ Own wr w.heap.size tB AA M cc ((head n ++ body ((l.take k).map Wp.pg)).map bv)) (fun _ i _ => n - (intOf i).toNat)
  case atStart => exact ⟨0, 8, c6, A6, by omega, rfl, rfl, rfl, HF6.out, by simpa [body] using HO6.out⟩
  case round =>
    obtain ⟨k, M, cc, AA, hk, rfl, hM, rfl, hfr, hown⟩ := hrel
    have hMb : M ≤ 100000 := by have := hM.out; omega
    by_cases hlt : k < n
    · obtain ⟨bb, off, s, rfl, hbb, hs, hrow, hrd, hok⟩ := (h.below hfr (Nat.le_refl _)).at_ hlt
      obtain ⟨hno, hlen⟩ := HOK.out s (List.mem_of_getElem? hs)
      have HBS := Lib.hid (body_snoc l k s hs)
      obtain ⟨no, sA, sn, sc, sbs⟩ := s
      simp only at hno hlen hrd
      obtain ⟨a, rfl⟩ := Int.eq_ofNat_of_zero_le hno.1
      have hsn := Rd.len8 hrd
      have hsn2 : sn = 512 := by omega
      subst hsn2
      have hu : u64 (a : Int) = a := by unfold u64; omega
      have hRG : Hid (wr.rangeAt bb (off + k * 2) [.int .i64 a, .slice sA 512 sc]) := Lib.hid hrow
      have hij : (k : Int) < (n : Int) := by omega
      have hfA := Fresh.alloc wr (.cells #[.int .i64 a, .slice sA 512 sc] tWrite)
      have HBK := Lib.hid (Bk.made wr tWrite #[.int .i64 a, .slice sA 512 sc])
      have HNA := Lib.hid (fun W : World => number_any (a : Int) a W (by omega) rfl)
      have hF0 := hfr.trans hfA
      have HF0 := Lib.hid hF0
      have HO0 := Lib.hid (Own.fresh hown hfA)
      have HR0 := Lib.hid (hrd.below hfA hfr.size)
      have HFR := Lib.hid hfr
      clear hrow hs hok hrd hfA hlen hsn hown hno hF0 hfr
      go_wp2_with (first
        | ((with_reducible (refine at_slot_ 26 ?_)); refine wpList_load_mid rfl tWrite (.tmp 25) rfl bb (off + k * 2) rfl [.int .i64 a, .slice sA 512 sc] _ hRG.out Tryz.underlying105 rfl size_write ?_)
        | (go_at_call 101; (refine (HNA.out _).mono ?_); rintro e w5 ⟨A5, c5, rfl, hf5, hr5⟩; have HFa := Lib.hid (HF0.out.trans hf5); have HOa := Lib.hid (Own.fresh HO0.out hf5); have HRa := Lib.hid hr5; have HSa := Lib.hid (HR0.out.below hf5 HF0.out.size); have hbk := HBK.out.fresh hf5; have hc1 := hbk.cell (i := 1) rfl; have HBa := Lib.hid hbk; clear hf5 hr5 hbk)
        | ((with_reducible refine at_slot_ 31 ?_); refine wpList_append_rd _ rfl _ _ 32 rfl w.heap.size 5 i0 _ 1 Tryz.underlying32 hi0 hz0 hz1 hz2 rfl AA M cc _ rfl HOa.out _ A5 4 c5 _ rfl HRa.out (bv_one _) (by unfold maxLen; omega) (by omega) HFa.out.size ?_; intro A6 c6 w6 ho6 hg6; have hf6 : Fresh w w6 := HFa.out.append HOa.out (Nat.le_refl _) hg6; rw [← List.map_append] at ho6; have HFb := Lib.hid hf6; have HOb := Lib.hid ho6; have hbk6 := HBa.out.grown hg6 (HOa.out.ne_block HBa.out (by decide)); have hc2 := hbk6.cell (i := 1) rfl; have HSb := Lib.hid (HSa.out.below (B' := w.heap.size) (below_of_grown hg6 HFa.out.size (fun q hq => (HOa.out.row q hq))) (Nat.le_refl _)); clear hf6 ho6 hg6 hbk6)
        | ((with_reducible refine at_slot_ 35 ?_); refine wpList_append_rd _ rfl _ _ 32 rfl w.heap.size 5 i0 _ 1 Tryz.underlying32 hi0 hz0 hz1 hz2 rfl A6 (M + 4) c6 _ rfl HOb.out _ sA 512 sc _ rfl HSb.out (bv_one _) (by unfold maxLen; omega) (by omega) HFb.out.size ?_; intro A7 c7 w7 ho7 hg7; have hf7 : Fresh w w7 := HFb.out.append HOb.out (Nat.le_refl _) hg7; rw [← List.map_append] at ho7; have HFc := Lib.hid hf7; have HOc := Lib.hid ho7; clear hf7 ho7 hg7))
      go_roundw
      case rel =>
        refine ⟨k + 1, M + 4 + 512, c7, A7, by omega, by go_num, ?_, rfl, HFc.out, ?_⟩
        · show _ = _
          rw [hM.out]; omega
        · have := HBS.out
          simp only [hu] at this
          rw [this, ← List.append_assoc, ← List.append_assoc]
          exact HOc.out
      case measure => simp [intOf]; omega
    · have h0 : k = n := by omega
      subst h0
      rw [List.take_of_length_le (by have := HL.out; omega)] at hown
      have hM2 : M + 4 = N := by have := hM.out; have := HN.out; omega
      have HSU := Lib.hid (sum_any AA M cc _ wr _ _ hown.rd (Nat.le_refl _) (by omega) rfl)
      generalize hS : crcnum.sum (head k ++ body (l.map Wp.pg)) = S at *
      have HO := Lib.hid hown
      have HF := Lib.hid hfr
      have HM2 := Lib.hid hM2
      clear hown hfr hM2
      go_wp2_with (first
        | (go_at_call 102; (refine HSU.out.mono ?_); rintro e w8 ⟨A8, c8, rfl, hf8, hr8⟩; have HF8 := Lib.hid (HF.out.trans hf8); have HO8 := Lib.hid (Own.fresh HO.out hf8); have HR8 := Lib.hid hr8; clear hf8 hr8)
        | ((with_reducible refine at_slot_ 40 ?_); refine wpList_append_rd _ rfl _ _ 32 rfl w.heap.size 5 i0 _ 1 Tryz.underlying32 hi0 hz0 hz1 hz2 rfl AA M cc _ rfl HO8.out _ A8 4 c8 _ rfl HR8.out (bv_one _) (by unfold maxLen; omega) (by omega) HF8.out.size ?_; intro A9 c9 w9 ho9 hg9; have hf9 : Fresh w w9 := HF8.out.append HO8.out (Nat.le_refl _) hg9; rw [← List.map_append, ← HBAT.out] at ho9; have HF9 := Lib.hid hf9; have HO9 := Lib.hid ho9; clear hf9 ho9 hg9))
      go_ret2
      refine ⟨A9, c9, ?_, HF9.out, ?_⟩
      · rw [← HM2.out]
        rfl
      · rw [← HM2.out]
        exact HO9.out
end Go.Proofs.YtcdehklcdipcfaaGreat.walp
