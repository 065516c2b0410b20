/-
  The walk of the law WordOrder. My own text.
-/
import Derived.Test.YtnhcolfldkaonaaPuts
import Derived.Test.YtnhcolfldkaonaaOpen
import Derived.Deep.DeepCutAuto
namespace Go.Proofs.Ytnhcolfldkaonaa.wordOrder
open Go.RowKit Go.Proofs.Ytnhcolfldkaonaa.base Go.Proofs.Ytnhcolfldkaonaa.num Go.Proofs.Ytnhcolfldkaonaa.word
set_option linter.unusedVariables false

theorem low_get (k u i : Nat) (x : UInt8) (h : (low k u)[i]? = some x) : x.toNat = u / 256 ^ i % 256 := by
  induction k generalizing u i with
  | zero => simp [low] at h
  | succ k ih =>
    rw [low] at h
    cases i with
    | zero =>
      simp only [List.getElem?_cons_zero, Option.some.injEq] at h
      rw [← h, ofNat_toNat _ (Nat.mod_lt _ (by omega))]
      simp
    | succ i =>
      rw [List.getElem?_cons_succ] at h
      rw [ih _ _ h, Nat.div_div_eq_div_mul, Nat.pow_succ, Nat.mul_comm 256]

/-- what is known when the places from k on are alike -/
def Alike (k a b : Nat) : Prop := (k ≤ 1 → a / 256 = b / 256) ∧ (k = 0 → a = b)

theorem alike_step {k a b : Nat} (ha : a < 65536) (hb : b < 65536) (h : Alike (k + 1) a b) (e : a / 256 ^ k % 256 = b / 256 ^ k % 256) : Alike k a b := by
  unfold Alike at *
  rcases k with _ | _ | k
  · simp at e h; constructor <;> intros <;> omega
  · simp at e; constructor <;> intros <;> omega
  · constructor <;> intros <;> omega

theorem alike_lt {k a b : Nat} (ha : a < 65536) (hb : b < 65536) (h : Alike (k + 1) a b) (e : a / 256 ^ k % 256 ≠ b / 256 ^ k % 256) : (a / 256 ^ k % 256 < b / 256 ^ k % 256) ↔ a < b := by
  unfold Alike at *
  rcases k with _ | _ | k
  · simp at e h ⊢; omega
  · simp at e ⊢; omega
  · have h1 : 65536 ≤ 256 ^ (k + 2) := by
      have := Nat.pow_le_pow_right (n := 256) (by omega) (show 2 ≤ k + 2 by omega)
      simpa using this
    rw [Nat.div_eq_of_lt (Nat.lt_of_lt_of_le ha h1), Nat.div_eq_of_lt (Nat.lt_of_lt_of_le hb h1)] at e
    exact absurd rfl e

theorem order_end {a b : Nat} (h : Alike 0 a b) : a = b := h.2 rfl

theorem wordOrder_walk (a0 : Int) (a1 : Int) (a2 : Int) (w : World) (w0 : (Lit.int .i64 a0).wf = true) (w1 : (Lit.int .u16 a1).wf = true) (w2 : (Lit.int .u16 a2).wf = true) :
    Calls Try.prog 8 #[.int .i64 a0, .int .u16 a1, .int .u16 a2] w fun e w' => e = .returned (.bool true) ∧ Below w.heap.size w w' := by
  have h1 : 0 ≤ a1 ∧ a1 ≤ 65535 := by simpa [Lit.wf, IntKind.min, IntKind.max, IntKind.signed, IntKind.bits] using w1
  have h2 : 0 ≤ a2 ∧ a2 ≤ 65535 := by simpa [Lit.wf, IntKind.min, IntKind.max, IntKind.signed, IntKind.bits] using w2
  obtain ⟨a, rfl⟩ := Int.eq_ofNat_of_zero_le h1.1
  obtain ⟨b, rfl⟩ := Int.eq_ofNat_of_zero_le h2.1
  clear w1 w2
  have hu : ∀ n : Nat, n ≤ 65535 → u64 (n : Int) = n := fun n h => by unfold u64; omega
  have HU := Lib.hid hu
  clear hu
  have hw := wide_bd a0
  go_enter Try.func8, Try.ntmps8
  go_upto_region 3 with (first
    | (go_at_call 9; refine (wakes_any _).mono ?_; rintro e wA ⟨rfl, hfA⟩))
  go_cut [7] (fun s7 wx => ∃ k : Nat, 2 ≤ k ∧ k ≤ 7 ∧ s7 = .int .i64 k ∧ Fresh w wx)
  case first =>
    go_wp2_with (go_at_call 16; refine (wide_any _ _).mono ?_; rintro e w' ⟨rfl, rfl⟩)
    all_goals go_meet
    · exact ⟨2, by omega, by omega, rfl, hfA⟩
    · exact ⟨wide a0, by omega, by omega, rfl, hfA⟩
  case rest =>
    obtain ⟨k, hk2, hk7, rfl, hfB⟩ := hcut
    have hwk : wide (k : Int) = k := by unfold wide; split <;> (try split) <;> omega
    have HK := Lib.hid hwk
    clear hwk
    have va : ∀ z ∈ [(a : Int)], (Lit.int .i64 z).wf = true := by intro z hz; rw [List.mem_singleton] at hz; subst hz; exact WalkArith.wf_i64 (by omega)
    have vb : ∀ z ∈ [(b : Int)], (Lit.int .i64 z).wf = true := by intro z hz; rw [List.mem_singleton] at hz; subst hz; exact WalkArith.wf_i64 (by omega)
    have VA := Lib.hid va
    have VB := Lib.hid vb
    clear va vb
    go_wp2_with (first
      | (go_at_call 10; (with_reducible refine (put_is none 0 0 [] k (some ⟨wc.heap.size, 0, none⟩) 1 1 [(a : Int)] _ 0 (wc.heap.size + 1) k (low k a) (Rd.nil _ _ _) (by simp) (Rd.lit wc #[.int .i64 (a : Int)] 3) (by simp) VA.out (by omega) (by omega) (by rw [HK.out]; omega) (by simp [puts, HK.out, HU.out a (by omega)])).mono ?_); rintro e w1 ⟨A1, c1, rfl, hf1, ho1⟩)
      | (go_at_call 10; (with_reducible refine (put_is none 0 0 [] k (some ⟨w1.heap.size, 0, none⟩) 1 1 [(b : Int)] _ 0 (w1.heap.size + 1) k (low k b) (Rd.nil _ _ _) (by simp) (Rd.lit w1 #[.int .i64 (b : Int)] 3) (by simp) VB.out (by omega) (by omega) (by rw [HK.out]; omega) (by simp [puts, HK.out, HU.out b (by omega)])).mono ?_); rintro e w2 ⟨A2, c2, rfl, hf2, ho2⟩))
    have hrx := (Own.fresh ho1 ((Fresh.alloc _ _).trans hf2)).rd
    have hry := ho2.rd
    have hfC : Fresh w w2 := (((hfB.trans (Fresh.alloc _ _)).trans hf1).trans (Fresh.alloc _ _)).trans hf2
    clear hf1 hf2 ho1 ho2 VA VB
    go_loopw [10] (fun i wr => ∃ (j q : Nat), j ≤ k ∧ i = .int .i64 ((j : Int) - 1) ∧ Alike j a b ∧ wr = w2.drewN q) (fun i _ => (intOf i + 1).toNat)
    case atStart => exact ⟨k, 0, by omega, rfl, by unfold Alike; constructor <;> intros <;> omega, rfl⟩
    case round =>
      obtain ⟨j, q, hj, rfl, hal, rfl⟩ := hrel
      by_cases h0 : 0 < j
      · obtain ⟨i, rfl⟩ : ∃ i, j = i + 1 := ⟨j - 1, by omega⟩
        obtain ⟨p, off, x, rfl, hb, hx, hcx⟩ := hrx.at_ (k := i) (by omega)
        obtain ⟨p', off', y, rfl, hb', hy, hcy⟩ := hry.at_ (k := i) (by omega)
        have ex := low_get _ _ _ _ hx
        have ey := low_get _ _ _ _ hy
        by_cases hne : x = y
        · subst hne
          have hal2 : Alike i a b := alike_step (by omega) (by omega) hal (by rw [← ex, ← ey])
          clear ex ey hx hy hal hrx hry
          go_wp2
          go_quiet (fail)
          go_wp2
          go_roundw
          case rel => exact ⟨i, _, by omega, by go_num, hal2, rfl⟩
          case measure => simp [intOf]
        · have hn2 : x.toNat ≠ y.toNat := fun h => hne (UInt8.toNat_inj.1 h)
          have hlt : x.toNat < y.toNat ↔ a < b := by rw [ex, ey]; exact alike_lt (by omega) (by omega) hal (by rw [← ex, ← ey]; exact hn2)
          have hd : (decide (x.toNat < y.toNat) == decide (a < b)) = true := by
            rw [beq_iff_eq, decide_eq_decide]; omega
          have HD := Lib.hid hd
          clear hd
          have hn3 : ((x.toNat : Int) != (y.toNat : Int)) = true := by rw [bne_iff_ne]; omega
          clear ex ey hx hy hal hrx hry hne hn2 hlt
          go_wp2
          go_quiet (fail)
          go_wp2
          go_quiet (fail)
          go_wp2
          go_ret
          exact ⟨congrArg (fun v => Ending.returned (.bool v)) HD.out, ((hfC.trans (Fresh.drewN _ _)).trans (Fresh.drewN _ _)).trans (Fresh.drewN _ _)⟩
      · have hj0 : j = 0 := by omega
        subst hj0
        have he : ((a : Int) == (b : Int)) = true := by rw [beq_iff_eq, order_end hal]
        clear hal
        go_wp2
        go_ret
        exact ⟨rfl, hfC.trans (Fresh.drewN _ _)⟩

end Go.Proofs.Ytnhcolfldkaonaa.wordOrder
