import Derived.Test.YtppgceighgpgoaaGreatDoorInfLaw
import Derived.Laws.DeepNot64
/-
  Bytes that are only stored: the contracts of storedBlock, stored, and of the reference's Stored. My own text.
-/
namespace Go.Proofs.YtppgceighgpgoaaGreatDoor.defp
open Go.RowKit Go.Proofs.YtppgceighgpgoaaGreatDoor.base Go.Proofs.YtppgceighgpgoaaGreatDoor.num Go.Proofs.YtppgceighgpgoaaGreatDoor.bitnum Go.Proofs.YtppgceighgpgoaaGreatDoor.bitp Go.Proofs.YtppgceighgpgoaaGreatDoor.infp
set_option linter.unusedVariables false

/-- how a byte stands as a value -/
theorem bv_ofNat (k : Nat) (h : k < 256) : bv (UInt8.ofNat k) = .int .u8 (k : Nat) := by
  show Value.int .u8 (((UInt8.ofNat k).toNat : Nat) : Int) = _
  rw [UInt8.toNat_ofNat_of_lt' (by show k < 256; exact h)]
theorem ahead_is (last : Bool) (n : Nat) (u a b c d : Int) (hn : n < 65536) (hu : u = if last then 1 else 0) (ha : a = (n % 256 : Nat)) (hb : b = (n / 256 : Nat)) (hc : c = (255 - n % 256 : Nat)) (hd : d = (255 - n / 256 : Nat)) :
    (infnum.ahead last n).map bv = [.int .u8 u, .int .u8 a, .int .u8 b, .int .u8 c, .int .u8 d] := by
  subst hu; subst ha; subst hb; subst hc; subst hd
  unfold infnum.ahead
  simp only [List.map_cons, List.map_nil]
  rw [bv_ofNat (n % 256) (by omega), bv_ofNat (n / 256) (by omega), bv_ofNat (255 - n % 256) (by omega), bv_ofNat (255 - n / 256) (by omega)]
  cases last <;> rfl
theorem ahead_rd (w : World) (last : Bool) (n : Nat) (u a b c d : Int) (hn : n < 65536) (hu : u = if last then 1 else 0) (ha : a = (n % 256 : Nat)) (hb : b = (n / 256 : Nat)) (hc : c = (255 - n % 256 : Nat)) (hd : d = (255 - n / 256 : Nat)) :
    Rd (w.alloc (.cells #[.int .u8 u, .int .u8 a, .int .u8 b, .int .u8 c, .int .u8 d] 5)) (w.heap.size + 1) (some ⟨w.heap.size, 0, none⟩) 5 ((infnum.ahead last n).map bv) := by
  rw [ahead_is last n u a b c d hn hu ha hb hc hd]
  exact Rd.lit w #[.int .u8 u, .int .u8 a, .int .u8 b, .int .u8 c, .int .u8 d] 5
/-- blocks of 65535 bytes, and a last one -/
def chop : Nat → List UInt8 → List UInt8
  | 0, xs => infnum.stored true xs
  | k + 1, xs => if 65535 < xs.length then infnum.stored false (xs.take 65535) ++ chop k (xs.drop 65535) else infnum.stored true xs
theorem chop_big (k : Nat) {xs : List UInt8} (h : 65535 < xs.length) : chop (k + 1) xs = infnum.stored false (xs.take 65535) ++ chop k (xs.drop 65535) := by
  rw [chop, if_pos h]
theorem chop_small (k : Nat) {xs : List UInt8} (h : ¬ 65535 < xs.length) : chop k xs = infnum.stored true xs := by
  cases k with
  | zero => rfl
  | succ k => rw [chop, if_neg h]
theorem chop_len : ∀ (k : Nat) (xs : List UInt8), (chop k xs).length ≤ xs.length + 5 * k + 5
  | 0, xs => by simp [chop, infnum.stored, infnum.ahead] <;> omega
  | k + 1, xs => by
    by_cases h : 65535 < xs.length
    · rw [chop_big k h]
      have := chop_len k (xs.drop 65535)
      rw [List.length_drop] at this
      simp only [infnum.stored, infnum.ahead, List.length_append, List.length_cons, List.length_nil, List.length_take]
      omega
    · rw [chop_small _ h]; simp [infnum.stored, infnum.ahead] <;> omega
theorem Rd.later {w0 w w' : World} {B n : Nat} {A : Option Addr} {xs : List Value} (h : Rd w B A n xs) (hB : B ≤ w0.heap.size) (hf : Fresh w0 w) (hf' : Fresh w0 w') : Rd w' B A n xs :=
  h.keep fun k hk => (hf'.block k (by omega)).trans (hf.block k (by omega)).symm
theorem rd_first {w : World} {B n m : Nat} {A : Option Addr} {xs : List Value} (h : Rd w B A n xs) (hm : m ≤ n) : Rd w B A m (xs.take m) := by
  refine ⟨by rw [List.length_take, h.1]; omega, fun h0 => ?_⟩
  obtain ⟨b, off, e, hb, hc⟩ := h.2 (by omega)
  refine ⟨b, off, e, hb, fun j u hu => hc j u ?_⟩
  rw [List.getElem?_take] at hu
  split at hu
  · exact hu
  · cases hu
set_option maxRecDepth 100000 in
set_option maxHeartbeats 4000000 in
theorem block_any (w0 w : World) (A : Option Addr) (n c : Nat) (xs : List UInt8) (last : Bool) (u : Int) (D : Option Addr) (m d : Nat) (bs : List UInt8) (B : Nat)
    (hu : u = if last then 1 else 0) (hf : Fresh w0 w) (ho : Own w w0.heap.size 5 A n c (xs.map bv)) (hr : Rd w B D m (bs.map bv)) (hB : B ≤ w0.heap.size) (hm : m ≤ 65535) (hn : n ≤ 1073741824) :
    Calls Tryz.prog 22 #[.slice A n c, .int .u8 u, .slice D m d] w fun e w' => ∃ A1 c1, e = .returned (.slice A1 (n + 5 + m) c1) ∧ Own w' w0.heap.size 5 A1 (n + 5 + m) c1 ((xs ++ infnum.stored last bs).map bv) ∧ Fresh w0 w' := by
  obtain ⟨i0, hi0, hz0, hz1, hz2⟩ := info_parts info_byte
  have hl : bs.length = m := by have := hr.1; rwa [List.length_map] at this
  have hnot := i64_not m (by omega)
  have hlit := ahead_rd w last m u ((m : Int) % 256) ((m : Int) / 256) (bits .xor .i64 (-1) (m : Int) % 256) (bits .xor .i64 (-1) (m : Int) / 256 % 256) (by omega) hu (by omega) (by omega) (by rw [hnot]; omega) (by rw [hnot]; omega)
  have hrr : ∀ W, Fresh w0 W → Rd W B D m (bs.map bv) := fun W h => Rd.later hr hB hf h
  have HRR := Lib.hid hrr
  have HL := Lib.hid hl
  have HLIT := Lib.hid hlit
  have hoL := fun o : Obj => Own.fresh ho (Fresh.alloc w o)
  have hfL := fun o : Obj => hf.trans (Fresh.alloc w o)
  have HOL := Lib.hid hoL
  have HFL := Lib.hid hfL
  have hsz := hf.size
  clear hrr hl hlit hnot hr ho hoL hfL hf hu
  go_enter Tryz.func22, Tryz.ntmps22
  go_wp2_with (first
    | (at_builtin; refine wpList_append_rdx _ rfl (.tmp 10) (.tmp 24) 24 rfl w0.heap.size 5 i0 _ 1 Tryz.underlying24 hi0 hz0 hz1 hz2 rfl A n c (xs.map bv) rfl (HOL.out _) (w.heap.size + 1) (some ⟨w.heap.size, 0, none⟩) 5 5 ((infnum.ahead last m).map bv) rfl HLIT.out (bv_one _) (by unfold maxLen; omega) (by omega) (by simp; omega) ?_; intro A1 c1 w1 ho1 hg1 hw1; have hf1 := (HFL.out _).append (HOL.out _) (Nat.le_refl _) hg1; rw [← List.map_append] at ho1; clear hg1 hw1)
    | (at_builtin; refine wpList_append_rdx _ rfl (.tmp 26) (.tmp 27) 24 rfl w0.heap.size 5 i0 _ 1 Tryz.underlying24 hi0 hz0 hz1 hz2 rfl A1 (n + 5) c1 _ rfl ho1 B D m d (bs.map bv) rfl (HRR.out _ hf1) (bv_one bs) (by unfold maxLen; omega) (by omega) hf1.size ?_; intro A2 c2 w2 ho2 hg2 hw2; have hf2 := hf1.append ho1 (Nat.le_refl _) hg2; rw [← List.map_append] at ho2))
  go_ret
  have e : xs ++ infnum.stored last bs = xs ++ infnum.ahead last m ++ bs := by rw [infnum.stored, HL.out, List.append_assoc]
  rw [← e] at ho2
  first
    | exact ⟨A2, c2, rfl, ho2, hf2⟩
    | exact ⟨A2, c2, rfl, by rw [← List.map_append]; exact ho2, hf2⟩
set_option maxRecDepth 100000 in
set_option maxHeartbeats 4000000 in
theorem stored_any (A : Option Addr) (n c : Nat) (bs : List UInt8) (w : World) (B : Nat) (hr : Rd w B A n (bs.map bv)) (hB : B ≤ w.heap.size) (hn : n ≤ 16777216) (hc : n ≤ c) (hcm : c ≤ maxLen) :
    Calls Tryz.prog 11 #[.slice A n c] w fun e w' => ∃ A1 m c1, e = .returned (.slice A1 m c1) ∧ (chop n bs).length = m ∧ Own w' w.heap.size 5 A1 m c1 ((chop n bs).map bv) ∧ Fresh w w' := by
  have hl : bs.length = n := by have := hr.1; rwa [List.length_map] at this
  obtain ⟨T, hT⟩ : ∃ T, chop n bs = T := ⟨_, rfl⟩
  have hTl : T.length ≤ 6 * n + 5 := by rw [← hT]; have := chop_len n bs; omega
  rw [hT]
  have HR := Lib.hid hr
  have HT := Lib.hid hT
  have HL := Lib.hid hl
  clear hr hT hl
  go_enter Tryz.func11, Tryz.ntmps11
  go_wp2
  go_loopw [0, 3] (fun vb vo wr => ∃ (A : Option Addr) (n' c' : Nat) (D : Option Addr) (m d k : Nat) (cur out : List UInt8), vb = .slice A n' c' ∧ vo = .slice D m d ∧ n' ≤ n ∧ n' ≤ c' ∧ Hid (c' ≤ maxLen) ∧ Rd wr B A n' (cur.map bv) ∧ Hid (out ++ chop k cur = T) ∧ Hid (n' ≤ 65535 * (k + 1)) ∧ Own wr w.heap.size 5 D m d (out.map bv) ∧ Fresh w wr) (fun vb _ _ => lenOf vb)
  case atStart => exact ⟨A, n, c, none, 0, 0, n, bs, [], rfl, rfl, Nat.le_refl _, hc, hcm, HR.out, HT.out, (by show _ ≤ _; omega), Own.nil _ _ _, Fresh.refl _⟩
  case round =>
    obtain ⟨A, n', c', D, m, d, k, cur, out, rfl, rfl, hn', hc', hcm', hrd, hout, hk, hown, hfr⟩ := hrel
    have hcl : cur.length = n' := by have := hrd.1; rwa [List.length_map] at this
    have hm : m ≤ T.length := by
      have h1 := hown.1
      rw [List.length_map, Nat.mul_one] at h1
      have h2 := congrArg List.length hout.out
      rw [List.length_append] at h2
      omega
    have hcm2 := hcm'.out
    unfold maxLen at hcm2
    have HCL := Lib.hid hcl
    have HRD := Lib.hid hrd
    clear hcl hrd
    by_cases hbig : 65535 < n'
    · have hne : ¬ c' = 65535 := by omega
      have hf1 : Rd wr B A 65535 ((cur.take 65535).map bv) := by
        have := rd_first HRD.out (m := 65535) (by omega)
        rwa [← List.map_take] at this
      have hb := block_any w wr D m d out false 0 A 65535 c' (cur.take 65535) B rfl hfr hown hf1 hB (by omega) (by omega)
      have HFR := Lib.hid hfr
      clear hown hf1 hfr
      go_wp2_with (go_at_call 22; (with_reducible refine hb.mono ?_); rintro e w2 ⟨A1, c1, rfl, ho2, hf2⟩)
      have hcut := (Rd.later HRD.out hB HFR.out hf2).cut (lo := 65535) (hi := n') (cap := c') (by omega) (by omega) hc'
      rw [if_neg hne] at hcut
      have hcur : (((cur.map bv).drop 65535).take (n' - 65535)) = (cur.drop 65535).map bv := by
        rw [← List.map_drop, List.take_of_length_le (by rw [List.length_map, List.length_drop, HCL.out]; omega)]
      rw [hcur] at hcut
      obtain ⟨k', rfl⟩ : ∃ k', k = k' + 1 := ⟨k - 1, by have := hk.out; omega⟩
      have hout2 : (out ++ infnum.stored false (cur.take 65535)) ++ chop k' (cur.drop 65535) = T := by
        have := hout.out
        rw [chop_big k' (by rw [HCL.out]; exact hbig), ← List.append_assoc] at this
        exact this
      have HOUT := Lib.hid hout2
      have hk2 : n' - 65535 ≤ 65535 * (k' + 1) := by have := hk.out; omega
      have HK2 := Lib.hid hk2
      clear hout2 hb hk2 hk hout
      go_roundw
      case rel => exact ⟨_, n' - 65535, c' - 65535, A1, m + 5 + 65535, c1, k', cur.drop 65535, _, rfl, rfl, by omega, by omega, by show _ ≤ _; unfold maxLen; omega, hcut, HOUT.out, HK2.out, ho2, hf2⟩
      case measure => simp [lenOf]; omega
    · have hb := block_any w wr D m d out true 1 A n' c' cur B rfl hfr hown HRD.out hB (by omega) (by omega)
      have hout2 : out ++ infnum.stored true cur = T := by
        have := hout.out
        rwa [chop_small k (by rw [HCL.out]; exact hbig)] at this
      rw [hout2] at hb
      have HOUT := Lib.hid hout2
      clear hout2 hown
      go_wp2_with (go_at_call 22; (with_reducible refine hb.mono ?_); rintro e w2 ⟨A1, c1, rfl, ho2, hf2⟩)
      go_ret
      have hTl2 : T.length = m + 5 + n' := by have := ho2.1; rw [List.length_map, Nat.mul_one] at this; exact this
      exact ⟨A1, m + 5 + n', c1, rfl, hTl2, ho2, hf2⟩
set_option maxRecDepth 100000 in
theorem pack_stored (A : Option Addr) (n c : Nat) (bs : List UInt8) (w : World) (B : Nat) (hr : Rd w B A n (bs.map bv)) (hB : B ≤ w.heap.size) (hn : n ≤ 16777216) (hc : n ≤ c) (hcm : c ≤ maxLen) :
    Calls Tryz.prog 6 #[.slice A n c, .int .i64 0] w fun e w' => ∃ A1 m c1, e = .returned (.tuple #[.slice A1 m c1, .int .i64 0]) ∧ (chop n bs).length = m ∧ Own w' w.heap.size 5 A1 m c1 ((chop n bs).map bv) ∧ Fresh w w' := by
  have hs := stored_any A n c bs w B hr hB hn hc hcm
  clear hr
  go_enter Tryz.func6, Tryz.ntmps6
  go_wp2_with (go_at_call 11; (with_reducible refine hs.mono ?_); rintro e w2 ⟨A1, m, c1, rfl, hl, ho, hf⟩)
  go_ret2
  exact ⟨A1, m, c1, rfl, hl, ho, hf⟩
end Go.Proofs.YtppgceighgpgoaaGreatDoor.defp
