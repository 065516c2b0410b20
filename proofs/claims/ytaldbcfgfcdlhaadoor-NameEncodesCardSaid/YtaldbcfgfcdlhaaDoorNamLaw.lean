/-
  What the laws of layer 9 share: wakes, Same, the conversions that are guarded. My own text.
-/
import Derived.Test.YtaldbcfgfcdlhaaDoorNamMay
namespace Go.Proofs.YtaldbcfgfcdlhaaDoor.namp
open Go.RowKit Go.Proofs.YtaldbcfgfcdlhaaDoor.base Go.Proofs.YtaldbcfgfcdlhaaDoor.nam
set_option linter.unusedVariables false

theorem same9 (A D : Option Addr) (n c d : Nat) (xs : List UInt8) (w : World) (B B' : Nat) (ha : Rd w B A n (xs.map bv)) (hd : Rd w B' D n (xs.map bv)) (hn : n ≤ maxLen) :
    Calls Tryd.prog 12 #[.slice A n c, .slice D n d] w fun e w' => e = .returned (.bool true) ∧ Fresh w w' := by
  unfold maxLen at hn
  go_enter Tryd.func12, Tryd.ntmps12
  go_wp2
  go_loopw [5] (fun i wr => ∃ (k q : Nat), k ≤ n ∧ i = .int .i64 k ∧ wr = w.drewN q) (fun i _ => n - (intOf i).toNat)
  case atStart => exact ⟨0, 0, by omega, rfl, rfl⟩
  case round =>
    obtain ⟨k, q, hk, rfl, rfl⟩ := hrel
    by_cases hlt : k < n
    · obtain ⟨b, off, x, rfl, hb, hx, hcx⟩ := ha.at_ hlt
      obtain ⟨b', off', x', rfl, hb', hx', hcx'⟩ := hd.at_ hlt
      have e : x = x' := by rw [hx] at hx'; injection hx'
      subst e
      clear hx hx' ha hd
      go_wp2
      go_quiet (fail)
      go_wp2
      go_roundw
      case rel => exact ⟨k + 1, _, by omega, by go_num, rfl⟩
      case measure => simp [intOf]; omega
    · go_wp2
      go_ret
      exact ⟨rfl, Fresh.drewN _ _⟩
theorem same_of (A D : Option Addr) (n m c d : Nat) (xs : List UInt8) (w : World) (B B' : Nat) (ha : Rd w B A n (xs.map bv)) (hd : Rd w B' D m (xs.map bv)) (hn : n ≤ maxLen) :
    Calls Tryd.prog 12 #[.slice A n c, .slice D m d] w fun e w' => e = .returned (.bool true) ∧ Fresh w w' := by
  have h1 := ha.1
  have h2 := hd.1
  have e : n = m := by rw [← h1, ← h2]
  subst e
  exact same9 A D n c d xs w B B' ha hd hn

theorem page_233 : pageB 233 = some 130 := by decide +kernel
set_option maxRecDepth 100000 in
theorem wakes_any (w : World) (hU : Laid w) : Calls Tryd.prog 7 #[] w fun e w' => e = .returned (.bool true) ∧ Fresh w w' := by
  have hb : encB [233] [] = [130] := by rw [encB, if_pos ⟨rfl, by simp [hasB, page_233]⟩]; simp [bR9, page_233]
  have ht : encT [233] [] = false := by simp [encT, hasB, page_233]
  have he : ∀ W, Laid W → Calls Tryd.prog 10 #[.string ⟨#[195, 169]⟩] W fun e w' => ∃ b off c, e = .returned (.tuple #[.slice (some ⟨b, off, none⟩) 1 c, .bool false]) ∧ Fresh W w' ∧ w'.cell? ⟨b, off, none⟩ = some (.int .u8 130) := by
    intro W hW
    refine (encode_any ⟨#[195, 169]⟩ [233] [] (by simp [tx, en]) (by intro r hr; simp at hr; subst hr; unfold Rn; omega) (Or.inl rfl) W (by show 2 ≤ 4294967296; omega) hW).mono ?_
    rintro e w' ⟨A, n, c, rfl, hn, hnc, hcm, hf, hr⟩
    rw [hb] at hr hn
    rw [ht]
    simp only [List.length_cons, List.length_nil] at hn
    subst hn
    obtain ⟨b, off, x, rfl, hbB, hx, hc⟩ := hr.at_ (k := 0) (by omega)
    simp at hx
    subst hx
    exact ⟨b, off, c, rfl, hf, hc⟩
  have HE := Lib.hid he
  have HU := Lib.hid hU
  clear hb ht he hU
  go_enter Tryd.func7, Tryd.ntmps7
  go_wp2_with (go_at_call 10; (refine (HE.out _ HU.out).mono ?_); rintro e w1 ⟨b, off, c, rfl, hf1, hc1⟩)
  go_ret
  exact ⟨rfl, hf1⟩

section
variable {P : Program} {w : World} {ops : Array Oper} {rest : List Oper} {o : Oper} {a : Act} {Q : Exit → Act → World → Prop}
/-- []byte(text), guarded, where the guard holds -/
theorem wpList_bytes_of_if (hgd : Region.wanted o (yielded ops a.tmps) = true) (src dst e : TypeId) (x : Operand) (ho : o.op = .convert src dst x) (hs : P.underlying src = some .string) (hd : P.underlying dst = some (.slice e)) (he : P.underlying e = some (.int .u8))
    (s : ByteArray) (hx : a.eval x = .string s) (l : List UInt8) (hl : s.data.toList = l) (n : Nat) (hn : l.length = n) (hm : n ≤ maxLen)
    (h : ∀ A c w', Fresh w w' → Rd w' w'.heap.size A n (l.map bv) → n ≤ c → c ≤ maxLen → wpList P ops Q rest (a.put o.dst (.slice A n c)) w') : wpList P ops Q (o :: rest) a w := by
  have key := wpList_bytes_of (P := P) (w := w) (ops := ops) (rest := rest) (o := { o with guard := none }) (a := a) (Q := Q) rfl src dst e x ho hs hd he s hx l hl n hn hm h
  refine wpList_step fun K hK => ?_
  rw [if_pos hgd]
  have hsz : s.size = n := by rw [← hn, ← hl]; exact (Array.length_toList (xs := s.data)).symm
  have hrun := run_bytes_of_string (P := P) w src dst e s hs hd he
  rw [hsz] at hrun
  unfold Oper.wp execOp
  simp only [ho, hx, Sem.run_bind, hrun, Result.andThen_ok]
  have hf : Fresh w (w.drew.alloc (.cells (bytesRow s (grownCap w n 0 e)) e ((bytesRow s (grownCap w n 0 e)).size, (bytesRow s (grownCap w n 0 e)).size + 1))) := (Fresh.drew w).trans (Fresh.alloc _ _)
  refine hK _ _ (h _ _ _ hf ⟨by rw [List.length_map, hn], fun hpos => ⟨w.heap.size, 0, rfl, by simp, fun j u hu => ?_⟩⟩ ?_ ?_)
  · rw [Nat.zero_add]
    have hj : j < s.data.size := by
      have := (List.getElem?_eq_some_iff.1 hu).1
      rw [List.length_map] at this
      rw [← hl] at this
      rwa [Array.length_toList] at this
    have hcell := cell_of_row (w.drew.alloc (.cells (bytesRow s (grownCap w n 0 e)) e ((bytesRow s (grownCap w n 0 e)).size, (bytesRow s (grownCap w n 0 e)).size + 1))) w.heap.size j _ e _ (heap_alloc_new w.drew _)
    rw [hcell, bytesRow_at s _ j hj, ← hu, ← hl, List.getElem?_map, List.getElem?_eq_getElem (by simpa using hj)]
    simp
  · exact grownCap_ge w n 0 e
  · exact grownCap_le_maxLen w n 0 e hm
/-- []rune(text), guarded, where the guard holds: how many they are -/
theorem wpList_runes_if (hgd : Region.wanted o (yielded ops a.tmps) = true) (src dst e : TypeId) (x : Operand) (ho : o.op = .convert src dst x) (hs : P.underlying src = some .string) (hd : P.underlying dst = some (.slice e)) (he : P.underlying e = some (.int .i32))
    (s : ByteArray) (hx : a.eval x = .string s) (n : Nat) (hn : (Conv.runesFrom s s.size 0 #[]).size = n) (hm : n ≤ 70368744177664)
    (h : ∀ A c w', Fresh w w' → wpList P ops Q rest (a.put o.dst (.slice A n c)) w') : wpList P ops Q (o :: rest) a w := by
  refine wpList_step fun K hK => ?_
  rw [if_pos hgd]
  have hrun := run_runes_of_string (P := P) w src dst e s hs hd he (by omega)
  rw [hn] at hrun
  unfold Oper.wp execOp
  simp only [ho, hx, Sem.run_bind, hrun, Result.andThen_ok]
  exact hK _ _ (h _ _ _ ((Fresh.drew w).trans (Fresh.alloc _ _)))
end
theorem runes_from (s : ByteArray) : ∀ (rest done : List Nat) (bound : Nat) (acc : Array Value), s.data.toList = tx (done ++ rest) → (∀ r ∈ rest, Rn r) → rest.length ≤ bound → (Conv.runesFrom s bound (tx done).length acc).size = acc.size + rest.length
  | [], done, bound, acc, hs, hr, hb => by
    have hend := decode_end (s := s) (done := done) (by rw [hs, List.append_nil])
    cases bound with
    | zero => rfl
    | succ k => rw [Conv.runesFrom, if_neg hend]; rfl
  | r :: rest, done, 0, acc, hs, hr, hb => by simp at hb
  | r :: rest, done, k + 1, acc, hs, hr, hb => by
    have hd := decode_rune (u := []) (s := s) (done := done) (rest := rest) (r := r) (by rw [hs, List.append_nil]) (hr r (.head _))
    rw [Conv.runesFrom, if_pos hd.2.1, hd.1]
    simp only
    rw [hd.2.2, runes_from s rest (done ++ [r]) k _ (by rw [hs]; simp) (fun x hx => hr x (.tail _ hx)) (by simp at hb; omega)]
    simp
    omega
theorem runes_count (s : ByteArray) (rs : List Nat) (hs : s.data.toList = tx rs) (hr : ∀ r ∈ rs, Rn r) : (Conv.runesFrom s s.size 0 #[]).size = rs.length := by
  have h := runes_from s rs [] s.size #[] (by rw [hs]; rfl) hr (by
    have h1 := tx_le rs
    have h2 : s.size = s.data.toList.length := (Array.length_toList (xs := s.data)).symm
    rw [h2, hs]
    exact h1)
  simpa using h
/-- the program and the reference decode alike -/
theorem both_any (told : Bool) (bs : List UInt8) (hn : bs.length ≤ 4294967296) : ∃ (L : List UInt8) (is : Bool), (is = false → L = []) ∧ L.length ≤ 17179869184 ∧
    (∀ W A n c B, Rd W B A n (bs.map bv) → B ≤ W.heap.size → Laid W → Calls Tryd.prog 8 #[.slice A n c, .bool told] W fun e w' => e = .returned (.tuple #[.string ⟨L.toArray⟩, .bool is]) ∧ Fresh W w') ∧
    (∀ W A n c B, Rd W B A n (bs.map bv) → B ≤ W.heap.size → n ≤ c → c ≤ maxLen → Calls Tryd.prog 9 #[.slice A n c, .bool told] W (NameIs L is W)) := by
  have hlen : ∀ {W B A n}, Rd W B A n (bs.map bv) → n ≤ 4294967296 := fun h => by have := h.1; rw [List.length_map] at this; omega
  cases told with
  | false =>
    refine ⟨tx (pgs bs), true, fun h => Bool.noConfusion h, Nat.le_trans (tx_len _) (by rw [List.length_map]; omega), fun W A n c B hr hB hU => ?_, fun W A n c B hr hB hc hcm => refDecode_page A n c bs W B hr hB (hlen hr)⟩
    exact decode_any A n c bs false W B hr hB (hlen hr) hU
  | true =>
    obtain ⟨rs, u, hrn, ht, hu⟩ := read_or bs
    refine ⟨if u = [] then bs else [], decide (u = []), fun h => by rw [if_neg (by simpa using h)], (by split; exact Nat.le_trans hn (by omega); exact Nat.zero_le _), fun W A n c B hr hB hU => ?_, fun W A n c B hr hB hc hcm => refDecode_told A n c bs rs u ht hrn hu W B hr hB (hlen hr) hc hcm⟩
    have hd := decode_any A n c bs true W B hr hB (hlen hr) hU
    rcases hu with hu | hu
    · have hv : Lib.validD bs = true := by rw [ht, hu, List.append_nil]; exact valid_good rs hrn
      have e1 : decP true bs = .tuple #[.string ⟨bs.toArray⟩, .bool true] := by rw [decP, if_pos rfl, if_pos hv]
      rw [e1] at hd
      rw [if_pos hu, decide_eq_true hu]
      exact hd
    · have hv : Lib.validD bs = false := by rw [ht]; exact valid_bad rs u hrn hu
      have e1 : decP true bs = .tuple #[.string ⟨#[]⟩, .bool false] := by rw [decP, if_pos rfl, if_neg (by rw [hv]; simp)]
      rw [e1] at hd
      rw [if_neg hu.1, decide_eq_false hu.1]
      exact hd
end Go.Proofs.YtaldbcfgfcdlhaaDoor.namp
