/-
  The walk of the law NameAscii. My own text.
-/
import Derived.Test.YtaldbcfgfcdlhaaDoorNamLaw
import Derived.Test.YtaldbcfgfcdlhaaDoorOpen
namespace Go.Proofs.YtaldbcfgfcdlhaaDoor.nameAscii
open Go.RowKit Go.Proofs.YtaldbcfgfcdlhaaDoor.base Go.Proofs.YtaldbcfgfcdlhaaDoor.nam Go.Proofs.YtaldbcfgfcdlhaaDoor.namp
set_option linter.unusedVariables false
def m7 (b : UInt8) : UInt8 := UInt8.ofNat (b.toNat % 128)
theorem m7_lt (b : UInt8) : (m7 b).toNat < 128 := by rw [m7, nat_u8 _ (by omega)]; omega
set_option maxRecDepth 100000 in
theorem and127 : ∀ X : Fin 256, bits .and .u8 ((X.val : Nat) : Int) 127 = ((X.val % 128 : Nat) : Int) := by decide +kernel
theorem ascii : ∀ (y : List UInt8), (∀ b ∈ y, b.toNat < 128) → tx (y.map UInt8.toNat) = y ∧ pgs y = y.map UInt8.toNat ∧ (y.map UInt8.toNat).all hasB = true ∧ (y.map UInt8.toNat).map bR9 = y
  | [], _ => ⟨rfl, rfl, rfl, rfl⟩
  | b :: y, h => by
    have hb := h b (.head _)
    obtain ⟨h1, h2, h3, h4⟩ := ascii y (fun x hx => h x (.tail _ hx))
    refine ⟨?_, ?_, ?_, ?_⟩
    · rw [List.map_cons, tx_cons, h1, en, if_pos hb, UInt8.ofNat_toNat]; rfl
    · show pageR b.toNat :: pgs y = b.toNat :: y.map UInt8.toNat
      rw [h2, pageR, if_pos hb]
    · rw [List.map_cons, List.all_cons, h3, hasB, pageB_low hb]; rfl
    · rw [List.map_cons, List.map_cons, h4, bR9, pageB_low hb, Option.getD_some, UInt8.ofNat_toNat]
def zs (x : List UInt8) (k : Nat) : List UInt8 := (x.take k).map m7 ++ x.drop k
theorem zs_len (x : List UInt8) (k : Nat) : (zs x k).length = x.length := by
  rw [zs, List.length_append, List.length_map, List.length_take, List.length_drop]; omega
theorem zs_get {x : List UInt8} {k : Nat} {b : UInt8} (h : x[k]? = some b) : (zs x k)[k]? = some b := by
  obtain ⟨hl, hg⟩ := List.getElem?_eq_some_iff.1 h
  rw [zs, List.getElem?_append_right (by rw [List.length_map, List.length_take]; omega), List.length_map, List.length_take, List.getElem?_drop, Nat.min_eq_left (by omega), Nat.sub_self, Nat.add_zero, h]
theorem zs_set {x : List UInt8} {k : Nat} {b : UInt8} (h : x[k]? = some b) : (zs x k).set k (m7 b) = zs x (k + 1) := by
  obtain ⟨hl, hg⟩ := List.getElem?_eq_some_iff.1 h
  have hlen : ((x.take k).map m7).length = k := by rw [List.length_map, List.length_take]; omega
  rw [zs, List.set_append_right _ _ (by omega), hlen, Nat.sub_self, List.drop_eq_getElem_cons hl, List.set_cons_zero, zs, take_snoc _ _ _ h, List.map_append, List.append_assoc]
  rfl
theorem zs_end (x : List UInt8) : zs x x.length = x.map m7 := by rw [zs, List.take_length, List.drop_length, List.append_nil]
/-- a store into a row that a call owns -/
theorem own_put {w : World} {base : Nat} {e : TypeId} {g n c : Nat} {xs : List Value} (h : Own w base e (some ⟨g, 0, none⟩) n c xs) (j : Nat) (hj : j < n) (u : Value) :
    w.frozen? ⟨g, j, none⟩ = false ∧ Own (w.setCell ⟨g, j, none⟩ u) base e (some ⟨g, 0, none⟩) n c (xs.set j u) ∧ base ≤ g := by
  obtain ⟨h1, h2⟩ := h
  rcases h2 with ⟨hv, hn⟩ | ⟨g', cap, cur, hv, hb, hh, hnc, hcm, hsz, htk⟩
  · cases hv
  · injection hv with hA _ hcc
    injection hA with hA
    injection hA with hA _ _
    subst hA
    subst hcc
    refine ⟨by simp [World.frozen?, hh], ⟨by rw [List.length_set]; exact h1, Or.inr ⟨g, c, cur.set! j u, rfl, hb, ?_, hnc, hcm, by simpa using hsz, ?_⟩⟩, hb⟩
    · simp [World.setCell, Array.getElem?_modify, hh]
    · rw [← htk]
      simp
      rw [List.take_set]
set_option maxHeartbeats 4000000 in
set_option maxRecDepth 100000 in
theorem nameAscii_walk (A0 : Option Addr) (n0 c0 : Nat) (x0 : List UInt8) (w : World) (b0 : InBytes w A0 n0 c0 x0) (hU : Laid w) :
    Calls Tryd.prog 6 #[.slice A0 n0 c0] w fun e w' => e = .returned (.bool true) ∧ Below w.heap.size w w' := by
  obtain ⟨i0, hi0, hz0, hz1, hz2⟩ := info_parts info_byte9
  obtain ⟨hr, hc, hcm⟩ := b0
  have hl : x0.length = n0 := by have := hr.1; rwa [List.length_map] at this
  have HW := Lib.hid (wakes_any w hU)
  have HU := Lib.hid hU
  have HR := Lib.hid hr
  have HL := Lib.hid hl
  by_cases hbig : 300 < n0
  · have t1 : decide ((n0 : Int) > 300) = true := by rw [decide_eq_true_iff]; omega
    have t2 : decide (300 < (n0 : Int)) = true := by rw [decide_eq_true_iff]; omega
    clear hr hl hc hcm hbig hU
    go_enter Tryd.func6, Tryd.ntmps6
    go_wp2_with (go_at_call 7; (refine HW.out.mono ?_); rintro e w1 ⟨rfl, hf1⟩)
    go_ret
    exact ⟨rfl, hf1⟩
  have t1 : decide ((n0 : Int) > 300) = false := by rw [decide_eq_false_iff_not]; omega
  have t2 : decide (300 < (n0 : Int)) = false := by rw [decide_eq_false_iff_not]; omega
  have hnb : n0 ≤ 300 := by omega
  obtain ⟨y, hy⟩ : ∃ y, x0.map m7 = y := ⟨_, rfl⟩
  have hyl : y.length = n0 := by rw [← hy, List.length_map, hl]
  have hya : ∀ b ∈ y, b.toNat < 128 := by
    intro b hb
    rw [← hy] at hb
    obtain ⟨x, _, rfl⟩ := List.mem_map.1 hb
    exact m7_lt x
  obtain ⟨a1, a2, a3, a4⟩ := ascii y hya
  obtain ⟨S, hS⟩ : ∃ S, (⟨y.toArray⟩ : ByteArray) = S := ⟨_, rfl⟩
  have hSl : S.data.toList = y := by rw [← hS]
  have hSz : S.size = n0 := by
    have h2 : S.size = S.data.toList.length := (Array.length_toList (xs := S.data)).symm
    rw [h2, hSl, hyl]
  have hrn : ∀ r ∈ y.map UInt8.toNat, Rn r := by
    intro r hr
    obtain ⟨b, hb, rfl⟩ := List.mem_map.1 hr
    have := hya b hb
    exact Or.inl (by omega)
  have hen : ∀ W, Laid W → Calls Tryd.prog 10 #[.string S] W fun e w' => ∃ A c, e = .returned (.tuple #[.slice A n0 c, .bool false]) ∧ Fresh W w' ∧ Rd w' w'.heap.size A n0 (y.map bv) := by
    intro W hW
    refine (encode_any S (y.map UInt8.toNat) [] (by rw [hSl, List.append_nil, a1]) hrn (Or.inl rfl) W (by omega) hW).mono ?_
    rintro e w' ⟨A, n, c, rfl, hn, hnc, hcm, hf, hr9⟩
    have e1 : encB (y.map UInt8.toNat) [] = y := by rw [encB, if_pos ⟨rfl, a3⟩, a4]
    have e2 : encT (y.map UInt8.toNat) [] = false := by rw [encT, a3]; rfl
    rw [e1] at hr9 hn
    rw [e2]
    rw [hyl] at hn
    subst hn
    exact ⟨A, c, rfl, hf, hr9⟩
  have hdc : ∀ told W A c B, Rd W B A n0 (y.map bv) → B ≤ W.heap.size → Laid W → Calls Tryd.prog 8 #[.slice A n0 c, .bool told] W fun e w' => e = .returned (.tuple #[.string S, .bool true]) ∧ Fresh W w' := by
    intro told W A c B h1 h2 h3
    have h := decode_any A n0 c y told W B h1 h2 (by omega) h3
    have e1 : decP told y = .tuple #[.string S, .bool true] := by
      cases told with
      | false =>
        show Value.tuple #[.string ⟨(tx (pgs y)).toArray⟩, .bool true] = _
        rw [a2, a1, hS]
      | true =>
        have hv : Lib.validD y = true := by rw [← a1]; exact valid_good _ hrn
        rw [decP, if_pos rfl, if_pos hv, hS]
    rw [e1] at h
    exact h
  have hstr := fun W A c B h => run_str_rd (P := Tryd.prog) W 22 9 5 Tryd.underlying22 Tryd.underlying5 Tryd.underlying9 A c n0 B y h
  rw [hS] at hstr
  have HY := Lib.hid hy
  have HEN := Lib.hid hen
  have HDC := Lib.hid hdc
  have HSTR := Lib.hid hstr
  clear hr hl hc hcm hbig hU hy hyl hya a1 a2 a3 a4 hS hSl hSz hrn hen hdc hstr
  go_enter Tryd.func6, Tryd.ntmps6
  go_wp2_with (first
    | (go_at_call 7; (refine HW.out.mono ?_); rintro e w1 ⟨rfl, hf1⟩; have HF1 := Lib.hid hf1; clear hf1)
    | (at_builtin; refine wpList_append_rd _ rfl _ _ 22 rfl w1.heap.size 5 i0 _ 1 Tryd.underlying22 hi0 hz0 hz1 hz2 rfl (some ⟨w1.heap.size, 0, none⟩) 0 0 [] rfl (Own.made w1 5 #[] 0 rfl (Nat.zero_le _)) w.heap.size A0 n0 c0 (x0.map bv) rfl ((HR.out.below HF1.out (Nat.le_refl _)).below (Fresh.alloc w1 (.cells #[] 5)) HF1.out.size) (bv_one _) (by unfold maxLen; omega) (by omega) (by simp) ?_; intro A2 c2 w2 ho2 hg2; have HX2 := Lib.hid (Fresh.append (Fresh.alloc w1 (.cells #[] 5)) (Own.made w1 5 #[] 0 rfl (Nat.zero_le _)) (Nat.le_refl _) hg2); have HF2 := Lib.hid (Fresh.trans HF1.out HX2.out); have HO2 := Lib.hid ho2; clear ho2 hg2))
  have ho2 : Own w2 w1.heap.size 5 A2 n0 c2 ((zs x0 0).map bv) := by
    have h := HO2.out
    rw [List.nil_append] at h
    have e : zs x0 0 = x0 := by rw [zs, List.take_zero, List.drop_zero]; rfl
    rw [e]
    rwa [Nat.zero_add] at h
  clear HO2
  have HO2 := Lib.hid ho2
  clear ho2
  go_loopw [21] (fun v wr => ∃ k : Nat, k ≤ n0 ∧ v = .int .i64 k ∧ Own wr w1.heap.size 5 A2 n0 c2 ((zs x0 k).map bv) ∧ Fresh w wr) (fun v _ => n0 - (intOf v).toNat)
  case atStart => exact ⟨0, Nat.zero_le _, rfl, HO2.out, HF2.out⟩
  case round =>
    obtain ⟨k, hk, rfl, hown, hfr⟩ := hrel
    by_cases hlt : k < n0
    · obtain ⟨x, hx⟩ : ∃ x, x0[k]? = some x := ⟨_, List.getElem?_eq_getElem (by rw [HL.out]; exact hlt)⟩
      obtain ⟨g, cap, hv, hb, hlt2⟩ := World.ownsRow.form hown (by omega)
      injection hv with hA _ _
      subst hA
      have hcell := own_news hown k (bv x) (by rw [List.getElem?_map, zs_get hx]; rfl)
      rw [Addr.add_mid, Nat.zero_add] at hcell
      have hput := own_put hown k hlt (bv (m7 x))
      have hset : ((zs x0 k).map bv).set k (bv (m7 x)) = (zs x0 (k + 1)).map bv := by rw [← List.map_set, zs_set hx]
      rw [hset] at hput
      have hfz := hput.1
      obtain ⟨z, hz⟩ : ∃ z : Int, (x.toNat : Int) = z := ⟨_, rfl⟩
      have hxb := x.toNat_lt
      have e1 := and127 ⟨x.toNat, hxb⟩
      simp only at e1
      have hm7 : bv (m7 x) = .int .u8 ((x.toNat % 128 : Nat) : Int) := by rw [bv, m7, nat_u8 _ (by omega)]
      obtain ⟨v, hv⟩ : ∃ v : Int, ((x.toNat % 128 : Nat) : Int) = v := ⟨_, rfl⟩
      rw [hv] at e1 hm7
      rw [bv, hz] at hcell
      rw [hz] at e1
      rw [hm7] at hput
      have HP := Lib.hid hput.2.1
      have HGE := Lib.hid hput.2.2
      have HF := Lib.hid hfr
      clear hput hset hx hown hfr hz hm7 hv hxb hb hlt2
      go_wp2
      have hf9 : Fresh w (wr.setCell ⟨g, k, none⟩ (.int .u8 v)) := Fresh.but HF.out (by have := HF1.out.size; have := HGE.out; omega) (But.put (g := g) (i := k) wr _)
      exact ⟨⟨k + 1, by omega, by go_num, HP.out, hf9⟩, by simp [intOf]; omega⟩
    · obtain rfl : k = n0 := by omega
      have hrd : Rd wr wr.heap.size A2 k (y.map bv) := by
        have h := Own.rd hown
        rw [← HL.out, zs_end, HY.out] at h
        rwa [HL.out] at h
      have hst1 := HSTR.out wr A2 c2 _ hrd
      have HRD := Lib.hid hrd
      have HF := Lib.hid hfr
      clear hown hrd hfr hlt hk
      go_wp2_with (first
        | (go_at_call 10; (refine (HEN.out wr (HU.out.fresh HF.out)).mono ?_); rintro e w3 ⟨A3, c3, rfl, hf3, hr3⟩; have HX3 := Lib.hid hf3; have HR3 := Lib.hid hr3; clear hf3 hr3)
        | (go_at_call 8; (with_reducible refine (HDC.out false w3 A2 c2 _ (HRD.out.fresh HX3.out) (Nat.le_refl _) (HU.out.fresh (Fresh.trans HF.out HX3.out))).mono ?_); rintro e w4 ⟨rfl, hf4⟩; have HX4 := Lib.hid (Fresh.trans HX3.out hf4); have HY4 := Lib.hid hf4; clear hf4)
        | (go_at_call 8; (with_reducible refine (HDC.out true w4 A2 c2 _ (HRD.out.fresh HX4.out) (Nat.le_refl _) (HU.out.fresh (Fresh.trans HF.out HX4.out))).mono ?_); rintro e w5 ⟨rfl, hf5⟩; have HX5 := Lib.hid (Fresh.trans HX4.out hf5); have HY5 := Lib.hid (Fresh.trans HY4.out hf5); clear hf5)
        | (go_at_call 12; (refine (same_of A3 A2 k k c3 c2 y w5 _ _ (HR3.out.fresh HY5.out) (HRD.out.fresh HX5.out) (by unfold maxLen; omega)).mono ?_); rintro e w6 ⟨rfl, hf6⟩; have hst2 := HSTR.out w6 A2 c2 _ (HRD.out.fresh (Fresh.trans HX5.out hf6)); have HX6 := Lib.hid (Fresh.trans HX5.out hf6); clear hf6))
      go_ret
      exact ⟨by simp, Fresh.trans HF.out HX6.out⟩
end Go.Proofs.YtaldbcfgfcdlhaaDoor.nameAscii
