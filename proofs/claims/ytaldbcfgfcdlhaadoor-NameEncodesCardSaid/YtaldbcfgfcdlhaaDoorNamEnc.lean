/-
  Layer 9: Decode, bytesByRune, Encode, May. My own text.
-/
import Derived.Test.YtaldbcfgfcdlhaaDoorNamPage
import Derived.Test.YtaldbcfgfcdlhaaDoorNamStr
import Derived.Test.YtaldbcfgfcdlhaaDoorMapOf
import Derived.Lib.OthersKept
namespace Go.Proofs.YtaldbcfgfcdlhaaDoor.namp
open Go.RowKit Go.Maps Go.Proofs.YtaldbcfgfcdlhaaDoor.base Go.Proofs.YtaldbcfgfcdlhaaDoor.nam
set_option linter.unusedVariables false

/-- what Decode tells -/
def decP (told : Bool) (bs : List UInt8) : Value := if told then (if Lib.validD bs = true then .tuple #[.string ⟨bs.toArray⟩, .bool true] else .tuple #[.string ⟨#[]⟩, .bool false]) else .tuple #[.string ⟨(tx (pgs bs)).toArray⟩, .bool true]
theorem decode_any (A : Option Addr) (n c : Nat) (bs : List UInt8) (told : Bool) (w : World) (B : Nat) (hr : Rd w B A n (bs.map bv)) (hB : B ≤ w.heap.size) (hn : n ≤ 4294967296) (hU : Laid w) :
    Calls Tryd.prog 8 #[.slice A n c, .bool told] w fun e w' => e = .returned (decP told bs) ∧ Fresh w w' := by
  have hl : bs.length = n := by have := hr.1; rwa [List.length_map] at this
  cases told with
  | false =>
    have hp := byPage_any A n c bs w B hr hB hn hU.up
    have e1 : decP false bs = .tuple #[.string ⟨(tx (pgs bs)).toArray⟩, .bool true] := rfl
    rw [e1]
    obtain ⟨S, hS⟩ : ∃ S, (⟨(tx (pgs bs)).toArray⟩ : ByteArray) = S := ⟨_, rfl⟩
    rw [hS] at hp ⊢
    have HP := Lib.hid hp
    clear hp hS hr hU hl
    go_enter Tryd.func8, Tryd.ntmps8
    go_wp2_with (go_at_call 16; (refine HP.out.mono ?_); rintro e w1 ⟨rfl, hf1⟩)
    go_ret2
    exact ⟨rfl, hf1⟩
  | true =>
    have hc := run_str_rd (P := Tryd.prog) w 22 9 5 Tryd.underlying22 Tryd.underlying5 Tryd.underlying9 A c n B bs hr
    have hrt := right_any ⟨bs.toArray⟩ w (by show bs.toArray.size ≤ maxLen; simp; unfold maxLen; omega) hU
    have e0 : (⟨bs.toArray⟩ : ByteArray).data.toList = bs := rfl
    rw [e0] at hrt
    obtain ⟨S, hS⟩ : ∃ S, (⟨bs.toArray⟩ : ByteArray) = S := ⟨_, rfl⟩
    rw [hS] at hc hrt
    have HRT := Lib.hid hrt
    clear hrt hr hU hl e0
    cases hv : Lib.validD bs with
    | true =>
      have e1 : decP true bs = .tuple #[.string S, .bool true] := by rw [decP, if_pos rfl, if_pos hv, hS]
      rw [e1]
      rw [hv] at HRT
      clear e1 hS hv
      go_enter Tryd.func8, Tryd.ntmps8
      go_wp2_with (go_at_call 17; (refine HRT.out.mono ?_); rintro e w1 ⟨rfl, hf1⟩)
      go_ret2
      exact ⟨rfl, hf1⟩
    | false =>
      have e1 : decP true bs = .tuple #[.string ⟨#[]⟩, .bool false] := by rw [decP, if_pos rfl, if_neg (by rw [hv]; simp)]
      rw [e1]
      rw [hv] at HRT
      clear e1 hS hv
      go_enter Tryd.func8, Tryd.ntmps8
      go_wp2_with (go_at_call 17; (refine HRT.out.mono ?_); rintro e w1 ⟨rfl, hf1⟩)
      go_ret2
      exact ⟨rfl, hf1⟩

abbrev tRune : TypeId := 21
abbrev tMap : TypeId := 44
/-- the map's entries for the first k bytes -/
def mp (k : Nat) : List (Value × Value) := (List.range k).reverse.map fun b => (.int .i32 (pageR b : Nat), .int .u8 (b : Nat))
theorem mp_succ (k : Nat) : mp (k + 1) = (.int .i32 (pageR k : Nat), .int .u8 (k : Nat)) :: mp k := by simp [mp, List.range_succ]
theorem mp_hit {r b : Nat} (h : pageB r = some b) : ((.int .i32 (r : Nat), .int .u8 (b : Nat)) : Value × Value) ∈ mp 256 := by
  have := pageB_some h
  refine List.mem_map.2 ⟨b, by simp; exact this.1, by rw [this.2]⟩
theorem mp_miss {r : Nat} (h : pageB r = none) : ∀ p ∈ mp 256, p.1 ≠ .int .i32 (r : Nat) := by
  intro p hp
  obtain ⟨b, hb, rfl⟩ := List.mem_map.1 hp
  have := pageB_none h b (by simpa using hb)
  intro e
  injection e with _ e
  exact this (by omega)
theorem mp_new {k : Nat} (hk : k < 256) : ∀ p ∈ mp k, p.1 ≠ .int .i32 (pageR k : Nat) := by
  intro p hp
  obtain ⟨b, hb, rfl⟩ := List.mem_map.1 hp
  have hb2 : b < k := by simpa using hb
  intro e
  injection e with _ e
  have := pageR_inj (a := b) (b := k) (by omega) hk (by omega)
  omega
theorem runeKey : Keyed Tryd.prog tRune := int_keyed Tryd.underlying21
theorem key_rune (r : Nat) (h : r ≤ 1114111) : keyOf Tryd.prog tRune (.int .i32 (r : Nat)) = some (.int .i32 (r : Nat)) := keyOf_int_mk Tryd.underlying21 (by simp [Lit.wf, IntKind.min, IntKind.max, IntKind.signed, IntKind.bits]; omega)
theorem zero_byte (w : World) : (zeroValue 5).run Tryd.prog w = .ok (.int .u8 0) w := by kernel_rfl

theorem bytesByRune_any (w : World) (hU : Laid w) : Calls Tryd.prog 20 #[] w fun e w' => e = .returned (.map (some w.heap.size)) ∧ Fresh w w' ∧ MapOf Tryd.prog tRune w' w.heap.size (mp 256) := by
  have hmk : ∀ W : World, (Instr.makeMap tMap (some (.int .i64 256))).run Tryd.prog W = .ok (.map (some W.heap.size)) (W.alloc (.map #[] 0)) := fun W => by simp [Instr.makeMap, asInt, asIntOf, run_underlying Tryd.underlying44]
  have hm0 := MapOf.made Tryd.prog tRune w
  have HM0 := Lib.hid hm0
  have HU := Lib.hid hU
  clear hm0 hU
  go_enter Tryd.func20, Tryd.ntmps20
  go_wp2
  go_loopw [4] (fun i wr => ∃ k : Nat, k ≤ 256 ∧ i = .int .i64 k ∧ Fresh w wr ∧ MapOf Tryd.prog tRune wr w.heap.size (mp k)) (fun i _ => 256 - (intOf i).toNat)
  case atStart => exact ⟨0, by omega, rfl, Fresh.alloc _ _, HM0.out⟩
  case round =>
    obtain ⟨k, hk, rfl, hfr, hm⟩ := hrel
    by_cases hlt : k < 256
    · have hro := fun W h => runeOf_any (UInt8.ofNat k) W h
      have hto : (UInt8.ofNat k).toNat = k := nat_u8 k hlt
      rw [hto] at hro
      have e1 : IntKind.u8.wrap (k : Int) = (k : Int) := by simp [IntKind.wrap, IntKind.signed, IntKind.bits]; omega
      have HU2 := Lib.hid (HU.out.fresh hfr)
      have HRO := Lib.hid hro
      have HN := Lib.hid (mp_new hlt)
      have hp := pageR_rn ⟨k, hlt⟩
      simp only at hp
      obtain ⟨R, hR⟩ : ∃ R, pageR k = R := ⟨_, rfl⟩
      rw [hR] at HRO HN hp
      have HR := Lib.hid hR
      have hRl : R ≤ 1114111 := by omega
      have t1 : decide ((k : Int) < 256) = true := by rw [decide_eq_true_iff]; omega
      clear hro hto hp hR hlt
      go_wp2_with (first
        | (go_at_call 23; (refine (HRO.out _ HU2.out.up).mono ?_); rintro e w1 ⟨rfl, rfl⟩)
        | (at_mapUpdate; refine wpList_put_new _ rfl _ _ _ tMap rfl tRune 5 runeKey Tryd.underlying44 w.heap.size (mp k) rfl hm (.int .i32 (R : Nat)) (.int .u8 (k : Nat)) _ rfl rfl (key_rune R hRl) HN.out ?_; intro w2 hm2 hbut2))
      have hk1 : k < 256 := by have := decide_eq_true_iff.1 t1; omega
      go_roundw
      case rel => exact ⟨k + 1, by omega, by go_num, hfr.but (Nat.le_refl _) hbut2, by rw [mp_succ, HR.out]; exact hm2⟩
      case measure => simp [intOf]; omega
    · obtain rfl : k = 256 := by omega
      clear hlt hk
      go_wp2
      go_ret
      exact ⟨rfl, hfr, hm⟩

/-! a text that is gone through -/
theorem own_ne_iter {w : World} {base n c k pos : Nat} {e : TypeId} {A : Option Addr} {xs : List Value} {s : ByteArray} (h : Own w base e A n c xs) (hk : w.heap[k]? = some (.stringIter s pos)) : (Value.slice A n c).ownBlock ≠ some k := by
  rcases h.2 with ⟨hv, _⟩ | ⟨g', cap, cur, hv, _, hh, _⟩
  · rw [hv]; simp [Value.ownBlock]
  · rw [hv]
    simp only [Value.ownBlock, ne_eq, Option.some.injEq]
    intro e
    subst e
    rw [hh] at hk
    cases hk
theorem iterAt_but (w : World) (k : Nat) (s : ByteArray) (pos : Nat) : But k w (w.iterAt k s pos) :=
  ⟨rfl, rfl, rfl, by rw [Lib.iterAt_size]; exact Nat.le_refl _, fun i hi hne => Lib.iterAt_other w k i s pos (fun e => hne (by rw [e]))⟩
theorem mapOf_ne_iter {P : Program} {t : TypeId} {w : World} {b k pos : Nat} {kv : List (Value × Value)} {s : ByteArray} (h : MapOf P t w b kv) (hk : w.heap[k]? = some (.stringIter s pos)) : b ≠ k := by
  rintro rfl
  obtain ⟨es, clock, hb, _⟩ := h
  rw [hb] at hk
  cases hk
theorem mapOf_but {P : Program} {t : TypeId} {w w' : World} {b k : Nat} {kv : List (Value × Value)} (h : MapOf P t w b kv) (hb : But k w w') (hne : b ≠ k) : MapOf P t w' b kv :=
  h.old (hb.block b h.inside (fun e => hne (by injection e)))
theorem mapOf_ne_own {P : Program} {t : TypeId} {w : World} {b base n c : Nat} {e : TypeId} {A : Option Addr} {xs : List Value} {kv : List (Value × Value)} (h : MapOf P t w b kv) (ho : Own w base e A n c xs) : (Value.slice A n c).ownBlock ≠ some b := by
  obtain ⟨es, clock, hb, _⟩ := h
  rcases ho.2 with ⟨hv, _⟩ | ⟨g', cap, cur, hv, _, hh, _⟩
  · rw [hv]; simp [Value.ownBlock]
  · rw [hv]
    simp only [Value.ownBlock, ne_eq, Option.some.injEq]
    intro e
    subst e
    rw [hh] at hb
    cases hb
theorem in_of_cell' {w : World} {k : Nat} {o : Obj} (h : w.heap[k]? = some o) : k < w.heap.size := (Array.getElem?_eq_some_iff.1 h).1
theorem range_str (W : World) (s : ByteArray) : (Instr.range 9 (.string s)).run Tryd.prog W = .ok (.pointer (some ⟨W.heap.size, 0, none⟩)) (W.iter s 0) := run_range_string W 9 s Tryd.underlying9

theorem decode_rune {s : ByteArray} {done rest : List Nat} {r : Nat} {u : List UInt8} (hs : s.data.toList = tx (done ++ r :: rest) ++ u) (hr : Rn r) : Utf8.decode s (tx done).length = (r, wid r) ∧ (tx done).length < s.size ∧ (tx done).length + wid r = (tx (done ++ [r])).length := by
  have e : tx (done ++ r :: rest) ++ u = tx done ++ (en r ++ (tx rest ++ u)) := by rw [tx_append, tx_cons, List.append_assoc, List.append_assoc]
  refine ⟨?_, ?_, ?_⟩
  · rw [decode_drop, hs, e, List.drop_left, dcd_good hr]
  · have : s.size = s.data.toList.length := (Array.length_toList (xs := s.data)).symm
    rw [this, hs, e, List.length_append, List.length_append, en_len]
    have := wid_bd r
    omega
  · rw [tx_snoc, List.length_append, en_len]
theorem decode_bad {s : ByteArray} {done : List Nat} {u : List UInt8} (hs : s.data.toList = tx done ++ u) (hu : Bad u) : Utf8.decode s (tx done).length = (65533, 1) ∧ (tx done).length < s.size := by
  refine ⟨?_, ?_⟩
  · rw [decode_drop, hs, List.drop_left, hu.2]
  · have : s.size = s.data.toList.length := (Array.length_toList (xs := s.data)).symm
    rw [this, hs, List.length_append]
    have := List.length_pos_iff.2 hu.1
    omega
theorem decode_end {s : ByteArray} {done : List Nat} (hs : s.data.toList = tx done) : ¬ (tx done).length < s.size := by
  have : s.size = s.data.toList.length := (Array.length_toList (xs := s.data)).symm
  rw [this, hs]
  omega
/-- the byte of a rune -/
def bR9 (r : Nat) : UInt8 := UInt8.ofNat ((pageB r).getD 0)
def hasB (r : Nat) : Bool := (pageB r).isSome
/-- what Encode tells of a text that begins with these runes, and then with what is none -/
def encB (rs : List Nat) (u : List UInt8) : List UInt8 := if u = [] ∧ rs.all hasB = true then rs.map bR9 else tx rs ++ u
def encT (rs : List Nat) (u : List UInt8) : Bool := !(decide (u = []) && rs.all hasB)
def EncIs (rs : List Nat) (u : List UInt8) (w : World) (e : Ending) (w' : World) : Prop :=
  ∃ A n c, e = .returned (.tuple #[.slice A n c, .bool (encT rs u)]) ∧ n = (encB rs u).length ∧ n ≤ c ∧ c ≤ maxLen ∧ Fresh w w' ∧ Rd w' w'.heap.size A n ((encB rs u).map bv)
theorem bR9_is {r b : Nat} (h : pageB r = some b) : (Value.int .u8 (b : Nat)) = bv (bR9 r) := by
  have := (pageB_some h).1
  rw [bv, bR9, h, Option.getD_some, nat_u8 b this]
theorem info_byte : (Tryd.prog.info? 5).map (fun i => (i.zero, i.size, i.bytes)) = some (some (.int .u8 0), 1, 1) := by kernel_rfl

set_option maxHeartbeats 4000000 in
set_option maxRecDepth 100000 in
theorem encode_any (s : ByteArray) (rs : List Nat) (u : List UInt8) (hs : s.data.toList = tx rs ++ u) (hrn : ∀ r ∈ rs, Rn r) (hu : u = [] ∨ Bad u) (w : World) (hm : s.size ≤ 4294967296) (hU : Laid w) :
    Calls Tryd.prog 10 #[.string s] w (EncIs rs u w) := by
  obtain ⟨i0, hi0, hz0, hz1, hz2⟩ := info_parts info_byte
  have hsl : s.size = (tx rs ++ u).length := by rw [← hs]; exact (Array.length_toList (xs := s.data)).symm
  obtain ⟨n, hn⟩ : ∃ n, s.size = n := ⟨_, rfl⟩
  have hbr := bytesByRune_any w hU
  have HBR := Lib.hid hbr
  have HS := Lib.hid hs
  have HSL := Lib.hid hsl
  have HRN := Lib.hid hrn
  have HU := Lib.hid hu
  have HN := Lib.hid hn
  have hsz : (s.size : Int) = (n : Int) := by omega
  rw [hn] at hm
  clear hbr hs hsl hrn hu hU hn
  go_enter Tryd.func10, Tryd.ntmps10
  go_wp2_with (first
    | (go_at_call 20; (refine HBR.out.mono ?_); rintro e w1 ⟨rfl, hf1, hm1⟩)
    | (at_make; refine wpList_make_own _ rfl _ _ 22 rfl w1.heap.size 5 i0 _ 1 Tryd.underlying22 hi0 hz0 hz1 _ _ _ n rfl rfl rfl (by rw [hz2]; omega) (by unfold maxLen; omega) (Nat.le_refl _) ?_; intro w2 hown2 hg2))
  have hrs := fun W => range_str W s
  have hm2 : MapOf Tryd.prog tRune w2 w.heap.size (mp 256) := hm1.old (hg2.block _ hm1.inside (by simp))
  have hf2 : Fresh w w2 := hf1.trans ⟨hg2.os, hg2.tape, hg2.output, hg2.size, fun i hi => hg2.block i hi (by simp)⟩
  have hit0 := World.iter_heap w2 s 0
  have hm3 : MapOf Tryd.prog tRune (w2.iter s 0) w.heap.size (mp 256) := hm2.old ((Fresh.alloc w2 _).block _ hm2.inside)
  have ho3 : Own (w2.iter s 0) w1.heap.size 5 _ 0 n [] := Own.fresh hown2 (Fresh.alloc w2 _)
  have hf3 : Fresh w (w2.iter s 0) := hf2.trans (Fresh.alloc w2 _)
  have hi1 := hf1.size
  have hi2 := hg2.size
  have HRS := Lib.hid hrs
  have HI := Lib.hid hit0
  have HM := Lib.hid hm3
  have HO := Lib.hid ho3
  have HF := Lib.hid hf3
  have hrs2 := hrs w2
  clear hm1 hm2 hm3 ho3 hf3 hf2 hown2 hg2 hit0 hrs hf1
  go_wp2
  clear hrs2
  go_loopw [5] (fun v wr => ∃ (done rest : List Nat) (k c : Nat) (A : Option Addr), Hid (rs = done ++ rest) ∧ Hid (done.all hasB = true) ∧ v = .slice A k c ∧ Hid (k = done.length) ∧ wr.heap[w2.heap.size]? = some (.stringIter s (tx done).length) ∧ MapOf Tryd.prog tRune wr w.heap.size (mp 256) ∧ Own wr w1.heap.size 5 A k c ((done.map bR9).map bv) ∧ Fresh w wr) (fun _ wr => s.size - wr.iterPos w2.heap.size)
  case atStart => exact ⟨[], rs, 0, n, _, rfl, rfl, rfl, rfl, HI.out, HM.out, HO.out, HF.out⟩
  case round =>
    obtain ⟨done, rest, k, c, A, hdr, hall, rfl, hk, hit, hmp, hown, hfr⟩ := hrel
    cases rest with
    | nil =>
      have hrd : rs = done := by have := hdr.out; rwa [List.append_nil] at this
      subst hrd
      rcases HU.out with hu0 | hub
      · -- the end
        have hend := decode_end (s := s) (done := rs) (by have := HS.out; rwa [hu0, List.append_nil] at this)
        have hnx : ∀ ty, (Instr.next (.pointer (some ⟨w2.heap.size, 0, none⟩)) true ty).run Tryd.prog wr = _ := fun ty => Lib.run_next_end_at wr w2.heap.size s _ ty hit hend
        have HO2 := Lib.hid hown
        have HF2 := Lib.hid hfr
        have HU0 := Lib.hid hu0
        clear hit hmp hown hfr hend hu0
        go_wp2
        go_ret2
        have hb : encB rs u = rs.map bR9 := by rw [encB, if_pos ⟨HU0.out, hall.out⟩]
        have ht : encT rs u = false := by rw [encT, HU0.out, hall.out]; rfl
        have hcap := HO2.out.cap
        exact ⟨A, k, c, by rw [ht]; rfl, by rw [hb, List.length_map]; exact hk.out, hcap.1, hcap.2, HF2.out, by rw [hb]; exact HO2.out.rd⟩
      · -- what is no rune
        have hd := decode_bad HS.out hub
        have hnx : ∀ ty, (Instr.next (.pointer (some ⟨w2.heap.size, 0, none⟩)) true ty).run Tryd.prog wr = _ := fun ty => Lib.run_next_any_at wr w2.heap.size s _ ty hit hd.2
        rw [hd.1] at hnx
        have hbut := iterAt_but wr w2.heap.size s ((tx rs).length + 1)
        have hmp2 := mapOf_but hmp hbut (mapOf_ne_iter hmp hit)
        have hf2 := hfr.but (by omega) hbut
        have hub2 := hub
        have HUB := Lib.hid hub
        have HMP := Lib.hid hmp2
        have HF2 := Lib.hid hf2
        have HHS := Lib.hid HS.out
        clear hit hmp hown hfr hd hbut hmp2 hf2 hub hub2
        simp only at hnx
        obtain ⟨V, hV⟩ : ∃ V, wr.iterAt w2.heap.size s ((tx rs).length + 1) = V := ⟨_, rfl⟩
        rw [hV] at hnx HMP HF2
        obtain ⟨P0, hP0⟩ : ∃ P0 : Nat, (tx rs).length = P0 := ⟨_, rfl⟩
        rw [hP0] at hnx
        clear hV hP0
        go_wp2_with (first
          | (at_lookup; refine wpList_look_miss_ok _ rfl _ _ tMap rfl tRune 5 runeKey Tryd.underlying44 _ (zero_byte _) w.heap.size (mp 256) rfl HMP.out (.int .i32 (65533 : Nat)) _ rfl (key_rune 65533 (by omega)) (mp_miss pageB_err) ?_)
          | (refine at_slot_ 28 ?_; refine wpList_bytes_of rfl 9 22 5 _ rfl Tryd.underlying9 Tryd.underlying22 Tryd.underlying5 s rfl _ HHS.out n (by rw [← HSL.out]; exact HN.out) (by unfold maxLen; omega) ?_; intro A5 c5 w5 hf5 hr5 hc5 hc6))
        go_ret2
        have hb : encB rs u = tx rs ++ u := by rw [encB, if_neg (fun h => HUB.out.1 h.1)]
        have ht : encT rs u = true := by rw [encT, decide_eq_false HUB.out.1]; rfl
        exact ⟨A5, n, c5, by rw [ht]; rfl, by rw [hb, ← HSL.out]; exact HN.out.symm, hc5, hc6, HF2.out.trans hf5, by rw [hb]; exact hr5⟩
    | cons r rest =>
      have hrr : Rn r := HRN.out r (by rw [hdr.out]; simp)
      have hss := HS.out
      rw [hdr.out] at hss
      have hd := decode_rune hss hrr
      have hnx : ∀ ty, (Instr.next (.pointer (some ⟨w2.heap.size, 0, none⟩)) true ty).run Tryd.prog wr = _ := fun ty => Lib.run_next_any_at wr w2.heap.size s _ ty hit hd.2.1
      rw [hd.1] at hnx
      simp only at hnx
      rw [hd.2.2] at hnx
      have hbut := iterAt_but wr w2.heap.size s (tx (done ++ [r])).length
      have hmp2 := mapOf_but hmp hbut (mapOf_ne_iter hmp hit)
      have hown2 := hown.but hbut (own_ne_iter hown hit)
      have hf2 := hfr.but (by omega) hbut
      have hit2 := Lib.iterAt_heap wr w2.heap.size s _ (tx (done ++ [r])).length hit
      have hlen := hd.2.1
      have hadv : (tx done).length < (tx (done ++ [r])).length := by rw [tx_snoc, List.length_append, en_len]; have := wid_bd r; omega
      have hold : wr.iterPos w2.heap.size = (tx done).length := by simp only [World.iterPos, hit]
      have hrl := hrr.le
      have HMP := Lib.hid hmp2
      have HF2 := Lib.hid hf2
      have HO2 := Lib.hid hown2
      have HI2 := Lib.hid hit2
      have HHS := Lib.hid HS.out
      have HLEN := Lib.hid hlen
      have HADV := Lib.hid hadv
      have HOLD := Lib.hid hold
      have hkb : k ≤ n := by
        have h1 := tx_le done
        have h2 := hk.out
        have h3 := HN.out
        omega
      clear hit hmp hown hfr hd hbut hmp2 hf2 hown2 hit2 hss hrr hlen hadv hold
      obtain ⟨V, hV⟩ : ∃ V, wr.iterAt w2.heap.size s (tx (done ++ [r])).length = V := ⟨_, rfl⟩
      rw [hV] at hnx HMP HF2 HO2 HI2
      obtain ⟨P0, hP0⟩ : ∃ P0 : Nat, (tx done).length = P0 := ⟨_, rfl⟩
      rw [hP0] at hnx
      clear hV hP0
      cases hpb : pageB r with
      | none =>
        have HPB := Lib.hid hpb
        clear hpb
        go_wp2_with (first
          | (at_lookup; refine wpList_look_miss_ok _ rfl _ _ tMap rfl tRune 5 runeKey Tryd.underlying44 _ (zero_byte _) w.heap.size (mp 256) rfl HMP.out (.int .i32 (r : Nat)) _ rfl (key_rune r hrl) (mp_miss HPB.out) ?_)
          | (refine at_slot_ 28 ?_; refine wpList_bytes_of rfl 9 22 5 _ rfl Tryd.underlying9 Tryd.underlying22 Tryd.underlying5 s rfl _ HHS.out n (by rw [← HSL.out]; exact HN.out) (by unfold maxLen; omega) ?_; intro A5 c5 w5 hf5 hr5 hc5 hc6))
        go_ret2
        have hnb : rs.all hasB = false := by rw [hdr.out, List.all_append, List.all_cons, hasB, HPB.out]; simp
        have hb : encB rs u = tx rs ++ u := by rw [encB, if_neg (fun h => by rw [hnb] at h; cases h.2)]
        have ht : encT rs u = true := by rw [encT, hnb]; simp
        exact ⟨A5, n, c5, by rw [ht]; rfl, by rw [hb, ← HSL.out]; exact HN.out.symm, hc5, hc6, HF2.out.trans hf5, by rw [hb]; exact hr5⟩
      | some b =>
        have hb256 := (pageB_some hpb).1
        have HPB := Lib.hid hpb
        have HBO := Lib.hid (bR9_is hpb)
        have hw1 := HF2.out.size
        clear hpb
        go_wp2_with (first
          | (at_lookup; refine wpList_look_hit_ok _ rfl _ _ tMap rfl tRune 5 runeKey Tryd.underlying44 w.heap.size (mp 256) rfl HMP.out (.int .i32 (r : Nat)) (.int .u8 (b : Nat)) _ rfl (key_rune r hrl) (mp_hit HPB.out) ?_)
          | (at_builtin; refine wpList_append_rd _ rfl _ _ 22 rfl w1.heap.size 5 i0 _ 1 Tryd.underlying22 hi0 hz0 hz1 hz2 rfl A k c _ rfl (Own.fresh HO2.out (Fresh.alloc _ _)) (V.heap.size + 1) (some ⟨V.heap.size, 0, none⟩) 1 1 [.int .u8 (b : Nat)] rfl (Rd.lit V #[.int .u8 (b : Nat)] 5) (one_one _ _) (by unfold maxLen; omega) (by omega) (by have := (in_of_cell' HI2.out); simp; omega) ?_; intro A3 c3 w3 hown3 hg3))
        have hne := own_ne_iter HO2.out HI2.out
        have hnm := mapOf_ne_own HMP.out HO2.out
        have hit3 : w3.heap[w2.heap.size]? = some (.stringIter s (tx (done ++ [r])).length) := by
          rw [hg3.block _ (by have := in_of_cell' HI2.out; simp; omega) (fun e => hne e.symm)]
          exact (Below.heap_alloc V _ _ (in_of_cell' HI2.out)).trans HI2.out
        have hm3 : MapOf Tryd.prog tRune w3 w.heap.size (mp 256) := by
          refine HMP.out.old ?_
          rw [hg3.block _ (by have := HMP.out.inside; simp; omega) (fun e => hnm e.symm)]
          exact Below.heap_alloc V _ _ HMP.out.inside
        have hf3 : Fresh w w3 := (HF2.out.trans (Fresh.alloc _ _)).append (Own.fresh HO2.out (Fresh.alloc _ _)) hi1 hg3
        have hl : (done.map bR9).map bv ++ [Value.int .u8 (b : Nat)] = ((done ++ [r]).map bR9).map bv := by rw [HBO.out]; simp
        rw [hl] at hown3
        have HA := HADV.out
        have HLN := HLEN.out
        have HPO := HOLD.out
        go_roundw
        case rel => exact ⟨done ++ [r], rest, k + 1, c3, A3, by have := hdr.out; show _ = _; rw [this]; simp, by show _ = _; rw [List.all_append, hall.out]; simp [hasB, HPB.out], rfl, by have := hk.out; show _ = _; simp; omega, hit3, hm3, hown3, hf3⟩
        case measure =>
          simp only [World.iterPos, hit3] at HPO ⊢
          omega

/-- what May tells -/
def mayP (rs : List Nat) (u : List UInt8) : Bool := decide (1 ≤ (tx rs ++ u).length) && (decide ((tx rs ++ u).length ≤ 40) && (decide (u = []) && rs.all fun r => decide (32 ≤ r) && decide (r ≠ 127)))
set_option maxHeartbeats 4000000 in
set_option maxRecDepth 100000 in
theorem may_any (s : ByteArray) (rs : List Nat) (u : List UInt8) (hs : s.data.toList = tx rs ++ u) (hrn : ∀ r ∈ rs, Rn r) (hu : u = [] ∨ Bad u) (w : World) (hm : s.size ≤ 4294967296) (hU : Laid w) :
    Calls Tryd.prog 13 #[.string s] w fun e w' => e = .returned (.bool (mayP rs u)) ∧ Fresh w w' := by
  have hsl : s.size = (tx rs ++ u).length := by rw [← hs]; exact (Array.length_toList (xs := s.data)).symm
  have hrt := right_any s w (by unfold maxLen; omega) hU
  rw [hs] at hrt
  have hrs := range_str w s
  have HS := Lib.hid hs
  by_cases h1 : s.size < 1
  · have hp : mayP rs u = false := by rw [mayP, decide_eq_false (by omega)]; rfl
    rw [hp]
    have t1 : decide ((s.size : Int) < 1) = true := by rw [decide_eq_true_iff]; omega
    clear hrt hs hrn hu hU hsl hrs hp h1 HS hm
    go_enter Tryd.func13, Tryd.ntmps13
    go_wp2
    go_ret
    exact ⟨rfl, Fresh.refl _⟩
  by_cases h2 : 40 < s.size
  · have hp : mayP rs u = false := by rw [mayP, decide_eq_false (p := (tx rs ++ u).length ≤ 40) (by omega)]; simp
    rw [hp]
    have t1 : decide ((s.size : Int) < 1) = false := by rw [decide_eq_false_iff_not]; omega
    have t2 : decide ((s.size : Int) > 40) = true := by rw [decide_eq_true_iff]; omega
    have t3 : decide (40 < (s.size : Int)) = true := by rw [decide_eq_true_iff]; omega
    clear hrt hs hrn hu hU hsl hrs hp h1 HS hm h2
    go_enter Tryd.func13, Tryd.ntmps13
    go_wp2
    go_ret
    exact ⟨rfl, Fresh.refl _⟩
  have t1 : decide ((s.size : Int) < 1) = false := by rw [decide_eq_false_iff_not]; omega
  have t2 : decide ((s.size : Int) > 40) = false := by rw [decide_eq_false_iff_not]; omega
  have t3 : decide (40 < (s.size : Int)) = false := by rw [decide_eq_false_iff_not]; omega
  rcases hu with hu | hub
  · rw [hu, List.append_nil, valid_good rs hrn] at hrt
    have hp : mayP rs u = rs.all fun r => decide (32 ≤ r) && decide (r ≠ 127) := by
      rw [mayP, decide_eq_true (p := 1 ≤ (tx rs ++ u).length) (by omega), decide_eq_true (p := (tx rs ++ u).length ≤ 40) (by omega), decide_eq_true hu]; rfl
    rw [hp]
    rw [hu, List.append_nil] at HS
    have HRT := Lib.hid hrt
    have HRN := Lib.hid hrn
    have hrs2 := fun W => range_str W s
    have HRS := Lib.hid hrs2
    clear hrt hs hU hsl hrs hp h1 h2 hm hrn hrs2
    go_enter Tryd.func13, Tryd.ntmps13
    go_wp2_with (go_at_call 17; (refine HRT.out.mono ?_); rintro e w1 ⟨rfl, hf1⟩; have hrs1 := HRS.out w1)
    have hit0 := World.iter_heap w1 s 0
    have hf0 : Fresh w (w1.iter s 0) := hf1.trans (Fresh.alloc w1 _)
    have hi1 := hf1.size
    have HI := Lib.hid hit0
    have HF := Lib.hid hf0
    clear hrs1 hit0 hf0 hf1
    go_loopw [20] (fun _ wr => ∃ (done rest : List Nat), Hid (rs = done ++ rest) ∧ Hid ((done.all fun r => decide (32 ≤ r) && decide (r ≠ 127)) = true) ∧ wr.heap[w1.heap.size]? = some (.stringIter s (tx done).length) ∧ Fresh w wr) (fun _ wr => s.size - wr.iterPos w1.heap.size)
    case atStart => exact ⟨[], rs, rfl, rfl, HI.out, HF.out⟩
    case round =>
      obtain ⟨done, rest, hdr, hall, hit, hfr⟩ := hrel
      cases rest with
      | nil =>
        have hrd : rs = done := by have := hdr.out; rwa [List.append_nil] at this
        subst hrd
        have hend := decode_end (s := s) (done := rs) HS.out
        have hnx : ∀ ty, (Instr.next (.pointer (some ⟨w1.heap.size, 0, none⟩)) true ty).run Tryd.prog wr = _ := fun ty => Lib.run_next_end_at wr w1.heap.size s _ ty hit hend
        have HF2 := Lib.hid hfr
        clear hit hfr hend
        go_wp2
        go_ret
        rw [hall.out]
        exact ⟨rfl, HF2.out⟩
      | cons r rest =>
        have hrr : Rn r := HRN.out r (by rw [hdr.out]; simp)
        have hss := HS.out
        rw [hdr.out, ← List.append_nil (tx (done ++ r :: rest))] at hss
        have hd := decode_rune hss hrr
        have hnx : ∀ ty, (Instr.next (.pointer (some ⟨w1.heap.size, 0, none⟩)) true ty).run Tryd.prog wr = _ := fun ty => Lib.run_next_any_at wr w1.heap.size s _ ty hit hd.2.1
        rw [hd.1] at hnx
        simp only at hnx
        rw [hd.2.2] at hnx
        have hbut := iterAt_but wr w1.heap.size s (tx (done ++ [r])).length
        have hf2 := hfr.but (by omega) hbut
        have hit2 := Lib.iterAt_heap wr w1.heap.size s _ (tx (done ++ [r])).length hit
        have hadv : (tx done).length < (tx (done ++ [r])).length := by rw [tx_snoc, List.length_append, en_len]; have := wid_bd r; omega
        have hold : wr.iterPos w1.heap.size = (tx done).length := by simp only [World.iterPos, hit]
        have HF2 := Lib.hid hf2
        have HI2 := Lib.hid hit2
        have HLEN := Lib.hid hd.2.1
        have HADV := Lib.hid hadv
        have HOLD := Lib.hid hold
        clear hit hfr hd hbut hf2 hit2 hss hrr hadv hold
        obtain ⟨V, hV⟩ : ∃ V, wr.iterAt w1.heap.size s (tx (done ++ [r])).length = V := ⟨_, rfl⟩
        rw [hV] at hnx HF2 HI2
        obtain ⟨P0, hP0⟩ : ∃ P0 : Nat, (tx done).length = P0 := ⟨_, rfl⟩
        rw [hP0] at hnx
        clear hV hP0
        by_cases b1 : r < 32
        · have c1 : decide ((r : Int) < 32) = true := by rw [decide_eq_true_iff]; omega
          have HB := Lib.hid b1
          clear b1
          go_wp2
          go_ret
          rw [hdr.out, List.all_append, List.all_cons, decide_eq_false (p := 32 ≤ r) (by have := HB.out; omega)]
          exact ⟨by simp, HF2.out⟩
        have c1 : decide ((r : Int) < 32) = false := by rw [decide_eq_false_iff_not]; omega
        by_cases b2 : r = 127
        · subst b2
          go_wp2
          go_ret
          rw [hdr.out, List.all_append, List.all_cons]
          exact ⟨by simp, HF2.out⟩
        · have c2 : ((r : Int) == 127) = false := by rw [beq_eq_false_iff_ne]; omega
          have HB1 := Lib.hid b1
          have HB2 := Lib.hid b2
          clear b1 b2
          go_wp2
          have HA := HADV.out
          have HLN := HLEN.out
          have HPO := HOLD.out
          have hit3 := HI2.out
          go_roundw
          case rel => exact ⟨done ++ [r], rest, by have := hdr.out; show _ = _; rw [this]; simp, by show _ = _; rw [List.all_append, hall.out, List.all_cons, List.all_nil, decide_eq_true (p := 32 ≤ r) (by have := HB1.out; omega), decide_eq_true (p := r ≠ 127) HB2.out]; rfl, hit3, HF2.out⟩
          case measure =>
            simp only [World.iterPos, hit3] at HPO ⊢
            omega
  · rw [valid_bad rs u hrn hub] at hrt
    have hp : mayP rs u = false := by rw [mayP, decide_eq_false (p := u = []) hub.1]; simp
    rw [hp]
    have HRT := Lib.hid hrt
    clear hrt hs hrn hub hU hsl hrs hp h1 HS hm h2
    go_enter Tryd.func13, Tryd.ntmps13
    go_wp2_with (go_at_call 17; (refine HRT.out.mono ?_); rintro e w1 ⟨rfl, hf1⟩)
    go_ret
    exact ⟨rfl, hf1⟩
end Go.Proofs.YtaldbcfgfcdlhaaDoor.namp
