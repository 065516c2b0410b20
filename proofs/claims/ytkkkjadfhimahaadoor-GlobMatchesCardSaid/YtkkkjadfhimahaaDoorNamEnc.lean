/-
  Layer 9: Decode, bytesByRune, Encode, May. My own text.
-/
import Derived.Test.YtkkkjadfhimahaaDoorNamPage
import Derived.Test.YtkkkjadfhimahaaDoorNamStr
import Derived.Test.YtkkkjadfhimahaaDoorMapOf
import Derived.Lib.OthersKept
namespace Go.Proofs.YtkkkjadfhimahaaDoor.namp
open Go.RowKit Go.Maps Go.Proofs.YtkkkjadfhimahaaDoor.base Go.Proofs.YtkkkjadfhimahaaDoor.nam
set_option linter.unusedVariables false

/-- what Decode tells -/
def decP (told : Bool) (bs : List UInt8) : Value := if told then (if Lib.validD bs = true then .tuple #[.string ⟨bs.toArray⟩, .bool true] else .tuple #[.string ⟨#[]⟩, .bool false]) else .tuple #[.string ⟨(tx (pgs bs)).toArray⟩, .bool true]
abbrev tRune : TypeId := 21
/-- the map's entries for the first k bytes -/
def mp (k : Nat) : List (Value × Value) := (List.range k).reverse.map fun b => (.int .i32 (pageR b : Nat), .int .u8 (b : Nat))
theorem mp_succ (k : Nat) : mp (k + 1) = (.int .i32 (pageR k : Nat), .int .u8 (k : Nat)) :: mp k := by simp [mp, List.range_succ]
theorem mp_hit {r b : Nat} (h : pageB r = some b) : ((.int .i32 (r : Nat), .int .u8 (b : Nat)) : Value × Value) ∈ mp 256 := by
  have := pageB_some h
  refine List.mem_map.2 ⟨b, by simp; exact this.1, by rw [this.2]⟩
theorem mp_miss {r : Nat} (h : pageB r = none) : ∀ p ∈ mp 256, p.1 ≠ .int .i32 (r : Nat) := by
  intro p hp
  obtain ⟨b, hb, rfl⟩ := List.mem_map.1 hp
  have := pageB_none h b (by simpa using hb)
  intro e
  injection e with _ e
  exact this (by omega)
theorem mp_new {k : Nat} (hk : k < 256) : ∀ p ∈ mp k, p.1 ≠ .int .i32 (pageR k : Nat) := by
  intro p hp
  obtain ⟨b, hb, rfl⟩ := List.mem_map.1 hp
  have hb2 : b < k := by simpa using hb
  intro e
  injection e with _ e
  have := pageR_inj (a := b) (b := k) (by omega) hk (by omega)
  omega
theorem runeKey : Keyed Tryd.prog tRune := int_keyed Tryd.underlying21
theorem key_rune (r : Nat) (h : r ≤ 1114111) : keyOf Tryd.prog tRune (.int .i32 (r : Nat)) = some (.int .i32 (r : Nat)) := keyOf_int_mk Tryd.underlying21 (by simp [Lit.wf, IntKind.min, IntKind.max, IntKind.signed, IntKind.bits]; omega)
theorem zero_byte (w : World) : (zeroValue 5).run Tryd.prog w = .ok (.int .u8 0) w := by kernel_rfl

/-! a text that is gone through -/
theorem own_ne_iter {w : World} {base n c k pos : Nat} {e : TypeId} {A : Option Addr} {xs : List Value} {s : ByteArray} (h : Own w base e A n c xs) (hk : w.heap[k]? = some (.stringIter s pos)) : (Value.slice A n c).ownBlock ≠ some k := by
  rcases h.2 with ⟨hv, _⟩ | ⟨g', cap, cur, hv, _, hh, _⟩
  · rw [hv]; simp [Value.ownBlock]
  · rw [hv]
    simp only [Value.ownBlock, ne_eq, Option.some.injEq]
    intro e
    subst e
    rw [hh] at hk
    cases hk
theorem iterAt_but (w : World) (k : Nat) (s : ByteArray) (pos : Nat) : But k w (w.iterAt k s pos) :=
  ⟨rfl, rfl, rfl, by rw [Lib.iterAt_size]; exact Nat.le_refl _, fun i hi hne => Lib.iterAt_other w k i s pos (fun e => hne (by rw [e]))⟩
theorem mapOf_ne_iter {P : Program} {t : TypeId} {w : World} {b k pos : Nat} {kv : List (Value × Value)} {s : ByteArray} (h : MapOf P t w b kv) (hk : w.heap[k]? = some (.stringIter s pos)) : b ≠ k := by
  rintro rfl
  obtain ⟨es, clock, hb, _⟩ := h
  rw [hb] at hk
  cases hk
theorem mapOf_but {P : Program} {t : TypeId} {w w' : World} {b k : Nat} {kv : List (Value × Value)} (h : MapOf P t w b kv) (hb : But k w w') (hne : b ≠ k) : MapOf P t w' b kv :=
  h.old (hb.block b h.inside (fun e => hne (by injection e)))
theorem mapOf_ne_own {P : Program} {t : TypeId} {w : World} {b base n c : Nat} {e : TypeId} {A : Option Addr} {xs : List Value} {kv : List (Value × Value)} (h : MapOf P t w b kv) (ho : Own w base e A n c xs) : (Value.slice A n c).ownBlock ≠ some b := by
  obtain ⟨es, clock, hb, _⟩ := h
  rcases ho.2 with ⟨hv, _⟩ | ⟨g', cap, cur, hv, _, hh, _⟩
  · rw [hv]; simp [Value.ownBlock]
  · rw [hv]
    simp only [Value.ownBlock, ne_eq, Option.some.injEq]
    intro e
    subst e
    rw [hh] at hb
    cases hb
theorem in_of_cell' {w : World} {k : Nat} {o : Obj} (h : w.heap[k]? = some o) : k < w.heap.size := (Array.getElem?_eq_some_iff.1 h).1
theorem range_str (W : World) (s : ByteArray) : (Instr.range 9 (.string s)).run Tryd.prog W = .ok (.pointer (some ⟨W.heap.size, 0, none⟩)) (W.iter s 0) := run_range_string W 9 s Tryd.underlying9

theorem decode_rune {s : ByteArray} {done rest : List Nat} {r : Nat} {u : List UInt8} (hs : s.data.toList = tx (done ++ r :: rest) ++ u) (hr : Rn r) : Utf8.decode s (tx done).length = (r, wid r) ∧ (tx done).length < s.size ∧ (tx done).length + wid r = (tx (done ++ [r])).length := by
  have e : tx (done ++ r :: rest) ++ u = tx done ++ (en r ++ (tx rest ++ u)) := by rw [tx_append, tx_cons, List.append_assoc, List.append_assoc]
  refine ⟨?_, ?_, ?_⟩
  · rw [decode_drop, hs, e, List.drop_left, dcd_good hr]
  · have : s.size = s.data.toList.length := (Array.length_toList (xs := s.data)).symm
    rw [this, hs, e, List.length_append, List.length_append, en_len]
    have := wid_bd r
    omega
  · rw [tx_snoc, List.length_append, en_len]
theorem decode_bad {s : ByteArray} {done : List Nat} {u : List UInt8} (hs : s.data.toList = tx done ++ u) (hu : Bad u) : Utf8.decode s (tx done).length = (65533, 1) ∧ (tx done).length < s.size := by
  refine ⟨?_, ?_⟩
  · rw [decode_drop, hs, List.drop_left, hu.2]
  · have : s.size = s.data.toList.length := (Array.length_toList (xs := s.data)).symm
    rw [this, hs, List.length_append]
    have := List.length_pos_iff.2 hu.1
    omega
theorem decode_end {s : ByteArray} {done : List Nat} (hs : s.data.toList = tx done) : ¬ (tx done).length < s.size := by
  have : s.size = s.data.toList.length := (Array.length_toList (xs := s.data)).symm
  rw [this, hs]
  omega
/-- the byte of a rune -/
def bR9 (r : Nat) : UInt8 := UInt8.ofNat ((pageB r).getD 0)
def hasB (r : Nat) : Bool := (pageB r).isSome
/-- what Encode tells of a text that begins with these runes, and then with what is none -/
def encB (rs : List Nat) (u : List UInt8) : List UInt8 := if u = [] ∧ rs.all hasB = true then rs.map bR9 else tx rs ++ u
def encT (rs : List Nat) (u : List UInt8) : Bool := !(decide (u = []) && rs.all hasB)
def EncIs (rs : List Nat) (u : List UInt8) (w : World) (e : Ending) (w' : World) : Prop :=
  ∃ A n c, e = .returned (.tuple #[.slice A n c, .bool (encT rs u)]) ∧ n = (encB rs u).length ∧ n ≤ c ∧ c ≤ maxLen ∧ Fresh w w' ∧ Rd w' w'.heap.size A n ((encB rs u).map bv)
theorem bR9_is {r b : Nat} (h : pageB r = some b) : (Value.int .u8 (b : Nat)) = bv (bR9 r) := by
  have := (pageB_some h).1
  rw [bv, bR9, h, Option.getD_some, nat_u8 b this]
theorem info_byte : (Tryd.prog.info? 5).map (fun i => (i.zero, i.size, i.bytes)) = some (some (.int .u8 0), 1, 1) := by kernel_rfl

/-- what May tells -/
def mayP (rs : List Nat) (u : List UInt8) : Bool := decide (1 ≤ (tx rs ++ u).length) && (decide ((tx rs ++ u).length ≤ 40) && (decide (u = []) && rs.all fun r => decide (32 ≤ r) && decide (r ≠ 127)))
end Go.Proofs.YtkkkjadfhimahaaDoor.namp
