/-
  Layer 14: the states in memory, as they are read. next, note. My own text.
-/
import Derived.Test.YtgbffkneidnmfaaAhoLnk
import Derived.Test.YtgbffkneidnmfaaMapOf
import Derived.Test.YtgbffkneidnmfaaKeep
import Derived.Test.YtgbffkneidnmfaaTurn
import Derived.Test.YtgbffkneidnmfaaChecked
namespace Go.Proofs.Ytgbffkneidnmfaa.ahop
open Go.RowKit Go.Maps Go.Proofs.Ytgbffkneidnmfaa.base Go.Proofs.Ytgbffkneidnmfaa.aho
set_option linter.unusedVariables false
abbrev tState : TypeId := 58
abbrev tStates : TypeId := 47
abbrev tScan : TypeId := 53
abbrev tWords : TypeId := 50
abbrev tInt : TypeId := 3
abbrev tU8 : TypeId := 5
abbrev tMap : TypeId := 56
/-- a state's three cells -/
def sv (s : Sv) : List Value := [.map (some s.mb), iv (s.back : Nat), .slice s.ea s.ends.length s.ec]
theorem sv_len (s : Sv) : (sv s).length = 3 := rfl
def kvs (l : List (UInt8 × Nat)) : List (Value × Value) := l.map fun p => (bv p.1, iv (p.2 : Nat))
def es (l : List Nat) : List Value := l.map fun k => iv (k : Nat)
/-- the states lie below N -/
structure StsAt (w : World) (N : Nat) (A : Option Addr) (T : List Sv) : Prop where
  row : Rd w N A (T.length * 3) (T.flatMap sv)
  map : ∀ s ∈ T, MapOf Try.prog tU8 w s.mb (kvs s.ways) ∧ s.mb < N
  end_ : ∀ s ∈ T, Rd w N s.ea s.ends.length (es s.ends) ∧ s.ends.length ≤ s.ec ∧ s.ec ≤ maxLen
theorem StsAt.keep {w w' : World} {N : Nat} {A : Option Addr} {T : List Sv} (h : StsAt w N A T) (hk : ∀ k, k < N → w'.heap[k]? = w.heap[k]?) : StsAt w' N A T where
  row := h.row.keep hk
  map s hs := ⟨(h.map s hs).1.old (hk _ (h.map s hs).2), (h.map s hs).2⟩
  end_ s hs := ⟨(h.end_ s hs).1.keep hk, (h.end_ s hs).2⟩
theorem StsAt.fresh {w w' : World} {N : Nat} {A : Option Addr} {T : List Sv} (h : StsAt w N A T) (hN : N ≤ w.heap.size) (k : Fresh w w') : StsAt w' N A T :=
  h.keep fun i hi => k.block i (by omega)
theorem byteKey : Keyed Try.prog tU8 := int_keyed Try.underlying5
theorem key_byte (c : UInt8) : keyOf Try.prog tU8 (bv c) = some (.int .u8 (c.toNat : Int)) := by
  have := c.toNat_lt
  exact keyOf_int_mk Try.underlying5 (by simp [Lit.wf, IntKind.min, IntKind.max, IntKind.signed, IntKind.bits]; omega)
theorem zero_int (w : World) : (zeroValue tInt).run Try.prog w = .ok (.int .i64 0) w := by kernel_rfl
theorem bv_inj {a b : UInt8} (h : bv a = bv b) : a = b := by
  injection h with _ h
  exact UInt8.toNat_inj.1 (by omega)
/-- a look into a state's ways -/
theorem look_run {w : World} {b : Nat} {l : List (UInt8 × Nat)} (h : MapOf Try.prog tU8 w b (kvs l)) (c : UInt8) :
    (Instr.lookup tMap (.map (some b)) (bv c) false).run Try.prog w = .ok (iv (wlk l c : Nat)) w := by
  rcases look_cases l c with ⟨j, h1, h2⟩ | ⟨h1, h2⟩
  · rw [h2]
    exact h.look_hit byteKey Try.underlying56 (key_byte c) (List.mem_map.2 ⟨(c, j), h1, rfl⟩) false
  · rw [h2]
    exact h.look_miss byteKey Try.underlying56 (zero_int w) (key_byte c) (fun p hp e => by
      obtain ⟨x, hx, rfl⟩ := List.mem_map.1 hp
      exact h1 x hx (bv_inj e)) false
/-- a state's cells -/
theorem StsAt.at_ {w : World} {N : Nat} {A : Option Addr} {T : List Sv} (h : StsAt w N A T) {i : Nat} {s : Sv} (hs : T[i]? = some s) : ∃ b off, A = some ⟨b, off, none⟩ ∧ b < N ∧ w.cell? ⟨b, off + i * 3, none⟩ = some (.map (some s.mb)) ∧ w.cell? ⟨b, off + i * 3 + 1, none⟩ = some (iv (s.back : Nat)) ∧ w.cell? ⟨b, off + i * 3 + 2, none⟩ = some (.slice s.ea s.ends.length s.ec) := by
  have hi := (List.getElem?_eq_some_iff.1 hs).1
  obtain ⟨b, off, hA, hb, hc⟩ := h.row.2 (by omega)
  have hf := fun j v hv => flat_at sv_len T i s hs j v hv
  refine ⟨b, off, hA, hb, ?_, ?_, ?_⟩
  · have := hc (i * 3 + 0) _ (hf 0 _ rfl)
    simpa [Nat.add_assoc] using this
  · have := hc (i * 3 + 1) _ (hf 1 _ rfl)
    rwa [Nat.add_assoc]
  · have := hc (i * 3 + 2) _ (hf 2 _ rfl)
    rwa [Nat.add_assoc]

/-- the blocks' types -/
structure TyAt (w : World) (A : Option Addr) (T : List Sv) : Prop where
  row : RdT w tState A (T.flatMap sv)
  end_ : ∀ s ∈ T, RdT w tInt s.ea (es s.ends)
theorem rdT_keep {w w' : World} {t : TypeId} {N n : Nat} {A : Option Addr} {xs : List Value} (h : RdT w t A xs) (hr : Rd w N A n xs) (hk : ∀ (k : Nat) (cs : Array Value) (fr : Nat × Nat), k < N → w.heap[k]? = some (.cells cs t fr) → w'.heap[k]? = w.heap[k]?) : RdT w' t A xs := fun hne => by
  obtain ⟨b, off, cs, fr, hA, hb, hc⟩ := h hne
  obtain ⟨b', off', hA', hN, _⟩ := hr.2 (by
    have := hr.1
    have h2 : 0 < xs.length := List.length_pos_iff.2 hne
    omega)
  rw [hA] at hA'
  injection hA' with hA'
  injection hA' with hA'
  subst hA'
  exact ⟨b, off, cs, fr, hA, (hk b cs fr hN hb).trans hb, hc⟩
theorem rd_keep {w w' : World} {t : TypeId} {N n : Nat} {A : Option Addr} {xs : List Value} (h : RdT w t A xs) (hr : Rd w N A n xs) (hk : ∀ (k : Nat) (cs : Array Value) (fr : Nat × Nat), k < N → w.heap[k]? = some (.cells cs t fr) → w'.heap[k]? = w.heap[k]?) : Rd w' N A n xs := by
  refine ⟨hr.1, fun hn => ?_⟩
  have hne : xs ≠ [] := by
    rintro rfl
    have := hr.1
    simp at this
    omega
  obtain ⟨b, off, cs, fr, hA, hb, hc⟩ := h hne
  obtain ⟨b', off', hA', hN, hc'⟩ := hr.2 hn
  refine ⟨b', off', hA', hN, fun j u hu => ?_⟩
  rw [hA] at hA'
  injection hA' with hA'
  injection hA' with hA' _ _
  subst hA'
  exact (World.cell?_of_block (hk b cs fr hN hb)).trans (hc' j u hu)
theorem TyAt.keep {w w' : World} {N : Nat} {A : Option Addr} {T : List Sv} (h : TyAt w A T) (hs : StsAt w N A T) (hk : ∀ k, k < N → w'.heap[k]? = w.heap[k]?) : TyAt w' A T where
  row := rdT_keep h.row hs.row fun k _ _ hl _ => hk k hl
  end_ s hm := rdT_keep (h.end_ s hm) (hs.end_ s hm).1 fun k _ _ hl _ => hk k hl
/-- bytes have turned -/
theorem StsAt.bytes {w w' : World} {N g : Nat} {A : Option Addr} {T : List Sv} {cs : List Value} (hs : StsAt w N A T) (h : TyAt w A T) (k : But g w w') (hb : Bk w g tU8 cs) : StsAt w' N A T ∧ TyAt w' A T := by
  have hb' : w.heap[g]? = some (.cells cs.toArray tU8 (0, 0)) := hb
  have hkt : ∀ (t : TypeId), t ≠ tU8 → ∀ (i : Nat) (c : Array Value) (fr : Nat × Nat), i < N → w.heap[i]? = some (.cells c t fr) → w'.heap[i]? = w.heap[i]? := fun t ht i c fr _ hc => k.block i (Array.getElem?_eq_some_iff.1 hc).1 fun e => by
    injection e with e
    subst e
    rw [hb'] at hc
    injection hc with hc
    injection hc with _ hc
    exact ht hc.symm
  refine ⟨{ row := rd_keep h.row hs.row (hkt tState (by decide)), map := fun s hm => ⟨(hs.map s hm).1.old (k.block _ (hs.map s hm).1.inside fun e => ?_), (hs.map s hm).2⟩, end_ := fun s hm => ⟨rd_keep (h.end_ s hm) (hs.end_ s hm).1 (hkt tInt (by decide)), (hs.end_ s hm).2⟩ }, ?_⟩
  · injection e with e
    exact (hs.map s hm).1.ne_cells hb' e
  · exact { row := rdT_keep h.row hs.row (hkt tState (by decide)), end_ := fun s hm => rdT_keep (h.end_ s hm) (hs.end_ s hm).1 (hkt tInt (by decide)) }
theorem next_any (P : List Bs) (T : List Sv) (A : Option Addr) (n cap N : Nat) (c : UInt8) (i r : Nat) (w : World) (hS : StsAt w N A T) (hn : n = T.length) (hn2 : n ≤ 100000) (hch : Ch P T c i r) :
    Calls Try.prog 24 #[.slice A n cap, iv (i : Nat), bv c] w fun e w' => e = .returned (iv (r : Nat)) ∧ w' = w := by
  have HN := Lib.hid hn
  have HS := Lib.hid hS
  have HCH := Lib.hid hch
  clear hn hS hch
  go_enter Try.func24, Try.ntmps24
  go_wp2
  go_loopw [1] (fun v wr => ∃ k : Nat, v = .int .i64 (k : Nat) ∧ Hid (Ch P T c k r) ∧ wr = w) (fun v _ => (P.getD (intOf v).toNat []).length)
  case atStart => exact ⟨i, rfl, HCH, rfl⟩
  case round =>
    obtain ⟨k, rfl, hch, rfl⟩ := hrel
    have hch2 := hch.out
    clear hch
    cases hch2 with
    | @hit _ _ s hs hl h0 =>
      have hkn : k < n := by rw [HN.out]; exact (List.getElem?_eq_some_iff.1 hs).1
      obtain ⟨b, off, rfl, hb, c0, c1, c2⟩ := HS.out.at_ hs
      have hlk := look_run (HS.out.map s (List.mem_of_getElem? hs)).1 c
      rw [hl] at hlk
      by_cases hk0 : k = 0
      · subst hk0
        rw [Nat.zero_mul, Nat.add_zero] at c0
        clear h0 hl hs c1 c2
        go_wp2
        go_ret
        exact ⟨rfl, rfl⟩
      · have hr0 : ((r : Int) == 0) = false := by
          rw [beq_eq_false_iff_ne]
          have : r ≠ 0 := h0.resolve_left hk0
          omega
        have hk1 : ((k : Int) != 0) = true := by rw [bne_iff_ne]; omega
        clear h0 hl hs
        go_wp2
        go_ret
        exact ⟨rfl, rfl⟩
    | @step _ _ s p q hs h0 hl hp hq hlen hch =>
      have hkn : k < n := by rw [HN.out]; exact (List.getElem?_eq_some_iff.1 hs).1
      obtain ⟨b, off, rfl, hb, c0, c1, c2⟩ := HS.out.at_ hs
      have hlk := look_run (HS.out.map s (List.mem_of_getElem? hs)).1 c
      rw [hl] at hlk
      have hk1 : ((k : Int) != 0) = true := by rw [bne_iff_ne]; omega
      have HP := Lib.hid hp
      have HQ := Lib.hid hq
      have HL := Lib.hid hlen
      have HC := Lib.hid hch
      clear h0 hl hs hp hq hlen hch
      go_wp2
      go_roundw
      case rel => exact ⟨s.back, rfl, HC, trivial⟩
      case measure =>
        have e1 : P.getD k [] = p := by rw [List.getD_eq_getElem?_getD, HP.out]; rfl
        have e2 : P.getD s.back [] = q := by rw [List.getD_eq_getElem?_getD, HQ.out]; rfl
        simp only [intOf, Int.toNat_natCast, e1, e2]
        exact HL.out
/-- a scan's first places: a block of its own, of ints -/
theorem note_any (p g : Nat) (es_ : List Nat) (E : Option Addr) (m ec N : Nat) (A : Option Addr) (n cap at_ : Nat) (F : List Int) (fn fc z : Nat) (w : World) (hp : Bk w p tScan [.slice A n cap, iv (at_ : Nat), .slice (some ⟨g, 0, none⟩) fn fc, iv (z : Nat)])
    (hE : Rd w N E m (es es_)) (hNp : N ≤ p) (hNg : N ≤ g) (hgp : g ≠ p) (X : List Value) (hg : Bk w g tInt (F.map iv ++ X)) (hfn : F.length = fn) (hk : ∀ k ∈ es_, k < fn) (hm : m ≤ 100000) (hfn2 : fn ≤ 100000) (R : Nat) (hR : R + cnt (note (z : Nat) es_ F) = cnt F) :
    Calls Try.prog 25 #[.pointer (some ⟨p, 0, none⟩), .slice E m ec] w fun e w' => e = .returned (iv (R : Nat)) ∧ Bk w' g tInt ((note (z : Nat) es_ F).map iv ++ X) ∧ But g w w' := by
  have hz : ((z : Nat) : Int) ≠ -1 := by omega
  have HR := Lib.hid hR
  clear hR
  have HE := Lib.hid hE
  have HP := Lib.hid hp
  have HG := Lib.hid hg
  have HFN := Lib.hid hfn
  have HK := Lib.hid hk
  have hmE : es_.length = m := by have := hE.1; unfold es at this; rwa [List.length_map] at this
  have HME := Lib.hid hmE
  clear hE hp hg hfn hk hmE
  go_enter Try.func25, Try.ntmps25
  go_wp2
  go_loopw [5, 10] (fun v u wr => ∃ (k : Nat) (q : Nat), v = iv (q : Nat) ∧ u = iv (k : Nat) ∧ k ≤ m ∧ q ≤ k ∧ Hid (q + cnt (note (z : Nat) (es_.take k) F) = cnt F) ∧ Hid (Bk wr g tInt ((note (z : Nat) (es_.take k) F).map iv ++ X)) ∧ Hid (But g w wr)) (fun _ u _ => m - (intOf u).toNat)
  case atStart => exact ⟨0, 0, rfl, rfl, Nat.zero_le _, Nat.le_refl _, Lib.hid (by simp [note]), by simpa [note] using HG, Lib.hid (But.refl _ _)⟩
  case round =>
    obtain ⟨k, q, rfl, rfl, hkm, hqk, hq, hb, hbut⟩ := hrel
    by_cases hlt : k < m
    · obtain ⟨x, hx⟩ : ∃ x, es_[k]? = some x := ⟨_, List.getElem?_eq_getElem (by rw [HME.out]; exact hlt)⟩
      have hxf : x < fn := HK.out x (List.mem_of_getElem? hx)
      obtain ⟨y, hy⟩ : ∃ y, (note (z : Nat) (es_.take k) F)[x]? = some y := ⟨_, List.getElem?_eq_getElem (by rw [note_len, HFN.out]; exact hxf)⟩
      have htk : es_.take (k + 1) = es_.take k ++ [x] := by rw [List.take_add_one, hx]; rfl
      have hxlen : x < ((note (z : Nat) (es_.take k) F).map iv).length := by rw [List.length_map, note_len, HFN.out]; exact hxf
      have hcell := hb.out.cell (i := x) (v := iv y) (by rw [List.getElem?_append_left hxlen, List.getElem?_map, hy]; rfl)
      have hfree := hb.out.free x
      obtain ⟨eb, eo, hE1, heb, hE2⟩ := HE.out.2 (by omega)
      subst hE1
      have hec : wr.cell? ⟨eb, eo + k, none⟩ = some (iv (x : Nat)) := by
        have h1 := hE2 k (iv (x : Nat)) (by unfold es; rw [List.getElem?_map, hx]; rfl)
        exact (World.cell?_of_block (hbut.out.block eb (by have := HP.out.inside; omega) (fun e => by injection e; omega))).trans h1
      have hpb := HP.out.old (hbut.out.block p HP.out.inside (fun e => by injection e; omega))
      have p2 := hpb.cell (i := 2) rfl
      have p3 := hpb.cell (i := 3) rfl
      have hw1 : IntKind.i64.wrap ((k : Int) + 1) = (k : Int) + 1 := IntWalk.i64_in _ (by omega)
      have hw2 : IntKind.i64.wrap ((q : Int) + 1) = (q : Int) + 1 := IntWalk.i64_in _ (by omega)
      have hns := note_snoc (z : Nat) (es_.take k) x F
      rw [← htk] at hns
      have HX := Lib.hid hx
      by_cases hy1 : y = -1
      · subst hy1
        rw [if_pos hy] at hns
        have hcs := cnt_set hz hy
        rw [← hns] at hcs
        have p2d := (hpb.fresh (Fresh.drew _)).cell (i := 2) rfl
        have p3d := (hpb.fresh (Fresh.drew _)).cell (i := 3) rfl
        have hcelld := (hb.out.fresh (Fresh.drew _)).cell (i := x) (v := iv (-1)) (by rw [List.getElem?_append_left hxlen, List.getElem?_map, hy]; rfl)
        have hfreed := (hb.out.fresh (Fresh.drew _)).free x
        have HNS := Lib.hid hns
        have HCS := Lib.hid hcs
        clear hns hcs htk hx hy
        go_wp2
        go_region
        go_wp2
        go_roundw
        case rel =>
          refine ⟨k + 1, q + 1, by go_num, by go_num, by omega, by omega, ?_, ?_, ?_⟩
          · have h1 := HCS.out
            have h2 := hq.out
            exact Lib.hid (by omega)
          · have h1 := (hb.out.fresh (Fresh.drew _)).put x (iv (z : Nat))
            rw [HNS.out, List.map_set]
            rw [List.set_append_left _ _ hxlen] at h1
            exact Lib.hid h1
          · exact Lib.hid (hbut.out.trans ((But.drewN _ 1).trans (But.put _ _)))
        case measure => simp [intOf]; omega
      · rw [if_neg (by rw [hy]; intro e; injection e with e; exact hy1 e)] at hns
        have hyb : (y == (-1 : Int)) = false := by rw [beq_eq_false_iff_ne]; exact hy1
        have HNS := Lib.hid hns
        clear hns htk hx hy hy1
        go_wp2
        go_roundw
        case rel =>
          refine ⟨k + 1, q, rfl, by go_num, by omega, by omega, ?_, ?_, hbut⟩
          · rw [HNS.out]; exact hq
          · rw [HNS.out]; exact hb
        case measure => simp [intOf]; omega
    · have hkm2 : k = m := by omega
      subst hkm2
      have htk : es_.take k = es_ := List.take_of_length_le (by rw [HME.out]; exact Nat.le_refl _)
      rw [htk] at hq hb
      have hqr : R = q := by
        have hq2 := hq.out
        have h3 := HR.out
        omega
      subst hqr
      clear htk
      go_wp2
      go_ret
      exact ⟨rfl, hb.out, hbut.out⟩
end Go.Proofs.Ytgbffkneidnmfaa.ahop
