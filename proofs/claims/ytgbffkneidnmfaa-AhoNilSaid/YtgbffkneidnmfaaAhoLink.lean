/-
  Layer 14: link. My own text.
-/
import Derived.Test.YtgbffkneidnmfaaAhoAdd
import Derived.Test.YtgbffkneidnmfaaZipApx
namespace Go.Proofs.Ytgbffkneidnmfaa.ahop
open Go.RowKit Go.Maps Go.Proofs.Ytgbffkneidnmfaa.base Go.Proofs.Ytgbffkneidnmfaa.aho
set_option linter.unusedVariables false
theorem own_ne_iter {P : Program} {k : TypeId} {w : World} {b r base n c : Nat} {kv left : List (Value × Value)} {e : TypeId} {A : Option Addr} {xs : List Value} (h : Own w base e A n c xs) (hr : RangeOf P k w b r kv left) : (Value.slice A n c).ownBlock ≠ some r ∧ (Value.slice A n c).ownBlock ≠ some b := by
  obtain ⟨es, clock, since, seen, c0, hb, hs, hk, hq, hr, _⟩ := hr
  rcases h.2 with ⟨hv, _⟩ | ⟨g', cap, cur, hv, _, hh, _⟩
  · rw [hv]; simp [Value.ownBlock]
  · rw [hv]
    simp only [Value.ownBlock, ne_eq, Option.some.injEq]
    refine ⟨fun e => ?_, fun e => ?_⟩
    · subst e; rw [hh] at hr; cases hr
    · subst e; rw [hh] at hb; cases hb
theorem range_left {P : Program} {k : TypeId} {w : World} {b r : Nat} {kv left : List (Value × Value)} (h : RangeOf P k w b r kv left) : w.rangeLeft b r = left.length := by
  obtain ⟨es, clock, since, seen, c0, hb, hs, hk, hq, hr, _, _, _, hl⟩ := h
  unfold World.rangeLeft
  rw [hb, hr]
  have := hl.length_eq
  simpa using this
theorem range_perm {P : Program} {k : TypeId} {w : World} {b r : Nat} {kv left left' : List (Value × Value)} (h : RangeOf P k w b r kv left) (hp : left.Perm left') : RangeOf P k w b r kv left' := by
  obtain ⟨es, clock, since, seen, c0, hb, hs, hk, hq, hr, h1, h2, h3, hl⟩ := h
  exact ⟨es, clock, since, seen, c0, hb, hs, hk, hq, hr, h1, h2, h3, hl.trans hp⟩
theorem range_grown {P : Program} {k : TypeId} {w w' : World} {b r base n c : Nat} {kv left : List (Value × Value)} {e : TypeId} {A : Option Addr} {xs : List Value} (h : RangeOf P k w b r kv left) (ho : Own w base e A n c xs) (hg : w.grownBy w' (Value.slice A n c).ownBlock) : RangeOf P k w' b r kv left :=
  h.old (hg.block _ h.map.inside fun e1 => (own_ne_iter ho h).2 e1.symm) (hg.block _ h.iter fun e1 => (own_ne_iter ho h).1 e1.symm)
theorem range_cells {P : Program} {k : TypeId} {w w' : World} {b r g : Nat} {kv left : List (Value × Value)} {cs : Array Value} {e : TypeId} (h : RangeOf P k w b r kv left) (hg : w.heap[g]? = some (.cells cs e (0, 0))) (hb : But g w w') : RangeOf P k w' b r kv left := by
  have h0 := h
  obtain ⟨es, clock, since, seen, c0, hbb, hs, hk, hq, hrr, _⟩ := h
  refine h0.old (hb.block _ h0.map.inside fun e1 => ?_) (hb.block _ h0.iter fun e1 => ?_)
  · injection e1 with e1; subst e1; rw [hbb] at hg; cases hg
  · injection e1 with e1; subst e1; rw [hrr] at hg; cases hg
theorem perm_map {α β : Type} [DecidableEq α] {f : α → β} {l : List α} {x : β} {r : List β} (h : (l.map f).Perm (x :: r)) : ∃ a l2, l.Perm (a :: l2) ∧ f a = x ∧ r.Perm (l2.map f) := by
  obtain ⟨a, ha, he⟩ := List.mem_map.1 (h.mem_iff.2 (List.mem_cons_self ..))
  have h1 := List.perm_cons_erase ha
  refine ⟨a, l.erase a, h1, he, ?_⟩
  have h2 := h1.map f
  rw [List.map_cons, he] at h2
  exact List.Perm.cons_inv (h.symm.trans h2)
theorem own_lit (w : World) (x : Value) (e : TypeId) : Own (w.alloc (.cells #[x] e)) w.heap.size e (some ⟨w.heap.size, 0, none⟩) 1 1 [x] :=
  ⟨rfl, .inr ⟨w.heap.size, 1, #[x], rfl, Nat.le_refl _, heap_alloc_new w _, Nat.le_refl _, by unfold maxLen; omega, rfl, rfl⟩⟩
theorem own_low {w : World} {base b n c : Nat} {e : TypeId} {A : Option Addr} {xs : List Value} (h : Own w base e A n c xs) (hb : b ≤ base) : Own w b e A n c xs :=
  ⟨h.1, h.2.imp id fun ⟨g, cap, cur, hv, hg, r⟩ => ⟨g, cap, cur, hv, Nat.le_trans hb hg, r⟩⟩
theorem own_at {w : World} {base n c : Nat} {e : TypeId} {A : Option Addr} {xs : List Value} (h : Own w base e A n c xs) {i : Nat} {v : Value} (hv : xs[i]? = some v) : ∃ q, A = some ⟨q, 0, none⟩ ∧ w.cell? ⟨q, i, none⟩ = some v := by
  have hi := (List.getElem?_eq_some_iff.1 hv).1
  have hl := h.1
  rcases h.2 with ⟨_, hn⟩ | ⟨g, cap, cur, hv2, hb, hg, h1, h2, h3, h4⟩
  · omega
  · injection hv2 with hA _ _
    refine ⟨g, hA, ?_⟩
    rw [← h4, List.getElem?_take] at hv
    split at hv
    · rw [cell_of_row w g i _ _ (0, 0) hg, ← hv]; simp
    · cases hv
theorem ways_nodup {P : Program} {k : TypeId} {w : World} {b : Nat} {l : List (UInt8 × Nat)} (h : MapOf P k w b (kvs l)) : l.Nodup := by
  have h1 := h.apart
  unfold kvs at h1
  rw [List.pairwise_map] at h1
  exact h1.imp fun h2 e => h2 (by rw [e])
theorem back_same {T : List Sv} {i r : Nat} {s : Sv} (hs : T[i]? = some s) (h : s.back = r) : T.set i { s with back := r } = T := by
  subst h
  exact set_same hs
theorem own_ne_cells {w : World} {base n c g : Nat} {e t : TypeId} {A : Option Addr} {xs : List Value} {cs : Array Value} (h : Own w base e A n c xs) (hg : w.heap[g]? = some (.cells cs t (0, 0))) (hne : e ≠ t) : (Value.slice A n c).ownBlock ≠ some g := fun e1 => by
  rcases h.2 with ⟨hv, _⟩ | ⟨g', cap, cur, hv, _, hh, _⟩
  · rw [hv] at e1; cases e1
  · rw [hv] at e1
    injection e1 with e1
    simp only at e1
    subst e1
    rw [hh] at hg
    injection hg with hg
    injection hg with _ ht
    exact hne ht
theorem keep_grown {t : TypeId} {w w' : World} {row : Option Nat} (h : w.grownBy w' row) (hr : ∀ g, row = some g → ∀ (cs : Array Value) (fr : Nat × Nat), w.heap[g]? ≠ some (.cells cs t fr)) : KeepT t w w' := fun b cs fr hb =>
  (h.block b (Array.getElem?_eq_some_iff.1 hb).1 fun e => hr b e.symm cs fr hb).trans hb
theorem keep_iter {P : Program} {k t : TypeId} {w w' : World} {b r : Nat} {kv left : List (Value × Value)} (h : But r w w') (hr : RangeOf P k w b r kv left) : KeepT t w w' := keep_grown h fun g hg cs fr hc => by
  injection hg with hg
  subst hg
  obtain ⟨es, clock, since, seen, c0, _, _, _, _, hb', _⟩ := hr
  rw [hb'] at hc; cases hc
theorem keep_cells {t e : TypeId} {w w' : World} {g : Nat} {cs : Array Value} (h : But g w w') (hg : w.heap[g]? = some (.cells cs e (0, 0))) (hne : e ≠ t) : KeepT t w w' := keep_grown h fun q hq cs' fr hc => by
  injection hq with hq
  subst hq
  rw [hg] at hc
  injection hc with hc
  injection hc with _ ht
  exact hne ht
def Ap (T : List Sv) (v : Value) : Prop := ∀ s ∈ T, ∀ g, v.ownBlock = some g → blk s ≠ some g
set_option maxRecDepth 100000 in
set_option maxHeartbeats 4000000 in
theorem link_any (W : List Bs) (P : List Bs) (base : Nat) (A0 : Option Addr) (n c0 : Nat) (T0 : List Sv) (w : World) (hbd : Bd w base A0 n c0 T0) (hL : Lk W P T0 [0] 0 []) (hbw : base ≤ w.heap.size) (hW : W.length ≤ 1000) (hn : n ≤ 100000) :
    Calls Try.prog 32 #[.slice A0 n c0] w fun e w' => ∃ T : List Sv, e = .returned (.tuple #[]) ∧ Bd w' base A0 n c0 T ∧ Ready W P T ∧ Below base w w' ∧ w.heap.size ≤ w'.heap.size ∧ KeepT tStates w w' := by
  obtain ⟨i0, hi0, hz0, hz1, hz2⟩ := info_parts intInfo
  have hf0 : Fresh w (w.alloc (.cells #[iv 0] tInt)) := Fresh.alloc _ _
  have hd0 := hbd.fresh hf0
  have ho0 := own_lit w (iv 0) tInt
  have hap0 : Ap T0 (.slice (some ⟨w.heap.size, 0, none⟩) 1 1) := fun s hs g hg e => by
    injection hg with hg
    have := (hbd.blk_cells hs e).2.1
    simp only at hg
    omega
  have HD0 := Lib.hid hd0
  have HO0 := Lib.hid ho0
  have HAP0 := Lib.hid hap0
  have HF0 := Lib.hid hf0
  have HL0 := Lib.hid hL
  clear hbd hd0 ho0 hap0 hf0 hL
  go_enter Try.func32, Try.ntmps32
  go_wp2
  go_loopw [2, 3] (fun v u wr => ∃ (RA : Option Addr) (rn rc i : Nat) (row : List Nat) (T : List Sv), v = .slice RA rn rc ∧ u = iv (i : Nat) ∧ i ≤ rn ∧ Hid (row.length = rn) ∧ Hid (Own wr base tInt RA rn rc (es row)) ∧ Hid (Bd wr base A0 n c0 T) ∧ Hid (Lk W P T row i []) ∧ Hid (Ap T (.slice RA rn rc)) ∧ Hid (Below base w wr) ∧ w.heap.size ≤ wr.heap.size ∧ Hid (KeepT tStates w wr)) (fun _ u _ => n + 1 - (intOf u).toNat)
  case atStart => exact ⟨some ⟨w.heap.size, 0, none⟩, 1, 1, 0, [0], T0, rfl, rfl, by omega, rfl, Lib.hid (own_low HO0.out hbw), HD0, HL0, HAP0, Lib.hid (HF0.out.mono hbw), HF0.out.size, Lib.hid (KeepT.fresh HF0.out)⟩
  case round =>
    obtain ⟨RA, rn, rc, i, row, T, rfl, rfl, hi, hrl, hown, hbd, hlk, hap, hbel, hsz, hkt⟩ := hrel
    have hrn : rn ≤ n := by
      have h1 := hlk.out.few
      rw [hrl.out, hbd.out.len] at h1
      exact h1
    by_cases hlt : i < rn
    · obtain ⟨fr, hfr⟩ : ∃ fr, row[i]? = some fr := ⟨_, List.getElem?_eq_getElem (by rw [hrl.out]; exact hlt)⟩
      have hfP : fr < P.length := hlk.out.inT fr (List.mem_of_getElem? hfr)
      obtain ⟨sf, hsf⟩ : ∃ sf, T[fr]? = some sf := ⟨_, List.getElem?_eq_getElem (by rw [← hlk.out.trie.len]; exact hfP)⟩
      obtain ⟨q, hRA, hrc⟩ := own_at hown.out (i := i) (v := iv (fr : Nat)) (by unfold es; rw [List.getElem?_map, hfr]; rfl)
      obtain ⟨g, hA, hbg, hgw, hfn, _, p0, p1, p2⟩ := hbd.out.place hsf
      subst hRA
      subst hA
      have hmp := hbd.out.map sf (List.mem_of_getElem? hsf)
      have hwn := ways_nodup hmp.1
      have HWN := Lib.hid hwn
      have HMP := Lib.hid hmp
      have HFR := Lib.hid hfr
      have HSF := Lib.hid hsf
      obtain ⟨W0, hW0⟩ : ∃ V : World, V = wr := ⟨wr, rfl⟩
      subst hW0
      clear hfP hsf hfr hmp hwn
      go_wp2_with (at_range; refine wpList_map_range _ rfl _ tMap rfl tU8 tInt Try.underlying56 sf.mb (kvs sf.ways) rfl HMP.out.1 W0.heap.size rfl ?_; intro w0 hrg0 hf0 hs0)
      have HRG0 := Lib.hid hrg0
      have HF1 := Lib.hid hf0
      clear hrg0 hf0 hs0
      have HW0 : base ≤ W0.heap.size := by omega
      go_frame
      go_loopw [2] (fun v wr => ∃ (RA : Option Addr) (rn rc : Nat) (row : List Nat) (T : List Sv) (H left : List (UInt8 × Nat)) (sf2 : Sv), v = .slice RA rn rc ∧ Hid (row.length = rn) ∧ Hid (Own wr base tInt RA rn rc (es row)) ∧ Hid (Bd wr base (some ⟨g, 0, none⟩) n c0 T) ∧ Hid (Lk W P T row i H) ∧ Hid (Ap T (.slice RA rn rc)) ∧ Hid (Below base w wr) ∧ w.heap.size ≤ wr.heap.size ∧
          Hid (RangeOf Try.prog tU8 wr sf.mb W0.heap.size (kvs sf.ways) (kvs left)) ∧ Hid ((H ++ left).Perm sf.ways) ∧ Hid (row[i]? = some fr) ∧ Hid (T[fr]? = some sf2 ∧ sf2.ways = sf.ways) ∧ Hid (KeepT tStates w wr)) (fun _ wr => wr.rangeLeft sf.mb W0.heap.size)
      case atStart => exact ⟨some ⟨q, 0, none⟩, rn, rc, row, T, [], sf.ways, sf, rfl, hrl, Lib.hid (own_keep hown.out fun b hb => HF1.out.block b (World.ownsRow.lt hown.out b hb).2), Lib.hid (hbd.out.fresh HF1.out), hlk, hap, Lib.hid (below_fresh hbel.out (by omega) HF1.out), Nat.le_trans hsz HF1.out.size, HRG0, Lib.hid (List.Perm.refl _), HFR, Lib.hid ⟨HSF.out, rfl⟩, Lib.hid (hkt.out.trans (KeepT.fresh HF1.out))⟩
      case round =>
        clear hrl hown hbd hlk hap hbel hsz hkt HRG0 HF1 HSF HFR HMP hrn hi
        obtain ⟨RA, rn, rc, row, T, H, left, sf2, rfl, hrl, hown, hbd, hlk, hap, hbel, hsz, hrg, hperm, hfr, hsf2, hkt⟩ := hrel
        have hrn : rn ≤ n := by
          have h1 := hlk.out.few
          rw [hrl.out, hbd.out.len] at h1
          exact h1
        have hin : i < rn := by have := (List.getElem?_eq_some_iff.1 hfr.out).1; rw [hrl.out] at this; exact this
        go_wp2_with (at_next; refine wpList_map_next _ rfl _ rfl tU8 sf.mb W0.heap.size (kvs sf.ways) (kvs left) rfl hrg.out ?_ ?_)
        · intro h0
          have hl0 : left = [] := List.map_eq_nil_iff.1 h0
          subst hl0
          have hp2 : H.Perm sf.ways := by have := hperm.out; rwa [List.append_nil] at this
          have hpast := hlk.out.past hfr.out hsf2.out.1 (fun x hx => by rw [hsf2.out.2] at hx; exact hp2.mem_iff.2 hx)
          have HPAST := Lib.hid hpast
          clear h0 hp2 hpast hperm hlk hrg
          go_wp2
          go_roundw
          case rel => exact ⟨RA, rn, rc, i + 1, row, T, rfl, by go_num, by omega, hrl, hown, hbd, HPAST, hap, hbel, hsz, hkt⟩
          case measure => simp [intOf]; omega
        · intro key v left' w1 hp hrg1 hb1 hs1 hen
          obtain ⟨⟨ch, tt⟩, l2, hpl, hkv, hl2⟩ := perm_map (f := fun p : UInt8 × Nat => (bv p.1, iv (p.2 : Nat))) hp
          obtain ⟨rfl, rfl⟩ : bv ch = key ∧ iv (tt : Nat) = v := by injection hkv with h1 h2; exact ⟨h1, h2⟩
          have hrg1b : RangeOf Try.prog tU8 w1 sf.mb W0.heap.size (kvs sf.ways) (kvs l2) := range_perm hrg1 hl2
          have hperm2 : ((H ++ [(ch, tt)]) ++ l2).Perm sf.ways := by
            refine List.Perm.trans ?_ hperm.out
            rw [List.append_assoc]
            exact List.Perm.append_left H (by simpa using hpl.symm)
          have hH : (ch, tt) ∉ H := fun hm => by
            have h1 := hperm2.nodup_iff.2 HWN.out
            rw [List.append_assoc, List.nodup_append] at h1
            exact h1.2.2 _ hm (ch, tt) (by simp) rfl
          have hin2 : (ch, tt) ∈ sf2.ways := by rw [hsf2.out.2]; exact hperm2.mem_iff.1 (by simp)
          obtain ⟨hnot, hne, p, st, r, sr, pr, hpf, hpto, hst, hb0, hch, hr0, hpr, hsr, hrr, hrto, hrt⟩ := hlk.out.way hfr.out hsf2.out.1 hin2 hH
          have hll : l2.length < left.length := by have := hpl.length_eq; simp at this; omega
          have hml : wr.rangeLeft sf.mb W0.heap.size = left.length := by rw [range_left hrg.out]; unfold kvs; simp
          have hbd1 := hbd.out.iter hb1 hrg.out
          have hkt1 : KeepT tStates w w1 := hkt.out.trans (keep_iter hb1 hrg.out)
          have HKT1 := Lib.hid hkt1
          have hown1 : Own w1 base tInt RA rn rc (es row) := own_keep hown.out fun b hb => hb1.block b (World.ownsRow.lt hown.out b hb).2 fun e => (own_ne_iter hown.out hrg.out).1 (by rw [hb, e])
          have hfa : Fresh w1 (w1.alloc (.cells #[iv (tt : Nat)] tInt)) := Fresh.alloc _ _
          have hsz1 : wr.heap.size ≤ w1.heap.size := hb1.size
          have hbel1 := below_but hbel.out HW0 (by omega) hb1
          have hlk5 : ∀ st' : Sv, st'.ways = st.ways → st'.back = r → st'.ends = st.ends ++ sr.ends → Lk W P (T.set tt st') (row ++ [tt]) i (H ++ [(ch, tt)]) := fun st' e1 e2 e3 => hlk.out.step hfr.out hpf hpto hnot hst hsr hrr hrt e1 e2 e3
          have hfe1 := hlk.out.fewE (List.mem_of_getElem? hst)
          have hfe2 := hlk.out.fewE (List.mem_of_getElem? hsr)
          have HFE : Hid (st.ends.length ≤ W.length ∧ sr.ends.length ≤ W.length) := ⟨hfe1, hfe2⟩
          have HML := Lib.hid hml
          have HLL := Lib.hid hll
          have HRGB := Lib.hid hrg1b
          have HP2 := Lib.hid hperm2
          have HST := Lib.hid hst
          have HSR := Lib.hid hsr
          have HCH := Lib.hid hch
          have HR0 := Lib.hid hr0
          have HB0 := Lib.hid hb0
          have HNE := Lib.hid hne
          have HRTO := Lib.hid hrto
          have HBD1 := Lib.hid hbd1
          have HOWN1 := Lib.hid hown1
          have HFA := Lib.hid hfa
          have HBEL1 := Lib.hid hbel1
          have HPN : Hid (row.length = rn ∧ row[i]? = some fr ∧ P[tt]? = some (p ++ [ch]) ∧ P[fr]? = some p) := ⟨hrl.out, hfr.out, hpto, hpf⟩
          have HLK5 := Lib.hid hlk5
          have hw2b : base ≤ (w1.alloc (.cells #[iv (tt : Nat)] tInt)).heap.size := by have := hfa.size; omega
          have HW2B := Lib.hid hw2b
          clear hkt hkt1 hkv hl2 hp hrg1 hb1 hs1 hpl hrg1b hperm2 hH hin2 hnot hne hpf hpto hst hb0 hch hr0 hpr hsr hrr hrto hrt hll hml hbd1 hown1 hfa hbel1 hlk5 hfe1 hfe2 hw2b hrl hown hbd hlk hbel hrg hperm
          by_cases hf0 : fr = 0
          · have hr : r = 0 := HR0.out hf0
            have hf1 : ((fr : Int) != 0) = false := by subst hf0; rfl
            have HFZ := Lib.hid hf0
            have HRZ := Lib.hid hr
            clear hf0 hr
            go_upto_region 11 with (at_builtin; refine wpList_append_rdx _ rfl (.tmp 29) (.tmp 31) 34 rfl base tInt i0 _ 8 Try.underlying34 hi0 hz0 hz1 hz2 rfl RA rn rc (es row) rfl (HOWN1.out.fresh HFA.out) (w1.heap.size + 1) (some ⟨w1.heap.size, 0, none⟩) 1 1 [iv (tt : Nat)] rfl (Rd.lit w1 #[iv (tt : Nat)] tInt) (one_one _ _) (by unfold maxLen; omega) (by omega) HW2B.out ?_; intro RA2 rc2 w2 hown2 hg2 hat2; have HOWN2 := Lib.hid hown2; have HG2 := Lib.hid hg2; have HAT2 := Lib.hid hat2; clear hown2 hg2 hat2)

            have hown1a : Own (w1.alloc (.cells #[iv (tt : Nat)] tInt)) base tInt RA rn rc (es row) := HOWN1.out.fresh HFA.out
            have hkt2 : KeepT tStates w w2 := (HKT1.out.trans (KeepT.fresh HFA.out)).trans (KeepT.own1 HG2.out hown1a (by decide))
            have hbd2 := (HBD1.out.fresh HFA.out).beside hown1a HG2.out hap.out
            have hrg2 := range_grown (HRGB.out.fresh HFA.out) hown1a HG2.out
            have hap2 : Ap T (.slice RA2 (rn + 1) rc2) := fun s hs b hb e => by
              rcases HAT2.out with h | h
              · exact hap.out s hs b (h.symm.trans hb) e
              · have h1 := ((HBD1.out.fresh HFA.out).blk_cells hs e).2.1
                have h2 : (some b : Option Nat) = some (w1.alloc (.cells #[iv (tt : Nat)] tInt)).heap.size := hb.symm.trans h
                injection h2 with h2
                omega
            have hbel2 : Below base w w2 := (below_fresh HBEL1.out (by have := HW2B.out; omega) HFA.out).grown HG2.out HW2B.out fun b hb => (World.ownsRow.lt hown1a b hb).1
            have hsz2 : w.heap.size ≤ w2.heap.size := by have h1 : w1.heap.size ≤ w2.heap.size := Nat.le_trans HFA.out.size HG2.out.size; omega

            obtain ⟨W3, hW3⟩ : ∃ W3, w2 = W3 := ⟨_, rfl⟩
            subst hW3
            have hbd3 := hbd2
            have hkt3 := hkt2
            have hown3 : Own w2 base tInt RA2 (rn + 1) rc2 (es (row ++ [tt])) := by
              have h := HOWN2.out
              unfold es at h ⊢
              rw [List.map_append]
              exact h
            have hrg3 := hrg2
            have hbel3 := hbel2
            have hap3 := hap2
            have hsame : T.set tt { st with back := r } = T := back_same HST.out (HB0.out.trans HRZ.out.symm)
            rw [← hsame] at hbd3 hap3
            clear hbd2 hrg2 hap2 hbel2 hsame hown1a hkt2
            generalize w2 = W3 at *
            have HBD3 := Lib.hid hbd3
            have HKT3 := Lib.hid hkt3
            clear hkt3
            have HOWN3 := Lib.hid hown3
            have HRG3 := Lib.hid hrg3
            have HAP3 := Lib.hid hap3
            have HBEL3 := Lib.hid hbel3
            have hst3 : (T.set tt { st with back := r })[tt]? = some { st with back := r } := List.getElem?_set_self (List.getElem?_eq_some_iff.1 HST.out).1
            have hsr3 : (T.set tt { st with back := r })[r]? = some sr := by rw [List.getElem?_set_ne (fun e => HRTO.out e.symm)]; exact HSR.out
            have hdr : Fresh W3 W3.drew := Fresh.drew _
            obtain ⟨htn, _, _, k0, k1, k2, kf⟩ := (hbd3.fresh hdr).cells hst3
            obtain ⟨hrn2, _, _, _, _, m2, _⟩ := (hbd3.fresh hdr).cells hsr3
            simp only at k1 k2
            have he1 : Own W3.drew base tInt st.ea st.ends.length st.ec (es st.ends) := (hbd3.fresh hdr).end_ { st with back := r } (List.mem_of_getElem? hst3)
            have he2 : Rd W3.drew W3.drew.heap.size sr.ea sr.ends.length (es sr.ends) := ((hbd3.fresh hdr).end_ _ (List.mem_of_getElem? hsr3)).rd
            have hb3 : base ≤ W3.drew.heap.size := by have h1 := hdr.size; omega
            have HE1 := Lib.hid he1
            have HE2 := Lib.hid he2
            have HST3 := Lib.hid hst3
            have HFE1 := HFE.out.1
            have HFE2 := HFE.out.2
            clear hbd3 hown3 hrg3 hap3 hbel3 hst3 hsr3 he1 he2 k0 kf HBD1 HOWN1 HRGB HBEL1
            go_region_law ((with_reducible refine ast_slot_ 63 ?_); refine step_append_rdx (by rfl) (.tmp 53) (.tmp 62) 34 (by rfl) base tInt i0 _ 8 Try.underlying34 hi0 hz0 hz1 hz2 rfl st.ea st.ends.length st.ec (es st.ends) (by rfl) HE1.out W3.drew.heap.size sr.ea sr.ends.length sr.ec (es sr.ends) (by rfl) HE2.out (fun u hu => by obtain ⟨x, _, rfl⟩ := List.mem_map.1 hu; rfl) (by unfold maxLen; omega) (by omega) hb3 ?_; intro E4 d4 w4 hown4 hg4 hat4; have hown4b : Own w4 base tInt E4 (st.ends.length + sr.ends.length) d4 (es (st.ends ++ sr.ends)) := (by unfold es at hown4 ⊢; rw [List.map_append]; exact hown4); obtain ⟨hbd4, hblk4, kc4, kf4, hcs4⟩ := (HBD3.out.fresh (Fresh.drew W3)).ends HST3.out rfl (l := st.ends ++ sr.ends) (by rw [List.length_append]) hown4b hg4 hat4; have HBD4 := Lib.hid hbd4; have HBLK4 := Lib.hid hblk4; have HCS4 := Lib.hid hcs4; have HG4 := Lib.hid hg4; clear hown4 hown4b hg4 hat4 hbd4 hblk4 hcs4)
            all_goals
              have hown4 : Own w4 base tInt RA2 (rn + 1) rc2 (es (row ++ [tt])) := own_keep (HOWN3.out.fresh (Fresh.drew _)) fun b hb => HG4.out.block b (World.ownsRow.lt (HOWN3.out.fresh (Fresh.drew _)) b hb).2 fun e => HAP3.out _ (List.mem_of_getElem? HST3.out) b hb e.symm
              obtain ⟨cs4, hcs4⟩ := HCS4.out
              have hput : But g w4 (w4.setCell ⟨g, tt * 3 + 2, none⟩ (.slice E4 (st.ends.length + sr.ends.length) d4)) := But.put _ _
              have hown5 : Own (w4.setCell ⟨g, tt * 3 + 2, none⟩ (.slice E4 (st.ends.length + sr.ends.length) d4)) base tInt RA2 (rn + 1) rc2 (es (row ++ [tt])) := own_keep hown4 fun b hb => hput.block b (World.ownsRow.lt hown4 b hb).2 fun e => by
                injection e with e
                subst e
                exact own_ne_cells hown4 hcs4 (by decide) hb
              have hrg5 := range_cells (range_grown (HRG3.out.fresh (Fresh.drew _)) HE1.out HG4.out) hcs4 hput
              have hbel5 := below_but ((below_fresh HBEL3.out (by omega) (Fresh.drew _)).grown HG4.out hb3 fun b hb => (World.ownsRow.lt HE1.out b hb).1) hbg (by have := HG4.out.size; omega) hput
              have hkt5 := ((HKT3.out.trans (KeepT.fresh (Fresh.drew W3))).trans (KeepT.own1 HG4.out HE1.out (by decide))).trans (keep_cells hput hcs4 (by decide))
              have HKT5 := Lib.hid hkt5
              clear hkt5
              have hap5 : Ap ((T.set tt { st with back := r }).set tt { { st with back := r } with ea := E4, ec := d4, ends := st.ends ++ sr.ends }) (.slice RA2 (rn + 1) rc2) := fun s hs b hb e => by
                rcases mem_set hs with hs | rfl
                · exact HAP3.out s hs b hb e
                · rcases HBLK4.out with h | h
                  · exact HAP3.out _ (List.mem_of_getElem? HST3.out) b hb (h.symm.trans e)
                  · have h1 := (World.ownsRow.lt (HOWN3.out.fresh (Fresh.drew W3)) b hb).2
                    have h2 : (some b : Option Nat) = some W3.drew.heap.size := e.symm.trans h
                    injection h2 with h2
                    omega
              have hlk6 := HLK5.out { st with back := r, ea := E4, ec := d4, ends := st.ends ++ sr.ends } rfl rfl rfl
              have hbd5 := HBD4.out
              rw [List.set_set] at hbd5 hap5
              have hsz5 : w.heap.size ≤ (w4.setCell ⟨g, tt * 3 + 2, none⟩ (.slice E4 (st.ends.length + sr.ends.length) d4)).heap.size := by have h0 := (Fresh.drew W3).size; have h1 := HG4.out.size; simp [World.setCell]; omega
              have hsf5 : (T.set tt { st with back := r, ea := E4, ec := d4, ends := st.ends ++ sr.ends })[fr]? = some sf2 := by rw [List.getElem?_set_ne HNE.out]; exact hsf2.out.1
              have HBD5 := Lib.hid hbd5
              have HOWN5 := Lib.hid hown5
              have HRG5 := Lib.hid hrg5
              have HBEL5 := Lib.hid hbel5
              have HAP5 := Lib.hid hap5
              have HLK6 := Lib.hid hlk6
              have HSF5 := Lib.hid hsf5
              clear hown4 hput hown5 hrg5 hbel5 hap5 hlk6 hbd5 hsf5 hcs4 kc4 kf4 k1 k2 m2 HBD4 HBLK4 HCS4
              generalize w4.setCell ⟨g, tt * 3 + 2, none⟩ (.slice E4 (st.ends.length + sr.ends.length) d4) = W5 at *
              go_wp2
              go_roundw
              case rel => exact ⟨RA2, rn + 1, rc2, row ++ [tt], _, H ++ [(ch, tt)], l2, sf2, rfl, Lib.hid (by rw [List.length_append, HPN.out.1]; rfl), HOWN5, HBD5, HLK6, HAP5, HBEL5, hsz5, HRG5, HP2, Lib.hid (app_old HPN.out.2.1), Lib.hid ⟨HSF5.out, hsf2.out.2⟩, HKT5⟩
              case measure =>
                rw [range_left HRG5.out, HML.out]
                unfold kvs
                rw [List.length_map]
                exact HLL.out
          · have hf1 : ((fr : Int) != 0) = true := by rw [bne_iff_ne]; omega
            go_upto_region 10 with (at_builtin; refine wpList_append_rdx _ rfl (.tmp 29) (.tmp 31) 34 rfl base tInt i0 _ 8 Try.underlying34 hi0 hz0 hz1 hz2 rfl RA rn rc (es row) rfl (HOWN1.out.fresh HFA.out) (w1.heap.size + 1) (some ⟨w1.heap.size, 0, none⟩) 1 1 [iv (tt : Nat)] rfl (Rd.lit w1 #[iv (tt : Nat)] tInt) (one_one _ _) (by unfold maxLen; omega) (by omega) HW2B.out ?_; intro RA2 rc2 w2 hown2 hg2 hat2; have HOWN2 := Lib.hid hown2; have HG2 := Lib.hid hg2; have HAT2 := Lib.hid hat2; clear hown2 hg2 hat2)

            have hown1a : Own (w1.alloc (.cells #[iv (tt : Nat)] tInt)) base tInt RA rn rc (es row) := HOWN1.out.fresh HFA.out
            have hkt2 : KeepT tStates w w2 := (HKT1.out.trans (KeepT.fresh HFA.out)).trans (KeepT.own1 HG2.out hown1a (by decide))
            have hbd2 := (HBD1.out.fresh HFA.out).beside hown1a HG2.out hap.out
            have hrg2 := range_grown (HRGB.out.fresh HFA.out) hown1a HG2.out
            have hap2 : Ap T (.slice RA2 (rn + 1) rc2) := fun s hs b hb e => by
              rcases HAT2.out with h | h
              · exact hap.out s hs b (h.symm.trans hb) e
              · have h1 := ((HBD1.out.fresh HFA.out).blk_cells hs e).2.1
                have h2 : (some b : Option Nat) = some (w1.alloc (.cells #[iv (tt : Nat)] tInt)).heap.size := hb.symm.trans h
                injection h2 with h2
                omega
            have hbel2 : Below base w w2 := (below_fresh HBEL1.out (by have := HW2B.out; omega) HFA.out).grown HG2.out HW2B.out fun b hb => (World.ownsRow.lt hown1a b hb).1
            have hsz2 : w.heap.size ≤ w2.heap.size := by have h1 : w1.heap.size ≤ w2.heap.size := Nat.le_trans HFA.out.size HG2.out.size; omega

            obtain ⟨_, _, ⟨csg, hcsg⟩, _, q1, _, _⟩ := hbd2.cells hsf2.out.1
            obtain ⟨htn0, _, _, _, o1, _, of1⟩ := hbd2.cells HST.out
            have hnx := next_any P T (some ⟨g, 0, none⟩) n c0 w2.heap.size ch sf2.back r w2 hbd2.sts hbd2.len.symm hn (HCH.out hf0)
            have of2 := of1 (tt * 3 + 1)
            have hbd3 := hbd2.back HST.out rfl r
            have hput3 : But g w2 (w2.setCell ⟨g, tt * 3 + 1, none⟩ (iv (r : Nat))) := But.put _ _
            have hkt3 := hkt2.trans (keep_cells hput3 hcsg (by decide))
            have HKT3x := Lib.hid hkt3
            have hown2 : Own w2 base tInt RA2 (rn + 1) rc2 (es (row ++ [tt])) := by
              have h := HOWN2.out
              unfold es at h ⊢
              rw [List.map_append]
              exact h
            have hown3 : Own (w2.setCell ⟨g, tt * 3 + 1, none⟩ (iv (r : Nat))) base tInt RA2 (rn + 1) rc2 (es (row ++ [tt])) := own_keep hown2 fun b hb => hput3.block b (World.ownsRow.lt hown2 b hb).2 fun e => by
              injection e with e
              subst e
              exact own_ne_cells hown2 hcsg (by decide) hb
            have hrg3 := range_cells hrg2 hcsg hput3
            have hbel3 := below_but hbel2 hbg (by omega) hput3
            have hap3 : Ap (T.set tt { st with back := r }) (.slice RA2 (rn + 1) rc2) := fun s hs b hb e => by
              rcases mem_set hs with hs | rfl
              · exact hap2 s hs b hb e
              · exact hap2 st (List.mem_of_getElem? HST.out) b hb e
            have hsz3 : w.heap.size ≤ (w2.setCell ⟨g, tt * 3 + 1, none⟩ (iv (r : Nat))).heap.size := by simp [World.setCell]; exact hsz2
            have HNX := Lib.hid hnx
            have HBD3x := Lib.hid hbd3
            have HOWN3x := Lib.hid hown3
            have HRG3x := Lib.hid hrg3
            have HAP3x := Lib.hid hap3
            have HBEL3x := Lib.hid hbel3
            clear hkt2 hkt3 hnx hbd3 hown3 hrg3 hap3 hbel3 hbd2 hrg2 hap2 hbel2 hcsg of1 hput3 hown2 hown1a
            go_upto_region 11 with (go_at_call 24; (with_reducible refine HNX.out.mono ?_); rintro e w3 ⟨rfl, rfl⟩)
            have hbd3 := HBD3x.out
            have hkt3 := HKT3x.out
            have hown3 := HOWN3x.out
            have hrg3 := HRG3x.out
            have hap3 := HAP3x.out
            have hbel3 := HBEL3x.out
            clear HKT3x HBD3x HOWN3x HRG3x HAP3x HBEL3x HNX hsz2
            have hsz2 := hsz3
            clear hsz3
            generalize w3.setCell ⟨g, tt * 3 + 1, none⟩ (iv (r : Nat)) = W3 at *
            have HBD3 := Lib.hid hbd3
            have HKT3 := Lib.hid hkt3
            clear hkt3
            have HOWN3 := Lib.hid hown3
            have HRG3 := Lib.hid hrg3
            have HAP3 := Lib.hid hap3
            have HBEL3 := Lib.hid hbel3
            have hst3 : (T.set tt { st with back := r })[tt]? = some { st with back := r } := List.getElem?_set_self (List.getElem?_eq_some_iff.1 HST.out).1
            have hsr3 : (T.set tt { st with back := r })[r]? = some sr := by rw [List.getElem?_set_ne (fun e => HRTO.out e.symm)]; exact HSR.out
            have hdr : Fresh W3 W3.drew := Fresh.drew _
            obtain ⟨htn, _, _, k0, k1, k2, kf⟩ := (hbd3.fresh hdr).cells hst3
            obtain ⟨hrn2, _, _, _, _, m2, _⟩ := (hbd3.fresh hdr).cells hsr3
            simp only at k1 k2
            have he1 : Own W3.drew base tInt st.ea st.ends.length st.ec (es st.ends) := (hbd3.fresh hdr).end_ { st with back := r } (List.mem_of_getElem? hst3)
            have he2 : Rd W3.drew W3.drew.heap.size sr.ea sr.ends.length (es sr.ends) := ((hbd3.fresh hdr).end_ _ (List.mem_of_getElem? hsr3)).rd
            have hb3 : base ≤ W3.drew.heap.size := by have h1 := hdr.size; omega
            have HE1 := Lib.hid he1
            have HE2 := Lib.hid he2
            have HST3 := Lib.hid hst3
            have HFE1 := HFE.out.1
            have HFE2 := HFE.out.2
            clear hbd3 hown3 hrg3 hap3 hbel3 hst3 hsr3 he1 he2 k0 kf HBD1 HOWN1 HRGB HBEL1
            go_region_law ((with_reducible refine ast_slot_ 63 ?_); refine step_append_rdx (by rfl) (.tmp 53) (.tmp 62) 34 (by rfl) base tInt i0 _ 8 Try.underlying34 hi0 hz0 hz1 hz2 rfl st.ea st.ends.length st.ec (es st.ends) (by rfl) HE1.out W3.drew.heap.size sr.ea sr.ends.length sr.ec (es sr.ends) (by rfl) HE2.out (fun u hu => by obtain ⟨x, _, rfl⟩ := List.mem_map.1 hu; rfl) (by unfold maxLen; omega) (by omega) hb3 ?_; intro E4 d4 w4 hown4 hg4 hat4; have hown4b : Own w4 base tInt E4 (st.ends.length + sr.ends.length) d4 (es (st.ends ++ sr.ends)) := (by unfold es at hown4 ⊢; rw [List.map_append]; exact hown4); obtain ⟨hbd4, hblk4, kc4, kf4, hcs4⟩ := (HBD3.out.fresh (Fresh.drew W3)).ends HST3.out rfl (l := st.ends ++ sr.ends) (by rw [List.length_append]) hown4b hg4 hat4; have HBD4 := Lib.hid hbd4; have HBLK4 := Lib.hid hblk4; have HCS4 := Lib.hid hcs4; have HG4 := Lib.hid hg4; clear hown4 hown4b hg4 hat4 hbd4 hblk4 hcs4)
            all_goals
              have hown4 : Own w4 base tInt RA2 (rn + 1) rc2 (es (row ++ [tt])) := own_keep (HOWN3.out.fresh (Fresh.drew _)) fun b hb => HG4.out.block b (World.ownsRow.lt (HOWN3.out.fresh (Fresh.drew _)) b hb).2 fun e => HAP3.out _ (List.mem_of_getElem? HST3.out) b hb e.symm
              obtain ⟨cs4, hcs4⟩ := HCS4.out
              have hput : But g w4 (w4.setCell ⟨g, tt * 3 + 2, none⟩ (.slice E4 (st.ends.length + sr.ends.length) d4)) := But.put _ _
              have hown5 : Own (w4.setCell ⟨g, tt * 3 + 2, none⟩ (.slice E4 (st.ends.length + sr.ends.length) d4)) base tInt RA2 (rn + 1) rc2 (es (row ++ [tt])) := own_keep hown4 fun b hb => hput.block b (World.ownsRow.lt hown4 b hb).2 fun e => by
                injection e with e
                subst e
                exact own_ne_cells hown4 hcs4 (by decide) hb
              have hrg5 := range_cells (range_grown (HRG3.out.fresh (Fresh.drew _)) HE1.out HG4.out) hcs4 hput
              have hbel5 := below_but ((below_fresh HBEL3.out (by omega) (Fresh.drew _)).grown HG4.out hb3 fun b hb => (World.ownsRow.lt HE1.out b hb).1) hbg (by have := HG4.out.size; omega) hput
              have hkt5 := ((HKT3.out.trans (KeepT.fresh (Fresh.drew W3))).trans (KeepT.own1 HG4.out HE1.out (by decide))).trans (keep_cells hput hcs4 (by decide))
              have HKT5 := Lib.hid hkt5
              clear hkt5
              have hap5 : Ap ((T.set tt { st with back := r }).set tt { { st with back := r } with ea := E4, ec := d4, ends := st.ends ++ sr.ends }) (.slice RA2 (rn + 1) rc2) := fun s hs b hb e => by
                rcases mem_set hs with hs | rfl
                · exact HAP3.out s hs b hb e
                · rcases HBLK4.out with h | h
                  · exact HAP3.out _ (List.mem_of_getElem? HST3.out) b hb (h.symm.trans e)
                  · have h1 := (World.ownsRow.lt (HOWN3.out.fresh (Fresh.drew W3)) b hb).2
                    have h2 : (some b : Option Nat) = some W3.drew.heap.size := e.symm.trans h
                    injection h2 with h2
                    omega
              have hlk6 := HLK5.out { st with back := r, ea := E4, ec := d4, ends := st.ends ++ sr.ends } rfl rfl rfl
              have hbd5 := HBD4.out
              rw [List.set_set] at hbd5 hap5
              have hsz5 : w.heap.size ≤ (w4.setCell ⟨g, tt * 3 + 2, none⟩ (.slice E4 (st.ends.length + sr.ends.length) d4)).heap.size := by have h0 := (Fresh.drew W3).size; have h1 := HG4.out.size; simp [World.setCell]; omega
              have hsf5 : (T.set tt { st with back := r, ea := E4, ec := d4, ends := st.ends ++ sr.ends })[fr]? = some sf2 := by rw [List.getElem?_set_ne HNE.out]; exact hsf2.out.1
              have HBD5 := Lib.hid hbd5
              have HOWN5 := Lib.hid hown5
              have HRG5 := Lib.hid hrg5
              have HBEL5 := Lib.hid hbel5
              have HAP5 := Lib.hid hap5
              have HLK6 := Lib.hid hlk6
              have HSF5 := Lib.hid hsf5
              clear hown4 hput hown5 hrg5 hbel5 hap5 hlk6 hbd5 hsf5 hcs4 kc4 kf4 k1 k2 m2 HBD4 HBLK4 HCS4
              generalize w4.setCell ⟨g, tt * 3 + 2, none⟩ (.slice E4 (st.ends.length + sr.ends.length) d4) = W5 at *
              go_wp2
              go_roundw
              case rel => exact ⟨RA2, rn + 1, rc2, row ++ [tt], _, H ++ [(ch, tt)], l2, sf2, rfl, Lib.hid (by rw [List.length_append, HPN.out.1]; rfl), HOWN5, HBD5, HLK6, HAP5, HBEL5, hsz5, HRG5, HP2, Lib.hid (app_old HPN.out.2.1), Lib.hid ⟨HSF5.out, hsf2.out.2⟩, HKT5⟩
              case measure =>
                rw [range_left HRG5.out, HML.out]
                unfold kvs
                rw [List.length_map]
                exact HLL.out
    · have hin : i = rn := by omega
      subst hin
      have hL2 : Lk W P T row row.length [] := by rw [hrl.out]; exact hlk.out
      have hrd := hL2.ready
      have HRD := Lib.hid hrd
      clear hL2 hrd hap
      go_wp2
      go_end0
      exact ⟨T, rfl, hbd.out, HRD.out, hbel.out, hsz, hkt.out⟩
end Go.Proofs.Ytgbffkneidnmfaa.ahop
