import Derived.Test.YtmnegmebkmihhaaGreatDoorZipHead
import Derived.Test.YtmnegmebkmihhaaGreatDoorDosRight
import Derived.Test.YtmnegmebkmihhaaGreatDoorMgNam
import Derived.StringKeys
/- Several of my own texts, one behind the other. -/
/-
  zip's May, all, twice, wrong, of plain items. My own text.
-/
namespace Go.Proofs.YtmnegmebkmihhaaGreatDoor.zipp
open Go.RowKit Go.Maps Go.Proofs.YtmnegmebkmihhaaGreatDoor.base Go.Proofs.YtmnegmebkmihhaaGreatDoor.num Go.Proofs.YtmnegmebkmihhaaGreatDoor.recn Go.Proofs.YtmnegmebkmihhaaGreatDoor.recp Go.Proofs.YtmnegmebkmihhaaGreatDoor.nam Go.Proofs.YtmnegmebkmihhaaGreatDoor.namp Go.Proofs.YtmnegmebkmihhaaGreatDoor.zipn
set_option linter.unusedVariables false
abbrev tNames : TypeId := 83
abbrev tStr : TypeId := 9
abbrev tNone : TypeId := 86
theorem strKey : Keyed Tryz.prog tStr := string_keyed Tryz.underlying9
set_option maxRecDepth 100000 in
set_option maxHeartbeats 4000000 in
theorem may_true (i : Itm) (x : Pl) (hp : IsPl i x) (w : World) (hU : Laid w) (hn : i.n ≤ 65536) :
    Calls Tryz.prog 11 #[.agg (itmV i).toArray] w fun e w' => e = .returned (.bool true) ∧ Fresh w w' := by
  have hsz := hp.size
  have hv : itmV i = [.string i.s, iv (x.dt : Nat), .slice i.A i.n i.c, iv 0, .bool false, .bool false] := by
    unfold itmV; rw [hp.dt, hp.how, hp.wd, hp.ds]
  have hbd := dosnum.parts_bd hp.ok.mom
  have hget : ∀ W, Calls Tryz.prog 25 #[.int .i64 (x.dt : Nat)] W fun e w' => ∃ a b c d e' f : Int, e = .returned (.tuple #[.agg #[.int .i64 a, .int .i64 b, .int .i64 c, .int .i64 d, .int .i64 e', .int .i64 f], .int .i64 0]) ∧ Fresh W w' := fun W => by
    refine (dosp.get_any (x.dt : Nat) ⟨by omega, by omega⟩ W).mono ?_
    rintro e w' ⟨rfl, hf⟩
    rw [if_pos hp.ok.mom]
    exact ⟨_, _, _, _, _, _, rfl, hf⟩
  have hmay : ∀ W, Fresh w W → Calls Tryz.prog 26 #[.string i.s] W fun e w' => e = .returned (.bool true) ∧ Fresh W w' := fun W hf => by
    have := may_any i.s x.rs [] (by rw [List.append_nil]; exact hp.s) hp.ok.rn (.inl rfl) W (by omega) (hU.fresh hf)
    rw [hp.ok.may] at this
    exact this
  rw [hv]
  have hbi := Bk.made w tItem #[.string i.s, iv (x.dt : Nat), .slice i.A i.n i.c, iv 0, .bool false, .bool false]
  have hal := Fresh.alloc w (.cells #[.string i.s, iv (x.dt : Nat), .slice i.A i.n i.c, iv 0, .bool false, .bool false] tItem)
  have HG := Lib.hid hget
  have HM := Lib.hid hmay
  have HB := Lib.hid hbi
  have HF := Lib.hid hal
  clear hget hmay hbi hal hv hbd hsz hU hp
  generalize i.n = n at *
  generalize i.A = A at *
  generalize i.c = c at *
  generalize x.dt = dt at *
  have t1 : decide ((n : Int) ≤ 16777216) = true := by rw [decide_eq_true_eq]; omega
  clear hn
  go_enter Tryz.func11, Tryz.ntmps11
  go_wp2_with (first
    | (go_at_call 25; ((with_reducible refine (HG.out _).mono ?_); rintro e w1 ⟨a1, a2, a3, a4, a5, a6, rfl, hf1⟩; have hf1' := hf1.trans (Fresh.alloc w1 (.cells #[.int .i64 a1, .int .i64 a2, .int .i64 a3, .int .i64 a4, .int .i64 a5, .int .i64 a6] 62)); have HF1 := Lib.hid (HF.out.trans hf1'); have hb1 := HB.out.fresh hf1'; have k0 := hb1.cell (i := 0) rfl; have HB1 := Lib.hid hb1; clear hf1 hf1' hb1))
    | (go_at_call 26; ((with_reducible refine (HM.out _ HF1.out).mono ?_); rintro e w2 ⟨rfl, hf2⟩; have HF2 := Lib.hid (HF1.out.trans hf2); have hb2 := HB1.out.fresh hf2; have k3 := hb2.cell (i := 3) rfl; have k2 := hb2.cell (i := 2) rfl; clear hf2 hb2)))
  go_ret
  exact ⟨rfl, HF2.out⟩
/-- items that lie one behind the other -/
def ItmsAt (w : World) (B : Nat) (A : Option Addr) (n : Nat) (l : List Itm) : Prop :=
  l.length = n ∧ (0 < n → ∃ b off, A = some ⟨b, off, none⟩ ∧ b < B ∧ ∀ i s, l[i]? = some s → w.rangeAt b (off + i * 6) (itmV s)) ∧ ∀ s ∈ l, Rd w B s.A s.n (s.bs.map bv)
theorem ItmsAt.keep {w w' : World} {B n : Nat} {A : Option Addr} {l : List Itm} (h : ItmsAt w B A n l) (hk : ∀ k, k < B → w'.heap[k]? = w.heap[k]?) : ItmsAt w' B A n l :=
  ⟨h.1, fun hn => by
    obtain ⟨b, off, e, hb, hc⟩ := h.2.1 hn
    exact ⟨b, off, e, hb, fun i s hs j v hv => (World.cell?_of_block (hk b hb)).trans (hc i s hs j v hv)⟩, fun s hs => (h.2.2 s hs).keep hk⟩
theorem ItmsAt.below {w w' : World} {B B' n : Nat} {A : Option Addr} {l : List Itm} (h : ItmsAt w B A n l) (hb : Below B' w w') (hB : B ≤ B') : ItmsAt w' B A n l := h.keep fun k hk => hb.block k (by omega)
theorem ItmsAt.at_ {w : World} {B n : Nat} {A : Option Addr} {l : List Itm} (h : ItmsAt w B A n l) {i : Nat} (hi : i < n) :
    ∃ b off s, A = some ⟨b, off, none⟩ ∧ b < B ∧ l[i]? = some s ∧ w.rangeAt b (off + i * 6) (itmV s) ∧ Rd w B s.A s.n (s.bs.map bv) := by
  obtain ⟨b, off, e, hb, hc⟩ := h.2.1 (by omega)
  have hlt : i < l.length := by rw [h.1]; exact hi
  exact ⟨b, off, l[i], e, hb, List.getElem?_eq_getElem hlt, hc i _ (List.getElem?_eq_getElem hlt), h.2.2 _ (List.getElem_mem hlt)⟩
end Go.Proofs.YtmnegmebkmihhaaGreatDoor.zipp
/-
  zip's all, twice, wrong, of plain items. My own text.
-/
namespace Go.Proofs.YtmnegmebkmihhaaGreatDoor.zipp
open Go.RowKit Go.Maps Go.Proofs.YtmnegmebkmihhaaGreatDoor.base Go.Proofs.YtmnegmebkmihhaaGreatDoor.num Go.Proofs.YtmnegmebkmihhaaGreatDoor.recn Go.Proofs.YtmnegmebkmihhaaGreatDoor.recp Go.Proofs.YtmnegmebkmihhaaGreatDoor.nam Go.Proofs.YtmnegmebkmihhaaGreatDoor.namp Go.Proofs.YtmnegmebkmihhaaGreatDoor.zipn
set_option linter.unusedVariables false
abbrev allF : Value := .func (.func 96) #[] #[]
theorem allF_any (i : Itm) (x : Pl) (hp : IsPl i x) (w : World) (hU : Laid w) (hn : i.n ≤ 65536) :
    Calls Tryz.prog 96 #[.agg (itmV i).toArray] w fun e w' => e = .returned (.bool false) ∧ Fresh w w' := by
  have hm := fun W (h : Fresh w W) => may_true i x hp W (hU.fresh h) hn
  obtain ⟨V, hV⟩ : ∃ V, itmV i = V := ⟨_, rfl⟩
  have hl : V.length = 6 := by rw [← hV]; rfl
  rw [hV] at hm ⊢
  have hbi := Bk.made w tItem V.toArray
  rw [List.toList_toArray] at hbi
  have HB := Lib.hid hbi
  have HM := Lib.hid hm
  clear hm hV hbi hU hn hp
  go_enter Tryz.func96, Tryz.ntmps96
  go_wp2_with (first
    | ((with_reducible (refine at_slot_ 3 ?_)); refine wpList_load_whole rfl tItem (.tmp 1) rfl w.heap.size tItem V 6 hl rfl HB.out _ Tryz.underlying31 rfl size_item ?_)
    | (go_at_call 11; ((with_reducible refine (HM.out _ (Fresh.alloc _ _)).mono ?_); rintro e w1 ⟨rfl, hf1⟩)))
  go_ret
  exact ⟨rfl, (Fresh.alloc _ _).trans hf1⟩
set_option maxRecDepth 100000 in
set_option maxHeartbeats 4000000 in
theorem index_none (A : Option Addr) (n c : Nat) (l : List Itm) (w : World) (B : Nat) (h : ItmsAt w B A n l) (hB : B ≤ w.heap.size) (hn : n ≤ 100000) (hp : ∀ i ∈ l, ∃ x, IsPl i x) (hU : Laid w) :
    Calls Tryz.prog 154 #[.slice A n c, allF] w fun e w' => e = .returned (.int .i64 (-1)) ∧ Fresh w w' := by
  have HP := Lib.hid hp
  clear hp
  go_enter Tryz.func154, Tryz.ntmps154
  go_wp2
  go_loopw [8] (fun i wr => ∃ j : Nat, j ≤ n ∧ i = .int .i64 j ∧ Fresh w wr) (fun i _ => n - (intOf i).toNat)
  case atStart => exact ⟨0, by omega, rfl, Fresh.refl _⟩
  case round =>
    obtain ⟨j, hj, rfl, hfr⟩ := hrel
    by_cases hlt : j < n
    · obtain ⟨b, off, s, rfl, hb, hs, hrow, hd⟩ := (h.below hfr hB).at_ hlt
      obtain ⟨x, hx⟩ := HP.out s (List.mem_of_getElem? hs)
      have hnl : s.n ≤ 65536 := by
        have h1 := hd.1
        rw [List.length_map, hx.bs] at h1
        have := hx.ok.len
        omega
      have hall := allF_any s x hx wr (hU.fresh hfr) hnl
      have HALL := Lib.hid hall
      have HROW := Lib.hid hrow
      have hij : (j : Int) < (n : Int) := by omega
      clear hall hrow hd hx hnl hs
      go_wp2_with (first
        | ((with_reducible (refine at_slot_ 15 ?_)); refine wpList_load_mid rfl tItem (.tmp 14) rfl b (off + j * 6) rfl (itmV s) _ HROW.out Tryz.underlying31 rfl size_item ?_)
        | (go_at_call 96; ((with_reducible refine HALL.out.mono ?_); rintro e w1 ⟨rfl, hf1⟩)))
      go_roundw
      case rel => exact ⟨j + 1, by omega, by go_num, hfr.trans hf1⟩
      case measure => simp [intOf]; omega
    · have h0 : j = n := by omega
      subst h0
      go_wp2
      go_ret
      exact ⟨rfl, hfr⟩
theorem all_true (A : Option Addr) (n c : Nat) (l : List Itm) (w : World) (B : Nat) (h : ItmsAt w B A n l) (hB : B ≤ w.heap.size) (hn : n ≤ 100000) (hp : ∀ i ∈ l, ∃ x, IsPl i x) (hU : Laid w) :
    Calls Tryz.prog 48 #[.slice A n c] w fun e w' => e = .returned (.bool true) ∧ Fresh w w' := by
  have h1 := Lib.hid (index_none A n c l w B h hB hn hp hU)
  have h2 : Calls Tryz.prog 95 #[.slice A n c, allF] w fun e w' => e = .returned (.bool false) ∧ Fresh w w' := by
    clear hp hU h
    go_enter Tryz.func95, Tryz.ntmps95
    go_wp2_with (go_at_call 154; ((refine h1.out.mono ?_); rintro e w1 ⟨rfl, hf1⟩))
    go_ret
    exact ⟨rfl, hf1⟩
  have H2 := Lib.hid h2
  clear hp hU h h2 h1
  go_enter Tryz.func48, Tryz.ntmps48
  go_wp2_with (go_at_call 95; ((refine H2.out.mono ?_); rintro e w1 ⟨rfl, hf1⟩))
  go_ret
  exact ⟨rfl, hf1⟩
end Go.Proofs.YtmnegmebkmihhaaGreatDoor.zipp
/-
  zip's twice and wrong, of plain items. My own text.
-/
namespace Go.Proofs.YtmnegmebkmihhaaGreatDoor.zipp
open Go.RowKit Go.Maps Go.Proofs.YtmnegmebkmihhaaGreatDoor.base Go.Proofs.YtmnegmebkmihhaaGreatDoor.num Go.Proofs.YtmnegmebkmihhaaGreatDoor.recn Go.Proofs.YtmnegmebkmihhaaGreatDoor.recp Go.Proofs.YtmnegmebkmihhaaGreatDoor.nam Go.Proofs.YtmnegmebkmihhaaGreatDoor.namp Go.Proofs.YtmnegmebkmihhaaGreatDoor.zipn
set_option linter.unusedVariables false
theorem key_str (s : ByteArray) (h : s.size ≤ maxLen) : keyOf Tryz.prog tStr (.string s) = some (.string s.data.toList) := by
  simp [keyOf, Tryz.underlying9, mapKey, h]
theorem zero_none (w : World) : (zeroValue tNone).run Tryz.prog w = .ok (.agg #[]) w := by kernel_rfl
/-- the names that came, in a map -/
def kvN (l : List ByteArray) : List (Value × Value) := (l.map fun s => ((.string s, .agg #[]) : Value × Value)).reverse
theorem kvN_snoc (l : List ByteArray) (s : ByteArray) : kvN (l ++ [s]) = (.string s, .agg #[]) :: kvN l := by simp [kvN]
theorem kvN_hit {l : List ByteArray} {s : ByteArray} (h : s ∈ l) : ((.string s, .agg #[]) : Value × Value) ∈ kvN l := by
  unfold kvN; rw [List.mem_reverse]; exact List.mem_map.2 ⟨s, h, rfl⟩
theorem kvN_miss {l : List ByteArray} {s : ByteArray} (h : s ∉ l) : ∀ p ∈ kvN l, p.1 ≠ .string s := by
  intro p hp e
  unfold kvN at hp
  rw [List.mem_reverse] at hp
  obtain ⟨t, ht, rfl⟩ := List.mem_map.1 hp
  injection e with e
  subst e
  exact h ht
theorem nodup_no {l : List ByteArray} {j : Nat} {s : ByteArray} (hs : l[j]? = some s) (h : s ∈ l.take j) : ¬ l.Nodup := by
  intro hn
  obtain ⟨i, hi⟩ := List.getElem?_of_mem h
  have hij : i < j := by
    have := (List.getElem?_eq_some_iff.1 hi).1
    rw [List.length_take] at this
    omega
  rw [List.getElem?_take, if_pos hij] at hi
  obtain ⟨h1, e1⟩ := List.getElem?_eq_some_iff.1 hi
  obtain ⟨h2, e2⟩ := List.getElem?_eq_some_iff.1 hs
  have := (List.getElem?_inj h1 hn).1 (hi.trans hs.symm)
  omega
theorem nodup_snoc {l : List ByteArray} {s : ByteArray} (hn : l.Nodup) (h : s ∉ l) : (l ++ [s]).Nodup := by
  rw [List.nodup_append]
  refine ⟨hn, by simp, fun a ha b hb => ?_⟩
  rw [List.mem_singleton] at hb
  subst hb
  exact fun e => h (e ▸ ha)
set_option maxRecDepth 100000 in
set_option maxHeartbeats 8000000 in
theorem twice_any (A : Option Addr) (n c : Nat) (l : List Itm) (w : World) (B : Nat) (h : ItmsAt w B A n l) (hB : B ≤ w.heap.size) (hn : n ≤ 100000) (hp : ∀ i ∈ l, i.s.size ≤ 1000000) (b : Bool) (hb : b = true ↔ ¬ (l.map (·.s)).Nodup) :
    Calls Tryz.prog 49 #[.slice A n c] w fun e w' => e = .returned (.bool b) ∧ Fresh w w' := by
  have HP := Lib.hid hp
  have HBB := Lib.hid hb
  have HLN := Lib.hid h.1
  have hmk : ∀ W : World, (Instr.makeMap tNames none).run Tryz.prog W = .ok (.map (some W.heap.size)) (W.alloc (.map #[] 0)) := fun W => by simp [Instr.makeMap]
  clear hp hb
  go_enter Tryz.func49, Tryz.ntmps49
  go_wp2
  have hm0 := MapOf.made Tryz.prog tStr w
  have hf0 := Fresh.alloc w (.map #[] 0)
  have hmw : w.heap.size < (w.alloc (.map #[] 0)).heap.size := hm0.inside
  obtain ⟨m, hm⟩ : ∃ m, w.heap.size = m := ⟨_, rfl⟩
  rw [hm] at hm0 hmw
  have HM0 := Lib.hid hm0
  have HF0 := Lib.hid hf0
  have HMW := Lib.hid hm
  clear hm0 hf0
  rw [hm]
  clear hm
  generalize w.alloc (.map #[] 0) = w0 at *
  go_loopw [11] (fun i wr => ∃ j : Nat, j ≤ n ∧ i = .int .i64 j ∧ MapOf Tryz.prog tStr wr m (kvN ((l.map (·.s)).take j)) ∧ Hid (((l.map (·.s)).take j).Nodup) ∧ Hid (Fresh w wr)) (fun i _ => n - (intOf i).toNat)
  case atStart => exact ⟨0, by omega, rfl, by rw [List.take_zero]; exact HM0.out, Lib.hid (by rw [List.take_zero]; exact List.nodup_nil), HF0⟩
  case round =>
    obtain ⟨j, hj, rfl, hmap, HND, HFR⟩ := hrel
    by_cases hlt : j < n
    · obtain ⟨bb, off, s, rfl, hbb, hs, hrow, hd⟩ := (h.below HFR.out hB).at_ hlt
      have hsz := HP.out s (List.mem_of_getElem? hs)
      have hkey := key_str s.s (by unfold maxLen; omega)
      have hss : (l.map (·.s))[j]? = some s.s := by rw [List.getElem?_map, hs]; rfl
      have hij : (j : Int) < (n : Int) := by omega
      have hmf : ∀ W, Fresh wr W → MapOf Tryz.prog tStr W m (kvN ((l.map (·.s)).take j)) := fun W hf => hmap.old (hf.block _ hmap.inside)
      have hno := fun (hin : s.s ∈ (l.map (·.s)).take j) => nodup_no hss hin
      have htk := num.take_snoc _ _ _ hss
      have HTK := Lib.hid htk
      have HMF := Lib.hid hmf
      have HKEY := Lib.hid hkey
      have HNO := Lib.hid hno
      obtain ⟨nm, dt, sA, sn, sc, sbs, how, wd, ds⟩ := s
      simp only [itmV] at hrow
      simp only at HKEY HNO HTK
      have HROW := Lib.hid hrow
      clear hrow hd hs hss hkey hno htk hmf hsz hmap
      by_cases hin : nm ∈ (l.map (·.s)).take j
      · have hbt := HBB.out.2 (HNO.out hin)
        have hhit := kvN_hit hin
        have HHIT := Lib.hid hhit
        subst hbt
        clear hhit hin
        go_wp2_with (first
          | ((with_reducible (refine at_slot_ 14 ?_)); refine wpList_load_mid rfl tItem (.tmp 13) rfl bb (off + j * 6) rfl [.string nm, .int .i64 dt, .slice sA sn sc, .int .i64 how, .bool wd, .bool ds] _ HROW.out Tryz.underlying31 rfl size_item ?_)
          | (at_lookup; (refine wpList_look_hit_ok _ rfl (.tmp 16) (.tmp 18) tNames rfl tStr tNone strKey Tryz.underlying83 m _ rfl (HMF.out _ (Fresh.alloc _ _)) (.string nm) (.agg #[]) _ rfl HKEY.out HHIT.out ?_)))
        go_ret
        exact ⟨rfl, HFR.out.trans ((Fresh.alloc _ _).trans (Fresh.alloc _ _))⟩
      · have hmiss := kvN_miss hin
        have HMISS := Lib.hid hmiss
        have HIN := Lib.hid hin
        clear hmiss hin
        go_wp2_with (first
          | ((with_reducible (refine at_slot_ 14 ?_)); refine wpList_load_mid rfl tItem (.tmp 13) rfl bb (off + j * 6) rfl [.string nm, .int .i64 dt, .slice sA sn sc, .int .i64 how, .bool wd, .bool ds] _ HROW.out Tryz.underlying31 rfl size_item ?_)
          | (at_lookup; (refine wpList_look_miss_ok _ rfl (.tmp 16) (.tmp 18) tNames rfl tStr tNone strKey Tryz.underlying83 _ (zero_none _) m _ rfl (HMF.out _ (Fresh.alloc _ _)) (.string nm) _ rfl HKEY.out HMISS.out ?_))
          | (at_mapUpdate; refine wpList_put_new _ rfl _ _ _ tNames rfl tStr tNone strKey Tryz.underlying83 m _ rfl (HMF.out _ ((Fresh.alloc _ _).trans (Fresh.alloc _ _))) (.string nm) (.agg #[]) _ rfl rfl HKEY.out HMISS.out ?_; intro w4 hm4 hbut4))
        go_roundw
        case rel => exact ⟨j + 1, by omega, by go_num, by rw [HTK.out, kvN_snoc]; exact hm4, Lib.hid (by rw [HTK.out]; exact nodup_snoc HND.out HIN.out), Lib.hid ((HFR.out.trans ((Fresh.alloc _ _).trans (Fresh.alloc _ _))).but (Nat.le_of_eq HMW.out) hbut4)⟩
        case measure => simp [intOf]; omega
    · have h0 : j = n := by omega
      subst h0
      have hnd := HND.out
      rw [List.take_of_length_le (by rw [List.length_map]; exact Nat.le_of_eq HLN.out)] at hnd
      have hbf : b = false := by
        cases hbb : b with
        | false => rfl
        | true => exact absurd hnd (HBB.out.1 hbb)
      subst hbf
      clear HBB hnd
      go_wp2
      go_ret
      exact ⟨rfl, HFR.out⟩
end Go.Proofs.YtmnegmebkmihhaaGreatDoor.zipp
