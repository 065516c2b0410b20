import Derived.Test.YtmnegmebkmihhaaGreatDoorMgUzb
import Derived.Test.YtmnegmebkmihhaaGreatDoorRecTlG
/-
  unzip's Open: an archive's entries. My own text.
-/
namespace Go.Proofs.YtmnegmebkmihhaaGreatDoor.unzp
open Go.RowKit Go.Maps Go.Proofs.YtmnegmebkmihhaaGreatDoor.base Go.Proofs.YtmnegmebkmihhaaGreatDoor.nam Go.Proofs.YtmnegmebkmihhaaGreatDoor.namp Go.Proofs.YtmnegmebkmihhaaGreatDoor.recn Go.Proofs.YtmnegmebkmihhaaGreatDoor.recp Go.Proofs.YtmnegmebkmihhaaGreatDoor.unz
set_option linter.unusedVariables false
theorem wideTl_bd {xs : List UInt8} {p : Nat} {t : Tl} (h : wideTl xs p = some t) : t.many < 281474976710656 ∧ t.long < 281474976710656 ∧ t.at_ < 281474976710656 := by
  unfold wideTl at h
  split at h
  · cases h
  split at h
  · cases h
  simp only at h
  split at h
  · cases h
  split at h
  · cases h
  split at h
  · rename_i hb
    injection h with h
    subst h
    exact hb
  · cases h
theorem find_bd {xs : List UInt8} {t : Tl} (h : find xs = some t) : t.many < 281474976710656 ∧ t.long < 281474976710656 ∧ t.at_ < 281474976710656 := by
  unfold find at h
  split at h
  · cases h
  split at h
  · exact wideTl_bd h
  · rename_i p _ _
    injection h with h
    subst h
    have m1 := nm2 xs (p + 10)
    have m2 := nm4 xs (p + 12)
    have m3 := nm4 xs (p + 16)
    simp only
    omega
theorem heads_ok {xs : List UInt8} : ∀ {m p : Nat} {y : List Hd × Nat}, heads xs m p = .ok y → ∀ h ∈ y.1, HdOk h xs
  | 0, p, y, hy => by rw [heads] at hy; injection hy with hy; subst hy; simp
  | m + 1, p, y, hy => by
    rw [heads] at hy
    split at hy
    · cases hy
    rename_i x hx
    split at hy
    · cases hy
    rename_i z hz
    injection hy with hy
    subst hy
    intro h hh
    rcases List.mem_cons.1 hh with rfl | hh
    · exact (cen_ok hx).1
    · exact heads_ok hz h hh
theorem cens_ok {xs : List UInt8} {t : Tl} {hs : List Hd} (h : cens xs t = .ok hs) : (∀ h ∈ hs, HdOk h xs) ∧ t.at_ + t.long ≤ xs.length ∧ t.many ≤ 1000 := by
  unfold cens at h
  split at h
  · cases h
  split at h
  · cases h
  split at h
  · cases h
  rename_i y hy
  split at h
  · injection h with h
    subst h
    exact ⟨heads_ok hy, by omega, by omega⟩
  · cases h
theorem heads_len {xs : List UInt8} : ∀ {m p : Nat} {y : List Hd × Nat}, heads xs m p = .ok y → y.1.length = m
  | 0, p, y, hy => by rw [heads] at hy; injection hy with hy; subst hy; rfl
  | m + 1, p, y, hy => by
    rw [heads] at hy
    split at hy
    · cases hy
    split at hy
    · cases hy
    rename_i z hz
    injection hy with hy
    subst hy
    simp [heads_len hz]
theorem cens_len {xs : List UInt8} {t : Tl} {hs : List Hd} (h : cens xs t = .ok hs) : hs.length ≤ 1000 := by
  have hm := (cens_ok h).2.2
  unfold cens at h
  split at h
  · cases h
  split at h
  · cases h
  split at h
  · cases h
  rename_i y hy
  split at h
  · injection h with h
    subst h
    rw [heads_len hy]
    exact hm
  · cases h
theorem fileV_len (f : Fe) : (fileV f).length = 7 := rfl
theorem fileV_one (f : Fe) : ∀ u ∈ fileV f, u.oneCell' = true := by
  intro v hv
  simp only [fileV, List.mem_cons, List.not_mem_nil, or_false] at hv
  rcases hv with rfl | rfl | rfl | rfl | rfl | rfl | rfl <;> rfl
theorem fileInfo : (Tryz.prog.info? tFile).map (fun i => (i.zero, i.size, i.bytes)) = some (some (.agg fileZ.toArray), 7, 64) := by kernel_rfl
abbrev tFiles : TypeId := 38
theorem ownK_ne_map {α : Type} {P : Program} {t : TypeId} {w : World} {base n c k b : Nat} {e : TypeId} {A : Option Addr} {f : α → List Value} {l : List α} {kv : List (Value × Value)} (h : OwnK w base e k A n c f l) (hm : MapOf P t w b kv) : (Value.slice A n c).ownBlock ≠ some b := fun e1 => by
  obtain ⟨_, _, cs, hq⟩ := h.block b e1
  exact hm.ne_cells hq rfl
def OpnIs (w : World) (r : Except Nat (List Fe)) (e : Ending) (w' : World) : Prop :=
  Fresh w w' ∧ match r with
  | .error k => e = .returned (.tuple #[.slice none 0 0, .int .i64 (k : Nat)])
  | .ok fs => ∃ A c, e = .returned (.tuple #[.slice A fs.length c, .int .i64 0]) ∧ OwnK w' w.heap.size tFile 7 A fs.length c fileV fs
set_option maxRecDepth 100000 in
set_option maxHeartbeats 16000000 in
theorem open_any (A : Option Addr) (n c : Nat) (xs : List UInt8) (w : World) (B : Nat) (hr : Rd w B A n (xs.map bv)) (hB : B ≤ w.heap.size) (hc : n ≤ c) (hm : c ≤ maxLen) (hn : n ≤ 1099511627776) (hU : Laid w) (r : Except Nat (List Fe)) (hres : opn xs = r) :
    Calls Tryz.prog 17 #[.slice A n c] w (OpnIs w r) := by
  have hmk : ∀ W : World, (Instr.makeMap tNames none).run Tryz.prog W = .ok (.map (some W.heap.size)) (W.alloc (.map #[] 0)) := fun W => by simp [Instr.makeMap]
  have hfind := find_any A n c xs w B hr hB hc hm hn
  unfold opn at hres
  cases hfd : find xs with
  | none =>
    rw [hfd] at hres
    simp only at hres
    subst hres
    have hfi : Calls Tryz.prog 36 #[.slice A n c] w fun e w' => e = .returned (.tuple #[.agg #[iv 0, iv 0, iv 0, .bool false], .int .i64 4]) ∧ Fresh w w' := hfind _ hfd
    have HFI := Lib.hid hfi
    clear hfind hfd hfi hr hU hmk
    go_enter Tryz.func17, Tryz.ntmps17
    go_wp2_with (go_at_call 36; ((with_reducible refine HFI.out.mono ?_); rintro e w1 ⟨rfl, hf1⟩))
    go_ret2
    exact ⟨hf1.trans (Fresh.alloc _ _), rfl⟩
  | some t =>
    rw [hfd] at hres
    simp only at hres
    obtain ⟨tb1, tb2, tb3⟩ := find_bd hfd
    have hcen := fun (W : World) (hf : Fresh w W) => centrals_any A n c xs t W B (hr.keep fun i hi => hf.block i (by omega)) (Nat.le_trans hB hf.size) hc hm hn tb1 tb2 tb3 _ rfl
    have hfi : Calls Tryz.prog 36 #[.slice A n c] w fun e w' => e = .returned (.tuple #[.agg #[iv (t.many : Nat), iv (t.long : Nat), iv (t.at_ : Nat), .bool t.wd], .int .i64 0]) ∧ Fresh w w' := hfind _ hfd
    have HFI := Lib.hid hfi
    cases hce : cens xs t with
    | error k =>
      rw [hce] at hres
      simp only at hres
      subst hres
      have hck : ∀ W, Fresh w W → Calls Tryz.prog 37 #[.slice A n c, .agg #[iv (t.many : Nat), iv (t.long : Nat), iv (t.at_ : Nat), .bool t.wd]] W fun e w' => Fresh W w' ∧ e = .returned (.tuple #[.slice none 0 0, .int .i64 (k : Nat)]) := fun W hf => by
        have h1 := hcen W hf
        rw [hce] at h1
        exact h1
      have hk := cens_err_ne hce
      have hkk : ((k : Int) != 0) = true := by rw [bne_iff_ne]; omega
      have HCK := Lib.hid hck
      clear hfind hfd hfi hr hU hmk hcen hck hk hce
      go_enter Tryz.func17, Tryz.ntmps17
      go_wp2_with (first
        | (go_at_call 36; ((with_reducible refine HFI.out.mono ?_); rintro e w1 ⟨rfl, hf1⟩; have HF1 := Lib.hid (hf1.trans (Fresh.alloc w1 (.cells #[iv (t.many : Nat), iv (t.long : Nat), iv (t.at_ : Nat), .bool t.wd] 76))); clear hf1))
        | (go_at_call 37; ((with_reducible refine (HCK.out _ HF1.out).mono ?_); rintro e w2 ⟨hf2, rfl⟩)))
      go_ret2
      exact ⟨HF1.out.trans hf2, rfl⟩
    | ok hs =>
      rw [hce] at hres
      simp only at hres
      have hck : ∀ W, Fresh w W → Calls Tryz.prog 37 #[.slice A n c, .agg #[iv (t.many : Nat), iv (t.long : Nat), iv (t.at_ : Nat), .bool t.wd]] W fun e w' => Fresh W w' ∧ ∃ A c l, e = .returned (.tuple #[.slice A hs.length c, .int .i64 0]) ∧ HeadsAt w' W.heap.size A hs.length c l ∧ l.map HRow.h = hs := fun W hf => by
        have h1 := hcen W hf
        rw [hce] at h1
        exact h1
      obtain ⟨hoks, _, _⟩ := cens_ok hce
      have hlen := cens_len hce
      obtain ⟨L, hL⟩ : ∃ L, hs.length = L := ⟨_, rfl⟩
      rw [hL] at hck hlen
      have HL := Lib.hid hL
      have HCK := Lib.hid hck
      have HOK := Lib.hid hoks
      have HRES := Lib.hid hres
      have HR := Lib.hid hr
      have HB := Lib.hid hB
      have HC := Lib.hid hc
      have HM := Lib.hid hm
      have HN := Lib.hid hn
      have HU := Lib.hid hU
      have HT3 := Lib.hid tb3
      obtain ⟨i0, hi0, hz0, hz1, hz2⟩ := info_parts fileInfo
      clear hfind hfd hfi hr hU hcen hck hce hB hc hm hn hoks hres tb1 tb2 tb3 hL
      obtain ⟨many, long, T, wd⟩ := t
      simp only at HFI HCK HRES HT3
      go_enter Tryz.func17, Tryz.ntmps17
      go_wp2_with (first
        | (go_at_call 36; ((with_reducible refine HFI.out.mono ?_); rintro e w1 ⟨rfl, hf1⟩; have HF1 := Lib.hid (hf1.trans (Fresh.alloc w1 (.cells #[iv (many : Nat), iv (long : Nat), iv (T : Nat), .bool wd] 76))); have HT1 := Lib.hid (Bk.made w1 76 #[iv (many : Nat), iv (long : Nat), iv (T : Nat), .bool wd]); clear hf1))
        | (go_at_call 37; ((with_reducible refine (HCK.out _ HF1.out).mono ?_); rintro e w2 ⟨hf2, Ah, ch, l, rfl, hhs, hlm⟩; have HHS := Lib.hid hhs; have HLM := Lib.hid hlm; have HF2 := Lib.hid (HF1.out.trans hf2); have HT2 := Lib.hid (HT1.out.fresh hf2); clear hf2 hhs hlm)))
      clear HFI HCK HF1 HT1
      have hll := HHS.out.len
      have HLL := Lib.hid hll
      clear hll
      have HFM := Lib.hid (Fresh.alloc w2 (.map #[] 0))
      have HMM := Lib.hid (MapOf.made Tryz.prog tStr w2)
      go_loopw [7, 33] (fun vf vi wr => ∃ (i cf : Nat) (Af : Option Addr) (fs : List Fe), vi = .int .i64 (i : Nat) ∧ vf = .slice Af i cf ∧ i ≤ L ∧ Hid (OwnK wr w2.heap.size tFile 7 Af i cf fileV fs) ∧ Hid (MapOf Tryz.prog tStr wr w2.heap.size (nmkv (fs.map (·.nm)))) ∧ Hid (ents xs T ((l.drop i).map HRow.h) fs = r) ∧ Hid (Fresh w2 wr)) (fun _ vi _ => L - (intOf vi).toNat)
      case atStart => exact ⟨0, 0, none, [], rfl, rfl, Nat.zero_le _, Lib.hid (OwnK.nil _ _ _ _ _), HMM, Lib.hid (by rw [List.drop_zero, HLM.out]; exact HRES.out), HFM⟩
      case round =>
        obtain ⟨i, cf, Af, fs, rfl, rfl, hi, HO, HMP, HE, HF⟩ := hrel
        by_cases hlt : i < L
        · have hil : i < l.length := by rw [HLL.out]; exact hlt
          have hdrop : l.drop i = l[i] :: l.drop (i + 1) := List.drop_eq_getElem_cons hil
          have hgi : l[i]? = some l[i] := List.getElem?_eq_getElem hil
          have hHok : HdOk (l[i]).h xs := HOK.out _ (by rw [← HLM.out]; exact List.mem_map.2 ⟨_, List.getElem_mem hil, rfl⟩)
          have hnm := HHS.out.nms _ (List.getElem_mem hil)
          obtain ⟨g, rfl, _, hgl, hrange⟩ := HHS.out.row.at_ hrow_len (by omega) hgi
          generalize l[i] = row at *
          obtain ⟨⟨fl, me, dt, cr, cs, si, at_, nm, wd'⟩, N, nc⟩ := row
          simp only at hnm
          simp only [hrow, headV] at hrange
          have hrange2 : wr.rangeAt g (i * 9) [iv (fl : Nat), iv (me : Nat), iv (dt : Nat), .int .u32 (cr : Nat), iv (cs : Nat), iv (si : Nat), iv (at_ : Nat), .slice N nm.length nc, .bool wd'] := fun j v hj => (World.cell?_of_block (HF.out.block g hgl)).trans (hrange j v hj)
          have HRG := Lib.hid hrange2
          have hE := HE.out
          rw [hdrop, List.map_cons] at hE
          have hent := fun (W : World) (hf : Fresh wr W) => entry_any A n c xs ⟨fl, me, dt, cr, cs, si, at_, nm, wd'⟩ N nc T w2.heap.size (fs.map (·.nm)) W B (HR.out.keep fun q hq => (HF2.out.trans (HF.out.trans hf)).block q (by have := HB.out; omega)) (Nat.le_trans HB.out (HF2.out.trans (HF.out.trans hf)).size) HC.out HM.out HN.out (hnm.1.rd.fresh (HF.out.trans hf)) hHok HT3.out (HMP.out.old (hf.block _ HMP.out.inside)) (HU.out.fresh (HF2.out.trans (HF.out.trans hf))) _ rfl
          have hft := (HT2.out.fresh (HF.out.trans (Fresh.alloc wr (.cells #[iv (fl : Nat), iv (me : Nat), iv (dt : Nat), .int .u32 (cr : Nat), iv (cs : Nat), iv (si : Nat), iv (at_ : Nat), .slice N nm.length nc, .bool wd'] tHead)))).cell (i := 2) rfl
          have ti : decide ((i : Int) < (L : Int)) = true := by rw [decide_eq_true_iff]; omega
          simp only [headV] at hent
          generalize nm.length = ln at *
          have hFA := Fresh.alloc wr (.cells #[iv (fl : Nat), iv (me : Nat), iv (dt : Nat), .int .u32 (cr : Nat), iv (cs : Nat), iv (si : Nat), iv (at_ : Nat), .slice N ln nc, .bool wd'] tHead)
          have HFA := Lib.hid hFA
          cases he : ent xs ⟨fl, me, dt, cr, cs, si, at_, nm, wd'⟩ T (fs.map (·.nm)) with
          | error k =>
            rw [ents_bad he] at hE
            subst hE
            have hek : ∀ W, Fresh wr W → Calls Tryz.prog 38 #[.slice A n c, .agg #[iv (fl : Nat), iv (me : Nat), iv (dt : Nat), .int .u32 (cr : Nat), iv (cs : Nat), iv (si : Nat), iv (at_ : Nat), .slice N ln nc, .bool wd'], .int .i64 (T : Nat), .map (some w2.heap.size)] W fun e w' => Fresh W w' ∧ e = .returned (.tuple #[.agg #[.string ⟨#[]⟩, iv 0, iv 0, .int .u32 0, iv 0, iv 0, iv 0], .int .i64 (k : Nat)]) := fun W hf => by
              have h1 := hent W hf
              rw [he] at h1
              exact h1
            have hk := ent_err_ne he
            have hkk : ((k : Int) != 0) = true := by rw [bne_iff_ne]; omega
            have HEK := Lib.hid hek
            clear hek hent hk he hrange hrange2 hnm hHok hdrop hgi hil hFA
            go_wp2_with (first
              | ((with_reducible (refine at_slot_ 36 ?_)); refine wpList_load_mid rfl tHead (.tmp 35) rfl g (i * 9) rfl _ _ HRG.out Tryz.underlying73 rfl (by kernel_rfl) ?_)
              | (go_at_call 38; ((with_reducible refine (HEK.out _ HFA.out).mono ?_); rintro e w3 ⟨hf3, rfl⟩; have HF3 := Lib.hid ((HF2.out.trans HF.out).trans (HFA.out.trans hf3)); clear hf3)))
            go_ret2
            exact ⟨HF3.out.trans (Fresh.alloc _ _), rfl⟩
          | ok f =>
            rw [ents_good he] at hE
            have hfo := ent_ok he
            have hfn := hfo.1
            have hf40 := hfo.2.1
            clear hfo
            obtain ⟨t, me', dt', cr', cs', si', a'⟩ := f
            simp only at hfn hf40
            obtain ⟨s, hs'⟩ : ∃ s, (⟨t.toArray⟩ : ByteArray) = s := ⟨_, rfl⟩
            have hss : s.size ≤ maxLen := by rw [← hs']; show t.toArray.size ≤ _; rw [List.size_toArray]; unfold maxLen; omega
            have hkey := key_str s hss
            have hmiss := nm_miss hfn
            rw [hs'] at hmiss
            have hek : ∀ W, Fresh wr W → Calls Tryz.prog 38 #[.slice A n c, .agg #[iv (fl : Nat), iv (me : Nat), iv (dt : Nat), .int .u32 (cr : Nat), iv (cs : Nat), iv (si : Nat), iv (at_ : Nat), .slice N ln nc, .bool wd'], .int .i64 (T : Nat), .map (some w2.heap.size)] W fun e w' => Fresh W w' ∧ e = .returned (.tuple #[.agg #[.string s, iv (me' : Nat), iv (dt' : Nat), .int .u32 (cr' : Nat), iv (cs' : Nat), iv (si' : Nat), iv (a' : Nat)], .int .i64 0]) := fun W hf => by
              have h1 := hent W hf
              rw [he] at h1
              rw [← hs']
              exact h1
            have HEK := Lib.hid hek
            have HKEY := Lib.hid hkey
            have HMISS := Lib.hid hmiss
            have HS := Lib.hid hs'
            have HE2 := Lib.hid hE
            have hz : (zeroValue tNone).run Tryz.prog wr = .ok (.agg #[]) wr := zero_none _
            clear hek hent he hrange hrange2 hnm hHok hdrop hgi hil hFA hkey hmiss hs' hss hfn hf40 hE hz
            go_wp2_with (first
              | ((with_reducible (refine at_slot_ 36 ?_)); refine wpList_load_mid rfl tHead (.tmp 35) rfl g (i * 9) rfl _ _ HRG.out Tryz.underlying73 rfl (by kernel_rfl) ?_)
              | (go_at_call 38; ((with_reducible refine (HEK.out _ HFA.out).mono ?_); rintro e w3 ⟨hf3, rfl⟩; have hal3 := Fresh.alloc w3 (.cells #[.string s, iv (me' : Nat), iv (dt' : Nat), .int .u32 (cr' : Nat), iv (cs' : Nat), iv (si' : Nat), iv (a' : Nat)] tFile); have HX3 := Lib.hid (HFA.out.trans (hf3.trans hal3)); have HBF := Lib.hid (Bk.made w3 tFile #[.string s, iv (me' : Nat), iv (dt' : Nat), .int .u32 (cr' : Nat), iv (cs' : Nat), iv (si' : Nat), iv (a' : Nat)]); have HM3 := Lib.hid (HMP.out.old (HX3.out.block _ HMP.out.inside) : MapOf Tryz.prog tStr (w3.alloc (.cells #[.string s, iv (me' : Nat), iv (dt' : Nat), .int .u32 (cr' : Nat), iv (cs' : Nat), iv (si' : Nat), iv (a' : Nat)] tFile)) w2.heap.size (nmkv (fs.map (·.nm)))); have HO3 := Lib.hid (HO.out.fresh HX3.out); clear hf3 hal3))
              | (at_mapUpdate; refine wpList_put_new _ rfl _ _ _ tNames rfl tStr tNone strKey Tryz.underlying83 w2.heap.size _ rfl HM3.out (.string s) (.agg #[]) _ rfl rfl HKEY.out HMISS.out ?_; intro w4 hm4 hbut4; have hne4 := HM3.out.ne_cells HBF.out; have hb4 : Bk w4 w3.heap.size tFile [.string s, iv (me' : Nat), iv (dt' : Nat), .int .u32 (cr' : Nat), iv (cs' : Nat), iv (si' : Nat), iv (a' : Nat)] := HBF.out.old (hbut4.block _ HBF.out.inside (fun e => hne4 (by injection e with e; exact e.symm))); have k0 := hb4.cell (i := 0) rfl; have hal4 := Fresh.alloc w4 (.cells #[.string s, iv (me' : Nat), iv (dt' : Nat), .int .u32 (cr' : Nat), iv (cs' : Nat), iv (si' : Nat), iv (a' : Nat)] tFile); have HF4 := Lib.hid (Fresh.trans ((HF.out.trans HX3.out).but (Nat.le_refl _) hbut4) hal4); have HO4 := Lib.hid ((HO3.out.but hbut4 (ownK_ne_map HO3.out HM3.out)).fresh hal4); have HM4 := Lib.hid (hm4.old (hal4.block _ hm4.inside)); have HBX := Lib.hid (Bk.made w4 tFile #[.string s, iv (me' : Nat), iv (dt' : Nat), .int .u32 (cr' : Nat), iv (cs' : Nat), iv (si' : Nat), iv (a' : Nat)]); have HB4 := Lib.hid hb4; clear hal4 hm4 hbut4 hne4 hb4 k0)
              | ((with_reducible (refine at_slot_ 54 ?_)); refine wpList_load_mid rfl tFile (.tmp 11) rfl w3.heap.size 0 rfl [.string s, iv (me' : Nat), iv (dt' : Nat), .int .u32 (cr' : Nat), iv (cs' : Nat), iv (si' : Nat), iv (a' : Nat)] _ (fun j v hj => by rw [Nat.zero_add]; exact HB4.out.cell hj) Tryz.underlying47 rfl (by kernel_rfl) ?_)
              | (at_builtin; refine wpList_append_cells _ rfl _ _ tFiles rfl w2.heap.size tFile i0 _ 7 64 Tryz.underlying38 hi0 hz0 hz1 hz2 rfl (by omega) fileV Af i cf fs rfl HO4.out w4.heap.size ⟨t, me', dt', cr', cs', si', a'⟩ rfl (by rw [show fileV ⟨t, me', dt', cr', cs', si', a'⟩ = [.string s, iv (me' : Nat), iv (dt' : Nat), .int .u32 (cr' : Nat), iv (cs' : Nat), iv (si' : Nat), iv (a' : Nat)] from by rw [← HS.out]; rfl]; exact HBX.out) rfl (fileV_one _) (by omega) (by omega) HF4.out.size ?_; intro A5 c5 w5 hown5 hg5 hb5))
            refine ⟨⟨i + 1, c5, A5, fs ++ [⟨t, me', dt', cr', cs', si', a'⟩], by go_num, rfl, by omega, Lib.hid hown5, Lib.hid ?_, HE2, Lib.hid (HO4.out.append HF4.out (Nat.le_refl _) hg5)⟩, ?_⟩
            · have h1 : MapOf Tryz.prog tStr w5 w2.heap.size _ := HM4.out.old (hg5.block _ HM4.out.inside (fun e => ownK_ne_map HO4.out HM4.out e.symm))
              refine h1.perm ?_
              rw [← HS.out, List.map_append]
              unfold nmkv
              rw [List.map_append]
              exact (List.perm_append_singleton _ _).symm
            · simp [intOf]; omega
        · obtain rfl : i = L := by omega
          have hE := HE.out
          rw [List.drop_of_length_le (by rw [HLL.out]; exact Nat.le_refl _), List.map_nil, ents] at hE
          subst hE
          have hfl := HO.out.len fileV_len (by omega)
          have ti : decide ((i : Int) < (i : Int)) = false := by simp
          clear hlt
          go_wp2
          go_ret2
          refine ⟨HF2.out.trans HF.out, Af, cf, ?_, ?_⟩
          · rw [hfl]
            rfl
          · rw [hfl]
            exact HO.out.low HF2.out.size
end Go.Proofs.YtmnegmebkmihhaaGreatDoor.unzp
