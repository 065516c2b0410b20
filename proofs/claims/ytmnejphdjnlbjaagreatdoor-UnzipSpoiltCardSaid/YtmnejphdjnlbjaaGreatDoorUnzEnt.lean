import Derived.Test.YtmnejphdjnlbjaaGreatDoorMgCen
import Derived.Test.YtmnejphdjnlbjaaGreatDoorMgNam
import Derived.Test.YtmnejphdjnlbjaaGreatDoorRecTlC
import Derived.StringKeys
/-
  unzip's entry: what a central head tells. My own text.
-/
namespace Go.Proofs.YtmnejphdjnlbjaaGreatDoor.unzp
open Go.RowKit Go.Maps Go.Proofs.YtmnejphdjnlbjaaGreatDoor.base Go.Proofs.YtmnejphdjnlbjaaGreatDoor.nam Go.Proofs.YtmnejphdjnlbjaaGreatDoor.namp Go.Proofs.YtmnejphdjnlbjaaGreatDoor.recn Go.Proofs.YtmnejphdjnlbjaaGreatDoor.recp Go.Proofs.YtmnejphdjnlbjaaGreatDoor.unz
set_option linter.unusedVariables false
abbrev tFile : TypeId := 31
abbrev tStr : TypeId := 9
abbrev tNames : TypeId := 50
abbrev tNone : TypeId := 55
theorem strKey : Keyed Tryz.prog tStr := string_keyed Tryz.underlying9
theorem key_str (s : ByteArray) (h : s.size ≤ maxLen) : keyOf Tryz.prog tStr (.string s) = some (.string s.data.toList) := by
  simp [keyOf, Tryz.underlying9, mapKey, h]
theorem zero_none (w : World) : (zeroValue tNone).run Tryz.prog w = .ok (.agg #[]) w := by kernel_rfl
/-- names that came, in a map -/
def nmkv (l : List (List UInt8)) : List (Value × Value) := l.map fun t => (.string ⟨t.toArray⟩, .agg #[])
theorem nm_hit {l : List (List UInt8)} {t : List UInt8} (h : t ∈ l) : ((.string ⟨t.toArray⟩, .agg #[]) : Value × Value) ∈ nmkv l := List.mem_map.2 ⟨t, h, rfl⟩
theorem nm_miss {l : List (List UInt8)} {t : List UInt8} (h : t ∉ l) : ∀ p ∈ nmkv l, p.1 ≠ .string ⟨t.toArray⟩ := by
  intro p hp
  obtain ⟨q, hq, rfl⟩ := List.mem_map.1 hp
  intro e
  simp only at e
  injection e with e
  injection e with e
  injection e with e
  subst e
  exact h hq
def fileZ : List Value := [.string ⟨#[]⟩, iv 0, iv 0, .int .u32 0, iv 0, iv 0, iv 0]
def fileV (f : Fe) : List Value := [.string ⟨f.nm.toArray⟩, iv (f.me : Nat), iv (f.dt : Nat), .int .u32 (f.cr : Nat), iv (f.cs : Nat), iv (f.si : Nat), iv (f.at_ : Nat)]
def EntIs (w : World) (r : Except Nat Fe) (e : Ending) (w' : World) : Prop :=
  Fresh w w' ∧ match r with
  | .error k => e = .returned (.tuple #[.agg fileZ.toArray, .int .i64 (k : Nat)])
  | .ok f => e = .returned (.tuple #[.agg (fileV f).toArray, .int .i64 0])
theorem file_one (s : ByteArray) (a b c d e f : Int) : (#[.string s, iv a, iv b, .int .u32 c, iv d, iv e, iv f] : Array Value).all (·.oneCell') = true := all_one _ (by
  intro v hv
  simp only [List.mem_cons, List.not_mem_nil, or_false] at hv
  rcases hv with rfl | rfl | rfl | rfl | rfl | rfl | rfl <;> rfl)
set_option maxRecDepth 100000 in
set_option maxHeartbeats 16000000 in
theorem entry_any (A : Option Addr) (n c : Nat) (xs : List UInt8) (h : Hd) (N : Option Addr) (nc en m : Nat) (ahead : List (List UInt8)) (w : World) (B : Nat) (hr : Rd w B A n (xs.map bv)) (hB : B ≤ w.heap.size) (hc : n ≤ c) (hm : c ≤ maxLen) (hn : n ≤ 1099511627776)
    (hN : Rd w w.heap.size N h.nm.length (h.nm.map bv)) (hok : HdOk h xs) (hen : en < 281474976710656) (hM : MapOf Tryz.prog tStr w m (nmkv ahead)) (hU : Laid w) (r : Except Nat Fe) (hres : ent xs h en ahead = r) :
    Calls Tryz.prog 16 #[.slice A n c, .agg (headV h N nc).toArray, .int .i64 (en : Nat), .map (some m)] w (EntIs w r) := by
  have hlx : xs.length = n := by have := hr.1; rwa [List.length_map] at this
  have hdat := fun (W : World) (hf : Fresh w W) => dataAt_any A n c xs h N nc W B (hr.keep fun i hi => hf.block i (by omega)) (Nat.le_trans hB hf.size) hc hm hn (hN.fresh hf) hok.at_
  obtain ⟨fl, me, dt, cr, cs, si, at_, nm, wd⟩ := h
  obtain ⟨ofl, ome, odt, ocr, ocs, osi, oat, onm⟩ := hok
  simp only at ofl ome odt ocr ocs osi oat onm
  simp only [headV] at hN hdat ⊢
  unfold ent at hres
  simp only at hres
  have hal : Fresh w ((w.alloc (.cells #[iv (fl : Nat), iv (me : Nat), iv (dt : Nat), .int .u32 (cr : Nat), iv (cs : Nat), iv (si : Nat), iv (at_ : Nat), .slice N nm.length nc, .bool wd] tHead)).alloc (.cells #[.string ⟨#[]⟩, iv 0, iv 0, .int .u32 0, iv 0, iv 0, iv 0] tFile)) := (Fresh.alloc _ _).trans (Fresh.alloc _ _)
  have hbk : Bk ((w.alloc (.cells #[iv (fl : Nat), iv (me : Nat), iv (dt : Nat), .int .u32 (cr : Nat), iv (cs : Nat), iv (si : Nat), iv (at_ : Nat), .slice N nm.length nc, .bool wd] tHead)).alloc (.cells #[.string ⟨#[]⟩, iv 0, iv 0, .int .u32 0, iv 0, iv 0, iv 0] tFile)) w.heap.size tHead [iv (fl : Nat), iv (me : Nat), iv (dt : Nat), .int .u32 (cr : Nat), iv (cs : Nat), iv (si : Nat), iv (at_ : Nat), .slice N nm.length nc, .bool wd] := (Bk.made w tHead _).alloc _
  have hbz : Bk ((w.alloc (.cells #[iv (fl : Nat), iv (me : Nat), iv (dt : Nat), .int .u32 (cr : Nat), iv (cs : Nat), iv (si : Nat), iv (at_ : Nat), .slice N nm.length nc, .bool wd] tHead)).alloc (.cells #[.string ⟨#[]⟩, iv 0, iv 0, .int .u32 0, iv 0, iv 0, iv 0] tFile)) (w.heap.size + 1) tFile fileZ := by
    have h := Bk.made (w.alloc (.cells #[iv (fl : Nat), iv (me : Nat), iv (dt : Nat), .int .u32 (cr : Nat), iv (cs : Nat), iv (si : Nat), iv (at_ : Nat), .slice N nm.length nc, .bool wd] tHead)) tFile #[.string ⟨#[]⟩, iv 0, iv 0, .int .u32 0, iv 0, iv 0, iv 0]
    have e : (w.alloc (.cells #[iv (fl : Nat), iv (me : Nat), iv (dt : Nat), .int .u32 (cr : Nat), iv (cs : Nat), iv (si : Nat), iv (at_ : Nat), .slice N nm.length nc, .bool wd] tHead)).heap.size = w.heap.size + 1 := by simp
    rwa [e] at h
  have hdec := fun (W : World) (hf : Fresh w W) => dec_any N nm.length nc nm (fl / 2048 % 2 == 1) W _ (hN.fresh hf) (Nat.le_refl _) (by omega) (hU.fresh hf) _ rfl
  have tb0 := and_2048 fl ofl
  have tb1 := and_1 fl ofl
  have hdl := fun t => decL_len (fl / 2048 % 2 == 1) nm t
  generalize (fl / 2048 % 2 == 1) = b0 at *
  generalize nm.length = L at *
  have hgz : w.heap.size ≤ w.heap.size + 1 := Nat.le_succ _
  generalize hg8 : w.heap.size + 1 = g8 at *
  cases hd : decL b0 nm with
  | none =>
    rw [hd] at hres hdec
    simp only at hres
    subst hres
    have hdv : decV none = .tuple #[.string ⟨#[]⟩, .bool false] := rfl
    rw [hdv] at hdec
    have HDEC := Lib.hid hdec
    have HF0 := Lib.hid hal
    have HB0 := Lib.hid hbk
    have HZ0 := Lib.hid hbz
    clear hdec hal hbk hbz hdat hd hr hN hM hU hdl tb1 hdv
    go_enter Tryz.func16, Tryz.ntmps16
    go_upto_region 1 with (fail)
    generalize (w.alloc (.cells #[.int .i64 (fl : Nat), .int .i64 (me : Nat), .int .i64 (dt : Nat), .int .u32 (cr : Nat), .int .i64 (cs : Nat), .int .i64 (si : Nat), .int .i64 (at_ : Nat), .slice N L nc, .bool wd] tHead)).alloc (.cells #[.string ⟨#[]⟩, .int .i64 0, .int .i64 0, .int .u32 0, .int .i64 0, .int .i64 0, .int .i64 0] tFile) = W0 at *
    have k0 := HB0.out.cell (i := 0) rfl
    have k7 := HB0.out.cell (i := 7) rfl
    go_wp2_with (first
      | (go_at_call 27; ((with_reducible refine (HDEC.out _ HF0.out).mono ?_); rintro e w1 ⟨rfl, hf1⟩; have HZ1 := Lib.hid (HZ0.out.fresh hf1); have HF1 := Lib.hid (HF0.out.trans hf1); clear hf1))
      | ((with_reducible (refine at_store_ 8 33 ?_)); refine wpList_store_row (o := ⟨none, _, _, _, _, _⟩) rfl tFile (.tmp 8) (.tmp 33) rfl g8 fileZ.toArray rfl rfl tFile _ HZ1.out (by kernel_rfl) (by rfl) (by kernel_rfl) ?_))
    exact bodyPost_ret (results_row_tmp (p := 8) (u := 9) (by kernel_rfl) _ _ g8 tFile fileZ _ rfl (HZ1.out.row _) Tryz.underlying31 rfl (by kernel_rfl)) rfl ⟨HF1.out.but hgz (But.row _ _ _), rfl⟩
  | some t =>
    have htl : t.length ≤ 262140 := by have := hdl t hd; omega
    rw [hd] at hres hdec
    simp only at hres
    obtain ⟨s, hs⟩ : ∃ s, (⟨t.toArray⟩ : ByteArray) = s := ⟨_, rfl⟩
    have hss : s.size ≤ maxLen := by rw [← hs]; show t.toArray.size ≤ _; rw [List.size_toArray]; unfold maxLen; omega
    have hmay := fun (W : World) (hf : Fresh w W) b hb => may_of t W (by omega) (hU.fresh hf) b hb
    rw [hs] at hmay
    have hkey := key_str s hss
    have HS := Lib.hid hs
    have hdv : decV (some t) = .tuple #[.string s, .bool true] := by rw [← hs]; rfl
    rw [hdv] at hdec
    have HDEC := Lib.hid hdec
    have HF0 := Lib.hid hal
    have HB0 := Lib.hid hbk
    have HZ0 := Lib.hid hbz
    cases hmy : mayL t with
    | false =>
      have HMAY := Lib.hid fun (W : World) hf => hmay W hf _ hmy
      rw [hmy, if_pos rfl] at hres
      subst hres
      clear hdec hal hbk hbz hdat hd hr hN hM hU hdl tb1 hmay hs hss hkey hdv hmy
      go_enter Tryz.func16, Tryz.ntmps16
      go_upto_region 1 with (fail)
      generalize (w.alloc (.cells #[.int .i64 (fl : Nat), .int .i64 (me : Nat), .int .i64 (dt : Nat), .int .u32 (cr : Nat), .int .i64 (cs : Nat), .int .i64 (si : Nat), .int .i64 (at_ : Nat), .slice N L nc, .bool wd] tHead)).alloc (.cells #[.string ⟨#[]⟩, .int .i64 0, .int .i64 0, .int .u32 0, .int .i64 0, .int .i64 0, .int .i64 0] tFile) = W0 at *
      have k0 := HB0.out.cell (i := 0) rfl
      have k7 := HB0.out.cell (i := 7) rfl
      go_wp2_with (first
        | (go_at_call 27; ((with_reducible refine (HDEC.out _ HF0.out).mono ?_); rintro e w1 ⟨rfl, hf1⟩; have HZ1 := Lib.hid (HZ0.out.fresh hf1); have HF1 := Lib.hid (HF0.out.trans hf1); clear hf1))
        | (go_at_call 28; ((with_reducible refine (HMAY.out _ HF1.out).mono ?_); rintro e w2 ⟨rfl, hf2⟩; have HZ2 := Lib.hid (HZ1.out.fresh hf2); have HF2 := Lib.hid (HF1.out.trans hf2); clear hf2))
        | ((with_reducible (refine at_store_ 8 33 ?_)); refine wpList_store_row (o := ⟨none, _, _, _, _, _⟩) rfl tFile (.tmp 8) (.tmp 33) rfl g8 fileZ.toArray rfl rfl tFile _ HZ2.out (by kernel_rfl) (by rfl) (by kernel_rfl) ?_))
      exact bodyPost_ret (results_row_tmp (p := 8) (u := 9) (by kernel_rfl) _ _ g8 tFile fileZ _ rfl (HZ2.out.row _) Tryz.underlying31 rfl (by kernel_rfl)) rfl ⟨HF2.out.but hgz (But.row _ _ _), rfl⟩
    | true =>
      have HMAY := Lib.hid fun (W : World) hf => hmay W hf _ hmy
      rw [hmy, if_neg (by simp)] at hres
      have HM := Lib.hid (fun (W : World) (hf : Fresh w W) => (hM.old (hf.block m hM.inside) : MapOf Tryz.prog tStr W m (nmkv ahead)))
      have HKEY := Lib.hid hkey
      by_cases hmem : t ∈ ahead
      · have hhit := nm_hit hmem
        rw [hs] at hhit
        have HHIT := Lib.hid hhit
        rw [if_pos hmem] at hres
        subst hres
        clear hdec hal hbk hbz hdat hd hr hN hM hU hdl tb1 hmay hs hss hkey hdv hmy hmem hhit
        go_enter Tryz.func16, Tryz.ntmps16
        go_upto_region 1 with (fail)
        generalize (w.alloc (.cells #[.int .i64 (fl : Nat), .int .i64 (me : Nat), .int .i64 (dt : Nat), .int .u32 (cr : Nat), .int .i64 (cs : Nat), .int .i64 (si : Nat), .int .i64 (at_ : Nat), .slice N L nc, .bool wd] tHead)).alloc (.cells #[.string ⟨#[]⟩, .int .i64 0, .int .i64 0, .int .u32 0, .int .i64 0, .int .i64 0, .int .i64 0] tFile) = W0 at *
        have k0 := HB0.out.cell (i := 0) rfl
        have k7 := HB0.out.cell (i := 7) rfl
        go_wp2_with (first
          | (go_at_call 27; ((with_reducible refine (HDEC.out _ HF0.out).mono ?_); rintro e w1 ⟨rfl, hf1⟩; have HZ1 := Lib.hid (HZ0.out.fresh hf1); have HF1 := Lib.hid (HF0.out.trans hf1); clear hf1))
          | (go_at_call 28; ((with_reducible refine (HMAY.out _ HF1.out).mono ?_); rintro e w2 ⟨rfl, hf2⟩; have HZ2 := Lib.hid ((HZ1.out.fresh hf2).fresh (Fresh.alloc w2 (.cells #[] tNone))); have HF2 := Lib.hid (HF1.out.trans hf2); have HF3 := Lib.hid (HF2.out.trans (Fresh.alloc w2 (.cells #[] tNone))); clear hf2))
          | (at_lookup; (refine wpList_look_hit_ok _ rfl (.tmp 35) (.tmp 36) tNames rfl tStr tNone strKey Tryz.underlying50 m _ rfl (HM.out _ HF2.out) (.string s) (.agg #[]) _ rfl HKEY.out HHIT.out ?_))
          | ((with_reducible (refine at_store_ 8 41 ?_)); refine wpList_store_row (o := ⟨none, _, _, _, _, _⟩) rfl tFile (.tmp 8) (.tmp 41) rfl g8 fileZ.toArray rfl rfl tFile _ HZ2.out (by kernel_rfl) (by rfl) (by kernel_rfl) ?_))
        exact bodyPost_ret (results_row_tmp (p := 8) (u := 9) (by kernel_rfl) _ _ g8 tFile fileZ _ rfl (HZ2.out.row _) Tryz.underlying31 rfl (by kernel_rfl)) rfl ⟨HF3.out.but hgz (But.row _ _ _), rfl⟩
      · have hmiss := nm_miss hmem
        rw [hs] at hmiss
        have HMISS := Lib.hid hmiss
        rw [if_neg hmem] at hres
        have t5 : (!(me == 0) && !(me == 8)) = !(me == 0 || me == 8) := by cases me == 0 <;> cases me == 8 <;> rfl
        have hrd := fun (W : World) => readable_any me W ome _ rfl
        rw [t5] at hres
        have HRD := Lib.hid hrd
        have t6 : ((me : Int) == 0) = (me == 0) := by rw [Bool.eq_iff_iff]; simp
        have t7 : ((cs : Int) != (si : Int)) = !(cs == si) := by rw [Bool.eq_iff_iff, bne_iff_ne]; simp <;> omega
        clear hrd t5
        generalize (fl % 2 == 1) = b4 at *
        generalize (me == 0 || me == 8) = b5 at *
        generalize (me == 0) = b6 at *
        generalize (cs == si) = b7 at *
        have HDT := Lib.hid hdat
        clear hdat
        clear hdec hal hbk hbz hd hr hN hM hU hdl hmay hs hss hkey hdv hmy hmem hmiss
        by_cases hbr : b4 = true ∨ (b4 = false ∧ b5 = false)
        · have hres' : Except.error 13 = r := by rcases hbr with rfl | ⟨rfl, rfl⟩ <;> simpa using hres
          subst hres'
          clear hres t6 t7
          rcases hbr with rfl | ⟨rfl, rfl⟩
          · go_enter Tryz.func16, Tryz.ntmps16
            go_upto_region 1 with (fail)
            generalize (w.alloc (.cells #[.int .i64 (fl : Nat), .int .i64 (me : Nat), .int .i64 (dt : Nat), .int .u32 (cr : Nat), .int .i64 (cs : Nat), .int .i64 (si : Nat), .int .i64 (at_ : Nat), .slice N L nc, .bool wd] tHead)).alloc (.cells #[.string ⟨#[]⟩, .int .i64 0, .int .i64 0, .int .u32 0, .int .i64 0, .int .i64 0, .int .i64 0] tFile) = W0 at *
            have k0 := HB0.out.cell (i := 0) rfl
            have k7 := HB0.out.cell (i := 7) rfl
            go_upto_region 5 with (first
              | (go_at_call 27; ((with_reducible refine (HDEC.out _ HF0.out).mono ?_); rintro e w1 ⟨rfl, hf1⟩; have HZ1 := Lib.hid (HZ0.out.fresh hf1); have HB1 := Lib.hid (HB0.out.fresh hf1); have HF1 := Lib.hid (HF0.out.trans hf1); clear hf1))
              | (go_at_call 28; ((with_reducible refine (HMAY.out _ HF1.out).mono ?_); rintro e w2 ⟨rfl, hf2⟩; have HZ3 := Lib.hid ((HZ1.out.fresh hf2).fresh (Fresh.alloc w2 (.cells #[] tNone))); have HB3 := Lib.hid ((HB1.out.fresh hf2).fresh (Fresh.alloc w2 (.cells #[] tNone))); have HF2 := Lib.hid (HF1.out.trans hf2); have HF3 := Lib.hid (HF2.out.trans (Fresh.alloc w2 (.cells #[] tNone))); clear hf2))
              | (at_lookup; (refine wpList_look_miss_ok _ rfl (.tmp 35) (.tmp 36) tNames rfl tStr tNone strKey Tryz.underlying50 _ (zero_none _) m _ rfl (HM.out _ HF2.out) (.string s) _ rfl HKEY.out HMISS.out ?_)))
            generalize w2.alloc (.cells #[] tNone) = W3 at *
            clear k0 k7
            have k0 := HB3.out.cell (i := 0) rfl
            have k1 := HB3.out.cell (i := 1) rfl
            have HGZ := Lib.hid hgz
            clear HDEC HMAY HM HKEY HMISS HF0 HB0 HZ0 HZ1 HB1 HF1 HF2 hB hc hm hn hen hlx ofl ome odt ocr ocs osi oat onm htl hg8 hgz tb0
            go_wp2_with ((with_reducible (refine at_store_ 8 52 ?_)); refine wpList_store_row (o := ⟨none, _, _, _, _, _⟩) rfl tFile (.tmp 8) (.tmp 52) rfl g8 fileZ.toArray rfl rfl tFile _ HZ3.out (by kernel_rfl) (by rfl) (by kernel_rfl) ?_)
            exact bodyPost_ret (results_row_tmp (p := 8) (u := 9) (by kernel_rfl) _ _ g8 tFile fileZ _ rfl (HZ3.out.row _) Tryz.underlying31 rfl (by kernel_rfl)) rfl ⟨HF3.out.but HGZ.out (But.row _ _ _), rfl⟩
          · go_enter Tryz.func16, Tryz.ntmps16
            go_upto_region 1 with (fail)
            generalize (w.alloc (.cells #[.int .i64 (fl : Nat), .int .i64 (me : Nat), .int .i64 (dt : Nat), .int .u32 (cr : Nat), .int .i64 (cs : Nat), .int .i64 (si : Nat), .int .i64 (at_ : Nat), .slice N L nc, .bool wd] tHead)).alloc (.cells #[.string ⟨#[]⟩, .int .i64 0, .int .i64 0, .int .u32 0, .int .i64 0, .int .i64 0, .int .i64 0] tFile) = W0 at *
            have k0 := HB0.out.cell (i := 0) rfl
            have k7 := HB0.out.cell (i := 7) rfl
            go_upto_region 5 with (first
              | (go_at_call 27; ((with_reducible refine (HDEC.out _ HF0.out).mono ?_); rintro e w1 ⟨rfl, hf1⟩; have HZ1 := Lib.hid (HZ0.out.fresh hf1); have HB1 := Lib.hid (HB0.out.fresh hf1); have HF1 := Lib.hid (HF0.out.trans hf1); clear hf1))
              | (go_at_call 28; ((with_reducible refine (HMAY.out _ HF1.out).mono ?_); rintro e w2 ⟨rfl, hf2⟩; have HZ3 := Lib.hid ((HZ1.out.fresh hf2).fresh (Fresh.alloc w2 (.cells #[] tNone))); have HB3 := Lib.hid ((HB1.out.fresh hf2).fresh (Fresh.alloc w2 (.cells #[] tNone))); have HF2 := Lib.hid (HF1.out.trans hf2); have HF3 := Lib.hid (HF2.out.trans (Fresh.alloc w2 (.cells #[] tNone))); clear hf2))
              | (at_lookup; (refine wpList_look_miss_ok _ rfl (.tmp 35) (.tmp 36) tNames rfl tStr tNone strKey Tryz.underlying50 _ (zero_none _) m _ rfl (HM.out _ HF2.out) (.string s) _ rfl HKEY.out HMISS.out ?_)))
            generalize w2.alloc (.cells #[] tNone) = W3 at *
            clear k0 k7
            have k0 := HB3.out.cell (i := 0) rfl
            have k1 := HB3.out.cell (i := 1) rfl
            have HGZ := Lib.hid hgz
            clear HDEC HMAY HM HKEY HMISS HF0 HB0 HZ0 HZ1 HB1 HF1 HF2 hB hc hm hn hen hlx ofl ome odt ocr ocs osi oat onm htl hg8 hgz tb0
            go_wp2_with (first
              | (go_at_call 18; ((with_reducible refine (HRD.out _).mono ?_); rintro e w3 ⟨rfl, rfl⟩))
              | ((with_reducible (refine at_store_ 8 52 ?_)); refine wpList_store_row (o := ⟨none, _, _, _, _, _⟩) rfl tFile (.tmp 8) (.tmp 52) rfl g8 fileZ.toArray rfl rfl tFile _ HZ3.out (by kernel_rfl) (by rfl) (by kernel_rfl) ?_))
            exact bodyPost_ret (results_row_tmp (p := 8) (u := 9) (by kernel_rfl) _ _ g8 tFile fileZ _ rfl (HZ3.out.row _) Tryz.underlying31 rfl (by kernel_rfl)) rfl ⟨HF3.out.but HGZ.out (But.row _ _ _), rfl⟩
        · have hb4 : b4 = false := by cases b4 <;> simp_all
          have hb5 : b5 = true := by cases b5 <;> simp_all
          subst hb4
          subst hb5
          simp only [Bool.not_true, Bool.or_false, Bool.false_eq_true, if_false] at hres
          clear hbr
          cases hda : dat xs ⟨fl, me, dt, cr, cs, si, at_, nm, wd⟩ with
          | error k =>
            rw [hda] at hres
            simp only at hres
            subst hres
            have hdk : ∀ W, Fresh w W → Calls Tryz.prog 29 #[.slice A n c, .agg #[iv (fl : Nat), iv (me : Nat), iv (dt : Nat), .int .u32 (cr : Nat), iv (cs : Nat), iv (si : Nat), iv (at_ : Nat), .slice N L nc, .bool wd]] W fun e w' => Fresh W w' ∧ e = .returned (.tuple #[iv 0, .int .i64 (k : Nat)]) := fun W hf => HDT.out W hf _ hda
            have hk := dat_err_ne hda
            have hkk : ((k : Int) != 0) = true := by rw [bne_iff_ne]; omega
            have HDAT := Lib.hid hdk
            clear hdk hk hda t6 t7
            go_enter Tryz.func16, Tryz.ntmps16
            go_upto_region 1 with (fail)
            generalize (w.alloc (.cells #[.int .i64 (fl : Nat), .int .i64 (me : Nat), .int .i64 (dt : Nat), .int .u32 (cr : Nat), .int .i64 (cs : Nat), .int .i64 (si : Nat), .int .i64 (at_ : Nat), .slice N L nc, .bool wd] tHead)).alloc (.cells #[.string ⟨#[]⟩, .int .i64 0, .int .i64 0, .int .u32 0, .int .i64 0, .int .i64 0, .int .i64 0] tFile) = W0 at *
            have k0 := HB0.out.cell (i := 0) rfl
            have k7 := HB0.out.cell (i := 7) rfl
            go_upto_region 5 with (first
              | (go_at_call 27; ((with_reducible refine (HDEC.out _ HF0.out).mono ?_); rintro e w1 ⟨rfl, hf1⟩; have HZ1 := Lib.hid (HZ0.out.fresh hf1); have HB1 := Lib.hid (HB0.out.fresh hf1); have HF1 := Lib.hid (HF0.out.trans hf1); clear hf1))
              | (go_at_call 28; ((with_reducible refine (HMAY.out _ HF1.out).mono ?_); rintro e w2 ⟨rfl, hf2⟩; have HZ3 := Lib.hid ((HZ1.out.fresh hf2).fresh (Fresh.alloc w2 (.cells #[] tNone))); have HB3 := Lib.hid ((HB1.out.fresh hf2).fresh (Fresh.alloc w2 (.cells #[] tNone))); have HF2 := Lib.hid (HF1.out.trans hf2); have HF3 := Lib.hid (HF2.out.trans (Fresh.alloc w2 (.cells #[] tNone))); clear hf2))
              | (at_lookup; (refine wpList_look_miss_ok _ rfl (.tmp 35) (.tmp 36) tNames rfl tStr tNone strKey Tryz.underlying50 _ (zero_none _) m _ rfl (HM.out _ HF2.out) (.string s) _ rfl HKEY.out HMISS.out ?_)))
            generalize w2.alloc (.cells #[] tNone) = W3 at *
            clear k0 k7
            have k0 := HB3.out.cell (i := 0) rfl
            have k1 := HB3.out.cell (i := 1) rfl
            have HGZ := Lib.hid hgz
            clear HDEC HMAY HM HKEY HMISS HF0 HB0 HZ0 HZ1 HB1 HF1 HF2 hB hc hm hn hen hlx ofl ome odt ocr ocs osi oat onm htl hg8 hgz tb0
            go_wp2_with (first
              | (go_at_call 18; ((with_reducible refine (HRD.out _).mono ?_); rintro e w3 ⟨rfl, rfl⟩))
              | ((with_reducible (refine at_slot_ 55 ?_)); refine wpList_load_mid rfl tHead (.tmp 5) rfl w.heap.size 0 rfl [iv (fl : Nat), iv (me : Nat), iv (dt : Nat), .int .u32 (cr : Nat), iv (cs : Nat), iv (si : Nat), iv (at_ : Nat), .slice N L nc, .bool wd] _ (fun j v hj => by rw [Nat.zero_add]; exact HB3.out.cell hj) Tryz.underlying52 rfl (by kernel_rfl) ?_)
              | (go_at_call 29; ((with_reducible refine (HDAT.out _ HF3.out).mono ?_); rintro e w4 ⟨hf4, rfl⟩; have HZ4 := Lib.hid (HZ3.out.fresh hf4); have HB4 := Lib.hid (HB3.out.fresh hf4); have HF4 := Lib.hid (HF3.out.trans hf4); have q1 := HB4.out.cell (i := 1) rfl; have q2 := HB4.out.cell (i := 2) rfl; have q3 := HB4.out.cell (i := 3) rfl; have q4 := HB4.out.cell (i := 4) rfl; have q5 := HB4.out.cell (i := 5) rfl; clear hf4))
              | (go_at_call 17; ((with_reducible refine (HWI.out _).mono ?_); rintro e w5 ⟨rfl, rfl⟩))
              | ((with_reducible (refine at_store_ 8 62 ?_)); refine wpList_store_row (o := ⟨none, _, _, _, _, _⟩) rfl tFile (.tmp 8) (.tmp 62) rfl g8 fileZ.toArray rfl rfl tFile _ HZ4.out (by kernel_rfl) (by rfl) (by kernel_rfl) ?_))
            exact bodyPost_ret (results_row_tmp (p := 8) (u := 9) (by kernel_rfl) _ _ g8 tFile fileZ _ rfl (HZ4.out.row _) Tryz.underlying31 rfl (by kernel_rfl)) rfl ⟨HF4.out.but HGZ.out (But.row _ _ _), rfl⟩
          | ok a =>
            rw [hda] at hres
            simp only at hres
            have hdk : ∀ W, Fresh w W → Calls Tryz.prog 29 #[.slice A n c, .agg #[iv (fl : Nat), iv (me : Nat), iv (dt : Nat), .int .u32 (cr : Nat), iv (cs : Nat), iv (si : Nat), iv (at_ : Nat), .slice N L nc, .bool wd]] W fun e w' => Fresh W w' ∧ e = .returned (.tuple #[iv (a : Nat), .int .i64 0]) := fun W hf => HDT.out W hf _ hda
            have ha := dat_ok hda
            rw [hlx] at ha
            have hwi := fun (W : World) => within_any a cs en W (by omega) (by omega) (by omega)
            have HDAT := Lib.hid hdk
            clear hdk hda ha
            by_cases hw : en < a + cs
            · rw [if_pos hw] at hres
              subst hres
              have HWI := Lib.hid fun W => hwi W false (by rw [decide_eq_false_iff_not]; omega)
              clear hwi hw t6 t7
              go_enter Tryz.func16, Tryz.ntmps16
              go_upto_region 1 with (fail)
              generalize (w.alloc (.cells #[.int .i64 (fl : Nat), .int .i64 (me : Nat), .int .i64 (dt : Nat), .int .u32 (cr : Nat), .int .i64 (cs : Nat), .int .i64 (si : Nat), .int .i64 (at_ : Nat), .slice N L nc, .bool wd] tHead)).alloc (.cells #[.string ⟨#[]⟩, .int .i64 0, .int .i64 0, .int .u32 0, .int .i64 0, .int .i64 0, .int .i64 0] tFile) = W0 at *
              have k0 := HB0.out.cell (i := 0) rfl
              have k7 := HB0.out.cell (i := 7) rfl
              go_upto_region 5 with (first
                | (go_at_call 27; ((with_reducible refine (HDEC.out _ HF0.out).mono ?_); rintro e w1 ⟨rfl, hf1⟩; have HZ1 := Lib.hid (HZ0.out.fresh hf1); have HB1 := Lib.hid (HB0.out.fresh hf1); have HF1 := Lib.hid (HF0.out.trans hf1); clear hf1))
                | (go_at_call 28; ((with_reducible refine (HMAY.out _ HF1.out).mono ?_); rintro e w2 ⟨rfl, hf2⟩; have HZ3 := Lib.hid ((HZ1.out.fresh hf2).fresh (Fresh.alloc w2 (.cells #[] tNone))); have HB3 := Lib.hid ((HB1.out.fresh hf2).fresh (Fresh.alloc w2 (.cells #[] tNone))); have HF2 := Lib.hid (HF1.out.trans hf2); have HF3 := Lib.hid (HF2.out.trans (Fresh.alloc w2 (.cells #[] tNone))); clear hf2))
                | (at_lookup; (refine wpList_look_miss_ok _ rfl (.tmp 35) (.tmp 36) tNames rfl tStr tNone strKey Tryz.underlying50 _ (zero_none _) m _ rfl (HM.out _ HF2.out) (.string s) _ rfl HKEY.out HMISS.out ?_)))
              generalize w2.alloc (.cells #[] tNone) = W3 at *
              clear k0 k7
              have k0 := HB3.out.cell (i := 0) rfl
              have k1 := HB3.out.cell (i := 1) rfl
              have HGZ := Lib.hid hgz
              clear HDEC HMAY HM HKEY HMISS HF0 HB0 HZ0 HZ1 HB1 HF1 HF2 hB hc hm hn hen hlx ofl ome odt ocr ocs osi oat onm htl hg8 hgz tb0
              go_wp2_with (first
                | (go_at_call 18; ((with_reducible refine (HRD.out _).mono ?_); rintro e w3 ⟨rfl, rfl⟩))
                | ((with_reducible (refine at_slot_ 55 ?_)); refine wpList_load_mid rfl tHead (.tmp 5) rfl w.heap.size 0 rfl [iv (fl : Nat), iv (me : Nat), iv (dt : Nat), .int .u32 (cr : Nat), iv (cs : Nat), iv (si : Nat), iv (at_ : Nat), .slice N L nc, .bool wd] _ (fun j v hj => by rw [Nat.zero_add]; exact HB3.out.cell hj) Tryz.underlying52 rfl (by kernel_rfl) ?_)
                | (go_at_call 29; ((with_reducible refine (HDAT.out _ HF3.out).mono ?_); rintro e w4 ⟨hf4, rfl⟩; have HZ4 := Lib.hid (HZ3.out.fresh hf4); have HB4 := Lib.hid (HB3.out.fresh hf4); have HF4 := Lib.hid (HF3.out.trans hf4); have q1 := HB4.out.cell (i := 1) rfl; have q2 := HB4.out.cell (i := 2) rfl; have q3 := HB4.out.cell (i := 3) rfl; have q4 := HB4.out.cell (i := 4) rfl; have q5 := HB4.out.cell (i := 5) rfl; clear hf4))
                | (go_at_call 17; ((with_reducible refine (HWI.out _).mono ?_); rintro e w5 ⟨rfl, rfl⟩))
                | ((with_reducible (refine at_store_ 8 71 ?_)); refine wpList_store_row (o := ⟨none, _, _, _, _, _⟩) rfl tFile (.tmp 8) (.tmp 71) rfl g8 fileZ.toArray rfl rfl tFile _ HZ4.out (by kernel_rfl) (by rfl) (by kernel_rfl) ?_))
              exact bodyPost_ret (results_row_tmp (p := 8) (u := 9) (by kernel_rfl) _ _ g8 tFile fileZ _ rfl (HZ4.out.row _) Tryz.underlying31 rfl (by kernel_rfl)) rfl ⟨HF4.out.but HGZ.out (But.row _ _ _), rfl⟩
            · rw [if_neg hw] at hres
              have HWI := Lib.hid fun W => hwi W true (by rw [decide_eq_true_iff]; omega)
              clear hwi hw
              by_cases hbr : b6 = true ∧ b7 = false
              · obtain ⟨rfl, rfl⟩ := hbr
                have hres' : Except.error 14 = r := by simpa using hres
                subst hres'
                clear hres
                go_enter Tryz.func16, Tryz.ntmps16
                go_upto_region 1 with (fail)
                generalize (w.alloc (.cells #[.int .i64 (fl : Nat), .int .i64 (me : Nat), .int .i64 (dt : Nat), .int .u32 (cr : Nat), .int .i64 (cs : Nat), .int .i64 (si : Nat), .int .i64 (at_ : Nat), .slice N L nc, .bool wd] tHead)).alloc (.cells #[.string ⟨#[]⟩, .int .i64 0, .int .i64 0, .int .u32 0, .int .i64 0, .int .i64 0, .int .i64 0] tFile) = W0 at *
                have k0 := HB0.out.cell (i := 0) rfl
                have k7 := HB0.out.cell (i := 7) rfl
                go_upto_region 5 with (first
                  | (go_at_call 27; ((with_reducible refine (HDEC.out _ HF0.out).mono ?_); rintro e w1 ⟨rfl, hf1⟩; have HZ1 := Lib.hid (HZ0.out.fresh hf1); have HB1 := Lib.hid (HB0.out.fresh hf1); have HF1 := Lib.hid (HF0.out.trans hf1); clear hf1))
                  | (go_at_call 28; ((with_reducible refine (HMAY.out _ HF1.out).mono ?_); rintro e w2 ⟨rfl, hf2⟩; have HZ3 := Lib.hid ((HZ1.out.fresh hf2).fresh (Fresh.alloc w2 (.cells #[] tNone))); have HB3 := Lib.hid ((HB1.out.fresh hf2).fresh (Fresh.alloc w2 (.cells #[] tNone))); have HF2 := Lib.hid (HF1.out.trans hf2); have HF3 := Lib.hid (HF2.out.trans (Fresh.alloc w2 (.cells #[] tNone))); clear hf2))
                  | (at_lookup; (refine wpList_look_miss_ok _ rfl (.tmp 35) (.tmp 36) tNames rfl tStr tNone strKey Tryz.underlying50 _ (zero_none _) m _ rfl (HM.out _ HF2.out) (.string s) _ rfl HKEY.out HMISS.out ?_)))
                generalize w2.alloc (.cells #[] tNone) = W3 at *
                clear k0 k7
                have k0 := HB3.out.cell (i := 0) rfl
                have k1 := HB3.out.cell (i := 1) rfl
                have HGZ := Lib.hid hgz
                clear HDEC HMAY HM HKEY HMISS HF0 HB0 HZ0 HZ1 HB1 HF1 HF2 hB hc hm hn hen hlx ofl ome odt ocr ocs osi oat onm htl hg8 hgz tb0
                go_wp2_with (first
                  | (go_at_call 18; ((with_reducible refine (HRD.out _).mono ?_); rintro e w3 ⟨rfl, rfl⟩))
                  | ((with_reducible (refine at_slot_ 55 ?_)); refine wpList_load_mid rfl tHead (.tmp 5) rfl w.heap.size 0 rfl [iv (fl : Nat), iv (me : Nat), iv (dt : Nat), .int .u32 (cr : Nat), iv (cs : Nat), iv (si : Nat), iv (at_ : Nat), .slice N L nc, .bool wd] _ (fun j v hj => by rw [Nat.zero_add]; exact HB3.out.cell hj) Tryz.underlying52 rfl (by kernel_rfl) ?_)
                  | (go_at_call 29; ((with_reducible refine (HDAT.out _ HF3.out).mono ?_); rintro e w4 ⟨hf4, rfl⟩; have HZ4 := Lib.hid (HZ3.out.fresh hf4); have HB4 := Lib.hid (HB3.out.fresh hf4); have HF4 := Lib.hid (HF3.out.trans hf4); have q1 := HB4.out.cell (i := 1) rfl; have q2 := HB4.out.cell (i := 2) rfl; have q3 := HB4.out.cell (i := 3) rfl; have q4 := HB4.out.cell (i := 4) rfl; have q5 := HB4.out.cell (i := 5) rfl; clear hf4))
                  | (go_at_call 17; ((with_reducible refine (HWI.out _).mono ?_); rintro e w5 ⟨rfl, rfl⟩))
                  | ((with_reducible (refine at_store_ 8 83 ?_)); refine wpList_store_row (o := ⟨none, _, _, _, _, _⟩) rfl tFile (.tmp 8) (.tmp 83) rfl g8 fileZ.toArray rfl rfl tFile _ HZ4.out (by kernel_rfl) (by rfl) (by kernel_rfl) ?_))
                exact bodyPost_ret (results_row_tmp (p := 8) (u := 9) (by kernel_rfl) _ _ g8 tFile fileZ _ rfl (HZ4.out.row _) Tryz.underlying31 rfl (by kernel_rfl)) rfl ⟨HF4.out.but HGZ.out (But.row _ _ _), rfl⟩
              · have hres' : Except.ok ⟨t, me, dt, cr, cs, si, a⟩ = r := by cases b6 <;> cases b7 <;> simp_all
                subst hres'
                clear hres
                have hb : b6 = false ∨ (b6 = true ∧ b7 = true) := by cases b6 <;> cases b7 <;> simp_all
                have hsv : ∀ e : Ending, e = .returned (.tuple #[.agg #[.string s, iv (me : Nat), iv (dt : Nat), .int .u32 (cr : Nat), iv (cs : Nat), iv (si : Nat), iv (a : Nat)], .int .i64 0]) → e = .returned (.tuple #[.agg (fileV ⟨t, me, dt, cr, cs, si, a⟩).toArray, .int .i64 0]) := fun e he => by rw [he, ← HS.out]; rfl
                have HSV := Lib.hid hsv
                clear hbr hsv
                rcases hb with rfl | ⟨rfl, rfl⟩
                · go_enter Tryz.func16, Tryz.ntmps16
                  go_upto_region 1 with (fail)
                  generalize (w.alloc (.cells #[.int .i64 (fl : Nat), .int .i64 (me : Nat), .int .i64 (dt : Nat), .int .u32 (cr : Nat), .int .i64 (cs : Nat), .int .i64 (si : Nat), .int .i64 (at_ : Nat), .slice N L nc, .bool wd] tHead)).alloc (.cells #[.string ⟨#[]⟩, .int .i64 0, .int .i64 0, .int .u32 0, .int .i64 0, .int .i64 0, .int .i64 0] tFile) = W0 at *
                  have k0 := HB0.out.cell (i := 0) rfl
                  have k7 := HB0.out.cell (i := 7) rfl
                  go_upto_region 5 with (first
                    | (go_at_call 27; ((with_reducible refine (HDEC.out _ HF0.out).mono ?_); rintro e w1 ⟨rfl, hf1⟩; have HZ1 := Lib.hid (HZ0.out.fresh hf1); have HB1 := Lib.hid (HB0.out.fresh hf1); have HF1 := Lib.hid (HF0.out.trans hf1); clear hf1))
                    | (go_at_call 28; ((with_reducible refine (HMAY.out _ HF1.out).mono ?_); rintro e w2 ⟨rfl, hf2⟩; have HZ3 := Lib.hid ((HZ1.out.fresh hf2).fresh (Fresh.alloc w2 (.cells #[] tNone))); have HB3 := Lib.hid ((HB1.out.fresh hf2).fresh (Fresh.alloc w2 (.cells #[] tNone))); have HF2 := Lib.hid (HF1.out.trans hf2); have HF3 := Lib.hid (HF2.out.trans (Fresh.alloc w2 (.cells #[] tNone))); clear hf2))
                    | (at_lookup; (refine wpList_look_miss_ok _ rfl (.tmp 35) (.tmp 36) tNames rfl tStr tNone strKey Tryz.underlying50 _ (zero_none _) m _ rfl (HM.out _ HF2.out) (.string s) _ rfl HKEY.out HMISS.out ?_)))
                  generalize w2.alloc (.cells #[] tNone) = W3 at *
                  clear k0 k7
                  have k0 := HB3.out.cell (i := 0) rfl
                  have k1 := HB3.out.cell (i := 1) rfl
                  have HGZ := Lib.hid hgz
                  clear HDEC HMAY HM HKEY HMISS HF0 HB0 HZ0 HZ1 HB1 HF1 HF2 hB hc hm hn hen hlx ofl ome odt ocr ocs osi oat onm htl hg8 hgz tb0
                  go_wp2_with (first
                    | (go_at_call 18; ((with_reducible refine (HRD.out _).mono ?_); rintro e w3 ⟨rfl, rfl⟩))
                    | ((with_reducible (refine at_slot_ 55 ?_)); refine wpList_load_mid rfl tHead (.tmp 5) rfl w.heap.size 0 rfl [iv (fl : Nat), iv (me : Nat), iv (dt : Nat), .int .u32 (cr : Nat), iv (cs : Nat), iv (si : Nat), iv (at_ : Nat), .slice N L nc, .bool wd] _ (fun j v hj => by rw [Nat.zero_add]; exact HB3.out.cell hj) Tryz.underlying52 rfl (by kernel_rfl) ?_)
                    | (go_at_call 29; ((with_reducible refine (HDAT.out _ HF3.out).mono ?_); rintro e w4 ⟨hf4, rfl⟩; have HZ4 := Lib.hid (HZ3.out.fresh hf4); have HB4 := Lib.hid (HB3.out.fresh hf4); have HF4 := Lib.hid (HF3.out.trans hf4); have q1 := HB4.out.cell (i := 1) rfl; have q2 := HB4.out.cell (i := 2) rfl; have q3 := HB4.out.cell (i := 3) rfl; have q4 := HB4.out.cell (i := 4) rfl; have q5 := HB4.out.cell (i := 5) rfl; clear hf4))
                    | (go_at_call 17; ((with_reducible refine (HWI.out _).mono ?_); rintro e w5 ⟨rfl, rfl⟩))
                    | ((with_reducible (refine at_store_ 8 96 ?_)); refine wpList_store_row (o := ⟨none, _, _, _, _, _⟩) rfl tFile (.tmp 8) (.tmp 96) rfl g8 #[.string s, iv (me : Nat), iv (dt : Nat), .int .u32 (cr : Nat), iv (cs : Nat), iv (si : Nat), iv (a : Nat)] rfl rfl tFile _ HZ4.out (by kernel_rfl) (by rfl) (file_one _ _ _ _ _ _ _) ?_))
                  exact bodyPost_ret (results_row_tmp (p := 8) (u := 9) (by kernel_rfl) _ _ g8 tFile [.string s, iv (me : Nat), iv (dt : Nat), .int .u32 (cr : Nat), iv (cs : Nat), iv (si : Nat), iv (a : Nat)] _ rfl (HZ4.out.row _) Tryz.underlying31 rfl (by kernel_rfl)) rfl ⟨HF4.out.but HGZ.out (But.row _ _ _), HSV.out _ rfl⟩
                · go_enter Tryz.func16, Tryz.ntmps16
                  go_upto_region 1 with (fail)
                  generalize (w.alloc (.cells #[.int .i64 (fl : Nat), .int .i64 (me : Nat), .int .i64 (dt : Nat), .int .u32 (cr : Nat), .int .i64 (cs : Nat), .int .i64 (si : Nat), .int .i64 (at_ : Nat), .slice N L nc, .bool wd] tHead)).alloc (.cells #[.string ⟨#[]⟩, .int .i64 0, .int .i64 0, .int .u32 0, .int .i64 0, .int .i64 0, .int .i64 0] tFile) = W0 at *
                  have k0 := HB0.out.cell (i := 0) rfl
                  have k7 := HB0.out.cell (i := 7) rfl
                  go_upto_region 5 with (first
                    | (go_at_call 27; ((with_reducible refine (HDEC.out _ HF0.out).mono ?_); rintro e w1 ⟨rfl, hf1⟩; have HZ1 := Lib.hid (HZ0.out.fresh hf1); have HB1 := Lib.hid (HB0.out.fresh hf1); have HF1 := Lib.hid (HF0.out.trans hf1); clear hf1))
                    | (go_at_call 28; ((with_reducible refine (HMAY.out _ HF1.out).mono ?_); rintro e w2 ⟨rfl, hf2⟩; have HZ3 := Lib.hid ((HZ1.out.fresh hf2).fresh (Fresh.alloc w2 (.cells #[] tNone))); have HB3 := Lib.hid ((HB1.out.fresh hf2).fresh (Fresh.alloc w2 (.cells #[] tNone))); have HF2 := Lib.hid (HF1.out.trans hf2); have HF3 := Lib.hid (HF2.out.trans (Fresh.alloc w2 (.cells #[] tNone))); clear hf2))
                    | (at_lookup; (refine wpList_look_miss_ok _ rfl (.tmp 35) (.tmp 36) tNames rfl tStr tNone strKey Tryz.underlying50 _ (zero_none _) m _ rfl (HM.out _ HF2.out) (.string s) _ rfl HKEY.out HMISS.out ?_)))
                  generalize w2.alloc (.cells #[] tNone) = W3 at *
                  clear k0 k7
                  have k0 := HB3.out.cell (i := 0) rfl
                  have k1 := HB3.out.cell (i := 1) rfl
                  have HGZ := Lib.hid hgz
                  clear HDEC HMAY HM HKEY HMISS HF0 HB0 HZ0 HZ1 HB1 HF1 HF2 hB hc hm hn hen hlx ofl ome odt ocr ocs osi oat onm htl hg8 hgz tb0
                  go_wp2_with (first
                    | (go_at_call 18; ((with_reducible refine (HRD.out _).mono ?_); rintro e w3 ⟨rfl, rfl⟩))
                    | ((with_reducible (refine at_slot_ 55 ?_)); refine wpList_load_mid rfl tHead (.tmp 5) rfl w.heap.size 0 rfl [iv (fl : Nat), iv (me : Nat), iv (dt : Nat), .int .u32 (cr : Nat), iv (cs : Nat), iv (si : Nat), iv (at_ : Nat), .slice N L nc, .bool wd] _ (fun j v hj => by rw [Nat.zero_add]; exact HB3.out.cell hj) Tryz.underlying52 rfl (by kernel_rfl) ?_)
                    | (go_at_call 29; ((with_reducible refine (HDAT.out _ HF3.out).mono ?_); rintro e w4 ⟨hf4, rfl⟩; have HZ4 := Lib.hid (HZ3.out.fresh hf4); have HB4 := Lib.hid (HB3.out.fresh hf4); have HF4 := Lib.hid (HF3.out.trans hf4); have q1 := HB4.out.cell (i := 1) rfl; have q2 := HB4.out.cell (i := 2) rfl; have q3 := HB4.out.cell (i := 3) rfl; have q4 := HB4.out.cell (i := 4) rfl; have q5 := HB4.out.cell (i := 5) rfl; clear hf4))
                    | (go_at_call 17; ((with_reducible refine (HWI.out _).mono ?_); rintro e w5 ⟨rfl, rfl⟩))
                    | ((with_reducible (refine at_store_ 8 96 ?_)); refine wpList_store_row (o := ⟨none, _, _, _, _, _⟩) rfl tFile (.tmp 8) (.tmp 96) rfl g8 #[.string s, iv (me : Nat), iv (dt : Nat), .int .u32 (cr : Nat), iv (cs : Nat), iv (si : Nat), iv (a : Nat)] rfl rfl tFile _ HZ4.out (by kernel_rfl) (by rfl) (file_one _ _ _ _ _ _ _) ?_))
                  exact bodyPost_ret (results_row_tmp (p := 8) (u := 9) (by kernel_rfl) _ _ g8 tFile [.string s, iv (me : Nat), iv (dt : Nat), .int .u32 (cr : Nat), iv (cs : Nat), iv (si : Nat), iv (a : Nat)] _ rfl (HZ4.out.row _) Tryz.underlying31 rfl (by kernel_rfl)) rfl ⟨HF4.out.but HGZ.out (But.row _ _ _), HSV.out _ rfl⟩
end Go.Proofs.YtmnejphdjnlbjaaGreatDoor.unzp
