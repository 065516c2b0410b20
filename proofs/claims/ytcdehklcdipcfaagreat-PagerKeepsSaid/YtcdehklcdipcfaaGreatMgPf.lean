import Derived.Test.YtcdehklcdipcfaaGreatPgrSto
import Derived.Test.YtcdehklcdipcfaaGreatMgPh
import Derived.Test.YtcdehklcdipcfaaGreatVfsOps5
import Derived.Test.YtcdehklcdipcfaaGreatMgVc
import Derived.Test.YtcdehklcdipcfaaGreatMgWl
import Derived.Test.YtcdehklcdipcfaaGreatMgVb
/- Several of my own texts, one behind the other. -/
/-
  pager's files: note, empty, write, save. My own text.
-/
namespace Go.Proofs.YtcdehklcdipcfaaGreat.pgrp
open Go.RowKit Go.Maps Go.Proofs.YtcdehklcdipcfaaGreat.base Go.Proofs.YtcdehklcdipcfaaGreat.num Go.Proofs.YtcdehklcdipcfaaGreat.word Go.Proofs.YtcdehklcdipcfaaGreat.pagn Go.Proofs.YtcdehklcdipcfaaGreat.pgr Go.Proofs.YtcdehklcdipcfaaGreat.waln Go.Proofs.YtcdehklcdipcfaaGreat.walp
open Go.Proofs.YtcdehklcdipcfaaGreat.vfsnum hiding Bs
open Go.Proofs.YtcdehklcdipcfaaGreat.vfs (FsAt fsPtr Did tFS write_fs sync_fs cut_fs write_ok sync_ok cut_ok)
set_option linter.unusedVariables false
set_option linter.unusedSimpArgs false

abbrev tFiles : TypeId := 63
def filV (f : Nat) : Value := .agg #[fsPtr f, .string dbN, .string logN]
abbrev VTurn := @vfs.Turn
abbrev VRd := @vfs.RdA
/-- pages one behind the other, apart from blocks S -/
def WsS (w : World) (S : List Nat) (A : Option Addr) (n : Nat) (l : List Wp) : Prop :=
  l.length = n ∧ (0 < n → ∃ b off, A = some ⟨b, off, none⟩ ∧ b < w.heap.size ∧ b ∉ S ∧ ∀ i s, l[i]? = some s → w.rangeAt b (off + i * 2) (wpV s)) ∧ ∀ s ∈ l, VRd w S s.A s.n (s.bs.map bv) ∧ s.Ok
theorem VRd.rd {w : World} {S : List Nat} {A : Option Addr} {n : Nat} {xs : List Value} (h : VRd w S A n xs) : Rd w w.heap.size A n xs :=
  ⟨h.1, fun hn => by obtain ⟨b, off, e, hb, _, hc⟩ := h.2 hn; exact ⟨b, off, e, hb, hc⟩⟩
theorem WsS.turn {w w' : World} {S S' : List Nat} {A : Option Addr} {n : Nat} {l : List Wp} (h : WsS w S A n l) (k : VTurn S S' w w') : WsS w' S' A n l :=
  ⟨h.1, fun hn => by
    obtain ⟨b, off, e, hb, hS, hc⟩ := h.2.1 hn
    exact ⟨b, off, e, Nat.lt_of_lt_of_le hb k.size, k.apart hb hS, fun i s hs j v hv => (World.cell?_of_block (k.block b hb hS)).trans (hc i s hs j v hv)⟩, fun s hs => ⟨(h.2.2 s hs).1.turn k, (h.2.2 s hs).2⟩⟩
theorem WsS.ws {w : World} {S : List Nat} {A : Option Addr} {n : Nat} {l : List Wp} (h : WsS w S A n l) : WsAt w w.heap.size A n l :=
  ⟨h.1, fun hn => by
    obtain ⟨b, off, e, hb, hS, hc⟩ := h.2.1 hn
    exact ⟨b, off, e, hb, hc⟩, fun s hs => ⟨(h.2.2 s hs).1.rd, (h.2.2 s hs).2⟩⟩
theorem WsS.fresh {w w' : World} {S : List Nat} {A : Option Addr} {n : Nat} {l : List Wp} (h : WsS w S A n l) (k : Fresh w w') : WsS w' S A n l := h.turn (vfs.Turn.fresh k)

theorem size_files : (Tryz.prog.info? tFiles).map (·.size) = some 3 := by kernel_rfl
theorem filesOf_any (f : Nat) (w : World) :
    Calls Tryz.prog 32 #[fsPtr f, .string ⟨#[120]⟩] w fun e w' => e = .returned (filV f) ∧ Fresh w w' := by
  go_enter Tryz.func32, Tryz.ntmps32
  go_wp2_with ((with_reducible refine at_store_ 4 10 ?_); refine wpList_store_new rfl tFiles (.tmp 4) (.tmp 10) rfl w.heap.size [fsPtr f, .string dbN, .string logN] rfl rfl w _ tFiles rfl rfl (by rfl) (by intro v hv; simp only [List.mem_cons, List.not_mem_nil, or_false] at hv; rcases hv with rfl | rfl | rfl <;> rfl) (by rw [size_files]; rfl) ?_; intro w2 hb2 hf2 hlt2)
  exact bodyPost_ret (results_cell_row (p := 4) (by kernel_rfl) _ _ w.heap.size tFiles #[fsPtr f, .string dbN, .string logN] (0, 0) _ rfl hb2 Tryz.underlying63 rfl (by rw [size_files]; rfl)) rfl ⟨rfl, hf2⟩
theorem takes_any (n : Nat) (w : World) (h : n ≤ 1099511627776) : Calls Tryz.prog 98 #[.int .i64 n] w fun e w' => e = .returned (.int .i64 (takes n : Nat)) ∧ w = w' := by
  have e : ((takes n : Nat) : Int) = ((n : Int) + 64 - 1) / 64 := by
    unfold takes
    omega
  go_enter Tryz.func98, Tryz.ntmps98
  go_wp2
  go_ret
  exact ⟨by rw [e]; rfl, rfl⟩

/-- the box of a pager's files, behind what turns the store -/
theorem boxF {w w1 : World} {f : Nat} {a : Fs} {bl bl1 : List Nat} (h : FsAt w f a bl) (hT : VTurn bl bl1 (w.alloc (.cells #[fsPtr f, .string dbN, .string logN] tFiles)) w1) : Bk w1 w.heap.size tFiles [fsPtr f, .string dbN, .string logN] :=
  (Bk.made w tFiles #[fsPtr f, .string dbN, .string logN]).old (hT.block _ (by simp) (fun hm => by have := h.inside _ hm; omega))
/-- a call is done, as an equation of its two parts -/
def Done (w : World) (f : Nat) (bl : List Nat) (k : Int) (a : Fs) (e : Ending) (w' : World) : Prop := e = .returned (.int .i64 k) ∧ ∃ bl', FsAt w' f a bl' ∧ VTurn bl bl' w w'
theorem Did.part {w : World} {f : Nat} {bl : List Nat} {r : Int × Fs} {k : Int} {a : Fs} (hr : r = (k, a)) {F : Nat} {args : Array Value} (h : Calls Tryz.prog F args w (Did w f bl r)) : Calls Tryz.prog F args w (Done w f bl k a) := by subst hr; exact h
theorem Done.did {w w' : World} {f : Nat} {bl : List Nat} {k : Int} {a : Fs} {e : Ending} (h : Done w f bl k a e w') : Did w f bl (k, a) e w' := h
theorem empty_any (w : World) (f : Nat) (a : Fs) (bl : List Nat) (h : FsAt w f a bl) (hok : FsOk a) (hst : a.stamp < 4611686018427387904) :
    Calls Tryz.prog 95 #[filV f] w (Did w f bl (a.cut logN 0)) := by
  have hc := fun W (k : Fresh w W) => cut_fs W f a bl logN 0 (h.fresh k) hok hst logN_le (by omega) (by omega)
  have HC := Lib.hid hc
  clear hc h hok
  unfold filV
  go_enter Tryz.func95, Tryz.ntmps95
  go_wp2_with (go_at_call 120; refine (HC.out _ (Fresh.alloc _ _)).mono ?_; rintro e w1 ⟨rfl, bl1, hF1, hT1⟩)
  go_ret
  exact ⟨rfl, bl1, hF1, (vfs.Turn.fresh (Fresh.alloc _ _)).trans hT1⟩
theorem note_any (w : World) (f : Nat) (a : Fs) (bl : List Nat) (t : Nat) (A : Option Addr) (m c : Nat) (bs : Bs) (h : FsAt w f a bl) (hok : FsOk a) (hst : a.stamp < 4611686018427387904)
    (hr : VRd w bl A m (bs.map bv)) (ht : t ≤ 1099511627776) (hm : m ≤ 1073741824) (hc : m ≤ c) (hcm : c ≤ maxLen) :
    Calls Tryz.prog 71 #[filV f, .int .i64 t, .slice A m c] w (Did w f bl (noteF a t bs)) := by
  have hwr := fun W (k : Fresh w W) => write_fs W f a bl logN t A m c bs (h.fresh k) hok hst logN_le (hr.turn (vfs.Turn.fresh k)) (by omega) (by omega) hm hc hcm
  have hok1 := write_ok (n := logN) (t := t) (b := bs) hok
  have hbx := fun w1 bl1 (hT : VTurn bl bl1 (w.alloc (.cells #[fsPtr f, .string dbN, .string logN] tFiles)) w1) => boxF h hT
  unfold noteF
  obtain ⟨k, a1, hka⟩ : ∃ k a1, a.write logN t bs = (k, a1) := ⟨_, _, rfl⟩
  obtain ⟨k2, a2, hka2⟩ : ∃ k2 a2, a1.sync logN = (k2, a2) := ⟨_, _, rfl⟩
  rw [hka] at hwr hok1 ⊢
  have hsy := fun W bl1 (hF : FsAt W f a1 bl1) => Did.part hka2 (sync_fs W f a1 bl1 logN hF hok1 logN_le)
  have hwr' := fun W (q : Fresh w W) => Did.part rfl (hwr W q)
  have HW := Lib.hid hwr'
  have HS := Lib.hid hsy
  have HB := Lib.hid hbx
  unfold filV
  simp only []
  rw [hka2]
  by_cases hk : k = 0
  · subst hk
    rw [if_pos rfl]
    clear hwr hwr' hsy h hok hr hka hok1 hbx hka2
    go_enter Tryz.func71, Tryz.ntmps71
    go_wp2_with (first
      | (go_at_call 103; refine (HW.out _ (Fresh.alloc _ _)).mono ?_; rintro e w1 ⟨rfl, bl1, hF1, hT1⟩; have hb1 := HB.out _ _ hT1; have hc0 := hb1.cell (i := 0) rfl; have hc2 := hb1.cell (i := 2) rfl; have HT1 := Lib.hid hT1; clear hT1 hb1)
      | (go_at_call 104; refine (HS.out _ _ hF1).mono ?_; rintro e w2 ⟨rfl, bl2, hF2, hT2⟩))
    go_ret
    exact ⟨rfl, bl2, hF2, ((vfs.Turn.fresh (Fresh.alloc _ _)).trans HT1.out).trans hT2⟩
  · rw [if_neg hk]
    clear hwr hwr' hsy h hok hr hka hok1 hbx hka2
    go_enter Tryz.func71, Tryz.ntmps71
    go_wp2_with (go_at_call 103; refine (HW.out _ (Fresh.alloc _ _)).mono ?_; rintro e w1 ⟨rfl, bl1, hF1, hT1⟩; have HT1 := Lib.hid hT1; clear hT1)
    go_ret
    exact ⟨rfl, bl1, hF1, (vfs.Turn.fresh (Fresh.alloc _ _)).trans HT1.out⟩
theorem pagesF_go {a : Fs} {l : List Pg} {k : Nat} {p : Pg} (hp : l[k]? = some p) : pagesF a (l.drop k) = if (a.write dbN (p.1 * 512) p.2).1 = 0 then pagesF (a.write dbN (p.1 * 512) p.2).2 (l.drop (k + 1)) else a.write dbN (p.1 * 512) p.2 := by
  have hlt : k < l.length := by
    rcases Nat.lt_or_ge k l.length with h | h
    · exact h
    · rw [List.getElem?_eq_none h] at hp; cases hp
  rw [List.drop_eq_getElem_cons hlt]
  rw [List.getElem?_eq_getElem hlt] at hp
  injection hp with hp
  rw [hp]
  rfl
set_option maxRecDepth 100000 in
set_option maxHeartbeats 2000000 in
theorem write_any (w : World) (f : Nat) (a : Fs) (bl : List Nat) (A : Option Addr) (n c : Nat) (l : List Wp) (h : FsAt w f a bl) (hok : FsOk a) (hst : a.stamp + n + 2 < 4611686018427387904)
    (hl : WsS w bl A n l) (hno : ∀ s ∈ l, 0 ≤ s.no ∧ s.no < 16777216 ∧ s.n ≤ 1073741824) (L : List Pg) (hL : l.map Wp.pg = L) :
    Calls Tryz.prog 72 #[filV f, .slice A n c] w (Did w f bl (writeF a L)) := by
  have hLk : ∀ (k : Nat) (s : Wp), l[k]? = some s → L[k]? = some (s.no, s.bs) := fun k s hs => by rw [← hL, List.getElem?_map, hs]; rfl
  have hLl : L.length = n := by rw [← hL, List.length_map, hl.1]
  have hws := fun w1 bl1 (hT : VTurn bl bl1 (w.alloc (.cells #[fsPtr f, .string dbN, .string logN] tFiles)) w1) => (hl.fresh (Fresh.alloc w (.cells #[fsPtr f, .string dbN, .string logN] tFiles))).turn hT
  have hbx := fun w1 bl1 (hT : VTurn bl bl1 (w.alloc (.cells #[fsPtr f, .string dbN, .string logN] tFiles)) w1) => boxF h hT
  have hF0 := h.fresh (Fresh.alloc w (.cells #[fsPtr f, .string dbN, .string logN] tFiles))
  have hnl : n = l.length := hl.1.symm
  have HLK := Lib.hid hLk
  have HLL := Lib.hid hLl
  have HWS := Lib.hid hws
  have HBX := Lib.hid hbx
  have HF0 := Lib.hid hF0
  have HOK := Lib.hid hok
  have HST := Lib.hid hst
  have HNO := Lib.hid hno
  have HNL := Lib.hid hnl
  clear hLk hLl hws hbx hF0 h hok hst hl hno hL hnl
  unfold filV
  have hnb : (n : Int) < 4611686018427387904 := by have := HST.out; omega
  go_enter Tryz.func72, Tryz.ntmps72
  go_wp2
  go_loopw [11] (fun i wr => ∃ (k : Nat) (ak : Fs) (blk : List Nat), k ≤ n ∧ i = .int .i64 k ∧ FsAt wr f ak blk ∧ VTurn bl blk (w.alloc (.cells #[fsPtr f, .string dbN, .string logN] tFiles)) wr ∧ Hid (pagesF a L = pagesF ak (L.drop k)) ∧ FsOk ak ∧ Hid (ak.stamp ≤ a.stamp + k)) (fun i _ => n - (intOf i).toNat)
  case atStart => exact ⟨0, a, bl, by omega, rfl, HF0.out, vfs.Turn.refl _ _, by simp [Hid], HOK.out, by simp [Hid]⟩
  case round =>
    obtain ⟨k, ak, blk, hk, rfl, hFk, hTk, hpk, hokk, hsk⟩ := hrel
    have hkb : (k : Int) + 1 < 4611686018427387904 + 1 := by omega
    have hbk := HBX.out _ _ hTk
    have hc0 := hbk.cell (i := 0) rfl
    have hc1 := hbk.cell (i := 1) rfl
    have hc2 := hbk.cell (i := 2) rfl
    by_cases hlt : k < n
    · have hwk := HWS.out _ _ hTk
      obtain ⟨b, off, rfl, hb, hbS, hcell⟩ := hwk.2.1 (by omega)
      obtain ⟨s, hs⟩ : ∃ s, l[k]? = some s := ⟨_, List.getElem?_eq_getElem (by rw [← HNL.out]; exact hlt)⟩
      obtain ⟨hw0, hw1⟩ := range_two (hcell k s hs)
      obtain ⟨hrs, hso⟩ := hwk.2.2 s (List.mem_of_getElem? hs)
      obtain ⟨hn0, hn1, hn2⟩ := HNO.out s (List.mem_of_getElem? hs)
      have hgo := pagesF_go (a := ak) (HLK.out k s hs)
      obtain ⟨k1, a1, hka⟩ : ∃ k1 a1, ak.write dbN (s.no * 512) s.bs = (k1, a1) := ⟨_, _, rfl⟩
      have hok1 := write_ok (n := dbN) (t := s.no * 512) (b := s.bs) hokk
      have hst1 := write_stamp ak dbN (s.no * 512) s.bs
      have hwr := fun W (q : Fresh wr W) => Did.part hka (write_fs W f ak blk dbN (s.no * 512) s.A s.n s.c s.bs (hFk.fresh q) hokk (by have := hsk.out; have := HST.out; omega) dbN_le (hrs.turn (vfs.Turn.fresh q)) (by omega) (by omega) hn2 hso.cap.1 hso.cap.2)
      have HW := Lib.hid hwr
      have HK := Lib.hid hka
      have HPK := hpk
      have HGO := Lib.hid hgo
      have HTK := Lib.hid hTk
      have HOK1 := Lib.hid hok1
      have HST1 := Lib.hid hst1
      obtain ⟨sno, sA, sn, sc, sbs⟩ := s
      simp only at hw0 hw1 hn0 hn1 hn2
      clear hwr hgo hrs hwk hcell hokk hFk hok1 hst1 hTk hpk hka
      have hbka := hbk.alloc (.cells #[.int .i64 sno, .slice sA sn sc] 105)
      have ha0 := hbka.cell (i := 0) rfl
      have ha1 := hbka.cell (i := 1) rfl
      have hfa := Fresh.alloc wr (.cells #[.int .i64 sno, .slice sA sn sc] 105)
      have HFA := Lib.hid hfa
      clear hbka hfa hc0 hc1 hc2 hbk
      by_cases hk0 : k1 = 0
      · subst hk0
        go_wp2_with (go_at_call 103; refine (HW.out _ HFA.out).mono ?_; rintro e w1 ⟨rfl, bl1, hF1, hT1⟩; have HT1 := Lib.hid ((HTK.out.trans (vfs.Turn.fresh HFA.out)).trans hT1); clear hT1)
        refine ⟨⟨k + 1, a1, bl1, by omega, by go_num, hF1, HT1.out, ?_, ?_, ?_⟩, by simp [intOf]; omega⟩
        · refine Lib.hid (HPK.out.trans (HGO.out.trans ?_))
          rw [HK.out]; rfl
        · have := HOK1.out; rw [HK.out] at this; exact this
        · have h1 := HST1.out; rw [HK.out] at h1; have h2 := hsk.out; simp only at h1; exact Lib.hid (by omega)
      · have hkb2 : (k1 != 0) = true := by simpa using hk0
        have hpp : pagesF a L = (k1, a1) := HPK.out.trans (HGO.out.trans (by rw [HK.out, if_neg hk0]))
        have hww : writeF a L = (k1, a1) := by unfold writeF; rw [hpp, if_neg hk0]
        have HWW := Lib.hid hww
        clear hpp hww
        clear HGO HOK1 HST1 HPK HK
        go_wp2_with (go_at_call 103; refine (HW.out _ HFA.out).mono ?_; rintro e w1 ⟨rfl, bl1, hF1, hT1⟩; have HT1 := Lib.hid ((HTK.out.trans (vfs.Turn.fresh HFA.out)).trans hT1); clear hT1)
        go_ret
        exact HWW.out ▸ (show Done w f bl k1 a1 _ _ from ⟨rfl, bl1, hF1, (vfs.Turn.fresh (Fresh.alloc _ _)).trans HT1.out⟩)
    · obtain rfl : k = n := by omega
      have hpp : pagesF a L = (0, ak) := hpk.out.trans (by rw [List.drop_of_length_le (by rw [HLL.out]; exact Nat.le_refl _)]; rfl)
      have hww : writeF a L = syncF ak := by unfold writeF; rw [hpp, if_pos rfl]
      obtain ⟨k1, a1, hka⟩ : ∃ k1 a1, ak.sync dbN = (k1, a1) := ⟨_, _, rfl⟩
      have hsy := Did.part hka (sync_fs wr f ak blk dbN hFk hokk dbN_le)
      have hok1 := sync_ok (n := dbN) hokk
      have hst1 := sync_stamp ak dbN
      rw [hka] at hok1 hst1
      have hem := fun W blx (hF : FsAt W f a1 blx) => empty_any W f a1 blx hF hok1 (by have := hsk.out; have := HST.out; simp only at hst1; omega)
      obtain ⟨k2, a2, hka2⟩ : ∃ k2 a2, a1.cut logN 0 = (k2, a2) := ⟨_, _, rfl⟩
      have hem' := fun W blx (hF : FsAt W f a1 blx) => Did.part hka2 (hem W blx hF)
      have HB2 := Lib.hid (fun w1 bl1 (hT : VTurn bl bl1 (w.alloc (.cells #[fsPtr f, .string dbN, .string logN] tFiles)) w1) => HBX.out w1 bl1 hT)
      have HTK := Lib.hid hTk
      have HS := Lib.hid hsy
      have HE := Lib.hid hem'
      have HWW := Lib.hid hww
      have HK1 := Lib.hid hka
      have HK2 := Lib.hid hka2
      clear hpp hww hsy hok1 hst1 hem hem' hTk hpk hka hka2 hokk hFk hlt
      by_cases hk0 : k1 = 0
      · subst hk0
        go_wp2_with (first
          | (go_at_call 104; refine HS.out.mono ?_; rintro e w1 ⟨rfl, bl1, hF1, hT1⟩; have HT1 := Lib.hid (HTK.out.trans hT1); have hb1 := HB2.out _ _ HT1.out; have hd0 := hb1.cell (i := 0) rfl; have hd1 := hb1.cell (i := 1) rfl; have hd2 := hb1.cell (i := 2) rfl; clear hT1 hb1)
          | (go_at_call 95; refine (HE.out _ _ hF1).mono ?_; rintro e w2 ⟨rfl, bl2, hF2, hT2⟩))
        go_ret
        rw [HWW.out]
        unfold syncF
        rw [HK1.out, if_pos rfl, HK2.out]
        exact ⟨rfl, bl2, hF2, ((vfs.Turn.fresh (Fresh.alloc _ _)).trans HT1.out).trans hT2⟩
      · have hkb2 : (k1 != 0) = true := by simpa using hk0
        have HWW := Lib.hid (show writeF a L = (k1, a1) by rw [HWW.out]; unfold syncF; rw [HK1.out, if_neg hk0])
        clear HK1 HK2 HE
        go_wp2_with (go_at_call 104; refine HS.out.mono ?_; rintro e w1 ⟨rfl, bl1, hF1, hT1⟩; have HT1 := Lib.hid (HTK.out.trans hT1); clear hT1)
        go_ret
        rw [HWW.out]
        exact ⟨rfl, bl1, hF1, (vfs.Turn.fresh (Fresh.alloc _ _)).trans HT1.out⟩
end Go.Proofs.YtcdehklcdipcfaaGreat.pgrp
/-
  pager's files: sealed, long, read, hasRoom. My own text.
-/
namespace Go.Proofs.YtcdehklcdipcfaaGreat.pgrp
open Go.RowKit Go.Maps Go.Proofs.YtcdehklcdipcfaaGreat.base Go.Proofs.YtcdehklcdipcfaaGreat.num Go.Proofs.YtcdehklcdipcfaaGreat.word Go.Proofs.YtcdehklcdipcfaaGreat.pagn Go.Proofs.YtcdehklcdipcfaaGreat.pgr Go.Proofs.YtcdehklcdipcfaaGreat.waln Go.Proofs.YtcdehklcdipcfaaGreat.walp Go.Proofs.YtcdehklcdipcfaaGreat.pagp
open Go.Proofs.YtcdehklcdipcfaaGreat.vfsnum hiding Bs
open Go.Proofs.YtcdehklcdipcfaaGreat.vfs (FsAt fsPtr Did tFS)
set_option linter.unusedVariables false
set_option linter.unusedSimpArgs false

theorem results_row_tmp {P : Program} {fn : Func} {p u : Tmp} {ty : TypeId} (h : fn.results = #[.cell p ty, .tmp u]) (tmps : Array Value) (w : World) (g : Nat) (t : TypeId) (cs : List Value) (d : TypeDesc)
    (hp : tmps.getD p undef = .pointer (some ⟨g, 0, none⟩)) (hg : Bk w g t cs)
    (hu : P.underlying ty = some d) (hd : (match d with | .struct _ | .array _ _ => true | _ => false) = true) (hi : (P.info? ty).map (·.size) = some cs.length) :
    (results fn tmps).run P w = .ok (.tuple #[.agg cs.toArray, tmps.getD u undef]) w := by
  rw [results_cell_tmp h, hp]
  simp [asAddr, run_loadVar_row w g t ty cs.toArray (0, 0) d hg hu hd (by simpa using hi)]
theorem results_row_tmp2 {P : Program} {fn : Func} {p u v : Tmp} {ty : TypeId} (h : fn.results = #[.cell p ty, .tmp u, .tmp v]) (tmps : Array Value) (w : World) (g : Nat) (t : TypeId) (cs : List Value) (d : TypeDesc)
    (hp : tmps.getD p undef = .pointer (some ⟨g, 0, none⟩)) (hg : Bk w g t cs)
    (hu : P.underlying ty = some d) (hd : (match d with | .struct _ | .array _ _ => true | _ => false) = true) (hi : (P.info? ty).map (·.size) = some cs.length) :
    (results fn tmps).run P w = .ok (.tuple #[.agg cs.toArray, tmps.getD u undef, tmps.getD v undef]) w := by
  have e1 : tmps[p]?.getD undef = .pointer (some ⟨g, 0, none⟩) := by simpa using hp
  have r1 := run_loadVar_row (P := P) w g t ty cs.toArray (0, 0) d hg hu hd (by simpa using hi)
  simp [results, h, e1, asAddr, r1]
theorem fill_508 {b : Bs} (h : b.length = 508) : fill b = b := by unfold fill; rw [h, Nat.sub_self]; simp
abbrev tWr : TypeId := 105
theorem size_wr : (Tryz.prog.info? tWr).map (·.size) = some 2 := by kernel_rfl
theorem sealed_any (no : Nat) (b : Bs) (hb : b.length = 508) (hno : no < 16777216) (w : World) :
    Calls Tryz.prog 73 #[.int .i64 no, blkV b] w fun e w' => ∃ g, e = .returned (.agg #[.int .i64 no, .slice (some ⟨g, 0, none⟩) 512 512]) ∧ w.heap.size ≤ g ∧ Bk w' g tSheet ((page no b).map bv) ∧ Fresh w w' := by
  have hm := Bk.made w tBlk (b.map bv).toArray
  rw [List.toList_toArray] at hm
  have hrd := bk_rd' hm hb
  have hs := fun W (q : Fresh (w.alloc (.cells (b.map bv).toArray tBlk)) W) => seal_ok no (some ⟨w.heap.size, 0, none⟩) 508 508 b W hno ((hrd.up (by simp)).fresh q) (by omega)
  rw [fill_508 hb] at hs
  have HS := Lib.hid hs
  unfold blkV
  have hbw := Bk.made (w.alloc (.cells (b.map bv).toArray tBlk)) tWr #[.int .i64 0, .slice none 0 0]
  rw [World.size_alloc] at hbw
  have HBW := Lib.hid hbw
  clear hs hrd hm hb hno hbw
  go_enter Tryz.func73, Tryz.ntmps73
  go_wp2_with (first
    | (go_at_call 105; refine (HS.out _ (Fresh.alloc _ _)).mono ?_; rintro e w1 ⟨g, rfl, hge, hf1, hb1⟩; have HGE := Lib.hid hge; have HF1 := Lib.hid hf1; have HB1 := Lib.hid hb1; clear hge hf1 hb1)
    | ((with_reducible refine at_store_ 4 15 ?_); refine wpList_store_blk rfl tWr (.tmp 4) (.tmp 15) rfl (w.heap.size + 1) 0 tWr [.int .i64 0, .slice none 0 0] [.int .i64 no, .slice (some ⟨g, 0, none⟩) 512 512] rfl rfl (HBW.out.fresh HF1.out) (by exact Nat.le_refl _) (by intro v hv; simp only [List.mem_cons, List.not_mem_nil, or_false] at hv; rcases hv with rfl | rfl <;> rfl) (by rw [size_wr]; rfl) ?_; intro w8 hg8 hb8))
  have hge := HGE.out
  simp only [World.size_alloc] at hge
  exact bodyPost_ret (results_cell_row (p := 4) (by kernel_rfl) _ _ (w.heap.size + 1) tWr #[.int .i64 no, .slice (some ⟨g, 0, none⟩) 512 512] (0, 0) _ rfl hg8 Tryz.underlying105 rfl (by rw [size_wr]; rfl)) rfl ⟨g, rfl, by omega, HB1.out.old (hb8.block g HB1.out.inside (by intro e; injection e with e; omega)), (((Fresh.alloc _ _).trans (Fresh.alloc _ _)).trans HF1.out).but (by omega) hb8⟩
theorem long_any (w : World) (f : Nat) (a : Fs) (bl : List Nat) (x : Fl) (h : FsAt w f a bl) (hd : a.down = false) (hg : getF a.files dbN = some x) :
    Calls Tryz.prog 65 #[filV f] w fun e w' => e = .returned (.int .i64 (x.bs.length : Nat)) ∧ Fresh w w' := by
  have hl := fun W (q : Fresh w W) => vfs.len_some W f a bl dbN x (h.fresh q) dbN_le hd hg
  have HL := Lib.hid hl
  clear hl h hd hg
  unfold filV
  go_enter Tryz.func65, Tryz.ntmps65
  go_wp2_with (go_at_call 62; refine (HL.out _ (Fresh.alloc _ _)).mono ?_; rintro e w1 ⟨rfl, rfl⟩)
  go_ret
  exact ⟨rfl, Fresh.alloc _ _⟩
set_option maxRecDepth 100000 in
theorem read_any (w : World) (f : Nat) (a : Fs) (bl : List Nat) (x : Fl) (no : Nat) (c : Bs) (h : FsAt w f a bl) (hok : FsOk a) (hd : a.down = false) (hg : getF a.files dbN = some x) (hc : c.length = 508) (hno : no < 16777216)
    (hx : (x.bs.drop (512 * no)).take 512 = page no c) (hxl : 512 * no + 512 ≤ x.bs.length) :
    Calls Tryz.prog 110 #[filV f, .int .i64 no] w fun e w' => e = .returned (.tuple #[blkV c, .int .i64 0]) ∧ Fresh w w' := by
  have hpl := page_length no c hc
  have hpt := page_take no c hc
  have hr := fun W (q : Fresh w W) => vfs.read_good W f a bl dbN (512 * no) 512 x (h.fresh q) hok dbN_le hd hg hxl
  rw [hx] at hr
  unfold vfs.ReadAt at hr
  rw [hpl] at hr
  have ho := fun W q (hb : Bk W q 5 ((page no c).map bv)) => open_512 no (some ⟨q, 0, none⟩) 512 (page no c) W hno ((bk_rd' hb hpl).up hb.inside)
  simp only [hpt, if_pos] at ho
  have hbo := fun W g (hb : Bk W g tSheet ((page no c).map bv)) => blockOf_any (some ⟨g, 0, none⟩) 508 508 c W (by
    have := (bk_rd hb 0 508 (by omega)).up hb.inside
    rwa [List.drop_zero, hpt] at this) (Nat.le_refl _)
  rw [fill_508 hc] at hbo
  have e : ((512 * no : Nat) : Int) = (no : Int) * 512 := by omega
  rw [e] at hr
  have HR := Lib.hid hr
  have HO := Lib.hid ho
  have HBO := Lib.hid hbo
  have hz := blkZero
  have HC := Lib.hid hc
  unfold blkV at *
  have hzl : (zb.map bv).length = 508 := by rw [List.length_map]; rfl
  generalize zb.map bv = Z at *
  have HZL := Lib.hid hzl
  have hbz := Bk.made (w.alloc (.cells #[fsPtr f, .string dbN, .string logN] tFiles)) tBlk Z.toArray
  rw [World.size_alloc, List.toList_toArray] at hbz
  have HBZ := Lib.hid hbz
  have hsp : splice Z 0 (c.map bv) = c.map bv := by rw [splice, List.take_zero, List.nil_append, List.drop_of_length_le (by rw [List.length_map, hc, hzl]; omega), List.append_nil]
  have HSP := Lib.hid hsp
  clear hbz hsp
  clear hr ho hbo h hok hd hg hx hxl hpl hpt e hc hzl
  unfold filV
  go_enter Tryz.func110, Tryz.ntmps110
  go_wp2_with (first
    | (go_at_call 93; refine (HR.out _ ((Fresh.alloc _ _).trans (Fresh.alloc _ _))).mono ?_; rintro e w1 ⟨q, rfl, hq, hb1, hf1⟩; have HF1 := Lib.hid hf1; have HB1 := Lib.hid hb1; clear hf1 hb1)
    | (go_at_call 139; refine (HO.out _ _ HB1.out).mono ?_; rintro e w2 ⟨hf2, g, rfl, hg2, hb2⟩; have HF2 := Lib.hid hf2; have HB2 := Lib.hid hb2; clear hf2 hb2)
    | (go_at_call 55; refine (HBO.out _ _ HB2.out).mono ?_; rintro e w3 ⟨rfl, hf3⟩; have HF3 := Lib.hid hf3; clear hf3)
    | ((with_reducible refine at_store_ 4 33 ?_); refine wpList_store_blk rfl tBlk (.tmp 4) (.tmp 33) rfl (w.heap.size + 1) 0 tBlk Z (c.map bv) rfl rfl (HBZ.out.fresh ((HF1.out.trans HF2.out).trans HF3.out)) (by rw [HZL.out, List.length_map, HC.out]; omega) (bv_ones _) (by rw [size_blk, List.length_map, HC.out]) ?_; intro w8 hg8 hb8; rw [HSP.out] at hg8))
  exact bodyPost_ret (results_row_tmp (p := 4) (u := 5) (by kernel_rfl) _ _ (w.heap.size + 1) tBlk (c.map bv) _ rfl hg8 Tryz.underlying92 rfl (by rw [size_blk, List.length_map, HC.out])) rfl ⟨rfl, (((((Fresh.alloc _ _).trans (Fresh.alloc _ _)).trans HF1.out).trans HF2.out).trans HF3.out).but (by omega) hb8⟩
/-- has the store room for a commit? -/
def roomF (a : Fs) (x : Fl) (m many : Nat) : Bool := decide (takes (12 + 516 * m + 4) + (takes (512 * many) - takes x.bs.length) ≤ a.room)
set_option maxRecDepth 100000 in
set_option maxHeartbeats 2000000 in
theorem hasRoom_any (w : World) (f : Nat) (a : Fs) (bl : List Nat) (x : Fl) (m many : Nat) (h : FsAt w f a bl) (hok : FsOk a) (hd : a.down = false) (hg : getF a.files dbN = some x) (hm : m ≤ 4096) (hmany : many ≤ 65536) :
    Calls Tryz.prog 69 #[filV f, .int .i64 m, .int .i64 many] w fun e w' => e = .returned (.bool (roomF a x m many)) ∧ Fresh w w' := by
  have hxl : x.bs.length ≤ 4194304 := (hok.fls (dbN, x) (vfsnum.getF_some hg)).1
  have hrs : a.room ≤ 65536 := by have := hok.sum; omega
  have hlo := fun W (q : Fresh w W) => long_any W f a bl x (h.fresh q) hd hg
  have hdn := fun W (q : Fresh w W) => vfs.down_any W f a bl (h.fresh q)
  have hrm := fun W (q : Fresh w W) => vfs.room_any W f a bl (h.fresh q)
  have hdn' : ¬ a.down = true := by rw [hd]; simp
  rw [hd] at hdn
  simp only [if_neg hdn'] at hrm
  have ht1 := fun W => takes_any (512 * many) W (by omega)
  have ht2 := fun W => takes_any x.bs.length W (by omega)
  have ht3 := fun W => takes_any (12 + 516 * m + 4) W (by omega)
  have hsz := fun W => size_nat m m W hm rfl _ rfl
  have e1 : ((512 * many : Nat) : Int) = (many : Int) * 512 := by omega
  have e3 : ((12 + 516 * m + 4 : Nat) : Int) = 12 + 516 * (m : Int) + 4 := by omega
  rw [e1] at ht1
  rw [e3] at ht3
  unfold roomF
  have hb1 : takes (512 * many) ≤ 524289 := by unfold takes; omega
  have hb2 : takes x.bs.length ≤ 65537 := by unfold takes; omega
  have hb3 : takes (12 + 516 * m + 4) ≤ 65537 := by unfold takes; omega
  generalize takes (512 * many) = T1 at *
  generalize takes x.bs.length = T2 at *
  generalize takes (12 + 516 * m + 4) = T3 at *
  have HLO := Lib.hid hlo
  have HDN := Lib.hid hdn
  have HRM := Lib.hid hrm
  have HT1 := Lib.hid ht1
  have HT2 := Lib.hid ht2
  have HT3 := Lib.hid ht3
  have HSZ := Lib.hid hsz
  have hbx := Bk.made w tFiles #[fsPtr f, .string dbN, .string logN]
  have hcs : ∀ W, Fresh (w.alloc (.cells #[fsPtr f, .string dbN, .string logN] tFiles)) W → W.cell? ⟨w.heap.size, 0, none⟩ = some (fsPtr f) ∧ W.cell? ⟨w.heap.size, 1, none⟩ = some (.string dbN) ∧ W.cell? ⟨w.heap.size, 2, none⟩ = some (.string logN) := fun W q => ⟨(hbx.fresh q).cell rfl, (hbx.fresh q).cell rfl, (hbx.fresh q).cell rfl⟩
  have HCS := Lib.hid hcs
  have h1 : (T1 : Int) ≤ 524289 := by omega
  have h2 : (T2 : Int) ≤ 65537 := by omega
  have h3 : (T3 : Int) ≤ 65537 := by omega
  have h4 : (many : Int) ≤ 65536 := by omega
  have h5 : (m : Int) ≤ 4096 := by omega
  have hw1 : IntKind.i64.wrap ((many : Int) * 512) = (many : Int) * 512 := by rw [IntKind.wrap_i64]; omega
  have hw2 : IntKind.i64.wrap ((T1 : Int) - (T2 : Int)) = (T1 : Int) - (T2 : Int) := by rw [IntKind.wrap_i64]; omega
  clear hlo hdn hrm ht1 ht2 ht3 hsz hbx hcs h hok hd hg hxl hm hmany e1 e3 hb1 hb2 hb3 hdn'
  unfold filV
  go_enter Tryz.func69, Tryz.ntmps69
  go_upto_region 3 with (go_at_call 20; refine (HDN.out _ (Fresh.alloc _ _)).mono ?_; rintro e w1 ⟨rfl, rfl⟩)
  have HF0 := Lib.hid ((Fresh.alloc w (.cells #[fsPtr f, .string dbN, .string logN] tFiles)).trans (Fresh.drew _))
  have hk0 := HCS.out _ (Fresh.drew (w.alloc (.cells #[fsPtr f, .string dbN, .string logN] tFiles)))
  go_region_held3 (fun w' => w'.cell? ⟨w.heap.size, 0, none⟩ = some (fsPtr f) ∧ w'.cell? ⟨w.heap.size, 1, none⟩ = some (.string dbN) ∧ w'.cell? ⟨w.heap.size, 2, none⟩ = some (.string logN)) (first | exact hk0 | exact HK1.out)
    (first
    | (go_at_call 65; (refine (HLO.out _ HF0.out).mono ?_); rintro e w1 ⟨rfl, hf1⟩; have HK1 := Lib.hid (HCS.out w1 ((Fresh.drew _).trans hf1)); have HF1 := Lib.hid (HF0.out.trans hf1); clear hf1)
    | (go_at_call 98; (with_reducible refine (HT1.out _).mono ?_); rintro e w2 ⟨rfl, rfl⟩)
    | (go_at_call 98; (with_reducible refine (HT2.out _).mono ?_); rintro e w2 ⟨rfl, rfl⟩))
  have hD : max 0 ((T1 : Int) - (T2 : Int)) = ((T1 - T2 : Nat) : Int) := by omega
  rw [hD]
  have hDb : T1 - T2 ≤ 524289 := by omega
  obtain ⟨D, hDe⟩ : ∃ D, T1 - T2 = D := ⟨_, rfl⟩
  rw [hDe] at hDb ⊢
  have HDE := Lib.hid hDe
  clear hDe
  obtain ⟨hc0, hc1, hc2⟩ := HK1.out
  have hrr : ((a.room : Nat) : Int) ≤ 65536 := by omega
  have hDi : (D : Int) ≤ 524289 := by omega
  have hbb : ∀ z : Int, z = (T3 : Int) + (D : Int) → decide (z ≤ ((a.room : Nat) : Int)) = decide (T3 + D ≤ a.room) := fun z hz => by
    subst hz
    rw [Bool.eq_iff_iff, decide_eq_true_iff, decide_eq_true_iff]
    omega
  have HBB := Lib.hid hbb
  clear hD hDb hw1 hw2 hk0 hrs hbb
  by_cases hle : ((T3 : Int) + (D : Int)) ≤ ((a.room : Nat) : Int)
  · go_wp2_with (first
      | (go_at_call 99; refine (HRM.out _ HF1.out).mono ?_; rintro e w2 ⟨rfl, rfl⟩)
      | (go_at_call 68; refine (HSZ.out _).mono ?_; rintro e w2 ⟨rfl, rfl⟩)
      | (go_at_call 98; refine (HT3.out _).mono ?_; rintro e w2 ⟨rfl, rfl⟩))
    go_ret
    refine ⟨?_, HF1.out⟩
    rw [HDE.out, decide_eq_true (show T3 + D ≤ a.room by omega)]
    rfl
  · have hlt := Int.not_le.1 hle
    go_wp2_with (first
      | (go_at_call 99; refine (HRM.out _ HF1.out).mono ?_; rintro e w2 ⟨rfl, rfl⟩)
      | (go_at_call 68; refine (HSZ.out _).mono ?_; rintro e w2 ⟨rfl, rfl⟩)
      | (go_at_call 98; refine (HT3.out _).mono ?_; rintro e w2 ⟨rfl, rfl⟩))
    go_ret
    refine ⟨?_, HF1.out⟩
    rw [HDE.out]
    show Ending.returned (.bool (decide ((T3 : Int) + (D : Int) ≤ ((a.room : Nat) : Int)))) = _
    rw [HBB.out _ rfl]
end Go.Proofs.YtcdehklcdipcfaaGreat.pgrp
