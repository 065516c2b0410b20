/-
  The contract of the law's same: a store is what is told of it. My own text.
-/
import Derived.Test.YtelghdfikcodmaaVfsTold
import Derived.Test.YtelghdfikcodmaaVfsWaits
import Derived.Test.YtelghdfikcodmaaVfsNames
/-
  What the law's same leans on: Texts, Same, Stamp, Waits of a store that is down. My own text.
-/
namespace Go.Proofs.Ytelghdfikcodmaa.vacts
open Go.RowKit Go.Maps Go.Proofs.Ytelghdfikcodmaa.base Go.Proofs.Ytelghdfikcodmaa.vfsnum Go.Proofs.Ytelghdfikcodmaa.vfs Go.Proofs.Ytelghdfikcodmaa.vref
set_option linter.unusedVariables false

theorem same_q (A D : Option Addr) (n c d : Nat) (xs : List UInt8) (w : World) (B B' : Nat) (ha : Rd w B A n (xs.map bv)) (hd : Rd w B' D n (xs.map bv)) (hn : n ≤ maxLen) :
    Calls Try.prog 37 #[.slice A n c, .slice D n d] w fun e w' => e = .returned (.bool true) ∧ ∃ m, w' = w.drewN m := by
  unfold maxLen at hn
  go_enter Try.func37, Try.ntmps37
  go_wp2
  go_loopw [5] (fun i wr => ∃ (k q : Nat), k ≤ n ∧ i = .int .i64 k ∧ wr = w.drewN q) (fun i _ => n - (intOf i).toNat)
  case atStart => exact ⟨0, 0, by omega, rfl, rfl⟩
  case round =>
    obtain ⟨k, q, hk, rfl, rfl⟩ := hrel
    by_cases hlt : k < n
    · obtain ⟨b, off, x, rfl, hb, hx, hcx⟩ := ha.at_ hlt
      obtain ⟨b', off', x', rfl, hb', hx', hcx'⟩ := hd.at_ hlt
      have e : x = x' := by rw [hx] at hx'; injection hx'
      subst e
      clear hx hx' ha hd
      go_wp2
      go_quiet (fail)
      go_wp2
      go_roundw
      case rel => exact ⟨k + 1, _, by omega, by go_num, rfl⟩
      case measure => simp [intOf]; omega
    · go_wp2
      go_ret
      exact ⟨rfl, q, rfl⟩
theorem texts_yes (A D : Option Addr) (n c d : Nat) (xs : List ByteArray) (w : World) (B B' : Nat) (ha : Rd w B A n (xs.map Value.string)) (hd : Rd w B' D n (xs.map Value.string)) (hn : n ≤ maxLen) :
    Calls Try.prog 61 #[.slice A n c, .slice D n d] w fun e w' => e = .returned (.bool true) ∧ Fresh w w' := by
  unfold maxLen at hn
  go_enter Try.func61, Try.ntmps61
  go_wp2
  go_loopw [5] (fun i wr => ∃ (k q : Nat), k ≤ n ∧ i = .int .i64 k ∧ wr = w.drewN q) (fun i _ => n - (intOf i).toNat)
  case atStart => exact ⟨0, 0, by omega, rfl, rfl⟩
  case round =>
    obtain ⟨k, q, hk, rfl, rfl⟩ := hrel
    by_cases hlt : k < n
    · obtain ⟨b, off, x, rfl, hb, hx, hcx⟩ := ha.at_ hlt
      obtain ⟨b', off', x', rfl, hb', hx', hcx'⟩ := hd.at_ hlt
      have e : x = x' := by rw [hx] at hx'; injection hx'
      subst e
      clear hx hx' ha hd
      go_wp2
      go_quiet (fail)
      go_wp2
      go_roundw
      case rel => exact ⟨k + 1, _, by omega, by go_num, rfl⟩
      case measure => simp [intOf]; omega
    · go_wp2
      go_ret
      exact ⟨rfl, Fresh.drewN _ _⟩
theorem stamp_is (w : World) (f : Nat) (a : Fs) (bl : List Nat) (n : ByteArray) (x : Fl) (h : FsAt w f a bl) (hn : n.size ≤ maxLen) (hd : a.down = false) (hg : getF a.files n = some x) :
    Calls Try.prog 60 #[fsPtr f, .string n] w fun e w' => e = .returned (.int .i64 x.stamp) ∧ w = w' := by
  have := stamp_any w f a bl n h hn
  rw [hd, hg] at this
  exact this
theorem room_up (w : World) (f : Nat) (a : Fs) (bl : List Nat) (R : Nat) (h : FsAt w f a bl) (hd : a.down = false) (hR : a.room = R) :
    Calls Try.prog 57 #[fsPtr f] w fun e w' => e = .returned (.int .i64 R) ∧ w = w' := by
  have := room_any w f a bl h
  rw [hd, hR] at this
  exact this
theorem room_down (w : World) (f : Nat) (a : Fs) (bl : List Nat) (h : FsAt w f a bl) (hd : a.down = true) :
    Calls Try.prog 57 #[fsPtr f] w fun e w' => e = .returned (.int .i64 0) ∧ w = w' := by
  have := room_any w f a bl h
  rw [hd] at this
  exact this
theorem waits_down (w : World) (f : Nat) (a : Fs) (bl : List Nat) (h : FsAt w f a bl) (hdn : a.down = true) :
    Calls Try.prog 58 #[fsPtr f] w fun e w' => e = .returned (.int .i64 0) ∧ w = w' := by
  obtain ⟨mb, gs, rfl, hg⟩ := h
  have hs := state_any w f a mb gs hg
  rw [hdn] at hs
  go_enter Try.func58, Try.ntmps58
  go_wp2_with (go_at_call 69; refine hs.mono ?_; rintro e w' ⟨rfl, rfl⟩)
  go_ret
  exact ⟨rfl, rfl⟩
end Go.Proofs.Ytelghdfikcodmaa.vacts
namespace Go.Proofs.Ytelghdfikcodmaa.vacts
open Go.RowKit Go.Maps Go.Proofs.Ytelghdfikcodmaa.base Go.Proofs.Ytelghdfikcodmaa.vfsnum Go.Proofs.Ytelghdfikcodmaa.vfs Go.Proofs.Ytelghdfikcodmaa.vref
set_option linter.unusedVariables false

theorem strI : (Try.prog.info? 9).map (fun i => (i.zero, i.size, i.bytes)) = some (some (.string ⟨#[]⟩), 1, 16) := by kernel_rfl
theorem s_one (s : ByteArray) : ∀ u ∈ [Value.string s], u.oneCell' = true := by intro u hu; rw [List.mem_singleton] at hu; subst hu; rfl
theorem RFile.all {w : World} {g : Nat} {n : ByteArray} {r : RRaw} {bl : List Nat} (h : RFile w g n r bl) :
    w.cell? ⟨g, 0, none⟩ = some (.string n) ∧ (∃ A1 c1, w.cell? ⟨g, 1, none⟩ = some (.slice A1 r.b.length c1) ∧ Rd w w.heap.size A1 r.b.length (r.b.map bv)) ∧ w.cell? ⟨g, 4, none⟩ = some (.int .i64 r.stamp) := by
  obtain ⟨A1, c1, A2, c2, A3, c3, rfl, hnd, hb, h1, h2, h3⟩ := h
  exact ⟨hb.cell rfl, ⟨A1, c1, hb.cell rfl, Own.rd h1⟩, hb.cell rfl⟩
theorem waits_up (w : World) (f : Nat) (a : Fs) (bl : List Nat) (W : Nat) (h : FsAt w f a bl) (hok : FsOk a) (hdn : a.down = false) (hW : a.waits = W) :
    Calls Try.prog 58 #[fsPtr f] w fun e w' => e = .returned (.int .i64 W) ∧ Fresh w w' := by
  subst hW
  exact waits_any w f a bl h hok hdn
theorem names_is (w : World) (f : Nat) (a : Fs) (bl : List Nat) (N : Nat) (h : FsAt w f a bl) (hok : FsOk a) (hlen : a.files.length ≤ 1048576) (hdn : a.down = false) (hN : a.files.length = N) :
    Calls Try.prog 56 #[fsPtr f, .string ⟨#[]⟩] w fun e w' => ∃ A c, e = .returned (.slice A N c) ∧ Rd w' w'.heap.size A N ((a.files.map Prod.fst).map Value.string) ∧ Fresh w w' := by
  have := names_up w f a bl ⟨#[]⟩ h hok hlen hdn
  refine this.mono ?_
  rintro e w' ⟨A, c, he, ho, hf⟩
  have hl : (nameList a (⟨#[]⟩ : ByteArray).data.toList).length = N := by show (nameList a []).length = N; rw [nameList_nil, List.length_map, hN]
  rw [hl] at he ho
  have hr := ho.rd
  have he2 : (nameList a (⟨#[]⟩ : ByteArray).data.toList).map encStr = (a.files.map Prod.fst).map Value.string := by show (nameList a []).map encStr = _; rw [nameList_enc, List.map_map]; rfl
  rw [he2] at hr
  exact ⟨A, c, he, hr, hf⟩
theorem waits_is (w : World) (f : Nat) (a : Fs) (A : Option Addr) (c : Nat) (gs : List Gh) (W : Nat) (h : RefG w f (most a) a A c gs) (hok : FsOk a) (hlen : gs.length ≤ 1048576) (hW : a.waits = W) :
    Calls Try.prog 63 #[.pointer (some ⟨f, 0, none⟩)] w fun e w' => e = .returned (.int .i64 W) ∧ w = w' := by
  have h1 : (gs.map cntG).sum = W := by rw [← hW, Fs.waits, h.2.1, List.map_map]; rfl
  have hWb : W ≤ 65536 := by have h1 := waits_le (l := a.files); have h2 := hok.sum; rw [← hW]; unfold Fs.waits; omega
  refine waits_r w f (most a) a A c gs h hlen hok W h1 hWb fun x hx => ?_
  have hx2 : FlOk x.fl := hok.fls (x.name, x.fl) (by rw [h.2.1]; exact List.mem_map.2 ⟨x, hx, rfl⟩)
  have := hx2.1
  unfold tk takes
  omega

theorem read_all (w : World) (f : Nat) (a : Fs) (bl : List Nat) (n : ByteArray) (x : Fl) (L : Nat) (h : FsAt w f a bl) (hok : FsOk a) (hn : n.size ≤ maxLen) (hd : a.down = false) (hgt : getF a.files n = some x) (hL : x.bs.length = L) :
    Calls Try.prog 42 #[fsPtr f, .string n, .int .i64 0, .int .i64 L] w fun e w' => ∃ q, e = .returned (.tuple #[.slice (some ⟨q, 0, none⟩) L L, .int .i64 0]) ∧ Rd w' w'.heap.size (some ⟨q, 0, none⟩) L (x.bs.map bv) ∧ Fresh w w' := by
  subst hL
  have := read_good w f a bl n 0 x.bs.length x h hok hn hd hgt (by omega)
  refine Calls.mono (show Calls _ _ #[fsPtr f, .string n, .int .i64 0, .int .i64 x.bs.length] w _ from this) ?_
  rintro e w' ⟨q, he, hq, hb, hf⟩
  rw [List.drop_zero, List.take_length] at he hb
  exact ⟨q, he, ⟨by rw [List.length_map], fun _ => ⟨q, 0, rfl, hb.inside, fun j u hu => by rw [Nat.zero_add]; exact hb.cell hu⟩⟩, hf⟩
theorem facts {w w' : World} {x m : Nat} {a : Fs} {A : Option Addr} {c : Nat} {gs : List Gh} (h : RefG w x m a A c gs) (hf : Fresh w w') {n : ByteArray} {fl : Fl} {g : Nat} {b : List Nat} (hy : (⟨n, fl, g, b⟩ : Gh) ∈ gs) {L : Nat} (hL : fl.bs.length = L) :
    w'.cell? ⟨g, 0, none⟩ = some (.string n) ∧ (∃ A1 c1, w'.cell? ⟨g, 1, none⟩ = some (.slice A1 L c1) ∧ Rd w' w'.heap.size A1 L (fl.bs.map bv)) ∧ w'.cell? ⟨g, 4, none⟩ = some (.int .i64 fl.stamp) := by
  subst hL
  exact RFile.all ((h.fresh hf).2.2.2.2 _ hy)

set_option maxRecDepth 100000 in
set_option maxHeartbeats 4000000 in
theorem same_any (w : World) (f x : Nat) (a : Fs) (bl xl : List Nat) (hF : FsAt w f a bl) (hX : RefAt w x a xl) (hok : FsOk a) (hlen : a.files.length ≤ 1048576) :
    Calls Try.prog 15 #[fsPtr f, .pointer (some ⟨x, 0, none⟩)] w fun e w' => e = .returned (.bool true) ∧ Fresh w w' := by
  obtain ⟨i0, hi0, hz0, hz1, hz2⟩ := info_parts strI
  obtain ⟨A, c, gs, rfl, hg⟩ := hX
  have hd4 : ∀ n, (w.drewN n).cell? ⟨x, 4, none⟩ = some (.bool a.down) := fun n => hg.2.2.1.cell rfl
  have h4 : w.cell? ⟨x, 4, none⟩ = some (.bool a.down) := hg.2.2.1.cell rfl
  have hdq : ∀ n, Calls Try.prog 55 #[fsPtr f] (w.drewN n) fun e w' => e = .returned (.bool a.down) ∧ w' = w.drewN n := fun n => (down_any (w.drewN n) f a bl (hF.fresh (Fresh.drewN w n))).mono fun _ _ ⟨h1, h2⟩ => ⟨h1, h2.symm⟩
  have HDQ := Lib.hid hdq
  clear hdq hd4
  cases hd : a.down with
  | true =>
    rw [hd] at h4 HDQ
    go_enter Try.func15, Try.ntmps15
    go_wp2
    go_quiet ((go_at_call 55; exact Calls.quiet_of_same (HDQ.out _)))
    have hF2 := hF.fresh (Fresh.drewN w nq)
    go_wp2_with (first
      | (go_at_call 56; refine (names_down _ f a bl _ hF2 hd).mono ?_; rintro e w2 ⟨rfl, rfl⟩)
      | (go_at_call 57; refine (room_down _ f a bl hF2 hd).mono ?_; rintro e w2 ⟨rfl, rfl⟩)
      | (go_at_call 58; refine (waits_down _ f a bl hF2 hd).mono ?_; rintro e w2 ⟨rfl, rfl⟩))
    go_ret
    exact ⟨rfl, Fresh.drewN _ _⟩
  | false =>
    rw [hd] at h4 HDQ
    obtain ⟨N, hN⟩ : ∃ N, gs.length = N := ⟨_, rfl⟩
    have hfl : a.files.length = N := by rw [← hg.len, hN]
    have hNb : N ≤ 1048576 := by omega
    have HN := Lib.hid hN
    have HFL := Lib.hid hfl
    have HG := Lib.hid hg
    have hc0 : w.cell? ⟨x, 0, none⟩ = some (.slice A N c) := by have : w.cell? ⟨x, 0, none⟩ = some (.slice A gs.length c) := hg.2.2.1.cell rfl; rwa [hN] at this
    clear hN hfl hg
    go_enter Try.func15, Try.ntmps15
    go_wp2
    go_quiet ((go_at_call 55; exact Calls.quiet_of_same (HDQ.out _)))
    go_wp2
    go_loopw [5, 40] (fun s i wr => ∃ (j c' : Nat) (A' : Option Addr), j ≤ N ∧ i = .int .i64 j ∧ s = .slice A' j c' ∧ Fresh w wr ∧ Own wr w.heap.size 9 A' j c' ((gs.take j).map fun y => Value.string y.name)) (fun _ i _ => N - (intOf i).toNat)
    case atStart => exact ⟨0, 0, none, by omega, rfl, rfl, Fresh.drewN _ _, Own.nil _ _ _⟩
    case round =>
      obtain ⟨j, c', A', hj, rfl, rfl, hfr, hown⟩ := hrel
      have hG := HG.out.fresh hfr
      have hFw := hF.fresh hfr
      by_cases hlt : j < N
      · obtain ⟨y, hy⟩ : ∃ y, gs[j]? = some y := ⟨_, List.getElem?_eq_getElem (by rw [HN.out]; exact hlt)⟩
        have hym := List.mem_of_getElem? hy
        obtain ⟨b, off, hA, hc⟩ := hG.elem hy
        subst hA
        have htk1 : gs.take (j + 1) = gs.take j ++ [y] := by
          obtain ⟨hl, e⟩ := List.getElem?_eq_some_iff.1 hy
          rw [List.take_succ_eq_append_getElem hl, e]
        have hmem : (y.name, y.fl) ∈ a.files := by rw [HG.out.2.1]; exact List.mem_map.2 ⟨y, hym, rfl⟩
        have hget := getF_mem (apart_of_sorted hok.sorted) hmem
        have hyo : FlOk y.fl := hok.fls _ hmem
        have hyn : y.name.size ≤ maxLen := by have := (right_size (hok.names _ hmem)).2; show y.name.size ≤ _; simp only at this; unfold maxLen; omega
        obtain ⟨yn, yf, yg, yb⟩ := y
        simp only at hget hyo hyn hc
        have hyb : yf.bs.length ≤ 4194304 := hyo.1
        obtain ⟨L, hL⟩ : ∃ L, yf.bs.length = L := ⟨_, rfl⟩
        rw [hL] at hyb
        have hnm := (facts HG.out hfr hym hL).1
        have HYM := Lib.hid hym
        have HTK := Lib.hid htk1
        have HL := Lib.hid hL
        have HGET := Lib.hid hget
        clear hy hym htk1 hmem hL hget hyo hG
        go_wp2_with (first
          | (at_builtin; go_loud (refine wpList_append_at _ rfl (.tmp 44) (.tmp 49) 83 rfl w.heap.size 9 i0 _ 16 Try.underlying83 hi0 hz0 hz1 hz2 rfl A' j c' _ rfl (Own.fresh hown (Fresh.alloc _ _)) (wr.heap.size + 1) (some ⟨wr.heap.size, 0, none⟩) 1 1 [.string yn] rfl (Rd.lit wr #[.string yn] 9) (s_one _) (by unfold maxLen; omega) (by omega) (by have := hfr.size; simp; omega) ?_); intro A3 c3 w3 ho3 hg3 _; have hf3 : Fresh w w3 := (hfr.trans (Fresh.alloc _ _)).append (Own.fresh hown (Fresh.alloc _ _)) (Nat.le_refl _) hg3; have hnm3 := (facts HG.out hf3 HYM.out HL.out).1; clear hg3)
          | (go_at_call 59; refine (len_some w3 f a bl yn yf (hF.fresh hf3) hyn hd HGET.out).mono ?_; rintro e w4 ⟨rfl, rfl⟩; rw [HL.out])
          | (go_at_call 42; refine (read_all w3 f a bl yn yf L (hF.fresh hf3) hok hyn hd HGET.out HL.out).mono ?_; rintro e w5 ⟨q, rfl, hrq, hf5⟩))
        have hfw5 : Fresh w w5 := hf3.trans hf5
        obtain ⟨hn5, ⟨A1, c1, hb5, hrd5⟩, hs5⟩ := facts HG.out hfw5 HYM.out HL.out
        have hF5 := hF.fresh hfw5
        have ho5 := Own.fresh ho3 hf5
        have HO5 := Lib.hid ho5
        clear ho3 hnm hnm3 ho5 hown
        go_quiet (first
          | (go_at_call 37; exact Calls.quiet_of (same_q _ _ L _ _ yf.bs _ _ _ (hrq.fresh (Fresh.drewN _ _)) (hrd5.fresh (Fresh.drewN _ _)) (by unfold maxLen; omega)))
          | (go_at_call 60; exact Calls.quiet_of_same ((stamp_is _ f a bl yn yf (hF5.fresh (Fresh.drewN _ _)) hyn hd HGET.out).mono fun _ _ ⟨h1, h2⟩ => ⟨h1, h2.symm⟩)))
        have hl3 : ((gs.take j).map fun y => Value.string y.name) ++ [Value.string yn] = (gs.take (j + 1)).map fun y => Value.string y.name := by rw [HTK.out, List.map_append]; rfl
        have hfq := hfw5.trans (Fresh.drewN w5 nq)
        have hoq := Own.fresh HO5.out (Fresh.drewN w5 nq)
        rw [hl3] at hoq
        have HOQ := Lib.hid hoq
        clear hl3 hoq
        go_wp2
        go_roundw
        case rel => exact ⟨j + 1, c3, A3, by omega, by go_num, rfl, hfq, HOQ.out⟩
        case measure => simp [intOf]; omega
      · obtain rfl : j = N := by omega
        have hnames : ((gs.take j).map fun y => Value.string y.name) = (a.files.map Prod.fst).map Value.string := by
          rw [List.take_of_length_le (Nat.le_of_eq HN.out), HG.out.2.1, List.map_map, List.map_map]
          rfl
        rw [hnames] at hown
        have hrn := hown.rd
        obtain ⟨R, hR⟩ : ∃ R, a.room = R := ⟨_, rfl⟩
        obtain ⟨W, hW⟩ : ∃ W, a.waits = W := ⟨_, rfl⟩
        have hgl : gs.length ≤ 1048576 := by rw [HN.out]; exact hNb
        have HR := Lib.hid hR
        have HW := Lib.hid hW
        have HGL := Lib.hid hgl
        clear hnames hown hR hW hgl hG
        go_wp2_with (first
          | (go_at_call 56; refine (names_is wr f a bl j hFw hok hlen hd HFL.out).mono ?_; rintro e w2 ⟨A2, c2, rfl, hr2, hf2⟩; have hfr2 := hfr.trans hf2)
          | (go_at_call 61; refine (texts_yes A2 A' j _ _ _ w2 _ _ hr2 (hrn.fresh hf2) (by unfold maxLen; omega)).mono ?_; rintro e w3 ⟨rfl, hf3⟩; have hfr3 := hfr2.trans hf3)
          | (go_at_call 57; refine (room_up w3 f a bl R (hF.fresh hfr3) hd HR.out).mono ?_; rintro e w4 ⟨rfl, rfl⟩)
          | (go_at_call 62; refine (vref.room_is w3 x a A c gs R (HG.out.fresh hfr3) hok HGL.out HR.out).mono ?_; rintro e w4 ⟨rfl, rfl⟩)
          | (go_at_call 58; refine (waits_up w3 f a bl W (hF.fresh hfr3) hok hd HW.out).mono ?_; rintro e w4 ⟨rfl, hf4⟩; have hfr4 := hfr3.trans hf4)
          | (go_at_call 63; refine (waits_is w4 x a A c gs W (HG.out.fresh hfr4) hok HGL.out HW.out).mono ?_; rintro e w5 ⟨rfl, rfl⟩))
        go_ret
        exact ⟨rfl, hfr4⟩
end Go.Proofs.Ytelghdfikcodmaa.vacts
