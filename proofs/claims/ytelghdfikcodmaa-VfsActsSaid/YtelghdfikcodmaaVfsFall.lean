/-
  The contracts of the store's Names, Crash. My own text.
-/
import Derived.Test.YtelghdfikcodmaaVfsNames
namespace Go.Proofs.Ytelghdfikcodmaa.vfs
open Go.RowKit Go.Maps Go.Sort Go.Proofs.Ytelghdfikcodmaa.base Go.Proofs.Ytelghdfikcodmaa.vfsnum
set_option linter.unusedVariables false

theorem Own.rdA {w : World} {base : Nat} {S : List Nat} {e : TypeId} {A : Option Addr} {n c : Nat} {xs : List Value} (h : Own w base e A n c xs) (hS : ∀ b ∈ S, b < base) : RdA w S A n xs := by
  refine ⟨by simpa using h.1, fun hn => ?_⟩
  obtain ⟨g, cap, hv, hb, hlt⟩ := World.ownsRow.form h hn
  injection hv with hA _ _
  subst hA
  refine ⟨g, 0, rfl, hlt, fun h' => by have := hS g h'; omega, fun j u hu => ?_⟩
  have := World.ownsRow.cells h (g := g) rfl j u hu
  have hadd : (⟨g, 0, none⟩ : Addr).add j = ⟨g, 0 + j, none⟩ := by unfold Addr.add; split <;> simp_all
  rwa [hadd] at this
theorem encStr_data (s : ByteArray) : encStr s.data.toList = .string s := by cases s; simp [encStr]
theorem nameList_nil (a : Fs) : nameList a [] = a.files.map fun p => p.1.data.toList := by
  unfold nameList
  rw [List.filter_eq_self]
  intro l _
  simp [Lib.hasPrefix]
theorem nameList_enc (a : Fs) : (nameList a []).map encStr = a.files.map fun p => Value.string p.1 := by
  rw [nameList_nil, List.map_map]
  exact List.map_congr_left fun p _ => encStr_data p.1
theorem RdA.get_ {w : World} {S : List Nat} {A : Option Addr} {n : Nat} {xs : List Value} (h : RdA w S A n xs) {k : Nat} (hk : k < n) {u : Value} (hu : xs[k]? = some u) : ∃ b off, A = some ⟨b, off, none⟩ ∧ w.cell? ⟨b, off + k, none⟩ = some u := by
  obtain ⟨b, off, e, _, _, hc⟩ := h.2 (by omega)
  exact ⟨b, off, e, hc k u hu⟩

/-- a call that tells nothing is done -/
def Did0 (w : World) (f : Nat) (bl : List Nat) (a : Fs) (e : Ending) (w' : World) : Prop := e = .returned (.tuple #[]) ∧ ∃ bl', FsAt w' f a bl' ∧ Turn bl bl' w w'

theorem names_up (w : World) (f : Nat) (a : Fs) (bl : List Nat) (hd : ByteArray) (h : FsAt w f a bl) (hok : FsOk a) (hlen : a.files.length ≤ 1048576) (hdn : a.down = false) :
    Calls Try.prog 56 #[fsPtr f, .string hd] w (NamesAt w (nameList a hd.data.toList)) := by
  have hn := names_any w f a bl hd h hok hlen
  obtain ⟨mb, gs, rfl, hg⟩ := h
  have hs := state_any w f a mb gs hg
  rw [hdn] at hs
  generalize nameList a hd.data.toList = nl at *
  clear hdn
  go_enter Try.func56, Try.ntmps56
  go_wp2_with (first
    | (go_at_call 69; refine hs.mono ?_; rintro e w' ⟨rfl, rfl⟩)
    | (go_at_call 77; refine hn.mono ?_; rintro e w' ⟨A, c, rfl, ho, hf⟩))
  go_ret
  exact ⟨A, c, rfl, ho, hf⟩
theorem names_down (w : World) (f : Nat) (a : Fs) (bl : List Nat) (hd : ByteArray) (h : FsAt w f a bl) (hdn : a.down = true) :
    Calls Try.prog 56 #[fsPtr f, .string hd] w fun e w' => e = .returned (.slice none 0 0) ∧ w = w' := by
  obtain ⟨mb, gs, rfl, hg⟩ := h
  have hs := state_any w f a mb gs hg
  rw [hdn] at hs
  clear hdn
  go_enter Try.func56, Try.ntmps56
  go_wp2_with (go_at_call 69; refine hs.mono ?_; rintro e w' ⟨rfl, rfl⟩)
  go_ret
  exact ⟨rfl, rfl⟩

theorem sum_ge {l : List (ByteArray × Fl)} : ∀ p ∈ l, tk p.2 ≤ (l.map fun p => tk p.2).sum := fun p hp => le_sum_of_mem (List.mem_map.2 ⟨p, hp, rfl⟩)
set_option maxRecDepth 100000 in
set_option maxHeartbeats 1000000 in
theorem crash_fs (w : World) (f : Nat) (a : Fs) (bl : List Nat) (keep : Nat) (h : FsAt w f a bl) (hok : FsOk a) (hlen : a.files.length ≤ 1048576) (hkeep : keep < 18446744073709551616) :
    Calls Try.prog 41 #[fsPtr f, .int .u64 keep] w (Did0 w f bl (a.crash keep)) := by
  have hn := names_any w f a bl ByteArray.empty h hok hlen
  have hbe : ByteArray.empty.data.toList = [] := rfl
  rw [hbe] at hn
  clear hbe
  obtain ⟨mb, gs, rfl, hg⟩ := h
  have hin := hg.inside
  have hfs := hg.2.1
  have hnl : (nameList a []).length = a.files.length := by rw [nameList_nil, List.length_map]
  have henc := nameList_enc a
  generalize nameList a [] = nl at *
  have hsum : (gs.map fun x => tk x.fl).sum ≤ 65536 := by
    have := hok.sum
    rw [hfs, List.map_map] at this
    have e : (gs.map fun x => tk x.fl).sum = (gs.map ((fun p : ByteArray × Fl => tk p.2) ∘ Gh.fst)).sum := rfl
    omega
  have hfl : ∀ x ∈ gs, FlOk x.fl := fun x hx => hok.fls (x.name, x.fl) (by rw [hfs]; exact List.mem_map.2 ⟨x, hx, rfl⟩)
  have hvals : (a.files.map fun p => Value.string p.1) = gs.map fun x => Value.string x.name := by rw [hfs, List.map_map]; rfl
  have hgl : gs.length = nl.length := by rw [hnl, hfs, List.length_map]
  have hN : nl.length ≤ 1048576 := by omega
  have HA := Lib.hid (show a = { a with files := gs.map Gh.fst } by rw [← hfs])
  have HENC := Lib.hid (henc.trans hvals)
  have HFL := Lib.hid hfl
  have HSUM := Lib.hid hsum
  have HFS := Lib.hid hfs
  have HGL := Lib.hid hgl
  have HIN := Lib.hid hin
  clear hin hfs hnl henc hsum hfl hvals hgl hlen
  go_enter Try.func41, Try.ntmps41
  go_wp2_with (go_at_call 77; refine hn.mono ?_; rintro e w1 ⟨A, c, rfl, ho, hf1⟩)
  have hg1 := hg.fresh hf1
  have hrd : RdA w1 (fsBlocks f mb gs) A nl.length (gs.map fun x => Value.string x.name) := by rw [← HENC.out]; exact Own.rdA ho HIN.out
  have hcap := ho.cap
  have hc2 : c ≤ 9223372036854775807 := by have := hcap.2; unfold maxLen at this; omega
  have hc1 := hcap.1
  clear hcap ho hg hn
  obtain ⟨N, hNe⟩ : ∃ N, nl.length = N := ⟨_, rfl⟩
  rw [hNe] at hN hrd hc1 ⊢
  have HGL2 := Lib.hid (HGL.out.trans hNe)
  clear hNe
  go_loopw [4, 12] (fun ti t wr => ∃ (k i : Nat) (g1 g2 : List Gh), t = .int .i64 k ∧ ti = .int .i64 i ∧ Hid (g1.length = k) ∧ Hid (k + g2.length = N) ∧ k ≤ N ∧ i ≤ 65536 ∧ Hid (i + (g2.map fun x => tk x.fl).sum ≤ 65536) ∧ Hid (∀ x ∈ g2, FlOk x.fl) ∧
      Hid (crF keep a.files 0 = g1.map Gh.fst ++ crF keep (g2.map Gh.fst) i) ∧ Hid ((g1 ++ g2).map Gh.name = gs.map Gh.name) ∧ FsG wr f { a with files := (g1 ++ g2).map Gh.fst } mb (g1 ++ g2) ∧ Turn (fsBlocks f mb gs) (fsBlocks f mb (g1 ++ g2)) w wr ∧
      RdA wr (fsBlocks f mb (g1 ++ g2)) A N (gs.map fun x => Value.string x.name)) (fun _ t _ => N - (intOf t).toNat)
  case atStart =>
    exact ⟨0, 0, [], gs, rfl, rfl, rfl, by have := HGL2.out; show _ = _; omega, Nat.zero_le _, by omega, by have := HSUM.out; show _ ≤ _; omega, HFL.out, by show _ = _; rw [HFS.out]; rfl, rfl, HA.out ▸ hg1, Turn.fresh hf1, hrd⟩
  case round =>
    obtain ⟨k, i, g1, g2, rfl, rfl, h1, h2, hk, hi, hs, hfl, hcr, hnm, hgr, hT, hrr⟩ := hrel
    by_cases hlt : k < N
    · cases g2 with
      | nil => exfalso; have := h2.out; simp at this; omega
      | cons x g2 =>
        have hu : (gs.map fun x => Value.string x.name)[k]? = some (.string x.name) := by
          have e : (gs.map fun x => Value.string x.name) = (gs.map Gh.name).map Value.string := by rw [List.map_map]; rfl
          have hl := h1.out
          rw [e, ← hnm.out, List.map_append, List.map_append, List.getElem?_append_right (by rw [List.length_map, List.length_map, hl]; exact Nat.le_refl _), List.length_map, List.length_map, hl, Nat.sub_self]
          rfl
        obtain ⟨b, off, rfl, hcell⟩ := hrr.get_ hlt hu
        have h0 : wr.cell? ⟨f, 0, none⟩ = some (.map (some mb)) := hgr.2.2.1.cell rfl
        have hm := hgr.2.2.2.1
        have hxr := hgr.2.2.2.2 x (by simp)
        have hxo := hfl.out x (by simp)
        have hsz : x.name.size ≤ maxLen := by
          have hmem : x.name ∈ gs.map Gh.name := by rw [← hnm.out]; simp
          obtain ⟨y, hy, hye⟩ := List.mem_map.1 hmem
          have : 1 ≤ y.name.size ∧ y.name.size ≤ 24 := right_size (hok.names (y.name, y.fl) (by rw [HFS.out]; exact List.mem_map.2 ⟨y, hy, rfl⟩))
          rw [← hye]
          unfold maxLen
          omega
        have hca := crash_any x.g x.fl x.bl keep i wr hxr hxo hkeep (by omega)
        have hci : i + cnt x.fl.old (takes x.fl.bs.length) + (g2.map fun x => tk x.fl).sum ≤ 65536 := by
          have := hs.out
          rw [List.map_cons, List.sum_cons] at this
          have h3 := cnt_le x.fl.old (takes x.fl.bs.length)
          have e : tk x.fl = takes x.fl.bs.length := rfl
          omega
        have HCI := Lib.hid hci
        have HG := Lib.hid hgr
        have HRR := Lib.hid hrr
        clear hxo hci hu hgr hrr hkeep hxr
        go_wp2_with (first
          | (at_lookup; refine wpList_look_hit _ rfl _ _ 71 rfl 9 99 strKey Try.underlying71 mb _ rfl hm _ _ _ rfl (key_str x.name hsz) (Gh.kv_mem (x := x) (by simp)) ?_)
          | (go_at_call 78; refine hca.mono ?_; rintro e w2 ⟨rfl, bl2, hr2, hT2⟩))
        have hup := HG.out.upd (cr x.fl keep i) bl2 hr2 hT2 _ rfl
        go_roundw
        case rel =>
          refine ⟨k + 1, i + cnt x.fl.old (takes x.fl.bs.length), g1 ++ [{ x with fl := cr x.fl keep i, bl := bl2 }], g2, by go_num, rfl, ?_, ?_, by omega, ?_, HCI.out, fun y hy => hfl.out y (List.mem_cons_of_mem _ hy), ?_, ?_, ?_, ?_, ?_⟩
          · have := h1.out; show _ = _; rw [List.length_append, this]; rfl
          · have := h2.out; rw [List.length_cons] at this; show _ = _; omega
          · have := HCI.out; omega
          · show _ = _
            rw [hcr.out, List.map_append, List.append_assoc]
            rfl
          · show _ = _
            rw [← hnm.out]; simp
          · rw [List.append_assoc]; exact hup.1
          · rw [List.append_assoc]; exact hT.trans hup.2
          · rw [List.append_assoc]; exact HRR.out.turn hup.2
        case measure => simp [intOf]; omega
    · have hkN : k = N := by omega
      subst hkN
      obtain rfl : g2 = [] := List.eq_nil_of_length_eq_zero (by have := h2.out; omega)
      have hf3 := hgr.2.2.1.free 3
      have hf4 := hgr.2.2.1.free 4
      have h3 : wr.cell? ⟨f, 3, none⟩ = some (.int .i64 a.fuse) := hgr.2.2.1.cell rfl
      have h4 : wr.cell? ⟨f, 4, none⟩ = some (.bool a.down) := hgr.2.2.1.cell rfl
      have hp := hgr.put 3 (.int .i64 (-1)) { a with files := (g1 ++ []).map Gh.fst, fuse := -1 } rfl rfl
      have hq := hp.1.put 4 (.bool false) { a with files := (g1 ++ []).map Gh.fst, fuse := -1, down := false } rfl rfl
      have HQ := Lib.hid hq
      have HT := Lib.hid ((hT.trans hp.2).trans hq.2)
      have HC := Lib.hid (show a.crash keep = { a with files := (g1 ++ []).map Gh.fst, fuse := -1, down := false } by unfold Fs.crash; rw [hcr.out]; simp [crF])
      clear hq hp hT hrr hgr hkeep hcr
      go_wp2
      go_end0
      exact ⟨rfl, _, HC.out ▸ ⟨mb, _, rfl, HQ.out.1⟩, HT.out⟩
end Go.Proofs.Ytelghdfikcodmaa.vfs
