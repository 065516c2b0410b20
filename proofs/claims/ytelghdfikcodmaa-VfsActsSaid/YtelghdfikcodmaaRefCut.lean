/-
  The contract of the reference's Cut. My own text.
-/
import Derived.Test.YtelghdfikcodmaaRefSize
/-
  The contract of the reference's Sync. My own text.
-/
namespace Go.Proofs.Ytelghdfikcodmaa.vref
open Go.RowKit Go.Maps Go.Proofs.Ytelghdfikcodmaa.base Go.Proofs.Ytelghdfikcodmaa.vfsnum Go.Proofs.Ytelghdfikcodmaa.vfs
set_option linter.unusedVariables false

theorem upd_split {g1 g2 : List Gh} {x : Gh} (h1 : ∀ y ∈ g1, y.name ≠ x.name) (h2 : ∀ y ∈ g2, y.name ≠ x.name) (z : Fl) (b : List Nat) : updF ((g1 ++ x :: g2).map Gh.fst) x.name z = (g1 ++ { x with fl := z, bl := b } :: g2).map Gh.fst := by
  have hk : ∀ l : List Gh, (∀ y ∈ l, y.name ≠ x.name) → updF (l.map Gh.fst) x.name z = l.map Gh.fst := by
    intro l hl
    unfold updF
    rw [List.map_map]
    refine List.map_congr_left fun y hy => ?_
    exact if_neg (show ¬ y.fst.1 = x.name from hl y hy)
  have ha : updF ((g1 ++ x :: g2).map Gh.fst) x.name z = updF (g1.map Gh.fst) x.name z ++ ((x.name, z) :: updF (g2.map Gh.fst) x.name z) := by
    unfold updF
    simp [Gh.fst]
  rw [ha, hk g1 h1, hk g2 h2]
  simp [Gh.fst]
/-- blocks beside a file's -/
theorem RefG.beside {w : World} {f m : Nat} {a : Fs} {A : Option Addr} {c : Nat} {g1 g2 : List Gh} {x : Gh} (h : RefG w f m a A c (g1 ++ x :: g2)) : ∀ b, b = f ∨ b ∈ rb A → b ∉ x.bl := by
  intro b hb hx
  have hnd := h.1
  simp only [rsBlocks, List.nodup_cons, List.nodup_append, List.mem_append, List.mem_flatMap] at hnd
  rcases hb with rfl | hb
  · exact hnd.1 (.inr ⟨x, by simp, hx⟩)
  · exact hnd.2.2.2 b hb b ⟨x, by simp, hx⟩ rfl
/-- a file's place in the list, while that file turns -/
theorem RefG.hold {w wr : World} {f m : Nat} {a : Fs} {A : Option Addr} {c : Nat} {g1 g2 : List Gh} {x : Gh} (h : RefG w f m a A c (g1 ++ x :: g2)) {S' : List Nat} (ht : Turn x.bl S' w wr) :
    wr.cell? ⟨f, 0, none⟩ = some (.slice A (g1 ++ x :: g2).length c) ∧ (∃ b off, A = some ⟨b, off, none⟩ ∧ wr.cell? ⟨b, off + g1.length, none⟩ = some (.pointer (some ⟨x.g, 0, none⟩))) := by
  have hin := h.inside
  refine ⟨?_, ?_⟩
  · have h0 : w.cell? ⟨f, 0, none⟩ = some (.slice A (g1 ++ x :: g2).length c) := h.2.2.1.cell rfl
    exact (World.cell?_of_block (ht.block f (hin f (by simp [rsBlocks])) (h.beside f (.inl rfl)))).trans h0
  · obtain ⟨b, off, rfl, hc⟩ := h.elem (k := g1.length) (x := x) (by rw [List.getElem?_append_right (Nat.le_refl _), Nat.sub_self]; rfl)
    refine ⟨b, off, rfl, (World.cell?_of_block (ht.block b (hin b (by simp [rsBlocks, rb])) (h.beside b (.inr (by simp [rb]))))).trans hc⟩
theorem most_upd {a : Fs} {g1 g2 : List Gh} {x : Gh} (hf : a.files = (g1 ++ x :: g2).map Gh.fst) (z : Fl) (hz : tk z = tk x.fl) (b : List Nat) {a' : Fs} (hr : a'.room = a.room) (hf' : a'.files = (g1 ++ { x with fl := z, bl := b } :: g2).map Gh.fst) : most a' = most a := by
  unfold most
  rw [hf, hf', hr]
  simp [Gh.fst, hz]

set_option maxHeartbeats 2000000 in
theorem sync_r (w : World) (f : Nat) (a : Fs) (bl : List Nat) (n : ByteArray) (h : RefAt w f a bl) (hok : FsOk a) (hlen : a.files.length ≤ 1048576) :
    Calls Try.prog 53 #[.pointer (some ⟨f, 0, none⟩), .string n] w (RDid w f bl (a.sync n)) := by
  obtain ⟨A, c, gs, rfl, hg⟩ := h
  have h4 : w.cell? ⟨f, 4, none⟩ = some (.bool a.down) := hg.2.2.1.cell rfl
  cases hd : a.down with
  | true =>
    have e : a.sync n = (9, a) := by unfold Fs.sync; rw [if_pos hd]
    rw [e]; rw [hd] at h4
    clear e hd
    go_enter Try.func53, Try.ntmps53
    go_wp2
    go_ret
    exact RDid.same hg 9
  | false =>
    have hd' : ¬ a.down = true := by rw [hd]; simp
    rw [hd] at h4
    cases hgt : getF a.files n with
    | none =>
      have e : a.sync n = (6, a) := by unfold Fs.sync; rw [if_neg hd', hgt]
      have hfi := find_no w f _ a A c gs n hg (hg.get_none hgt) (by rw [hg.len]; exact hlen)
      rw [e]
      clear e hd hd' hgt
      go_enter Try.func53, Try.ntmps53
      go_wp2_with (go_at_call 84; refine hfi.mono ?_; rintro e w' ⟨rfl, rfl⟩)
      go_ret
      exact RDid.same hg 6
    | some x =>
      have hxm := getF_some hgt
      have hxo : FlOk x := hok.fls _ hxm
      have hxb : x.bs.length ≤ 4194304 := hxo.1
      obtain ⟨g1, g, xbl, g2, rfl, hn1, hn2⟩ := hg.get_some hok hgt
      have hln : (g1 ++ (⟨n, x, g, xbl⟩ : Gh) :: g2).length ≤ 1048576 := by rw [hg.len]; exact hlen
      have hfi := find_at w f _ a A c g1 g2 ⟨n, x, g, xbl⟩ hg hn1 hln
      by_cases hfz : a.fuse = 0
      · have e : a.sync n = (9, a.fall) := by unfold Fs.sync; rw [if_neg hd', hgt]; simp only; rw [if_pos hfz]
        have hbu := burn_out w f _ a A c _ hg hfz
        rw [e]
        clear e hd hd' hgt hfz
        go_enter Try.func53, Try.ntmps53
        go_wp2_with (first
          | (go_at_call 84; refine hfi.mono ?_; rintro e w' ⟨rfl, rfl⟩)
          | (go_at_call 85; refine hbu.mono ?_; rintro e w1 ⟨rfl, hg1, hT1⟩))
        go_ret
        exact RDid.mk_ hg1 9 hT1 rfl
      · have e : a.sync n = (0, { a.burn with files := updF a.files n { x with old := noOld } }) := by unfold Fs.sync; rw [if_neg hd', hgt]; simp only; rw [if_neg hfz]
        have hbu := burn_on w f _ a A c _ hg hfz hok.fuse1 hok.fuse2
        have hfs := hg.2.1
        have htk : tk x ≤ 65536 := by unfold tk takes; omega
        obtain ⟨T, hT⟩ : ∃ T, tk x = T := ⟨_, rfl⟩
        have HT := Lib.hid hT
        rw [hT] at htk
        obtain ⟨K, hK⟩ : ∃ K, g1.length = K := ⟨_, rfl⟩
        obtain ⟨N, hN⟩ : ∃ N, (g1 ++ (⟨n, x, g, xbl⟩ : Gh) :: g2).length = N := ⟨_, rfl⟩
        have hKN : K < N := by rw [← hN, ← hK]; simp
        rw [hN] at hln
        rw [hK] at hfi
        have HK := Lib.hid hK
        have HN := Lib.hid hN
        rw [e]
        have HFS := Lib.hid hfs
        clear e hd hd' hgt hfz hfs hT hK hN hg hxm
        go_enter Try.func53, Try.ntmps53
        go_wp2_with (first
          | (go_at_call 84; refine hfi.mono ?_; rintro e w' ⟨rfl, rfl⟩)
          | (go_at_call 85; refine hbu.mono ?_; rintro e w1 ⟨rfl, hg1, hT1⟩))
        have HG1 := Lib.hid hg1
        have HT1 := Lib.hid hT1
        have hx0 : RFile w1 g n (rawR x) xbl := hg1.2.2.2.2 ⟨n, x, g, xbl⟩ (by simp)
        rw [← syncR_zero hxo] at hx0
        have hbl0 : x.bs.length ≤ 16777216 := by omega
        clear hg1 hT1 hbu hfi
        go_loopw [6] (fun i wr => ∃ k : Nat, k ≤ T ∧ i = .int .i64 k ∧ RFile wr g n (syncR x k) xbl ∧ Turn xbl xbl w1 wr) (fun i _ => T - (intOf i).toNat)
        case atStart => exact ⟨0, Nat.zero_le _, rfl, hx0, Turn.refl _ _⟩
        case round =>
          obtain ⟨k, hk, rfl, hf, hTk⟩ := hrel
          obtain ⟨hc0, b, off, hA, hce⟩ := HG1.out.hold (x := ⟨n, x, g, xbl⟩) hTk
          subst hA
          rw [HN.out] at hc0
          rw [HK.out] at hce
          have hwl : (syncR x k).wt.length = T := by rw [← HT.out]; simp [syncR]
          have holl : (syncR x k).old.length = 64 * T := by rw [← HT.out]; exact secs_len (tk x) fun i => if i < k then secAt x.bs i else oldSec x i
          have hc3 : ∃ A3 c3, wr.cell? ⟨g, 3, none⟩ = some (.slice A3 T c3) := by
            obtain ⟨A1, c1, A2, c2, A3, c3, _, _, hbk, _⟩ := hf
            have : wr.cell? ⟨g, 3, none⟩ = some (.slice A3 (syncR x k).wt.length c3) := hbk.cell rfl
            rw [hwl] at this
            exact ⟨A3, c3, this⟩
          obtain ⟨A3, c3, hc3⟩ := hc3
          by_cases hlt : k < T
          · have hla := last_r wr g n (syncR x k) xbl k hf (by rw [hwl]; exact hlt) (by rw [holl]; omega) (by rw [holl]; omega) hbl0 (by rw [hwl]; omega)
            rw [syncR_step x k (by rw [HT.out]; exact hlt)] at hla
            have HLA := Lib.hid hla
            clear hla hf hwl holl
            go_wp2_with (go_at_call 90; refine HLA.out.mono ?_; rintro e w2 ⟨rfl, hf2, hT2⟩)
            go_roundw
            case rel => exact ⟨k + 1, by omega, by go_num, hf2, hTk.trans hT2⟩
            case measure => simp [intOf]; omega
          · obtain rfl : k = T := by omega
            have hfin := hf
            rw [← HT.out, syncR_all] at hfin
            have HF := Lib.hid hfin
            clear hfin hf hwl holl
            go_wp2
            go_ret
            have e2 := upd_split (x := ⟨n, x, g, xbl⟩) hn1 hn2 { x with old := noOld } xbl
            rw [← HFS.out] at e2
            have hup := HG1.out.upd ⟨n, { x with old := noOld }, g, xbl⟩ rfl HF.out hTk { a.burn with files := updF a.files n { x with old := noOld } } (by rw [e2])
            exact RDid.mk_ hup.1 0 (HT1.out.trans hup.2) (most_upd (a := a) (a' := { a.burn with files := updF a.files n { x with old := noOld } }) HFS.out { x with old := noOld } rfl xbl rfl e2).symm
end Go.Proofs.Ytelghdfikcodmaa.vref
namespace Go.Proofs.Ytelghdfikcodmaa.vref
open Go.RowKit Go.Maps Go.Proofs.Ytelghdfikcodmaa.base Go.Proofs.Ytelghdfikcodmaa.vfsnum Go.Proofs.Ytelghdfikcodmaa.vfs
set_option linter.unusedVariables false

theorem RFile.blen {w : World} {g : Nat} {n : ByteArray} {r : RRaw} {bl : List Nat} (h : RFile w g n r bl) : ∃ A1 c1, w.cell? ⟨g, 1, none⟩ = some (.slice A1 r.b.length c1) := by
  obtain ⟨A1, c1, A2, c2, A3, c3, rfl, hnd, hb, h1, h2, h3⟩ := h
  exact ⟨A1, c1, hb.cell rfl⟩
theorem sum_mid (g1 g2 : List Gh) (x : Gh) : ((g1 ++ x :: g2).map fun p => tk p.fl).sum = tk x.fl + ((g1 ++ g2).map fun p => tk p.fl).sum := by
  simp only [List.map_append, List.map_cons, List.sum_append, List.sum_cons]
  omega
theorem most_grown {a a' : Fs} {g1 g2 : List Gh} {x : Gh} (hf : a.files = (g1 ++ x :: g2).map Gh.fst) (z : Fl) (b : List Nat) (hf' : a'.files = (g1 ++ { x with fl := z, bl := b } :: g2).map Gh.fst) (hr : a'.room + tk z = a.room + tk x.fl) : most a' = most a := by
  have h1 : (a.files.map fun p => tk p.2).sum = tk x.fl + ((g1 ++ g2).map fun p => tk p.fl).sum := by rw [hf, List.map_map]; exact sum_mid g1 g2 x
  have h2 : (a'.files.map fun p => tk p.2).sum = tk z + ((g1 ++ g2).map fun p => tk p.fl).sum := by rw [hf', List.map_map]; exact sum_mid g1 g2 { x with fl := z, bl := b }
  unfold most
  omega
theorem stamped_is (w : World) (f m : Nat) (a : Fs) (A : Option Addr) (c : Nat) (g1 g2 : List Gh) (n : ByteArray) (x : Fl) (g : Nat) (bl : List Nat) (h : RefG w f m a A c (g1 ++ ⟨n, x, g, bl⟩ :: g2)) (hs : a.stamp < 4611686018427387904) :
    Calls Try.prog 86 #[.pointer (some ⟨f, 0, none⟩), .pointer (some ⟨g, 0, none⟩)] w fun e w' => e = .returned (.tuple #[]) ∧ RefG w' f m { a with stamp := a.stamp + 1, files := (g1 ++ ⟨n, { x with stamp := a.stamp + 1 }, g, bl⟩ :: g2).map Gh.fst } A c (g1 ++ ⟨n, { x with stamp := a.stamp + 1 }, g, bl⟩ :: g2) ∧ Turn (rsBlocks f A (g1 ++ ⟨n, x, g, bl⟩ :: g2)) (rsBlocks f A (g1 ++ ⟨n, { x with stamp := a.stamp + 1 }, g, bl⟩ :: g2)) w w' := by
  refine (stamped_r w f m a A c g1 g2 ⟨n, x, g, bl⟩ h hs _ rfl).mono ?_
  rintro e w' ⟨he, h1, h2⟩
  have eb : rsBlocks f A (g1 ++ ⟨n, { x with stamp := a.stamp + 1 }, g, bl⟩ :: g2) = rsBlocks f A (g1 ++ ⟨n, x, g, bl⟩ :: g2) := by simp [rsBlocks]
  exact ⟨he, h1, eb ▸ h2⟩

set_option maxHeartbeats 4000000 in
theorem cut_r (w : World) (f : Nat) (a : Fs) (bl : List Nat) (n : ByteArray) (z : Int) (h : RefAt w f a bl) (hok : FsOk a) (hlen : a.files.length ≤ 1048576) (hst : a.stamp < 4611686018427387904) (hz1 : -9223372036854775808 ≤ z) (hz2 : z ≤ 9223372036854775807) :
    Calls Try.prog 50 #[.pointer (some ⟨f, 0, none⟩), .string n, .int .i64 z] w (RDid w f bl (a.cut n z)) := by
  obtain ⟨A, c, gs, rfl, hg⟩ := h
  have h4 : w.cell? ⟨f, 4, none⟩ = some (.bool a.down) := hg.2.2.1.cell rfl
  cases hd : a.down with
  | true =>
    have e : a.cut n z = (9, a) := by unfold Fs.cut; rw [if_pos hd]
    rw [e]; rw [hd] at h4
    clear e hd
    go_enter Try.func50, Try.ntmps50
    go_wp2
    go_ret
    exact RDid.same hg 9
  | false =>
    have hd' : ¬ a.down = true := by rw [hd]; simp
    rw [hd] at h4
    cases hgt : getF a.files n with
    | none =>
      have e : a.cut n z = (6, a) := by unfold Fs.cut; rw [if_neg hd', hgt]
      have hfi := find_no w f _ a A c gs n hg (hg.get_none hgt) (by rw [hg.len]; exact hlen)
      rw [e]
      clear e hd hd' hgt
      go_enter Try.func50, Try.ntmps50
      go_wp2_with (go_at_call 84; refine hfi.mono ?_; rintro e w' ⟨rfl, rfl⟩)
      go_ret
      exact RDid.same hg 6
    | some x =>
      have hxm := getF_some hgt
      have hxo : FlOk x := hok.fls _ hxm
      have hxb : x.bs.length ≤ 4194304 := hxo.1
      obtain ⟨g1, g, xbl, g2, rfl, hn1, hn2⟩ := hg.get_some hok hgt
      have hln : (g1 ++ (⟨n, x, g, xbl⟩ : Gh) :: g2).length ≤ 1048576 := by rw [hg.len]; exact hlen
      have hfi := find_at w f _ a A c g1 g2 ⟨n, x, g, xbl⟩ hg hn1 hln
      obtain ⟨hc0, b, off, hA, hce⟩ := hg.hold (x := ⟨n, x, g, xbl⟩) (Turn.refl _ w)
      obtain ⟨A1, c1, hcb⟩ := (hg.2.2.2.2 ⟨n, x, g, xbl⟩ (by simp)).blen
      replace hcb : w.cell? ⟨g, 1, none⟩ = some (.slice A1 x.bs.length c1) := hcb
      obtain ⟨L, hL⟩ : ∃ L, x.bs.length = L := ⟨_, rfl⟩
      obtain ⟨K, hK⟩ : ∃ K, g1.length = K := ⟨_, rfl⟩
      obtain ⟨N, hN⟩ : ∃ N, (g1 ++ (⟨n, x, g, xbl⟩ : Gh) :: g2).length = N := ⟨_, rfl⟩
      have hKN : K < N := by rw [← hN, ← hK]; simp
      rw [hN] at hln hc0
      rw [hK] at hfi hce
      rw [hL] at hcb hxb
      have HL := Lib.hid hL
      have HK := Lib.hid hK
      have HN := Lib.hid hN
      subst hA
      by_cases hbad : z < 0 ∨ (L : Int) < z
      · have e : a.cut n z = (1, a) := by unfold Fs.cut; rw [if_neg hd', hgt]; simp only; rw [if_pos (by rw [hL]; exact hbad)]
        rw [e]
        clear e hd hd' hgt hL hK hN hxm
        by_cases hneg : z < 0
        all_goals
          go_enter Try.func50, Try.ntmps50
          go_wp2_with (go_at_call 84; refine hfi.mono ?_; rintro e w' ⟨rfl, rfl⟩)
          go_ret
          exact RDid.same hg 1
      · obtain ⟨m, rfl⟩ := Int.eq_ofNat_of_zero_le (show 0 ≤ z by omega)
        have hmL : m ≤ L := by omega
        have hb1 : ¬ ((m : Int) < 0 ∨ (x.bs.length : Int) < (m : Int)) := by rw [hL]; exact hbad
        by_cases hfz : a.fuse = 0
        · have e : a.cut n m = (9, a.fall) := by unfold Fs.cut; rw [if_neg hd', hgt]; simp only; rw [if_neg hb1, if_pos hfz]
          have hbu := burn_out w f _ a _ c _ hg hfz
          rw [e]
          clear e hd hd' hgt hfz hL hK hN hxm hb1 hbad
          go_enter Try.func50, Try.ntmps50
          go_wp2_with (first
            | (go_at_call 84; refine hfi.mono ?_; rintro e w' ⟨rfl, rfl⟩)
            | (go_at_call 85; refine hbu.mono ?_; rintro e w1 ⟨rfl, hg1, hT1⟩))
          go_ret
          exact RDid.mk_ hg1 9 hT1 rfl
        · have e : a.cut n m = (0, { a.burn with files := updF a.files n { ct x m with stamp := a.stamp + 1 }, room := a.room + (tk x - takes m), stamp := a.stamp + 1 }) := by
            unfold Fs.cut; rw [if_neg hd', hgt]; simp only; rw [if_neg hb1, if_neg hfz, Int.toNat_natCast]
          have hbu := burn_on w f _ a _ c _ hg hfz hok.fuse1 hok.fuse2
          have hfs := hg.2.1
          have hwt : (rawR x).wt.length ≤ 262144 := by rw [rawR_wt_len]; unfold tk takes; omega
          have hol : (rawR x).old.length = 64 * (rawR x).wt.length := by rw [rawR_wt_len, rawR_old_len hxo]
          have hcr : rawR (ct x m) = { sizeR (rawR x) m with wt := if m % 64 = 0 then (sizeR (rawR x) m).wt else (sizeR (rawR x) m).wt.set (m / 64) true, stamp := x.stamp } := cut_raw hxo (by rw [hL]; exact hmL) x.stamp
          have hswl : (sizeR (rawR x) m).wt.length = takes m := by
            show (((rawR x).wt ++ List.replicate (takes m - (rawR x).wt.length) false).take (takes m)).length = _
            rw [List.length_take, List.length_append, List.length_replicate]; omega
          have hst1 : a.burn.stamp < 4611686018427387904 := hst
          have htl : takes m ≤ tk x := by unfold tk takes; omega
          rw [e]
          have HFS := Lib.hid hfs
          have HCR := Lib.hid hcr
          have HWT := Lib.hid hwt
          have HOL := Lib.hid hol
          have HTL := Lib.hid htl
          obtain ⟨T, hT⟩ : ∃ T, takes m = T := ⟨_, rfl⟩
          have hTm : m % 64 ≠ 0 → m / 64 < T := fun h => by rw [← hT]; unfold takes; omega
          rw [hT] at hswl
          have HTT := Lib.hid hT
          clear e hd hd' hgt hfz hfs hL hK hN hxm hb1 hbad hg hcr hwt hol htl hT
          have hsz : ∀ w1, RFile w1 g n (rawR x) xbl → Calls Try.prog 88 #[.pointer (some ⟨g, 0, none⟩), .int .i64 m] w1 fun e w' => e = .returned (.tuple #[]) ∧ ∃ bl', RFile w' g n (sizeR (rawR x) m) bl' ∧ Turn xbl bl' w1 w' := fun w1 h1 => size_r w1 g n (rawR x) xbl m h1 (by show x.bs.length ≤ _; rw [HL.out]; omega) HWT.out HOL.out (by omega)
          have HSZ := Lib.hid hsz
          clear hsz
          by_cases h0 : m % 64 = 0
          · have h0i : (m : Int) % 64 = 0 := by omega
            go_enter Try.func50, Try.ntmps50
            go_wp2_with (first
              | (go_at_call 84; refine hfi.mono ?_; rintro e w' ⟨rfl, rfl⟩)
              | (go_at_call 85; refine hbu.mono ?_; rintro e w1 ⟨rfl, hg1, hT1⟩; obtain ⟨hd0, b', off', hA', hde⟩ := hg1.hold (x := ⟨n, x, g, xbl⟩) (Turn.refl _ w1); injection hA' with hA'; injection hA' with hA1 hA2 _; subst hA1; subst hA2; rw [HN.out] at hd0; rw [HK.out] at hde)
              | (go_at_call 88; refine (HSZ.out w1 (hg1.2.2.2.2 ⟨n, x, g, xbl⟩ (by simp))).mono ?_; rintro e w2 ⟨rfl, bl2, hf2, hT2⟩; have hup := hg1.upd (w' := w2) ⟨n, ct x m, g, bl2⟩ rfl (by rw [HCR.out, if_pos h0]; exact hf2) hT2 _ rfl)
              | (go_at_call 86; refine (stamped_is w2 f _ _ _ c g1 g2 n (ct x m) g bl2 hup.1 hst1).mono ?_; rintro e w4 ⟨rfl, hg4, hT4⟩))
            go_ret
            have e2 := upd_split (x := ⟨n, x, g, xbl⟩) hn1 hn2 { ct x m with stamp := a.stamp + 1 } bl2
            rw [← HFS.out] at e2
            have hg5 : RefG w4 f (most a) { a.burn with files := updF a.files n { ct x m with stamp := a.stamp + 1 }, room := a.room + (tk x - takes m), stamp := a.stamp + 1 } _ c (g1 ++ ⟨n, { ct x m with stamp := a.stamp + 1 }, g, bl2⟩ :: g2) := ⟨hg4.1, e2, hg4.2.2.1, hg4.2.2.2.1, hg4.2.2.2.2⟩
            have htc : tk ({ ct x m with stamp := a.stamp + 1 } : Fl) = takes m := by show takes (x.bs.take m).length = _; rw [List.length_take, HL.out, Nat.min_eq_left hmL]
            have hmo := most_grown (a := a) (a' := { a.burn with files := updF a.files n { ct x m with stamp := a.stamp + 1 }, room := a.room + (tk x - takes m), stamp := a.stamp + 1 }) HFS.out { ct x m with stamp := a.stamp + 1 } bl2 e2 (by rw [htc]; have := HTL.out; show a.room + (tk x - takes m) + takes m = a.room + tk x; omega)
            exact RDid.mk_ hg5 0 ((hT1.trans hup.2).trans hT4) hmo.symm
          · obtain ⟨ix, hix⟩ : ∃ ix, m / 64 = ix := ⟨_, rfl⟩
            have hixi : (m : Int) / 64 = (ix : Int) := by omega
            have h0i : (0 : Int) < (m : Int) % 64 := by omega
            have hixT : ix < T := by rw [← hix]; exact hTm h0
            have hTb : T ≤ 262144 := by have := HTT.out; unfold takes at this; omega
            have HIX := Lib.hid hix
            have HSWL := Lib.hid hswl
            clear hix hTm hswl
            go_enter Try.func50, Try.ntmps50
            go_wp2_with (first
              | (go_at_call 84; refine hfi.mono ?_; rintro e w' ⟨rfl, rfl⟩)
              | (go_at_call 85; refine hbu.mono ?_; rintro e w1 ⟨rfl, hg1, hT1⟩; obtain ⟨hd0, b', off', hA', hde⟩ := hg1.hold (x := ⟨n, x, g, xbl⟩) (Turn.refl _ w1); injection hA' with hA'; injection hA' with hA1 hA2 _; subst hA1; subst hA2; rw [HN.out] at hd0; rw [HK.out] at hde)
              | (go_at_call 88; refine (HSZ.out w1 (hg1.2.2.2.2 ⟨n, x, g, xbl⟩ (by simp))).mono ?_; rintro e w2 ⟨rfl, bl2, hf2, hT2⟩; obtain ⟨q, c3, hc3, hqb, hcq, hfzq, hstq⟩ := hf2.wt_at (i := ix) (by rw [HSWL.out]; exact hixT); rw [HSWL.out] at hc3; obtain ⟨w3, hw3⟩ : ∃ w3, w2.setCell ⟨q, ix, none⟩ (.bool true) = w3 := ⟨_, rfl⟩; have hf3 := hstq true; have hT3 := hT2.trans (Turn.but (But.put (i := ix) w2 (.bool true)) hqb); rw [hw3] at hf3 hT3; have hup := hg1.upd (w' := w3) ⟨n, ct x m, g, bl2⟩ rfl (by rw [HCR.out, if_neg h0, HIX.out]; exact hf3) hT3 _ rfl; clear hstq hf2 hT2)
              | (go_at_call 86; refine (stamped_is w3 f _ _ _ c g1 g2 n (ct x m) g bl2 hup.1 hst1).mono ?_; rintro e w4 ⟨rfl, hg4, hT4⟩))
            go_ret
            have e2 := upd_split (x := ⟨n, x, g, xbl⟩) hn1 hn2 { ct x m with stamp := a.stamp + 1 } bl2
            rw [← HFS.out] at e2
            have hg5 : RefG w4 f (most a) { a.burn with files := updF a.files n { ct x m with stamp := a.stamp + 1 }, room := a.room + (tk x - takes m), stamp := a.stamp + 1 } _ c (g1 ++ ⟨n, { ct x m with stamp := a.stamp + 1 }, g, bl2⟩ :: g2) := ⟨hg4.1, e2, hg4.2.2.1, hg4.2.2.2.1, hg4.2.2.2.2⟩
            have htc : tk ({ ct x m with stamp := a.stamp + 1 } : Fl) = takes m := by show takes (x.bs.take m).length = _; rw [List.length_take, HL.out, Nat.min_eq_left hmL]
            have hmo := most_grown (a := a) (a' := { a.burn with files := updF a.files n { ct x m with stamp := a.stamp + 1 }, room := a.room + (tk x - takes m), stamp := a.stamp + 1 }) HFS.out { ct x m with stamp := a.stamp + 1 } bl2 e2 (by rw [htc]; have := HTL.out; show a.room + (tk x - takes m) + takes m = a.room + tk x; omega)
            exact RDid.mk_ hg5 0 ((hT1.trans hup.2).trans hT4) hmo.symm
end Go.Proofs.Ytelghdfikcodmaa.vref
