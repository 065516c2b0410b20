/-
  The walk of the law VfsRoom. My own text.
-/
import Derived.Test.YtnmffiejfmdnkaaVfsWaits
import Derived.Laws.IdiomStrings
namespace Go.Proofs.Ytnmffiejfmdnkaa.vfsRoom
open Go.RowKit Go.Maps Go.Proofs.Ytnmffiejfmdnkaa.base Go.Proofs.Ytnmffiejfmdnkaa.vfsnum Go.Proofs.Ytnmffiejfmdnkaa.vfs
set_option linter.unusedVariables false

abbrev nth (i : Nat) : ByteArray := nm (UInt8.ofNat (97 + i))
theorem nth_right : ∀ i : Fin 20, rightB (nth i.1) = true := by decide
theorem nth_inj : ∀ i j : Fin 20, nth i.1 = nth j.1 → i = j := by decide
theorem mem_insF' (l : List (ByteArray × Fl)) (n : ByteArray) (x : Fl) : (n, x) ∈ insF l n x := (insF_perm l n x).mem_iff.2 (by simp)
theorem mem_updF {l : List (ByteArray × Fl)} {n : ByteArray} {x : Fl} {p : ByteArray × Fl} (h : p ∈ updF l n x) : p.1 = n ∨ p ∈ l := by
  unfold updF at h
  obtain ⟨q, hq, rfl⟩ := List.mem_map.1 h
  by_cases e : q.1 = n
  · rw [if_pos e]; exact .inl rfl
  · rw [if_neg e]; exact .inr hq
theorem full_up (w : World) (f : Nat) (l : List (ByteArray × Fl)) (r s : Nat) (n : ByteArray) (bl : List Nat) (x : Fl) (A : Option Addr) (m c : Nat) (bs : Bs) (h : FsAt w f (up l r s) bl) (hok : FsOk (up l r s)) (hs : s < 4611686018427387904) (hn : n.size ≤ maxLen) (hg : getF l n = some x) (hx : x.bs = [])
    (hr : RdA w bl A m (bs.map bv)) (hroom : r < takes bs.length) (hm : m ≤ 1073741824) (hc : m ≤ c) (hcm : c ≤ maxLen) :
    Calls Try.prog 17 #[fsPtr f, .string n, .int .i64 0, .slice A m c] w (Did w f bl (8, up l r s)) := by
  have := write_fs w f _ bl n 0 A m c bs h hok hs hn hr (by omega) (by omega) hm hc hcm
  have e : (up l r s).write n 0 bs = (8, up l r s) := by
    unfold Fs.write
    rw [if_neg (by simp), show (up l r s).files = l from rfl, hg]
    simp only
    rw [if_neg (by omega), if_pos (by unfold tk; rw [hx]; show r < takes (0 + bs.length) - takes 0; rw [Nat.zero_add]; unfold takes at *; omega)]
  rwa [e] at this

theorem getF_no {l : List (ByteArray × Fl)} {n : ByteArray} (h : ∀ p ∈ l, p.1 ≠ n) : getF l n = none := by
  cases hg : getF l n with
  | none => rfl
  | some x => exact absurd rfl (h _ (getF_some hg))
theorem Bk.rdA {w : World} {q : Nat} {t : TypeId} {xs : List Value} {S : List Nat} (h : Bk w q t xs) (hq : q ∉ S) : RdA w S (some ⟨q, 0, none⟩) xs.length xs :=
  ⟨rfl, fun _ => ⟨q, 0, rfl, h.inside, hq, fun j u hu => by rw [Nat.zero_add]; exact h.cell hu⟩⟩
theorem room_up (w : World) (f : Nat) (l : List (ByteArray × Fl)) (r s : Nat) (bl : List Nat) (h : FsAt w f (up l r s) bl) : Calls Try.prog 29 #[fsPtr f] w fun e w' => e = .returned (.int .i64 (r : Nat)) ∧ w = w' := room_any w f _ bl h
theorem nth_string (w : World) (i : Nat) (hi : i < 20) : (convert 29 9 (.slice (some ⟨w.heap.size, 0, none⟩) 1 1)).run Try.prog (w.alloc (.cells #[.int .u8 (97 + (i : Int))] 5)) = .ok (.string (nth i)) (w.alloc (.cells #[.int .u8 (97 + (i : Int))] 5)) := by
  refine run_convert_bytes_back (w.alloc (.cells #[.int .u8 (97 + (i : Int))] 5)) 29 9 5 ⟨w.heap.size, 0, none⟩ 1 [UInt8.ofNat (97 + i)] Try.underlying29 Try.underlying5 Try.underlying9 fun j hj => ?_
  have hj0 : j = 0 := by simpa using hj
  subst hj0
  have hb := (Bk.made w 5 #[.int .u8 (97 + (i : Int))]).cell (i := 0) rfl
  have e : ((([UInt8.ofNat (97 + i)] : List UInt8)[0]'hj).toNat : Int) = 97 + (i : Int) := by
    show (((UInt8.ofNat (97 + i)).toNat : Nat) : Int) = _
    rw [UInt8.toNat_ofNat_of_lt' (by show 97 + i < 256; omega)]
    omega
  rw [e]
  exact hb
theorem zeros_bv (N : Nat) : (List.replicate N (0 : UInt8)).map bv = List.replicate N (.int .u8 0) := by rw [List.map_replicate]; rfl

set_option maxRecDepth 100000 in
set_option maxHeartbeats 2000000 in
theorem vfsRoom_walk (a0 : Int) (A1 : Option Addr) (n1 c1 : Nat) (z1 : List Int) (w : World) (w0 : (Lit.int .u8 a0).wf = true) (r1 : InRow .u16 w A1 n1 c1 z1) :
    Calls Try.prog 7 #[.int .u8 a0, .slice A1 n1 c1] w fun e w' => e = .returned (.bool true) ∧ Below w.heap.size w w' := by
  obtain ⟨i0, hi0, hz0, hz1, hz2⟩ := info_parts byte_info
  have h0 : 0 ≤ a0 ∧ a0 ≤ 255 := by simpa [Lit.wf, IntKind.min, IntKind.max, IntKind.signed, IntKind.bits] using w0
  obtain ⟨sec, rfl⟩ := Int.eq_ofNat_of_zero_le h0.1
  have hsec : sec ≤ 255 := by omega
  obtain ⟨r1, hc1, hm1, hwf⟩ := r1
  clear w0 h0
  by_cases hl : 20 < n1
  · go_enter Try.func7, Try.ntmps7
    go_wp2_with (go_at_call 9; refine (wakes_any _).mono ?_; rintro e wA ⟨rfl, hfA⟩)
    all_goals go_ret
    all_goals exact ⟨rfl, hfA⟩
  · have hzl : z1.length = n1 := by have := r1.1; rwa [List.length_map] at this
    have HZL := Lib.hid hzl
    have HWF := Lib.hid hwf
    have HR1 := Lib.hid r1
    clear hzl hwf r1
    go_enter Try.func7, Try.ntmps7
    go_wp2_with (first
      | (go_at_call 9; refine (wakes_any _).mono ?_; rintro e wA ⟨rfl, hfA⟩)
      | (go_at_call 11; refine (new_up _ (1 + (sec : Int)) (1 + sec) (by omega) (by omega) (by omega)).mono ?_; rintro e w1 ⟨f, bl, rfl, hF, hf1, hnew⟩; have hS : Since w w1 bl := ⟨hfA.trans hf1, fun i hi => Nat.le_trans hfA.size (hnew i hi)⟩))
    have ok0 : FsOk (up [] (1 + sec) 0) := new_ok _ (by omega)
    go_loopw [7, 26] (fun tu ti wr => ∃ (i u r s : Nat) (l : List (ByteArray × Fl)) (bl : List Nat), ti = .int .i64 i ∧ tu = .int .i64 u ∧ i ≤ n1 ∧ Hid (u + r = 1 + sec) ∧ u ≤ 1 + sec ∧ Hid (s ≤ 2 * i) ∧ FsAt wr f (up l r s) bl ∧ Hid (FsOk (up l r s)) ∧ Hid (∀ p ∈ l, ∃ j, j < i ∧ p.1 = nth j) ∧ Since w wr bl) (fun _ t _ => n1 - (intOf t).toNat)
    case atStart => exact ⟨0, 0, 1 + sec, 0, [], bl, rfl, rfl, Nat.zero_le _, by show _ = _; omega, by omega, Nat.le_refl _, hF, ok0, fun p hp => (by cases hp), hS⟩
    case round =>
      clear hF ok0 hS
      obtain ⟨i, u, r, s, l, bl, rfl, rfl, hi, hur, hu, hs, hF, hok, hnms, hS⟩ := hrel
      by_cases hlt : i < n1
      · obtain ⟨b, off, z, rfl, _, hz, hcz⟩ := (HR1.out.below hS.1 (Nat.le_refl _)).at_ hlt
        have hzw := HWF.out z (List.mem_of_getElem? hz)
        have hz2 : 0 ≤ z ∧ z ≤ 65535 := by simpa [Lit.wf, IntKind.min, IntKind.max, IntKind.signed, IntKind.bits] using hzw
        obtain ⟨N, rfl⟩ := Int.eq_ofNat_of_zero_le hz2.1
        have hN : N ≤ 65535 := by omega
        have hi20 : i < 20 := by omega
        have hcv := nth_string wr i hi20
        have hrt := nth_right ⟨i, hi20⟩
        have hgn : getF l (nth i) = none := getF_no fun p hp e => by
          obtain ⟨j, hj, hpj⟩ := hnms.out p hp
          rw [hpj] at e
          have := nth_inj ⟨j, by omega⟩ ⟨i, hi20⟩ e
          injection this with this
          omega
        have hc1 := create_up (wr.alloc (.cells #[.int .u8 (97 + (i : Int))] 5)) f l _ r s (nth i) bl (hF.fresh (Fresh.alloc _ _)) hok.out (by have := hs.out; omega) hrt hgn rfl
        have OK2 : Hid (FsOk (up (insF l (nth i) ⟨[], s + 1, noOld⟩) r (s + 1))) := up_create_ok hok.out hrt hgn rfl
        have HG2 : Hid (getF (insF l (nth i) ⟨[], s + 1, noOld⟩) (nth i) = some ⟨[], s + 1, noOld⟩) := getF_mem (apart_of_sorted OK2.out.sorted) (mem_insF' _ _ _)
        have HNM : Hid (∀ p ∈ insF l (nth i) ⟨[], s + 1, noOld⟩, ∃ j, j < i + 1 ∧ p.1 = nth j) := fun p hp => by
          rcases mem_insF hp with rfl | hp
          · exact ⟨i, by omega, rfl⟩
          · obtain ⟨j, hj, e⟩ := hnms.out p hp
            exact ⟨j, by omega, e⟩
        have HSA := Lib.hid (hS.fresh (Fresh.alloc wr (.cells #[.int .u8 (97 + (i : Int))] 5)))
        clear hz2 hzw hz hrt hgn hnms
        by_cases hfit : takes N ≤ r
        · have hfact : (u : Int) + ((N : Int) + 63) / 64 ≤ 1 + sec := by have := hur.out; unfold takes at hfit; omega
          go_wp2_with (first
            | (go_at_call 16; (with_reducible refine hc1.mono ?_); rintro e w3 ⟨rfl, bl3, hF3, hT3⟩; clear hc1 hcv; have hS3 := HSA.out.turn hT3)
            | (at_make; refine wpList_make_blk rfl 29 (.tmp 47) (.tmp 47) rfl 5 i0 _ Try.underlying29 hi0 hz0 hz1 rfl N rfl rfl (by rw [hz2]; omega) (by unfold maxLen; omega) w3.heap.size rfl ?_; intro w4 hb4 hf4; have hF4 := hF3.fresh hf4; have hS4 := hS3.fresh hf4;
                have hc2 := put_any w4 f _ _ _ (nth i) bl3 ⟨[], s + 1, noOld⟩ (some ⟨w3.heap.size, 0, none⟩) N N (List.replicate N 0) hF4 OK2.out (by have := hs.out; omega) (nm_le _) HG2.out rfl (by rw [zeros_bv]; have := Bk.rdA hb4 (S := bl3) (fun h => by have := hF3.inside _ h; omega); rwa [List.length_replicate] at this) (by rw [List.length_replicate]; exact hfit) (Nat.le_refl _) (by unfold maxLen; omega))
            | (go_at_call 17; refine hc2.mono ?_; rintro e w5 ⟨rfl, y, r5, s5, bl5, hF5, hT5, ok5, hy, hr5, hs5⟩; clear hc2; rw [List.length_replicate] at hr5; have hS5 := hS4.turn hT5; have OK5 := Lib.hid ok5; have HR5 := Lib.hid hr5; have HS5 := Lib.hid hs5; clear ok5 hy hr5 hs5;
                have hfact2 : (r5 : Int) = 1 + sec - (u + ((N : Int) + 63) / 64) := (by have h1 := HR5.out; have h2 := hur.out; unfold takes at h1; omega); have hc3 := room_up w5 f _ _ _ bl5 hF5)
            | (go_at_call 29; (with_reducible refine hc3.mono ?_); rintro e w' ⟨rfl, rfl⟩; clear hc3))
          go_roundw
          case rel =>
            refine ⟨i + 1, u + takes N, r5, s5, _, bl5, by go_num, congrArg (Value.int .i64) (by unfold takes; omega), by omega, ?_, ?_, ?_, hF5, OK5.out, fun p hp => ?_, hS5⟩
            · have h1 := HR5.out; have h2 := hur.out; show _ = _; omega
            · have h1 := HR5.out; have h2 := hur.out; omega
            · have h1 := HS5.out; have h2 := hs.out; show _ ≤ _; omega
            · rcases mem_updF hp with e | hp
              · exact ⟨i, by omega, e⟩
              · exact HNM.out p hp
          case measure => simp [intOf]; omega
        · have hfact : ¬ ((u : Int) + ((N : Int) + 63) / 64 ≤ 1 + sec) := by have := hur.out; unfold takes at hfit; omega
          have hfact2 : (r : Int) = 1 + sec - u := by have := hur.out; omega
          go_wp2_with (first
            | (go_at_call 16; (with_reducible refine hc1.mono ?_); rintro e w3 ⟨rfl, bl3, hF3, hT3⟩; clear hc1 hcv; have hS3 := HSA.out.turn hT3)
            | (at_make; refine wpList_make_blk rfl 29 (.tmp 47) (.tmp 47) rfl 5 i0 _ Try.underlying29 hi0 hz0 hz1 rfl N rfl rfl (by rw [hz2]; omega) (by unfold maxLen; omega) w3.heap.size rfl ?_; intro w4 hb4 hf4; have hF4 := hF3.fresh hf4; have hS4 := hS3.fresh hf4;
                have hc2 := full_up w4 f _ _ _ (nth i) bl3 ⟨[], s + 1, noOld⟩ (some ⟨w3.heap.size, 0, none⟩) N N (List.replicate N 0) hF4 OK2.out (by have := hs.out; omega) (nm_le _) HG2.out rfl (by rw [zeros_bv]; have := Bk.rdA hb4 (S := bl3) (fun h => by have := hF3.inside _ h; omega); rwa [List.length_replicate] at this) (by rw [List.length_replicate]; omega) (by omega) (Nat.le_refl _) (by unfold maxLen; omega))
            | (go_at_call 17; refine hc2.mono ?_; rintro e w5 ⟨rfl, bl5, hF5, hT5⟩; clear hc2; have hS5 := hS4.turn hT5; have hc3 := room_up w5 f _ _ _ bl5 hF5; have hc4 := len_some w5 f _ bl5 (nth i) ⟨[], s + 1, noOld⟩ hF5 (nm_le _) rfl HG2.out)
            | (go_at_call 22; refine hc4.mono ?_; rintro e w' ⟨rfl, rfl⟩; clear hc4)
            | (go_at_call 29; (with_reducible refine hc3.mono ?_); rintro e w' ⟨rfl, rfl⟩; clear hc3))
          go_roundw
          case rel =>
            refine ⟨i + 1, u, r, s + 1, _, bl5, by go_num, rfl, by omega, hur.out, hu, ?_, hF5, OK2.out, HNM.out, hS5⟩
            have h2 := hs.out; show _ ≤ _; omega
          case measure => simp [intOf]; omega
      · go_wp2
        go_ret
        exact ⟨rfl, hS.1⟩
end Go.Proofs.Ytnmffiejfmdnkaa.vfsRoom
