/-
  The contracts of the store's find, burn, mark, right, remove. My own text.
-/
import Derived.Test.YtelghdfikcodmaaVfsFs
namespace Go.Proofs.Ytelghdfikcodmaa.vfs
open Go.RowKit Go.Maps Go.Proofs.Ytelghdfikcodmaa.base Go.Proofs.Ytelghdfikcodmaa.vfsnum
set_option linter.unusedVariables false

theorem ptrZero (w : World) : (zeroValue 99).run Try.prog w = .ok (.pointer none) w := by kernel_rfl
theorem Gh.kv_mem {x : Gh} {gs : List Gh} (h : x ∈ gs) : (Value.string x.name, Value.pointer (some ⟨x.g, 0, none⟩)) ∈ gs.map Gh.kv := List.mem_map.2 ⟨x, h, rfl⟩
theorem Gh.kv_miss {n : ByteArray} {gs : List Gh} (h : ∀ x ∈ gs, x.name ≠ n) : ∀ p ∈ gs.map Gh.kv, p.1 ≠ .string n := by
  intro p hp
  obtain ⟨x, hx, rfl⟩ := List.mem_map.1 hp
  intro e
  injection e with e
  exact h x hx e

theorem find_nil (s : ByteArray) (w : World) : Calls Try.prog 74 #[.pointer none, .string s] w fun e w' => e = .returned (.tuple #[.pointer none, .int .i64 2]) ∧ w = w' := by
  go_enter Try.func74, Try.ntmps74
  go_wp2_with (go_at_call 69; refine (state_nil _).mono ?_; rintro e w' ⟨rfl, rfl⟩)
  go_ret2
  exact ⟨rfl, rfl⟩
theorem find_down (s : ByteArray) (w : World) (f : Nat) (a : Fs) (mb : Nat) (gs : List Gh) (h : FsG w f a mb gs) (hd : a.down = true) :
    Calls Try.prog 74 #[fsPtr f, .string s] w fun e w' => e = .returned (.tuple #[.pointer none, .int .i64 9]) ∧ w = w' := by
  have hs := state_any w f a mb gs h
  rw [hd] at hs
  clear hd
  go_enter Try.func74, Try.ntmps74
  go_wp2_with (go_at_call 69; refine hs.mono ?_; rintro e w' ⟨rfl, rfl⟩)
  go_ret2
  exact ⟨rfl, rfl⟩
theorem find_hit (x : Gh) (w : World) (f : Nat) (a : Fs) (mb : Nat) (gs : List Gh) (h : FsG w f a mb gs) (hd : a.down = false) (hx : x ∈ gs) (hl : x.name.size ≤ maxLen) :
    Calls Try.prog 74 #[fsPtr f, .string x.name] w fun e w' => e = .returned (.tuple #[.pointer (some ⟨x.g, 0, none⟩), .int .i64 0]) ∧ w = w' := by
  have hs := state_any w f a mb gs h
  rw [hd] at hs
  have h0 : w.cell? ⟨f, 0, none⟩ = some (.map (some mb)) := h.2.2.1.cell rfl
  have hm := h.2.2.2.1
  clear hd
  go_enter Try.func74, Try.ntmps74
  go_wp2_with (first
    | (go_at_call 69; refine hs.mono ?_; rintro e w' ⟨rfl, rfl⟩)
    | (at_lookup; refine wpList_look_hit _ rfl _ _ 71 rfl 9 99 strKey Try.underlying71 mb _ rfl hm _ _ _ rfl (key_str x.name hl) (Gh.kv_mem hx) ?_))
  go_ret2
  exact ⟨rfl, rfl⟩
theorem find_miss (n : ByteArray) (w : World) (f : Nat) (a : Fs) (mb : Nat) (gs : List Gh) (h : FsG w f a mb gs) (hd : a.down = false) (hx : ∀ x ∈ gs, x.name ≠ n) (hl : n.size ≤ maxLen) :
    Calls Try.prog 74 #[fsPtr f, .string n] w fun e w' => e = .returned (.tuple #[.pointer none, .int .i64 6]) ∧ w = w' := by
  have hs := state_any w f a mb gs h
  rw [hd] at hs
  have h0 : w.cell? ⟨f, 0, none⟩ = some (.map (some mb)) := h.2.2.1.cell rfl
  have hm := h.2.2.2.1
  clear hd
  go_enter Try.func74, Try.ntmps74
  go_wp2_with (first
    | (go_at_call 69; refine hs.mono ?_; rintro e w' ⟨rfl, rfl⟩)
    | (at_lookup; refine wpList_look_miss _ rfl _ _ 71 rfl 9 99 strKey Try.underlying71 _ (ptrZero _) mb _ rfl hm _ _ rfl (key_str n hl) (Gh.kv_miss hx) ?_))
  go_ret2
  exact ⟨rfl, rfl⟩

theorem burn_out (w : World) (f : Nat) (a : Fs) (mb : Nat) (gs : List Gh) (h : FsG w f a mb gs) (h0 : a.fuse = 0) :
    Calls Try.prog 71 #[fsPtr f] w fun e w' => e = .returned (.int .i64 9) ∧ FsG w' f a.fall mb gs ∧ Turn (fsBlocks f mb gs) (fsBlocks f mb gs) w w' := by
  have h3 : w.cell? ⟨f, 3, none⟩ = some (.int .i64 0) := h0 ▸ h.2.2.1.cell rfl
  have h4 : w.cell? ⟨f, 4, none⟩ = some (.bool a.down) := h.2.2.1.cell rfl
  have hf := h.2.2.1.free 4
  have hp := h.put 4 (.bool true) a.fall rfl rfl
  have HP := Lib.hid hp
  clear hp h0
  go_enter Try.func71, Try.ntmps71
  go_wp2
  go_ret
  exact ⟨rfl, HP.out⟩
theorem burn_on (w : World) (f : Nat) (a : Fs) (mb : Nat) (gs : List Gh) (h : FsG w f a mb gs) (h0 : a.fuse ≠ 0) (h1 : -1 ≤ a.fuse) (h2 : a.fuse ≤ 9223372036854775807) :
    Calls Try.prog 71 #[fsPtr f] w fun e w' => e = .returned (.int .i64 0) ∧ FsG w' f a.burn mb gs ∧ Turn (fsBlocks f mb gs) (fsBlocks f mb gs) w w' := by
  have h3 : w.cell? ⟨f, 3, none⟩ = some (.int .i64 a.fuse) := h.2.2.1.cell rfl
  have hf := h.2.2.1.free 3
  have hz : (a.fuse == 0) = false := by rw [beq_eq_false_iff_ne]; exact h0
  by_cases hpos : 0 < a.fuse
  · have hp := h.put 3 (.int .i64 (a.fuse - 1)) a.burn rfl (by simp [Fs.burn, hpos])
    have HP := Lib.hid hp
    clear hp
    go_enter Try.func71, Try.ntmps71
    go_wp2
    go_ret
    exact ⟨rfl, HP.out⟩
  · have hb : a.burn = a := by unfold Fs.burn; rw [if_neg hpos]
    have HB := Lib.hid hb
    clear hb
    go_enter Try.func71, Try.ntmps71
    go_wp2
    go_ret
    exact ⟨rfl, by rw [HB.out]; exact h, Turn.refl _ _⟩
theorem mark_any (w : World) (f : Nat) (a : Fs) (mb : Nat) (g1 g2 : List Gh) (x : Gh) (h : FsG w f a mb (g1 ++ x :: g2)) (hs : a.stamp < 4611686018427387904) (a' : Fs)
    (ha : a' = { a with stamp := a.stamp + 1, files := (g1 ++ { x with fl := { x.fl with stamp := a.stamp + 1 } } :: g2).map Gh.fst }) :
    Calls Try.prog 73 #[fsPtr f, .pointer (some ⟨x.g, 0, none⟩)] w fun e w' => e = .returned (.tuple #[]) ∧ FsG w' f a' mb (g1 ++ { x with fl := { x.fl with stamp := a.stamp + 1 } } :: g2) ∧ Turn (fsBlocks f mb (g1 ++ x :: g2)) (fsBlocks f mb (g1 ++ x :: g2)) w w' := by
  have h2 : w.cell? ⟨f, 2, none⟩ = some (.int .i64 a.stamp) := h.2.2.1.cell rfl
  have hf := h.2.2.1.free 2
  have hr := h.2.2.2.2 x (by simp)
  have h1 : ∃ v, w.cell? ⟨x.g, 1, none⟩ = some v := by
    obtain ⟨wb, A, c, kv, sb, _, _, hb, _⟩ := hr
    exact ⟨_, hb.cell (i := 1) rfl⟩
  have hxf : w.frozen? ⟨x.g, 1, none⟩ = false := by
    obtain ⟨wb, A, c, kv, sb, _, _, hb, _⟩ := hr
    exact hb.free 1
  have hne : x.g ≠ f := by
    rintro e
    obtain ⟨wb, A, c, kv, sb, hbl, _⟩ := hr
    have := (List.nodup_cons.1 h.1).1
    apply this
    simp only [List.mem_cons, List.mem_flatMap]
    exact .inr ⟨x, by simp, by rw [hbl, e]; simp⟩
  obtain ⟨v, h1⟩ := h1
  have hp := h.put 2 (.int .i64 ((a.stamp + 1 : Nat) : Int)) { a with stamp := a.stamp + 1 } rfl rfl
  have hr' := (hp.1.2.2.2.2 x (by simp)).mark (a.stamp + 1)
  have hT : Turn x.bl x.bl (w.setCell ⟨f, 2, none⟩ (.int .i64 ((a.stamp + 1 : Nat) : Int))) ((w.setCell ⟨f, 2, none⟩ (.int .i64 ((a.stamp + 1 : Nat) : Int))).setCell ⟨x.g, 1, none⟩ (.int .i64 ((a.stamp + 1 : Nat) : Int))) :=
    Turn.but (But.put _ _) (by obtain ⟨wb, A, c, kv, sb, hbl, _⟩ := hr; rw [hbl]; simp)
  have hfin := hp.1.upd { x.fl with stamp := a.stamp + 1 } x.bl hr' hT a' ha
  have e1 : ((a.stamp : Int) + 1) = ((a.stamp + 1 : Nat) : Int) := by omega
  have HE := Lib.hid e1
  clear e1
  have HF := Lib.hid hfin
  have HT := Lib.hid (hp.2.trans hfin.2)
  clear hfin hT hr' hp ha hr
  go_enter Try.func73, Try.ntmps73
  go_wp2
  go_end0
  rw [HE.out]
  have eb : fsBlocks f mb (g1 ++ { x with fl := { x.fl with stamp := a.stamp + 1 } } :: g2) = fsBlocks f mb (g1 ++ x :: g2) := by simp [fsBlocks]
  exact ⟨rfl, HF.out.1, eb ▸ HT.out⟩

theorem ret_bool {a b : Bool} (h : a = b) : Ending.returned (.bool a) = .returned (.bool b) := by rw [h]
set_option maxHeartbeats 1000000 in
theorem rightN_any (n : Nat) (w : World) (hn : n < 256) : Calls Try.prog 91 #[.int .u8 n] w fun e w' => e = .returned (.bool (okN n)) ∧ w = w' := by
  go_enter Try.func91, Try.ntmps91
  go_wp2
  all_goals
    go_ret
    exact ⟨ret_bool (by rw [Bool.eq_iff_iff]; unfold okN; simp; try omega), rfl⟩
theorem rightByte_any (c : UInt8) (w : World) (v : Int) (hv : v = (c.toNat : Nat)) : Calls Try.prog 91 #[.int .u8 v] w fun e w' => e = .returned (.bool (okByte c)) ∧ w = w' := by
  subst hv
  exact rightN_any c.toNat w (by have := c.toNat_lt; omega)
theorem right_any (s : ByteArray) (w : World) (hs : s.size ≤ maxLen) : Calls Try.prog 70 #[.string s] w fun e w' => e = .returned (.bool (rightB s)) ∧ w = w' := by
  unfold maxLen at hs
  by_cases h1 : s.size < 1
  · have e : rightB s = false := by unfold rightB; simp; omega
    rw [e]
    clear e
    go_enter Try.func70, Try.ntmps70
    go_wp2
    all_goals go_ret
    all_goals exact ⟨rfl, rfl⟩
  · by_cases h2 : 24 < s.size
    · have e : rightB s = false := by unfold rightB; simp; omega
      rw [e]
      clear e
      go_enter Try.func70, Try.ntmps70
      go_wp2
      all_goals go_ret
      all_goals exact ⟨rfl, rfl⟩
    · have e : rightB s = s.data.toList.all okByte := by unfold rightB; simp; omega
      have E := Lib.hid e
      clear e
      have d1 : decide ((s.size : Int) < 1) = false := by simp; omega
      have d2 : decide ((24 : Int) < (s.size : Int)) = false := by simp; omega
      go_enter Try.func70, Try.ntmps70
      go_wp2
      go_loop [14] (fun t => ∃ k : Nat, k ≤ s.size ∧ t = .int .i64 k ∧ Hid ((s.data.toList.take k).all okByte = true)) (fun t => s.size - (intOf t).toNat)
      case atStart => exact ⟨0, Nat.zero_le _, rfl, rfl⟩
      case round =>
        obtain ⟨k, hk, rfl, hall⟩ := hrel
        by_cases hlt : k < s.size
        · have ht : s.data.toList.take (k + 1) = s.data.toList.take k ++ [s[k]] := by
            rw [List.take_succ_eq_append_getElem (by simpa using hlt)]; rfl
          have hsplit : s.data.toList = s.data.toList.take k ++ (s[k] :: s.data.toList.drop (k + 1)) := by
            have := List.take_append_drop (k + 1) s.data.toList
            rw [ht, List.append_assoc] at this
            exact this.symm
          cases hb : okByte s[k] with
          | true =>
            have HT := Lib.hid (show (s.data.toList.take (k + 1)).all okByte = true by rw [ht, List.all_append, hall.out]; simp [hb])
            have hc : ∀ (w : World) (v : Int), v = ((s[k]).toNat : Nat) → Calls Try.prog 91 #[.int .u8 v] w fun e w' => e = .returned (.bool (okByte (s[k]))) ∧ w = w' := fun w v hv => rightByte_any _ w v hv
            rw [hb] at hc
            clear ht hsplit hb
            go_wp2_with (go_at_call 91; refine (hc _ _ rfl).mono ?_; rintro e w' ⟨rfl, rfl⟩)
            go_round
            case rel => exact ⟨k + 1, by omega, by go_num, HT.out⟩
            case measure => simp [intOf]; omega
          | false =>
            have HT := Lib.hid (show s.data.toList.all okByte = false by rw [hsplit, List.all_append]; simp [hb])
            have hc : ∀ (w : World) (v : Int), v = ((s[k]).toNat : Nat) → Calls Try.prog 91 #[.int .u8 v] w fun e w' => e = .returned (.bool (okByte (s[k]))) ∧ w = w' := fun w v hv => rightByte_any _ w v hv
            rw [hb] at hc
            clear ht hsplit hb
            go_wp2_with (go_at_call 91; refine (hc _ _ rfl).mono ?_; rintro e w' ⟨rfl, rfl⟩)
            go_ret
            exact ⟨ret_bool (by rw [E.out]; exact HT.out.symm), rfl⟩
        · have hk2 : k = s.size := by omega
          have HT := Lib.hid (show s.data.toList.all okByte = true by have := hall.out; rwa [List.take_of_length_le (by simp; omega)] at this)
          go_wp2
          go_ret
          exact ⟨ret_bool (by rw [E.out]; exact HT.out.symm), rfl⟩
end Go.Proofs.Ytelghdfikcodmaa.vfs
