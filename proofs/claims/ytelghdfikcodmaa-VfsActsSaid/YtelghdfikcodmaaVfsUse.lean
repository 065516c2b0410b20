/-
  The store's calls as the statements use them; the reference's Same; wakes. My own text.
-/
import Derived.Test.YtelghdfikcodmaaVfsOk
import Derived.Lib.SmallJoins
namespace Go.Proofs.Ytelghdfikcodmaa.vfs
open Go.RowKit Go.Maps Go.Proofs.Ytelghdfikcodmaa.base Go.Proofs.Ytelghdfikcodmaa.vfsnum
set_option linter.unusedVariables false

/-- the reference's Same, of two that are alike -/
theorem same_yes (A D : Option Addr) (n c d : Nat) (xs : List UInt8) (w : World) (B B' : Nat) (ha : Rd w B A n (xs.map bv)) (hd : Rd w B' D n (xs.map bv)) (hn : n ≤ maxLen) :
    Calls Try.prog 37 #[.slice A n c, .slice D n d] w fun e w' => e = .returned (.bool true) ∧ Fresh w w' := by
  unfold maxLen at hn
  go_enter Try.func37, Try.ntmps37
  go_wp2
  go_loopw [5] (fun i wr => ∃ (k q : Nat), k ≤ n ∧ i = .int .i64 k ∧ wr = w.drewN q) (fun i _ => n - (intOf i).toNat)
  case atStart => exact ⟨0, 0, by omega, rfl, rfl⟩
  case round =>
    obtain ⟨k, q, hk, rfl, rfl⟩ := hrel
    by_cases hlt : k < n
    · obtain ⟨b, off, x, rfl, hb, hx, hcx⟩ := ha.at_ hlt
      obtain ⟨b', off', x', rfl, hb', hx', hcx'⟩ := hd.at_ hlt
      have e : x = x' := by rw [hx] at hx'; injection hx'
      subst e
      clear hx hx' ha hd
      go_wp2
      go_quiet (fail)
      go_wp2
      go_roundw
      case rel => exact ⟨k + 1, _, by omega, by go_num, rfl⟩
      case measure => simp [intOf]; omega
    · go_wp2
      go_ret
      exact ⟨rfl, Fresh.drewN _ _⟩
theorem RdA.lit {S : List Nat} {w : World} (cs : Array Value) (t : TypeId) (fr : Nat × Nat) (hS : ∀ b ∈ S, b < w.heap.size) : RdA (w.alloc (.cells cs t fr)) S (some ⟨w.heap.size, 0, none⟩) cs.size cs.toList := by
  refine ⟨by simp, fun hn => ⟨w.heap.size, 0, rfl, by simp, fun h => by have := hS _ h; omega, fun j u hu => ?_⟩⟩
  rw [Nat.zero_add, cell_of_row (w.alloc (.cells cs t fr)) w.heap.size j cs t fr (heap_alloc_new w _)]
  simpa using hu
def Since (w w' : World) (S : List Nat) : Prop := Fresh w w' ∧ ∀ i ∈ S, w.heap.size ≤ i
theorem Since.mk_ {w w' : World} {S : List Nat} (h : Fresh w w') (k : ∀ i ∈ S, w.heap.size ≤ i) : Since w w' S := ⟨h, k⟩
theorem Since.turn {w a b : World} {S S' : List Nat} (h : Since w a S) (k : Turn S S' a b) : Since w b S' := ⟨k.new h.1 h.2, k.new_sub h.1 h.2⟩
theorem Since.fresh {w a b : World} {S : List Nat} (h : Since w a S) (k : Fresh a b) : Since w b S := ⟨h.1.trans k, h.2⟩
abbrev nm (c : UInt8) : ByteArray := ⟨#[c]⟩
theorem nm_le (c : UInt8) : (nm c).size ≤ maxLen := by unfold maxLen; show 1 ≤ _; omega

theorem new_up (w : World) (n : Int) (r : Nat) (h : max 1 (min n 65536) = (r : Nat)) (h1 : -9223372036854775808 ≤ n) (h2 : n ≤ 9223372036854775807) :
    Calls Try.prog 11 #[.int .i64 n] w (NewAt w (up [] r 0)) := by
  have := New_any n w h1 h2
  rwa [h] at this
theorem create_up (w : World) (f : Nat) (l l' : List (ByteArray × Fl)) (r s : Nat) (n : ByteArray) (bl : List Nat) (h : FsAt w f (up l r s) bl) (hok : FsOk (up l r s)) (hs : s < 4611686018427387904) (hn : rightB n = true) (hg : getF l n = none) (hl : insF l n ⟨[], s + 1, noOld⟩ = l') :
    Calls Try.prog 39 #[fsPtr f, .string n] w (Did w f bl (0, up l' r (s + 1))) := by
  have := create_any w f _ bl n h hok hs (by have := (right_size hn).2; unfold maxLen; omega)
  rwa [up_create hn hg, hl] at this
theorem write_up (w : World) (f : Nat) (l l' : List (ByteArray × Fl)) (r r' s s' : Nat) (n : ByteArray) (bl : List Nat) (x : Fl) (t : Nat) (A : Option Addr) (m c : Nat) (bs : Bs) (h : FsAt w f (up l r s) bl) (hok : FsOk (up l r s)) (hs : s < 4611686018427387904) (hn : n.size ≤ maxLen) (hg : getF l n = some x)
    (hr : RdA w bl A m (bs.map bv)) (ht : t ≤ x.bs.length) (hroom : takes (t + bs.length) - tk x ≤ r) (hb : bs.length ≠ 0) (hc : m ≤ c) (hcm : c ≤ maxLen)
    (hl : updF l n { wrt x t bs with stamp := s + 1 } = l') (hr' : r - (takes (t + bs.length) - tk x) = r') (hs' : s + 1 = s') :
    Calls Try.prog 40 #[fsPtr f, .string n, .int .i64 t, .slice A m c] w (Did w f bl (0, up l' r' s')) := by
  have hx := (hok.fls (n, x) (getF_some hg)).1
  have hrs := sum_tk hok hg
  have hrs' : r + tk x ≤ 65536 := hrs
  have hm : bs.length = m := by have := hr.1; rwa [List.length_map] at this
  have := write_fs w f _ bl n t A m c bs h hok hs hn hr (by omega) (by have : x.bs.length ≤ 4194304 := hx; omega) (by unfold takes tk at *; omega) hc hcm
  rwa [up_write hg ht hroom hb, hl, hr', hs'] at this
theorem write_up0 (w : World) (f : Nat) (l : List (ByteArray × Fl)) (r s : Nat) (n : ByteArray) (bl : List Nat) (x : Fl) (t : Nat) (A : Option Addr) (c : Nat) (h : FsAt w f (up l r s) bl) (hok : FsOk (up l r s)) (hs : s < 4611686018427387904) (hn : n.size ≤ maxLen) (hg : getF l n = some x)
    (ht : t ≤ x.bs.length) (hcm : c ≤ maxLen) :
    Calls Try.prog 40 #[fsPtr f, .string n, .int .i64 t, .slice A 0 c] w (Did w f bl (0, up l r s)) := by
  have hx := (hok.fls (n, x) (getF_some hg)).1
  have := write_fs w f _ bl n t A 0 c [] h hok hs hn ⟨rfl, fun h => absurd h (by omega)⟩ (by omega) (by have : x.bs.length ≤ 4194304 := hx; omega) (by omega) (by omega) hcm
  rwa [up_write0 hg ht rfl] at this
theorem sync_up (w : World) (f : Nat) (l l' : List (ByteArray × Fl)) (r s : Nat) (n : ByteArray) (bl : List Nat) (x : Fl) (h : FsAt w f (up l r s) bl) (hok : FsOk (up l r s)) (hn : n.size ≤ maxLen) (hg : getF l n = some x) (hl : updF l n { x with old := noOld } = l') :
    Calls Try.prog 46 #[fsPtr f, .string n] w (Did w f bl (0, up l' r s)) := by
  have := sync_fs w f _ bl n h hok hn
  rwa [up_sync hg, hl] at this
theorem crash_up (w : World) (f : Nat) (l l' : List (ByteArray × Fl)) (r s keep : Nat) (bl : List Nat) (h : FsAt w f (up l r s) bl) (hok : FsOk (up l r s)) (hlen : l.length ≤ 1048576) (hkeep : keep < 18446744073709551616) (hl : crF keep l 0 = l') :
    Calls Try.prog 41 #[fsPtr f, .int .u64 keep] w (Did0 w f bl (up l' r s)) := by
  have := crash_fs w f _ bl keep h hok hlen hkeep
  rwa [up_crash, hl] at this
theorem up_create_ok {l l' : List (ByteArray × Fl)} {r s : Nat} {n : ByteArray} (hok : FsOk (up l r s)) (hn : rightB n = true) (hg : getF l n = none) (hl : insF l n ⟨[], s + 1, noOld⟩ = l') : FsOk (up l' r (s + 1)) := by
  have := create_ok (n := n) hok
  rwa [up_create hn hg, hl] at this
theorem up_write_ok {l l' : List (ByteArray × Fl)} {r r' s s' : Nat} {n : ByteArray} {x : Fl} {t : Nat} {bs : Bs} (hok : FsOk (up l r s)) (hg : getF l n = some x) (ht : t ≤ x.bs.length) (hroom : takes (t + bs.length) - tk x ≤ r) (hb : bs.length ≠ 0)
    (hl : updF l n { wrt x t bs with stamp := s + 1 } = l') (hr' : r - (takes (t + bs.length) - tk x) = r') (hs' : s + 1 = s') : FsOk (up l' r' s') := by
  have := write_ok (n := n) (t := t) (b := bs) hok
  rwa [up_write hg ht hroom hb, hl, hr', hs'] at this
theorem up_sync_ok {l l' : List (ByteArray × Fl)} {r s : Nat} {n : ByteArray} {x : Fl} (hok : FsOk (up l r s)) (hg : getF l n = some x) (hl : updF l n { x with old := noOld } = l') : FsOk (up l' r s) := by
  have := sync_ok (n := n) hok
  rwa [up_sync hg, hl] at this
theorem up_crash_ok {l l' : List (ByteArray × Fl)} {r s keep : Nat} (hok : FsOk (up l r s)) (hl : crF keep l 0 = l') : FsOk (up l' r s) := by
  have := crash_ok keep hok
  rwa [up_crash, hl] at this
theorem read_up (w : World) (f : Nat) (l : List (ByteArray × Fl)) (r s : Nat) (n : ByteArray) (bl : List Nat) (x : Fl) (t m : Nat) (ys : Bs) (h : FsAt w f (up l r s) bl) (hok : FsOk (up l r s)) (hn : n.size ≤ maxLen) (hg : getF l n = some x) (htm : t + m ≤ x.bs.length) (hy : (x.bs.drop t).take m = ys) :
    Calls Try.prog 42 #[fsPtr f, .string n, .int .i64 t, .int .i64 m] w fun e w' => ∃ q, e = .returned (.tuple #[.slice (some ⟨q, 0, none⟩) m m, .int .i64 0]) ∧ w.heap.size ≤ q ∧ Bk w' q 5 (ys.map bv) ∧ Fresh w w' := by
  have hl : ys.length = m := by rw [← hy, List.length_take, List.length_drop]; omega
  have := read_good w f _ bl n t m x h hok hn rfl hg htm
  rw [hy] at this
  rw [← hl] at this ⊢
  exact this

set_option maxRecDepth 100000 in
theorem wake_bytes : ((cr { wrt ⟨[], 1, noOld⟩ 0 [98, 99] with stamp := 2 } 0 0).bs.drop 0).take 2 = [0, 0] := by kernel_rfl
set_option maxRecDepth 100000 in
set_option maxHeartbeats 1000000 in
theorem wakes_any (w : World) : Calls Try.prog 9 #[] w fun e w' => e = .returned (.bool true) ∧ Fresh w w' := by
  have ok0 : FsOk (up [] 9 0) := new_ok 9 (by omega)
  have ok1 := up_create_ok (n := nm 97) (l' := [(nm 97, ⟨[], 1, noOld⟩)]) ok0 (by kernel_rfl) rfl rfl
  have ok2 := up_write_ok (n := nm 97) (x := ⟨[], 1, noOld⟩) (t := 0) (bs := [98, 99]) (l' := [(nm 97, { wrt ⟨[], 1, noOld⟩ 0 [98, 99] with stamp := 2 })]) (r' := 8) (s' := 2) ok1 rfl (Nat.zero_le _) (by decide) (by decide) rfl (by decide) rfl
  have ok3 := up_crash_ok (keep := 0) (l' := [(nm 97, cr { wrt ⟨[], 1, noOld⟩ 0 [98, 99] with stamp := 2 } 0 0)]) ok2 rfl
  have OK0 := Lib.hid ok0
  have OK1 := Lib.hid ok1
  have OK2 := Lib.hid ok2
  have OK3 := Lib.hid ok3
  clear ok0 ok1 ok2 ok3
  go_enter Try.func9, Try.ntmps9
  go_wp2_with (first
    | (go_at_call 11; refine (new_up _ 9 9 (by decide) (by decide) (by decide)).mono ?_; rintro e w1 ⟨f, bl, rfl, hF, hf1, hnew⟩)
    | (go_at_call 39; refine (create_up _ f _ [(nm 97, ⟨[], 1, noOld⟩)] _ _ (nm 97) bl hF OK0.out (by omega) (by kernel_rfl) rfl rfl).mono ?_; rintro e w2 ⟨rfl, bl2, hF2, hT2⟩; have hcv := Joins.run_convert_bytes_const_at (P := Try.prog) w2 29 5 #[.int .u8 98, .int .u8 99] 2 2 w2.heap.size rfl Try.underlying29 Try.underlying5)
    | (go_at_call 40; clear hcv; refine (write_up _ f _ [(nm 97, { wrt ⟨[], 1, noOld⟩ 0 [98, 99] with stamp := 2 })] _ 8 _ 2 (nm 97) bl2 ⟨[], 1, noOld⟩ 0 _ 2 2 [98, 99] (hF2.fresh (Fresh.alloc w2 _)) OK1.out (by omega) (nm_le _) rfl (RdA.lit #[.int .u8 98, .int .u8 99] 5 _ hF2.inside) (Nat.zero_le _) (by decide) (by decide) (by omega) (by unfold maxLen; omega) rfl (by decide) rfl).mono ?_; rintro e w3 ⟨rfl, bl3, hF3, hT3⟩)
    | (go_at_call 41; refine (crash_up _ f _ [(nm 97, cr { wrt ⟨[], 1, noOld⟩ 0 [98, 99] with stamp := 2 } 0 0)] _ _ 0 bl3 hF3 OK2.out (by decide) (by decide) rfl).mono ?_; rintro e w4 ⟨rfl, bl4, hF4, hT4⟩)
    | (go_at_call 42; refine (read_up _ f _ _ _ (nm 97) bl4 _ 0 2 [0, 0] hF4 OK3.out (nm_le _) rfl (by show 0 + 2 ≤ List.length _; simp [cr, wrt]) wake_bytes).mono ?_; rintro e w5 ⟨q, rfl, hq, hb5, hf5⟩; have h50 := hb5.cell (i := 0) rfl; have h51 := hb5.cell (i := 1) rfl))
  go_ret
  exact ⟨rfl, ((((((Since.mk_ hf1 hnew).turn hT2).fresh (Fresh.alloc w2 _)).turn hT3).turn hT4).fresh hf5).1⟩
end Go.Proofs.Ytelghdfikcodmaa.vfs
