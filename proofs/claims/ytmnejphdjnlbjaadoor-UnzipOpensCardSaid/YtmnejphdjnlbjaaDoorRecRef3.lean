/-
  The reference's core, item: my own text.
-/
import Derived.Test.YtmnejphdjnlbjaaDoorRecRef2
namespace Go.Proofs.YtmnejphdjnlbjaaDoor.recp
open Go.RowKit Go.Proofs.YtmnejphdjnlbjaaDoor.base Go.Proofs.YtmnejphdjnlbjaaDoor.num Go.Proofs.YtmnejphdjnlbjaaDoor.word Go.Proofs.YtmnejphdjnlbjaaDoor.recn
set_option linter.unusedVariables false
set_option maxRecDepth 100000 in
set_option maxHeartbeats 4000000 in
theorem core_any (A : Option Addr) (n c : Nat) (xs : List UInt8) (z : Int) (p : Nat) (w : World) (B : Nat) (hr : Rd w B A n (xs.map bv)) (hB : B ≤ w.heap.size) (hz : z = (p : Int)) (hc : n ≤ c) (hm : c ≤ maxLen) (hn : n ≤ 1099511627776) (hp : p + 20 ≤ n) :
    Calls Tryd.prog 33 #[.slice A n c, .int .i64 z] w fun e w' => e = .returned (.agg (coreV xs p).toArray) ∧ Fresh w w' := by
  subst hz
  have hat : ∀ (z : Int) (d k : Nat) (kz : Int), kz = (k : Int) → z = ((p + d : Nat) : Int) → (k = 2 ∨ k = 4) → d + k ≤ 20 → ∀ W, Fresh w W → Calls Tryd.prog 30 #[.slice A n c, .int .i64 z, .int .i64 kz] W fun e w' => e = .returned (.int .i64 (nm xs (p + d) k : Nat)) ∧ W = w' := fun z d k kz hkz hz hk hd W hW => by
    subst hkz
    exact at24 A n c xs z (p + d) k W B (hr.keep fun i hi => hW.block i (by omega)) hz hc hm hn hk (by omega)
  have h0 := hat (p : Int) 0 2 2 rfl (by omega) (.inl rfl) (by omega)
  have h2 := hat ((p : Int) + 2) 2 2 2 rfl (by omega) (.inl rfl) (by omega)
  have h4 := hat ((p : Int) + 4) 4 4 4 rfl (by omega) (.inr rfl) (by omega)
  have h8 := hat ((p : Int) + 8) 8 4 4 rfl (by omega) (.inr rfl) (by omega)
  have h12 := hat ((p : Int) + 12) 12 4 4 rfl (by omega) (.inr rfl) (by omega)
  have h16 := hat ((p : Int) + 16) 16 4 4 rfl (by omega) (.inr rfl) (by omega)
  have hcr := nm4 xs (p + 8)
  rw [Nat.add_zero] at h0
  unfold coreV
  generalize nm xs p 2 = v0 at *
  generalize nm xs (p + 2) 2 = v1 at *
  generalize nm xs (p + 4) 4 = v2 at *
  generalize nm xs (p + 8) 4 = v3 at *
  generalize nm xs (p + 12) 4 = v4 at *
  generalize nm xs (p + 16) 4 = v5 at *
  have hwr : ((v3 : Nat) : Int) % 4294967296 = (v3 : Int) := by omega
  have hf1 := Fresh.alloc w (.cells #[iv 0, iv 0, iv 0, .int .u32 0, iv 0, iv 0, iv 0, .slice none 0 0, .bool false] tHead)
  have hs1 : (w.alloc (.cells #[iv 0, iv 0, iv 0, .int .u32 0, iv 0, iv 0, iv 0, .slice none 0 0, .bool false] tHead)).heap.size = w.heap.size + 1 := by simp
  have hf := fun r => hf1.trans (Fresh.alloc (w.alloc (.cells #[iv 0, iv 0, iv 0, .int .u32 0, iv 0, iv 0, iv 0, .slice none 0 0, .bool false] tHead)) (.cells r tHead))
  have H0 := Lib.hid (h0 _ hf1)
  have H2 := Lib.hid (h2 _ hf1)
  have H4 := Lib.hid (h4 _ hf1)
  have H8 := Lib.hid (h8 _ (hf #[iv (v0 : Nat), iv (v1 : Nat), iv (v2 : Nat), .int .u32 0, iv 0, iv 0, iv 0, .slice none 0 0, .bool false]))
  have H12 := Lib.hid (h12 _ (hf #[iv (v0 : Nat), iv (v1 : Nat), iv (v2 : Nat), .int .u32 (v3 : Nat), iv 0, iv 0, iv 0, .slice none 0 0, .bool false]))
  have H16 := Lib.hid (h16 _ (hf #[iv (v0 : Nat), iv (v1 : Nat), iv (v2 : Nat), .int .u32 (v3 : Nat), iv (v4 : Nat), iv 0, iv 0, .slice none 0 0, .bool false]))
  have hf5 := hf #[iv (v0 : Nat), iv (v1 : Nat), iv (v2 : Nat), .int .u32 (v3 : Nat), iv (v4 : Nat), iv (v5 : Nat), iv 0, .slice none 0 0, .bool false]
  have hb5 : Bk ((w.alloc (.cells #[iv 0, iv 0, iv 0, .int .u32 0, iv 0, iv 0, iv 0, .slice none 0 0, .bool false] tHead)).alloc (.cells #[iv (v0 : Nat), iv (v1 : Nat), iv (v2 : Nat), .int .u32 (v3 : Nat), iv (v4 : Nat), iv (v5 : Nat), iv 0, .slice none 0 0, .bool false] tHead)) w.heap.size tHead [iv 0, iv 0, iv 0, .int .u32 0, iv 0, iv 0, iv 0, .slice none 0 0, .bool false] := (Bk.made w tHead _).alloc _
  have hh5 : Bk ((w.alloc (.cells #[iv 0, iv 0, iv 0, .int .u32 0, iv 0, iv 0, iv 0, .slice none 0 0, .bool false] tHead)).alloc (.cells #[iv (v0 : Nat), iv (v1 : Nat), iv (v2 : Nat), .int .u32 (v3 : Nat), iv (v4 : Nat), iv (v5 : Nat), iv 0, .slice none 0 0, .bool false] tHead)) (w.heap.size + 1) tHead [iv (v0 : Nat), iv (v1 : Nat), iv (v2 : Nat), .int .u32 (v3 : Nat), iv (v4 : Nat), iv (v5 : Nat), iv 0, .slice none 0 0, .bool false] := by rw [← hs1]; exact Bk.made _ tHead _
  have hall : (#[iv (v0 : Nat), iv (v1 : Nat), iv (v2 : Nat), .int .u32 (v3 : Nat), iv (v4 : Nat), iv (v5 : Nat), iv 0, .slice none 0 0, .bool false] : Array Value).all (·.oneCell') = true := all_one [iv (v0 : Nat), iv (v1 : Nat), iv (v2 : Nat), .int .u32 (v3 : Nat), iv (v4 : Nat), iv (v5 : Nat), iv 0, .slice none 0 0, .bool false] (by
    intro v hv
    simp only [List.mem_cons, List.not_mem_nil, or_false] at hv
    rcases hv with rfl | rfl | rfl | rfl | rfl | rfl | rfl | rfl | rfl <;> rfl)
  have HB5 := Lib.hid hb5
  have HH5 := Lib.hid hh5
  have HF5 := Lib.hid hf5
  have HALL := Lib.hid hall
  clear hat h0 h2 h4 h8 h12 h16 hf1 hs1 hf hb5 hh5 hf5 hall hr hcr
  go_enter Tryd.func33, Tryd.ntmps33
  go_wp2_with (first
    | (go_at_call 30; ((with_reducible refine H0.out.mono ?_); rintro e w1 ⟨rfl, rfl⟩))
    | (go_at_call 30; ((with_reducible refine H2.out.mono ?_); rintro e w1 ⟨rfl, rfl⟩))
    | (go_at_call 30; ((with_reducible refine H4.out.mono ?_); rintro e w1 ⟨rfl, rfl⟩))
    | (go_at_call 30; ((with_reducible refine H8.out.mono ?_); rintro e w1 ⟨rfl, rfl⟩))
    | (go_at_call 30; ((with_reducible refine H12.out.mono ?_); rintro e w1 ⟨rfl, rfl⟩))
    | (go_at_call 30; ((with_reducible refine H16.out.mono ?_); rintro e w1 ⟨rfl, rfl⟩))
    | (refine wpList_load_row (o := ⟨some 34, _, _, _, _, _⟩) rfl tHead (.tmp 5) rfl (w.heap.size + 1) rfl tHead #[iv (v0 : Nat), iv (v1 : Nat), iv (v2 : Nat), .int .u32 (v3 : Nat), iv (v4 : Nat), iv (v5 : Nat), iv 0, .slice none 0 0, .bool false] (0, 0) _ HH5.out Tryd.underlying50 rfl (by kernel_rfl) ?_)
    | (refine wpList_store_row (o := ⟨none, _, _, _, _, _⟩) rfl tHead (.tmp 4) (.tmp 34) rfl w.heap.size #[iv (v0 : Nat), iv (v1 : Nat), iv (v2 : Nat), .int .u32 (v3 : Nat), iv (v4 : Nat), iv (v5 : Nat), iv 0, .slice none 0 0, .bool false] rfl rfl tHead _ HB5.out (by kernel_rfl) (by rfl) HALL.out ?_))
  exact bodyPost_ret (results_cell_row (p := 4) (by kernel_rfl) _ _ w.heap.size tHead #[iv (v0 : Nat), iv (v1 : Nat), iv (v2 : Nat), .int .u32 (v3 : Nat), iv (v4 : Nat), iv (v5 : Nat), iv 0, .slice none 0 0, .bool false] (0, 0) _ rfl (HB5.out.row _) Tryd.underlying50 rfl (by kernel_rfl)) rfl ⟨rfl, HF5.out.but (Nat.le_refl _) (But.row _ _ _)⟩
end Go.Proofs.YtmnejphdjnlbjaaDoor.recp
