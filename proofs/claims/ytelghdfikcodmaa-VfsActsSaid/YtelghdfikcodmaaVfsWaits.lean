/-
  The contract of the store's Waits. My own text.
-/
import Derived.Test.YtelghdfikcodmaaVfsPut
namespace Go.Proofs.Ytelghdfikcodmaa.vfs
open Go.RowKit Go.Maps Go.Proofs.Ytelghdfikcodmaa.base Go.Proofs.Ytelghdfikcodmaa.vfsnum
set_option linter.unusedVariables false

theorem old_len {kv : List (Value × Value)} {old : Nat → Option Bs} {n : Nat} (hap : kv.Pairwise fun p q => p.1 ≠ q.1) (ho : OldIs kv old) (hd : ∀ k o, old k = some o → k < n) : kv.length = cnt old n := by
  have h1 : (kv.map (·.1)).Nodup := by unfold List.Nodup; rw [List.pairwise_map]; exact hap
  have h2 : (((List.range n).filter fun i => (old i).isSome).map fun p : Nat => Value.int .i64 (p : Int)).Nodup := by
    unfold List.Nodup
    rw [List.pairwise_map]
    refine (List.Pairwise.filter _ (List.nodup_range (n := n))).imp fun hne e => hne ?_
    injection e with _ e
    omega
  have hp : (kv.map (·.1)).Perm (((List.range n).filter fun i => (old i).isSome).map fun p : Nat => Value.int .i64 (p : Int)) := by
    rw [List.perm_ext_iff_of_nodup h1 h2]
    intro u
    constructor
    · intro hu
      obtain ⟨⟨key, v⟩, hm, rfl⟩ := List.mem_map.1 hu
      obtain ⟨p, o, rfl, hop, _⟩ := (ho key v).1 hm
      exact List.mem_map.2 ⟨p, List.mem_filter.2 ⟨List.mem_range.2 (hd p o hop), by rw [hop]; rfl⟩, rfl⟩
    · intro hu
      obtain ⟨p, hm, rfl⟩ := List.mem_map.1 hu
      have hs := (List.mem_filter.1 hm).2
      obtain ⟨o, hop⟩ := Option.isSome_iff_exists.1 hs
      exact List.mem_map.2 ⟨_, ho.hit hop, rfl⟩
  have := hp.length_eq
  rw [List.length_map, List.length_map] at this
  exact this
def cntOf (a : Fs) (p : Value × Value) : Nat :=
  match p.1 with
  | .string s => match getF a.files s with
    | some x => cnt x.old (tk x)
    | none => 0
  | _ => 0
theorem cntOf_gh {w : World} {f mb : Nat} {a : Fs} {gs : List Gh} (h : FsG w f a mb gs) (hok : FsOk a) {x : Gh} (hx : x ∈ gs) : cntOf a x.kv = cnt x.fl.old (tk x.fl) := by
  have hm : getF a.files x.name = some x.fl := getF_mem (apart_of_sorted hok.sorted) (by rw [h.2.1]; exact List.mem_map.2 ⟨x, hx, rfl⟩)
  show (match getF a.files x.name with | some x => cnt x.old (tk x) | none => 0) = _
  rw [hm]
theorem waits_sum {w : World} {f mb : Nat} {a : Fs} {gs : List Gh} (h : FsG w f a mb gs) (hok : FsOk a) : ((gs.map Gh.kv).map (cntOf a)).sum = a.waits := by
  unfold Fs.waits
  rw [h.2.1, List.map_map, List.map_map]
  congr 1
  exact List.map_congr_left fun x hx => cntOf_gh h hok hx
theorem waits_le {l : List (ByteArray × Fl)} : (l.map fun p => cnt p.2.old (tk p.2)).sum ≤ (l.map fun p => tk p.2).sum := by
  induction l with
  | nil => exact Nat.le_refl _
  | cons p r ih =>
    rw [List.map_cons, List.map_cons, List.sum_cons, List.sum_cons]
    have := cnt_le p.2.old (tk p.2)
    omega

set_option maxRecDepth 100000 in
set_option maxHeartbeats 1000000 in
theorem waits_any (w : World) (f : Nat) (a : Fs) (bl : List Nat) (h : FsAt w f a bl) (hok : FsOk a) (hdn : a.down = false) :
    Calls Try.prog 58 #[fsPtr f] w fun e w' => e = .returned (.int .i64 (a.waits : Nat)) ∧ Fresh w w' := by
  obtain ⟨mb, gs, rfl, hg⟩ := h
  have hs := state_any w f a mb gs hg
  rw [hdn] at hs
  have h0 : w.cell? ⟨f, 0, none⟩ = some (.map (some mb)) := hg.2.2.1.cell rfl
  have hm := hg.2.2.2.1
  have hW : a.waits ≤ 65536 := by have h1 := waits_le (l := a.files); have h2 := hok.sum; unfold Fs.waits; omega
  have hsum := waits_sum hg hok
  generalize hWe : a.waits = W at *
  have HSUM := Lib.hid hsum
  have HG := Lib.hid hg
  clear hdn hg hsum hWe
  go_enter Try.func58, Try.ntmps58
  go_wp2_with (first
    | (go_at_call 69; refine hs.mono ?_; rintro e w' ⟨rfl, rfl⟩)
    | (at_range; refine wpList_map_range _ rfl _ 71 rfl 9 99 Try.underlying71 mb _ rfl hm w.heap.size rfl ?_; intro w0 hrg0 hf0 hs0))
  go_frame
  clear hs0
  go_loopw [3] (fun t wr => ∃ (s : Nat) (left : List (Value × Value)), t = .int .i64 s ∧ s ≤ W ∧ Hid (s + (left.map (cntOf a)).sum = W) ∧ RangeOf Try.prog 9 wr mb w.heap.size (gs.map Gh.kv) left ∧ Fresh w wr) (fun _ wr => wr.rangeLeft mb w.heap.size)
  case atStart => exact ⟨0, _, rfl, Nat.zero_le _, by show _ = _; rw [Nat.zero_add]; exact HSUM.out, hrg0, hf0⟩
  case round =>
    obtain ⟨s, left, rfl, hsW, hsum, hrg, hfr⟩ := hrel
    go_wp2_with (at_next; refine wpList_map_next _ rfl _ rfl 9 mb w.heap.size _ left rfl hrg ?_ ?_)
    · intro he
      subst he
      have HE := Lib.hid (show s = W by have := hsum.out; simpa using this)
      clear hsum
      go_wp2
      go_ret
      rw [HE.out]
      exact ⟨rfl, hfr⟩
    · intro key v left' w1 hp hrg1 hb1 hs1 hen
      obtain ⟨x, hx, hkv⟩ := List.mem_map.1 (hrg.sub _ (hp.mem_iff.2 (List.mem_cons_self ..)))
      obtain ⟨rfl, rfl⟩ : key = .string x.name ∧ v = .pointer (some ⟨x.g, 0, none⟩) := by injection hkv with h1 h2; exact ⟨h1.symm, h2.symm⟩
      have hfr1 := hfr.but (Nat.le_refl _) hb1
      have hg1 := HG.out.fresh hfr1
      obtain ⟨wb, A, c, kv, sb, hbl, hnd, hb, hse, hmw, hold⟩ := hg1.2.2.2.2 x hx
      have h3 : w1.cell? ⟨x.g, 3, none⟩ = some (.map (some wb)) := hb.cell rfl
      have hln := old_len (n := tk x.fl) hmw.apart hold fun k o hko => ((hok.fls (x.name, x.fl) (by rw [HG.out.2.1]; exact List.mem_map.2 ⟨x, hx, rfl⟩)).2 k o hko).1
      have hln' : kv.length = cntOf a x.kv := hln.trans (cntOf_gh HG.out hok hx).symm
      have hsn : (left.map (cntOf a)).sum = cntOf a x.kv + (left'.map (cntOf a)).sum := by
        rw [List.Perm.sum_nat (hp.map (cntOf a)), List.map_cons, List.sum_cons]
        rfl
      have hsn' : s + kv.length + (left'.map (cntOf a)).sum = W := by have := hsum.out; rw [hsn, ← hln'] at this; omega
      have hb2 : s + kv.length ≤ W := by omega
      have HSN := Lib.hid hsn'
      have hll := hp.length_eq
      rw [List.length_cons] at hll
      have hlen3 : left'.length < left.length := by omega
      have HLL := Lib.hid (RangeOf.left_eq hrg)
      clear hs1 hkv hll hsn hsn' hln hln' hsum hg1 hse hb hold
      have hlen := hmw.len (t := 105) Try.underlying105 3
      go_wp2
      go_roundw
      case rel => exact ⟨s + kv.length, left', by go_num, hb2, HSN.out, hrg1, hfr1⟩
      case measure => rw [RangeOf.left_eq hrg1, HLL.out]; exact hlen3
end Go.Proofs.Ytelghdfikcodmaa.vfs
