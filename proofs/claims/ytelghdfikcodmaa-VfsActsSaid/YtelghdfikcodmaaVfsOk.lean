/-
  What holds of every store stays so: create, write, sync, crash. My own text.
-/
import Derived.Test.YtelghdfikcodmaaVfsFall
namespace Go.Proofs.Ytelghdfikcodmaa.vfs
open Go.Proofs.Ytelghdfikcodmaa.base Go.Proofs.Ytelghdfikcodmaa.vfsnum
set_option linter.unusedVariables false

def flist (l : List (ByteArray × Fl)) : Prop := (∀ p ∈ l, rightB p.1 = true) ∧ (l.Pairwise fun p q => nlt p.1 q.1 = true) ∧ ∀ p ∈ l, FlOk p.2
theorem FsOk.flist {a : Fs} (h : FsOk a) : flist a.files := ⟨h.names, h.sorted, h.fls⟩
theorem FsOk.mk_ {a : Fs} (h : vfs.flist a.files) (h1 : a.room + (a.files.map fun p => tk p.2).sum ≤ 65536) (h2 : -1 ≤ a.fuse) (h3 : a.fuse ≤ 9223372036854775807) : FsOk a := ⟨h.1, h.2.1, h.2.2, h1, h2, h3⟩
theorem burn_fuse (a : Fs) (h2 : -1 ≤ a.fuse) (h3 : a.fuse ≤ 9223372036854775807) : -1 ≤ a.burn.fuse ∧ a.burn.fuse ≤ 9223372036854775807 := by
  unfold Fs.burn
  split <;> simp only <;> omega
theorem FsOk.fall {a : Fs} (h : FsOk a) : FsOk a.fall := ⟨h.names, h.sorted, h.fls, h.sum, h.fuse1, h.fuse2⟩
theorem mem_insF {l : List (ByteArray × Fl)} {n : ByteArray} {x : Fl} {p : ByteArray × Fl} (h : p ∈ insF l n x) : p = (n, x) ∨ p ∈ l := by
  unfold insF at h
  simp only [List.mem_append, List.mem_cons, List.mem_filter] at h
  rcases h with h | h | h
  · exact .inr h.1
  · exact .inl h
  · exact .inr h.1
theorem insF_perm (l : List (ByteArray × Fl)) (n : ByteArray) (x : Fl) : (insF l n x).Perm ((n, x) :: l) :=
  List.perm_middle.trans ((List.filter_append_perm _ l).cons _)
theorem flist_ins {l : List (ByteArray × Fl)} {n : ByteArray} {x : Fl} (h : flist l) (hn : rightB n = true) (hx : FlOk x) (hf : ∀ p ∈ l, p.1 ≠ n) : flist (insF l n x) := by
  refine ⟨fun p hp => ?_, ?_, fun p hp => ?_⟩
  · rcases mem_insF hp with rfl | hp
    · exact hn
    · exact h.1 p hp
  · unfold insF
    rw [List.pairwise_append, List.pairwise_cons]
    refine ⟨h.2.1.filter _, ⟨fun p hp => ?_, h.2.1.filter _⟩, fun p hp q hq => ?_⟩
    · have hp' := List.mem_filter.1 hp
      have h1 : nlt p.1 n = false := by simpa using hp'.2
      rcases nlt_total (hf p hp'.1) with h2 | h2
      · rw [h1] at h2; cases h2
      · exact h2
    · have h1 : nlt p.1 n = true := (List.mem_filter.1 hp).2
      rcases List.mem_cons.1 hq with rfl | hq
      · exact h1
      · have hq' := List.mem_filter.1 hq
        have h2 : nlt q.1 n = false := by simpa using hq'.2
        rcases nlt_total (hf q hq'.1) with h3 | h3
        · rw [h2] at h3; cases h3
        · exact nlt_trans h1 h3
  · rcases mem_insF hp with rfl | hp
    · exact hx
    · exact h.2.2 p hp
theorem sum_ins (l : List (ByteArray × Fl)) (n : ByteArray) (x : Fl) : ((insF l n x).map fun p => tk p.2).sum = tk x + (l.map fun p => tk p.2).sum := by
  rw [List.Perm.sum_nat ((insF_perm l n x).map fun p => tk p.2)]
  simp
theorem len_ins (l : List (ByteArray × Fl)) (n : ByteArray) (x : Fl) : (insF l n x).length = l.length + 1 := (insF_perm l n x).length_eq
theorem updF_parts {l : List (ByteArray × Fl)} (ha : Apart l) {n : ByteArray} {x : Fl} (hg : getF l n = some x) : ∃ l1 l2, l = l1 ++ (n, x) :: l2 ∧ ∀ y, updF l n y = l1 ++ (n, y) :: l2 := by
  obtain ⟨l1, l2, rfl⟩ := List.append_of_mem (getF_some hg)
  refine ⟨l1, l2, rfl, fun y => ?_⟩
  unfold Apart at ha
  rw [List.pairwise_append, List.pairwise_cons] at ha
  obtain ⟨_, ⟨h2, _⟩, h4⟩ := ha
  unfold updF
  rw [List.map_append, List.map_cons, if_pos rfl]
  have e1 : ∀ (r : List (ByteArray × Fl)), (∀ p ∈ r, p.1 ≠ n) → r.map (fun p => if p.1 = n then (n, y) else p) = r := fun r hr => by
    rw [List.map_congr_left (g := id) fun p hp => by rw [if_neg (hr p hp)]; rfl, List.map_id]
  rw [e1 l1 fun p hp => h4 p hp (n, x) (by simp), e1 l2 fun p hp => (h2 p hp).symm]
theorem flist_upd {l : List (ByteArray × Fl)} (h : flist l) {n : ByteArray} {x y : Fl} (hg : getF l n = some x) (hy : FlOk y) : flist (updF l n y) ∧ ((updF l n y).map fun p => tk p.2).sum + tk x = (l.map fun p => tk p.2).sum + tk y ∧ (updF l n y).length = l.length := by
  obtain ⟨l1, l2, rfl, hu⟩ := updF_parts (apart_of_sorted h.2.1) hg
  rw [hu y]
  obtain ⟨h1, h2, h3⟩ := h
  rw [List.pairwise_append, List.pairwise_cons] at h2
  refine ⟨⟨fun p hp => ?_, ?_, fun p hp => ?_⟩, ?_, by simp⟩
  · rcases List.mem_append.1 hp with hp | hp
    · exact h1 p (by simp [hp])
    · rcases List.mem_cons.1 hp with rfl | hp
      · exact h1 (n, x) (by simp)
      · exact h1 p (by simp [hp])
  · rw [List.pairwise_append, List.pairwise_cons]
    refine ⟨h2.1, ⟨fun p hp => h2.2.1.1 p hp, h2.2.1.2⟩, fun p hp q hq => ?_⟩
    rcases List.mem_cons.1 hq with rfl | hq
    · exact h2.2.2 p hp (n, x) (by simp)
    · exact h2.2.2 p hp q (by simp [hq])
  · rcases List.mem_append.1 hp with hp | hp
    · exact h3 p (by simp [hp])
    · rcases List.mem_cons.1 hp with rfl | hp
      · exact hy
      · exact h3 p (by simp [hp])
  · simp only [List.map_append, List.map_cons, List.sum_append, List.sum_cons]
    omega
theorem nil_ok (s : Nat) : FlOk ⟨[], s, noOld⟩ := ⟨Nat.zero_le _, fun k o h => by cases h⟩
theorem create_ok {a : Fs} {n : ByteArray} (h : FsOk a) : FsOk (a.create n).2 := by
  unfold Fs.create
  split
  · exact h
  · split
    · exact h
    · rename_i hr
      split
      · exact h
      · rename_i hg
        split
        · exact FsOk.fall h
        · have hg' : getF a.files n = none := by cases hx : getF a.files n with
            | none => rfl
            | some x => rw [hx] at hg; exact absurd rfl hg
          refine FsOk.mk_ (flist_ins (FsOk.flist h) (by simpa using hr) (nil_ok _) (getF_none hg')) ?_ (burn_fuse a h.fuse1 h.fuse2).1 (burn_fuse a h.fuse1 h.fuse2).2
          show a.room + ((insF a.files n _).map fun p => tk p.2).sum ≤ 65536
          rw [sum_ins]
          have := h.sum
          have e : tk ⟨[], a.stamp + 1, noOld⟩ = 0 := by simp [tk, takes]
          omega
theorem stamp_ok {x : Fl} (h : FlOk x) (s : Nat) : FlOk { x with stamp := s } := h
theorem sum_tk {a : Fs} (h : FsOk a) {n : ByteArray} {x : Fl} (hg : getF a.files n = some x) : a.room + tk x ≤ 65536 := by
  have h1 := sum_ge (n, x) (getF_some hg)
  have := h.sum
  have e : tk (n, x).2 = tk x := rfl
  omega
theorem write_ok {a : Fs} {n : ByteArray} {t : Int} {b : Bs} (h : FsOk a) : FsOk (a.write n t b).2 := by
  unfold Fs.write
  split
  · exact h
  · cases hg : getF a.files n with
    | none => exact h
    | some x =>
      simp only
      split
      · exact h
      · split
        · exact h
        · split
          · exact h
          · split
            · exact FsOk.fall h
            · rename_i h1 h2 h3 h4
              have hx := h.fls (n, x) (getF_some hg)
              have hs := sum_tk h hg
              have hl : t.toNat ≤ x.bs.length := by omega
              have hlen : t.toNat + b.length ≤ 4194304 := by unfold tk takes at *; omega
              have hy : FlOk { wrt x t.toNat b with stamp := a.stamp + 1 } := stamp_ok (wrt_ok hx hl hlen) _
              have hu := flist_upd (FsOk.flist h) hg hy
              refine FsOk.mk_ hu.1 ?_ (burn_fuse a h.fuse1 h.fuse2).1 (burn_fuse a h.fuse1 h.fuse2).2
              have e : tk { wrt x t.toNat b with stamp := a.stamp + 1 } = max (tk x) (takes (t.toNat + b.length)) := by
                show takes (wrt x t.toNat b).bs.length = _
                rw [wrt_len x _ b hl]
                unfold tk takes
                omega
              have h5 := hu.2.1
              have h6 := h.sum
              rw [e] at h5
              have fin : a.room - (takes (t.toNat + b.length) - tk x) + ((updF a.files n { wrt x t.toNat b with stamp := a.stamp + 1 }).map fun p => tk p.2).sum ≤ 65536 := by omega
              exact fin
theorem sync_ok {a : Fs} {n : ByteArray} (h : FsOk a) : FsOk (a.sync n).2 := by
  unfold Fs.sync
  split
  · exact h
  · cases hg : getF a.files n with
    | none => exact h
    | some x =>
      simp only
      split
      · exact FsOk.fall h
      · have hx := h.fls (n, x) (getF_some hg)
        have hy : FlOk { x with old := noOld } := ⟨hx.1, fun k o h => by cases h⟩
        have hu := flist_upd (FsOk.flist h) hg hy
        refine FsOk.mk_ hu.1 ?_ (burn_fuse a h.fuse1 h.fuse2).1 (burn_fuse a h.fuse1 h.fuse2).2
        have h5 := hu.2.1
        have h6 := h.sum
        have e : tk { x with old := noOld } = tk x := rfl
        rw [e] at h5
        have fin : a.room + ((updF a.files n { x with old := noOld }).map fun p => tk p.2).sum ≤ 65536 := by omega
        exact fin
theorem crF_names (keep : Nat) : ∀ (l : List (ByteArray × Fl)) (i : Nat), (crF keep l i).map (·.1) = l.map (·.1)
  | [], _ => rfl
  | p :: r, i => by rw [crF, List.map_cons, crF_names keep r, List.map_cons]
theorem crF_tk (keep : Nat) : ∀ (l : List (ByteArray × Fl)) (i : Nat), (crF keep l i).map (fun p => tk p.2) = l.map fun p => tk p.2
  | [], _ => rfl
  | p :: r, i => by
    rw [crF, List.map_cons, crF_tk keep r, List.map_cons]
    congr 1
    unfold tk cr
    simp
theorem crF_mem (keep : Nat) : ∀ (l : List (ByteArray × Fl)) (i : Nat), ∀ q ∈ crF keep l i, ∃ p ∈ l, ∃ j, q = (p.1, cr p.2 keep j)
  | [], _, q, h => by cases h
  | p :: r, i, q, h => by
    rcases List.mem_cons.1 h with rfl | h
    · exact ⟨p, by simp, i, rfl⟩
    · obtain ⟨p', hp, j, e⟩ := crF_mem keep r _ q h
      exact ⟨p', by simp [hp], j, e⟩
theorem crash_ok {a : Fs} (keep : Nat) (h : FsOk a) : FsOk (a.crash keep) := by
  refine FsOk.mk_ ⟨fun q hq => ?_, ?_, fun q hq => ?_⟩ ?_ (show (-1 : Int) ≤ -1 by omega) (show (-1 : Int) ≤ _ by omega)
  · obtain ⟨p, hp, j, rfl⟩ := crF_mem keep _ _ q hq
    exact h.names p hp
  · have h1 : ((crF keep a.files 0).map (·.1)).Pairwise fun x y => nlt x y = true := by rw [crF_names, List.pairwise_map]; exact h.sorted
    rw [List.pairwise_map] at h1
    exact h1
  · obtain ⟨p, hp, j, rfl⟩ := crF_mem keep _ _ q hq
    have := (h.fls p hp).1
    exact ⟨by show ((List.range _).map _).length ≤ _; simpa using this, fun k o h => by cases h⟩
  · show a.room + ((crF keep a.files 0).map fun p => tk p.2).sum ≤ 65536
    rw [crF_tk]
    exact h.sum
theorem new_ok (r : Nat) (h : r ≤ 65536) : FsOk ⟨[], r, 0, -1, false⟩ := FsOk.mk_ ⟨by simp, by simp, by simp⟩ (by simpa using h) (by simp) (by simp)

/-! a store that is up, without a fuse -/
abbrev up (files : List (ByteArray × Fl)) (room stamp : Nat) : Fs := ⟨files, room, stamp, -1, false⟩
theorem up_create {l : List (ByteArray × Fl)} {r s : Nat} {n : ByteArray} (hn : rightB n = true) (hg : getF l n = none) : (up l r s).create n = (0, up (insF l n ⟨[], s + 1, noOld⟩) r (s + 1)) := by
  unfold Fs.create
  rw [if_neg (by simp), if_neg (by rw [hn]; simp), if_neg (by rw [show (up l r s).files = l from rfl, hg]; simp), if_neg (by simp)]
  rfl
theorem up_write {l : List (ByteArray × Fl)} {r s : Nat} {n : ByteArray} {x : Fl} {t : Nat} {b : Bs} (hg : getF l n = some x) (ht : t ≤ x.bs.length) (hr : takes (t + b.length) - tk x ≤ r) (hb : b.length ≠ 0) :
    (up l r s).write n t b = (0, up (updF l n { wrt x t b with stamp := s + 1 }) (r - (takes (t + b.length) - tk x)) (s + 1)) := by
  unfold Fs.write
  rw [if_neg (by simp), show (up l r s).files = l from rfl, hg]
  simp only [Int.toNat_natCast]
  rw [if_neg (by omega), if_neg (by omega), if_neg hb, if_neg (by simp)]
  rfl
theorem up_write0 {l : List (ByteArray × Fl)} {r s : Nat} {n : ByteArray} {x : Fl} {t : Nat} {b : Bs} (hg : getF l n = some x) (ht : t ≤ x.bs.length) (hb : b.length = 0) :
    (up l r s).write n t b = (0, up l r s) := by
  unfold Fs.write
  rw [if_neg (by simp), show (up l r s).files = l from rfl, hg]
  simp only [Int.toNat_natCast]
  rw [if_neg (by omega), if_neg (by have : takes (t + b.length) ≤ tk x := by unfold tk takes; omega
                                    omega), if_pos hb]
theorem up_sync {l : List (ByteArray × Fl)} {r s : Nat} {n : ByteArray} {x : Fl} (hg : getF l n = some x) : (up l r s).sync n = (0, up (updF l n { x with old := noOld }) r s) := by
  unfold Fs.sync
  rw [if_neg (by simp), show (up l r s).files = l from rfl, hg]
  simp only
  rw [if_neg (by simp)]
  rfl
theorem up_crash {l : List (ByteArray × Fl)} {r s keep : Nat} : (up l r s).crash keep = up (crF keep l 0) r s := rfl
end Go.Proofs.Ytelghdfikcodmaa.vfs
