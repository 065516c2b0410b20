/-
  What holds of every store stays so: remove, delete, rename; files' names behind them. My own text.
-/
import Derived.Test.YtelghdfikcodmaaVfsOps3
namespace Go.Proofs.Ytelghdfikcodmaa.vfs
open Go.RowKit Go.Maps Go.Proofs.Ytelghdfikcodmaa.base Go.Proofs.Ytelghdfikcodmaa.vfsnum
set_option linter.unusedVariables false

theorem del_none {l : List (ByteArray × Fl)} {n : ByteArray} (h : getF l n = none) : delF l n = l := List.filter_eq_self.2 fun p hp => by simpa using getF_none h p hp
theorem del_parts {l : List (ByteArray × Fl)} (ha : Apart l) {n : ByteArray} {x : Fl} (hg : getF l n = some x) : ∃ l1 l2, l = l1 ++ (n, x) :: l2 ∧ delF l n = l1 ++ l2 := by
  obtain ⟨l1, l2, rfl⟩ := List.append_of_mem (getF_some hg)
  refine ⟨l1, l2, rfl, ?_⟩
  unfold Apart at ha
  rw [List.pairwise_append, List.pairwise_cons] at ha
  obtain ⟨_, ⟨h2, _⟩, h4⟩ := ha
  have e1 : l1.filter (fun p => decide (p.1 ≠ n)) = l1 := List.filter_eq_self.2 fun p hp => by simpa using h4 p hp (n, x) (by simp)
  have e2 : l2.filter (fun p => decide (p.1 ≠ n)) = l2 := List.filter_eq_self.2 fun p hp => by simpa using (h2 p hp).symm
  unfold delF
  rw [List.filter_append, List.filter_cons, if_neg (by simp), e1, e2]
def tkOf (o : Option Fl) : Nat := match o with
  | some x => tk x
  | none => 0
theorem sum_del {l : List (ByteArray × Fl)} (ha : Apart l) (n : ByteArray) : ((delF l n).map fun p => tk p.2).sum + tkOf (getF l n) = (l.map fun p => tk p.2).sum := by
  cases hg : getF l n with
  | none => rw [del_none hg]; rfl
  | some x =>
    obtain ⟨l1, l2, rfl, e⟩ := del_parts ha hg
    rw [e]
    simp only [List.map_append, List.map_cons, List.sum_append, List.sum_cons, tkOf]
    omega
theorem del_len {l : List (ByteArray × Fl)} (ha : Apart l) {n : ByteArray} {x : Fl} (hg : getF l n = some x) : (delF l n).length + 1 = l.length := by
  obtain ⟨l1, l2, rfl, e⟩ := del_parts ha hg
  rw [e]
  simp
  omega
theorem mem_del {l : List (ByteArray × Fl)} {n : ByteArray} {p : ByteArray × Fl} : p ∈ delF l n ↔ p ∈ l ∧ p.1 ≠ n := by
  unfold delF
  rw [List.mem_filter]
  simp
theorem flist_del {l : List (ByteArray × Fl)} (h : flist l) (n : ByteArray) : flist (delF l n) :=
  ⟨fun p hp => h.1 p (mem_del.1 hp).1, h.2.1.filter _, fun p hp => h.2.2 p (mem_del.1 hp).1⟩
theorem getF_no {l : List (ByteArray × Fl)} {n : ByteArray} (h : ∀ p ∈ l, p.1 ≠ n) : getF l n = none := by
  cases hg : getF l n with
  | none => rfl
  | some x => exact absurd rfl (h _ (getF_some hg))
theorem getF_del_other {l : List (ByteArray × Fl)} (h : flist l) {n k : ByteArray} (hne : k ≠ n) : getF (delF l n) k = getF l k := by
  cases hg : getF l k with
  | none => exact getF_no fun p hp => getF_none hg p (mem_del.1 hp).1
  | some x => exact getF_mem (apart_of_sorted (flist_del h n).2.1) (mem_del.2 ⟨getF_some hg, hne⟩)
theorem mem_insF' (l : List (ByteArray × Fl)) (n : ByteArray) (x : Fl) : (n, x) ∈ insF l n x := (insF_perm l n x).mem_iff.2 (by simp)
theorem getF_ins_self {l : List (ByteArray × Fl)} {n : ByteArray} {x : Fl} (h : flist (insF l n x)) : getF (insF l n x) n = some x := getF_mem (apart_of_sorted h.2.1) (mem_insF' _ _ _)
theorem getF_ins_other {l : List (ByteArray × Fl)} {n k : ByteArray} {x : Fl} (hl : flist l) (h : flist (insF l n x)) (hne : k ≠ n) : getF (insF l n x) k = getF l k := by
  cases hg : getF l k with
  | none =>
    refine getF_no fun p hp e => ?_
    rcases mem_insF hp with rfl | hp
    · exact hne e.symm
    · exact getF_none hg p hp e
  | some y => exact getF_mem (apart_of_sorted h.2.1) ((insF_perm l n x).mem_iff.2 (List.mem_cons_of_mem _ (getF_some hg)))
theorem FsOk.burn_ {a : Fs} (hok : FsOk a) : FsOk a.burn := ⟨hok.names, hok.sorted, hok.fls, hok.sum, (burn_fuse a hok.fuse1 hok.fuse2).1, (burn_fuse a hok.fuse1 hok.fuse2).2⟩
theorem remove_ok {a : Fs} {n : ByteArray} (h : FsOk a) : FsOk (a.remove n) := by
  refine FsOk.mk_ (flist_del (FsOk.flist h) n) ?_ h.fuse1 h.fuse2
  have h1 := sum_del (apart_of_sorted h.sorted) n
  have h2 := h.sum
  have h3 : (a.remove n).room = a.room + tkOf (getF a.files n) := rfl
  have h4 : (a.remove n).files = delF a.files n := rfl
  rw [h3, h4]
  omega
theorem delete_ok {a : Fs} {n : ByteArray} (h : FsOk a) : FsOk (a.delete n).2 := by
  unfold Fs.delete
  split
  · exact h
  · cases hg : getF a.files n with
    | none => exact h
    | some x =>
      simp only
      split
      · exact FsOk.fall h
      · exact remove_ok (FsOk.burn_ h)
theorem rename_ok {a : Fs} {n m : ByteArray} (h : FsOk a) : FsOk (a.rename n m).2 := by
  unfold Fs.rename
  split
  · exact h
  · cases hg : getF a.files n with
    | none => exact h
    | some x =>
      simp only
      split
      · exact h
      · rename_i hc
        split
        · exact FsOk.fall h
        · have hr : rightB m = true := by cases hr : rightB m with
            | true => rfl
            | false => exact absurd (.inl hr) hc
          have hmn : n ≠ m := fun e => hc (.inr e.symm)
          have hb := remove_ok (n := m) (FsOk.burn_ h)
          have hf1 := FsOk.flist hb
          have hf2 := flist_del hf1 n
          have hx := h.fls (n, x) (getF_some hg)
          have hgd : getF (delF a.files m) n = some x := (getF_del_other (FsOk.flist h) hmn).trans hg
          have hfin := flist_ins (x := { x with stamp := a.stamp + 1 }) hf2 hr (stamp_ok hx _) fun p hp e => (mem_del.1 (mem_del.1 hp).1).2 e
          refine FsOk.mk_ hfin ?_ hb.fuse1 hb.fuse2
          have h1 := sum_del (apart_of_sorted hf1.2.1) n
          have h2 := hb.sum
          have h3 := sum_ins (delF (a.burn.remove m).files n) m { x with stamp := a.stamp + 1 }
          have h4 : getF (a.burn.remove m).files n = some x := hgd
          rw [h4] at h1
          have h5 : tk { x with stamp := a.stamp + 1 } = tk x := rfl
          have h6 : tkOf (some x) = tk x := rfl
          have fin : (a.burn.remove m).room + ((insF (delF (a.burn.remove m).files n) m { x with stamp := a.stamp + 1 }).map fun p => tk p.2).sum ≤ 65536 := by
            rw [h3]
            omega
          exact fin
theorem up_rename {l : List (ByteArray × Fl)} {r s : Nat} {n m : ByteArray} {x : Fl} (hg : getF l n = some x) (hr : rightB m = true) (hmn : m ≠ n) :
    (up l r s).rename n m = (0, up (insF (delF (delF l m) n) m { x with stamp := s + 1 }) (r + tkOf (getF l m)) (s + 1)) := by
  unfold Fs.rename
  rw [if_neg (by simp), show (up l r s).files = l from rfl, hg]
  simp only
  rw [if_neg (by rw [hr]; simp [hmn]), if_neg (by simp)]
  rfl
end Go.Proofs.Ytelghdfikcodmaa.vfs
