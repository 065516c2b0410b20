import Derived.Test.YtcdehklcdipcfaaGreatMgVc
import Derived.Test.YtcdehklcdipcfaaGreatOpen
/- Several of my own texts, one behind the other. -/
/-
  The first bytes of a file; rows that a call owns, beside the store. My own text.
-/
namespace Go.Proofs.YtcdehklcdipcfaaGreat.vfs
open Go.RowKit Go.Maps Go.Proofs.YtcdehklcdipcfaaGreat.base Go.Proofs.YtcdehklcdipcfaaGreat.vfsnum
set_option linter.unusedVariables false

theorem Own.store {w : World} {base : Nat} {e : TypeId} {g n c : Nat} {xs : List Value} (h : Own w base e (some ⟨g, 0, none⟩) n c xs) (j : Nat) (hj : j < n) (u : Value) :
    Own (w.setCell ⟨g, j, none⟩ u) base e (some ⟨g, 0, none⟩) n c (xs.set j u) := (World.ownsRow.stored h j u).1
/-- a row lies apart from blocks -/
def OffRow (A : Option Addr) (n c : Nat) (S : List Nat) : Prop := ∀ b, (Value.slice A n c).ownBlock = some b → b ∉ S
theorem Own.turn {w w' : World} {base : Nat} {e : TypeId} {A : Option Addr} {n c : Nat} {xs : List Value} {S S' : List Nat} (h : Own w base e A n c xs) (k : Turn S S' w w') (hS : OffRow A n c S) : Own w' base e A n c xs ∧ OffRow A n c S' := by
  refine ⟨⟨h.1, ?_⟩, fun b hb => ?_⟩
  · rcases h.2 with h2 | ⟨g, cap, cur, hv, hb, hg, r⟩
    · exact .inl h2
    · refine .inr ⟨g, cap, cur, hv, hb, ?_, r⟩
      rw [k.block g (Array.getElem?_eq_some_iff.1 hg).1 (hS g (by rw [hv]; rfl))]
      exact hg
  · refine k.apart ?_ (hS b hb)
    exact (World.ownsRow.lt h b hb).2
theorem Own.off {w : World} {base : Nat} {e : TypeId} {A : Option Addr} {n c : Nat} {xs : List Value} {S : List Nat} (h : Own w base e A n c xs) (hS : ∀ b ∈ S, b < base) : OffRow A n c S := fun b hb h' => by
  have := (World.ownsRow.lt h b hb).1
  have := hS b h'
  omega
theorem Own.rdOff {w : World} {base : Nat} {S : List Nat} {e : TypeId} {A : Option Addr} {n c : Nat} {xs : List Value} (h : Own w base e A n c xs) (hS : OffRow A n c S) : RdA w S A n xs := by
  refine ⟨by simpa using h.1, fun hn => ?_⟩
  obtain ⟨g, cap, hv, hb, hlt⟩ := World.ownsRow.form h hn
  injection hv with hA _ _
  subst hA
  refine ⟨g, 0, rfl, hlt, hS g rfl, fun j u hu => ?_⟩
  have := World.ownsRow.cells h (g := g) rfl j u hu
  have hadd : (⟨g, 0, none⟩ : Addr).add j = ⟨g, 0 + j, none⟩ := by unfold Addr.add; split <;> simp_all
  rwa [hadd] at this
theorem FsAt.but {w w' : World} {f g : Nat} {a : Fs} {bl : List Nat} (h : FsAt w f a bl) (k : But g w w') (hg : g ∉ bl) : FsAt w' f a bl :=
  h.turn (Turn.but (S := [g]) k (by simp)) fun b hb h' => by
    rw [List.mem_singleton] at h'
    exact hg (h' ▸ hb)

/-- the first bytes of a file are there -/
def Put (w : World) (f : Nat) (bl : List Nat) (l : List (ByteArray × Fl)) (r s : Nat) (n : ByteArray) (x : Fl) (bs : Bs) (e : Ending) (w' : World) : Prop :=
  e = .returned (.int .i64 0) ∧ ∃ y r' s' bl', FsAt w' f (up (updF l n y) r' s') bl' ∧ Turn bl bl' w w' ∧ FsOk (up (updF l n y) r' s') ∧ y.bs = bs ∧ r' + takes bs.length = r ∧ s' ≤ s + 1
theorem put_any (w : World) (f : Nat) (l : List (ByteArray × Fl)) (r s : Nat) (n : ByteArray) (bl : List Nat) (x : Fl) (A : Option Addr) (m c : Nat) (bs : Bs) (h : FsAt w f (up l r s) bl) (hok : FsOk (up l r s)) (hs : s < 4611686018427387904) (hn : n.size ≤ maxLen) (hg : getF l n = some x) (hx : x.bs = [])
    (hr : RdA w bl A m (bs.map bv)) (hroom : takes bs.length ≤ r) (hc : m ≤ c) (hcm : c ≤ maxLen) :
    Calls Tryz.prog 103 #[fsPtr f, .string n, .int .i64 0, .slice A m c] w (Put w f bl l r s n x bs) := by
  have hm : bs.length = m := by have := hr.1; rwa [List.length_map] at this
  have ht : tk x = 0 := by unfold tk; rw [hx]; rfl
  by_cases hb : bs.length = 0
  · obtain rfl : bs = [] := List.eq_nil_of_length_eq_zero hb
    obtain rfl : m = 0 := hm.symm
    refine (write_up0 w f l r s n bl x 0 A c h hok hs hn hg (Nat.zero_le _) hcm).mono ?_
    rintro e w' ⟨rfl, bl', hF, hT⟩
    have e : updF l n x = l := by
      obtain ⟨l1, l2, rfl, hu⟩ := updF_parts (apart_of_sorted hok.sorted) hg
      exact hu x
    refine ⟨rfl, x, r, s, bl', ?_, hT, ?_, hx, rfl, by omega⟩
    · rw [e]; exact hF
    · rw [e]; exact hok
  · have hro : takes (0 + bs.length) - tk x ≤ r := by rw [Nat.zero_add]; omega
    refine (write_up w f l _ r _ s _ n bl x 0 A m c bs h hok hs hn hg hr (Nat.zero_le _) hro hb hc hcm rfl rfl rfl).mono ?_
    rintro e w' ⟨rfl, bl', hF, hT⟩
    refine ⟨rfl, _, _, _, bl', hF, hT, up_write_ok hok hg (Nat.zero_le _) hro hb rfl rfl rfl, ?_, ?_, by omega⟩
    · show x.bs.take 0 ++ (bs ++ x.bs.drop (0 + bs.length)) = bs
      rw [hx]; simp
    · rw [Nat.zero_add, ht]; omega
end Go.Proofs.YtcdehklcdipcfaaGreat.vfs
/-
  The contracts of the store's remove, Delete, Rename. My own text.
-/
namespace Go.Proofs.YtcdehklcdipcfaaGreat.vfs
open Go.RowKit Go.Maps Go.Proofs.YtcdehklcdipcfaaGreat.base Go.Proofs.YtcdehklcdipcfaaGreat.vfsnum
set_option linter.unusedVariables false

def less (gs : List Gh) (n : ByteArray) : List Gh := gs.filter fun x => decide (x.name ≠ n)
theorem less_miss {gs : List Gh} {n : ByteArray} (h : ∀ x ∈ gs, x.name ≠ n) : less gs n = gs := by unfold less; exact List.filter_eq_self.2 fun x hx => by simpa using h x hx
theorem less_split {g1 g2 : List Gh} {x : Gh} (ha : (g1 ++ x :: g2).Pairwise fun x y => x.name ≠ y.name) : less (g1 ++ x :: g2) x.name = g1 ++ g2 := by
  rw [List.pairwise_append, List.pairwise_cons] at ha
  obtain ⟨_, ⟨h2, _⟩, h4⟩ := ha
  have e1 : less g1 x.name = g1 := less_miss fun y hy => h4 y hy x (by simp)
  have e2 : less g2 x.name = g2 := less_miss fun y hy => (h2 y hy).symm
  unfold less at *
  rw [List.filter_append, List.filter_cons, if_neg (by simp), e1, e2]
theorem delF_less (gs : List Gh) (n : ByteArray) : delF (gs.map Gh.fst) n = (less gs n).map Gh.fst := by
  unfold delF less
  rw [List.filter_map]
  rfl
/-- a file is dropped -/
theorem FsG.drop {w w' : World} {f mb : Nat} {a : Fs} {g1 g2 : List Gh} {x : Gh} (h : FsG w f a mb (g1 ++ x :: g2)) (hbut : But mb w w') (hm : MapOf Tryz.prog 9 w' mb ((g1 ++ g2).map Gh.kv)) :
    FsG w' f { a with files := (g1 ++ g2).map Gh.fst } mb (g1 ++ g2) ∧ Turn (fsBlocks f mb (g1 ++ x :: g2)) (fsBlocks f mb (g1 ++ g2)) w w' ∧ FileRaw w' x.g (rawOf x.fl) x.bl ∧ ∀ b ∈ x.bl, b ∉ fsBlocks f mb (g1 ++ g2) := by
  have hnd := h.1
  have hsl : (fsBlocks f mb (g1 ++ g2)).Sublist (fsBlocks f mb (g1 ++ x :: g2)) := by
    simp only [fsBlocks, List.flatMap_append, List.flatMap_cons]
    exact ((List.Sublist.append_left (List.sublist_append_right _ _) _).cons_cons mb).cons_cons f
  have hr := h.remap (g1 ++ g2) hbut hm _ rfl (fun y hy => ⟨y, by rcases List.mem_append.1 hy with h | h <;> simp [h], rfl, rfl, rfl⟩) (hnd.sublist hsl)
  have hap : ∀ b ∈ x.bl, b ∉ fsBlocks f mb (g1 ++ g2) := by
    intro b hb hb2
    simp only [fsBlocks, List.flatMap_append, List.flatMap_cons, List.nodup_cons, List.nodup_append, List.mem_append, List.mem_cons] at hnd hb2
    obtain ⟨h1, h2, h3, ⟨h4, h5, h6⟩, h7⟩ := hnd
    rcases hb2 with rfl | rfl | hb2 | hb2
    · exact h1 (.inr (.inr (.inl hb)))
    · exact h2 (.inr (.inl hb))
    · exact h7 b hb2 b (.inl hb) rfl
    · exact h6 b hb b hb2 rfl
  refine ⟨hr.1, hr.2, (h.2.2.2.2 x (by simp)).keep fun b hb => hbut.block b (h.inside b (FsG.block_in b hb)) fun e => ?_, hap⟩
  injection e with e
  exact hap b hb (by simp [fsBlocks, e])
theorem kv_split {g1 g2 : List Gh} {x : Gh} : ((g1 ++ x :: g2).map Gh.kv).Perm ((Value.string x.name, Value.pointer (some ⟨x.g, 0, none⟩)) :: (g1 ++ g2).map Gh.kv) := by
  rw [List.map_append, List.map_cons, List.map_append]
  exact List.perm_middle

end Go.Proofs.YtcdehklcdipcfaaGreat.vfs
/-
  What holds of every store stays so: remove, delete, rename; files' names behind them. My own text.
-/
namespace Go.Proofs.YtcdehklcdipcfaaGreat.vfs
open Go.RowKit Go.Maps Go.Proofs.YtcdehklcdipcfaaGreat.base Go.Proofs.YtcdehklcdipcfaaGreat.vfsnum
set_option linter.unusedVariables false

theorem del_none {l : List (ByteArray × Fl)} {n : ByteArray} (h : getF l n = none) : delF l n = l := List.filter_eq_self.2 fun p hp => by simpa using getF_none h p hp
theorem del_parts {l : List (ByteArray × Fl)} (ha : Apart l) {n : ByteArray} {x : Fl} (hg : getF l n = some x) : ∃ l1 l2, l = l1 ++ (n, x) :: l2 ∧ delF l n = l1 ++ l2 := by
  obtain ⟨l1, l2, rfl⟩ := List.append_of_mem (getF_some hg)
  refine ⟨l1, l2, rfl, ?_⟩
  unfold Apart at ha
  rw [List.pairwise_append, List.pairwise_cons] at ha
  obtain ⟨_, ⟨h2, _⟩, h4⟩ := ha
  have e1 : l1.filter (fun p => decide (p.1 ≠ n)) = l1 := List.filter_eq_self.2 fun p hp => by simpa using h4 p hp (n, x) (by simp)
  have e2 : l2.filter (fun p => decide (p.1 ≠ n)) = l2 := List.filter_eq_self.2 fun p hp => by simpa using (h2 p hp).symm
  unfold delF
  rw [List.filter_append, List.filter_cons, if_neg (by simp), e1, e2]
def tkOf (o : Option Fl) : Nat := match o with
  | some x => tk x
  | none => 0
theorem sum_del {l : List (ByteArray × Fl)} (ha : Apart l) (n : ByteArray) : ((delF l n).map fun p => tk p.2).sum + tkOf (getF l n) = (l.map fun p => tk p.2).sum := by
  cases hg : getF l n with
  | none => rw [del_none hg]; rfl
  | some x =>
    obtain ⟨l1, l2, rfl, e⟩ := del_parts ha hg
    rw [e]
    simp only [List.map_append, List.map_cons, List.sum_append, List.sum_cons, tkOf]
    omega
theorem del_len {l : List (ByteArray × Fl)} (ha : Apart l) {n : ByteArray} {x : Fl} (hg : getF l n = some x) : (delF l n).length + 1 = l.length := by
  obtain ⟨l1, l2, rfl, e⟩ := del_parts ha hg
  rw [e]
  simp
  omega
theorem mem_del {l : List (ByteArray × Fl)} {n : ByteArray} {p : ByteArray × Fl} : p ∈ delF l n ↔ p ∈ l ∧ p.1 ≠ n := by
  unfold delF
  rw [List.mem_filter]
  simp
theorem flist_del {l : List (ByteArray × Fl)} (h : flist l) (n : ByteArray) : flist (delF l n) :=
  ⟨fun p hp => h.1 p (mem_del.1 hp).1, h.2.1.filter _, fun p hp => h.2.2 p (mem_del.1 hp).1⟩
theorem getF_no {l : List (ByteArray × Fl)} {n : ByteArray} (h : ∀ p ∈ l, p.1 ≠ n) : getF l n = none := by
  cases hg : getF l n with
  | none => rfl
  | some x => exact absurd rfl (h _ (getF_some hg))
theorem getF_del_other {l : List (ByteArray × Fl)} (h : flist l) {n k : ByteArray} (hne : k ≠ n) : getF (delF l n) k = getF l k := by
  cases hg : getF l k with
  | none => exact getF_no fun p hp => getF_none hg p (mem_del.1 hp).1
  | some x => exact getF_mem (apart_of_sorted (flist_del h n).2.1) (mem_del.2 ⟨getF_some hg, hne⟩)
theorem mem_insF' (l : List (ByteArray × Fl)) (n : ByteArray) (x : Fl) : (n, x) ∈ insF l n x := (insF_perm l n x).mem_iff.2 (by simp)
theorem getF_ins_self {l : List (ByteArray × Fl)} {n : ByteArray} {x : Fl} (h : flist (insF l n x)) : getF (insF l n x) n = some x := getF_mem (apart_of_sorted h.2.1) (mem_insF' _ _ _)
theorem getF_ins_other {l : List (ByteArray × Fl)} {n k : ByteArray} {x : Fl} (hl : flist l) (h : flist (insF l n x)) (hne : k ≠ n) : getF (insF l n x) k = getF l k := by
  cases hg : getF l k with
  | none =>
    refine getF_no fun p hp e => ?_
    rcases mem_insF hp with rfl | hp
    · exact hne e.symm
    · exact getF_none hg p hp e
  | some y => exact getF_mem (apart_of_sorted h.2.1) ((insF_perm l n x).mem_iff.2 (List.mem_cons_of_mem _ (getF_some hg)))
theorem FsOk.burn_ {a : Fs} (hok : FsOk a) : FsOk a.burn := ⟨hok.names, hok.sorted, hok.fls, hok.sum, (burn_fuse a hok.fuse1 hok.fuse2).1, (burn_fuse a hok.fuse1 hok.fuse2).2⟩
theorem remove_ok {a : Fs} {n : ByteArray} (h : FsOk a) : FsOk (a.remove n) := by
  refine FsOk.mk_ (flist_del (FsOk.flist h) n) ?_ h.fuse1 h.fuse2
  have h1 := sum_del (apart_of_sorted h.sorted) n
  have h2 := h.sum
  have h3 : (a.remove n).room = a.room + tkOf (getF a.files n) := rfl
  have h4 : (a.remove n).files = delF a.files n := rfl
  rw [h3, h4]
  omega
theorem delete_ok {a : Fs} {n : ByteArray} (h : FsOk a) : FsOk (a.delete n).2 := by
  unfold Fs.delete
  split
  · exact h
  · cases hg : getF a.files n with
    | none => exact h
    | some x =>
      simp only
      split
      · exact FsOk.fall h
      · exact remove_ok (FsOk.burn_ h)
theorem rename_ok {a : Fs} {n m : ByteArray} (h : FsOk a) : FsOk (a.rename n m).2 := by
  unfold Fs.rename
  split
  · exact h
  · cases hg : getF a.files n with
    | none => exact h
    | some x =>
      simp only
      split
      · exact h
      · rename_i hc
        split
        · exact FsOk.fall h
        · have hr : rightB m = true := by cases hr : rightB m with
            | true => rfl
            | false => exact absurd (.inl hr) hc
          have hmn : n ≠ m := fun e => hc (.inr e.symm)
          have hb := remove_ok (n := m) (FsOk.burn_ h)
          have hf1 := FsOk.flist hb
          have hf2 := flist_del hf1 n
          have hx := h.fls (n, x) (getF_some hg)
          have hgd : getF (delF a.files m) n = some x := (getF_del_other (FsOk.flist h) hmn).trans hg
          have hfin := flist_ins (x := { x with stamp := a.stamp + 1 }) hf2 hr (stamp_ok hx _) fun p hp e => (mem_del.1 (mem_del.1 hp).1).2 e
          refine FsOk.mk_ hfin ?_ hb.fuse1 hb.fuse2
          have h1 := sum_del (apart_of_sorted hf1.2.1) n
          have h2 := hb.sum
          have h3 := sum_ins (delF (a.burn.remove m).files n) m { x with stamp := a.stamp + 1 }
          have h4 : getF (a.burn.remove m).files n = some x := hgd
          rw [h4] at h1
          have h5 : tk { x with stamp := a.stamp + 1 } = tk x := rfl
          have h6 : tkOf (some x) = tk x := rfl
          have fin : (a.burn.remove m).room + ((insF (delF (a.burn.remove m).files n) m { x with stamp := a.stamp + 1 }).map fun p => tk p.2).sum ≤ 65536 := by
            rw [h3]
            omega
          exact fin
theorem up_rename {l : List (ByteArray × Fl)} {r s : Nat} {n m : ByteArray} {x : Fl} (hg : getF l n = some x) (hr : rightB m = true) (hmn : m ≠ n) :
    (up l r s).rename n m = (0, up (insF (delF (delF l m) n) m { x with stamp := s + 1 }) (r + tkOf (getF l m)) (s + 1)) := by
  unfold Fs.rename
  rw [if_neg (by simp), show (up l r s).files = l from rfl, hg]
  simp only
  rw [if_neg (by rw [hr]; simp [hmn]), if_neg (by simp)]
  rfl
end Go.Proofs.YtcdehklcdipcfaaGreat.vfs
