/-
  The first bytes of a file; rows that a call owns, beside the store. My own text.
-/
import Derived.Test.YtelghdfikcodmaaVfsUse
import Derived.Test.YtelghdfikcodmaaOpen
namespace Go.Proofs.Ytelghdfikcodmaa.vfs
open Go.RowKit Go.Maps Go.Proofs.Ytelghdfikcodmaa.base Go.Proofs.Ytelghdfikcodmaa.vfsnum
set_option linter.unusedVariables false

theorem Own.store {w : World} {base : Nat} {e : TypeId} {g n c : Nat} {xs : List Value} (h : Own w base e (some ⟨g, 0, none⟩) n c xs) (j : Nat) (hj : j < n) (u : Value) :
    Own (w.setCell ⟨g, j, none⟩ u) base e (some ⟨g, 0, none⟩) n c (xs.set j u) := (World.ownsRow.stored h j u).1
/-- a row lies apart from blocks -/
def OffRow (A : Option Addr) (n c : Nat) (S : List Nat) : Prop := ∀ b, (Value.slice A n c).ownBlock = some b → b ∉ S
theorem Own.turn {w w' : World} {base : Nat} {e : TypeId} {A : Option Addr} {n c : Nat} {xs : List Value} {S S' : List Nat} (h : Own w base e A n c xs) (k : Turn S S' w w') (hS : OffRow A n c S) : Own w' base e A n c xs ∧ OffRow A n c S' := by
  refine ⟨⟨h.1, ?_⟩, fun b hb => ?_⟩
  · rcases h.2 with h2 | ⟨g, cap, cur, hv, hb, hg, r⟩
    · exact .inl h2
    · refine .inr ⟨g, cap, cur, hv, hb, ?_, r⟩
      rw [k.block g (Array.getElem?_eq_some_iff.1 hg).1 (hS g (by rw [hv]; rfl))]
      exact hg
  · refine k.apart ?_ (hS b hb)
    exact (World.ownsRow.lt h b hb).2
theorem Own.off {w : World} {base : Nat} {e : TypeId} {A : Option Addr} {n c : Nat} {xs : List Value} {S : List Nat} (h : Own w base e A n c xs) (hS : ∀ b ∈ S, b < base) : OffRow A n c S := fun b hb h' => by
  have := (World.ownsRow.lt h b hb).1
  have := hS b h'
  omega
theorem Own.rdOff {w : World} {base : Nat} {S : List Nat} {e : TypeId} {A : Option Addr} {n c : Nat} {xs : List Value} (h : Own w base e A n c xs) (hS : OffRow A n c S) : RdA w S A n xs := by
  refine ⟨by simpa using h.1, fun hn => ?_⟩
  obtain ⟨g, cap, hv, hb, hlt⟩ := World.ownsRow.form h hn
  injection hv with hA _ _
  subst hA
  refine ⟨g, 0, rfl, hlt, hS g rfl, fun j u hu => ?_⟩
  have := World.ownsRow.cells h (g := g) rfl j u hu
  have hadd : (⟨g, 0, none⟩ : Addr).add j = ⟨g, 0 + j, none⟩ := by unfold Addr.add; split <;> simp_all
  rwa [hadd] at this
theorem FsAt.but {w w' : World} {f g : Nat} {a : Fs} {bl : List Nat} (h : FsAt w f a bl) (k : But g w w') (hg : g ∉ bl) : FsAt w' f a bl :=
  h.turn (Turn.but (S := [g]) k (by simp)) fun b hb h' => by
    rw [List.mem_singleton] at h'
    exact hg (h' ▸ hb)

/-- the first bytes of a file are there -/
def Put (w : World) (f : Nat) (bl : List Nat) (l : List (ByteArray × Fl)) (r s : Nat) (n : ByteArray) (x : Fl) (bs : Bs) (e : Ending) (w' : World) : Prop :=
  e = .returned (.int .i64 0) ∧ ∃ y r' s' bl', FsAt w' f (up (updF l n y) r' s') bl' ∧ Turn bl bl' w w' ∧ FsOk (up (updF l n y) r' s') ∧ y.bs = bs ∧ r' + takes bs.length = r ∧ s' ≤ s + 1
theorem put_any (w : World) (f : Nat) (l : List (ByteArray × Fl)) (r s : Nat) (n : ByteArray) (bl : List Nat) (x : Fl) (A : Option Addr) (m c : Nat) (bs : Bs) (h : FsAt w f (up l r s) bl) (hok : FsOk (up l r s)) (hs : s < 4611686018427387904) (hn : n.size ≤ maxLen) (hg : getF l n = some x) (hx : x.bs = [])
    (hr : RdA w bl A m (bs.map bv)) (hroom : takes bs.length ≤ r) (hc : m ≤ c) (hcm : c ≤ maxLen) :
    Calls Try.prog 40 #[fsPtr f, .string n, .int .i64 0, .slice A m c] w (Put w f bl l r s n x bs) := by
  have hm : bs.length = m := by have := hr.1; rwa [List.length_map] at this
  have ht : tk x = 0 := by unfold tk; rw [hx]; rfl
  by_cases hb : bs.length = 0
  · obtain rfl : bs = [] := List.eq_nil_of_length_eq_zero hb
    obtain rfl : m = 0 := hm.symm
    refine (write_up0 w f l r s n bl x 0 A c h hok hs hn hg (Nat.zero_le _) hcm).mono ?_
    rintro e w' ⟨rfl, bl', hF, hT⟩
    have e : updF l n x = l := by
      obtain ⟨l1, l2, rfl, hu⟩ := updF_parts (apart_of_sorted hok.sorted) hg
      exact hu x
    refine ⟨rfl, x, r, s, bl', ?_, hT, ?_, hx, rfl, by omega⟩
    · rw [e]; exact hF
    · rw [e]; exact hok
  · have hro : takes (0 + bs.length) - tk x ≤ r := by rw [Nat.zero_add]; omega
    refine (write_up w f l _ r _ s _ n bl x 0 A m c bs h hok hs hn hg hr (Nat.zero_le _) hro hb hc hcm rfl rfl rfl).mono ?_
    rintro e w' ⟨rfl, bl', hF, hT⟩
    refine ⟨rfl, _, _, _, bl', hF, hT, up_write_ok hok hg (Nat.zero_le _) hro hb rfl rfl rfl, ?_, ?_, by omega⟩
    · show x.bs.take 0 ++ (bs ++ x.bs.drop (0 + bs.length)) = bs
      rw [hx]; simp
    · rw [Nat.zero_add, ht]; omega
end Go.Proofs.Ytelghdfikcodmaa.vfs
