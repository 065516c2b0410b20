import Derived.Test.YtmnegmebkmihhaaGreatDoorMgOpn
import Derived.Test.YtmnegmebkmihhaaGreatDoorZipLaw
import Derived.Test.YtmnegmebkmihhaaGreatDoorMgUza
import Derived.Test.YtmnegmebkmihhaaGreatDoorUnzOpen
/-
  What ZipMany's walk takes: names of three letters. My own text.
-/
namespace Go.Proofs.YtmnegmebkmihhaaGreatDoor.zipp
open Go.RowKit Go.Maps Go.Proofs.YtmnegmebkmihhaaGreatDoor.base Go.Proofs.YtmnegmebkmihhaaGreatDoor.num Go.Proofs.YtmnegmebkmihhaaGreatDoor.recn Go.Proofs.YtmnegmebkmihhaaGreatDoor.recp Go.Proofs.YtmnegmebkmihhaaGreatDoor.nam Go.Proofs.YtmnegmebkmihhaaGreatDoor.namp Go.Proofs.YtmnegmebkmihhaaGreatDoor.zipn
set_option linter.unusedVariables false
def rsK (k : Nat) : List Nat := [97 + k % 26, 97 + k / 26 % 26, 97 + k / 676]
def nmK (k : Nat) : List UInt8 := [UInt8.ofNat (97 + k % 26), UInt8.ofNat (97 + k / 26 % 26), UInt8.ofNat (97 + k / 676)]
def nmS (k : Nat) : ByteArray := ⟨(nmK k).toArray⟩
def plK (c : UInt8) (k : Nat) : Pl := ⟨rsK k, 2162688, [c]⟩
theorem rs_lt {k : Nat} (hk : k ≤ 1000) : ∀ r ∈ rsK k, 97 ≤ r ∧ r < 123 := by
  intro r hr
  simp only [rsK, List.mem_cons, List.not_mem_nil, or_false] at hr
  rcases hr with rfl | rfl | rfl <;> omega
theorem tx_K {k : Nat} (hk : k ≤ 1000) : tx (rsK k) = nmK k := by
  have h : ∀ r, 97 ≤ r ∧ r < 123 → en r = [UInt8.ofNat r] := fun r hr => by unfold en; rw [if_pos (by omega)]
  have hr := rs_lt hk
  simp only [rsK, List.mem_cons, List.not_mem_nil, or_false] at hr
  unfold rsK nmK
  rw [tx_cons, tx_cons, tx_cons, h _ (hr _ (.inl rfl)), h _ (hr _ (.inr (.inl rfl))), h _ (hr _ (.inr (.inr rfl)))]
  rfl
theorem ok_K (c : UInt8) {k : Nat} (hk : k ≤ 1000) : (plK c k).Ok where
  rn := fun r hr => .inl (by have := rs_lt hk r hr; omega)
  may := by
    show mayP (rsK k) [] = true
    unfold mayP
    rw [List.append_nil, tx_K hk]
    simp only [Bool.and_eq_true, decide_eq_true_eq]
    refine ⟨by simp [nmK], by simp [nmK], by first | trivial | rfl, ?_⟩
    rw [List.all_eq_true]
    intro r hr
    have := rs_lt hk r hr
    simp only [Bool.and_eq_true, decide_eq_true_eq]
    omega
  mom := ok_a.mom
  len := by show [c].length ≤ 65536; simp
theorem u8_inj {a b : Nat} (ha : a < 256) (hb : b < 256) (h : UInt8.ofNat a = UInt8.ofNat b) : a = b := by
  have := congrArg UInt8.toNat h
  rwa [nat_u8 a ha, nat_u8 b hb] at this
theorem nmK_inj {i j : Nat} (hi : i ≤ 1000) (hj : j ≤ 1000) (h : nmK i = nmK j) : i = j := by
  unfold nmK at h
  injection h with h1 h
  injection h with h2 h
  injection h with h3 _
  have e1 := u8_inj (by omega) (by omega) h1
  have e2 := u8_inj (by omega) (by omega) h2
  have e3 := u8_inj (by omega) (by omega) h3
  omega
theorem nmS_inj {i j : Nat} (hi : i ≤ 1000) (hj : j ≤ 1000) (h : nmS i = nmS j) : i = j := by
  refine nmK_inj hi hj ?_
  have : (nmS i).data.toList = (nmS j).data.toList := by rw [h]
  exact this
theorem nodup_range {α : Type} (f : Nat → α) (N : Nat) (h : ∀ i j, i < N → j < N → f i = f j → i = j) : ((List.range N).map f).Nodup := by
  unfold List.Nodup
  rw [List.pairwise_map, List.pairwise_iff_getElem]
  intro i j hi hj hij
  rw [List.length_range] at hi hj
  rw [List.getElem_range, List.getElem_range]
  intro e
  have := h i j hi hj e
  omega
/-- the items so far -/
def Mn (w : World) (c : UInt8) (l : List Itm) (j : Nat) : Prop :=
  l.map (·.s) = (List.range j).map nmS ∧ ∀ i ∈ l, i.dt = 2162688 ∧ i.n = 1 ∧ i.bs = [c] ∧ i.how = 0 ∧ i.wd = false ∧ i.ds = false ∧ ∃ g, i.A = some ⟨g, 0, none⟩ ∧ Bk w g 5 [bv c]
theorem Mn.fresh {w w' : World} {c : UInt8} {l : List Itm} {j : Nat} (h : Mn w c l j) (hf : Fresh w w') : Mn w' c l j :=
  ⟨h.1, fun i hi => by obtain ⟨a, b, c, d, e, f, g⟩ := h.2 i hi; obtain ⟨q, hq, hb⟩ := g; exact ⟨a, b, c, d, e, f, q, hq, hb.fresh hf⟩⟩
theorem Mn.grown {w w' : World} {base n q : Nat} {A : Option Addr} {L : List Itm} {c : UInt8} {l : List Itm} {j : Nat} (h : Mn w c l j) (ho : OwnK w base tItem 6 A n q itmV L) (hg : w.grownBy w' (Value.slice A n q).ownBlock) : Mn w' c l j :=
  ⟨h.1, fun i hi => by obtain ⟨a, b, c, d, e, f, g⟩ := h.2 i hi; obtain ⟨x, hx, hb⟩ := g; exact ⟨a, b, c, d, e, f, x, hx, hb.grown hg (ho.ne hb (by decide))⟩⟩
theorem Mn.rd {w : World} {c : UInt8} {l : List Itm} {j : Nat} (h : Mn w c l j) : ∀ s ∈ l, Rd w w.heap.size s.A s.n (s.bs.map bv) := fun s hs => by
  obtain ⟨_, b, c, _, _, _, g, hg, hb⟩ := h.2 s hs
  rw [b, c, hg]
  exact ⟨rfl, fun _ => ⟨g, 0, rfl, hb.inside, fun j u hu => by rw [Nat.zero_add]; exact hb.cell hu⟩⟩
theorem Mn.len {w : World} {c : UInt8} {l : List Itm} {j : Nat} (h : Mn w c l j) : l.length = j := by
  have := congrArg List.length h.1
  rwa [List.length_map, List.length_map, List.length_range] at this
theorem Mn.next {w : World} {c : UInt8} {l : List Itm} {j : Nat} (h : Mn w c l j) {g q : Nat} (hr : Bk w g 5 [bv c]) : Mn w c (l ++ [⟨nmS j, 2162688, some ⟨g, 0, none⟩, 1, q, [c], 0, false, false⟩]) (j + 1) := by
  refine ⟨by rw [List.map_append, h.1, List.range_succ, List.map_append]; rfl, fun i hi => ?_⟩
  rcases List.mem_append.1 hi with hi | hi
  · exact h.2 i hi
  · rw [List.mem_singleton] at hi
    subst hi
    exact ⟨rfl, rfl, rfl, rfl, rfl, rfl, g, rfl, hr⟩
theorem Mn.pl {w : World} {c : UInt8} {l : List Itm} {j : Nat} (h : Mn w c l j) (hj : j ≤ 1001) (k : Nat) (i : Itm) (x : Pl) (hi : l[k]? = some i) (hx : ((List.range j).map (plK c))[k]? = some x) : IsPl i x := by
  have hk : k < j := by
    have := (List.getElem?_eq_some_iff.1 hi).1
    rw [h.len] at this
    exact this
  have hxe : x = plK c k := by
    rw [List.getElem?_map, List.getElem?_range hk] at hx
    injection hx with hx
    exact hx.symm
  have hse : i.s = nmS k := by
    have h1 : (l.map (·.s))[k]? = some i.s := by rw [List.getElem?_map, hi]; rfl
    rw [h.1, List.getElem?_map, List.getElem?_range hk] at h1
    injection h1 with h1
    exact h1.symm
  obtain ⟨a, b, c', d, e, f, _⟩ := h.2 i (List.mem_of_getElem? hi)
  subst hxe
  exact ⟨by rw [hse]; show (nmK k) = tx (rsK k); rw [tx_K (by omega)], a, c', d, e, f, ok_K c (by omega)⟩
theorem arc_ok (c : UInt8) (N : Nat) (hN : N ≤ 1000) : unz.opn (arc ((List.range N).map (plK c))) = .ok (entsT 0 ((List.range N).map (plK c))) := by
  refine opn_arc _ (fun x hx => ?_) (by rw [List.length_map, List.length_range]; exact hN) ?_
  · obtain ⟨k, hk, rfl⟩ := List.mem_map.1 hx
    rw [List.mem_range] at hk
    exact ok_K c (by omega)
  · rw [List.map_map]
    refine nodup_range _ N fun i j hi hj e => ?_
    refine nmK_inj (by omega) (by omega) ?_
    have e' : tx (rsK i) = tx (rsK j) := e
    rwa [tx_K (by omega), tx_K (by omega)] at e'
end Go.Proofs.YtmnegmebkmihhaaGreatDoor.zipp
