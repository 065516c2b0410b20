/-
  record's ones, get, getWide: my own text.
-/
import Derived.Test.YtmnejphdjnlbjaaGreatDoorRecBeg
namespace Go.Proofs.YtmnejphdjnlbjaaGreatDoor.recp
open Go.RowKit Go.Proofs.YtmnejphdjnlbjaaGreatDoor.base Go.Proofs.YtmnejphdjnlbjaaGreatDoor.num Go.Proofs.YtmnejphdjnlbjaaGreatDoor.word Go.Proofs.YtmnejphdjnlbjaaGreatDoor.recn
set_option linter.unusedVariables false

theorem ones4 (w : World) : Calls Tryz.prog 40 #[.int .i64 4] w fun e w' => e = .returned (.int .i64 4294967295) ∧ w = w' := by
  go_enter Tryz.func40, Tryz.ntmps40
  go_wp2
  go_ret
  exact ⟨rfl, rfl⟩
theorem ones2 (w : World) : Calls Tryz.prog 40 #[.int .i64 2] w fun e w' => e = .returned (.int .i64 65535) ∧ w = w' := by
  go_enter Tryz.func40, Tryz.ntmps40
  go_wp2
  go_ret
  exact ⟨rfl, rfl⟩

/-- what get sets: the numbers of k bytes, one behind the other -/
def gets (k : Nat) (xs : List UInt8) (ps : List Addr) : List (Addr × Value) := ps.zipIdx.map fun x => (x.1, iv (nm xs (x.2 * k) k : Nat))
theorem gets_snoc (k : Nat) (xs : List UInt8) (ps : List Addr) (j : Nat) (p : Addr) (h : ps[j]? = some p) : gets k xs (ps.take (j + 1)) = gets k xs (ps.take j) ++ [(p, iv (nm xs (j * k) k : Nat))] := by
  have hj := (List.getElem?_eq_some_iff.1 h).1
  unfold gets
  rw [take_snoc _ _ _ h, List.zipIdx_append, List.map_append, List.length_take, Nat.min_eq_left (by omega)]
  simp
theorem gets_mem {k : Nat} {xs : List UInt8} {ps : List Addr} {S : List Nat} (h : ∀ p ∈ ps, p.block ∈ S) : ∀ x ∈ gets k xs ps, x.1.block ∈ S := by
  intro x hx
  obtain ⟨y, hy, rfl⟩ := List.mem_map.1 hx
  exact h _ (List.fst_mem_of_mem_zipIdx hy)

/-- what is left of the bytes, in a world behind w1 -/
def Got (S : List Nat) (w1 : World) (n : Nat) (xs : List UInt8) (e : Ending) (w' : World) : Prop :=
  ∃ A' c', e = .returned (.slice A' n c') ∧ n ≤ c' ∧ c' ≤ maxLen ∧ Fresh w1 w' ∧ RdA w' S A' n (xs.map bv)
set_option maxHeartbeats 1000000 in
/-- get -/
theorem get_any (A : Option Addr) (n c k : Nat) (xs : List UInt8) (D : Option Addr) (m d : Nat) (ps : List Addr) (S : List Nat) (w : World) (hr : RdA w S A n (xs.map bv)) (hc : n ≤ c) (hm : c ≤ maxLen) (hn : n ≤ 1099511627776) (hk : k = 2 ∨ k = 4)
    (hd : RdA w S D m (ps.map ptrA)) (hp : ∀ p ∈ ps, p.block ∈ S ∧ Wr w p) (hfit : m * k ≤ n) :
    Calls Tryz.prog 38 #[.slice A n c, .int .i64 k, .slice D m d] w (Got S (sets w (gets k xs ps)) (n - m * k) (xs.drop (m * k))) := by
  have hlp : ps.length = m := by have := hd.1; rwa [List.length_map] at this
  have hT : ∀ j, Turn S S w (sets w (gets k xs (ps.take j))) := fun j => sets_turn w _ (gets_mem fun p hp' => (hp p (List.mem_of_mem_take hp')).1)
  have hcut := ((hr.turn (hT m)).cut (lo := m * k) (hi := n) (cap := c) hfit (Nat.le_refl _) hc)
  rw [← List.map_drop, ← List.map_take, List.take_of_length_le (l := xs.drop (m * k)) (by have := hr.1; rw [List.length_map] at this; rw [List.length_drop]; omega)] at hcut
  have hw : ∀ z : Nat, z = 2 ∨ z = 4 → wide (z : Int) = z := by rintro z (rfl | rfl) <;> rfl
  have hget : ∀ (j : Nat) (z : Int), j < m → z = ((j * k : Nat) : Int) → Calls Tryz.prog 54 #[.slice A n c, .int .i64 z, .int .i64 k] (sets w (gets k xs (ps.take j))) fun e w' => e = .returned (.tuple #[.int .i64 (nm xs (j * k) k : Nat), .int .i64 0]) ∧ (sets w (gets k xs (ps.take j))) = w' := by
    intro j z hj hz
    subst hz
    have hjk : (j + 1) * k ≤ m * k := Nat.mul_le_mul_right _ hj
    rw [Nat.succ_mul] at hjk
    have := get_ok A n c xs (j * k) k (sets w (gets k xs (ps.take j))) _ (hr.turn (hT j)).rd hc hm (by rw [hw k hk]; omega)
    rwa [hw k hk] at this
  have hmk : m * k ≤ n := hfit
  have hkm : k * m = m * k := Nat.mul_comm _ _
  have hmul : ∀ j : Nat, (j : Int) * (k : Int) = ((j * k : Nat) : Int) := fun j => by simp
  have hk1 : 1 ≤ k := by omega
  have hmn : m ≤ m * k := Nat.le_mul_of_pos_right _ hk1
  have HG := Lib.hid hget
  have HD := Lib.hid hd
  have HP := Lib.hid hp
  have HT := Lib.hid hT
  have HLP := Lib.hid hlp
  have HCUT := Lib.hid hcut
  have HMUL := Lib.hid hmul
  have HMAX : RowKit.Hid (c ≤ maxLen) := hm
  have hbnd : m * k ≤ 1099511627776 := by omega
  unfold maxLen at hm
  clear hget hd hp hT hlp hcut hr hw hmk hkm hmul
  go_enter Tryz.func38, Tryz.ntmps38
  go_wp2
  go_loopw [11] (fun i wr => ∃ j : Nat, j ≤ m ∧ i = .int .i64 j ∧ Hid (wr = sets w (gets k xs (ps.take j)))) (fun i _ => m - (intOf i).toNat)
  case atStart => exact ⟨0, by omega, rfl, rfl⟩
  case round =>
    obtain ⟨j, hj, rfl, hwr⟩ := hrel
    have e := hwr.out
    subst e
    clear hwr
    by_cases hlt : j < m
    · obtain ⟨b, off, p, rfl, hb, hbS, hpx⟩ : ∃ b off p, D = some ⟨b, off, none⟩ ∧ b < w.heap.size ∧ b ∉ S ∧ ps[j]? = some p := by
        obtain ⟨b, off, e, hb, hS, _⟩ := HD.out.2 (by omega)
        exact ⟨b, off, ps[j]'(by have := HLP.out; omega), e, hb, hS, List.getElem?_eq_getElem _⟩
      have hcell : (sets w (gets k xs (ps.take j))).cell? ⟨b, off + j, none⟩ = some (ptrA p) := by
        obtain ⟨b', off', e, _, _, hc'⟩ := (HD.out.turn (HT.out j)).2 (by omega)
        injection e with e; injection e with e1 e2 _; subst e1; subst e2
        exact hc' j _ (by rw [List.getElem?_map, hpx]; rfl)
      obtain ⟨⟨pv, hpv⟩, hpf⟩ := ((HP.out p (List.mem_of_getElem? hpx)).2).sets (gets k xs (ps.take j))
      have hjk : (j + 1) * k ≤ m * k := Nat.mul_le_mul_right _ hlt
      rw [Nat.succ_mul] at hjk
      have hm1 := HMUL.out j
      have hb1 : 0 ≤ (j : Int) * (k : Int) := by rw [hm1]; omega
      have hb2 : (j : Int) * (k : Int) ≤ 140737488355328 := by rw [hm1]; omega
      have HGJ := Lib.hid (HG.out j _ hlt hm1)
      have HSN := Lib.hid (gets_snoc k xs ps j p hpx)
      clear hm1 hpx hjk
      generalize hW : sets w (gets k xs (ps.take j)) = W at *
      have HW := Lib.hid hW
      clear hW
      go_wp2_with (go_at_call 54; ((with_reducible refine (HGJ.out).mono ?_); rintro e w' ⟨rfl, rfl⟩))
      go_roundw
      case rel => exact ⟨j + 1, by omega, by go_num, by show _ = _; rw [HSN.out, sets_append, HW.out]; rfl⟩
      case measure => simp [intOf]; omega
    · have h0 : j = m := by omega
      subst h0
      have hm1 := HMUL.out j
      have hb1 : 0 ≤ (j : Int) * (k : Int) := by rw [hm1]; omega
      have hb2 : (j : Int) * (k : Int) ≤ (n : Int) := by rw [hm1]; omega
      have hlt' : ps.take j = ps := List.take_of_length_le (by have := HLP.out; omega)
      rw [hlt'] at HCUT
      rw [hlt']
      clear hlt'
      have HM1 := Lib.hid hm1
      clear hm1
      go_wp2
      all_goals go_ret
      · refine ⟨_, _, rfl, by omega, by have := HMAX.out; omega, Fresh.refl _, ?_⟩
        have := HCUT.out
        rwa [if_pos (by assumption)] at this
      · refine ⟨_, _, rfl, by omega, by have := HMAX.out; omega, Fresh.refl _, ?_⟩
        have := HCUT.out
        rwa [if_neg (by assumption)] at this

/-- what getWide sets: the numbers of eight bytes -/
def getsW (xs : List UInt8) (ps : List Addr) : List (Addr × Value) := ps.zipIdx.map fun x => (x.1, iv (sg64 (nm xs (x.2 * 8) 8)))
theorem getsW_snoc (xs : List UInt8) (ps : List Addr) (j : Nat) (p : Addr) (h : ps[j]? = some p) : getsW xs (ps.take (j + 1)) = getsW xs (ps.take j) ++ [(p, iv (sg64 (nm xs (j * 8) 8)))] := by
  have hj := (List.getElem?_eq_some_iff.1 h).1
  unfold getsW
  rw [take_snoc _ _ _ h, List.zipIdx_append, List.map_append, List.length_take, Nat.min_eq_left (by omega)]
  simp
theorem getsW_mem {xs : List UInt8} {ps : List Addr} {S : List Nat} (h : ∀ p ∈ ps, p.block ∈ S) : ∀ x ∈ getsW xs ps, x.1.block ∈ S := by
  intro x hx
  obtain ⟨y, hy, rfl⟩ := List.mem_map.1 hx
  exact h _ (List.fst_mem_of_mem_zipIdx hy)
/-- 'high<<32 | low' -/
theorem or_wide (lo hi : Nat) (h1 : lo < 4294967296) (h2 : hi < 4294967296) : bits .or .i64 (wrap64 ((hi : Int) * 4294967296)) (lo : Int) = sg64 (lo + 4294967296 * hi) := by
  have hd : (4294967296 * hi ||| lo) = 4294967296 * hi + lo := by
    have := Nat.two_pow_add_eq_or_of_lt (i := 32) (b := lo) (by omega) hi
    rw [show (2 : Nat) ^ 32 = 4294967296 from rfl] at this
    omega
  show IntKind.i64.wrap ((BitVec.ofInt 64 (wrap64 ((hi : Int) * 4294967296)) ||| BitVec.ofInt 64 (lo : Int)).toNat : Int) = _
  have e1 : (BitVec.ofInt 64 (wrap64 ((hi : Int) * 4294967296))).toNat = 4294967296 * hi := by
    rw [BitVec.toNat_ofInt]
    unfold wrap64
    omega
  rw [BitVec.toNat_or, e1, ofInt_64 lo (by omega), hd, IntKind.wrap_i64]
  unfold sg64
  split <;> omega
end Go.Proofs.YtmnejphdjnlbjaaGreatDoor.recp
