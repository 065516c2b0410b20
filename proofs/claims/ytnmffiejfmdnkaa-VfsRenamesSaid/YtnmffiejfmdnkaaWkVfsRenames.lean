/-
  The walk of the law VfsRenames. My own text.
-/
import Derived.Test.YtnmffiejfmdnkaaVfsOk2
namespace Go.Proofs.Ytnmffiejfmdnkaa.vfsRenames
open Go.RowKit Go.Maps Go.Sort Go.Proofs.Ytnmffiejfmdnkaa.base Go.Proofs.Ytnmffiejfmdnkaa.vfsnum Go.Proofs.Ytnmffiejfmdnkaa.vfs
set_option linter.unusedVariables false

section
variable {P : Program} {w : World} {ops : Array Oper} {rest : List Oper} {o : Oper} {a : Act} {Q : Exit → Act → World → Prop}
theorem wpList_ins_new (hg : o.guard = none) (m x y : Operand) (t : TypeId) (hop : o.op = Op.insert t m x y) (k e : TypeId) (K : Keyed P k) (ht : P.underlying t = some (.map k e)) (b : Nat) (kv : List (Value × Value))
    (hm : a.eval m = .map (some b)) (h : MapOf P k w b kv) (key val : Value) (kl : Lit) (hx : a.eval x = key) (hy : a.eval y = val) (hkey : keyOf P k key = some kl) (hv : ∀ p ∈ kv, p.1 ≠ key)
    (hK : ∀ w', MapOf P k w' b ((key, val) :: kv) → But b w w' → wpList P ops Q rest (a.put o.dst undef) w') : wpList P ops Q (o :: rest) a w := by
  refine wpList_plain hg fun K' hK' => ?_
  obtain ⟨w', hrun, h1, h2⟩ := h.put_new K ht hkey hv val
  unfold Oper.wp
  simp [execOp, hop, hm, hx, hy, hrun, Result.andThen]
  exact hK' _ _ (hK w' h1 h2)
end
theorem RangeOf.turn {P : Program} {k : TypeId} {w w' : World} {b r : Nat} {kv left : List (Value × Value)} {S S' : List Nat} (h : RangeOf P k w b r kv left) (t : Turn S S' w w') (hb : b ∉ S) (hr : r ∉ S) : RangeOf P k w' b r kv left ∧ b ∉ S' ∧ r ∉ S' :=
  ⟨h.old (t.block b h.map.inside hb) (t.block r h.iter hr), t.apart h.map.inside hb, t.apart h.iter hr⟩
theorem Bk.rd {w : World} {q : Nat} {t : TypeId} {xs : List Value} (h : Bk w q t xs) : Rd w (q + 1) (some ⟨q, 0, none⟩) xs.length xs :=
  ⟨rfl, fun _ => ⟨q, 0, rfl, by omega, fun j u hu => by rw [Nat.zero_add]; exact h.cell hu⟩⟩
theorem mem_updF {l : List (ByteArray × Fl)} {n : ByteArray} {x : Fl} {p : ByteArray × Fl} (h : p ∈ updF l n x) : p.1 = n ∨ p ∈ l := by
  unfold updF at h
  obtain ⟨q, hq, rfl⟩ := List.mem_map.1 h
  by_cases e : q.1 = n
  · rw [if_pos e]; exact .inl rfl
  · rw [if_neg e]; exact .inr hq
theorem mem_upd_self {l : List (ByteArray × Fl)} {n : ByteArray} {x y : Fl} (h : (n, x) ∈ l) : (n, y) ∈ updF l n y := List.mem_map.2 ⟨(n, x), h, by rw [if_pos rfl]⟩
theorem mem_upd_other {l : List (ByteArray × Fl)} {n : ByteArray} {y : Fl} {p : ByteArray × Fl} (h : p ∈ l) (hn : p.1 ≠ n) : p ∈ updF l n y := List.mem_map.2 ⟨p, h, by rw [if_neg hn]⟩
/-- a file is made, and has the bytes that stand at its name -/
def Done (w : World) (l : List (ByteArray × Fl)) (p : Value × Value) : Prop := ∃ (n : ByteArray) (D : Option Addr) (m cc : Nat) (y : Fl), p = (.string n, .slice D m cc) ∧ (n, y) ∈ l ∧ Rd w w.heap.size D m (y.bs.map bv)
def Pair (w : World) (p : Value × Value) : Prop := ∃ (c : UInt8) (D : Option Addr) (m cc : Nat) (z : Bs), p = (.string (nm c), .slice D m cc) ∧ rightB (nm c) = true ∧ Rd w w.heap.size D m (z.map bv) ∧ m ≤ 1000 ∧ m ≤ cc ∧ cc ≤ maxLen
theorem done_is {w : World} {l : List (ByteArray × Fl)} {n : ByteArray} {D : Option Addr} {m cc : Nat} (h : Done w l (.string n, .slice D m cc)) : ∃ y, (n, y) ∈ l ∧ Rd w w.heap.size D m (y.bs.map bv) := by
  obtain ⟨n', D', m', cc', y, e, h1, h2⟩ := h
  injection e with e1 e2
  injection e1 with e1
  injection e2 with e2 e3 e4
  subst e1; subst e2; subst e3
  exact ⟨y, h1, h2⟩
theorem ren_two {l : List (ByteArray × Fl)} {r s : Nat} {ya yb : Fl} (hok : FsOk (up l r s)) (ga : getF l (nm 97) = some ya) (gb : getF l (nm 98) = some yb) (hl : l.length = 2) :
    ∃ l' r' s' y', (up l r s).rename (nm 97) (nm 98) = (0, up l' r' s') ∧ FsOk (up l' r' s') ∧ getF l' (nm 98) = some y' ∧ getF l' (nm 97) = none ∧ l'.length = 1 ∧ y'.bs = ya.bs ∧ s' = s + 1 := by
  have hne : nm 98 ≠ nm 97 := by decide
  have e := up_rename (r := r) (s := s) (m := nm 98) ga (by kernel_rfl) hne
  have hok' := rename_ok (n := nm 97) (m := nm 98) hok
  rw [e] at hok'
  have hf := FsOk.flist hok
  have hap : Apart (delF l (nm 98)) := apart_of_sorted (flist_del hf (nm 98)).2.1
  have ga2 : getF (delF l (nm 98)) (nm 97) = some ya := (getF_del_other hf hne.symm).trans ga
  have h1 : (delF l (nm 98)).length + 1 = l.length := del_len (apart_of_sorted hf.2.1) gb
  have h2 := del_len hap ga2
  have h3 := len_ins (delF (delF l (nm 98)) (nm 97)) (nm 98) { ya with stamp := s + 1 }
  refine ⟨_, _, _, { ya with stamp := s + 1 }, e, hok', getF_ins_self (FsOk.flist hok'), ?_, by omega, rfl, rfl⟩
  rw [getF_ins_other (flist_del (flist_del hf _) _) (FsOk.flist hok') hne.symm]
  exact getF_no fun p hp => (mem_del.1 hp).2
theorem ren_none {l : List (ByteArray × Fl)} {r s : Nat} {n m : ByteArray} (hg : getF l n = none) : (up l r s).rename n m = (6, up l r s) := by
  unfold Fs.rename
  rw [if_neg (by simp), show (up l r s).files = l from rfl, hg]
theorem names_len (w : World) (f : Nat) (l : List (ByteArray × Fl)) (r s k : Nat) (bl : List Nat) (h : FsAt w f (up l r s) bl) (hok : FsOk (up l r s)) (hl : l.length = k) (hk : k ≤ 1048576) :
    Calls Try.prog 28 #[fsPtr f, .string ⟨#[]⟩] w fun e w' => ∃ A c, e = .returned (.slice A k c) ∧ Fresh w w' := by
  refine (names_up w f _ bl ⟨#[]⟩ h hok (by show l.length ≤ _; omega) rfl).mono ?_
  rintro e w' ⟨A, c, rfl, ho, hf⟩
  have e : (nameList (up l r s) []).length = k := by rw [nameList_nil, List.length_map]; exact hl
  exact ⟨A, c, by rw [← e], hf⟩

set_option maxRecDepth 100000 in
set_option maxHeartbeats 2000000 in
theorem vfsRenames_walk (A0 : Option Addr) (n0 c0 : Nat) (x0 : List UInt8) (A1 : Option Addr) (n1 c1 : Nat) (x1 : List UInt8) (w : World) (b0 : InBytes w A0 n0 c0 x0) (b1 : InBytes w A1 n1 c1 x1) :
    Calls Try.prog 6 #[.slice A0 n0 c0, .slice A1 n1 c1] w fun e w' => e = .returned (.bool true) ∧ Below w.heap.size w w' := by
  have hmm := @run_makeMap Try.prog
  obtain ⟨r0, hc0, hm0⟩ := b0
  obtain ⟨r1, hcc1, hm1⟩ := b1
  by_cases hl : 1000 < n0
  · clear hmm
    go_enter Try.func6, Try.ntmps6
    go_wp2_with (go_at_call 9; refine (wakes_any _).mono ?_; rintro e wA ⟨rfl, hfA⟩)
    all_goals go_ret
    all_goals exact ⟨rfl, hfA⟩
  · by_cases hl1 : 1000 < n1
    · clear hmm
      go_enter Try.func6, Try.ntmps6
      go_wp2_with (go_at_call 9; refine (wakes_any _).mono ?_; rintro e wA ⟨rfl, hfA⟩)
      all_goals go_ret
      all_goals exact ⟨rfl, hfA⟩
    · have hne : nm 98 ≠ nm 97 := by decide
      have HKV : Hid (∀ p ∈ [(Value.string (nm 98), Value.slice A1 n1 c1), (Value.string (nm 97), Value.slice A0 n0 c0)], Pair w p) := by
        intro p hp
        rcases List.mem_cons.1 hp with rfl | hp
        · exact ⟨98, A1, n1, c1, x1, rfl, by kernel_rfl, r1, by omega, hcc1, hm1⟩
        · obtain rfl := List.mem_singleton.1 hp
          exact ⟨97, A0, n0, c0, x0, rfl, by kernel_rfl, r0, by omega, hc0, hm0⟩
      have HPW : Hid ([(Value.string (nm 98), Value.slice A1 n1 c1), (Value.string (nm 97), Value.slice A0 n0 c0)].Pairwise fun p q => p.1 ≠ q.1) := by
        show List.Pairwise _ _
        rw [List.pairwise_cons]
        refine ⟨fun p hp => ?_, List.pairwise_singleton _ _⟩
        obtain rfl := List.mem_singleton.1 hp
        intro e
        injection e with e
        exact hne e
      have ok0 : Hid (FsOk (up [] 100 0)) := new_ok 100 (by omega)
      have hmiss : ∀ p ∈ [(Value.string (nm 97), Value.slice A0 n0 c0)], p.1 ≠ Value.string (nm 98) := fun p hp => by
        obtain rfl := List.mem_singleton.1 hp
        intro e
        injection e with e
        exact hne e.symm
      clear hne
      go_enter Try.func6, Try.ntmps6
      go_wp2_with (first
        | (go_at_call 9; refine (wakes_any _).mono ?_; rintro e wA ⟨rfl, hfA⟩)
        | (go_at_call 11; refine (new_up _ 100 100 (by decide) (by decide) (by decide)).mono ?_; rintro e w1 ⟨f, bl, rfl, hF, hf1, hnew⟩; have hS : Since w w1 bl := ⟨hfA.trans hf1, fun i hi => Nat.le_trans hfA.size (hnew i hi)⟩; have hmk := MapOf.made Try.prog 9 w1)
        | ((with_reducible (refine at_none_ ?_)); refine wpList_ins_new rfl _ _ _ 55 rfl 9 29 strKey Try.underlying55 w1.heap.size _ rfl hmk (.string (nm 97)) (.slice A0 n0 c0) _ rfl rfl (key_str _ (nm_le _)) (fun p hp => by cases hp) ?_; intro w2 hm2 hb2)
        | ((with_reducible (refine at_none_ ?_)); refine wpList_ins_new rfl _ _ _ 55 rfl 9 29 strKey Try.underlying55 w1.heap.size _ rfl hm2 (.string (nm 98)) (.slice A1 n1 c1) _ rfl rfl (key_str _ (nm_le _)) hmiss ?_; intro w3 hm3 hb3)
        | (at_range; refine wpList_map_range _ rfl _ 55 rfl 9 29 Try.underlying55 w1.heap.size _ rfl hm3 w3.heap.size rfl ?_; intro w0 hrg0 hf0 hs0))
      have hA1 : w.heap.size ≤ w1.heap.size := hS.1.size
      have hA2 : w1.heap.size < w3.heap.size := by have h1 := hb2.size; have h2 := hb3.size; simp at h1; omega
      have hFa := hF.fresh (Fresh.alloc w1 (.map #[] 0))
      have hmb : w1.heap.size ∉ bl := fun h => by have := hF.inside _ h; omega
      have hrb : w3.heap.size ∉ bl := fun h => by have := hF.inside _ h; omega
      have hF0 := ((hFa.but hb2 hmb).but hb3 hmb).fresh hf0
      have hS0 : Since w w0 bl := ⟨(((hS.1.trans (Fresh.alloc w1 (.map #[] 0))).but hA1 hb2).but hA1 hb3).trans hf0, hS.2⟩
      have hrw : w.heap.size ≤ w3.heap.size := by omega
      clear hFa hb2 hb3 hm2 hm3 hF hS hnew hf0 hs0 hmk hmm hmiss
      have HMA : Hid ((Value.string (nm 97), Value.slice A0 n0 c0) ∈ [(Value.string (nm 98), Value.slice A1 n1 c1), (Value.string (nm 97), Value.slice A0 n0 c0)]) := List.mem_cons_of_mem _ (List.mem_cons_self ..)
      have HMB : Hid ((Value.string (nm 98), Value.slice A1 n1 c1) ∈ [(Value.string (nm 98), Value.slice A1 n1 c1), (Value.string (nm 97), Value.slice A0 n0 c0)]) := List.mem_cons_self ..
      have HLN : Hid ([(Value.string (nm 98), Value.slice A1 n1 c1), (Value.string (nm 97), Value.slice A0 n0 c0)].length = 2) := rfl
      generalize w1.heap.size = mk at *
      generalize w3.heap.size = rr at *
      generalize [(Value.string (nm 98), Value.slice A1 n1 c1), (Value.string (nm 97), Value.slice A0 n0 c0)] = kv at *
      go_frame
      go_loopw [30] (fun _ wr => ∃ (l : List (ByteArray × Fl)) (r s : Nat) (bl : List Nat) (left : List (Value × Value)), RangeOf Try.prog 9 wr mk rr kv left ∧ FsAt wr f (up l r s) bl ∧ Hid (FsOk (up l r s)) ∧ Hid (left.Pairwise fun p q => p.1 ≠ q.1) ∧
        Hid (∀ p ∈ left, ∀ q ∈ l, Value.string q.1 ≠ p.1) ∧ Hid (∀ p ∈ kv, p ∈ left ∨ Done w l p) ∧ Hid (68 + 16 * left.length ≤ r) ∧ Hid (l.length + left.length = 2) ∧ Hid (s + 2 * left.length ≤ 4) ∧ Since w wr bl ∧ Hid (mk ∉ bl ∧ rr ∉ bl)) (fun _ wr => wr.rangeLeft mk rr)
      case atStart =>
        exact ⟨[], 100, 0, bl, kv, hrg0, hF0, ok0, HPW.out, fun p _ q hq => (by cases hq), fun p hp => .inl hp, by have := HLN.out; show _ ≤ _; omega, by have := HLN.out; show _ = _; rw [this]; rfl, by have := HLN.out; show _ ≤ _; omega, hS0, ⟨hmb, hrb⟩⟩
      case round =>
        clear hrg0 hF0 ok0 hS0 hmb hrb
        obtain ⟨l, r, s, bl, left, hrg, hF, hok, hpw, hnl, hdn, hr, hln, hs, hS, hap⟩ := hrel
        go_wp2_with (at_next; refine wpList_map_next _ rfl _ rfl 9 mk rr kv left rfl hrg ?_ ?_)
        · intro h0
          subst h0
          have hl2 : l.length = 2 := by have := hln.out; simpa using this
          have hs4 : s ≤ 4 := by have := hs.out; simpa using this
          obtain ⟨ya, hya, rya⟩ := done_is ((hdn.out _ HMA.out).resolve_left (by simp))
          obtain ⟨yb, hyb, _⟩ := done_is ((hdn.out _ HMB.out).resolve_left (by simp))
          have hsrt := apart_of_sorted hok.out.sorted
          have ga : getF l (nm 97) = some ya := getF_mem hsrt hya
          have gb : getF l (nm 98) = some yb := getF_mem hsrt hyb
          obtain ⟨l', r', s', y', e1, ok1, g98, g97, hl1', hbs, hs'⟩ := ren_two hok.out ga gb hl2
          have hyl : ya.bs.length = n0 := by have := rya.1; rwa [List.length_map] at this
          have hren := rename_fs wr f _ bl (nm 97) (nm 98) hF hok.out (by show s < _; omega) (nm_le _) (nm_le _)
          rw [e1] at hren
          have e6 := ren_none (r := r') (s := s') (m := nm 99) g97
          have OK1 := Lib.hid ok1
          have G98 := Lib.hid g98
          have G97 := Lib.hid g97
          have HL1 := Lib.hid hl1'
          have HBS := Lib.hid hbs
          have HYL := Lib.hid hyl
          have E6 := Lib.hid e6
          have hs5 : s' < 100 := by omega
          clear hl2 hs4 hya hyb hsrt ga gb e1 ok1 g98 g97 hl1' hbs hs' hyl e6 hdn hnl hpw hr hln hs hrg
          go_wp2_with (first
            | (go_at_call 24; (with_reducible refine hren.mono ?_); rintro e w5 ⟨rfl, bl5, hF5, hT5⟩; clear hren; have hS5 := hS.turn hT5;
                have hle := len_some w5 f _ bl5 (nm 98) y' hF5 (nm_le _) rfl G98.out; rw [show y'.bs.length = n0 by rw [HBS.out]; exact HYL.out] at hle;
                have hre := read_up w5 f l' r' s' (nm 98) bl5 y' 0 n0 ya.bs hF5 OK1.out (nm_le _) G98.out (by rw [HBS.out, HYL.out]; omega) (by rw [HBS.out, List.drop_zero, List.take_of_length_le (by rw [HYL.out]; exact Nat.le_refl _)]))
            | (go_at_call 22; (with_reducible refine hle.mono ?_); rintro e w' ⟨rfl, rfl⟩; clear hle)
            | (go_at_call 18; refine hre.mono ?_; rintro e w6 ⟨q, rfl, hq, hbq, hf6⟩; clear hre; have hF6 := hF5.fresh hf6; have hS6 := hS5.fresh hf6; have hrq := Bk.rd hbq; rw [List.length_map, HYL.out] at hrq;
                have hln2 := len_none w6 f _ bl5 (nm 97) hF6 (nm_le _) (.inr G97.out);
                have hsa := same_yes (some ⟨q, 0, none⟩) A0 n0 n0 c0 ya.bs w6 (q + 1) w.heap.size hrq (rya.below hS6.1 (Nat.le_refl _)) (by unfold maxLen; omega))
            | (go_at_call 22; (with_reducible refine hln2.mono ?_); rintro e w' ⟨rfl, rfl⟩; clear hln2)
            | (go_at_call 19; (with_reducible refine hsa.mono ?_); rintro e w7 ⟨rfl, hf7⟩; clear hsa; have hF7 := hF6.fresh hf7; have hS7 := hS6.fresh hf7;
                have hnl := names_len w7 f l' r' s' 1 bl5 hF7 OK1.out HL1.out (by omega))
            | (go_at_call 28; refine hnl.mono ?_; rintro e w8 ⟨NA, nc, rfl, hf8⟩; clear hnl; have hF8 := hF7.fresh hf8; have hS8 := hS7.fresh hf8;
                have hr2 := rename_fs w8 f _ bl5 (nm 97) (nm 99) hF8 OK1.out (by show s' < _; omega) (nm_le _) (nm_le _); rw [E6.out] at hr2)
            | (go_at_call 24; (with_reducible refine hr2.mono ?_); rintro e w9 ⟨rfl, bl9, hF9, hT9⟩; clear hr2))
          go_ret
          exact ⟨rfl, (hS8.turn hT9).1⟩
        · intro key v left' w4 hp hrg1 hb1 hs1 hen
          have hp0 : (key, v) ∈ left := hp.mem_iff.2 (List.mem_cons_self ..)
          obtain ⟨c, D, m, cc, z, hkv, hrt, hrd, hm1000, hmc, hcm⟩ := HKV.out (key, v) (hrg.sub _ hp0)
          obtain ⟨rfl, rfl⟩ : key = .string (nm c) ∧ v = .slice D m cc := by injection hkv with h1 h2; exact ⟨h1, h2⟩
          have hzl : z.length = m := by have := hrd.1; rwa [List.length_map] at this
          have hno : ∀ q ∈ l, q.1 ≠ nm c := fun q hq e => hnl.out _ hp0 q hq (by rw [e])
          have hgn : getF l (nm c) = none := getF_no hno
          have hF4 := hF.but hb1 hap.out.2
          have hS4 : Since w w4 bl := ⟨hS.1.but hrw hb1, hS.2⟩
          have OK5 : Hid (FsOk (up (insF l (nm c) ⟨[], s + 1, noOld⟩) r (s + 1))) := up_create_ok hok.out hrt hgn rfl
          have HG5 : Hid (getF (insF l (nm c) ⟨[], s + 1, noOld⟩) (nm c) = some ⟨[], s + 1, noOld⟩) := getF_ins_self (FsOk.flist OK5.out)
          have hcr := create_up w4 f l _ r s (nm c) bl hF4 hok.out (by have := hs.out; omega) hrt hgn rfl
          have hll := hp.length_eq
          rw [List.length_cons] at hll
          have hlen3 : left'.length < left.length := by omega
          have HLL := Lib.hid (RangeOf.left_eq hrg)
          have HL1 := Lib.hid hll
          have HNO := Lib.hid hno
          have HPW1 := Lib.hid (List.pairwise_cons.1 ((hp.pairwise_iff fun {a b} (h : a.1 ≠ b.1) => h.symm).1 hpw.out))
          have HIN := Lib.hid (fun p (h : p ∈ left) => List.mem_cons.1 (hp.mem_iff.1 h))
          have HP0 := Lib.hid hp0
          have HSUB := Lib.hid (fun p (h : p ∈ left') => hp.mem_iff.2 (List.mem_cons_of_mem _ h))
          have HZL := Lib.hid hzl
          clear hs1 hkv hll hno hgn hp0 hzl hpw hp
          go_wp2_with (first
            | (go_at_call 16; (with_reducible refine hcr.mono ?_); rintro e w5 ⟨rfl, bl5, hF5, hT5⟩; clear hcr; have hS5 := hS4.turn hT5;
                have hpu := put_any w5 f _ r (s + 1) (nm c) bl5 ⟨[], s + 1, noOld⟩ D m cc z hF5 OK5.out (by have := hs.out; omega) (nm_le _) HG5.out rfl (RdA.of_rd (hrd.below hS5.1 (Nat.le_refl _)) hS5.1.size hS5.2) (by rw [HZL.out]; have h1 := hr.out; have h2 := HL1.out; unfold takes; omega) hmc hcm)
            | (go_at_call 17; refine hpu.mono ?_; rintro e w6 ⟨rfl, y, r6, s6, bl6, hF6, hT6, ok6, hy, hr6, hs6⟩; clear hpu; have hS6 := hS5.turn hT6; have OK6 := Lib.hid ok6; have HY := Lib.hid hy; have HR6 := Lib.hid hr6; have HS6 := Lib.hid hs6; clear ok6 hy hr6 hs6))
          have hrt5 := RangeOf.turn hrg1 hT5 hap.out.1 hap.out.2
          have hrt6 := RangeOf.turn hrt5.1 hT6 hrt5.2.1 hrt5.2.2
          go_roundw
          case rel =>
            refine ⟨_, r6, s6, bl6, left', hrt6.1, hF6, OK6.out, HPW1.out.2, fun p hp q hq e => ?_, fun p hp => ?_, ?_, ?_, ?_, hS6, hrt6.2⟩
            · rcases mem_updF hq with h | h
              · rw [h] at e
                exact HPW1.out.1 p hp e
              · rcases mem_insF h with rfl | h
                · exact HPW1.out.1 p hp e
                · exact hnl.out p (HSUB.out p hp) q h e
            · rcases hdn.out p hp with h | ⟨n', D', m', cc', y', e, h1, h2⟩
              · rcases HIN.out p h with rfl | h
                · exact .inr ⟨nm c, D, m, cc, y, rfl, mem_upd_self (mem_insF' _ _ _), by rw [HY.out]; exact hrd⟩
                · exact .inl h
              · exact .inr ⟨n', D', m', cc', y', e, mem_upd_other ((insF_perm _ _ _).mem_iff.2 (List.mem_cons_of_mem _ h1)) (HNO.out _ h1), h2⟩
            · have h1 := hr.out; have h2 := HL1.out; have h3 := HR6.out; rw [HZL.out] at h3; show _ ≤ _; unfold takes at h3; omega
            · have h1 := hln.out; have h2 := HL1.out; show _ = _; unfold updF; rw [List.length_map, len_ins]; omega
            · have h1 := hs.out; have h2 := HL1.out; have h3 := HS6.out; show _ ≤ _; omega
          case measure => rw [RangeOf.left_eq hrt6.1, HLL.out]; exact hlen3
end Go.Proofs.Ytnmffiejfmdnkaa.vfsRenames
