/-
  What the laws of layer 13 share: wakes. My own text.
-/
import Derived.Test.YtkkkjadfhimahaaDoorGlbNew
import Derived.Test.YtkkkjadfhimahaaDoorGlbBld
import Derived.Test.YtkkkjadfhimahaaDoorNamStr
namespace Go.Proofs.YtkkkjadfhimahaaDoor.glbp
open Go.RowKit Go.Proofs.YtkkkjadfhimahaaDoor.base Go.Proofs.YtkkkjadfhimahaaDoor.nam Go.Proofs.YtkkkjadfhimahaaDoor.namp Go.Proofs.YtkkkjadfhimahaaDoor.glb
set_option linter.unusedVariables false
/-- make of one-cell elements, guarded or not, where it is wanted -/
theorem wpList_make_if {P : Program} {w : World} {ops : Array Oper} {rest : List Oper} {o : Oper} {a : Act} {Q : Exit → Act → World → Prop} (hgd : Region.wanted o (yielded ops a.tmps) = true) (t : TypeId) (x y : Operand) (ho : o.op = .makeSlice t x y) (e : TypeId) (i : TypeInfo) (z : Value) (hu : P.underlying t = some (.slice e)) (hi : P.info? e = some i) (hz : i.zero = some z)
    (hsize : i.size = 1) (hzc : z.cells = #[z]) (n : Nat) (hx : a.eval x = .int .i64 n) (hy : a.eval y = .int .i64 n) (hbytes : i.bytes * n ≤ 281474976710656) (h63 : n ≤ maxLen) (g : Nat) (hg : w.heap.size = g)
    (h : ∀ w', Bk w' g e (List.replicate n z) → Fresh w w' → wpList P ops Q rest (a.put o.dst (.slice (some ⟨g, 0, none⟩) n n)) w') : wpList P ops Q (o :: rest) a w := by
  refine wpList_step fun K hK => ?_
  rw [if_pos hgd]
  subst hg
  have h63' : (n : Int) ≤ 9223372036854775807 := by
    have h := h63
    simp [maxLen] at h
    omega
  have hb' : (i.bytes : Int) * (n : Int) ≤ 281474976710656 := by
    have h : ((i.bytes * n : Nat) : Int) ≤ 281474976710656 := by omega
    rwa [Int.natCast_mul] at h
  have hr := run_make (P := P) w t e i z hu hi hz .i64 .i64 n n (by omega) (Int.le_refl _) hb' h63'
  simp only [Int.toNat_natCast] at hr
  unfold Oper.wp execOp
  simp only [ho, hx, hy, Sem.run_bind, hr, Result.andThen_ok]
  refine hK _ _ (h _ ?_ (Fresh.alloc _ _))
  have h2 := Bk.made w e (madeCells z.cells (n * i.size))
  rw [hzc, hsize, Nat.mul_one, toList_madeCells_one] at h2
  rw [hzc, hsize, Nat.mul_one]
  exact h2
theorem Bk.rd {w : World} {g : Nat} {t : TypeId} {cs : List Value} (h : Bk w g t cs) : Rd w w.heap.size (some ⟨g, 0, none⟩) cs.length cs := ⟨rfl, fun _ => ⟨g, 0, rfl, h.inside, fun j u hu => by rw [Nat.zero_add]; exact h.cell hu⟩⟩
theorem new_ok (s : ByteArray) (rs : List Nat) (ps : List Pt) (hs : s.data.toList = tx rs) (hrn : ∀ r ∈ rs, Rn r) (hps : prs rs = some ps) (w : World) (hm : s.size ≤ 100) (hT : Tabs w) :
    Calls Tryd.prog 10 #[.string s] w fun e w' => ∃ g, e = .returned (.tuple #[ptg g, .int .i64 0]) ∧ GlobAt w' g ps ∧ Fresh w w' := by
  have h := new_any s rs [] (by rw [List.append_nil]; exact hs) hrn (Or.inl rfl) w hm hT
  have e : prsT rs [] = some ps := by rw [prsT, if_pos rfl, hps]
  rw [e] at h
  exact h
theorem match_is (ps : List Pt) (s : ByteArray) (n : List Nat) (b : Bool) (hn : rns s.data.toList = n) (hb : mt ps n = b) (hs : s.size ≤ 1000) (g : Nat) (w : World) (hg : GlobAt w g ps) :
    Calls Tryd.prog 12 #[ptg g, .string s] w fun e w' => e = .returned (.bool b) ∧ Fresh w w' := by
  rw [← hb]
  exact match2_any g ps s n hn w hg hs
theorem rn_low {l : List Nat} (h : ∀ r ∈ l, r < 128) : ∀ r ∈ l, Rn r := fun r hr => Or.inl (by have := h r hr; omega)
theorem wake_a : prs [42, 46, 116, 120, 116] = some [.star, .it 46, .it 116, .it 120, .it 116] := rfl
theorem wake_b : prs [42, 42, 46, 116, 120, 116] = some [.all, .it 46, .it 116, .it 120, .it 116] := rfl
theorem wake_m1 : mt [.star, .it 46, .it 116, .it 120, .it 116] [97, 46, 116, 120, 116] = true := by decide
theorem wake_m2 : mt [.star, .it 46, .it 116, .it 120, .it 116] [97, 47, 98, 46, 116, 120, 116] = false := by decide
theorem wake_m3 : mt [.all, .it 46, .it 116, .it 120, .it 116] [97, 47, 98, 46, 116, 120, 116] = true := by decide
set_option maxRecDepth 100000 in
theorem wakes_any (w : World) (hT : Tabs w) : Calls Tryd.prog 9 #[] w fun e w' => e = .returned (.bool true) ∧ Fresh w w' := by
  have hn1 := fun W h => new_ok ⟨#[42, 46, 116, 120, 116]⟩ [42, 46, 116, 120, 116] _ (by simp [tx, en]) (rn_low (by decide)) wake_a W (by show 5 ≤ 100; omega) h
  have hn2 := fun W h => new_ok ⟨#[42, 42, 46, 116, 120, 116]⟩ [42, 42, 46, 116, 120, 116] _ (by simp [tx, en]) (rn_low (by decide)) wake_b W (by show 6 ≤ 100; omega) h
  have r1 : rns (⟨#[97, 46, 116, 120, 116]⟩ : ByteArray).data.toList = [97, 46, 116, 120, 116] := by
    have h := rns_good [97, 46, 116, 120, 116] (rn_low (by decide))
    simpa [tx, en] using h
  have r2 : rns (⟨#[97, 47, 98, 46, 116, 120, 116]⟩ : ByteArray).data.toList = [97, 47, 98, 46, 116, 120, 116] := by
    have h := rns_good [97, 47, 98, 46, 116, 120, 116] (rn_low (by decide))
    simpa [tx, en] using h
  have HN1 := Lib.hid hn1
  have HN2 := Lib.hid hn2
  have HM1 := Lib.hid (match_is _ ⟨#[97, 46, 116, 120, 116]⟩ _ _ r1 wake_m1 (by show 5 ≤ 1000; omega))
  have HM2 := Lib.hid (match_is _ ⟨#[97, 47, 98, 46, 116, 120, 116]⟩ _ _ r2 wake_m2 (by show 7 ≤ 1000; omega))
  have HM3 := Lib.hid (match_is _ ⟨#[97, 47, 98, 46, 116, 120, 116]⟩ _ _ r2 wake_m3 (by show 7 ≤ 1000; omega))
  have HT := Lib.hid hT
  clear hn1 hn2 r1 r2 hT
  go_enter Tryd.func9, Tryd.ntmps9
  go_wp2_with (first
    | (go_at_call 10; (with_reducible refine (HN1.out _ HT.out).mono ?_); rintro e w1 ⟨g1, rfl, hg1, hf1⟩; have HG1 := Lib.hid hg1; have HF1 := Lib.hid hf1; clear hg1 hf1)
    | (go_at_call 10; (with_reducible refine (HN2.out _ (HT.out.fresh HF1.out)).mono ?_); rintro e w2 ⟨g2, rfl, hg2, hf2⟩; have HG2 := Lib.hid hg2; have HF2 := Lib.hid hf2; clear hg2 hf2)
    | (go_at_call 12; (with_reducible refine (HM1.out g1 w2 (HG1.out.fresh HF2.out)).mono ?_); rintro e w3 ⟨rfl, hf3⟩; have HF3 := Lib.hid hf3; clear hf3)
    | (go_at_call 12; (with_reducible refine (HM2.out g1 w3 ((HG1.out.fresh HF2.out).fresh HF3.out)).mono ?_); rintro e w4 ⟨rfl, hf4⟩; have HF4 := Lib.hid hf4; clear hf4)
    | (go_at_call 12; (with_reducible refine (HM3.out g2 w4 ((HG2.out.fresh HF3.out).fresh HF4.out)).mono ?_); rintro e w5 ⟨rfl, hf5⟩; have HF5 := Lib.hid hf5; clear hf5))
  go_ret
  exact ⟨rfl, (((HF1.out.trans HF2.out).trans HF3.out).trans HF4.out).trans HF5.out⟩
end Go.Proofs.YtkkkjadfhimahaaDoor.glbp
