/-
  Layer 13's reference: class. My own text.
-/
import Derived.Test.YtkkkjadfhimahaaDoorGlbRpl
import Derived.Deep.DeepCutAuto
namespace Go.Proofs.YtkkkjadfhimahaaDoor.glbp
open Go.RowKit Go.Proofs.YtkkkjadfhimahaaDoor.base Go.Proofs.YtkkkjadfhimahaaDoor.nam Go.Proofs.YtkkkjadfhimahaaDoor.glb
set_option linter.unusedVariables false
abbrev tRPart : TypeId := 55
abbrev tInt : TypeId := 3
abbrev pz (g : Nat) : Value := .pointer (some ⟨g, 0, none⟩)
theorem info_intG : (Tryd.prog.info? tInt).map (fun i => (i.zero, i.size, i.bytes)) = some (some (.int .i64 0), 1, 8) := by kernel_rfl
abbrev nilS : Value := .slice none 0 0
/-- a part that is none -/
abbrev rbad : List Value := [.int .i64 (-1), iv 0, .bool false, nilS, nilS]
/-- what class tells: r its parts and where it ends, from K on -/
def RclsIs (nt : Bool) (K : Nat) (r : Option (List (Nat × Nat) × Nat)) (w : World) (e : Ending) (w' : World) : Prop := match r with
  | none => e = .returned (.agg rbad.toArray) ∧ Fresh w w'
  | some (sp, k) => ∃ A1 c1 A2 c2, e = .returned (.agg #[iv 4, iv ((K + k : Nat) : Int), .bool nt, .slice A1 sp.length c1, .slice A2 sp.length c2]) ∧ RdT w' tInt A1 (ir (sp.map Prod.fst)) ∧ RdT w' tInt A2 (ir (sp.map Prod.snd)) ∧ sp.length ≤ 1000 ∧ Fresh w w'
theorem rcls_none {nt : Bool} {K : Nat} {r : Option (List (Nat × Nat) × Nat)} {w w' : World} (hr : r = none) (h : Fresh w w') : RclsIs nt K r w (.returned (.agg rbad.toArray)) w' := by
  subst hr
  exact ⟨rfl, h⟩
/-- the two rows of a class lie apart -/
def ApartR (A1 : Option Addr) (m1 c1 : Nat) (A2 : Option Addr) (m2 c2 : Nat) : Prop := ∀ g, (Value.slice A1 m1 c1).ownBlock = some g → (Value.slice A2 m2 c2).ownBlock ≠ some g
theorem own_low {w : World} {base n c : Nat} {e : TypeId} {A : Option Addr} {xs : List Value} (h : Own w base e A n c xs) : ∀ g, (Value.slice A n c).ownBlock = some g → base ≤ g ∧ g < w.heap.size := fun g hg => World.ownsRow.lt h g hg
theorem own_kept {w w' : World} {base n c : Nat} {e : TypeId} {A : Option Addr} {xs : List Value} {row : Option Nat} (h : Own w base e A n c xs) (k : w.grownBy w' row) (hne : ∀ g, (Value.slice A n c).ownBlock = some g → row ≠ some g) : Own w' base e A n c xs :=
  World.ownsRow.kept h k (by
    cases hq : (Value.slice A n c).ownBlock with
    | none => exact .inl rfl
    | some g => exact .inr fun e1 => hne g hq e1.symm)
theorem clR_at {l : List Nat} {done : List (Nat × Nat)} {at_ : Nat} (K : Nat) (h : clR true (l.drop K) = (clR (decide (done = [])) (l.drop at_)).map fun q => (done ++ q.1, at_ - K + q.2)) {r : Option (List (Nat × Nat) × Nat)} (hr : clR (decide (done = [])) (l.drop at_) = r) :
    clR true (l.drop K) = r.map fun q => (done ++ q.1, at_ - K + q.2) := by rw [h, hr]
/-- the test ahead of a span's second rune -/
def dashB (l : List Nat) (n q : Nat) : Bool := decide (q + 1 < n) && (beg (l.drop q) 45 && !(beg (l.drop (q + 1)) 93))
theorem spanR_is {l : List Nat} {n at_ a k : Nat} (hl : l.length = n) (h : runeP (l.drop at_) = some (a, k)) :
    spanR (l.drop at_) = if dashB l n (at_ + k) = true then (match runeP (l.drop (at_ + k + 1)) with
      | none => none
      | some (b, m) => if b < a then none else some ((a, b), k + 1 + m)) else some ((a, a), k) := by
  unfold spanR
  rw [h]
  simp only [List.drop_drop]
  rw [show at_ + (k + 1) = at_ + k + 1 by omega]
  have hc : (beg (l.drop (at_ + k)) 45 = true ∧ l.drop (at_ + k + 1) ≠ [] ∧ beg (l.drop (at_ + k + 1)) 93 = false) ↔ dashB l n (at_ + k) = true := by
    unfold dashB
    rw [Bool.and_eq_true, Bool.and_eq_true, decide_eq_true_iff, Bool.not_eq_true']
    have : l.drop (at_ + k + 1) ≠ [] ↔ at_ + k + 1 < n := by
      rw [← hl]
      constructor
      · intro h1
        by_cases h2 : at_ + k + 1 < l.length
        · exact h2
        · exact absurd (List.drop_of_length_le (by omega)) h1
      · intro h1 h2
        have := congrArg List.length h2
        rw [List.length_drop] at this
        simp at this
        omega
    rw [this]
    constructor
    · rintro ⟨h1, h2, h3⟩; exact ⟨h2, h1, h3⟩
    · rintro ⟨h1, h2, h3⟩; exact ⟨h2, h1, h3⟩
  by_cases hd : dashB l n (at_ + k) = true
  · rw [if_pos hd, if_pos (hc.2 hd)]
    rfl
  · rw [if_neg hd, if_neg fun h => hd (hc.1 h)]
theorem beg_at {l : List Nat} {k a r : Nat} (h : l[k]? = some a) : beg (l.drop k) r = decide (a = r) := by rw [drop_head h, beg]
section
variable {a wx w3 : World} {p X gb base m m2 c1 c2 c3 : Nat} {A1 A2 A3 : Option Addr} {v0 v1 v2 u : Value} {xs ys zs tc : List Value} {o : Obj}
/-- From has grown -/
theorem appA (hbp : Bk wx p tRPart [v0, v1, v2, .slice A1 m c1, .slice A2 m2 c2]) (hgb : Bk wx gb tTook tc) (hX : Bk wx X tRPart zs) (ho1 : Own wx base tInt A1 m c1 xs) (ho2 : Own wx base tInt A2 m2 c2 ys) (hap : ApartR A1 m c1 A2 m2 c2)
    (hXp : X ≠ p) (hp : a.heap.size ≤ p) (hba : a.heap.size ≤ base) (hfa : Fresh a wx)
    (ho3 : Own w3 base tInt A3 (m + 1) c3 (xs ++ [u])) (hg3 : (wx.alloc o).grownBy w3 (Value.slice A1 m c1).ownBlock) (hw3 : (Value.slice A3 (m + 1) c3).ownBlock = (Value.slice A1 m c1).ownBlock ∨ (Value.slice A3 (m + 1) c3).ownBlock = some (wx.alloc o).heap.size) :
    w3.cell? ⟨p, 3, none⟩ = some (.slice A1 m c1) ∧ w3.frozen? ⟨p, 3, none⟩ = false ∧ Bk (w3.setCell ⟨p, 3, none⟩ (.slice A3 (m + 1) c3)) p tRPart [v0, v1, v2, .slice A3 (m + 1) c3, .slice A2 m2 c2] ∧ Bk (w3.setCell ⟨p, 3, none⟩ (.slice A3 (m + 1) c3)) gb tTook tc ∧ Bk (w3.setCell ⟨p, 3, none⟩ (.slice A3 (m + 1) c3)) X tRPart zs ∧
    Own (w3.setCell ⟨p, 3, none⟩ (.slice A3 (m + 1) c3)) base tInt A3 (m + 1) c3 (xs ++ [u]) ∧ Own (w3.setCell ⟨p, 3, none⟩ (.slice A3 (m + 1) c3)) base tInt A2 m2 c2 ys ∧ ApartR A3 (m + 1) c3 A2 m2 c2 ∧ Fresh a (w3.setCell ⟨p, 3, none⟩ (.slice A3 (m + 1) c3)) := by
  have ha := Fresh.alloc wx o
  have hb3 := (hbp.alloc o).grown hg3 ((ho1.fresh ha).ne_block (hbp.alloc o) (by decide))
  have hgb3 := (hgb.alloc o).grown hg3 ((ho1.fresh ha).ne_block (hgb.alloc o) (by decide))
  have hX3 := (hX.alloc o).grown hg3 ((ho1.fresh ha).ne_block (hX.alloc o) (by decide))
  have ho23 : Own w3 base tInt A2 m2 c2 ys := own_kept (ho2.fresh ha) hg3 fun g hg e => hap g e hg
  refine ⟨hb3.cell (i := 3) rfl, hb3.free 3, hb3.put 3 _, hgb3.apart (p := ⟨p, 3, none⟩) (fun e => ?_) _, hX3.apart (p := ⟨p, 3, none⟩) hXp _, ho3.but (But.put _ _) (ho3.ne_block hb3 (by decide)), ho23.but (But.put _ _) (ho23.ne_block hb3 (by decide)), fun g h1 h2 => ?_, ?_⟩
  · have e1 : gb = p := e
    subst e1
    have h1 : w3.heap[gb]? = _ := hb3
    have h2 : w3.heap[gb]? = _ := hgb3
    rw [h1] at h2
    injection h2 with h2
    injection h2 with _ h2
    exact absurd h2 (by decide)
  · rcases hw3 with h | h
    · rw [h] at h1; exact hap g h1 h2
    · rw [h] at h1
      injection h1 with h1
      have := (own_low ho2 g h2).2
      simp at h1
      omega
  · exact Fresh.but (Fresh.append (hfa.trans ha) (ho1.fresh ha) hba hg3) hp (But.put _ _)
/-- To has grown -/
theorem appB (hbp : Bk wx p tRPart [v0, v1, v2, .slice A1 m c1, .slice A2 m2 c2]) (hgb : Bk wx gb tTook tc) (hX : Bk wx X tRPart zs) (ho1 : Own wx base tInt A1 m c1 xs) (ho2 : Own wx base tInt A2 m2 c2 ys) (hap : ApartR A1 m c1 A2 m2 c2)
    (hXp : X ≠ p) (hp : a.heap.size ≤ p) (hba : a.heap.size ≤ base) (hfa : Fresh a wx)
    (ho3 : Own w3 base tInt A3 (m2 + 1) c3 (ys ++ [u])) (hg3 : (wx.alloc o).grownBy w3 (Value.slice A2 m2 c2).ownBlock) (hw3 : (Value.slice A3 (m2 + 1) c3).ownBlock = (Value.slice A2 m2 c2).ownBlock ∨ (Value.slice A3 (m2 + 1) c3).ownBlock = some (wx.alloc o).heap.size) :
    w3.cell? ⟨p, 4, none⟩ = some (.slice A2 m2 c2) ∧ w3.frozen? ⟨p, 4, none⟩ = false ∧ Bk (w3.setCell ⟨p, 4, none⟩ (.slice A3 (m2 + 1) c3)) p tRPart [v0, v1, v2, .slice A1 m c1, .slice A3 (m2 + 1) c3] ∧ Bk (w3.setCell ⟨p, 4, none⟩ (.slice A3 (m2 + 1) c3)) gb tTook tc ∧ Bk (w3.setCell ⟨p, 4, none⟩ (.slice A3 (m2 + 1) c3)) X tRPart zs ∧
    Own (w3.setCell ⟨p, 4, none⟩ (.slice A3 (m2 + 1) c3)) base tInt A1 m c1 xs ∧ Own (w3.setCell ⟨p, 4, none⟩ (.slice A3 (m2 + 1) c3)) base tInt A3 (m2 + 1) c3 (ys ++ [u]) ∧ ApartR A1 m c1 A3 (m2 + 1) c3 ∧ Fresh a (w3.setCell ⟨p, 4, none⟩ (.slice A3 (m2 + 1) c3)) := by
  have ha := Fresh.alloc wx o
  have hb3 := (hbp.alloc o).grown hg3 ((ho2.fresh ha).ne_block (hbp.alloc o) (by decide))
  have hgb3 := (hgb.alloc o).grown hg3 ((ho2.fresh ha).ne_block (hgb.alloc o) (by decide))
  have hX3 := (hX.alloc o).grown hg3 ((ho2.fresh ha).ne_block (hX.alloc o) (by decide))
  have ho13 : Own w3 base tInt A1 m c1 xs := own_kept (ho1.fresh ha) hg3 fun g hg e => hap g hg e
  refine ⟨hb3.cell (i := 4) rfl, hb3.free 4, hb3.put 4 _, hgb3.apart (p := ⟨p, 4, none⟩) (fun e => ?_) _, hX3.apart (p := ⟨p, 4, none⟩) hXp _, ho13.but (But.put _ _) (ho13.ne_block hb3 (by decide)), ho3.but (But.put _ _) (ho3.ne_block hb3 (by decide)), fun g h1 h2 => ?_, ?_⟩
  · have e1 : gb = p := e
    subst e1
    have h1 : w3.heap[gb]? = _ := hb3
    have h2 : w3.heap[gb]? = _ := hgb3
    rw [h1] at h2
    injection h2 with h2
    injection h2 with _ h2
    exact absurd h2 (by decide)
  · rcases hw3 with h | h
    · rw [h] at h2; exact hap g h1 h2
    · rw [h] at h2
      injection h2 with h2
      have := (own_low ho1 g h1).2
      simp at h2
      omega
  · exact Fresh.but (Fresh.append (hfa.trans ha) (ho2.fresh ha) hba hg3) hp (But.put _ _)
end
set_option maxHeartbeats 8000000 in
set_option maxRecDepth 100000 in
theorem class_any (A : Option Addr) (n c B at0 : Nat) (l : List Nat) (w : World) (hr : Rd w B A n (ir l)) (hB : B ≤ w.heap.size) (hm : n ≤ 1000) (hat : at0 ≤ n) (nt : Bool) (hnt : beg (l.drop at0) 33 = nt) (K : Nat) (hK : K = at0 + if nt = true then 1 else 0) :
    Calls Tryd.prog 20 #[.slice A n c, .int .i64 (at0 : Nat)] w (RclsIs nt K (cl true (l.drop K)) w) := by
  obtain ⟨i0, hi0, hz0, hz1, hz2⟩ := info_parts info_intG
  have hl : l.length = n := by have := hr.1; rwa [List.length_map] at this
  rw [← cl_both]
  have hs : ∀ v2, Bk ((w.alloc (.cells #[iv 0, iv 0, .bool false, nilS, nilS] tRPart)).alloc (.cells #[iv 4, iv 0, v2, nilS, nilS] tRPart)) w.heap.size tRPart [iv 0, iv 0, .bool false, nilS, nilS] ∧ Bk ((w.alloc (.cells #[iv 0, iv 0, .bool false, nilS, nilS] tRPart)).alloc (.cells #[iv 4, iv 0, v2, nilS, nilS] tRPart)) (w.heap.size + 1) tRPart [iv 4, iv 0, v2, nilS, nilS] ∧ Fresh w ((w.alloc (.cells #[iv 0, iv 0, .bool false, nilS, nilS] tRPart)).alloc (.cells #[iv 4, iv 0, v2, nilS, nilS] tRPart)) := fun v2 => by
    have h2 := Bk.made (w.alloc (.cells #[iv 0, iv 0, .bool false, nilS, nilS] tRPart)) tRPart #[iv 4, iv 0, v2, nilS, nilS]
    have hs1 : (w.alloc (.cells #[iv 0, iv 0, .bool false, nilS, nilS] tRPart)).heap.size = w.heap.size + 1 := by simp
    rw [hs1] at h2
    exact ⟨(Bk.made w tRPart #[iv 0, iv 0, .bool false, nilS, nilS]).alloc _, h2, (Fresh.alloc _ _).trans (Fresh.alloc _ _)⟩
  have hKn : nt = true → at0 < n := fun h => by
    by_cases h2 : at0 < n
    · exact h2
    · rw [List.drop_of_length_le (by omega)] at hnt
      rw [← hnt] at h
      cases h
  have hrel0 : ∀ W, Bk W w.heap.size tRPart [iv 0, iv 0, .bool false, nilS, nilS] → Bk W (w.heap.size + 1) tRPart [iv 4, iv 0, .bool nt, nilS, nilS] → Fresh w W → K ≤ n → ∃ (at_ m c1 c2 : Nat) (A1 A2 : Option Addr) (done : List (Nat × Nat)), Value.int .i64 (K : Nat) = .int .i64 (at_ : Nat) ∧ K ≤ at_ ∧ at_ ≤ n ∧ Bk W w.heap.size tRPart [iv 0, iv 0, .bool false, nilS, nilS] ∧ Bk W (w.heap.size + 1) tRPart [iv 4, iv 0, .bool nt, .slice A1 m c1, .slice A2 m c2] ∧ Own W (w.heap.size + 2) tInt A1 m c1 (ir (done.map Prod.fst)) ∧ Own W (w.heap.size + 2) tInt A2 m c2 (ir (done.map Prod.snd)) ∧ Hid (ApartR A1 m c1 A2 m c2) ∧ Hid (done.length = m) ∧ m ≤ at_ ∧
      Hid (clR true (l.drop K) = (clR (decide (done = [])) (l.drop at_)).map fun q => (done ++ q.1, at_ - K + q.2)) ∧ Fresh w W := by
    intro W h1 h2 h3 h4
    refine ⟨K, 0, 0, 0, none, none, [], rfl, Nat.le_refl _, h4, h1, h2, Own.nil _ _ _, Own.nil _ _ _, ?_, rfl, Nat.zero_le _, ?_, h3⟩
    · show ApartR _ _ _ _ _ _
      intro g hg
      cases hg
    · show clR true (l.drop K) = _
      cases h : clR true (l.drop K) with
      | none => simp [h]
      | some q => simp [h]
  have HREL := Lib.hid hrel0
  have hKle : K ≤ n := by
    rw [hK]
    cases nt with
    | true => have := hKn rfl; rw [if_pos rfl]; omega
    | false => rw [if_neg (by decide)]; omega
  have hrd1 := hr.alloc hB (.cells #[iv 0, iv 0, .bool false, nilS, nilS] tRPart)
  have hrd2 := hrd1.alloc (Nat.le_trans hB (by simp)) (.cells #[iv 4, iv 0, .bool false, nilS, nilS] tRPart)
  have HRD2 := Lib.hid hrd2
  have HR := Lib.hid hr
  have HL := Lib.hid hl
  have HS := Lib.hid hs
  have HKN := Lib.hid hKn
  have HNT := Lib.hid hnt
  have HKL := Lib.hid hKle
  have HHK := Lib.hid hK
  clear hK hKle hr hl hs hrel0 hKn hnt hrd1 hrd2
  go_enter Tryd.func20, Tryd.ntmps20
  go_upto_region 2 with (fail)
  go_cut [19] (fun v wx => v = .bool nt ∧ wx = (w.alloc (.cells #[iv 0, iv 0, .bool false, nilS, nilS] tRPart)).alloc (.cells #[iv 4, iv 0, .bool false, nilS, nilS] tRPart))
  case first =>
    by_cases h0 : at0 < n
    · obtain ⟨b, off, x, rfl, hb, hx, hcx⟩ := HRD2.out.at_ h0
      have hbg : ((x : Int) == 33) = nt := by
        rw [← HNT.out, beg_at hx]
        by_cases h : x = 33
        · subst h; rfl
        · rw [decide_eq_false h, beq_eq_false_iff_ne]; omega
      have p1 : (at0 : Int) < (n : Int) := by omega
      clear hx
      go_wp2
      go_meet
      exact ⟨rfl, rfl⟩
    · have hbg : nt = false := by
        cases nt with
        | true => exact absurd (HKN.out rfl) h0
        | false => rfl
      obtain rfl : at0 = n := by omega
      subst hbg
      go_wp2
      go_meet
      exact ⟨rfl, rfl⟩
  case rest =>
    obtain ⟨rfl, rfl⟩ := hcut
    cases nt with
    | true =>
      have hK1 : K = at0 + 1 := by rw [HHK.out, if_pos rfl]
      have HKE := Lib.hid (show ((at0 : Int) + 1) = (K : Int) by omega)
      have eK : IntKind.i64.wrap ((at0 : Int) + 1) = (K : Int) := by rw [IntWalk.i64_in _ (by omega)]; omega
      clear hK1
      have hb2 := (HS.out (.bool false)).2.1
      have kk2 := hb2.cell (i := 2) rfl
      have ff2 := hb2.free 2
      go_wp2
      clear eK
      go_loopw [1] (fun v wr => ∃ (at_ m c1 c2 : Nat) (A1 A2 : Option Addr) (done : List (Nat × Nat)), v = .int .i64 (at_ : Nat) ∧ K ≤ at_ ∧ at_ ≤ n ∧ Bk wr w.heap.size tRPart [iv 0, iv 0, .bool false, nilS, nilS] ∧ Bk wr (w.heap.size + 1) tRPart [iv 4, iv 0, .bool true, .slice A1 m c1, .slice A2 m c2] ∧ Own wr (w.heap.size + 2) tInt A1 m c1 (ir (done.map Prod.fst)) ∧ Own wr (w.heap.size + 2) tInt A2 m c2 (ir (done.map Prod.snd)) ∧ Hid (ApartR A1 m c1 A2 m c2) ∧ Hid (done.length = m) ∧ m ≤ at_ ∧
      Hid (clR true (l.drop K) = (clR (decide (done = [])) (l.drop at_)).map fun q => (done ++ q.1, at_ - K + q.2)) ∧ Fresh w wr) (fun v _ => n - (intOf v).toNat)
      case atStart => exact HREL.out _ (HS.out _).1 (HS.out _).2.1 (HS.out _).2.2 HKL.out
      case round =>
        obtain ⟨at_, m, c1, c2, A1, A2, done, rfl, hat1, hat2, hbx, hbp, ho1, ho2, hap, hdl, hmat, hcl, hfr⟩ := hrel
        have hrd := HR.out.below hfr hB
        have k3 := hbp.cell (i := 3) rfl
        have HRD := Lib.hid hrd
        have HBX := Lib.hid hbx
        have HBP := Lib.hid hbp
        have HO1 := Lib.hid ho1
        have HO2 := Lib.hid ho2
        have HF := Lib.hid hfr
        have hbB : B ≤ wr.heap.size := Nat.le_trans hB hfr.size
        clear hrd hbx hbp ho1 ho2 hfr
        obtain ⟨C, hC⟩ : ∃ C : Bool, (decide (at_ < n) && (beg (l.drop at_) 93 && decide (0 < m))) = C := ⟨_, rfl⟩
        have HC := Lib.hid hC
        clear hC
        go_upto_region 5 with (fail)
        go_cut [39] (fun v wx => v = .bool C ∧ wr = wx)
        case first =>
          by_cases h0 : at_ < n
          · obtain ⟨b, off, x, rfl, hb, hx, hcx⟩ := HRD.out.at_ h0
            have hcc := HC.out
            rw [decide_eq_true h0, beg_at hx] at hcc
            have p1 : (at_ : Int) < (n : Int) := by omega
            by_cases h93 : x = 93
            · subst h93
              have p2 : decide ((m : Int) > 0) = decide (0 < m) := decide_eq_decide.2 (by omega)
              have p3 : decide (0 < (m : Int)) = decide (0 < m) := decide_eq_decide.2 (by omega)
              rw [decide_eq_true rfl, Bool.true_and, Bool.true_and] at hcc
              rw [hcc] at p2 p3
              clear hx
              go_wp2
              go_meet
              exact ⟨by first | rfl | (rw [hcc]; done) | simp [hcc], rfl⟩
            · have q1 : ((x : Int) == 93) = false := by rw [beq_eq_false_iff_ne]; omega
              rw [decide_eq_false h93, Bool.false_and, Bool.and_false] at hcc
              subst hcc
              clear hx h93
              go_wp2
              go_meet
              exact ⟨by first | rfl | simp, rfl⟩
          · have hcc := HC.out
            rw [decide_eq_false h0, Bool.false_and] at hcc
            subst hcc
            have p1 : decide ((at_ : Int) < (n : Int)) = false := by rw [decide_eq_false_iff_not]; omega
            have p2 : decide (at_ < n) = false := decide_eq_false h0
            go_wp2
            go_meet
            exact ⟨by first | rfl | simp, rfl⟩
        case rest =>
          obtain ⟨rfl, rfl⟩ := hcut
          cases C with
          | true =>
            have hC := HC.out
            rw [Bool.and_eq_true, Bool.and_eq_true, decide_eq_true_iff, decide_eq_true_iff] at hC
            obtain ⟨hx1, hx2, hx3⟩ := hC
            have hd : decide (done = []) = false := by
              rw [decide_eq_false_iff_not]
              rintro rfl
              have := hdl.out
              simp at this
              omega
            have hres := clR_at K hcl.out (r := some ([], 1)) (by rw [hd, clR_end hx2])
            have ea : IntKind.i64.wrap ((at_ : Int) + 1) = ((at_ + 1 : Nat) : Int) := by rw [IntWalk.i64_in _ (by omega)]; omega
            have k1 := HBP.out.cell (i := 1) rfl
            have f1 := HBP.out.free 1
            have hp2 := HBP.out.put 1 (iv ((at_ + 1 : Nat) : Int))
            have hx9 := HBX.out.apart (p := ⟨w.heap.size + 1, 1, none⟩) (by simp) (iv ((at_ + 1 : Nat) : Int))
            have hrt1 := RdT.of_own1 HO1.out
            have hrt2 := RdT.of_own1 HO2.out
            have hfin : ∀ W, KeepT tInt wr W → Fresh w W → RclsIs true K (clR true (l.drop K)) w (.returned (.agg #[iv 4, iv ((at_ + 1 : Nat) : Int), .bool true, .slice A1 m c1, .slice A2 m c2])) W := fun W hW hW2 => by
              rw [hres]
              refine ⟨A1, c1, A2, c2, ?_, ?_, ?_, ?_, hW2⟩
              · have e1 : K + (at_ - K + 1) = at_ + 1 := by omega
                simp only [List.append_nil, hdl.out, e1]
              · simp only [List.append_nil]; exact hrt1.keep hW
              · simp only [List.append_nil]; exact hrt2.keep hW
              · simp only [List.append_nil, hdl.out]; omega
            have HFIN := Lib.hid hfin
            have HP2 := Lib.hid hp2
            have HX9 := Lib.hid hx9
            clear hrt1 hrt2 hfin hp2 hx9 hres hd hx2 hx3
            go_wp2_with (first
              | ((with_reducible refine at_slot_ 43 ?_); refine wpList_load_blk rfl tRPart (.tmp 5) rfl (w.heap.size + 1) 0 5 tRPart [iv 4, iv ((at_ + 1 : Nat) : Int), .bool true, .slice A1 m c1, .slice A2 m c2] rfl HP2.out (by simp) _ Tryd.underlying55 rfl (by kernel_rfl) ?_)
              | ((with_reducible refine at_store_ 4 43 ?_); refine wpList_store_blk rfl _ _ _ rfl w.heap.size 0 tRPart _ [iv 4, iv ((at_ + 1 : Nat) : Int), .bool true, .slice A1 m c1, .slice A2 m c2] rfl rfl HX9.out (by simp) (by intro v hv; simp at hv; rcases hv with rfl | rfl | rfl | rfl | rfl <;> rfl) (by kernel_rfl) ?_; intro w9 hb9 hbut9; have HB9 := Lib.hid hb9; have HU9 := Lib.hid hbut9; clear hb9 hbut9))
            exact bodyPost_ret (results_cell_row (p := 4) (by kernel_rfl) _ _ w.heap.size tRPart #[iv 4, iv ((at_ + 1 : Nat) : Int), .bool true, .slice A1 m c1, .slice A2 m c2] (0, 0) _ rfl HB9.out Tryd.underlying55 rfl (by kernel_rfl)) rfl (HFIN.out _ ((KeepT.but (But.put (g := w.heap.size + 1) (i := 1) wr _) HBP.out (by decide)).trans (KeepT.but HU9.out HX9.out (by decide))) (Fresh.but (Fresh.but HF.out (by omega) (But.put (g := w.heap.size + 1) (i := 1) wr _)) (Nat.le_refl _) HU9.out))
          | false =>
            have hgo : ¬ (decide (done = []) = false ∧ beg (l.drop at_) 93 = true) := by
              rintro ⟨h1, h2⟩
              have hC := HC.out
              rw [h2, Bool.true_and] at hC
              have hm0 : 0 < m := by
                rw [← hdl.out]
                rw [decide_eq_false_iff_not] at h1
                exact List.length_pos_iff.2 h1
              rw [decide_eq_true hm0, Bool.and_true, decide_eq_false_iff_not] at hC
              rw [List.drop_of_length_le (by rw [HL.out]; omega)] at h2
              cases h2
            have hpl := plain_any A n c B at_ l wr HRD.out hbB hm hat2
            unfold TookIs at hpl
            have hbadr : spanR (l.drop at_) = none → clR true (l.drop K) = none := fun h => by
              have h3 := clR_at K hcl.out (clR_bad hgo h)
              rw [h3]
              rfl
            have HBAD := Lib.hid hbadr
            have HGO := Lib.hid hgo
            clear hbadr hgo k3
            cases hrp : runeP (l.drop at_) with
            | none =>
              have htk : tookL l at_ = [iv 0, iv 0, .bool false] := by rw [tookL, hrp]
              rw [htk] at hpl
              have hno := HBAD.out (by rw [spanR, hrp])
              have HNO := Lib.hid hno
              have HPL := Lib.hid hpl
              clear hpl htk hno hrp
              go_wp2_with (first
                | (go_at_call 21; (refine HPL.out.mono ?_); rintro e w1 ⟨rfl, hf1⟩; have HF1 := Lib.hid hf1; clear hf1)
                | ((with_reducible refine at_store_ 4 50 ?_); refine wpList_store_blk rfl _ _ _ rfl w.heap.size 0 tRPart _ [.int .i64 (-1), iv 0, .bool false, nilS, nilS] rfl rfl ((HBX.out.fresh HF1.out).alloc _) (by simp) (by intro v hv; simp at hv; rcases hv with rfl | rfl | rfl | rfl <;> rfl) (by kernel_rfl) ?_; intro w9 hb9 hbut9; have HB9 := Lib.hid hb9; have HU9 := Lib.hid hbut9; clear hb9 hbut9))
              exact bodyPost_ret (results_cell_row (p := 4) (by kernel_rfl) _ _ w.heap.size tRPart #[.int .i64 (-1), iv 0, .bool false, nilS, nilS] (0, 0) _ rfl HB9.out Tryd.underlying55 rfl (by kernel_rfl)) rfl (rcls_none HNO.out (Fresh.but (HF.out.trans (HF1.out.trans (Fresh.alloc _ _))) (Nat.le_refl _) HU9.out))
            | some ak =>
              obtain ⟨a, k⟩ := ak
              have htk : tookL l at_ = [iv (a : Nat), iv ((at_ + k : Nat) : Int), .bool true] := by rw [tookL, hrp]
              rw [htk] at hpl
              have hkk := runeP_le hrp
              rw [List.length_drop, HL.out] at hkk
              have hkk1 := hkk.1
              have hkk2 := hkk.2
              obtain ⟨q, hq⟩ : ∃ q, at_ + k = q := ⟨_, rfl⟩
              have hsp := spanR_is HL.out hrp
              rw [hq] at hsp hpl
              have hqn : q ≤ n := by omega
              have hqa : at_ < q := by omega
              have eq1 : IntKind.i64.wrap ((q : Int) + 1) = ((q + 1 : Nat) : Int) := by rw [IntWalk.i64_in _ (by omega)]; omega
              obtain ⟨D, hD⟩ : ∃ D, dashB l n q = D := ⟨_, rfl⟩
              have HDD := Lib.hid hD
              have HSP := Lib.hid hsp
              have HPL := Lib.hid hpl
              have HQ := Lib.hid hq
              have HK2 := Lib.hid hkk2
              clear hpl htk hrp hkk hkk1 hkk2 hsp hD hq
              go_upto_region 12 with (first
                | (go_at_call 21; (refine HPL.out.mono ?_); rintro e w1 ⟨rfl, hf1⟩; have HF1 := Lib.hid hf1; clear hf1)
                | ((with_reducible refine at_slot_ 51 ?_); refine wpList_load_blk rfl tTook (.tmp 6) rfl w1.heap.size 0 3 tTook [iv (a : Nat), iv (q : Nat), .bool true] rfl (Bk.made w1 tTook #[iv (a : Nat), iv (q : Nat), .bool true]) (by simp) _ Tryd.underlying58 rfl (by kernel_rfl) ?_))
              obtain ⟨w2, hw2⟩ : ∃ w2, (w1.alloc (.cells #[iv (a : Nat), iv (q : Nat), .bool true] tTook)).alloc (.cells #[iv (a : Nat), iv (q : Nat), .bool true] tTook) = w2 := ⟨_, rfl⟩
              have hga : Bk w2 w1.heap.size tTook [iv (a : Nat), iv (q : Nat), .bool true] := by rw [← hw2]; exact (Bk.made w1 tTook #[iv (a : Nat), iv (q : Nat), .bool true]).alloc _
              have hgb : Bk w2 (w1.heap.size + 1) tTook [iv (a : Nat), iv (q : Nat), .bool true] := by
                have h := Bk.made (w1.alloc (.cells #[iv (a : Nat), iv (q : Nat), .bool true] tTook)) tTook #[iv (a : Nat), iv (q : Nat), .bool true]
                rw [hw2] at h
                simpa using h
              have hf2 : Fresh wr w2 := by rw [← hw2]; exact HF1.out.trans ((Fresh.alloc _ _).trans (Fresh.alloc _ _))
              rw [hw2]
              have ka1 := hga.cell (i := 1) rfl
              have HGA := Lib.hid hga
              have HGB := Lib.hid hgb
              have HFW := Lib.hid hf2
              have hga1 : wr.heap.size ≤ w1.heap.size := HF1.out.size
              clear hw2 hga hgb hf2
              go_cut [74] (fun v wx => v = .bool D ∧ w2 = wx)
              case first =>
                have hdd := HDD.out
                unfold dashB at hdd
                have hrd2 := HRD.out.below HFW.out hbB
                by_cases h1 : q + 1 < n
                · obtain ⟨b, off, x, rfl, hb, hx, hcx⟩ := hrd2.at_ (show q < n by omega)
                  obtain ⟨b', off', y, e', hb', hy, hcy⟩ := hrd2.at_ h1
                  injection e' with e'
                  injection e' with e2 e3 _
                  subst e2; subst e3
                  have p1 : (q : Int) + 1 < (n : Int) := by omega
                  have p2 : (q : Int) < (n : Int) := by omega
                  have p3 : (0 : Int) ≤ (q : Int) + 1 := by omega
                  rw [decide_eq_true h1, Bool.true_and, beg_at hx, beg_at hy] at hdd
                  by_cases h45 : x = 45
                  · subst h45
                    rw [decide_eq_true rfl, Bool.true_and] at hdd
                    by_cases h93 : y = 93
                    · subst h93
                      rw [decide_eq_true rfl] at hdd
                      subst hdd
                      clear hx hy
                      go_wp2
                      go_meet
                      exact ⟨by first | rfl | simp, rfl⟩
                    · rw [decide_eq_false h93] at hdd
                      subst hdd
                      have q1 : ((y : Int) == 93) = false := by rw [beq_eq_false_iff_ne]; omega
                      have q2 : ((y : Int) != 93) = true := by rw [bne_iff_ne]; omega
                      clear hx hy h93
                      go_wp2
                      go_meet
                      exact ⟨by first | rfl | simp, rfl⟩
                  · rw [decide_eq_false h45, Bool.false_and] at hdd
                    subst hdd
                    have q1 : ((x : Int) == 45) = false := by rw [beq_eq_false_iff_ne]; omega
                    clear hx hy h45
                    go_wp2
                    go_meet
                    exact ⟨by first | rfl | simp, rfl⟩
                · rw [decide_eq_false h1, Bool.false_and] at hdd
                  subst hdd
                  have p1 : decide ((q : Int) + 1 < (n : Int)) = false := by rw [decide_eq_false_iff_not]; omega
                  have p2 : decide (q + 1 < n) = false := decide_eq_false h1
                  have p3 : ¬ ((q : Int) + 1 < (n : Int)) := by omega
                  go_wp2
                  go_meet
                  exact ⟨by first | rfl | simp, rfl⟩
              case rest =>
                obtain ⟨rfl, rfl⟩ := hcut
                go_upto_if 74 with (fail)
                go_cut [1] (fun v wx => ∃ b q' : Nat, v = .int .i64 (at_ : Nat) ∧ at_ < q' ∧ q' ≤ n ∧ Bk wx w1.heap.size tTook [iv (a : Nat), iv (q : Nat), .bool true] ∧ Bk wx (w1.heap.size + 1) tTook [iv (b : Nat), iv (q' : Nat), .bool true] ∧ Hid (spanR (l.drop at_) = some ((a, b), q' - at_)) ∧ Fresh wr wx)
                case first =>
                  cases D with
                  | false =>
                    have hss := HSP.out
                    rw [HDD.out, if_neg (by decide)] at hss
                    have HSS := Lib.hid hss
                    clear hss
                    go_wp2
                    go_meet
                    exact ⟨a, q, rfl, hqa, hqn, HGA.out, HGB.out, show _ = _ by rw [HSS.out, ← HQ.out, Nat.add_sub_cancel_left], HFW.out⟩
                  | true =>
                    have hq1n : q + 1 < n := by
                      have h := HDD.out
                      unfold dashB at h
                      rw [Bool.and_eq_true, decide_eq_true_iff] at h
                      exact h.1
                    have hss := HSP.out
                    rw [HDD.out, if_pos rfl] at hss
                    rw [← HQ.out] at hss
                    have hqq := HQ.out
                    rw [hqq] at hss
                    have hpl2 := plain_any A n c B (q + 1) l w2 (HRD.out.below HFW.out hbB) (Nat.le_trans hbB HFW.out.size) hm (by omega)
                    unfold TookIs at hpl2
                    cases hrp2 : runeP (l.drop (q + 1)) with
                    | none =>
                      have htk2 : tookL l (q + 1) = [iv 0, iv 0, .bool false] := by rw [tookL, hrp2]
                      rw [htk2] at hpl2
                      rw [hrp2] at hss
                      have HNO := Lib.hid (HBAD.out hss)
                      have HPL2 := Lib.hid hpl2
                      clear hpl2 htk2 hrp2 hss hqq
                      go_wp2_with (first
                        | (go_at_call 21; (refine HPL2.out.mono ?_); rintro e w3 ⟨rfl, hf3⟩; have HF3 := Lib.hid (HFW.out.trans hf3); have HGA3 := Lib.hid (HGA.out.fresh hf3); have HGB3 := Lib.hid (HGB.out.fresh hf3); have HBX3 := Lib.hid ((HBX.out.fresh HFW.out).fresh hf3); clear hf3)
                        | ((with_reducible refine at_store_ 7 79 ?_); refine wpList_store_blk rfl _ _ _ rfl (w1.heap.size + 1) 0 tTook _ [iv 0, iv 0, .bool false] rfl rfl HGB3.out (by simp) (by intro v hv; simp at hv; rcases hv with rfl | rfl <;> rfl) (by kernel_rfl) ?_; intro w5 hb5 hbut5; have hx5 : Bk w5 w.heap.size tRPart [iv 0, iv 0, .bool false, nilS, nilS] := (HBX3.out).old (hbut5.block _ HBX3.out.inside (fun e => by injection e; have := HF.out.size; omega)); have ha5 : Bk w5 w1.heap.size tTook [iv (a : Nat), iv (q : Nat), .bool true] := HGA3.out.old (hbut5.block _ HGA3.out.inside (fun e => by injection e; omega)); have hb5' : Bk w5 (w1.heap.size + 1) tTook [iv 0, iv 0, .bool false] := hb5; have kb0 := hb5'.cell (i := 0) rfl; have kb2 := hb5'.cell (i := 2) rfl; have kaa := ha5.cell (i := 0) rfl; have HX5 := Lib.hid hx5; have HA5 := Lib.hid ha5; have HB5 := Lib.hid hb5'; have HF5 := Lib.hid (Fresh.but HF3.out (by omega) hbut5); clear hb5 hbut5 hx5 ha5 hb5')
                        | ((with_reducible refine at_store_ 4 90 ?_); refine wpList_store_blk rfl _ _ _ rfl w.heap.size 0 tRPart _ [.int .i64 (-1), iv 0, .bool false, nilS, nilS] rfl rfl HX5.out (by simp) (by intro v hv; simp at hv; rcases hv with rfl | rfl | rfl | rfl <;> rfl) (by kernel_rfl) ?_; intro w9 hb9 hbut9; have HB9 := Lib.hid hb9; have HU9 := Lib.hid hbut9; clear hb9 hbut9))
                      exact bodyPost_ret (results_cell_row (p := 4) (by kernel_rfl) _ _ w.heap.size tRPart #[.int .i64 (-1), iv 0, .bool false, nilS, nilS] (0, 0) _ rfl HB9.out Tryd.underlying55 rfl (by kernel_rfl)) rfl (rcls_none HNO.out (Fresh.but (HF.out.trans HF5.out) (Nat.le_refl _) HU9.out))
                    | some bm =>
                      obtain ⟨b, m'⟩ := bm
                      have htk2 : tookL l (q + 1) = [iv (b : Nat), iv ((q + 1 + m' : Nat) : Int), .bool true] := by rw [tookL, hrp2]
                      rw [htk2] at hpl2
                      rw [hrp2] at hss
                      simp only at hss
                      have hmm := runeP_le hrp2
                      rw [List.length_drop, HL.out] at hmm
                      have hmm1 := hmm.1
                      have hmm2 := hmm.2
                      have HPL2 := Lib.hid hpl2
                      by_cases hba : b < a
                      · rw [if_pos hba] at hss
                        have HNO := Lib.hid (HBAD.out hss)
                        have t6 : decide ((b : Int) < (a : Int)) = true := by rw [decide_eq_true_iff]; omega
                        have t7 : decide (b < a) = true := decide_eq_true hba
                        clear hpl2 htk2 hrp2 hss hqq hmm
                        go_wp2_with (first
                          | (go_at_call 21; (refine HPL2.out.mono ?_); rintro e w3 ⟨rfl, hf3⟩; have HF3 := Lib.hid (HFW.out.trans hf3); have HGA3 := Lib.hid (HGA.out.fresh hf3); have HGB3 := Lib.hid (HGB.out.fresh hf3); have HBX3 := Lib.hid ((HBX.out.fresh HFW.out).fresh hf3); clear hf3)
                          | ((with_reducible refine at_store_ 7 79 ?_); refine wpList_store_blk rfl _ _ _ rfl (w1.heap.size + 1) 0 tTook _ [iv (b : Nat), iv ((q + 1 + m' : Nat) : Int), .bool true] rfl rfl HGB3.out (by simp) (by intro v hv; simp at hv; rcases hv with rfl | rfl | rfl <;> rfl) (by kernel_rfl) ?_; intro w5 hb5 hbut5; have hx5 : Bk w5 w.heap.size tRPart [iv 0, iv 0, .bool false, nilS, nilS] := (HBX3.out).old (hbut5.block _ HBX3.out.inside (fun e => by injection e; have := HF.out.size; omega)); have ha5 : Bk w5 w1.heap.size tTook [iv (a : Nat), iv (q : Nat), .bool true] := HGA3.out.old (hbut5.block _ HGA3.out.inside (fun e => by injection e; omega)); have hb5' : Bk w5 (w1.heap.size + 1) tTook [iv (b : Nat), iv ((q + 1 + m' : Nat) : Int), .bool true] := hb5; have kb0 := hb5'.cell (i := 0) rfl; have kb2 := hb5'.cell (i := 2) rfl; have kaa := ha5.cell (i := 0) rfl; have HX5 := Lib.hid hx5; have HA5 := Lib.hid ha5; have HB5 := Lib.hid hb5'; have HF5 := Lib.hid (Fresh.but HF3.out (by omega) hbut5); clear hb5 hbut5 hx5 ha5 hb5')
                          | ((with_reducible refine at_store_ 4 90 ?_); refine wpList_store_blk rfl _ _ _ rfl w.heap.size 0 tRPart _ [.int .i64 (-1), iv 0, .bool false, nilS, nilS] rfl rfl HX5.out (by simp) (by intro v hv; simp at hv; rcases hv with rfl | rfl | rfl | rfl <;> rfl) (by kernel_rfl) ?_; intro w9 hb9 hbut9; have HB9 := Lib.hid hb9; have HU9 := Lib.hid hbut9; clear hb9 hbut9))
                        exact bodyPost_ret (results_cell_row (p := 4) (by kernel_rfl) _ _ w.heap.size tRPart #[.int .i64 (-1), iv 0, .bool false, nilS, nilS] (0, 0) _ rfl HB9.out Tryd.underlying55 rfl (by kernel_rfl)) rfl (rcls_none HNO.out (Fresh.but (HF.out.trans HF5.out) (Nat.le_refl _) HU9.out))
                      · rw [if_neg hba] at hss
                        have t6 : decide ((b : Int) < (a : Int)) = false := by rw [decide_eq_false_iff_not]; omega
                        have t7 : decide (b < a) = false := decide_eq_false hba
                        have HSS := Lib.hid hss
                        have HMM := Lib.hid hmm
                        clear hpl2 htk2 hrp2 hss hqq hmm
                        go_wp2_with (first
                          | (go_at_call 21; (refine HPL2.out.mono ?_); rintro e w3 ⟨rfl, hf3⟩; have HF3 := Lib.hid (HFW.out.trans hf3); have HGA3 := Lib.hid (HGA.out.fresh hf3); have HGB3 := Lib.hid (HGB.out.fresh hf3); have HBX3 := Lib.hid ((HBX.out.fresh HFW.out).fresh hf3); clear hf3)
                          | ((with_reducible refine at_store_ 7 79 ?_); refine wpList_store_blk rfl _ _ _ rfl (w1.heap.size + 1) 0 tTook _ [iv (b : Nat), iv ((q + 1 + m' : Nat) : Int), .bool true] rfl rfl HGB3.out (by simp) (by intro v hv; simp at hv; rcases hv with rfl | rfl | rfl <;> rfl) (by kernel_rfl) ?_; intro w5 hb5 hbut5; have hx5 : Bk w5 w.heap.size tRPart [iv 0, iv 0, .bool false, nilS, nilS] := (HBX3.out).old (hbut5.block _ HBX3.out.inside (fun e => by injection e; have := HF.out.size; omega)); have ha5 : Bk w5 w1.heap.size tTook [iv (a : Nat), iv (q : Nat), .bool true] := HGA3.out.old (hbut5.block _ HGA3.out.inside (fun e => by injection e; omega)); have hb5' : Bk w5 (w1.heap.size + 1) tTook [iv (b : Nat), iv ((q + 1 + m' : Nat) : Int), .bool true] := hb5; have kb0 := hb5'.cell (i := 0) rfl; have kb2 := hb5'.cell (i := 2) rfl; have kaa := ha5.cell (i := 0) rfl; have HX5 := Lib.hid hx5; have HA5 := Lib.hid ha5; have HB5 := Lib.hid hb5'; have HF5 := Lib.hid (Fresh.but HF3.out (by omega) hbut5); clear hb5 hbut5 hx5 ha5 hb5'))
                        go_meet
                        exact ⟨b, q + 1 + m', rfl, by omega, by have := HMM.out; omega, HA5.out, HB5.out, show _ = _ by rw [HSS.out, ← HQ.out]; congr 2; omega, HF5.out⟩
                case rest =>
                  obtain ⟨b, q', rfl, hq1, hq2, hga, hgb, hspn, hfx⟩ := hcut
                  have hstep : clR true (l.drop K) = (clR (decide (done ++ [(a, b)] = [])) (l.drop q')).map fun x => ((done ++ [(a, b)]) ++ x.1, q' - K + x.2) := by
                    have h3 := clR_at K hcl.out (clR_step HGO.out hspn.out)
                    rw [h3, List.drop_drop, decide_eq_false (by simp), Option.map_map, show at_ + (q' - at_) = q' by omega]
                    congr 1
                    funext x
                    simp
                    omega
                  have HST := Lib.hid hstep
                  have HP0 := Lib.hid (HBP.out.fresh hfx)
                  have HX0 := Lib.hid (HBX.out.fresh hfx)
                  have HG0 := Lib.hid hgb
                  have HA0 := Lib.hid hga
                  have HO10 := Lib.hid (HO1.out.fresh hfx)
                  have HO20 := Lib.hid (HO2.out.fresh hfx)
                  have HF0 := Lib.hid (HF.out.trans hfx)
                  have ka0 := hga.cell (i := 0) rfl
                  have kb0 := hgb.cell (i := 0) rfl
                  have kp3 := HP0.out.cell (i := 3) rfl
                  have hpi := HP0.out.inside
                  clear hstep hga hgb hfx hspn hcl
                  go_upto_region 17 with ((with_reducible refine at_slot_ 96 ?_); refine wpList_append_rdx _ rfl (.tmp 92) (.tmp 95) 34 rfl (w.heap.size + 2) tInt i0 _ 8 Tryd.underlying34 hi0 hz0 hz1 hz2 rfl A1 m c1 (ir (done.map Prod.fst)) rfl (Own.fresh HO10.out (Fresh.alloc _ _)) (wc.heap.size + 1) (some ⟨wc.heap.size, 0, none⟩) 1 1 [iv (a : Nat)] rfl (Rd.lit wc #[iv (a : Nat)] tInt) (one_one _ _) (by unfold maxLen; omega) (by omega) (by simp; omega) ?_; intro A3 c3 w3 ho3 hg3 hw3; have hpo := appA HP0.out HG0.out HX0.out HO10.out HO20.out hap.out (by omega) (by omega) (by omega) HF0.out ho3 hg3 hw3; obtain ⟨d1, d2, hd3⟩ := hpo; have HD3 := Lib.hid hd3; clear ho3 hg3 hw3 hd3)
                  obtain ⟨d3, d4, d5, d6, d7, d8, d9⟩ := HD3.out
                  clear HD3 d1 d2
                  generalize w3.setCell ⟨w.heap.size + 1, 3, none⟩ (.slice A3 (m + 1) c3) = V3 at *
                  have dk4 := d3.cell (i := 4) rfl
                  have dkb := d4.cell (i := 0) rfl
                  have hpi3 := d3.inside
                  have HP1 := Lib.hid d3
                  have HG1 := Lib.hid d4
                  have HX1 := Lib.hid d5
                  have HO11 := Lib.hid d6
                  have HO21 := Lib.hid d7
                  have HAP1 := Lib.hid d8
                  have HF1x := Lib.hid d9
                  clear d3 d4 d5 d6 d7 d8 d9
                  go_upto_region 18 with ((with_reducible refine at_slot_ 103 ?_); refine wpList_append_rdx _ rfl (.tmp 99) (.tmp 102) 34 rfl (w.heap.size + 2) tInt i0 _ 8 Tryd.underlying34 hi0 hz0 hz1 hz2 rfl A2 m c2 (ir (done.map Prod.snd)) rfl (Own.fresh HO21.out (Fresh.alloc _ _)) (V3.heap.size + 1) (some ⟨V3.heap.size, 0, none⟩) 1 1 [iv (b : Nat)] rfl (Rd.lit V3 #[iv (b : Nat)] tInt) (one_one _ _) (by unfold maxLen; omega) (by omega) (by simp; omega) ?_; intro A4 c4 w4 ho4 hg4 hw4; have hpo := appB HP1.out HG1.out HX1.out HO11.out HO21.out HAP1.out (by omega) (by omega) (by omega) HF1x.out ho4 hg4 hw4; obtain ⟨d1, d2, hd3⟩ := hpo; have HD3 := Lib.hid hd3; clear ho4 hg4 hw4 hd3)
                  obtain ⟨d3, d4, d5, d6, d7, d8, d9⟩ := HD3.out
                  clear HD3 d1 d2
                  generalize w4.setCell ⟨w.heap.size + 1, 4, none⟩ (.slice A4 (m + 1) c4) = V4 at *
                  have dkq := d4.cell (i := 1) rfl
                  have e3 : ir (done.map Prod.fst) ++ [iv (a : Nat)] = ir ((done ++ [(a, b)]).map Prod.fst) := by simp
                  have e4 : ir (done.map Prod.snd) ++ [iv (b : Nat)] = ir ((done ++ [(a, b)]).map Prod.snd) := by simp
                  rw [e3] at d6
                  rw [e4] at d7
                  have HP4 := Lib.hid d3
                  have HX4 := Lib.hid d5
                  have HO14 := Lib.hid d6
                  have HO24 := Lib.hid d7
                  have HAP4 := Lib.hid d8
                  have HF4 := Lib.hid d9
                  clear d3 d4 d5 d6 d7 d8 d9 e3 e4
                  go_wp2
                  go_roundw
                  case rel => exact ⟨q', m + 1, c3, c4, A3, A4, done ++ [(a, b)], rfl, by omega, hq2, HX4.out, HP4.out, HO14.out, HO24.out, HAP4.out, show _ = _ by rw [List.length_append, hdl.out]; rfl, by omega, HST.out, HF4.out⟩
                  case measure => simp [intOf]; omega
    | false =>
      have hK1 : at0 = K := by rw [HHK.out, if_neg (by decide)]; rfl
      have eK2 : (at0 : Int) = (K : Int) := by omega
      clear hK1
      go_wp2
      try rw [eK2]
      clear eK2
      go_loopw [1] (fun v wr => ∃ (at_ m c1 c2 : Nat) (A1 A2 : Option Addr) (done : List (Nat × Nat)), v = .int .i64 (at_ : Nat) ∧ K ≤ at_ ∧ at_ ≤ n ∧ Bk wr w.heap.size tRPart [iv 0, iv 0, .bool false, nilS, nilS] ∧ Bk wr (w.heap.size + 1) tRPart [iv 4, iv 0, .bool false, .slice A1 m c1, .slice A2 m c2] ∧ Own wr (w.heap.size + 2) tInt A1 m c1 (ir (done.map Prod.fst)) ∧ Own wr (w.heap.size + 2) tInt A2 m c2 (ir (done.map Prod.snd)) ∧ Hid (ApartR A1 m c1 A2 m c2) ∧ Hid (done.length = m) ∧ m ≤ at_ ∧
      Hid (clR true (l.drop K) = (clR (decide (done = [])) (l.drop at_)).map fun q => (done ++ q.1, at_ - K + q.2)) ∧ Fresh w wr) (fun v _ => n - (intOf v).toNat)
      case atStart => exact HREL.out _ (HS.out _).1 (HS.out _).2.1 (HS.out _).2.2 HKL.out
      case round =>
        obtain ⟨at_, m, c1, c2, A1, A2, done, rfl, hat1, hat2, hbx, hbp, ho1, ho2, hap, hdl, hmat, hcl, hfr⟩ := hrel
        have hrd := HR.out.below hfr hB
        have k3 := hbp.cell (i := 3) rfl
        have HRD := Lib.hid hrd
        have HBX := Lib.hid hbx
        have HBP := Lib.hid hbp
        have HO1 := Lib.hid ho1
        have HO2 := Lib.hid ho2
        have HF := Lib.hid hfr
        have hbB : B ≤ wr.heap.size := Nat.le_trans hB hfr.size
        clear hrd hbx hbp ho1 ho2 hfr
        obtain ⟨C, hC⟩ : ∃ C : Bool, (decide (at_ < n) && (beg (l.drop at_) 93 && decide (0 < m))) = C := ⟨_, rfl⟩
        have HC := Lib.hid hC
        clear hC
        go_upto_region 5 with (fail)
        go_cut [39] (fun v wx => v = .bool C ∧ wr = wx)
        case first =>
          by_cases h0 : at_ < n
          · obtain ⟨b, off, x, rfl, hb, hx, hcx⟩ := HRD.out.at_ h0
            have hcc := HC.out
            rw [decide_eq_true h0, beg_at hx] at hcc
            have p1 : (at_ : Int) < (n : Int) := by omega
            by_cases h93 : x = 93
            · subst h93
              have p2 : decide ((m : Int) > 0) = decide (0 < m) := decide_eq_decide.2 (by omega)
              have p3 : decide (0 < (m : Int)) = decide (0 < m) := decide_eq_decide.2 (by omega)
              rw [decide_eq_true rfl, Bool.true_and, Bool.true_and] at hcc
              rw [hcc] at p2 p3
              clear hx
              go_wp2
              go_meet
              exact ⟨by first | rfl | (rw [hcc]; done) | simp [hcc], rfl⟩
            · have q1 : ((x : Int) == 93) = false := by rw [beq_eq_false_iff_ne]; omega
              rw [decide_eq_false h93, Bool.false_and, Bool.and_false] at hcc
              subst hcc
              clear hx h93
              go_wp2
              go_meet
              exact ⟨by first | rfl | simp, rfl⟩
          · have hcc := HC.out
            rw [decide_eq_false h0, Bool.false_and] at hcc
            subst hcc
            have p1 : decide ((at_ : Int) < (n : Int)) = false := by rw [decide_eq_false_iff_not]; omega
            have p2 : decide (at_ < n) = false := decide_eq_false h0
            go_wp2
            go_meet
            exact ⟨by first | rfl | simp, rfl⟩
        case rest =>
          obtain ⟨rfl, rfl⟩ := hcut
          cases C with
          | true =>
            have hC := HC.out
            rw [Bool.and_eq_true, Bool.and_eq_true, decide_eq_true_iff, decide_eq_true_iff] at hC
            obtain ⟨hx1, hx2, hx3⟩ := hC
            have hd : decide (done = []) = false := by
              rw [decide_eq_false_iff_not]
              rintro rfl
              have := hdl.out
              simp at this
              omega
            have hres := clR_at K hcl.out (r := some ([], 1)) (by rw [hd, clR_end hx2])
            have ea : IntKind.i64.wrap ((at_ : Int) + 1) = ((at_ + 1 : Nat) : Int) := by rw [IntWalk.i64_in _ (by omega)]; omega
            have k1 := HBP.out.cell (i := 1) rfl
            have f1 := HBP.out.free 1
            have hp2 := HBP.out.put 1 (iv ((at_ + 1 : Nat) : Int))
            have hx9 := HBX.out.apart (p := ⟨w.heap.size + 1, 1, none⟩) (by simp) (iv ((at_ + 1 : Nat) : Int))
            have hrt1 := RdT.of_own1 HO1.out
            have hrt2 := RdT.of_own1 HO2.out
            have hfin : ∀ W, KeepT tInt wr W → Fresh w W → RclsIs false K (clR true (l.drop K)) w (.returned (.agg #[iv 4, iv ((at_ + 1 : Nat) : Int), .bool false, .slice A1 m c1, .slice A2 m c2])) W := fun W hW hW2 => by
              rw [hres]
              refine ⟨A1, c1, A2, c2, ?_, ?_, ?_, ?_, hW2⟩
              · have e1 : K + (at_ - K + 1) = at_ + 1 := by omega
                simp only [List.append_nil, hdl.out, e1]
              · simp only [List.append_nil]; exact hrt1.keep hW
              · simp only [List.append_nil]; exact hrt2.keep hW
              · simp only [List.append_nil, hdl.out]; omega
            have HFIN := Lib.hid hfin
            have HP2 := Lib.hid hp2
            have HX9 := Lib.hid hx9
            clear hrt1 hrt2 hfin hp2 hx9 hres hd hx2 hx3
            go_wp2_with (first
              | ((with_reducible refine at_slot_ 43 ?_); refine wpList_load_blk rfl tRPart (.tmp 5) rfl (w.heap.size + 1) 0 5 tRPart [iv 4, iv ((at_ + 1 : Nat) : Int), .bool false, .slice A1 m c1, .slice A2 m c2] rfl HP2.out (by simp) _ Tryd.underlying55 rfl (by kernel_rfl) ?_)
              | ((with_reducible refine at_store_ 4 43 ?_); refine wpList_store_blk rfl _ _ _ rfl w.heap.size 0 tRPart _ [iv 4, iv ((at_ + 1 : Nat) : Int), .bool false, .slice A1 m c1, .slice A2 m c2] rfl rfl HX9.out (by simp) (by intro v hv; simp at hv; rcases hv with rfl | rfl | rfl | rfl | rfl <;> rfl) (by kernel_rfl) ?_; intro w9 hb9 hbut9; have HB9 := Lib.hid hb9; have HU9 := Lib.hid hbut9; clear hb9 hbut9))
            exact bodyPost_ret (results_cell_row (p := 4) (by kernel_rfl) _ _ w.heap.size tRPart #[iv 4, iv ((at_ + 1 : Nat) : Int), .bool false, .slice A1 m c1, .slice A2 m c2] (0, 0) _ rfl HB9.out Tryd.underlying55 rfl (by kernel_rfl)) rfl (HFIN.out _ ((KeepT.but (But.put (g := w.heap.size + 1) (i := 1) wr _) HBP.out (by decide)).trans (KeepT.but HU9.out HX9.out (by decide))) (Fresh.but (Fresh.but HF.out (by omega) (But.put (g := w.heap.size + 1) (i := 1) wr _)) (Nat.le_refl _) HU9.out))
          | false =>
            have hgo : ¬ (decide (done = []) = false ∧ beg (l.drop at_) 93 = true) := by
              rintro ⟨h1, h2⟩
              have hC := HC.out
              rw [h2, Bool.true_and] at hC
              have hm0 : 0 < m := by
                rw [← hdl.out]
                rw [decide_eq_false_iff_not] at h1
                exact List.length_pos_iff.2 h1
              rw [decide_eq_true hm0, Bool.and_true, decide_eq_false_iff_not] at hC
              rw [List.drop_of_length_le (by rw [HL.out]; omega)] at h2
              cases h2
            have hpl := plain_any A n c B at_ l wr HRD.out hbB hm hat2
            unfold TookIs at hpl
            have hbadr : spanR (l.drop at_) = none → clR true (l.drop K) = none := fun h => by
              have h3 := clR_at K hcl.out (clR_bad hgo h)
              rw [h3]
              rfl
            have HBAD := Lib.hid hbadr
            have HGO := Lib.hid hgo
            clear hbadr hgo k3
            cases hrp : runeP (l.drop at_) with
            | none =>
              have htk : tookL l at_ = [iv 0, iv 0, .bool false] := by rw [tookL, hrp]
              rw [htk] at hpl
              have hno := HBAD.out (by rw [spanR, hrp])
              have HNO := Lib.hid hno
              have HPL := Lib.hid hpl
              clear hpl htk hno hrp
              go_wp2_with (first
                | (go_at_call 21; (refine HPL.out.mono ?_); rintro e w1 ⟨rfl, hf1⟩; have HF1 := Lib.hid hf1; clear hf1)
                | ((with_reducible refine at_store_ 4 50 ?_); refine wpList_store_blk rfl _ _ _ rfl w.heap.size 0 tRPart _ [.int .i64 (-1), iv 0, .bool false, nilS, nilS] rfl rfl ((HBX.out.fresh HF1.out).alloc _) (by simp) (by intro v hv; simp at hv; rcases hv with rfl | rfl | rfl | rfl <;> rfl) (by kernel_rfl) ?_; intro w9 hb9 hbut9; have HB9 := Lib.hid hb9; have HU9 := Lib.hid hbut9; clear hb9 hbut9))
              exact bodyPost_ret (results_cell_row (p := 4) (by kernel_rfl) _ _ w.heap.size tRPart #[.int .i64 (-1), iv 0, .bool false, nilS, nilS] (0, 0) _ rfl HB9.out Tryd.underlying55 rfl (by kernel_rfl)) rfl (rcls_none HNO.out (Fresh.but (HF.out.trans (HF1.out.trans (Fresh.alloc _ _))) (Nat.le_refl _) HU9.out))
            | some ak =>
              obtain ⟨a, k⟩ := ak
              have htk : tookL l at_ = [iv (a : Nat), iv ((at_ + k : Nat) : Int), .bool true] := by rw [tookL, hrp]
              rw [htk] at hpl
              have hkk := runeP_le hrp
              rw [List.length_drop, HL.out] at hkk
              have hkk1 := hkk.1
              have hkk2 := hkk.2
              obtain ⟨q, hq⟩ : ∃ q, at_ + k = q := ⟨_, rfl⟩
              have hsp := spanR_is HL.out hrp
              rw [hq] at hsp hpl
              have hqn : q ≤ n := by omega
              have hqa : at_ < q := by omega
              have eq1 : IntKind.i64.wrap ((q : Int) + 1) = ((q + 1 : Nat) : Int) := by rw [IntWalk.i64_in _ (by omega)]; omega
              obtain ⟨D, hD⟩ : ∃ D, dashB l n q = D := ⟨_, rfl⟩
              have HDD := Lib.hid hD
              have HSP := Lib.hid hsp
              have HPL := Lib.hid hpl
              have HQ := Lib.hid hq
              have HK2 := Lib.hid hkk2
              clear hpl htk hrp hkk hkk1 hkk2 hsp hD hq
              go_upto_region 12 with (first
                | (go_at_call 21; (refine HPL.out.mono ?_); rintro e w1 ⟨rfl, hf1⟩; have HF1 := Lib.hid hf1; clear hf1)
                | ((with_reducible refine at_slot_ 51 ?_); refine wpList_load_blk rfl tTook (.tmp 6) rfl w1.heap.size 0 3 tTook [iv (a : Nat), iv (q : Nat), .bool true] rfl (Bk.made w1 tTook #[iv (a : Nat), iv (q : Nat), .bool true]) (by simp) _ Tryd.underlying58 rfl (by kernel_rfl) ?_))
              obtain ⟨w2, hw2⟩ : ∃ w2, (w1.alloc (.cells #[iv (a : Nat), iv (q : Nat), .bool true] tTook)).alloc (.cells #[iv (a : Nat), iv (q : Nat), .bool true] tTook) = w2 := ⟨_, rfl⟩
              have hga : Bk w2 w1.heap.size tTook [iv (a : Nat), iv (q : Nat), .bool true] := by rw [← hw2]; exact (Bk.made w1 tTook #[iv (a : Nat), iv (q : Nat), .bool true]).alloc _
              have hgb : Bk w2 (w1.heap.size + 1) tTook [iv (a : Nat), iv (q : Nat), .bool true] := by
                have h := Bk.made (w1.alloc (.cells #[iv (a : Nat), iv (q : Nat), .bool true] tTook)) tTook #[iv (a : Nat), iv (q : Nat), .bool true]
                rw [hw2] at h
                simpa using h
              have hf2 : Fresh wr w2 := by rw [← hw2]; exact HF1.out.trans ((Fresh.alloc _ _).trans (Fresh.alloc _ _))
              rw [hw2]
              have ka1 := hga.cell (i := 1) rfl
              have HGA := Lib.hid hga
              have HGB := Lib.hid hgb
              have HFW := Lib.hid hf2
              have hga1 : wr.heap.size ≤ w1.heap.size := HF1.out.size
              clear hw2 hga hgb hf2
              go_cut [74] (fun v wx => v = .bool D ∧ w2 = wx)
              case first =>
                have hdd := HDD.out
                unfold dashB at hdd
                have hrd2 := HRD.out.below HFW.out hbB
                by_cases h1 : q + 1 < n
                · obtain ⟨b, off, x, rfl, hb, hx, hcx⟩ := hrd2.at_ (show q < n by omega)
                  obtain ⟨b', off', y, e', hb', hy, hcy⟩ := hrd2.at_ h1
                  injection e' with e'
                  injection e' with e2 e3 _
                  subst e2; subst e3
                  have p1 : (q : Int) + 1 < (n : Int) := by omega
                  have p2 : (q : Int) < (n : Int) := by omega
                  have p3 : (0 : Int) ≤ (q : Int) + 1 := by omega
                  rw [decide_eq_true h1, Bool.true_and, beg_at hx, beg_at hy] at hdd
                  by_cases h45 : x = 45
                  · subst h45
                    rw [decide_eq_true rfl, Bool.true_and] at hdd
                    by_cases h93 : y = 93
                    · subst h93
                      rw [decide_eq_true rfl] at hdd
                      subst hdd
                      clear hx hy
                      go_wp2
                      go_meet
                      exact ⟨by first | rfl | simp, rfl⟩
                    · rw [decide_eq_false h93] at hdd
                      subst hdd
                      have q1 : ((y : Int) == 93) = false := by rw [beq_eq_false_iff_ne]; omega
                      have q2 : ((y : Int) != 93) = true := by rw [bne_iff_ne]; omega
                      clear hx hy h93
                      go_wp2
                      go_meet
                      exact ⟨by first | rfl | simp, rfl⟩
                  · rw [decide_eq_false h45, Bool.false_and] at hdd
                    subst hdd
                    have q1 : ((x : Int) == 45) = false := by rw [beq_eq_false_iff_ne]; omega
                    clear hx hy h45
                    go_wp2
                    go_meet
                    exact ⟨by first | rfl | simp, rfl⟩
                · rw [decide_eq_false h1, Bool.false_and] at hdd
                  subst hdd
                  have p1 : decide ((q : Int) + 1 < (n : Int)) = false := by rw [decide_eq_false_iff_not]; omega
                  have p2 : decide (q + 1 < n) = false := decide_eq_false h1
                  have p3 : ¬ ((q : Int) + 1 < (n : Int)) := by omega
                  go_wp2
                  go_meet
                  exact ⟨by first | rfl | simp, rfl⟩
              case rest =>
                obtain ⟨rfl, rfl⟩ := hcut
                go_upto_if 74 with (fail)
                go_cut [1] (fun v wx => ∃ b q' : Nat, v = .int .i64 (at_ : Nat) ∧ at_ < q' ∧ q' ≤ n ∧ Bk wx w1.heap.size tTook [iv (a : Nat), iv (q : Nat), .bool true] ∧ Bk wx (w1.heap.size + 1) tTook [iv (b : Nat), iv (q' : Nat), .bool true] ∧ Hid (spanR (l.drop at_) = some ((a, b), q' - at_)) ∧ Fresh wr wx)
                case first =>
                  cases D with
                  | false =>
                    have hss := HSP.out
                    rw [HDD.out, if_neg (by decide)] at hss
                    have HSS := Lib.hid hss
                    clear hss
                    go_wp2
                    go_meet
                    exact ⟨a, q, rfl, hqa, hqn, HGA.out, HGB.out, show _ = _ by rw [HSS.out, ← HQ.out, Nat.add_sub_cancel_left], HFW.out⟩
                  | true =>
                    have hq1n : q + 1 < n := by
                      have h := HDD.out
                      unfold dashB at h
                      rw [Bool.and_eq_true, decide_eq_true_iff] at h
                      exact h.1
                    have hss := HSP.out
                    rw [HDD.out, if_pos rfl] at hss
                    rw [← HQ.out] at hss
                    have hqq := HQ.out
                    rw [hqq] at hss
                    have hpl2 := plain_any A n c B (q + 1) l w2 (HRD.out.below HFW.out hbB) (Nat.le_trans hbB HFW.out.size) hm (by omega)
                    unfold TookIs at hpl2
                    cases hrp2 : runeP (l.drop (q + 1)) with
                    | none =>
                      have htk2 : tookL l (q + 1) = [iv 0, iv 0, .bool false] := by rw [tookL, hrp2]
                      rw [htk2] at hpl2
                      rw [hrp2] at hss
                      have HNO := Lib.hid (HBAD.out hss)
                      have HPL2 := Lib.hid hpl2
                      clear hpl2 htk2 hrp2 hss hqq
                      go_wp2_with (first
                        | (go_at_call 21; (refine HPL2.out.mono ?_); rintro e w3 ⟨rfl, hf3⟩; have HF3 := Lib.hid (HFW.out.trans hf3); have HGA3 := Lib.hid (HGA.out.fresh hf3); have HGB3 := Lib.hid (HGB.out.fresh hf3); have HBX3 := Lib.hid ((HBX.out.fresh HFW.out).fresh hf3); clear hf3)
                        | ((with_reducible refine at_store_ 7 79 ?_); refine wpList_store_blk rfl _ _ _ rfl (w1.heap.size + 1) 0 tTook _ [iv 0, iv 0, .bool false] rfl rfl HGB3.out (by simp) (by intro v hv; simp at hv; rcases hv with rfl | rfl <;> rfl) (by kernel_rfl) ?_; intro w5 hb5 hbut5; have hx5 : Bk w5 w.heap.size tRPart [iv 0, iv 0, .bool false, nilS, nilS] := (HBX3.out).old (hbut5.block _ HBX3.out.inside (fun e => by injection e; have := HF.out.size; omega)); have ha5 : Bk w5 w1.heap.size tTook [iv (a : Nat), iv (q : Nat), .bool true] := HGA3.out.old (hbut5.block _ HGA3.out.inside (fun e => by injection e; omega)); have hb5' : Bk w5 (w1.heap.size + 1) tTook [iv 0, iv 0, .bool false] := hb5; have kb0 := hb5'.cell (i := 0) rfl; have kb2 := hb5'.cell (i := 2) rfl; have kaa := ha5.cell (i := 0) rfl; have HX5 := Lib.hid hx5; have HA5 := Lib.hid ha5; have HB5 := Lib.hid hb5'; have HF5 := Lib.hid (Fresh.but HF3.out (by omega) hbut5); clear hb5 hbut5 hx5 ha5 hb5')
                        | ((with_reducible refine at_store_ 4 90 ?_); refine wpList_store_blk rfl _ _ _ rfl w.heap.size 0 tRPart _ [.int .i64 (-1), iv 0, .bool false, nilS, nilS] rfl rfl HX5.out (by simp) (by intro v hv; simp at hv; rcases hv with rfl | rfl | rfl | rfl <;> rfl) (by kernel_rfl) ?_; intro w9 hb9 hbut9; have HB9 := Lib.hid hb9; have HU9 := Lib.hid hbut9; clear hb9 hbut9))
                      exact bodyPost_ret (results_cell_row (p := 4) (by kernel_rfl) _ _ w.heap.size tRPart #[.int .i64 (-1), iv 0, .bool false, nilS, nilS] (0, 0) _ rfl HB9.out Tryd.underlying55 rfl (by kernel_rfl)) rfl (rcls_none HNO.out (Fresh.but (HF.out.trans HF5.out) (Nat.le_refl _) HU9.out))
                    | some bm =>
                      obtain ⟨b, m'⟩ := bm
                      have htk2 : tookL l (q + 1) = [iv (b : Nat), iv ((q + 1 + m' : Nat) : Int), .bool true] := by rw [tookL, hrp2]
                      rw [htk2] at hpl2
                      rw [hrp2] at hss
                      simp only at hss
                      have hmm := runeP_le hrp2
                      rw [List.length_drop, HL.out] at hmm
                      have hmm1 := hmm.1
                      have hmm2 := hmm.2
                      have HPL2 := Lib.hid hpl2
                      by_cases hba : b < a
                      · rw [if_pos hba] at hss
                        have HNO := Lib.hid (HBAD.out hss)
                        have t6 : decide ((b : Int) < (a : Int)) = true := by rw [decide_eq_true_iff]; omega
                        have t7 : decide (b < a) = true := decide_eq_true hba
                        clear hpl2 htk2 hrp2 hss hqq hmm
                        go_wp2_with (first
                          | (go_at_call 21; (refine HPL2.out.mono ?_); rintro e w3 ⟨rfl, hf3⟩; have HF3 := Lib.hid (HFW.out.trans hf3); have HGA3 := Lib.hid (HGA.out.fresh hf3); have HGB3 := Lib.hid (HGB.out.fresh hf3); have HBX3 := Lib.hid ((HBX.out.fresh HFW.out).fresh hf3); clear hf3)
                          | ((with_reducible refine at_store_ 7 79 ?_); refine wpList_store_blk rfl _ _ _ rfl (w1.heap.size + 1) 0 tTook _ [iv (b : Nat), iv ((q + 1 + m' : Nat) : Int), .bool true] rfl rfl HGB3.out (by simp) (by intro v hv; simp at hv; rcases hv with rfl | rfl | rfl <;> rfl) (by kernel_rfl) ?_; intro w5 hb5 hbut5; have hx5 : Bk w5 w.heap.size tRPart [iv 0, iv 0, .bool false, nilS, nilS] := (HBX3.out).old (hbut5.block _ HBX3.out.inside (fun e => by injection e; have := HF.out.size; omega)); have ha5 : Bk w5 w1.heap.size tTook [iv (a : Nat), iv (q : Nat), .bool true] := HGA3.out.old (hbut5.block _ HGA3.out.inside (fun e => by injection e; omega)); have hb5' : Bk w5 (w1.heap.size + 1) tTook [iv (b : Nat), iv ((q + 1 + m' : Nat) : Int), .bool true] := hb5; have kb0 := hb5'.cell (i := 0) rfl; have kb2 := hb5'.cell (i := 2) rfl; have kaa := ha5.cell (i := 0) rfl; have HX5 := Lib.hid hx5; have HA5 := Lib.hid ha5; have HB5 := Lib.hid hb5'; have HF5 := Lib.hid (Fresh.but HF3.out (by omega) hbut5); clear hb5 hbut5 hx5 ha5 hb5')
                          | ((with_reducible refine at_store_ 4 90 ?_); refine wpList_store_blk rfl _ _ _ rfl w.heap.size 0 tRPart _ [.int .i64 (-1), iv 0, .bool false, nilS, nilS] rfl rfl HX5.out (by simp) (by intro v hv; simp at hv; rcases hv with rfl | rfl | rfl | rfl <;> rfl) (by kernel_rfl) ?_; intro w9 hb9 hbut9; have HB9 := Lib.hid hb9; have HU9 := Lib.hid hbut9; clear hb9 hbut9))
                        exact bodyPost_ret (results_cell_row (p := 4) (by kernel_rfl) _ _ w.heap.size tRPart #[.int .i64 (-1), iv 0, .bool false, nilS, nilS] (0, 0) _ rfl HB9.out Tryd.underlying55 rfl (by kernel_rfl)) rfl (rcls_none HNO.out (Fresh.but (HF.out.trans HF5.out) (Nat.le_refl _) HU9.out))
                      · rw [if_neg hba] at hss
                        have t6 : decide ((b : Int) < (a : Int)) = false := by rw [decide_eq_false_iff_not]; omega
                        have t7 : decide (b < a) = false := decide_eq_false hba
                        have HSS := Lib.hid hss
                        have HMM := Lib.hid hmm
                        clear hpl2 htk2 hrp2 hss hqq hmm
                        go_wp2_with (first
                          | (go_at_call 21; (refine HPL2.out.mono ?_); rintro e w3 ⟨rfl, hf3⟩; have HF3 := Lib.hid (HFW.out.trans hf3); have HGA3 := Lib.hid (HGA.out.fresh hf3); have HGB3 := Lib.hid (HGB.out.fresh hf3); have HBX3 := Lib.hid ((HBX.out.fresh HFW.out).fresh hf3); clear hf3)
                          | ((with_reducible refine at_store_ 7 79 ?_); refine wpList_store_blk rfl _ _ _ rfl (w1.heap.size + 1) 0 tTook _ [iv (b : Nat), iv ((q + 1 + m' : Nat) : Int), .bool true] rfl rfl HGB3.out (by simp) (by intro v hv; simp at hv; rcases hv with rfl | rfl | rfl <;> rfl) (by kernel_rfl) ?_; intro w5 hb5 hbut5; have hx5 : Bk w5 w.heap.size tRPart [iv 0, iv 0, .bool false, nilS, nilS] := (HBX3.out).old (hbut5.block _ HBX3.out.inside (fun e => by injection e; have := HF.out.size; omega)); have ha5 : Bk w5 w1.heap.size tTook [iv (a : Nat), iv (q : Nat), .bool true] := HGA3.out.old (hbut5.block _ HGA3.out.inside (fun e => by injection e; omega)); have hb5' : Bk w5 (w1.heap.size + 1) tTook [iv (b : Nat), iv ((q + 1 + m' : Nat) : Int), .bool true] := hb5; have kb0 := hb5'.cell (i := 0) rfl; have kb2 := hb5'.cell (i := 2) rfl; have kaa := ha5.cell (i := 0) rfl; have HX5 := Lib.hid hx5; have HA5 := Lib.hid ha5; have HB5 := Lib.hid hb5'; have HF5 := Lib.hid (Fresh.but HF3.out (by omega) hbut5); clear hb5 hbut5 hx5 ha5 hb5'))
                        go_meet
                        exact ⟨b, q + 1 + m', rfl, by omega, by have := HMM.out; omega, HA5.out, HB5.out, show _ = _ by rw [HSS.out, ← HQ.out]; congr 2; omega, HF5.out⟩
                case rest =>
                  obtain ⟨b, q', rfl, hq1, hq2, hga, hgb, hspn, hfx⟩ := hcut
                  have hstep : clR true (l.drop K) = (clR (decide (done ++ [(a, b)] = [])) (l.drop q')).map fun x => ((done ++ [(a, b)]) ++ x.1, q' - K + x.2) := by
                    have h3 := clR_at K hcl.out (clR_step HGO.out hspn.out)
                    rw [h3, List.drop_drop, decide_eq_false (by simp), Option.map_map, show at_ + (q' - at_) = q' by omega]
                    congr 1
                    funext x
                    simp
                    omega
                  have HST := Lib.hid hstep
                  have HP0 := Lib.hid (HBP.out.fresh hfx)
                  have HX0 := Lib.hid (HBX.out.fresh hfx)
                  have HG0 := Lib.hid hgb
                  have HA0 := Lib.hid hga
                  have HO10 := Lib.hid (HO1.out.fresh hfx)
                  have HO20 := Lib.hid (HO2.out.fresh hfx)
                  have HF0 := Lib.hid (HF.out.trans hfx)
                  have ka0 := hga.cell (i := 0) rfl
                  have kb0 := hgb.cell (i := 0) rfl
                  have kp3 := HP0.out.cell (i := 3) rfl
                  have hpi := HP0.out.inside
                  clear hstep hga hgb hfx hspn hcl
                  go_upto_region 17 with ((with_reducible refine at_slot_ 96 ?_); refine wpList_append_rdx _ rfl (.tmp 92) (.tmp 95) 34 rfl (w.heap.size + 2) tInt i0 _ 8 Tryd.underlying34 hi0 hz0 hz1 hz2 rfl A1 m c1 (ir (done.map Prod.fst)) rfl (Own.fresh HO10.out (Fresh.alloc _ _)) (wc.heap.size + 1) (some ⟨wc.heap.size, 0, none⟩) 1 1 [iv (a : Nat)] rfl (Rd.lit wc #[iv (a : Nat)] tInt) (one_one _ _) (by unfold maxLen; omega) (by omega) (by simp; omega) ?_; intro A3 c3 w3 ho3 hg3 hw3; have hpo := appA HP0.out HG0.out HX0.out HO10.out HO20.out hap.out (by omega) (by omega) (by omega) HF0.out ho3 hg3 hw3; obtain ⟨d1, d2, hd3⟩ := hpo; have HD3 := Lib.hid hd3; clear ho3 hg3 hw3 hd3)
                  obtain ⟨d3, d4, d5, d6, d7, d8, d9⟩ := HD3.out
                  clear HD3 d1 d2
                  generalize w3.setCell ⟨w.heap.size + 1, 3, none⟩ (.slice A3 (m + 1) c3) = V3 at *
                  have dk4 := d3.cell (i := 4) rfl
                  have dkb := d4.cell (i := 0) rfl
                  have hpi3 := d3.inside
                  have HP1 := Lib.hid d3
                  have HG1 := Lib.hid d4
                  have HX1 := Lib.hid d5
                  have HO11 := Lib.hid d6
                  have HO21 := Lib.hid d7
                  have HAP1 := Lib.hid d8
                  have HF1x := Lib.hid d9
                  clear d3 d4 d5 d6 d7 d8 d9
                  go_upto_region 18 with ((with_reducible refine at_slot_ 103 ?_); refine wpList_append_rdx _ rfl (.tmp 99) (.tmp 102) 34 rfl (w.heap.size + 2) tInt i0 _ 8 Tryd.underlying34 hi0 hz0 hz1 hz2 rfl A2 m c2 (ir (done.map Prod.snd)) rfl (Own.fresh HO21.out (Fresh.alloc _ _)) (V3.heap.size + 1) (some ⟨V3.heap.size, 0, none⟩) 1 1 [iv (b : Nat)] rfl (Rd.lit V3 #[iv (b : Nat)] tInt) (one_one _ _) (by unfold maxLen; omega) (by omega) (by simp; omega) ?_; intro A4 c4 w4 ho4 hg4 hw4; have hpo := appB HP1.out HG1.out HX1.out HO11.out HO21.out HAP1.out (by omega) (by omega) (by omega) HF1x.out ho4 hg4 hw4; obtain ⟨d1, d2, hd3⟩ := hpo; have HD3 := Lib.hid hd3; clear ho4 hg4 hw4 hd3)
                  obtain ⟨d3, d4, d5, d6, d7, d8, d9⟩ := HD3.out
                  clear HD3 d1 d2
                  generalize w4.setCell ⟨w.heap.size + 1, 4, none⟩ (.slice A4 (m + 1) c4) = V4 at *
                  have dkq := d4.cell (i := 1) rfl
                  have e3 : ir (done.map Prod.fst) ++ [iv (a : Nat)] = ir ((done ++ [(a, b)]).map Prod.fst) := by simp
                  have e4 : ir (done.map Prod.snd) ++ [iv (b : Nat)] = ir ((done ++ [(a, b)]).map Prod.snd) := by simp
                  rw [e3] at d6
                  rw [e4] at d7
                  have HP4 := Lib.hid d3
                  have HX4 := Lib.hid d5
                  have HO14 := Lib.hid d6
                  have HO24 := Lib.hid d7
                  have HAP4 := Lib.hid d8
                  have HF4 := Lib.hid d9
                  clear d3 d4 d5 d6 d7 d8 d9 e3 e4
                  go_wp2
                  go_roundw
                  case rel => exact ⟨q', m + 1, c3, c4, A3, A4, done ++ [(a, b)], rfl, by omega, hq2, HX4.out, HP4.out, HO14.out, HO24.out, HAP4.out, show _ = _ by rw [List.length_append, hdl.out]; rfl, by omega, HST.out, HF4.out⟩
                  case measure => simp [intOf]; omega
end Go.Proofs.YtkkkjadfhimahaaDoor.glbp
