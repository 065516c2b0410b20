import Derived.Test.YtcmeoappddpmcaaDoorDefFind2
import Derived.Deep.RegionHeld3
/-
  The contract of pass. My own text.
-/
namespace Go.Proofs.YtcmeoappddpmcaaDoor.defp
open Go.RowKit Go.Maps Go.Proofs.YtcmeoappddpmcaaDoor.base Go.Proofs.YtcmeoappddpmcaaDoor.num Go.Proofs.YtcmeoappddpmcaaDoor.bitnum Go.Proofs.YtcmeoappddpmcaaDoor.bitp Go.Proofs.YtcmeoappddpmcaaDoor.infp
set_option linter.unusedVariables false

/-- the same, but for what is farther back than may be copied from the next byte on -/
def HoldsA (b : List UInt8) (i : Nat) (kv : List (Value × Value)) : Prop :=
  (∀ x ∈ kv, ∃ k p, x = (K3.val k, iv (p : Nat)) ∧ IsLast b i k p ∧ i + 1 ≤ p + 32768) ∧ ∀ k p, IsLast b i k p → i + 1 ≤ p + 32768 → (K3.val k, iv (p : Nat)) ∈ kv
theorem HoldsA.of {b : List UInt8} {i : Nat} {kv : List (Value × Value)} (h : Holds b i kv) (hno : ∀ k p, IsLast b i k p → i + 1 ≤ p + 32768) : HoldsA b i kv :=
  ⟨fun x hx => (by obtain ⟨k, p, e, hp⟩ := h.1 x hx; exact ⟨k, p, e, hp, hno k p hp⟩), fun k p hp _ => h.2 k p hp⟩
theorem IsLast.next {b : List UInt8} {i : Nat} (hi : i + 3 ≤ b.length) {k : K3} {p : Nat} : IsLast b (i + 1) k p ↔ (k = at3 b i ∧ p = i) ∨ (k ≠ at3 b i ∧ IsLast b i k p ∧ i + 1 ≤ p + 32768) := by
  constructor
  · rintro ⟨h1, h2, h3, h4, h5⟩
    by_cases hp : p = i
    · subst hp; exact .inl ⟨h3.symm, rfl⟩
    · refine .inr ⟨fun e => h5 i (by omega) (by omega) hi e.symm, ⟨by omega, h2, h3, by omega, fun q hq hqi hq3 => h5 q hq (by omega) hq3⟩, by omega⟩
  · rintro (⟨rfl, rfl⟩ | ⟨hne, ⟨h1, h2, h3, h4, h5⟩, h6⟩)
    · exact ⟨by omega, hi, rfl, by omega, fun q hq hqi => by omega⟩
    · refine ⟨by omega, h2, h3, by omega, fun q hq hqi hq3 e => ?_⟩
      by_cases hqi' : q = i
      · subst hqi'; exact hne e.symm
      · exact h5 q hq (by omega) hq3 e
theorem last_some {b : List UInt8} {i : Nat} {k : K3} {q : Nat} (h1 : q < i) (h2 : q + 3 ≤ b.length) (h3 : at3 b q = k) (h4 : i ≤ q + 32768) : ∃ p, IsLast b i k p := by
  by_cases h : ∃ q', q < q' ∧ q' < i ∧ q' + 3 ≤ b.length ∧ at3 b q' = k
  · obtain ⟨q', a1, a2, a3, a4⟩ := h
    exact last_some a2 a3 a4 (by omega)
  · exact ⟨q, h1, h2, h3, h4, fun q' a1 a2 a3 e => h ⟨q', a1, a2, a3, e⟩⟩
termination_by i - q
theorem mem_perm {α : Type} {l : List α} {x : α} (h : x ∈ l) : ∃ r, l.Perm (x :: r) := by
  obtain ⟨s, t, rfl⟩ := List.append_of_mem h
  exact ⟨s ++ t, List.perm_middle⟩
theorem iv_inj {p q : Nat} (h : iv (p : Nat) = iv (q : Nat)) : p = q := by
  injection h with _ h
  omega
section
variable {w w' : World} {b : List UInt8} {i m : Nat} {kv : List (Value × Value)}
theorem put_run (hm : MapOf Tryd.prog tThree w m kv) (hA : HoldsA b i kv) (hi : i + 3 ≤ b.length) :
    ∃ w' kv', (Instr.mapUpdate tMap (.map (some m)) (K3.val (at3 b i)) (.int .i64 (i : Nat))).run Tryd.prog w = .ok () w' ∧ MapOf Tryd.prog tThree w' m kv' ∧ Holds b (i + 1) kv' ∧ But m w w' := by
  by_cases hx : ∃ p, IsLast b i (at3 b i) p ∧ i + 1 ≤ p + 32768
  · obtain ⟨p, hp, hp1⟩ := hx
    obtain ⟨r, hr⟩ := mem_perm (hA.2 _ _ hp hp1)
    obtain ⟨w', hrun, hm', hb⟩ := hm.put_old keyed3 Tryd.underlying46 (key3 _) hr (.int .i64 (i : Nat))
    have hap := hm'.apart
    refine ⟨w', _, hrun, hm', ⟨fun x hx => ?_, fun k q hq => ?_⟩, hb⟩
    · rcases List.mem_cons.1 hx with rfl | hx
      · exact ⟨at3 b i, i, rfl, (IsLast.next hi).2 (.inl ⟨rfl, rfl⟩)⟩
      · obtain ⟨k, q, e, hq, hq1⟩ := hA.1 x (hr.mem_iff.2 (List.mem_cons_of_mem _ hx))
        have hne : k ≠ at3 b i := fun e' => by
          have := List.rel_of_pairwise_cons hap hx
          rw [e, e'] at this
          exact this rfl
        exact ⟨k, q, e, (IsLast.next hi).2 (.inr ⟨hne, hq, hq1⟩)⟩
    · rcases (IsLast.next hi).1 hq with ⟨rfl, rfl⟩ | ⟨hne, hq', hq1⟩
      · exact List.mem_cons_self ..
      · have h1 := hr.mem_iff.1 (hA.2 k q hq' hq1)
        rcases List.mem_cons.1 h1 with e | h1
        · exact absurd (K3.val_inj (Prod.mk.inj e).1) hne
        · exact List.mem_cons_of_mem _ h1
  · have hmiss : ∀ x ∈ kv, x.1 ≠ K3.val (at3 b i) := fun x hx' e => by
      obtain ⟨k, q, rfl, hq, hq1⟩ := hA.1 x hx'
      have := K3.val_inj e
      subst this
      exact hx ⟨q, hq, hq1⟩
    obtain ⟨w', hrun, hm', hb⟩ := hm.put_new keyed3 Tryd.underlying46 (key3 _) hmiss (.int .i64 (i : Nat))
    refine ⟨w', _, hrun, hm', ⟨fun x hx' => ?_, fun k q hq => ?_⟩, hb⟩
    · rcases List.mem_cons.1 hx' with rfl | hx'
      · exact ⟨at3 b i, i, rfl, (IsLast.next hi).2 (.inl ⟨rfl, rfl⟩)⟩
      · obtain ⟨k, q, e, hq, hq1⟩ := hA.1 x hx'
        have hne : k ≠ at3 b i := fun e' => by
          have := hmiss x hx'
          rw [e, e'] at this
          exact this rfl
        exact ⟨k, q, e, (IsLast.next hi).2 (.inr ⟨hne, hq, hq1⟩)⟩
    · rcases (IsLast.next hi).1 hq with ⟨rfl, rfl⟩ | ⟨hne, hq', hq1⟩
      · exact List.mem_cons_self ..
      · exact List.mem_cons_of_mem _ (hA.2 k q hq' hq1)
theorem drop_run (hm : MapOf Tryd.prog tThree w m kv) (hH : Holds b i kv) {o : Nat} (ho : o + 32768 = i) (hl : IsLast b i (at3 b o) o) (ty : TypeId) :
    ∃ w' kv', (Builtin.delete_ #[tMap, tThree] ty #[.map (some m), K3.val (at3 b o)]).run Tryd.prog w = .ok (.tuple #[]) w' ∧ MapOf Tryd.prog tThree w' m kv' ∧ HoldsA b i kv' ∧ But m w w' := by
  obtain ⟨r, hr⟩ := mem_perm (hH.2 _ _ hl)
  obtain ⟨w', hrun, hm', hb⟩ := hm.drop_hit keyed3 Tryd.underlying46 (key3 _) hr ty
  have hap := hm.apart
  have hap2 : ((K3.val (at3 b o), iv (o : Nat)) :: r).Pairwise (fun p q => p.1 ≠ q.1) := (hr.pairwise_iff (fun {a b} (h : a.1 ≠ b.1) => h.symm)).1 hap
  refine ⟨w', r, hrun, hm', ⟨fun x hx => ?_, fun k q hq hq1 => ?_⟩, hb⟩
  · obtain ⟨k, q, e, hq⟩ := hH.1 x (hr.mem_iff.2 (List.mem_cons_of_mem _ hx))
    refine ⟨k, q, e, hq, ?_⟩
    have hne := List.rel_of_pairwise_cons hap2 hx
    rw [e] at hne
    have h4 := hq.2.2.2.1
    by_cases e' : q = o
    · subst e'
      exact absurd (congrArg K3.val hq.2.2.1) hne
    · omega
  · have h1 := hr.mem_iff.1 (hH.2 k q hq)
    rcases List.mem_cons.1 h1 with e | h1
    · have := iv_inj (Prod.mk.inj e).2
      omega
    · exact h1
end
section
variable {w w' : World} {f B n c m i : Nat} {A : Option Addr} {b : List UInt8}
theorem FindAt.turn (h : FindAt w f B A n c b m i) (k : Turn [m] [m] w w') {j : Nat} {kv : List (Value × Value)} (h1 : MapOf Tryd.prog tThree w' m kv) (h2 : j + 2 ≤ n → Holds b j kv) : FindAt w' f B A n c b m j :=
  { h with cells := h.cells.old (k.block f h.cells.inside (by have := h.fm; simpa using this)), rd := h.rd.keep fun q hq => k.block q (by have := h.cells.inside; have := h.fB; omega) (by have := h.mB; rw [List.mem_singleton]; omega), map := ⟨kv, h1, h2⟩ }
set_option maxRecDepth 100000 in
set_option maxHeartbeats 4000000 in
theorem pass_any (h : FindAt w f B A n c b m i) (hi : i ≤ n) : Calls Tryd.prog 20 #[.pointer (some ⟨f, 0, none⟩), .int .i64 i] w fun e w' => e = .returned (.tuple #[]) ∧ FindAt w' f B A n c b m (i + 1) ∧ Turn [m] [m] w w' := by
  have hlen := h.len
  have hn := h.big
  have hwh := whole_any h i (by omega)
  have HWH := Lib.hid hwh
  have H := Lib.hid h
  clear hwh h
  by_cases hw : i + 3 ≤ n
  · have hd : decide (i + 3 ≤ n) = true := decide_eq_true hw
    rw [hd] at HWH
    have hth : ∀ o, o + 3 ≤ n → ∀ W, Turn [m] [m] w W → Calls Tryd.prog 34 #[.pointer (some ⟨f, 0, none⟩), .int .i64 o] W fun e w' => e = .returned (K3.val (at3 b o)) ∧ Fresh W w' := fun o ho W k => three_raw (m := m) (H.out.cells.old (k.block f H.out.cells.inside (by have := H.out.fm; simpa using this))) (H.out.rd.keep fun q hq => k.block q (by have := H.out.cells.inside; have := H.out.fB; omega) (by have := H.out.mB; rw [List.mem_singleton]; omega)) H.out.big H.out.fB o ho
    have hc1 : ∀ W, Turn [m] [m] w W → W.cell? ⟨f, 1, none⟩ = some (.map (some m)) := fun W k => (H.out.cells.old (k.block f H.out.cells.inside (by have := H.out.fm; simpa using this))).cell rfl
    have HTH := Lib.hid hth
    have HC1 := Lib.hid hc1
    clear hth hc1
    obtain ⟨kv, hm, hh⟩ := H.out.map
    have hH := hh (by omega)
    clear hh
    by_cases ho : i < 32768
    · have hA : HoldsA b i kv := HoldsA.of hH fun k p hp => by omega
      have HA := Lib.hid hA
      have hmf : ∀ W, Fresh w W → MapOf Tryd.prog tThree W m kv := fun W k => hm.old (k.block m hm.inside)
      have HM := Lib.hid hmf
      have hneg : ¬ (0 : Int) ≤ (i : Int) - 32768 := by omega
      have hneg2 : (i : Int) < 32768 := by omega
      have hneg3 : decide ((0 : Int) ≤ (i : Int) - 32768) = false := decide_eq_false hneg
      have hneg4 : decide ((32768 : Int) ≤ (i : Int)) = false := decide_eq_false (by omega)
      clear hA hH hm hmf
      go_enter Tryd.func20, Tryd.ntmps20
      go_upto_region 2 with (go_at_call 33; (with_reducible refine HWH.out.mono ?_); rintro e w1 ⟨rfl, hf1⟩)
      go_cut [24] (fun t wx => t = .bool false ∧ Fresh w wx)
      case first =>
        go_quiet (fail)
        all_goals go_wp2
        all_goals go_meet
        all_goals exact ⟨rfl, hf1.trans (Fresh.drewN _ _)⟩
      case rest =>
        obtain ⟨rfl, hf⟩ := hcut
        have hk1 := HC1.out _ (Turn.fresh (hf.trans (Fresh.drew _)))
        go_upto_region 4 with (fail)
        go_region_held3 (fun w' => w'.cell? ⟨f, 1, none⟩ = some (.map (some m))) (first | exact hk1 | exact HK2.out | exact HK3.out)
          (first
          | (go_at_call 34; (refine (HTH.out i hw _ (Turn.fresh (hf.trans (Fresh.drew _)))).mono ?_); rintro e w2 ⟨rfl, hf2⟩; have hf3 := (hf.trans (Fresh.drew _)).trans hf2; have HK2 := Lib.hid (HC1.out _ (Turn.fresh hf3)); have hT3 : Turn [m] [m] w w2 := Turn.fresh hf3; obtain ⟨w3, kv3, hrun, hm3, hH3, hb3⟩ := put_run (HM.out _ hf3) HA.out (by omega)); have HK3 := Lib.hid (HC1.out _ (hT3.trans (Turn.but hb3 (by simp)))))
        all_goals go_wp2
        all_goals go_end0
        all_goals exact ⟨rfl, H.out.turn (hT3.trans (Turn.but hb3 (by simp))) hm3 (fun _ => hH3), hT3.trans (Turn.but hb3 (by simp))⟩
    · obtain ⟨o, hoi⟩ : ∃ o, o + 32768 = i := ⟨i - 32768, by omega⟩
      have hoi1 : (i : Int) - 32768 = (o : Int) := by omega
      have hoi2 : (0 : Int) ≤ (o : Int) := by omega
      have hoi3 : decide ((0 : Int) ≤ (o : Int)) = true := decide_eq_true hoi2
      obtain ⟨p, hp⟩ := last_some (b := b) (i := i) (k := at3 b o) (q := o) (by omega) (by omega) rfl (by omega)
      have hmf : ∀ W, Fresh w W → MapOf Tryd.prog tThree W m kv := fun W k => hm.old (k.block m hm.inside)
      have HM := Lib.hid hmf
      have HH := Lib.hid hH
      have HOI := Lib.hid hoi
      have HP := Lib.hid hp
      have ho3 : o + 3 ≤ n := by omega
      have HO3 := Lib.hid ho3
      have HW := Lib.hid hw
      clear hmf hH hm hoi hp ho3 ho hw hd
      by_cases hpo : p = o
      · subst hpo
        go_enter Tryd.func20, Tryd.ntmps20
        go_upto_region 2 with (go_at_call 33; (with_reducible refine HWH.out.mono ?_); rintro e w1 ⟨rfl, hf1⟩; have hk1 := HC1.out _ (Turn.fresh (hf1.trans (Fresh.drew w1))))
        go_cut [24] (fun t wx => t = .bool true ∧ Fresh w wx)
        case first =>
          go_region_held3 (fun w' => w'.cell? ⟨f, 1, none⟩ = some (.map (some m))) (first | exact hk1 | exact HK2.out | exact HK3.out)
            (first
            | (go_at_call 34; (refine (HTH.out p HO3.out _ (Turn.fresh (hf1.trans (Fresh.drew _)))).mono ?_); rintro e w2 ⟨rfl, hf2⟩; have hf3 := (hf1.trans (Fresh.drew _)).trans hf2; have HK2 := Lib.hid (HC1.out _ (Turn.fresh hf3)); have hrun : (Instr.lookup tMap (.map (some m)) (K3.val (at3 b p)) false).run Tryd.prog w2 = .ok (.int .i64 (p : Nat)) w2 := (HM.out _ hf3).look_hit keyed3 Tryd.underlying46 (key3 _) (HH.out.2 _ _ HP.out) false))
          all_goals go_wp2
          all_goals go_meet
          all_goals exact ⟨rfl, hf3⟩
        case rest =>
          obtain ⟨rfl, hf⟩ := hcut
          have hk1 := HC1.out _ (Turn.fresh (hf.trans (Fresh.drew _)))
          go_upto_region 3 with (fail)
          go_cut [31] (fun t wx => ∃ kvA, MapOf Tryd.prog tThree wx m kvA ∧ HoldsA b i kvA ∧ Turn [m] [m] w wx)
          case first =>
            go_region_held3 (fun w' => w'.cell? ⟨f, 1, none⟩ = some (.map (some m))) (first | exact hk1 | exact HK2.out | exact HK3.out)
              (first
              | (go_at_call 34; (refine (HTH.out p HO3.out _ (Turn.fresh (hf.trans (Fresh.drew _)))).mono ?_); rintro e w2 ⟨rfl, hf2⟩; have hf3 := (hf.trans (Fresh.drew _)).trans hf2; have HK2 := Lib.hid (HC1.out _ (Turn.fresh hf3)); obtain ⟨w3, kvA, hrun, hm3, hA3, hb3⟩ := drop_run (HM.out _ hf3) HH.out HOI.out HP.out 0); have HK3 := Lib.hid (HC1.out _ ((Turn.fresh hf3).trans (Turn.but hb3 (by simp)))))
            all_goals go_wp2
            all_goals go_meet
            all_goals exact ⟨kvA, hm3, hA3, (Turn.fresh hf3).trans (Turn.but hb3 (by simp))⟩
          case rest =>
            obtain ⟨kvA, hmA, hA, hT⟩ := hcut
            have HA := Lib.hid hA
            have hma : ∀ W, Fresh _ W → MapOf Tryd.prog tThree W m kvA := fun W k => hmA.old (k.block m hmA.inside)
            have HMA := Lib.hid hma
            have hk3 := HC1.out _ (hT.trans (Turn.fresh (Fresh.drew _)))
            clear hA hma hmA
            go_upto_region 4 with (fail)
            go_region_held3 (fun w' => w'.cell? ⟨f, 1, none⟩ = some (.map (some m))) (first | exact hk3 | exact HK2.out | exact HK3.out)
              (first
              | (go_at_call 34; (refine (HTH.out i HW.out _ (hT.trans (Turn.fresh (Fresh.drew _)))).mono ?_); rintro e w2 ⟨rfl, hf2⟩; have hT3 := hT.trans (Turn.fresh ((Fresh.drew _).trans hf2)); have HK2 := Lib.hid (HC1.out _ hT3); obtain ⟨w3, kv3, hrun, hm3, hH3, hb3⟩ := put_run (HMA.out _ ((Fresh.drew _).trans hf2)) HA.out (by rw [hlen]; exact HW.out)); have HK3 := Lib.hid (HC1.out _ (hT3.trans (Turn.but hb3 (by simp)))))
            all_goals go_wp2
            all_goals go_end0
            all_goals exact ⟨rfl, H.out.turn (hT3.trans (Turn.but hb3 (by simp))) hm3 (fun _ => hH3), hT3.trans (Turn.but hb3 (by simp))⟩
      · have hpo2 : ((p : Int) == (o : Int)) = false := by simp; omega
        have hA : HoldsA b i kv := HoldsA.of HH.out fun k q hq => by
          have hp := HP.out
          have hoi := HOI.out
          have h4 := hq.2.2.2.1
          by_cases e : q = o
          · subst e
            have e2 := hq.2.2.1
            rw [e2] at hp
            exact absurd (hp.uniq hq) hpo
          · omega
        have HA := Lib.hid hA
        clear hA
        go_enter Tryd.func20, Tryd.ntmps20
        go_upto_region 2 with (go_at_call 33; (with_reducible refine HWH.out.mono ?_); rintro e w1 ⟨rfl, hf1⟩; have hk1 := HC1.out _ (Turn.fresh (hf1.trans (Fresh.drew w1))))
        go_cut [24] (fun t wx => t = .bool false ∧ Fresh w wx)
        case first =>
          go_region_held3 (fun w' => w'.cell? ⟨f, 1, none⟩ = some (.map (some m))) (first | exact hk1 | exact HK2.out | exact HK3.out)
            (first
            | (go_at_call 34; (refine (HTH.out o HO3.out _ (Turn.fresh (hf1.trans (Fresh.drew _)))).mono ?_); rintro e w2 ⟨rfl, hf2⟩; have hf3 := (hf1.trans (Fresh.drew _)).trans hf2; have HK2 := Lib.hid (HC1.out _ (Turn.fresh hf3)); have hrun : (Instr.lookup tMap (.map (some m)) (K3.val (at3 b o)) false).run Tryd.prog w2 = .ok (.int .i64 (p : Nat)) w2 := (HM.out _ hf3).look_hit keyed3 Tryd.underlying46 (key3 _) (HH.out.2 _ _ HP.out) false))
          all_goals go_wp2
          all_goals go_meet
          all_goals exact ⟨rfl, hf3⟩
        case rest =>
          obtain ⟨rfl, hf⟩ := hcut
          have hk1 := HC1.out _ (Turn.fresh (hf.trans (Fresh.drew _)))
          go_upto_region 4 with (fail)
          go_region_held3 (fun w' => w'.cell? ⟨f, 1, none⟩ = some (.map (some m))) (first | exact hk1 | exact HK2.out | exact HK3.out)
            (first
            | (go_at_call 34; (refine (HTH.out i HW.out _ (Turn.fresh (hf.trans (Fresh.drew _)))).mono ?_); rintro e w2 ⟨rfl, hf2⟩; have hf3 := (hf.trans (Fresh.drew _)).trans hf2; have HK2 := Lib.hid (HC1.out _ (Turn.fresh hf3)); have hT3 : Turn [m] [m] w w2 := Turn.fresh hf3; obtain ⟨w3, kv3, hrun, hm3, hH3, hb3⟩ := put_run (HM.out _ hf3) HA.out (by rw [hlen]; exact HW.out)); have HK3 := Lib.hid (HC1.out _ (hT3.trans (Turn.but hb3 (by simp)))))
          all_goals go_wp2
          all_goals go_end0
          all_goals exact ⟨rfl, H.out.turn (hT3.trans (Turn.but hb3 (by simp))) hm3 (fun _ => hH3), hT3.trans (Turn.but hb3 (by simp))⟩
  · have hd : decide (i + 3 ≤ n) = false := decide_eq_false hw
    rw [hd] at HWH
    go_enter Tryd.func20, Tryd.ntmps20
    go_wp2_with (go_at_call 33; (with_reducible refine HWH.out.mono ?_); rintro e w1 ⟨rfl, hf1⟩)
    obtain ⟨kv, hm, hh⟩ := (H.out.fresh hf1).map
    exact bodyPost_ret (results_none rfl _ _ _) rfl ⟨rfl, H.out.turn (Turn.fresh hf1) hm (fun h => by omega), Turn.fresh hf1⟩
end
end Go.Proofs.YtcmeoappddpmcaaDoor.defp
