import Derived.Test.YtppgceighgpgoaaGreatDoorDefFind2
import Derived.Deep.RegionHeld3
import Derived.Maps.AppendAt
/- Several of my own texts, one behind the other. -/
/-
  The contract of pass. My own text.
-/
namespace Go.Proofs.YtppgceighgpgoaaGreatDoor.defp
open Go.RowKit Go.Maps Go.Proofs.YtppgceighgpgoaaGreatDoor.base Go.Proofs.YtppgceighgpgoaaGreatDoor.num Go.Proofs.YtppgceighgpgoaaGreatDoor.bitnum Go.Proofs.YtppgceighgpgoaaGreatDoor.bitp Go.Proofs.YtppgceighgpgoaaGreatDoor.infp
set_option linter.unusedVariables false

/-- the same, but for what is farther back than may be copied from the next byte on -/
def HoldsA (b : List UInt8) (i : Nat) (kv : List (Value × Value)) : Prop :=
  (∀ x ∈ kv, ∃ k p, x = (K3.val k, iv (p : Nat)) ∧ IsLast b i k p ∧ i + 1 ≤ p + 32768) ∧ ∀ k p, IsLast b i k p → i + 1 ≤ p + 32768 → (K3.val k, iv (p : Nat)) ∈ kv
theorem HoldsA.of {b : List UInt8} {i : Nat} {kv : List (Value × Value)} (h : Holds b i kv) (hno : ∀ k p, IsLast b i k p → i + 1 ≤ p + 32768) : HoldsA b i kv :=
  ⟨fun x hx => (by obtain ⟨k, p, e, hp⟩ := h.1 x hx; exact ⟨k, p, e, hp, hno k p hp⟩), fun k p hp _ => h.2 k p hp⟩
theorem IsLast.next {b : List UInt8} {i : Nat} (hi : i + 3 ≤ b.length) {k : K3} {p : Nat} : IsLast b (i + 1) k p ↔ (k = at3 b i ∧ p = i) ∨ (k ≠ at3 b i ∧ IsLast b i k p ∧ i + 1 ≤ p + 32768) := by
  constructor
  · rintro ⟨h1, h2, h3, h4, h5⟩
    by_cases hp : p = i
    · subst hp; exact .inl ⟨h3.symm, rfl⟩
    · refine .inr ⟨fun e => h5 i (by omega) (by omega) hi e.symm, ⟨by omega, h2, h3, by omega, fun q hq hqi hq3 => h5 q hq (by omega) hq3⟩, by omega⟩
  · rintro (⟨rfl, rfl⟩ | ⟨hne, ⟨h1, h2, h3, h4, h5⟩, h6⟩)
    · exact ⟨by omega, hi, rfl, by omega, fun q hq hqi => by omega⟩
    · refine ⟨by omega, h2, h3, by omega, fun q hq hqi hq3 e => ?_⟩
      by_cases hqi' : q = i
      · subst hqi'; exact hne e.symm
      · exact h5 q hq (by omega) hq3 e
theorem last_some {b : List UInt8} {i : Nat} {k : K3} {q : Nat} (h1 : q < i) (h2 : q + 3 ≤ b.length) (h3 : at3 b q = k) (h4 : i ≤ q + 32768) : ∃ p, IsLast b i k p := by
  by_cases h : ∃ q', q < q' ∧ q' < i ∧ q' + 3 ≤ b.length ∧ at3 b q' = k
  · obtain ⟨q', a1, a2, a3, a4⟩ := h
    exact last_some a2 a3 a4 (by omega)
  · exact ⟨q, h1, h2, h3, h4, fun q' a1 a2 a3 e => h ⟨q', a1, a2, a3, e⟩⟩
termination_by i - q
theorem mem_perm {α : Type} {l : List α} {x : α} (h : x ∈ l) : ∃ r, l.Perm (x :: r) := by
  obtain ⟨s, t, rfl⟩ := List.append_of_mem h
  exact ⟨s ++ t, List.perm_middle⟩
theorem iv_inj {p q : Nat} (h : iv (p : Nat) = iv (q : Nat)) : p = q := by
  injection h with _ h
  omega
section
variable {w w' : World} {b : List UInt8} {i m : Nat} {kv : List (Value × Value)}
theorem put_run (hm : MapOf Tryz.prog tThree w m kv) (hA : HoldsA b i kv) (hi : i + 3 ≤ b.length) :
    ∃ w' kv', (Instr.mapUpdate tMap (.map (some m)) (K3.val (at3 b i)) (.int .i64 (i : Nat))).run Tryz.prog w = .ok () w' ∧ MapOf Tryz.prog tThree w' m kv' ∧ Holds b (i + 1) kv' ∧ But m w w' := by
  by_cases hx : ∃ p, IsLast b i (at3 b i) p ∧ i + 1 ≤ p + 32768
  · obtain ⟨p, hp, hp1⟩ := hx
    obtain ⟨r, hr⟩ := mem_perm (hA.2 _ _ hp hp1)
    obtain ⟨w', hrun, hm', hb⟩ := hm.put_old keyed3 Tryz.underlying47 (key3 _) hr (.int .i64 (i : Nat))
    have hap := hm'.apart
    refine ⟨w', _, hrun, hm', ⟨fun x hx => ?_, fun k q hq => ?_⟩, hb⟩
    · rcases List.mem_cons.1 hx with rfl | hx
      · exact ⟨at3 b i, i, rfl, (IsLast.next hi).2 (.inl ⟨rfl, rfl⟩)⟩
      · obtain ⟨k, q, e, hq, hq1⟩ := hA.1 x (hr.mem_iff.2 (List.mem_cons_of_mem _ hx))
        have hne : k ≠ at3 b i := fun e' => by
          have := List.rel_of_pairwise_cons hap hx
          rw [e, e'] at this
          exact this rfl
        exact ⟨k, q, e, (IsLast.next hi).2 (.inr ⟨hne, hq, hq1⟩)⟩
    · rcases (IsLast.next hi).1 hq with ⟨rfl, rfl⟩ | ⟨hne, hq', hq1⟩
      · exact List.mem_cons_self ..
      · have h1 := hr.mem_iff.1 (hA.2 k q hq' hq1)
        rcases List.mem_cons.1 h1 with e | h1
        · exact absurd (K3.val_inj (Prod.mk.inj e).1) hne
        · exact List.mem_cons_of_mem _ h1
  · have hmiss : ∀ x ∈ kv, x.1 ≠ K3.val (at3 b i) := fun x hx' e => by
      obtain ⟨k, q, rfl, hq, hq1⟩ := hA.1 x hx'
      have := K3.val_inj e
      subst this
      exact hx ⟨q, hq, hq1⟩
    obtain ⟨w', hrun, hm', hb⟩ := hm.put_new keyed3 Tryz.underlying47 (key3 _) hmiss (.int .i64 (i : Nat))
    refine ⟨w', _, hrun, hm', ⟨fun x hx' => ?_, fun k q hq => ?_⟩, hb⟩
    · rcases List.mem_cons.1 hx' with rfl | hx'
      · exact ⟨at3 b i, i, rfl, (IsLast.next hi).2 (.inl ⟨rfl, rfl⟩)⟩
      · obtain ⟨k, q, e, hq, hq1⟩ := hA.1 x hx'
        have hne : k ≠ at3 b i := fun e' => by
          have := hmiss x hx'
          rw [e, e'] at this
          exact this rfl
        exact ⟨k, q, e, (IsLast.next hi).2 (.inr ⟨hne, hq, hq1⟩)⟩
    · rcases (IsLast.next hi).1 hq with ⟨rfl, rfl⟩ | ⟨hne, hq', hq1⟩
      · exact List.mem_cons_self ..
      · exact List.mem_cons_of_mem _ (hA.2 k q hq' hq1)
theorem drop_run (hm : MapOf Tryz.prog tThree w m kv) (hH : Holds b i kv) {o : Nat} (ho : o + 32768 = i) (hl : IsLast b i (at3 b o) o) (ty : TypeId) :
    ∃ w' kv', (Builtin.delete_ #[tMap, tThree] ty #[.map (some m), K3.val (at3 b o)]).run Tryz.prog w = .ok (.tuple #[]) w' ∧ MapOf Tryz.prog tThree w' m kv' ∧ HoldsA b i kv' ∧ But m w w' := by
  obtain ⟨r, hr⟩ := mem_perm (hH.2 _ _ hl)
  obtain ⟨w', hrun, hm', hb⟩ := hm.drop_hit keyed3 Tryz.underlying47 (key3 _) hr ty
  have hap := hm.apart
  have hap2 : ((K3.val (at3 b o), iv (o : Nat)) :: r).Pairwise (fun p q => p.1 ≠ q.1) := (hr.pairwise_iff (fun {a b} (h : a.1 ≠ b.1) => h.symm)).1 hap
  refine ⟨w', r, hrun, hm', ⟨fun x hx => ?_, fun k q hq hq1 => ?_⟩, hb⟩
  · obtain ⟨k, q, e, hq⟩ := hH.1 x (hr.mem_iff.2 (List.mem_cons_of_mem _ hx))
    refine ⟨k, q, e, hq, ?_⟩
    have hne := List.rel_of_pairwise_cons hap2 hx
    rw [e] at hne
    have h4 := hq.2.2.2.1
    by_cases e' : q = o
    · subst e'
      exact absurd (congrArg K3.val hq.2.2.1) hne
    · omega
  · have h1 := hr.mem_iff.1 (hH.2 k q hq)
    rcases List.mem_cons.1 h1 with e | h1
    · have := iv_inj (Prod.mk.inj e).2
      omega
    · exact h1
end
section
variable {w w' : World} {f B n c m i : Nat} {A : Option Addr} {b : List UInt8}
theorem FindAt.turn (h : FindAt w f B A n c b m i) (k : Turn [m] [m] w w') {j : Nat} {kv : List (Value × Value)} (h1 : MapOf Tryz.prog tThree w' m kv) (h2 : j + 2 ≤ n → Holds b j kv) : FindAt w' f B A n c b m j :=
  { h with cells := h.cells.old (k.block f h.cells.inside (by have := h.fm; simpa using this)), rd := h.rd.keep fun q hq => k.block q (by have := h.cells.inside; have := h.fB; omega) (by have := h.mB; rw [List.mem_singleton]; omega), map := ⟨kv, h1, h2⟩ }
set_option maxRecDepth 100000 in
set_option maxHeartbeats 4000000 in
theorem pass_any (h : FindAt w f B A n c b m i) (hi : i ≤ n) : Calls Tryz.prog 21 #[.pointer (some ⟨f, 0, none⟩), .int .i64 i] w fun e w' => e = .returned (.tuple #[]) ∧ FindAt w' f B A n c b m (i + 1) ∧ Turn [m] [m] w w' := by
  have hlen := h.len
  have hn := h.big
  have hwh := whole_any h i (by omega)
  have HWH := Lib.hid hwh
  have H := Lib.hid h
  clear hwh h
  by_cases hw : i + 3 ≤ n
  · have hd : decide (i + 3 ≤ n) = true := decide_eq_true hw
    rw [hd] at HWH
    have hth : ∀ o, o + 3 ≤ n → ∀ W, Turn [m] [m] w W → Calls Tryz.prog 36 #[.pointer (some ⟨f, 0, none⟩), .int .i64 o] W fun e w' => e = .returned (K3.val (at3 b o)) ∧ Fresh W w' := fun o ho W k => three_raw (m := m) (H.out.cells.old (k.block f H.out.cells.inside (by have := H.out.fm; simpa using this))) (H.out.rd.keep fun q hq => k.block q (by have := H.out.cells.inside; have := H.out.fB; omega) (by have := H.out.mB; rw [List.mem_singleton]; omega)) H.out.big H.out.fB o ho
    have hc1 : ∀ W, Turn [m] [m] w W → W.cell? ⟨f, 1, none⟩ = some (.map (some m)) := fun W k => (H.out.cells.old (k.block f H.out.cells.inside (by have := H.out.fm; simpa using this))).cell rfl
    have HTH := Lib.hid hth
    have HC1 := Lib.hid hc1
    clear hth hc1
    obtain ⟨kv, hm, hh⟩ := H.out.map
    have hH := hh (by omega)
    clear hh
    by_cases ho : i < 32768
    · have hA : HoldsA b i kv := HoldsA.of hH fun k p hp => by omega
      have HA := Lib.hid hA
      have hmf : ∀ W, Fresh w W → MapOf Tryz.prog tThree W m kv := fun W k => hm.old (k.block m hm.inside)
      have HM := Lib.hid hmf
      have hneg : ¬ (0 : Int) ≤ (i : Int) - 32768 := by omega
      have hneg2 : (i : Int) < 32768 := by omega
      have hneg3 : decide ((0 : Int) ≤ (i : Int) - 32768) = false := decide_eq_false hneg
      have hneg4 : decide ((32768 : Int) ≤ (i : Int)) = false := decide_eq_false (by omega)
      clear hA hH hm hmf
      go_enter Tryz.func21, Tryz.ntmps21
      go_upto_region 2 with (go_at_call 35; (with_reducible refine HWH.out.mono ?_); rintro e w1 ⟨rfl, hf1⟩)
      go_cut [24] (fun t wx => t = .bool false ∧ Fresh w wx)
      case first =>
        go_quiet (fail)
        all_goals go_wp2
        all_goals go_meet
        all_goals exact ⟨rfl, hf1.trans (Fresh.drewN _ _)⟩
      case rest =>
        obtain ⟨rfl, hf⟩ := hcut
        have hk1 := HC1.out _ (Turn.fresh (hf.trans (Fresh.drew _)))
        go_upto_region 4 with (fail)
        go_region_held3 (fun w' => w'.cell? ⟨f, 1, none⟩ = some (.map (some m))) (first | exact hk1 | exact HK2.out | exact HK3.out)
          (first
          | (go_at_call 36; (refine (HTH.out i hw _ (Turn.fresh (hf.trans (Fresh.drew _)))).mono ?_); rintro e w2 ⟨rfl, hf2⟩; have hf3 := (hf.trans (Fresh.drew _)).trans hf2; have HK2 := Lib.hid (HC1.out _ (Turn.fresh hf3)); have hT3 : Turn [m] [m] w w2 := Turn.fresh hf3; obtain ⟨w3, kv3, hrun, hm3, hH3, hb3⟩ := put_run (HM.out _ hf3) HA.out (by omega)); have HK3 := Lib.hid (HC1.out _ (hT3.trans (Turn.but hb3 (by simp)))))
        all_goals go_wp2
        all_goals go_end0
        all_goals exact ⟨rfl, H.out.turn (hT3.trans (Turn.but hb3 (by simp))) hm3 (fun _ => hH3), hT3.trans (Turn.but hb3 (by simp))⟩
    · obtain ⟨o, hoi⟩ : ∃ o, o + 32768 = i := ⟨i - 32768, by omega⟩
      have hoi1 : (i : Int) - 32768 = (o : Int) := by omega
      have hoi2 : (0 : Int) ≤ (o : Int) := by omega
      have hoi3 : decide ((0 : Int) ≤ (o : Int)) = true := decide_eq_true hoi2
      obtain ⟨p, hp⟩ := last_some (b := b) (i := i) (k := at3 b o) (q := o) (by omega) (by omega) rfl (by omega)
      have hmf : ∀ W, Fresh w W → MapOf Tryz.prog tThree W m kv := fun W k => hm.old (k.block m hm.inside)
      have HM := Lib.hid hmf
      have HH := Lib.hid hH
      have HOI := Lib.hid hoi
      have HP := Lib.hid hp
      have ho3 : o + 3 ≤ n := by omega
      have HO3 := Lib.hid ho3
      have HW := Lib.hid hw
      clear hmf hH hm hoi hp ho3 ho hw hd
      by_cases hpo : p = o
      · subst hpo
        go_enter Tryz.func21, Tryz.ntmps21
        go_upto_region 2 with (go_at_call 35; (with_reducible refine HWH.out.mono ?_); rintro e w1 ⟨rfl, hf1⟩; have hk1 := HC1.out _ (Turn.fresh (hf1.trans (Fresh.drew w1))))
        go_cut [24] (fun t wx => t = .bool true ∧ Fresh w wx)
        case first =>
          go_region_held3 (fun w' => w'.cell? ⟨f, 1, none⟩ = some (.map (some m))) (first | exact hk1 | exact HK2.out | exact HK3.out)
            (first
            | (go_at_call 36; (refine (HTH.out p HO3.out _ (Turn.fresh (hf1.trans (Fresh.drew _)))).mono ?_); rintro e w2 ⟨rfl, hf2⟩; have hf3 := (hf1.trans (Fresh.drew _)).trans hf2; have HK2 := Lib.hid (HC1.out _ (Turn.fresh hf3)); have hrun : (Instr.lookup tMap (.map (some m)) (K3.val (at3 b p)) false).run Tryz.prog w2 = .ok (.int .i64 (p : Nat)) w2 := (HM.out _ hf3).look_hit keyed3 Tryz.underlying47 (key3 _) (HH.out.2 _ _ HP.out) false))
          all_goals go_wp2
          all_goals go_meet
          all_goals exact ⟨rfl, hf3⟩
        case rest =>
          obtain ⟨rfl, hf⟩ := hcut
          have hk1 := HC1.out _ (Turn.fresh (hf.trans (Fresh.drew _)))
          go_upto_region 3 with (fail)
          go_cut [31] (fun t wx => ∃ kvA, MapOf Tryz.prog tThree wx m kvA ∧ HoldsA b i kvA ∧ Turn [m] [m] w wx)
          case first =>
            go_region_held3 (fun w' => w'.cell? ⟨f, 1, none⟩ = some (.map (some m))) (first | exact hk1 | exact HK2.out | exact HK3.out)
              (first
              | (go_at_call 36; (refine (HTH.out p HO3.out _ (Turn.fresh (hf.trans (Fresh.drew _)))).mono ?_); rintro e w2 ⟨rfl, hf2⟩; have hf3 := (hf.trans (Fresh.drew _)).trans hf2; have HK2 := Lib.hid (HC1.out _ (Turn.fresh hf3)); obtain ⟨w3, kvA, hrun, hm3, hA3, hb3⟩ := drop_run (HM.out _ hf3) HH.out HOI.out HP.out 0); have HK3 := Lib.hid (HC1.out _ ((Turn.fresh hf3).trans (Turn.but hb3 (by simp)))))
            all_goals go_wp2
            all_goals go_meet
            all_goals exact ⟨kvA, hm3, hA3, (Turn.fresh hf3).trans (Turn.but hb3 (by simp))⟩
          case rest =>
            obtain ⟨kvA, hmA, hA, hT⟩ := hcut
            have HA := Lib.hid hA
            have hma : ∀ W, Fresh _ W → MapOf Tryz.prog tThree W m kvA := fun W k => hmA.old (k.block m hmA.inside)
            have HMA := Lib.hid hma
            have hk3 := HC1.out _ (hT.trans (Turn.fresh (Fresh.drew _)))
            clear hA hma hmA
            go_upto_region 4 with (fail)
            go_region_held3 (fun w' => w'.cell? ⟨f, 1, none⟩ = some (.map (some m))) (first | exact hk3 | exact HK2.out | exact HK3.out)
              (first
              | (go_at_call 36; (refine (HTH.out i HW.out _ (hT.trans (Turn.fresh (Fresh.drew _)))).mono ?_); rintro e w2 ⟨rfl, hf2⟩; have hT3 := hT.trans (Turn.fresh ((Fresh.drew _).trans hf2)); have HK2 := Lib.hid (HC1.out _ hT3); obtain ⟨w3, kv3, hrun, hm3, hH3, hb3⟩ := put_run (HMA.out _ ((Fresh.drew _).trans hf2)) HA.out (by rw [hlen]; exact HW.out)); have HK3 := Lib.hid (HC1.out _ (hT3.trans (Turn.but hb3 (by simp)))))
            all_goals go_wp2
            all_goals go_end0
            all_goals exact ⟨rfl, H.out.turn (hT3.trans (Turn.but hb3 (by simp))) hm3 (fun _ => hH3), hT3.trans (Turn.but hb3 (by simp))⟩
      · have hpo2 : ((p : Int) == (o : Int)) = false := by simp; omega
        have hA : HoldsA b i kv := HoldsA.of HH.out fun k q hq => by
          have hp := HP.out
          have hoi := HOI.out
          have h4 := hq.2.2.2.1
          by_cases e : q = o
          · subst e
            have e2 := hq.2.2.1
            rw [e2] at hp
            exact absurd (hp.uniq hq) hpo
          · omega
        have HA := Lib.hid hA
        clear hA
        go_enter Tryz.func21, Tryz.ntmps21
        go_upto_region 2 with (go_at_call 35; (with_reducible refine HWH.out.mono ?_); rintro e w1 ⟨rfl, hf1⟩; have hk1 := HC1.out _ (Turn.fresh (hf1.trans (Fresh.drew w1))))
        go_cut [24] (fun t wx => t = .bool false ∧ Fresh w wx)
        case first =>
          go_region_held3 (fun w' => w'.cell? ⟨f, 1, none⟩ = some (.map (some m))) (first | exact hk1 | exact HK2.out | exact HK3.out)
            (first
            | (go_at_call 36; (refine (HTH.out o HO3.out _ (Turn.fresh (hf1.trans (Fresh.drew _)))).mono ?_); rintro e w2 ⟨rfl, hf2⟩; have hf3 := (hf1.trans (Fresh.drew _)).trans hf2; have HK2 := Lib.hid (HC1.out _ (Turn.fresh hf3)); have hrun : (Instr.lookup tMap (.map (some m)) (K3.val (at3 b o)) false).run Tryz.prog w2 = .ok (.int .i64 (p : Nat)) w2 := (HM.out _ hf3).look_hit keyed3 Tryz.underlying47 (key3 _) (HH.out.2 _ _ HP.out) false))
          all_goals go_wp2
          all_goals go_meet
          all_goals exact ⟨rfl, hf3⟩
        case rest =>
          obtain ⟨rfl, hf⟩ := hcut
          have hk1 := HC1.out _ (Turn.fresh (hf.trans (Fresh.drew _)))
          go_upto_region 4 with (fail)
          go_region_held3 (fun w' => w'.cell? ⟨f, 1, none⟩ = some (.map (some m))) (first | exact hk1 | exact HK2.out | exact HK3.out)
            (first
            | (go_at_call 36; (refine (HTH.out i HW.out _ (Turn.fresh (hf.trans (Fresh.drew _)))).mono ?_); rintro e w2 ⟨rfl, hf2⟩; have hf3 := (hf.trans (Fresh.drew _)).trans hf2; have HK2 := Lib.hid (HC1.out _ (Turn.fresh hf3)); have hT3 : Turn [m] [m] w w2 := Turn.fresh hf3; obtain ⟨w3, kv3, hrun, hm3, hH3, hb3⟩ := put_run (HM.out _ hf3) HA.out (by rw [hlen]; exact HW.out)); have HK3 := Lib.hid (HC1.out _ (hT3.trans (Turn.but hb3 (by simp)))))
          all_goals go_wp2
          all_goals go_end0
          all_goals exact ⟨rfl, H.out.turn (hT3.trans (Turn.but hb3 (by simp))) hm3 (fun _ => hH3), hT3.trans (Turn.but hb3 (by simp))⟩
  · have hd : decide (i + 3 ≤ n) = false := decide_eq_false hw
    rw [hd] at HWH
    go_enter Tryz.func21, Tryz.ntmps21
    go_wp2_with (go_at_call 35; (with_reducible refine HWH.out.mono ?_); rintro e w1 ⟨rfl, hf1⟩)
    obtain ⟨kv, hm, hh⟩ := (H.out.fresh hf1).map
    exact bodyPost_ret (results_none rfl _ _ _) rfl ⟨rfl, H.out.turn (Turn.fresh hf1) hm (fun h => by omega), Turn.fresh hf1⟩
end
end Go.Proofs.YtppgceighgpgoaaGreatDoor.defp
/-
  The steps that bytes are told by: the contract of stepsOf. My own text.
-/
namespace Go.Proofs.YtppgceighgpgoaaGreatDoor.defp
open Go.RowKit Go.Maps Go.Proofs.YtppgceighgpgoaaGreatDoor.base Go.Proofs.YtppgceighgpgoaaGreatDoor.num Go.Proofs.YtppgceighgpgoaaGreatDoor.bitnum Go.Proofs.YtppgceighgpgoaaGreatDoor.bitp Go.Proofs.YtppgceighgpgoaaGreatDoor.infp
set_option linter.unusedVariables false

abbrev tStep : TypeId := 54
abbrev tSteps : TypeId := 35
/-- a step's two cells -/
def scell (s : Nat × Nat) : List Value := [.int .u16 (s.1 : Nat), .int .u16 (s.2 : Nat)]
def scells (l : List (Nat × Nat)) : List Value := l.flatMap scell
theorem scells_snoc (l : List (Nat × Nat)) (s : Nat × Nat) : scells (l ++ [s]) = scells l ++ scell s := by simp [scells]
theorem scells_len (l : List (Nat × Nat)) : (scells l).length = l.length * 2 := by
  induction l with
  | nil => rfl
  | cons a r ih =>
    have : scells (a :: r) = scell a ++ scells r := rfl
    rw [this, List.length_append, ih, List.length_cons]
    show 2 + _ = _
    omega
theorem stepInfo : (Tryz.prog.info? tStep).map (fun i => (i.zero, i.size, i.bytes)) = some (some (.agg #[.int .u16 0, .int .u16 0]), 2, 4) := by kernel_rfl
/-- a row of steps that is the call's own -/
abbrev Own2 (w : World) (base : Nat) (A : Option Addr) (n c : Nat) (l : List (Nat × Nat)) : Prop := w.ownsRow base tStep 2 (.slice A n c) n (scells l)
theorem Own2.nil (w : World) (base : Nat) : Own2 w base none 0 0 [] := World.ownsRow_nil _ _ _ _
section
variable {w w' : World} {base n c : Nat} {A : Option Addr} {l : List (Nat × Nat)}
theorem Own2.len (h : Own2 w base A n c l) : l.length = n := by
  have h1 := h.1
  rw [scells_len] at h1
  omega
theorem Own2.keep (h : Own2 w base A n c l) (hk : ∀ g, (Value.slice A n c).ownBlock = some g → w'.heap[g]? = w.heap[g]?) : Own2 w' base A n c l := by
  refine ⟨h.1, ?_⟩
  rcases h.2 with h2 | ⟨g, cap, cur, hv, hb, hg, r⟩
  · exact .inl h2
  · exact .inr ⟨g, cap, cur, hv, hb, (hk g (by rw [hv]; rfl)).trans hg, r⟩
theorem Own2.block (h : Own2 w base A n c l) : ∀ g, (Value.slice A n c).ownBlock = some g → base ≤ g ∧ ∃ cs fr, w.heap[g]? = some (.cells cs tStep fr) := fun g hg => by
  rcases h.2 with ⟨h2, _⟩ | ⟨q, cap, cur, hv, hb, hq, r⟩
  · rw [h2] at hg; cases hg
  · rw [hv] at hg
    injection hg with hg
    subst hg
    exact ⟨hb, _, _, hq⟩
theorem Own2.fresh (h : Own2 w base A n c l) (k : Fresh w w') : Own2 w' base A n c l := h.keep fun g hg => by
  obtain ⟨_, cs, fr, hq⟩ := h.block g hg
  exact k.block g (Array.getElem?_eq_some_iff.1 hq).1
theorem Own2.cap (h : Own2 w base A n c l) : n ≤ c ∧ c ≤ maxLen := by
  rcases h.2 with ⟨hv, hn⟩ | ⟨g, cap, cur, hv, _, _, h1, h2, _⟩
  · injection hv with _ h3 h4
    subst h4; subst h3; unfold maxLen; omega
  · injection hv with _ _ h4
    subst h4
    exact ⟨h1, h2⟩
end
theorem wpList_append_step (w : World) {ops : Array Oper} {rest : List Oper} {o : Oper} {a : Act} {Q : Exit → Act → World → Prop} (hgd : o.guard = none) (s x : Operand)
    (ho : o.op = .call { callee := .builtin .append, args := #[s, x], argTypes := #[tSteps, tSteps] })
    (base : Nat) (A : Option Addr) (n c : Nat) (l : List (Nat × Nat)) (hs : a.eval s = .slice A n c) (hown : Own2 w base A n c l)
    (g : Nat) (p : Nat × Nat) (hx : a.eval x = .slice (some ⟨g, 0, none⟩) 1 1) (hg : Bk w g tStep (scell p)) (h63 : n ≤ 1099511627776) (hbase : base ≤ w.heap.size)
    (h : ∀ A' c' w', Own2 w' base A' (n + 1) c' (l ++ [p]) → w.grownBy w' (Value.slice A n c).ownBlock → wpList Tryz.prog ops Q rest (a.put o.dst (.slice A' (n + 1) c')) w') : wpList Tryz.prog ops Q (o :: rest) a w := by
  obtain ⟨i, hi, hz, hsize, hby⟩ := info_parts stepInfo
  refine wpList_plain hgd fun _ hK => ?_
  have hcells : ∀ j u, (scell p)[j]? = some u → w.cell? ((⟨g, 0, none⟩ : Addr).add j) = some u := fun j u hu => by
    have hadd : (⟨g, 0, none⟩ : Addr).add j = ⟨g, 0 + j, none⟩ := by unfold Addr.add; split <;> simp_all
    rw [hadd, Nat.zero_add]
    exact hg.cell hu
  have h1 : ∀ u ∈ scell p, u.oneCell' = true := fun u hu => by
    rcases List.mem_cons.1 hu with rfl | hu
    · rfl
    · rw [List.mem_singleton] at hu; subst hu; rfl
  obtain ⟨v', w', hrun, h2, h3, _, h5⟩ := run_append_own_at (P := Tryz.prog) w base tSteps o.type tStep i _ 2 4 Tryz.underlying35 hi hz hsize hby rfl (by omega) (.slice A n c) n (scells l) hown ⟨g, 0, none⟩ 1 1 (scell p) rfl hcells h1 (by unfold maxLen; omega) (by omega) hbase
  rw [← scells_snoc] at h2
  have hform : ∃ A' c', v' = .slice A' (n + 1) c' := by
    rcases h2.2 with ⟨hv, hn⟩ | ⟨g, cap, cur, hv, _⟩
    · omega
    · exact ⟨_, cap, hv⟩
  obtain ⟨A', c', rfl⟩ := hform
  unfold Oper.wp execOp
  simp only [ho, resolve, invoke, builtin, Sem.run_bind, Sem.run_pure, Result.andThen_ok, List.map_toArray, List.map_cons, List.map_nil, hs, hx, hrun]
  exact hK _ _ (h A' c' w' h2 h3)
/-- the steps up to the byte i -/
inductive St (b : List UInt8) : Nat → List (Nat × Nat) → Prop where
  | nil : St b 0 []
  | lit {i : Nat} {l : List (Nat × Nat)} (h : St b i l) (hi : i < b.length) (hf : Found b i 0 0) : St b (i + 1) (l ++ [((b.getD i 0).toNat, 0)])
  | copy {i L K : Nat} {l : List (Nat × Nat)} (h : St b i l) (hi : i < b.length) (hf : Found b i L K) (hL : L ≠ 0) : St b (i + L) (l ++ [(L, K)])
theorem Found.bound {b : List UInt8} {i L K : Nat} (h : Found b i L K) (hL : L ≠ 0) : 3 ≤ L ∧ L ≤ 258 ∧ i + L ≤ b.length ∧ 1 ≤ K ∧ K ≤ 32768 ∧ K ≤ i := by
  rcases h with ⟨h, _⟩ | ⟨h1, p, hp, rfl, hl⟩
  · exact absurd h hL
  · have := hl.1; have := hl.2.1; have := hp.1; have := hp.2.2.2.1
    omega
theorem Found.none {b : List UInt8} {i K : Nat} (h : Found b i 0 K) : K = 0 := by
  rcases h with ⟨_, h, _⟩ | ⟨h1, p, hp, _, hl⟩
  · exact h
  · have := hl.1; omega
section
variable {w w' : World} {f B n c m i : Nat} {A : Option Addr} {b : List UInt8} {l : List (Nat × Nat)}
/-- another row has turned -/
theorem FindAt.beside (h : FindAt w f B A n c b m i) {row : Option Nat} (hg : w.grownBy w' row) (hr : ∀ g, row = some g → B ≤ g ∧ ∃ cs fr, w.heap[g]? = some (.cells cs tStep fr)) : FindAt w' f B A n c b m i := by
  obtain ⟨kv, hm, hh⟩ := h.map
  have hfm : some f ≠ row := fun e => by
    obtain ⟨_, cs, fr, hq⟩ := hr f e.symm
    have hq' : w.heap[f]? = some (.cells _ tFind (0, 0)) := h.cells
    rw [hq'] at hq
    injection hq with hq
    injection hq with _ ht
    exact absurd ht (by decide)
  have hmm : some m ≠ row := fun e => by
    obtain ⟨_, cs, fr, hq⟩ := hr m e.symm
    exact (hm.ne_cells hq) rfl
  exact { h with cells := h.cells.old (hg.block f h.cells.inside hfm), rd := h.rd.keep fun q hq => hg.block q (by have := h.cells.inside; have := h.fB; omega) (fun e => by have := (hr q e.symm).1; omega), map := ⟨kv, hm.old (hg.block m hm.inside hmm), hh⟩ }
theorem Own2.beside (h : Own2 w B A n c l) (k : Turn [m] [m] w w') {kv : List (Value × Value)} (hm : MapOf Tryz.prog tThree w m kv) : Own2 w' B A n c l := h.keep fun g hg => by
  obtain ⟨_, cs, fr, hq⟩ := h.block g hg
  refine k.block g (Array.getElem?_eq_some_iff.1 hq).1 ?_
  rw [List.mem_singleton]
  intro e
  subst e
  exact hm.ne_cells hq rfl
theorem step_go {w w1 w2 : World} {f n c m i k c' : Nat} {A A' : Option Addr} {b : List UInt8} {l : List (Nat × Nat)} (obj : Obj) (hF : FindAt w1 f w.heap.size A n c b m i) (hK : Own2 w1 w.heap.size A' k c' l) (hR : Fresh w w1) (hg : (w1.alloc obj).grownBy w2 (Value.slice A' k c').ownBlock) : FindAt w2 f w.heap.size A n c b m i ∧ Fresh w w2 := by
  have hk2 := hK.fresh (Fresh.alloc w1 obj)
  have hr2 := hR.trans (Fresh.alloc w1 obj)
  exact ⟨(hF.fresh (Fresh.alloc w1 obj)).beside hg hk2.block, Below.grown hr2 hg hr2.size fun q hq => (hk2.block q hq).1⟩
theorem own_go {w w1 w2 : World} {k c' : Nat} {A' : Option Addr} {l : List (Nat × Nat)} (obj : Obj) (hK : Own2 w1 w.heap.size A' k c' l) (hR : Fresh w w1) (hg : (w1.alloc obj).grownBy w2 (Value.slice A' k c').ownBlock) : Fresh w w2 := by
  have hk2 := hK.fresh (Fresh.alloc w1 obj)
  have hr2 := hR.trans (Fresh.alloc w1 obj)
  exact Below.grown hr2 hg hr2.size fun q hq => (hk2.block q hq).1
theorem u16_wrap (x : Nat) (h : x < 65536) : IntKind.u16.wrap (x : Int) = (x : Int) := IntWalk.u16_in _ (by omega)
set_option maxRecDepth 100000 in
set_option maxHeartbeats 8000000 in
theorem stepsOf_any (A : Option Addr) (n c : Nat) (b : List UInt8) (w : World) (B : Nat) (hr : Rd w B A n (b.map bv)) (hB : B ≤ w.heap.size) (hn : n ≤ 16777216) :
    Calls Tryz.prog 10 #[.slice A n c] w fun e w' => ∃ A1 c1 l, e = .returned (.slice A1 (l.length + 1) c1) ∧ St b n l ∧ Own2 w' w.heap.size A1 (l.length + 1) c1 (l ++ [(256, 0)]) ∧ Fresh w w' := by
  have hmm := @run_makeMap Tryz.prog
  have hl : b.length = n := by have := hr.1; rwa [List.length_map] at this
  have HL := Lib.hid hl
  have HR := Lib.hid hr
  clear hl hr
  go_enter Tryz.func10, Tryz.ntmps10
  go_wp2
  obtain ⟨m, hm⟩ : ∃ m, w.heap.size = m := ⟨_, rfl⟩
  have hstart : FindAt ((w.alloc (.map #[] 0)).alloc (.cells #[.slice A n c, .map (some w.heap.size)] tFind)) (w.heap.size + 1) w.heap.size A n c b w.heap.size 0 := by
    have hf := (Fresh.alloc w (.map #[] 0)).trans (Fresh.alloc _ (.cells #[.slice A n c, .map (some w.heap.size)] tFind))
    have hmap := MapOf.made Tryz.prog tThree w
    have hbk := Bk.made (w.alloc (.map #[] 0)) tFind #[.slice A n c, .map (some w.heap.size)]
    have hsz : (w.alloc (.map #[] 0)).heap.size = w.heap.size + 1 := by simp
    rw [hsz] at hbk
    refine ⟨hbk, (HR.out.below hf hB).up hB, hn, ⟨[], hmap.old ((Fresh.alloc _ _).block _ hmap.inside), fun _ => Holds.start b⟩, by omega, Nat.le_refl _, by omega⟩
  have hfr0 : Fresh w ((w.alloc (.map #[] 0)).alloc (.cells #[.slice A n c, .map (some w.heap.size)] tFind)) := (Fresh.alloc w (.map #[] 0)).trans (Fresh.alloc _ _)
  have HST := Lib.hid hstart
  have HFR0 := Lib.hid hfr0
  clear hstart hfr0 hm hmm
  go_loopw [4, 5] (fun vs va wr => ∃ (i k c' : Nat) (A' : Option Addr) (l : List (Nat × Nat)), vs = .slice A' k c' ∧ va = .int .i64 (i : Nat) ∧ i ≤ n ∧ k ≤ i ∧ Hid (St b i l) ∧ Hid (l.length = k) ∧ Own2 wr w.heap.size A' k c' l ∧ FindAt wr (w.heap.size + 1) w.heap.size A n c b w.heap.size i ∧ Fresh w wr) (fun _ va _ => n - (intOf va).toNat)
  case atStart => exact ⟨0, 0, 0, none, [], rfl, rfl, by omega, Nat.le_refl _, .nil, rfl, Own2.nil _ _, HST.out, HFR0.out⟩
  case round =>
    obtain ⟨i, k, c', A', l, rfl, rfl, hi, hk, hSt, hlk, hown, hF, hfr⟩ := hrel
    by_cases hlt : i < n
    · have hilt : (i : Int) < (n : Int) := by omega
      have hfind := find_any hF hi
      have HFI := Lib.hid hfind
      have HOW := Lib.hid hown
      have HF := Lib.hid hF
      have HFR := Lib.hid hfr
      clear hfind hown hF hfr HST HFR0
      go_upto_if 23 with (go_at_call 20; (with_reducible refine HFI.out.mono ?_); rintro e w1 ⟨L, K, rfl, hfo, hf1⟩)
      go_cut [4, 6] (fun vs vl wx => ∃ (c1 L' : Nat) (A1 : Option Addr) (s : Nat × Nat), vs = .slice A1 (k + 1) c1 ∧ vl = .int .i64 (L' : Nat) ∧ 1 ≤ L' ∧ i + L' ≤ n ∧ Hid (St b (i + L') (l ++ [s])) ∧ Own2 wx w.heap.size A1 (k + 1) c1 (l ++ [s]) ∧ FindAt wx (w.heap.size + 1) w.heap.size A n c b w.heap.size i ∧ Fresh w wx)
      case first =>
        by_cases hL0 : L = 0
        · subst hL0
          have hK0 := hfo.none
          subst hK0
          obtain ⟨q, off, rfl, hq, ka⟩ := cell_get (HF.out.fresh hf1).rd (j := i) hlt
          have HK1 := Lib.hid (HOW.out.fresh hf1)
          have HF1 := Lib.hid (HF.out.fresh hf1)
          have HFR1 := Lib.hid (HFR.out.trans hf1)
          have hsz1 := HFR1.out.size
          have HST2 := Lib.hid (St.lit hSt.out (by rw [HL.out]; exact hlt) hfo)
          generalize (b.getD i 0) = u at *
          have ew := u16_wrap u.toNat (by have := u.toNat_lt; omega)
          clear hfo hf1
          go_wp2_with (at_builtin; refine wpList_append_step _ rfl (.tmp 24) (.tmp 31) rfl w.heap.size A' k c' l rfl (Own2.fresh HK1.out (Fresh.alloc _ _)) w1.heap.size (u.toNat, 0) rfl (Bk.made w1 tStep #[.int .u16 (u.toNat : Int), .int .u16 0]) (by omega) (by simp; omega) ?_; intro A1 c1 w2 ho2 hg2; have HO2 := Lib.hid ho2; obtain ⟨hF2, hFR2⟩ := step_go _ HF1.out HK1.out HFR1.out hg2; have HF2 := Lib.hid hF2; have HFR2 := Lib.hid hFR2; clear ho2 hg2 hF2 hFR2)
          all_goals go_meet
          all_goals exact ⟨c1, 1, A1, (u.toNat, 0), rfl, rfl, by omega, by omega, HST2.out, HO2.out, HF2.out, HFR2.out⟩
        · have HK1 := Lib.hid (HOW.out.fresh hf1)
          have HF1 := Lib.hid (HF.out.fresh hf1)
          have HFR1 := Lib.hid (HFR.out.trans hf1)
          have hsz1 := HFR1.out.size
          have hbd := hfo.bound hL0
          rw [HL.out] at hbd
          have HST2 := Lib.hid (St.copy hSt.out (by rw [HL.out]; exact hlt) hfo hL0)
          have q1 : ((L : Int) == 0) = false := by simp; omega
          have q2 : (L : Int) ≤ 258 := by omega
          have q3 : (K : Int) ≤ 32768 := by omega
          have ew := u16_wrap L (by omega)
          have ew2 := u16_wrap K (by omega)
          clear hfo hf1
          go_wp2_with (at_builtin; refine wpList_append_step _ rfl (.tmp 33) (.tmp 39) rfl w.heap.size A' k c' l rfl (Own2.fresh HK1.out (Fresh.alloc _ _)) w1.heap.size (L, K) rfl (Bk.made w1 tStep #[.int .u16 (L : Int), .int .u16 (K : Int)]) (by omega) (by simp; omega) ?_; intro A1 c1 w2 ho2 hg2; have HO2 := Lib.hid ho2; obtain ⟨hF2, hFR2⟩ := step_go _ HF1.out HK1.out HFR1.out hg2; have HF2 := Lib.hid hF2; have HFR2 := Lib.hid hFR2; clear ho2 hg2 hF2 hFR2)
          all_goals go_meet
          all_goals exact ⟨c1, L, A1, (L, K), rfl, rfl, by omega, by omega, HST2.out, HO2.out, HF2.out, HFR2.out⟩
      case rest =>
        obtain ⟨c1, L', A1, s, rfl, rfl, h1, h2, hSt2, ho2, hF2, hfr2⟩ := hcut
        have HO2 := Lib.hid ho2
        have HF2 := Lib.hid hF2
        have HFR2 := Lib.hid hfr2
        clear ho2 hF2 hfr2 HOW HF HFR HFI
        go_wp2
        go_loopw [5, 42] (fun va vj wx => ∃ j x, va = .int .i64 (x : Nat) ∧ vj = .int .i64 (j : Nat) ∧ Hid (x = i + j) ∧ j ≤ L' ∧ FindAt wx (w.heap.size + 1) w.heap.size A n c b w.heap.size x ∧ Own2 wx w.heap.size A1 (k + 1) c1 (l ++ [s]) ∧ Fresh w wx) (fun _ vj _ => L' - (intOf vj).toNat)
        case atStart => exact ⟨0, i, rfl, rfl, rfl, Nat.zero_le _, HF2.out, HO2.out, HFR2.out⟩
        case round =>
          clear HF2 HO2 HFR2
          obtain ⟨j, x, rfl, rfl, hx, hj, hF3, ho3, hfr3⟩ := hrel
          have hxe := hx.out
          by_cases hjl : j < L'
          · have hjli : (j : Int) < (L' : Int) := by omega
            have hpass := pass_any hF3 (by omega)
            have hxb : x < n := by omega
            have hxb2 : (x : Int) < (n : Int) := by omega
            obtain ⟨kv, hm3, _⟩ := hF3.map
            have HPA := Lib.hid hpass
            have HO3 := Lib.hid ho3
            have HM3 := Lib.hid hm3
            have HFR3 := Lib.hid hfr3
            clear hpass ho3 hF3 hm3 hfr3 hxe
            go_wp2_with (go_at_call 21; (with_reducible refine HPA.out.mono ?_); rintro e w4 ⟨rfl, hF4, hT4⟩; have HF4 := Lib.hid hF4; have HT4 := Lib.hid hT4; clear hF4 hT4)
            have ho4 := HO3.out.beside HT4.out HM3.out
            have hfr4 : Fresh w w4 := HT4.out.new HFR3.out (by simp)
            have hx2 : x + 1 = i + (j + 1) := by have := hx.out; omega
            have HX2 := Lib.hid hx2
            have HO4 := Lib.hid ho4
            have HFR4 := Lib.hid hfr4
            clear ho4 hfr4 hx2
            go_roundw
            case rel => exact ⟨j + 1, x + 1, by go_num, by go_num, HX2.out, by omega, HF4.out, HO4.out, HFR4.out⟩
            case measure => simp [intOf]; omega
          · have hjle : j = L' := by omega
            have hjli : ¬ (j : Int) < (L' : Int) := by omega
            have HF3 := Lib.hid hF3
            have HO3 := Lib.hid ho3
            have HFR3 := Lib.hid hfr3
            have hlk2 : (l ++ [s]).length = k + 1 := by rw [List.length_append, hlk.out]; rfl
            have HLK2 := Lib.hid hlk2
            have hst3 : St b x (l ++ [s]) := by rw [hxe, hjle]; exact hSt2.out
            have HST3 := Lib.hid hst3
            have hxn : i < x ∧ x ≤ n := by omega
            clear hF3 ho3 hfr3 hlk2 hst3 hxe hjle
            go_wp2
            go_roundw
            case rel => exact ⟨x, k + 1, c1, A1, l ++ [s], rfl, rfl, by omega, by omega, HST3.out, HLK2.out, HO3.out, HF3.out, HFR3.out⟩
            case measure => simp [intOf]; omega
    · obtain rfl : i = n := by omega
      have HK1 := Lib.hid hown
      have HFR1 := Lib.hid hfr
      have hsz1 := hfr.size
      have hnlt : ¬ (i : Int) < (i : Int) := by omega
      clear hown hfr hF HST HFR0
      go_wp2_with (at_builtin; refine wpList_append_step _ rfl (.tmp 50) (.tmp 52) rfl w.heap.size A' k c' l rfl (Own2.fresh HK1.out (Fresh.alloc _ _)) wr.heap.size (256, 0) rfl (Bk.made wr tStep #[.int .u16 256, .int .u16 0]) (by omega) (by simp; omega) ?_; intro A1 c1 w2 ho2 hg2; have HO2 := Lib.hid ho2; have hFR2 : Fresh w w2 := own_go _ HK1.out HFR1.out hg2; clear ho2 hg2)
      go_ret
      obtain rfl := hlk.out
      exact ⟨A1, c1, l, rfl, hSt.out, HO2.out, hFR2⟩
end
end Go.Proofs.YtppgceighgpgoaaGreatDoor.defp
