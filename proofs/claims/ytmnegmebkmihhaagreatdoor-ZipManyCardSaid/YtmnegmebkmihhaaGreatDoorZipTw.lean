/-
  The law's twice; items that may be are plain ones. My own text.
-/
import Derived.Test.YtmnegmebkmihhaaGreatDoorZipRef
namespace Go.Proofs.YtmnegmebkmihhaaGreatDoor.zipp
open Go.RowKit Go.Maps Go.Proofs.YtmnegmebkmihhaaGreatDoor.base Go.Proofs.YtmnegmebkmihhaaGreatDoor.num Go.Proofs.YtmnegmebkmihhaaGreatDoor.recn Go.Proofs.YtmnegmebkmihhaaGreatDoor.recp Go.Proofs.YtmnegmebkmihhaaGreatDoor.nam Go.Proofs.YtmnegmebkmihhaaGreatDoor.namp Go.Proofs.YtmnegmebkmihhaaGreatDoor.zipn
set_option linter.unusedVariables false
theorem str_ne {a b : ByteArray} (h : a ≠ b) : (a.toList == b.toList) = false := by
  rw [beq_eq_false_iff_ne]
  intro e
  rw [ByteArray.toList_eq, ByteArray.toList_eq] at e
  obtain ⟨⟨x⟩⟩ := a
  obtain ⟨⟨y⟩⟩ := b
  exact h (by simp at e; rw [e])
set_option maxRecDepth 100000 in
set_option maxHeartbeats 8000000 in
theorem ltwice_any (A : Option Addr) (n c : Nat) (l : List Itm) (w : World) (B : Nat) (h : ItmsAt w B A n l) (hB : B ≤ w.heap.size) (hn : n ≤ 100000) (b : Bool) (hb : b = true ↔ ¬ (l.map (·.s)).Nodup) :
    Calls Tryz.prog 14 #[.slice A n c] w fun e w' => e = .returned (.bool b) ∧ Fresh w w' := by
  have HBB := Lib.hid hb
  have HLN := Lib.hid h.1
  have hni : (n : Int) ≤ 100000 := by omega
  clear hb hn
  go_enter Tryz.func14, Tryz.ntmps14
  go_wp2
  go_loopw [7] (fun i wr => ∃ j : Nat, j ≤ n ∧ i = .int .i64 j ∧ Hid (((l.map (·.s)).take j).Nodup) ∧ Hid (Fresh w wr)) (fun i _ => n - (intOf i).toNat)
  case atStart => exact ⟨0, by omega, rfl, Lib.hid (by rw [List.take_zero]; exact List.nodup_nil), Lib.hid (Fresh.refl _)⟩
  case round =>
    obtain ⟨j, hj, rfl, HND, HFR⟩ := hrel
    by_cases hlt : j < n
    · obtain ⟨bb, off, s, rfl, hbb, hs, hrow, hd⟩ := (h.below HFR.out hB).at_ hlt
      have hss : (l.map (·.s))[j]? = some s.s := by rw [List.getElem?_map, hs]; rfl
      have hij : (j : Int) < (n : Int) := by omega
      have hij0 : (0 : Int) ≤ (j : Int) := by omega
      have htk := num.take_snoc _ _ _ hss
      have HTK := Lib.hid htk
      have HSS := Lib.hid hss
      have hV := (h.below HFR.out hB)
      obtain ⟨V, hVw⟩ : ∃ V : World, V = wr := ⟨wr, rfl⟩
      subst hVw
      have hc0 : V.cell? ⟨bb, off + j * 6, none⟩ = some (.string s.s) := hrow 0 _ rfl
      have hbV := World.block_lt_of_cell? V _ hc0
      clear hrow hd hs hss htk
      generalize s.s = nm at *
      go_wp2
      go_loopw [11] (fun i wr => ∃ k : Nat, k ≤ j ∧ i = .int .i64 k ∧ Hid (nm ∉ (l.map (·.s)).take k) ∧ Hid (Fresh V wr)) (fun i _ => j - (intOf i).toNat)
      case atStart => exact ⟨0, by omega, rfl, Lib.hid (by rw [List.take_zero]; exact List.not_mem_nil), Lib.hid (Fresh.refl _)⟩
      case round =>
        rename World => wi
        obtain ⟨k, hk, rfl, HNI, HQ⟩ := hrel
        by_cases hlk : k < j
        · obtain ⟨b2, off2, s2, e2, hb2, hs2, hrow2, hd2⟩ := hV.at_ (i := k) (by omega)
          injection e2 with e2; injection e2 with e2 e3 _
          subst e2; subst e3
          have hss2 : (l.map (·.s))[k]? = some s2.s := by rw [List.getElem?_map, hs2]; rfl
          have hkj : (k : Int) < (j : Int) := by omega
          have hkn : (k : Int) < (n : Int) := by omega
          have hk0 : (0 : Int) ≤ (k : Int) := by omega
          have hc3 : wi.cell? ⟨bb, off + j * 6, none⟩ = some (.string nm) := (World.cell?_of_block (HQ.out.block bb hbV)).trans hc0
          have hc4 : wi.cell? ⟨bb, off + k * 6, none⟩ = some (.string s2.s) := (World.cell?_of_block (HQ.out.block bb hbV)).trans (hrow2 0 _ rfl)
          have htk2 := num.take_snoc _ _ _ hss2
          have HTK2 := Lib.hid htk2
          have HSS2 := Lib.hid hss2
          clear hs2 hrow2 hd2 hss2 htk2
          generalize s2.s = nm2 at *
          by_cases he : nm = nm2
          · subst he
            have hbt : b = true := HBB.out.2 (nodup_no HSS.out (by
              have := List.mem_of_getElem? (l := (l.map (·.s)).take j) (i := k) (a := nm) (by rw [List.getElem?_take, if_pos hlk]; exact HSS2.out)
              exact this))
            subst hbt
            go_upto_region 7 with (fail)
            go_quiet (fail)
            go_wp2
            go_ret
            exact ⟨rfl, HFR.out.trans (HQ.out.trans (Fresh.drewN _ _))⟩
          · have hne := str_ne he
            have HNE := Lib.hid he
            clear he
            go_upto_region 7 with (fail)
            go_quiet (fail)
            go_wp2
            go_roundw
            case rel => exact ⟨k + 1, by omega, by go_num, Lib.hid (by rw [HTK2.out]; intro hm; rcases List.mem_append.1 hm with hm | hm; exact HNI.out hm; rw [List.mem_singleton] at hm; exact HNE.out hm), Lib.hid (HQ.out.trans (Fresh.drewN _ _))⟩
            case measure => simp [intOf]; omega
        · have hkj : k = j := by omega
          subst hkj
          go_wp2
          go_roundw
          case rel => exact ⟨k + 1, by omega, by go_num, Lib.hid (by rw [HTK.out]; exact nodup_snoc HND.out HNI.out), Lib.hid (HFR.out.trans HQ.out)⟩
          case measure => simp [intOf]; omega
    · have h0 : j = n := by omega
      subst h0
      have hnd := HND.out
      rw [List.take_of_length_le (by rw [List.length_map]; exact Nat.le_of_eq HLN.out)] at hnd
      have hbf : b = false := by
        cases hbb : b with
        | false => rfl
        | true => exact absurd hnd (HBB.out.1 hbb)
      subst hbf
      clear HBB hnd
      go_wp2
      go_ret
      exact ⟨rfl, HFR.out⟩
end Go.Proofs.YtmnegmebkmihhaaGreatDoor.zipp
