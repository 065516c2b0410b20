/-
  Layer 9: the code page's table, runeOf; the strings.Builder of the library: copyCheck, WriteRune. My own text.
-/
import Derived.Test.YtkkkjadfhimahaaDoorNamNum
import Derived.Test.YtkkkjadfhimahaaDoorBlk
import Derived.Test.YtkkkjadfhimahaaDoorShelf
import Derived.Test.YtkkkjadfhimahaaDoorChecked
import Derived.Lib.Builder
namespace Go.Proofs.YtkkkjadfhimahaaDoor.namp
open Go.RowKit Go.Proofs.YtkkkjadfhimahaaDoor.base Go.Proofs.YtkkkjadfhimahaaDoor.nam
set_option linter.unusedVariables false

abbrev TB : TypeId := 69
set_option maxRecDepth 100000 in
theorem size_TB : (Tryd.prog.info? TB).map (·.size) = some 2 := by kernel_rfl
theorem lies_TB : liesAt Tryd.prog Tryd.prog.depth TB (2 / Tryd.prog.cellsOf TB) 0 TB 1 = true := by kernel_rfl
set_option maxRecDepth 100000 in
theorem check_any (b : Nat) (p v : Value) (w : World) (h : Bk w b TB [p, v]) (hp : p = .pointer none ∨ p = .pointer (some ⟨b, 0, none⟩)) :
    Calls Tryd.prog 33 #[.pointer (some ⟨b, 0, none⟩)] w fun e w' => e = .returned (.tuple #[]) ∧ Bk w' b TB [.pointer (some ⟨b, 0, none⟩), v] ∧ But b w w' := by
  obtain ⟨j, hj, hjs⟩ := Option.map_eq_some_iff.1 size_TB
  have c0 := h.cell (i := 0) rfl
  have f0 := h.free 0
  have hsh : w.shape? b = some (TB, 2) := by have h' : w.heap[b]? = some (.cells #[p, v] TB (0, 0)) := h; simp [World.shape?, h']
  have H := Lib.hid h
  clear h
  rcases hp with rfl | rfl
  · have h2 := H.out.put 0 (.pointer (some ⟨b, 0, none⟩))
    have c2 := h2.cell (i := 0) rfl
    have H2 := Lib.hid h2
    have HS := Lib.hid hsh
    have HJ := Lib.hid hj
    clear h2 hsh hj
    go_enter Tryd.func33, Tryd.ntmps33
    go_wp2
    rw [Lib.run_to_unsafe w ⟨b, 0, none⟩ Tryd.underlying67 Tryd.underlying98 HJ.out (by rw [hjs]; decide) HS.out (Nat.zero_lt_succ 1)]
    simp only [Result.andThen]
    rw [Oper.upon_value]
    go_wp2
    rw [run_callFunc_extern Tryd.func39 (by kernel_rfl) (by kernel_rfl) (by kernel_rfl) (e := Extern.AbiNoEscape.same) (by kernel_rfl)]
    rw [Lib.run_noEscape]
    simp only [Result.andThen]
    rw [Oper.upon_value]
    go_wp2
    rw [Lib.run_from_unsafe w ⟨b, 0, none⟩ Tryd.underlying98 Tryd.underlying67 HJ.out HS.out lies_TB]
    simp only [Result.andThen]
    rw [Oper.upon_value]
    go_wp2
    go_end0
    exact ⟨rfl, H2.out, But.put _ _⟩
  · have HJ := Lib.hid hj
    clear hj
    go_enter Tryd.func33, Tryd.ntmps33
    go_wp2
    rw [Lib.run_neq_ptr_same w _ Tryd.underlying67 HJ.out]
    simp only [Result.andThen]
    rw [Oper.upon_value]
    go_wp2
    go_end0
    exact ⟨rfl, H.out, But.refl _ _⟩

/-- a builder in block b holds these bytes -/
def Bld (w : World) (b : Nat) (bs : List UInt8) : Prop :=
  ∃ p A c, (p = .pointer none ∨ p = .pointer (some ⟨b, 0, none⟩)) ∧ Bk w b TB [p, .slice A bs.length c] ∧ Own w (b + 1) 5 A bs.length c (bs.map bv)
theorem Bld.made (w : World) : Bld (w.alloc (.cells #[.pointer none, .slice none 0 0] TB)) w.heap.size [] :=
  ⟨_, none, 0, Or.inl rfl, Bk.made w TB _, Own.nil _ _ _⟩
theorem Bld.lib {w : World} {b : Nat} {bs : List UInt8} (h : Bld w b bs) : Lib.IsBuilder TB 5 b b (Lib.byteCells bs) w := by
  obtain ⟨p, A, c, hp, hb, ho⟩ := h
  have key : Lib.BuilderAt TB 5 b b p (Lib.byteCells bs) w := by
    refine ⟨Nat.le_refl _, _, hb, ?_, fun e => ?_⟩
    · have hl : (Lib.byteCells bs).length = bs.length := by simp [Lib.byteCells]
      rw [hl]
      exact ⟨ho.1, ho.2.imp id fun ⟨g, cap, cur, h1, h2, h3⟩ => ⟨g, cap, cur, h1, by omega, h3⟩⟩
    · have := ho.row _ e
      omega
  rcases hp with rfl | rfl
  · exact Or.inl key
  · exact Or.inr key
set_option maxRecDepth 100000 in
theorem writeRune_any (b r : Nat) (hr : Rn r) (bs : List UInt8) (w : World) (h : Bld w b bs) (hl : bs.length ≤ 70368744177664) :
    Calls Tryd.prog 32 #[.pointer (some ⟨b, 0, none⟩), .int .i32 (r : Nat)] w fun e w' => (∃ x, e = .returned (.tuple #[x, .nilIface])) ∧ Bld w' b (bs ++ en r) ∧ Below b w w' := by
  obtain ⟨p, A, c, hp, hb, ho⟩ := h
  have hin := hb.inside
  have hcc := fun W h => check_any b p (.slice A bs.length c) W h hp
  have hle := hr.le
  have hcells : Lib.runeCells (r : Int) = (en r).map bv := by rw [← Lib.byteCells_encodeRune, en_rune hr]; rfl
  have hlen : (Lib.runeCells (r : Int)).length = (en r).length := by rw [hcells, List.length_map]
  have har := fun W h h2 => Tryd.utf8_AppendRune_plain (b + 1) (.slice A bs.length c) bs.length (bs.map bv) (r : Int) (by omega) (by omega) W h (by omega) h2
  rw [hcells, List.length_map] at har
  have hM0 : 1 ≤ (en r).length := by rw [en_len]; exact (wid_bd r).1
  have har2 : ∀ W, Own W (b + 1) 5 A bs.length c (bs.map bv) → Bk W b TB [.pointer (some ⟨b, 0, none⟩), .slice A bs.length c] → Below b w W → Calls Tryd.prog 38 #[.slice A bs.length c, .int .i32 (r : Nat)] W fun e w' => ∃ g2 c2, e = .returned (.slice (some ⟨g2, 0, none⟩) (bs.length + (en r).length) c2) ∧
      w'.cell? ⟨b, 1, none⟩ = some (.slice A bs.length c) ∧ w'.frozen? ⟨b, 1, none⟩ = false ∧ (w'.setCell ⟨b, 1, none⟩ (.slice (some ⟨g2, 0, none⟩) (bs.length + (en r).length) c2)).cell? ⟨b, 1, none⟩ = some (.slice (some ⟨g2, 0, none⟩) (bs.length + (en r).length) c2) ∧
      Bld (w'.setCell ⟨b, 1, none⟩ (.slice (some ⟨g2, 0, none⟩) (bs.length + (en r).length) c2)) b (bs ++ en r) ∧ Below b w (w'.setCell ⟨b, 1, none⟩ (.slice (some ⟨g2, 0, none⟩) (bs.length + (en r).length) c2)) := by
    intro W hO hB hBl
    have hiW := hB.inside
    refine (har W hO (by omega)).mono ?_
    rintro e w2 ⟨v2, rfl, ho2, o, hg2⟩
    have hne2 : (Value.slice A bs.length c).ownBlock ≠ some b := fun e => by have := hO.row _ e; omega
    have hb2 : Bk w2 b TB [.pointer (some ⟨b, 0, none⟩), .slice A bs.length c] := (hB.alloc o).grown hg2 hne2
    obtain ⟨g2, c2, rfl⟩ : ∃ g2 c2, v2 = .slice (some ⟨g2, 0, none⟩) (bs.length + (en r).length) c2 := by
      rcases ho2.2 with ⟨_, h0⟩ | ⟨g, cap', cur, hv, _⟩
      · omega
      · exact ⟨g, cap', hv⟩
    have hb3 := hb2.put 1 (.slice (some ⟨g2, 0, none⟩) (bs.length + (en r).length) c2)
    refine ⟨g2, c2, rfl, hb2.cell (i := 1) rfl, hb2.free 1, hb3.cell (i := 1) rfl, ⟨_, some ⟨g2, 0, none⟩, c2, Or.inr rfl, ?_, ?_⟩, ?_⟩
    · rw [List.length_append]; exact hb3
    · rw [List.length_append, List.map_append]
      exact Own.but ho2 (But.put w2 _) (fun e => by have := Own.row ho2 _ e; omega)
    · have e2 : Below b w (W.alloc o) := hBl.alloc (by omega) o
      have e3 : Below b w w2 := e2.grown hg2 (by simp; omega) (fun k hk => by have := hO.row _ hk; omega)
      exact e3.grown (But.put (g := b) (i := 1) w2 _) (by have := hb2.inside; omega) (fun k hk => by injection hk with hk; omega)
  have HB := Lib.hid hb
  have HO := Lib.hid ho
  have HC := Lib.hid hcc
  have HA := Lib.hid har2
  have HP := Lib.hid hp
  clear hcc har har2 hb ho hp hcells hlen
  obtain ⟨T, hT⟩ : ∃ T, bs ++ en r = T := ⟨_, rfl⟩
  rw [hT] at HA ⊢
  obtain ⟨L, hL⟩ : ∃ L, bs.length = L := ⟨_, rfl⟩
  obtain ⟨M, hM⟩ : ∃ M, (en r).length = M := ⟨_, rfl⟩
  rw [hM] at HA hM0
  rw [hL] at HB HO HC HA hl
  clear hL hM hT
  go_enter Tryd.func32, Tryd.ntmps32
  go_wp2_with (go_at_call 33; (refine (HC.out _ HB.out).mono ?_); rintro e w1 ⟨rfl, hb1, hbut1⟩; have k1 := hb1.cell (i := 1) rfl; have HB1 := Lib.hid hb1; have HU1 := Lib.hid hbut1; clear hb1 hbut1)
  have ho1 := HO.out.but HU1.out (fun e => by have := HO.out.row _ e; omega)
  have e1 : Below b w w1 := (Below.refl b w).grown HU1.out (by omega) (fun k hk => by injection hk with hk; omega)
  have HO1 := Lib.hid ho1
  have HE1 := Lib.hid e1
  clear ho1 e1
  go_wp2_with (go_at_call 38; (refine (HA.out _ HO1.out HB1.out HE1.out).mono ?_); rintro e w2 ⟨g2, c2, rfl, d1, f1, d3, hB2, hBl2⟩; have HB2 := Lib.hid hB2; have HL2 := Lib.hid hBl2; clear hB2 hBl2)
  go_ret2
  exact ⟨⟨_, rfl⟩, HB2.out, HL2.out⟩
end Go.Proofs.YtkkkjadfhimahaaDoor.namp
