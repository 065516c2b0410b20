/-
  What ZipSizes' walk takes: items made plain, rows of items, a text's bytes. My own text.
-/
import Derived.Test.YtmnegmebkmihhaaGreatDoorZipTw
import Derived.Test.YtmnegmebkmihhaaGreatDoorZipOpen
import Derived.Test.YtmnegmebkmihhaaGreatDoorRowOf
namespace Go.Proofs.YtmnegmebkmihhaaGreatDoor.zipp
open Go.RowKit Go.Maps Go.Proofs.YtmnegmebkmihhaaGreatDoor.base Go.Proofs.YtmnegmebkmihhaaGreatDoor.num Go.Proofs.YtmnegmebkmihhaaGreatDoor.recn Go.Proofs.YtmnegmebkmihhaaGreatDoor.recp Go.Proofs.YtmnegmebkmihhaaGreatDoor.nam Go.Proofs.YtmnegmebkmihhaaGreatDoor.namp Go.Proofs.YtmnegmebkmihhaaGreatDoor.zipn
set_option linter.unusedVariables false
def ownI (i : Itm) : Itm := ⟨i.s, i.dt, i.A, i.n, i.c, i.bs, 0, false, false⟩
theorem pl_of (i : Itm) (hm : mayR i = true) (hn : i.n ≤ 2000) (hl : i.bs.length = i.n) : ∃ x, IsPl (ownI i) x := by
  unfold mayR at hm
  simp only [Bool.and_eq_true, decide_eq_true_eq] at hm
  obtain ⟨h0, h1, hr, hmay, _, _⟩ := hm
  obtain ⟨rs, u, hrn, ht, hu⟩ := read_or i.s.data.toList
  have hmp : mayP rs u = true := by rw [unzp.mayP_is rs u hrn hu, ← ht]; exact hmay
  have hu0 : u = [] := by
    unfold mayP at hmp
    simp only [Bool.and_eq_true, decide_eq_true_eq] at hmp
    exact hmp.2.2.1
  subst hu0
  rw [List.append_nil] at ht
  refine ⟨⟨rs, i.dt.toNat, i.bs⟩, ht, ?_, rfl, rfl, rfl, rfl, hrn, hmp, ?_, ?_⟩
  · show i.dt = ((i.dt.toNat : Nat) : Int)
    omega
  · show dosnum.Right (dosnum.parts ((i.dt.toNat : Nat) : Int))
    rw [show ((i.dt.toNat : Nat) : Int) = i.dt by omega]
    exact hr
  · show i.bs.length ≤ 65536
    omega
theorem itemInfo : (Tryz.prog.info? tItem).map (fun i => (i.zero, i.size, i.bytes)) = some (some (.agg #[.string ⟨#[]⟩, .int .i64 0, .slice none 0 0, .int .i64 0, .bool false, .bool false]), 6, 64) := by kernel_rfl
theorem itms_own {w : World} {base n c : Nat} {A : Option Addr} {l : List Itm} (h : OwnK w base tItem 6 A n c itmV l) (hd : ∀ s ∈ l, Rd w w.heap.size s.A s.n (s.bs.map bv)) : ItmsAt w w.heap.size A n l := by
  have hlen := h.len itmV_len (by omega)
  refine ⟨hlen, fun hn => ?_, hd⟩
  obtain ⟨g, he, hg⟩ : ∃ g, A = some ⟨g, 0, none⟩ ∧ (Value.slice A n c).ownBlock = some g := by
    rcases h.2 with ⟨hv, h0⟩ | ⟨g, cap, cur, hv, _⟩
    · omega
    · injection hv with h1 _ _
      exact ⟨g, h1, by rw [h1]; rfl⟩
  obtain ⟨_, hlt, _⟩ := h.block g hg
  refine ⟨g, 0, he, hlt, fun i s hs => ?_⟩
  obtain ⟨g', he', _, _, hr⟩ := h.at_ itmV_len (by omega) hs
  rw [he] at he'
  injection he' with he'
  injection he' with he' _ _
  subst he'
  rw [Nat.zero_add]
  exact hr
theorem bytes_run (s : ByteArray) (W : World) (hm : s.size ≤ maxLen) : ∃ A c W', (convert 9 25 (.string s)).run Tryz.prog W = .ok (.slice A s.size c) W' ∧ Fresh W W' ∧ Rd W' W'.heap.size A s.size (s.data.toList.map bv) ∧ s.size ≤ c ∧ c ≤ maxLen := by
  have hrun := run_bytes_of_string (P := Tryz.prog) W 9 25 5 s Tryz.underlying9 Tryz.underlying25 Tryz.underlying5
  refine ⟨_, _, _, hrun, (Fresh.drew W).trans (Fresh.alloc _ _), ⟨by rw [List.length_map]; exact Array.length_toList (xs := s.data), fun hpos => ⟨W.heap.size, 0, rfl, by simp, fun j u hu => ?_⟩⟩, grownCap_ge W s.size 0 _, grownCap_le_maxLen W s.size 0 _ (by omega)⟩
  rw [Nat.zero_add]
  have hj : j < s.data.size := by
    have := (List.getElem?_eq_some_iff.1 hu).1
    rw [List.length_map] at this
    rwa [Array.length_toList] at this
  have hcell := cell_of_row (W.drew.alloc (.cells (bytesRow s (grownCap W s.size 0 5)) 5 ((bytesRow s (grownCap W s.size 0 5)).size, (bytesRow s (grownCap W s.size 0 5)).size + 1))) W.heap.size j _ 5 _ (heap_alloc_new W.drew _)
  rw [hcell, bytesRow_at s _ j hj, ← hu, List.getElem?_map, List.getElem?_eq_getElem (by simpa using hj)]
  simp
abbrev tName9 : TypeId := 53
theorem field0 (A : Option Addr) (m c : Nat) (b : Bool) (W : World) : (Instr.field tName9 (.agg #[.slice A m c, .bool b]) 0).run Tryz.prog W = .ok (.slice A m c) W := by
  kernel_rfl
end Go.Proofs.YtmnegmebkmihhaaGreatDoor.zipp
