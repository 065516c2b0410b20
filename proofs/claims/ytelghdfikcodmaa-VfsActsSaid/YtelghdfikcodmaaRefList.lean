/-
  The contracts of the reference's drop, insert. My own text.
-/
import Derived.Test.YtelghdfikcodmaaRefFs
import Derived.Sort.Walk0
namespace Go.Proofs.Ytelghdfikcodmaa.vref
open Go.RowKit Go.Maps Go.Proofs.Ytelghdfikcodmaa.base Go.Proofs.Ytelghdfikcodmaa.vfsnum Go.Proofs.Ytelghdfikcodmaa.vfs
set_option linter.unusedVariables false

abbrev tPtr : TypeId := 85
theorem ptr_info : (Try.prog.info? 85).map (fun i => (i.zero, i.size, i.bytes)) = some (some (.pointer none), 1, 8) := by kernel_rfl
theorem ptrs_one (l : List Gh) : ∀ u ∈ l.map ptrOf, u.oneCell' = true := by
  intro u hu
  obtain ⟨x, _, rfl⟩ := List.mem_map.1 hu
  rfl
theorem Own.base0 {w : World} {base : Nat} {e : TypeId} {A : Option Addr} {n c : Nat} {xs : List Value} (h : Own w base e A n c xs) : Own w 0 e A n c xs :=
  ⟨h.1, h.2.elim .inl fun ⟨g, cap, cur, hv, _, r⟩ => .inr ⟨g, cap, cur, hv, Nat.zero_le _, r⟩⟩
theorem Own.rb_ge {w : World} {base : Nat} {e : TypeId} {A : Option Addr} {n c : Nat} {xs : List Value} (h : Own w base e A n c xs) : ∀ b ∈ rb A, base ≤ b := by
  intro b hb
  rcases h.2 with ⟨hv, _⟩ | ⟨g, cap, cur, hv, hg, _⟩
  · injection hv with hA _ _
    subst hA
    cases hb
  · injection hv with hA _ _
    subst hA
    obtain rfl : b = g := by simpa [rb] using hb
    exact hg
/-- the store gets another list -/
theorem RefG.relist {w w1 : World} {f m n c L : Nat} {a : Fs} {A : Option Addr} (hb : Bk w1 f tFS (cellsR m a A n c)) (gs' : List Gh) (A' : Option Addr) (c' : Nat) (hf : Fresh w w1) (ho : Own w1 w.heap.size tPtr A' gs'.length c' (gs'.map ptrOf))
    (hx : ∀ x ∈ gs', RFile w1 x.g x.name (rawR x.fl) x.bl) (hnd : (f :: gs'.flatMap Gh.bl).Nodup) (hin : ∀ b ∈ f :: gs'.flatMap Gh.bl, b < w.heap.size) (a' : Fs) (ha : a' = { a with files := gs'.map Gh.fst }) (S : List Nat) (hS : ∀ b ∈ f :: gs'.flatMap Gh.bl, b ∈ S) (hL : gs'.length = L) :
    RefG (w1.setCell ⟨f, 0, none⟩ (.slice A' L c')) f m a' A' c' gs' ∧ Turn S (rsBlocks f A' gs') w (w1.setCell ⟨f, 0, none⟩ (.slice A' L c')) := by
  subst ha
  subst hL
  have hge := Own.rb_ge ho
  have hfw : f < w.heap.size := hin f (by simp)
  have hfn : ∀ b ∈ gs'.flatMap Gh.bl, b ≠ f := fun b hb e => (List.nodup_cons.1 hnd).1 (e ▸ hb)
  refine ⟨⟨?_, rfl, hb.put 0 (.slice A' gs'.length c'), Own.base0 (Own.old ho fun b hb => Below.heap_setCell w1 ⟨f, 0, none⟩ _ b (fun e => by have := hge b hb; rw [e] at this; exact absurd this (by simpa using hfw))), fun x hxm => (hx x hxm).keep fun b hbm => Below.heap_setCell w1 ⟨f, 0, none⟩ _ b (hfn b (List.mem_flatMap.2 ⟨x, hxm, hbm⟩))⟩, ?_⟩
  · simp only [rsBlocks, List.nodup_cons, List.nodup_append, List.mem_append]
    refine ⟨?_, rb_nodup A', (List.nodup_cons.1 hnd).2, fun b hb1 d hd1 e => ?_⟩
    · rintro (h | h)
      · have := hge f h; omega
      · exact (List.nodup_cons.1 hnd).1 h
    · subst e
      have h1 := hge b hb1
      have h2 := hin b (List.mem_cons_of_mem _ hd1)
      omega
  · refine ((Turn.fresh hf).trans (Turn.but (But.put w1 _) (hS f (by simp)))).to fun b hb => ?_
    simp only [rsBlocks, List.mem_cons, List.mem_append] at hb
    rcases hb with h | h | h
    · exact .inl (hS b (by simp [h]))
    · exact .inr (hge b h)
    · exact .inl (hS b (List.mem_cons_of_mem _ h))
theorem erase_step {gs : List Gh} {k K : Nat} {y : Gh} (hy : gs[k]? = some y) : (gs.take (k + 1)).eraseIdx K = if k = K then (gs.take k).eraseIdx K else (gs.take k).eraseIdx K ++ [y] := by
  obtain ⟨hl, e⟩ := List.getElem?_eq_some_iff.1 hy
  have ht : gs.take (k + 1) = gs.take k ++ [y] := by rw [List.take_succ_eq_append_getElem hl, e]
  have hlk : (gs.take k).length = k := by rw [List.length_take]; omega
  rw [ht]
  by_cases h1 : K < k
  · rw [List.eraseIdx_append_of_lt_length (by omega), if_neg (by omega)]
  · rw [List.eraseIdx_append_of_length_le (by omega), List.eraseIdx_of_length_le (l := gs.take k) (by omega), hlk]
    by_cases h2 : k = K
    · rw [if_pos h2, h2, Nat.sub_self]; simp
    · rw [if_neg h2]
      congr 1
      rw [List.eraseIdx_of_length_le]
      simp
      omega

set_option maxHeartbeats 1000000 in
theorem drop_r (w : World) (f m : Nat) (a : Fs) (A : Option Addr) (c : Nat) (g1 g2 : List Gh) (x : Gh) (h : RefG w f m a A c (g1 ++ x :: g2)) (hlen : (g1 ++ x :: g2).length ≤ 1048576) :
    Calls Try.prog 89 #[.pointer (some ⟨f, 0, none⟩), .int .i64 (g1.length : Nat)] w fun e w' => e = .returned (.tuple #[]) ∧ ∃ A' c',
      RefG w' f m { a with files := (g1 ++ g2).map Gh.fst } A' c' (g1 ++ g2) ∧ Turn (rsBlocks f A (g1 ++ x :: g2)) (rsBlocks f A' (g1 ++ g2)) w w' ∧ RFile w' x.g x.name (rawR x.fl) x.bl ∧ ∀ b ∈ x.bl, b ∉ rsBlocks f A' (g1 ++ g2) := by
  obtain ⟨i0, hi0, hz0, hz1, hz2⟩ := info_parts ptr_info
  have h0 : w.cell? ⟨f, 0, none⟩ = some (.slice A (g1 ++ x :: g2).length c) := h.2.2.1.cell rfl
  have hee : (g1 ++ x :: g2).eraseIdx g1.length = g1 ++ g2 := by rw [List.eraseIdx_append_of_length_le (Nat.le_refl _), Nat.sub_self]; rfl
  obtain ⟨K, hK⟩ : ∃ K, g1.length = K := ⟨_, rfl⟩
  obtain ⟨gs, hgs⟩ : ∃ gs, gs = g1 ++ x :: g2 := ⟨_, rfl⟩
  have HGS := Lib.hid hgs
  rw [hK] at hee ⊢
  rw [← hgs] at h h0 hee hlen
  obtain ⟨N, hN⟩ : ∃ N, gs.length = N := ⟨_, rfl⟩
  rw [hN] at h0 hlen
  have H := Lib.hid h
  have HEE := Lib.hid hee
  have HN := Lib.hid hN
  have HK := Lib.hid hK
  have hKN : K ≤ N := by rw [← hK, ← hN, hgs, List.length_append]; omega
  have hfr := h.2.2.1.free 0
  clear h hee hN hK hgs
  go_enter Try.func89, Try.ntmps89
  go_wp2
  go_loopw [4, 5] (fun v t wr => ∃ (k n' c' : Nat) (A' : Option Addr), k ≤ N ∧ n' ≤ k ∧ t = .int .i64 k ∧ v = .slice A' n' c' ∧ Hid (((gs.take k).eraseIdx K).length = n') ∧ Own wr w.heap.size tPtr A' n' c' (((gs.take k).eraseIdx K).map ptrOf) ∧ Fresh w wr) (fun _ t _ => N - (intOf t).toNat)
  case atStart => exact ⟨0, 0, 0, none, Nat.zero_le _, Nat.le_refl _, rfl, rfl, by show _ = _; simp, by simpa using Own.nil w w.heap.size tPtr, Fresh.refl w⟩
  case round =>
    obtain ⟨k, n', c', A', hk, hnk, rfl, rfl, hl, ho, hf⟩ := hrel
    have hr := H.out.fresh hf
    have h0r : wr.cell? ⟨f, 0, none⟩ = some (.slice A N c) := by rw [← HN.out]; exact hr.2.2.1.cell rfl
    by_cases hlt : k < N
    · obtain ⟨y, hy⟩ : ∃ y, gs[k]? = some y := ⟨_, List.getElem?_eq_getElem (by rw [HN.out]; exact hlt)⟩
      obtain ⟨b, off, rfl, hc⟩ := hr.elem hy
      have hes := erase_step (K := K) hy
      by_cases hkK : k = K
      · subst hkK
        rw [if_pos rfl] at hes
        have HES := Lib.hid hes
        have HO := Lib.hid ho
        clear hes hy ho hr
        go_wp2
        go_roundw
        case rel => exact ⟨k + 1, n', c', A', by omega, by omega, by go_num, rfl, by show _ = _; rw [HES.out]; exact hl.out, by rw [HES.out]; exact HO.out, hf⟩
        case measure => simp [intOf]; omega
      · rw [if_neg hkK] at hes
        have HES := Lib.hid hes
        have hkb : ((k : Int) != (K : Int)) = true := by rw [bne_iff_ne]; omega
        clear hes hy hr
        go_wp2_with (at_builtin; (refine wpList_append_rd _ rfl _ _ 74 rfl w.heap.size 85 i0 _ 8 Try.underlying74 hi0 hz0 hz1 hz2 rfl A' n' c' _ rfl (ho.fresh (Fresh.alloc wr _)) (wr.heap.size + 1) (some ⟨wr.heap.size, 0, none⟩) 1 1 [ptrOf y] rfl (Rd.lit wr #[ptrOf y] 85) (ptrs_one [y]) (by unfold maxLen; omega) (by omega) (by have := hf.size; simp; omega) ?_); intro A2 c2 w2 ho2 hg2)
        go_roundw
        case rel =>
          refine ⟨k + 1, n' + 1, c2, A2, by omega, by omega, by go_num, rfl, ?_, ?_, (hf.trans (Fresh.alloc wr _)).append (ho.fresh (Fresh.alloc wr _)) (Nat.le_refl _) hg2⟩
          · show _ = _
            rw [HES.out, List.length_append, hl.out]; rfl
          · rw [HES.out, List.map_append]; exact ho2
        case measure => simp [intOf]; omega
    · have hkN : k = N := by omega
      subst hkN
      have hta : gs.take k = gs := List.take_of_length_le (by rw [HN.out]; exact Nat.le_refl _)
      rw [hta, HEE.out] at ho
      have hl2 : (g1 ++ g2).length = n' := by have := hl.out; rw [hta, HEE.out] at this; exact this
      have hfz := hr.2.2.1.free 0
      subst hl2
      have HO := Lib.hid ho
      have HR := Lib.hid hr
      clear ho hl hta hr
      go_wp2
      go_end0
      have hnd := H.out.1
      rw [HGS.out] at hnd
      have hinn := H.out.inside
      rw [HGS.out] at hinn
      have hmm : ∀ b, b ∈ f :: (g1 ++ g2).flatMap Gh.bl → b ∈ rsBlocks f A (g1 ++ x :: g2) := by
        intro b hb
        simp only [rsBlocks, List.flatMap_append, List.flatMap_cons, List.mem_cons, List.mem_append] at hb ⊢
        rcases hb with h | h | h
        · exact .inl h
        · exact .inr (.inr (.inl h))
        · exact .inr (.inr (.inr (.inr h)))
      have hxall : ∀ z ∈ g1 ++ x :: g2, RFile wr z.g z.name (rawR z.fl) z.bl := by have := HR.out.2.2.2.2; rw [HGS.out] at this; exact this
      simp only [rsBlocks, List.flatMap_append, List.flatMap_cons, List.nodup_cons, List.nodup_append, List.mem_append] at hnd
      obtain ⟨d1, d2, ⟨d3, ⟨d4, d5, d6⟩, d7⟩, d8⟩ := hnd
      have hre := RefG.relist (a := a) HR.out.2.2.1 (g1 ++ g2) A' c' hf HO.out (fun z hz => hxall z (by rcases List.mem_append.1 hz with h | h <;> simp [h])) (by
        simp only [List.flatMap_append, List.nodup_cons, List.nodup_append, List.mem_append]
        exact ⟨fun h => d1 (.inr (h.elim .inl fun h => .inr (.inr h))), d3, d5, fun b hb e he => d7 b hb e (.inr he)⟩) (fun b hb => hinn b (hmm b hb)) _ rfl (rsBlocks f A (g1 ++ x :: g2)) hmm List.length_append
      have hxb : ∀ b ∈ x.bl, b ∈ rsBlocks f A (g1 ++ x :: g2) := fun b hb => by
        simp only [rsBlocks, List.flatMap_append, List.flatMap_cons, List.mem_cons, List.mem_append]
        exact .inr (.inr (.inr (.inl hb)))
      refine ⟨rfl, A', c', hre.1, hre.2, (hxall x (by simp)).keep fun b hb => Below.heap_setCell wr ⟨f, 0, none⟩ _ b (fun e => d1 (.inr (.inr (.inl ((show b = f from e) ▸ hb))))), fun b hb hb2 => ?_⟩
      simp only [rsBlocks, List.flatMap_append, List.mem_cons, List.mem_append] at hb2
      rcases hb2 with h | h | h | h
      · exact d1 (.inr (.inr (.inl (h ▸ hb))))
      · have h1 := Own.rb_ge HO.out b h
        have h2 := hinn b (hxb b hb)
        omega
      · exact d7 b h b (.inl hb) rfl
      · exact d6 b hb b h rfl

theorem less_yes {a b : ByteArray} (h : nlt a b = true) : Op.bytesLess a.toList b.toList = true := by
  rw [bytesLess_eq, ByteArray.toList_eq, ByteArray.toList_eq]; exact h
theorem less_no {a b : ByteArray} (h : nlt b a = true) : Op.bytesLess a.toList b.toList = false := by
  rw [bytesLess_eq, ByteArray.toList_eq, ByteArray.toList_eq]
  cases hab : decide (a.data.toList < b.data.toList) with
  | false => rfl
  | true =>
    have : nlt a b = true := hab
    have h2 := nlt_trans this h
    rw [nlt_irrefl] at h2
    cases h2
def outL (g1 g2 : List Gh) (x : Gh) (k : Nat) : List Gh := if k ≤ g1.length then g1.take k else g1 ++ x :: g2.take (k - g1.length)
theorem out_low {g1 g2 : List Gh} {x y : Gh} {k : Nat} (hk : k < g1.length) (hy : (g1 ++ g2)[k]? = some y) : outL g1 g2 x (k + 1) = outL g1 g2 x k ++ [y] := by
  rw [List.getElem?_append_left hk] at hy
  obtain ⟨hl, e⟩ := List.getElem?_eq_some_iff.1 hy
  unfold outL
  rw [if_pos (by omega), if_pos (by omega), List.take_succ_eq_append_getElem hl, e]
theorem out_mid {g1 g2 : List Gh} {x y : Gh} {k : Nat} (hk : k = g1.length) (hy : (g1 ++ g2)[k]? = some y) : outL g1 g2 x (k + 1) = outL g1 g2 x k ++ [x] ++ [y] := by
  subst hk
  rw [List.getElem?_append_right (Nat.le_refl _), Nat.sub_self] at hy
  obtain ⟨hl, e⟩ := List.getElem?_eq_some_iff.1 hy
  unfold outL
  rw [if_neg (by omega), if_pos (Nat.le_refl _), show g1.length + 1 - g1.length = 0 + 1 by omega, List.take_succ_eq_append_getElem hl, e, List.take_of_length_le (Nat.le_refl _)]
  simp
theorem out_high {g1 g2 : List Gh} {x y : Gh} {k : Nat} (hk : g1.length < k) (hy : (g1 ++ g2)[k]? = some y) : outL g1 g2 x (k + 1) = outL g1 g2 x k ++ [y] := by
  rw [List.getElem?_append_right (by omega)] at hy
  obtain ⟨hl, e⟩ := List.getElem?_eq_some_iff.1 hy
  unfold outL
  rw [if_neg (by omega), if_neg (by omega), show k + 1 - g1.length = k - g1.length + 1 by omega, List.take_succ_eq_append_getElem hl, e]
  simp

set_option maxRecDepth 100000 in
set_option maxHeartbeats 2000000 in
theorem insert_r (w : World) (f m : Nat) (a : Fs) (A : Option Addr) (c : Nat) (g1 g2 : List Gh) (x : Gh) (h : RefG w f m a A c (g1 ++ g2)) (hlen : (g1 ++ g2).length ≤ 1048576) (h1 : ∀ y ∈ g1, nlt y.name x.name = true) (h2 : ∀ y ∈ g2, nlt x.name y.name = true)
    (hx : RFile w x.g x.name (rawR x.fl) x.bl) (hap : ∀ b ∈ x.bl, b ∉ rsBlocks f A (g1 ++ g2)) :
    Calls Try.prog 87 #[.pointer (some ⟨f, 0, none⟩), .pointer (some ⟨x.g, 0, none⟩)] w fun e w' => e = .returned (.tuple #[]) ∧ ∃ A' c',
      RefG w' f m { a with files := (g1 ++ x :: g2).map Gh.fst } A' c' (g1 ++ x :: g2) ∧ Turn (x.bl ++ rsBlocks f A (g1 ++ g2)) (rsBlocks f A' (g1 ++ x :: g2)) w w' := by
  obtain ⟨i0, hi0, hz0, hz1, hz2⟩ := info_parts ptr_info
  have h0 : w.cell? ⟨f, 0, none⟩ = some (.slice A (g1 ++ g2).length c) := h.2.2.1.cell rfl
  have hxn : w.cell? ⟨x.g, 0, none⟩ = some (.string x.name) := by obtain ⟨_, _, _, _, _, _, _, _, hb, _⟩ := hx; exact hb.cell rfl
  obtain ⟨K, hK⟩ : ∃ K, g1.length = K := ⟨_, rfl⟩
  obtain ⟨N, hN⟩ : ∃ N, (g1 ++ g2).length = N := ⟨_, rfl⟩
  rw [hN] at h0 hlen
  have hKN : K ≤ N := by rw [← hK, ← hN, List.length_append]; omega
  have H := Lib.hid h
  have HN := Lib.hid hN
  have HK := Lib.hid hK
  have H1 := Lib.hid h1
  have H2 := Lib.hid h2
  have HX := Lib.hid hx
  have HAP := Lib.hid hap
  have hfr := h.2.2.1.free 0
  have FIN : Hid (∀ w2 A2 c2 L, Fresh w w2 → Own w2 w.heap.size tPtr A2 L c2 ((g1 ++ x :: g2).map ptrOf) → (g1 ++ x :: g2).length = L →
      RefG (w2.setCell ⟨f, 0, none⟩ (.slice A2 L c2)) f m { a with files := (g1 ++ x :: g2).map Gh.fst } A2 c2 (g1 ++ x :: g2) ∧ Turn (x.bl ++ rsBlocks f A (g1 ++ g2)) (rsBlocks f A2 (g1 ++ x :: g2)) w (w2.setCell ⟨f, 0, none⟩ (.slice A2 L c2))) := by
    intro w2 A2 c2 L hf2 ho2 hL
    have hnd := h.1
    have hin := h.inside
    have hxnd : x.bl.Nodup := by obtain ⟨_, _, _, _, _, _, _, h, _⟩ := hx; exact h
    have hxin := hx.inside
    have hr2 := h.fresh hf2
    simp only [rsBlocks, List.flatMap_append, List.nodup_cons, List.nodup_append, List.mem_append] at hnd
    obtain ⟨d1, d2, ⟨d3, d5, d7⟩, d8⟩ := hnd
    simp only [rsBlocks, List.flatMap_append, List.mem_cons, List.mem_append] at hap hin
    refine RefG.relist (a := a) hr2.2.2.1 (g1 ++ x :: g2) A2 c2 hf2 (by rw [hL]; exact ho2) (fun z hz => ?_) ?_ (fun b hb => ?_) _ rfl _ (fun b hb => ?_) hL
    · rcases List.mem_append.1 hz with hz | hz
      · exact hr2.2.2.2.2 z (by simp [hz])
      · rcases List.mem_cons.1 hz with rfl | hz
        · exact hx.keep fun b hb => hf2.block b (hxin b hb)
        · exact hr2.2.2.2.2 z (by simp [hz])
    · simp only [List.flatMap_append, List.flatMap_cons, List.nodup_cons, List.nodup_append, List.mem_append]
      refine ⟨?_, d3, ⟨hxnd, d5, fun b hb e he h => ?_⟩, fun b hb e he h => ?_⟩
      · rintro (h | h | h)
        · exact d1 (.inr (.inl h))
        · exact hap f h (.inl rfl)
        · exact d1 (.inr (.inr h))
      · subst h
        exact hap b hb (.inr (.inr (.inr he)))
      · subst h
        rcases he with h | h
        · exact hap b h (.inr (.inr (.inl hb)))
        · exact d7 b hb b h rfl
    · simp only [List.flatMap_append, List.flatMap_cons, List.mem_cons, List.mem_append] at hb
      rcases hb with h | h | h | h
      · exact hin b (.inl h)
      · exact hin b (.inr (.inr (.inl h)))
      · exact hxin b h
      · exact hin b (.inr (.inr (.inr h)))
    · simp only [rsBlocks, List.flatMap_append, List.flatMap_cons, List.mem_cons, List.mem_append] at hb ⊢
      rcases hb with h | h | h | h
      · exact .inr (.inl h)
      · exact .inr (.inr (.inr (.inl h)))
      · exact .inl h
      · exact .inr (.inr (.inr (.inr h)))
  clear h hN hK h1 h2 hx hap
  go_enter Try.func87, Try.ntmps87
  go_wp2
  go_loopw [4, 5, 6] (fun v d t wr => ∃ (k n' c' : Nat) (A' : Option Addr) (dn : Bool), k ≤ N ∧ n' ≤ k + 1 ∧ t = .int .i64 k ∧ d = .bool dn ∧ Hid (dn = decide (K < k)) ∧ v = .slice A' n' c' ∧ Hid ((outL g1 g2 x k).length = n') ∧ Own wr w.heap.size tPtr A' n' c' ((outL g1 g2 x k).map ptrOf) ∧ Fresh w wr) (fun _ _ t _ => N - (intOf t).toNat)
  case atStart => exact ⟨0, 0, 0, none, false, Nat.zero_le _, Nat.zero_le _, rfl, rfl, by show _ = _; simp, rfl, by show _ = _; simp [outL], by simpa [outL] using Own.nil w w.heap.size tPtr, Fresh.refl w⟩
  case round =>
    obtain ⟨k, n', c', A', dn, hk, hnk, rfl, rfl, hdn, rfl, hl, ho, hf⟩ := hrel
    have hr := H.out.fresh hf
    have h0r : wr.cell? ⟨f, 0, none⟩ = some (.slice A N c) := by rw [← HN.out]; exact hr.2.2.1.cell rfl
    have hxr : wr.cell? ⟨x.g, 0, none⟩ = some (.string x.name) := by obtain ⟨_, _, _, _, _, _, _, _, hb, _⟩ := HX.out; exact (hb.fresh hf).cell rfl
    by_cases hlt : k < N
    · obtain ⟨y, hy⟩ : ∃ y, (g1 ++ g2)[k]? = some y := ⟨_, List.getElem?_eq_getElem (by rw [HN.out]; exact hlt)⟩
      obtain ⟨b, off, rfl, hc⟩ := hr.elem hy
      have hyn := hr.name (List.mem_of_getElem? hy)
      have HC : Hid (∀ w2, Fresh w w2 → w2.cell? ⟨b, off + k, none⟩ = some (.pointer (some ⟨y.g, 0, none⟩))) := fun w2 hf2 => by
        obtain ⟨b2, off2, e, hc2⟩ := (H.out.fresh hf2).elem hy
        injection e with e
        injection e with e1 e2
        subst e1; subst e2
        exact hc2
      by_cases hkK : k < K
      · have hes := out_low (x := x) (by rw [HK.out]; exact hkK) hy
        have hless : Op.bytesLess x.name.toList y.name.toList = false := less_no (H1.out y (by rw [List.getElem?_append_left (by rw [HK.out]; exact hkK)] at hy; exact List.mem_of_getElem? hy))
        obtain rfl : dn = false := by have := hdn.out; rw [this]; simp; omega
        have HES := Lib.hid hes
        clear hes hy hr hdn
        go_wp2
        go_quiet (fail)
        go_wp2_with (at_builtin; (refine wpList_append_rd _ rfl _ _ 74 rfl w.heap.size 85 i0 _ 8 Try.underlying74 hi0 hz0 hz1 hz2 rfl A' n' c' _ rfl ((ho.fresh (Fresh.drewN wr _)).fresh (Fresh.alloc _ _)) (wr.heap.size + 1) (some ⟨wr.heap.size, 0, none⟩) 1 1 [ptrOf y] rfl (Rd.lit (wr.drewN _) #[ptrOf y] 85) (ptrs_one [y]) (by unfold maxLen; omega) (by omega) (by have := hf.size; simp; omega) ?_); intro A2 c2 w2 ho2 hg2)
        have hf2 : Fresh w w2 := (((hf.trans (Fresh.drewN wr nq)).trans (Fresh.alloc (wr.drewN nq) _)).append ((ho.fresh (Fresh.drewN wr nq)).fresh (Fresh.alloc _ _)) (Nat.le_refl _) hg2)
        go_roundw
        case rel =>
          refine ⟨k + 1, n' + 1, c2, A2, false, by omega, by omega, by go_num, rfl, by show _ = _; simp; omega, rfl, ?_, ?_, hf2⟩
          · show _ = _
            rw [HES.out, List.length_append, hl.out]; rfl
          · rw [HES.out, List.map_append]; exact ho2
        case measure => simp [intOf]; omega
      · by_cases hkE : k = K
        · subst hkE
          have hes := out_mid (x := x) HK.out.symm hy
          have hless : Op.bytesLess x.name.toList y.name.toList = true := less_yes (H2.out y (by rw [List.getElem?_append_right (by rw [HK.out]; exact Nat.le_refl _)] at hy; exact List.mem_of_getElem? hy))
          have hnk2 : n' ≤ k := by have := hl.out; unfold outL at this; rw [if_pos (by rw [HK.out]; exact Nat.le_refl _), List.length_take] at this; omega
          obtain rfl : dn = false := by have := hdn.out; rw [this]; simp
          have HES := Lib.hid hes
          clear hes hy hr hdn
          go_wp2
          go_quiet (fail)
          go_wp2_with (first
            | ((with_reducible (refine at_slot_ 38 ?_)); (refine wpList_append_rd _ rfl _ _ 74 rfl w.heap.size 85 i0 _ 8 Try.underlying74 hi0 hz0 hz1 hz2 rfl A' n' c' _ rfl ((ho.fresh (Fresh.drewN wr _)).fresh (Fresh.alloc _ _)) (wr.heap.size + 1) (some ⟨wr.heap.size, 0, none⟩) 1 1 [ptrOf x] rfl (Rd.lit (wr.drewN _) #[ptrOf x] 85) (ptrs_one [x]) (by unfold maxLen; omega) (by omega) (by have := hf.size; simp; omega) ?_); intro A2 c2 w2 ho2 hg2;
                have hf2 : Fresh w w2 := (((hf.trans (Fresh.drewN wr nq)).trans (Fresh.alloc (wr.drewN nq) _)).append ((ho.fresh (Fresh.drewN wr nq)).fresh (Fresh.alloc _ _)) (Nat.le_refl _) hg2);
                have hr2 := H.out.fresh hf2; have h02 : w2.cell? ⟨f, 0, none⟩ = some (.slice (some ⟨b, off, none⟩) N c) := (by rw [← HN.out]; exact hr2.2.2.1.cell rfl);
                have hc2 : w2.cell? ⟨b, off + k, none⟩ = some (.pointer (some ⟨y.g, 0, none⟩)) := HC.out w2 hf2)
            | ((with_reducible (refine at_slot_ 48 ?_)); (refine wpList_append_rd _ rfl _ _ 74 rfl w.heap.size 85 i0 _ 8 Try.underlying74 hi0 hz0 hz1 hz2 rfl A2 (n' + 1) c2 _ rfl (ho2.fresh (Fresh.alloc _ _)) (w2.heap.size + 1) (some ⟨w2.heap.size, 0, none⟩) 1 1 [ptrOf y] rfl (Rd.lit w2 #[ptrOf y] 85) (ptrs_one [y]) (by unfold maxLen; omega) (by omega) (by have := hf2.size; simp; omega) ?_); intro A3 c3 w3 ho3 hg3))
          have hf3 : Fresh w w3 := (hf2.trans (Fresh.alloc w2 _)).append (ho2.fresh (Fresh.alloc w2 _)) (Nat.le_refl _) hg3
          go_roundw
          case rel =>
            refine ⟨k + 1, n' + 1 + 1, c3, A3, true, by omega, by omega, by go_num, rfl, by show _ = _; simp, rfl, ?_, ?_, hf3⟩
            · show _ = _
              rw [HES.out, List.length_append, List.length_append, hl.out]; rfl
            · rw [HES.out, List.map_append, List.map_append]; exact ho3
          case measure => simp [intOf]; omega
        · have hes := out_high (x := x) (by rw [HK.out]; omega) hy
          obtain rfl : dn = true := by have := hdn.out; rw [this]; simp; omega
          have HES := Lib.hid hes
          clear hes hy hr hdn
          go_wp2
          go_quiet (fail)
          go_wp2_with (at_builtin; (refine wpList_append_rd _ rfl _ _ 74 rfl w.heap.size 85 i0 _ 8 Try.underlying74 hi0 hz0 hz1 hz2 rfl A' n' c' _ rfl ((ho.fresh (Fresh.drewN wr _)).fresh (Fresh.alloc _ _)) (wr.heap.size + 1) (some ⟨wr.heap.size, 0, none⟩) 1 1 [ptrOf y] rfl (Rd.lit (wr.drewN _) #[ptrOf y] 85) (ptrs_one [y]) (by unfold maxLen; omega) (by omega) (by have := hf.size; simp; omega) ?_); intro A2 c2 w2 ho2 hg2)
          have hf2 : Fresh w w2 := (((hf.trans (Fresh.drewN wr nq)).trans (Fresh.alloc (wr.drewN nq) _)).append ((ho.fresh (Fresh.drewN wr nq)).fresh (Fresh.alloc _ _)) (Nat.le_refl _) hg2)
          go_roundw
          case rel =>
            refine ⟨k + 1, n' + 1, c2, A2, true, by omega, by omega, by go_num, rfl, by show _ = _; simp; omega, rfl, ?_, ?_, hf2⟩
            · show _ = _
              rw [HES.out, List.length_append, hl.out]; rfl
            · rw [HES.out, List.map_append]; exact ho2
          case measure => simp [intOf]; omega
    · have hkN : k = N := by omega
      subst hkN
      have hfz := hr.2.2.1.free 0
      have hlg : g1.length + g2.length = k := by rw [← List.length_append]; exact HN.out
      by_cases hKE : K = k
      · have hg2 : g2 = [] := List.eq_nil_of_length_eq_zero (by have := HK.out; omega)
        have hout : outL g1 g2 x k = g1 := by unfold outL; rw [if_pos (by rw [HK.out]; omega), List.take_of_length_le (by rw [HK.out]; omega)]
        rw [hout] at ho
        have hln : g1.length = n' := by have := hl.out; rw [hout] at this; exact this
        obtain rfl : dn = false := by have := hdn.out; rw [this, hKE]; simp
        have HL := Lib.hid (show (g1 ++ x :: g2).length = n' + 1 by rw [hg2, List.length_append, hln]; rfl)
        have HG2 := Lib.hid (show (g1 ++ x :: g2).map ptrOf = g1.map ptrOf ++ [ptrOf x] by rw [hg2, List.map_append]; rfl)
        clear hr hdn hl hout hln hlg hg2
        go_wp2_with (at_builtin; (refine wpList_append_rd _ rfl _ _ 74 rfl w.heap.size 85 i0 _ 8 Try.underlying74 hi0 hz0 hz1 hz2 rfl A' n' c' _ rfl (ho.fresh (Fresh.alloc wr _)) (wr.heap.size + 1) (some ⟨wr.heap.size, 0, none⟩) 1 1 [ptrOf x] rfl (Rd.lit wr #[ptrOf x] 85) (ptrs_one [x]) (by unfold maxLen; omega) (by omega) (by have := hf.size; simp; omega) ?_); intro A2 c2 w2 ho2 hg2; have hf2 : Fresh w w2 := ((hf.trans (Fresh.alloc wr _)).append (ho.fresh (Fresh.alloc wr _)) (Nat.le_refl _) hg2); have hr2 := H.out.fresh hf2; have h02 : w2.cell? ⟨f, 0, none⟩ = some (.slice A k c) := (by rw [← HN.out]; exact hr2.2.2.1.cell rfl); have hfz2 := hr2.2.2.1.free 0; clear hr2)
        go_end0
        exact ⟨rfl, A2, c2, FIN.out w2 A2 c2 (n' + 1) hf2 (by rw [HG2.out]; exact ho2) HL.out⟩
      · have hout : outL g1 g2 x k = g1 ++ x :: g2 := by unfold outL; rw [if_neg (by rw [HK.out]; omega), List.take_of_length_le (by have := HK.out; omega)]
        rw [hout] at ho
        have HL := Lib.hid (show (g1 ++ x :: g2).length = n' by have := hl.out; rw [hout] at this; exact this)
        obtain rfl : dn = true := by have := hdn.out; rw [this]; simp; omega
        have HO := Lib.hid ho
        clear hr hdn hl hout hlg ho
        go_wp2
        go_end0
        exact ⟨rfl, A', c', FIN.out wr A' c' n' hf HO.out HL.out⟩
end Go.Proofs.Ytelghdfikcodmaa.vref
