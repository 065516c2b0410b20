/-
  Layer 9's plain mathematics: runes as bytes, the code page. No program in it. My own text.
-/
import Derived.Test.YtkkkjadfhimahaaDoorBase
import Derived.Lib.RuneBytes
import Derived.Lib.ValidU
import Derived.Lib.DecodeN
namespace Go.Proofs.YtkkkjadfhimahaaDoor.nam
open Go.Proofs.YtkkkjadfhimahaaDoor.base
set_option linter.unusedVariables false

/-- the runes that may be -/
def Rn (r : Nat) : Prop := r < 55296 ∨ (57344 ≤ r ∧ r ≤ 1114111)
theorem Rn.le {r : Nat} (h : Rn r) : r ≤ 1114111 := by unfold Rn at h; omega
/-- how many bytes a number has -/
def wid (r : Nat) : Nat := if r < 128 then 1 else if r < 2048 then 2 else if r < 65536 then 3 else 4
/-- its bytes -/
def en (r : Nat) : List UInt8 :=
  if r < 128 then [UInt8.ofNat r]
  else if r < 2048 then [UInt8.ofNat (192 + r / 64), UInt8.ofNat (128 + r % 64)]
  else if r < 65536 then [UInt8.ofNat (224 + r / 4096), UInt8.ofNat (128 + r / 64 % 64), UInt8.ofNat (128 + r % 64)]
  else [UInt8.ofNat (240 + r / 262144), UInt8.ofNat (128 + r / 4096 % 64), UInt8.ofNat (128 + r / 64 % 64), UInt8.ofNat (128 + r % 64)]
theorem en_len (r : Nat) : (en r).length = wid r := by unfold en wid; repeat' split
                                                       all_goals rfl
theorem wid_bd (r : Nat) : 1 ≤ wid r ∧ wid r ≤ 4 := by unfold wid; repeat' split
                                                       all_goals omega
theorem en_ne (r : Nat) : en r ≠ [] := by
  intro h
  have := en_len r
  rw [h] at this
  have := wid_bd r
  simp at *
  omega
theorem nat_u8 (n : Nat) (h : n < 256) : (UInt8.ofNat n).toNat = n := by rw [UInt8.toNat_ofNat']; omega
theorem toN (z : Int) (n : Nat) (h : z = (n : Int)) : z.toNat.toUInt8 = UInt8.ofNat n := by subst h; rw [Int.toNat_natCast]
theorem en_rune {r : Nat} (h : Rn r) : Lib.encodeRune (r : Int) = en r := by
  unfold Lib.encodeRune en
  by_cases h1 : r < 128
  · rw [Lib.encodeRuneZ_one (by omega) (by omega), if_pos h1]
    simp only [List.map_cons, List.map_nil, Int.toNat_natCast]
  rw [if_neg h1]
  by_cases h2 : r < 2048
  · rw [Lib.encodeRuneZ_two (by omega) (by omega), if_pos h2]
    simp only [List.map_cons, List.map_nil]
    rw [toN _ (192 + r / 64) (by omega), toN _ (128 + r % 64) (by omega)]
  rw [if_neg h2]
  by_cases h3 : r < 65536
  · rw [Lib.encodeRuneZ_three (by unfold Rn at h; omega), if_pos h3]
    simp only [List.map_cons, List.map_nil]
    rw [toN _ (224 + r / 4096) (by omega), toN _ (128 + r / 64 % 64) (by omega), toN _ (128 + r % 64) (by omega)]
  · rw [Lib.encodeRuneZ_four (by omega) (by have := h.le; omega), if_neg h3]
    simp only [List.map_cons, List.map_nil]
    rw [toN _ (240 + r / 262144) (by omega), toN _ (128 + r / 4096 % 64) (by omega), toN _ (128 + r / 64 % 64) (by omega), toN _ (128 + r % 64) (by omega)]

/-- the rune at a text's head, and how many bytes it has: (65533, 1) where there is none -/
def dcd (t : List UInt8) : Nat × Nat := Lib.decodeN t.length (t.getD 0 0).toNat (t.getD 1 0).toNat (t.getD 2 0).toNat (t.getD 3 0).toNat
theorem get_drop (s : ByteArray) (pos k : Nat) : s.get! (pos + k) = (s.data.toList.drop pos).getD k 0 := by
  rw [List.getD_eq_getElem?_getD, List.getElem?_drop, Array.getElem?_toList]
  show s.data[pos + k]! = _
  rw [getElem!_def]
  cases s.data[pos + k]? <;> rfl
theorem decode_drop (s : ByteArray) (pos : Nat) : Utf8.decode s pos = dcd (s.data.toList.drop pos) := by
  rw [Lib.decode_at, dcd, List.length_drop, ← get_drop, ← get_drop, ← get_drop, ← get_drop]
  have : s.data.toList.length = s.size := Array.length_toList
  rw [this]
  rfl
theorem decodeL_is (t : List UInt8) : Lib.decodeL t = dcd t := by
  rw [Lib.decodeL, decode_drop]; rfl
theorem dcd_good {r : Nat} (h : Rn r) (t : List UInt8) : dcd (en r ++ t) = (r, wid r) := by
  unfold dcd en wid Rn at *
  by_cases h1 : r < 128
  · rw [if_pos h1, if_pos h1]
    simp only [List.cons_append, List.nil_append, List.getD_cons_zero, List.getD_cons_succ, List.length_cons]
    rw [nat_u8 r (by omega)]
    unfold Lib.decodeN
    rw [if_pos h1]
  rw [if_neg h1, if_neg h1]
  by_cases h2 : r < 2048
  · rw [if_pos h2, if_pos h2]
    simp only [List.cons_append, List.nil_append, List.getD_cons_zero, List.getD_cons_succ, List.length_cons]
    rw [nat_u8 _ (show 192 + r / 64 < 256 by omega), nat_u8 _ (show 128 + r % 64 < 256 by omega)]
    unfold Lib.decodeN
    rw [if_neg (by omega), if_pos (by omega), if_pos (by omega)]
    congr 1
    omega
  rw [if_neg h2, if_neg h2]
  by_cases h3 : r < 65536
  · rw [if_pos h3, if_pos h3]
    simp only [List.cons_append, List.nil_append, List.getD_cons_zero, List.getD_cons_succ, List.length_cons]
    rw [nat_u8 _ (show 224 + r / 4096 < 256 by omega), nat_u8 _ (show 128 + r / 64 % 64 < 256 by omega), nat_u8 _ (show 128 + r % 64 < 256 by omega)]
    have e : (224 + r / 4096) % 16 * 4096 + (128 + r / 64 % 64) % 64 * 64 + (128 + r % 64) % 64 = r := by omega
    unfold Lib.decodeN
    rw [e, if_neg (by omega), if_neg (by omega), if_pos (by omega), if_pos (by omega)]
  · rw [if_neg h3, if_neg h3]
    simp only [List.cons_append, List.nil_append, List.getD_cons_zero, List.getD_cons_succ, List.length_cons]
    rw [nat_u8 _ (show 240 + r / 262144 < 256 by omega), nat_u8 _ (show 128 + r / 4096 % 64 < 256 by omega), nat_u8 _ (show 128 + r / 64 % 64 < 256 by omega), nat_u8 _ (show 128 + r % 64 < 256 by omega)]
    have e : (240 + r / 262144) % 8 * 262144 + (128 + r / 4096 % 64) % 64 * 4096 + (128 + r / 64 % 64) % 64 * 64 + (128 + r % 64) % 64 = r := by omega
    unfold Lib.decodeN
    rw [e, if_neg (by omega), if_neg (by omega), if_neg (by omega), if_pos (by omega), if_pos (by omega)]
theorem wid_err : wid 65533 = 3 := by decide
theorem dcd_ok {r : Nat} (h : Rn r) (t : List UInt8) : dcd (en r ++ t) ≠ (65533, 1) := by
  rw [dcd_good h]
  intro e
  injection e with e1 e2
  subst e1
  rw [wid_err] at e2
  omega
theorem u8_of (b : UInt8) (n : Nat) (h : b.toNat = n) : UInt8.ofNat n = b := by
  subst h
  exact UInt8.ofNat_toNat
theorem dcd_split (t : List UInt8) (hne : t ≠ []) : dcd t = (65533, 1) ∨ ∃ r t', Rn r ∧ t = en r ++ t' := by
  obtain ⟨b0, u, rfl⟩ : ∃ b u, t = b :: u := by cases t with
    | nil => exact absurd rfl hne
    | cons b u => exact ⟨b, u, rfl⟩
  have hb0 := b0.toNat_lt
  unfold dcd Lib.decodeN
  simp only [List.getD_cons_zero, List.getD_cons_succ, List.length_cons]
  by_cases h1 : b0.toNat < 128
  · refine Or.inr ⟨b0.toNat, u, Or.inl (by omega), ?_⟩
    rw [en, if_pos h1, UInt8.ofNat_toNat]
    rfl
  rw [if_neg h1]
  split
  · rename_i h
    obtain ⟨b1, v, rfl⟩ : ∃ b v, u = b :: v := by cases u with
      | nil => simp at h
      | cons b v => exact ⟨b, v, rfl⟩
    simp only [List.getD_cons_zero, List.length_cons] at h ⊢
    have hb1 := b1.toNat_lt
    split
    · rename_i h2
      refine Or.inr ⟨b0.toNat % 32 * 64 + b1.toNat % 64, v, Or.inl (by omega), ?_⟩
      rw [en, if_neg (by omega), if_pos (by omega), u8_of b0 _ (by omega), u8_of b1 _ (by omega)]
      rfl
    · exact Or.inl rfl
  split
  · rename_i h0 h
    obtain ⟨b1, v, rfl⟩ : ∃ b v, u = b :: v := by cases u with
      | nil => simp at h
      | cons b v => exact ⟨b, v, rfl⟩
    obtain ⟨b2, z, rfl⟩ : ∃ b z, v = b :: z := by cases v with
      | nil => simp at h
      | cons b v => exact ⟨b, v, rfl⟩
    simp only [List.getD_cons_zero, List.getD_cons_succ, List.length_cons] at h ⊢
    have hb1 := b1.toNat_lt
    have hb2 := b2.toNat_lt
    split
    · rename_i h2
      refine Or.inr ⟨b0.toNat % 16 * 4096 + b1.toNat % 64 * 64 + b2.toNat % 64, z, by unfold Rn; omega, ?_⟩
      rw [en, if_neg (by omega), if_neg (by omega), if_pos (by omega), u8_of b0 _ (by omega), u8_of b1 _ (by omega), u8_of b2 _ (by omega)]
      rfl
    · exact Or.inl rfl
  split
  · rename_i h0 h00 h
    obtain ⟨b1, v, rfl⟩ : ∃ b v, u = b :: v := by cases u with
      | nil => simp at h
      | cons b v => exact ⟨b, v, rfl⟩
    obtain ⟨b2, z, rfl⟩ : ∃ b z, v = b :: z := by cases v with
      | nil => simp at h
      | cons b v => exact ⟨b, v, rfl⟩
    obtain ⟨b3, y, rfl⟩ : ∃ b y, z = b :: y := by cases z with
      | nil => simp at h
      | cons b v => exact ⟨b, v, rfl⟩
    simp only [List.getD_cons_zero, List.getD_cons_succ, List.length_cons] at h ⊢
    have hb1 := b1.toNat_lt
    have hb2 := b2.toNat_lt
    have hb3 := b3.toNat_lt
    split
    · rename_i h2
      refine Or.inr ⟨b0.toNat % 8 * 262144 + b1.toNat % 64 * 4096 + b2.toNat % 64 * 64 + b3.toNat % 64, y, by unfold Rn; omega, ?_⟩
      rw [en, if_neg (by omega), if_neg (by omega), if_neg (by omega), u8_of b0 _ (by omega), u8_of b1 _ (by omega), u8_of b2 _ (by omega), u8_of b3 _ (by omega)]
      rfl
    · exact Or.inl rfl
  · exact Or.inl rfl

/-- what stands at the head is no rune -/
def Bad (t : List UInt8) : Prop := t ≠ [] ∧ dcd t = (65533, 1)
/-- runes as a text -/
abbrev tx (rs : List Nat) : List UInt8 := rs.flatMap en
theorem tx_cons (r : Nat) (rs : List Nat) : tx (r :: rs) = en r ++ tx rs := rfl
theorem tx_snoc (rs : List Nat) (r : Nat) : tx (rs ++ [r]) = tx rs ++ en r := by simp [tx]
theorem tx_append (rs qs : List Nat) : tx (rs ++ qs) = tx rs ++ tx qs := by simp [tx]
theorem tx_le (rs : List Nat) : rs.length ≤ (tx rs).length := by
  induction rs with
  | nil => simp
  | cons r rs ih => rw [tx_cons, List.length_append, List.length_cons, en_len]; have := wid_bd r; omega
theorem read_or (t : List UInt8) : ∃ rs u, (∀ r ∈ rs, Rn r) ∧ t = tx rs ++ u ∧ (u = [] ∨ Bad u) := by
  obtain ⟨n, hn⟩ : ∃ n, t.length ≤ n := ⟨_, Nat.le_refl _⟩
  induction n generalizing t with
  | zero =>
    have : t = [] := List.eq_nil_of_length_eq_zero (by omega)
    exact ⟨[], [], by simp, by simp [this], Or.inl rfl⟩
  | succ n ih =>
    by_cases ht : t = []
    · exact ⟨[], [], by simp, by simp [ht], Or.inl rfl⟩
    rcases dcd_split t ht with hb | ⟨r, t', hr, rfl⟩
    · exact ⟨[], t, by simp, by simp, Or.inr ⟨ht, hb⟩⟩
    · have hl : t'.length ≤ n := by
        rw [List.length_append, en_len] at hn
        have := wid_bd r
        omega
      obtain ⟨rs, u, h1, rfl, h3⟩ := ih t' hl
      exact ⟨r :: rs, u, by intro x hx; rcases List.mem_cons.1 hx with rfl | hx; exact hr; exact h1 x hx, by rw [tx_cons, List.append_assoc], h3⟩
/-- a text is read in one way -/
theorem read_uniq : ∀ (rs qs : List Nat) (u v : List UInt8), (∀ r ∈ rs, Rn r) → (∀ r ∈ qs, Rn r) → (u = [] ∨ Bad u) → (v = [] ∨ Bad v) → tx rs ++ u = tx qs ++ v → rs = qs ∧ u = v
  | [], [], u, v, _, _, _, _, h => ⟨rfl, by simpa using h⟩
  | [], q :: qs, u, v, _, hq, hu, _, h => by
    exfalso
    rw [tx_cons, List.append_assoc] at h
    simp only [tx, List.flatMap_nil, List.nil_append] at h
    rcases hu with rfl | hu
    · have := congrArg List.length h
      rw [List.length_append, en_len] at this
      have := wid_bd q
      simp at *
      omega
    · have := hu.2
      rw [h] at this
      exact dcd_ok (hq q (.head _)) _ this
  | r :: rs, [], u, v, hr, _, _, hv, h => by
    exfalso
    rw [tx_cons, List.append_assoc] at h
    simp only [tx, List.flatMap_nil, List.nil_append] at h
    rcases hv with rfl | hv
    · have := congrArg List.length h
      rw [List.length_append, en_len] at this
      have := wid_bd r
      simp at *
      omega
    · have := hv.2
      rw [← h] at this
      exact dcd_ok (hr r (.head _)) _ this
  | r :: rs, q :: qs, u, v, hr, hq, hu, hv, h => by
    rw [tx_cons, List.append_assoc, tx_cons, List.append_assoc] at h
    have hd := congrArg dcd h
    rw [dcd_good (hr r (.head _)), dcd_good (hq q (.head _))] at hd
    injection hd with hd _
    subst hd
    have := read_uniq rs qs u v (fun x hx => hr x (.tail _ hx)) (fun x hx => hq x (.tail _ hx)) hu hv (List.append_cancel_left h)
    exact ⟨by rw [this.1], this.2⟩
theorem validGo_tx : ∀ (rs : List Nat) (n : Nat) (u : List UInt8), (∀ r ∈ rs, Rn r) → (tx rs ++ u).length ≤ n → Lib.validGoD n (tx rs ++ u) = Lib.validGoD (n - rs.length) u
  | [], n, u, _, _ => by simp
  | r :: rs, 0, u, _, h => by
    exfalso
    rw [tx_cons, List.append_assoc, List.length_append, en_len] at h
    have := wid_bd r
    omega
  | r :: rs, n + 1, u, hr, h => by
    rw [tx_cons, List.append_assoc] at h ⊢
    rw [Lib.validGoD, if_neg (by simp [en_ne]), decodeL_is, dcd_good (hr r (.head _)), if_neg (fun e => dcd_ok (hr r (.head _)) [] (by rw [dcd_good (hr r (.head _))]; exact Prod.ext e.1 e.2))]
    have hd : (en r ++ (tx rs ++ u)).drop (r, wid r).2 = tx rs ++ u := by rw [← en_len r]; simp
    rw [hd, validGo_tx rs n u (fun x hx => hr x (.tail _ hx)) (by rw [List.length_append, en_len] at h; have := wid_bd r; omega)]
    congr 1
    simp
theorem valid_good (rs : List Nat) (h : ∀ r ∈ rs, Rn r) : Lib.validD (tx rs) = true := by
  have := validGo_tx rs (tx rs).length [] h (by simp)
  rw [List.append_nil] at this
  rw [Lib.validD, this]
  cases (tx rs).length - rs.length <;> simp [Lib.validGoD]
theorem valid_bad (rs : List Nat) (u : List UInt8) (h : ∀ r ∈ rs, Rn r) (hu : Bad u) : Lib.validD (tx rs ++ u) = false := by
  have := validGo_tx rs (tx rs ++ u).length u h (Nat.le_refl _)
  rw [Lib.validD, this]
  obtain ⟨m, hm⟩ : ∃ m, (tx rs ++ u).length - rs.length = m + 1 := by
    have h1 := tx_le rs
    have h2 : 0 < u.length := List.length_pos_iff.2 hu.1
    rw [List.length_append]
    exact ⟨(tx rs).length + u.length - rs.length - 1, by omega⟩
  rw [hm, Lib.validGoD, if_neg hu.1, decodeL_is, hu.2, if_pos ⟨rfl, rfl⟩]

/-! the code page -/
def upperL : List Nat := [199, 252, 233, 226, 228, 224, 229, 231, 234, 235, 232, 239, 238, 236, 196, 197, 201, 230, 198, 244, 246, 242, 251, 249, 255, 214, 220, 162, 163, 165, 8359, 402, 225, 237, 243, 250, 241, 209, 170, 186, 191, 8976, 172, 189, 188, 161, 171, 187, 9617, 9618, 9619, 9474, 9508, 9569, 9570, 9558, 9557, 9571, 9553, 9559, 9565, 9564, 9563, 9488, 9492, 9524, 9516, 9500, 9472, 9532, 9566, 9567, 9562, 9556, 9577, 9574, 9568, 9552, 9580, 9575, 9576, 9572, 9573, 9561, 9560, 9554, 9555, 9579, 9578, 9496, 9484, 9608, 9604, 9612, 9616, 9600, 945, 223, 915, 960, 931, 963, 181, 964, 934, 920, 937, 948, 8734, 966, 949, 8745, 8801, 177, 8805, 8804, 8992, 8993, 247, 8776, 176, 8729, 183, 8730, 8319, 178, 9632, 160]
def pageR (b : Nat) : Nat := if b < 128 then b else upperL.getD (b - 128) 0
/-- the byte whose rune r is -/
def pageB (r : Nat) : Option Nat := (List.range 256).find? (fun b => pageR b == r)
theorem upper_len : upperL.length = 128 := by decide +kernel
theorem pageR_rn (b : Fin 256) : pageR b < 55296 := by revert b; decide +kernel
theorem pageR_big (b : Fin 256) : (b : Nat) < 128 ∨ 128 ≤ pageR b := by revert b; decide +kernel
theorem pageB_R (b : Fin 256) : pageB (pageR b) = some (b : Nat) := by revert b; decide +kernel
theorem pageB_err : pageB 65533 = none := by decide +kernel
theorem pageB_some {r b : Nat} (h : pageB r = some b) : b < 256 ∧ pageR b = r := by
  have h1 := List.mem_of_find?_eq_some h
  have h2 := List.find?_some h
  exact ⟨List.mem_range.1 h1, by simpa using h2⟩
theorem pageB_none {r : Nat} (h : pageB r = none) : ∀ b, b < 256 → pageR b ≠ r := by
  intro b hb e
  have := List.find?_eq_none.1 h b (List.mem_range.2 hb)
  simp [e] at this
theorem pageR_inj {a b : Nat} (ha : a < 256) (hb : b < 256) (h : pageR a = pageR b) : a = b := by
  have h1 := pageB_R ⟨a, ha⟩
  have h2 := pageB_R ⟨b, hb⟩
  simp only at h1 h2
  rw [h] at h1
  exact Option.some.inj (h1.symm.trans h2)
theorem pageB_low {r : Nat} (h : r < 128) : pageB r = some r := by
  have := pageB_R ⟨r, by omega⟩
  simp only at this
  rwa [pageR, if_pos h] at this
end Go.Proofs.YtkkkjadfhimahaaDoor.nam
