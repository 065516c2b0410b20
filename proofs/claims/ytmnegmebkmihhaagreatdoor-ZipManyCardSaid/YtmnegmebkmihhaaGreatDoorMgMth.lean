import Derived.Test.YtmnegmebkmihhaaGreatDoorMgNum
import Derived.Test.YtmnegmebkmihhaaGreatDoorMgNam
import Derived.Test.YtmnegmebkmihhaaGreatDoorMgDnm
/- Several of my own texts, one behind the other. -/
/-
  Archives as they are read: heads one behind the other, entries: plain mathematics. My own text.
-/
namespace Go.Proofs.YtmnegmebkmihhaaGreatDoor.unz
open Go.RowKit Go.Proofs.YtmnegmebkmihhaaGreatDoor.base Go.Proofs.YtmnegmebkmihhaaGreatDoor.nam Go.Proofs.YtmnegmebkmihhaaGreatDoor.namp Go.Proofs.YtmnegmebkmihhaaGreatDoor.recn
set_option linter.unusedVariables false

theorem and_two (f k : Nat) : f &&& 2 ^ k = if f / 2 ^ k % 2 = 1 then 2 ^ k else 0 := by
  refine Nat.eq_of_testBit_eq fun i => ?_
  rw [Nat.testBit_and, Nat.testBit_two_pow]
  have h := Nat.testBit_eq_decide_div_mod_eq (x := f) (i := k)
  by_cases hk : k = i
  · subst hk
    rw [decide_eq_true rfl, Bool.and_true, h]
    split
    · rw [Nat.testBit_two_pow, decide_eq_true rfl, decide_eq_true ‹_›]
    · rw [Nat.zero_testBit, decide_eq_false ‹_›]
  · rw [decide_eq_false hk, Bool.and_false]
    split
    · rw [Nat.testBit_two_pow, decide_eq_false hk]
    · rw [Nat.zero_testBit]
/-- a bit of flags -/
theorem and_pow (f k : Nat) (hf : f < 65536) (hk : k ≤ 15) : bits .and .i64 (f : Int) ((2 ^ k : Nat) : Int) = if f / 2 ^ k % 2 = 1 then ((2 ^ k : Nat) : Int) else 0 := by
  have hp : 1 ≤ 2 ^ k ∧ 2 ^ k ≤ 32768 := ⟨Nat.pow_pos (by omega), by have := Nat.pow_le_pow_right (n := 2) (by omega) hk; simpa using this⟩
  have h1 : (BitVec.ofInt 64 (f : Int)).toNat = f := by rw [BitVec.toNat_ofInt]; omega
  have h2 : (BitVec.ofInt 64 ((2 ^ k : Nat) : Int)).toNat = 2 ^ k := by rw [BitVec.toNat_ofInt]; omega
  show IntKind.i64.wrap ((BitVec.ofInt 64 (f : Int) &&& BitVec.ofInt 64 ((2 ^ k : Nat) : Int)).toNat : Int) = _
  rw [BitVec.toNat_and, h1, h2, and_two, IntKind.wrap_i64]
  by_cases h : f / 2 ^ k % 2 = 1
  · rw [if_pos h, if_pos h]; omega
  · rw [if_neg h, if_neg h]; omega
theorem and_2048 (f : Nat) (hf : f ≤ 65535) : (bits .and .i64 (f : Int) 2048 != 0) = (f / 2048 % 2 == 1) := by
  have h : bits .and .i64 (f : Int) 2048 = _ := and_pow f 11 (by omega) (by omega)
  rw [h]
  by_cases h : f / 2048 % 2 = 1 <;> simp [h]
theorem and_8 (f : Nat) (hf : f ≤ 65535) : (bits .and .i64 (f : Int) 8 != 0) = (f / 8 % 2 == 1) := by
  have h : bits .and .i64 (f : Int) 8 = _ := and_pow f 3 (by omega) (by omega)
  rw [h]
  by_cases h : f / 8 % 2 = 1 <;> simp [h]
theorem and_1 (f : Nat) (hf : f ≤ 65535) : (bits .and .i64 (f : Int) 1 != 0) = (f % 2 == 1) := by
  have h : bits .and .i64 (f : Int) 1 = _ := and_pow f 0 (by omega) (by omega)
  rw [h, Nat.pow_zero, Nat.div_one]
  by_cases h : f % 2 = 1 <;> simp [h]

/-- a name's text, if its bytes are one -/
def decL (told : Bool) (bs : List UInt8) : Option (List UInt8) := if told then (if Lib.validD bs = true then some bs else none) else some (tx (pgs bs))
/-- may a text be an entry's name? -/
def mayL (L : List UInt8) : Bool := decide (1 ≤ L.length) && (decide (L.length ≤ 40) && (Lib.validD L && L.all fun b => decide (32 ≤ b.toNat) && decide (b.toNat ≠ 127)))
theorem en_ok {r : Nat} (h : Rn r) : (en r).all (fun b => decide (32 ≤ b.toNat) && decide (b.toNat ≠ 127)) = (decide (32 ≤ r) && decide (r ≠ 127)) := by
  have hle := h.le
  unfold en
  by_cases h1 : r < 128
  · rw [if_pos h1]
    simp only [List.all_cons, List.all_nil, Bool.and_true, nat_u8 r (by omega)]
  rw [if_neg h1]
  have e : (decide (32 ≤ r) && decide (r ≠ 127)) = true := by simp; omega
  rw [e]
  by_cases h2 : r < 2048
  · rw [if_pos h2]
    simp only [List.all_cons, List.all_nil, Bool.and_true, nat_u8 (192 + r / 64) (by omega), nat_u8 (128 + r % 64) (by omega)]
    simp; omega
  rw [if_neg h2]
  by_cases h3 : r < 65536
  · rw [if_pos h3]
    simp only [List.all_cons, List.all_nil, Bool.and_true, nat_u8 (224 + r / 4096) (by omega), nat_u8 (128 + r / 64 % 64) (by omega), nat_u8 (128 + r % 64) (by omega)]
    simp; omega
  · rw [if_neg h3]
    simp only [List.all_cons, List.all_nil, Bool.and_true, nat_u8 (240 + r / 262144) (by omega), nat_u8 (128 + r / 4096 % 64) (by omega), nat_u8 (128 + r / 64 % 64) (by omega), nat_u8 (128 + r % 64) (by omega)]
    simp; omega
theorem tx_ok (rs : List Nat) (h : ∀ r ∈ rs, Rn r) : (tx rs).all (fun b => decide (32 ≤ b.toNat) && decide (b.toNat ≠ 127)) = rs.all fun r => decide (32 ≤ r) && decide (r ≠ 127) := by
  induction rs with
  | nil => rfl
  | cons r rs ih => rw [tx_cons, List.all_append, en_ok (h r (by simp)), ih fun q hq => h q (by simp [hq]), List.all_cons]
theorem decL_len (told : Bool) (bs L : List UInt8) (h : decL told bs = some L) : L.length ≤ 4 * bs.length := by
  unfold decL at h
  split at h
  · split at h
    · injection h with h; subst h; omega
    · cases h
  · injection h with h
    subst h
    have := tx_len (pgs bs)
    rw [List.length_map] at this
    exact this

/-- an entry -/
structure Fe where
  nm : List UInt8
  me : Nat
  dt : Nat
  cr : Nat
  cs : Nat
  si : Nat
  at_ : Nat
/-- many heads one behind the other, from a place on, and where they end -/
def heads (xs : List UInt8) : Nat → Nat → Except Nat (List Hd × Nat)
  | 0, p => .ok ([], p)
  | k + 1, p => match cen xs (p : Nat) with
    | .error e => .error e
    | .ok x => match heads xs k x.2 with
      | .error e => .error e
      | .ok y => .ok (x.1 :: y.1, y.2)
/-- where the data of a central head begin -/
def dat (xs : List UInt8) (h : Hd) : Except Nat Nat := match loc xs (h.at_ : Nat) with
  | .error k => .error k
  | .ok x =>
    if !(decide (x.1.nm = h.nm)) || !(decide (x.1.me = h.me)) then .error 4
    else if (x.1.fl / 8 % 2 == 0) && (!(decide (x.1.cr = h.cr)) || (!(decide (x.1.cs = h.cs)) || !(decide (x.1.si = h.si)))) then .error 4
    else .ok x.2
/-- the entry of a central head, behind others -/
def ent (xs : List UInt8) (h : Hd) (en : Nat) (ahead : List (List UInt8)) : Except Nat Fe := match decL (h.fl / 2048 % 2 == 1) h.nm with
  | none => .error 4
  | some t =>
    if mayL t = false then .error 4
    else if t ∈ ahead then .error 7
    else if (h.fl % 2 == 1) || (!(h.me == 0) && !(h.me == 8)) then .error 13
    else match dat xs h with
    | .error k => .error k
    | .ok a =>
      if en < a + h.cs then .error 3
      else if (h.me == 0) && !(h.cs == h.si) then .error 14
      else .ok ⟨t, h.me, h.dt, h.cr, h.cs, h.si, a⟩
def ents (xs : List UInt8) (en : Nat) : List Hd → List Fe → Except Nat (List Fe)
  | [], l => .ok l
  | h :: r, l => match ent xs h en (l.map (·.nm)) with
    | .error k => .error k
    | .ok f => ents xs en r (l ++ [f])
/-- the heads that a tail tells of -/
def cens (xs : List UInt8) (t : Tl) : Except Nat (List Hd) :=
  if xs.length < t.at_ + t.long then .error 3
  else if 1000 < t.many then .error 17
  else match heads xs t.many t.at_ with
  | .error k => .error k
  | .ok y => if y.2 = t.at_ + t.long then .ok y.1 else .error 4
/-- an archive's entries -/
def opn (xs : List UInt8) : Except Nat (List Fe) := match find xs with
  | none => .error 4
  | some t => match cens xs t with
    | .error k => .error k
    | .ok hs => ents xs t.at_ hs []

theorem heads_bad {xs : List UInt8} {m p k : Nat} (h : cen xs (p : Nat) = .error k) : heads xs (m + 1) p = .error k := by rw [heads, h]
theorem heads_good {xs : List UInt8} {m p : Nat} {x : Hd × Nat} (h : cen xs (p : Nat) = .ok x) : heads xs (m + 1) p = match heads xs m x.2 with | .error e => .error e | .ok y => .ok (x.1 :: y.1, y.2) := by rw [heads, h]
/-- heads up to some, and those that follow -/
def Hup (xs : List UInt8) (M T m : Nat) (l : List Hd) (p : Nat) : Prop := heads xs M T = match heads xs m p with | .error e => .error e | .ok y => .ok (l ++ y.1, y.2)
theorem Hup.start (xs : List UInt8) (M T : Nat) : Hup xs M T M [] T := by
  unfold Hup
  cases heads xs M T with
  | error e => rfl
  | ok y => rfl
theorem Hup.bad {xs : List UInt8} {M T m p k : Nat} {l : List Hd} (h : Hup xs M T (m + 1) l p) (hk : cen xs (p : Nat) = .error k) : heads xs M T = .error k := by
  unfold Hup at h
  rw [h, heads_bad hk]
theorem Hup.next {xs : List UInt8} {M T m p : Nat} {l : List Hd} {x : Hd × Nat} (h : Hup xs M T (m + 1) l p) (hk : cen xs (p : Nat) = .ok x) : Hup xs M T m (l ++ [x.1]) x.2 := by
  unfold Hup at *
  rw [h, heads_good hk]
  cases heads xs m x.2 with
  | error e => rfl
  | ok y => simp
theorem Hup.done {xs : List UInt8} {M T p : Nat} {l : List Hd} (h : Hup xs M T 0 l p) : heads xs M T = .ok (l, p) := by
  unfold Hup at h
  rw [h, heads]
  simp
theorem ents_bad {xs : List UInt8} {en k : Nat} {h : Hd} {r : List Hd} {l : List Fe} (he : ent xs h en (l.map (·.nm)) = .error k) : ents xs en (h :: r) l = .error k := by rw [ents, he]
theorem ents_good {xs : List UInt8} {en : Nat} {h : Hd} {r : List Hd} {l : List Fe} {f : Fe} (he : ent xs h en (l.map (·.nm)) = .ok f) : ents xs en (h :: r) l = ents xs en r (l ++ [f]) := by rw [ents, he]

/-- what a central head's numbers are within -/
structure HdOk (h : Hd) (xs : List UInt8) : Prop where
  fl : h.fl ≤ 65535
  me : h.me ≤ 65535
  dt : h.dt ≤ 4294967295
  cr : h.cr ≤ 4294967295
  cs : h.cs < 281474976710656
  si : h.si < 281474976710656
  at_ : h.at_ < 281474976710656
  nm : h.nm.length ≤ 65535
theorem wd_bd : ∀ (l : List Nat) (t : List UInt8) (r : List Nat), (∀ n ∈ l, n ≤ 4294967295) → wd l t = some r → ∀ n ∈ r, n < 281474976710656
  | [], t, r, hl, h => by simp [wd] at h; subst h; simp
  | n :: l, t, r, hl, h => by
    rw [wd] at h
    split at h
    · split at h
      · cases h
      · split at h
        · cases h
        · obtain ⟨q, hq, rfl⟩ := Option.map_eq_some_iff.1 h
          intro m hm
          rcases List.mem_cons.1 hm with rfl | hm
          · omega
          · exact wd_bd l _ q (fun m hm => hl m (by simp [hm])) hq m hm
    · obtain ⟨q, hq, rfl⟩ := Option.map_eq_some_iff.1 h
      intro m hm
      rcases List.mem_cons.1 hm with rfl | hm
      · have := hl m (by simp); omega
      · exact wd_bd l _ q (fun m hm => hl m (by simp [hm])) hq m hm
theorem widn_bd {x : List UInt8} {l r : List Nat} (hl : ∀ n ∈ l, n ≤ 4294967295) (h : widn x l = some r) : ∀ n ∈ r, n < 281474976710656 := by
  unfold widn at h
  obtain ⟨t, _, h2⟩ := Option.bind_eq_some_iff.1 h
  exact wd_bd l t r hl h2
theorem cen_ok {xs : List UInt8} {p : Int} {x : Hd × Nat} (h : cen xs p = .ok x) : HdOk x.1 xs ∧ x.2 ≤ xs.length := by
  unfold cen at h
  split at h
  · cases h
  simp only at h
  split at h
  · cases h
  split at h
  · cases h
  split at h
  · cases h
  split at h
  · cases h
  split at h
  · rename_i s c a hw
    injection h with h
    subst h
    have hb := widn_bd (by
      intro n hn
      simp only [List.mem_cons, List.not_mem_nil, or_false] at hn
      rcases hn with rfl | rfl | rfl <;> exact nm4 _ _) hw
    have m2 := nm2 xs (p.toNat + 8)
    have m3 := nm2 xs (p.toNat + 10)
    have m4 := nm4 xs (p.toNat + 12)
    have m5 := nm4 xs (p.toNat + 16)
    have m6 := nm2 xs (p.toNat + 28)
    exact ⟨⟨m2, m3, m4, m5, hb c (by simp), hb s (by simp), hb a (by simp), Nat.le_trans (List.length_take_le _ _) m6⟩, by simp only; omega⟩
  · cases h
theorem loc_ok' {xs : List UInt8} {p : Int} {x : Hd × Nat} (h : loc xs p = .ok x) : (x.1.fl ≤ 65535 ∧ x.1.me ≤ 65535 ∧ x.1.cr ≤ 4294967295 ∧ x.1.cs < 281474976710656 ∧ x.1.si < 281474976710656 ∧ x.1.nm.length ≤ 65535) ∧ x.2 ≤ xs.length := by
  unfold loc at h
  split at h
  · cases h
  simp only at h
  split at h
  · cases h
  split at h
  · cases h
  split at h
  · cases h
  split at h
  · cases h
  split at h
  · rename_i s c hw
    injection h with h
    subst h
    have hb := widn_bd (by
      intro n hn
      simp only [List.mem_cons, List.not_mem_nil, or_false] at hn
      rcases hn with rfl | rfl <;> exact nm4 _ _) hw
    have m2 := nm2 xs (p.toNat + 6)
    have m3 := nm2 xs (p.toNat + 8)
    have m5 := nm4 xs (p.toNat + 14)
    have m6 := nm2 xs (p.toNat + 26)
    exact ⟨⟨m2, m3, m5, hb c (by simp), hb s (by simp), Nat.le_trans (List.length_take_le _ _) m6⟩, by simp only; omega⟩
  · cases h
theorem cen_err_ne {xs : List UInt8} {p : Int} {k : Nat} (h : cen xs p = .error k) : k ≠ 0 ∧ k ≤ 4 := by
  unfold cen at h
  split at h
  · injection h with h; omega
  simp only at h
  split at h
  · injection h with h; omega
  split at h
  · injection h with h; omega
  split at h
  · injection h with h; omega
  split at h
  · injection h with h; omega
  split at h
  · cases h
  · injection h with h; omega
theorem loc_err_ne {xs : List UInt8} {p : Int} {k : Nat} (h : loc xs p = .error k) : k ≠ 0 ∧ k ≤ 4 := by
  unfold loc at h
  split at h
  · injection h with h; omega
  simp only at h
  split at h
  · injection h with h; omega
  split at h
  · injection h with h; omega
  split at h
  · injection h with h; omega
  split at h
  · injection h with h; omega
  split at h
  · cases h
  · injection h with h; omega
theorem dat_err_ne {xs : List UInt8} {h : Hd} {k : Nat} (he : dat xs h = .error k) : k ≠ 0 ∧ k ≤ 17 := by
  unfold dat at he
  split at he
  · rename_i q hq; injection he with he; have := loc_err_ne hq; omega
  split at he
  · injection he with he; omega
  split at he
  · injection he with he; omega
  · cases he
theorem dat_ok {xs : List UInt8} {h : Hd} {a : Nat} (he : dat xs h = .ok a) : a ≤ xs.length := by
  unfold dat at he
  split at he
  · cases he
  rename_i x hx
  split at he
  · cases he
  split at he
  · cases he
  · injection he with he; subst he; exact (loc_ok' hx).2
theorem ent_err_ne {xs : List UInt8} {h : Hd} {en k : Nat} {l : List (List UInt8)} (he : ent xs h en l = .error k) : k ≠ 0 ∧ k ≤ 17 := by
  unfold ent at he
  split at he
  · injection he with he; omega
  split at he
  · injection he with he; omega
  split at he
  · injection he with he; omega
  split at he
  · injection he with he; omega
  split at he
  · rename_i q hq; injection he with he; have := dat_err_ne hq; omega
  split at he
  · injection he with he; omega
  split at he
  · injection he with he; omega
  · cases he
theorem heads_err_ne {xs : List UInt8} : ∀ {m p k : Nat}, heads xs m p = .error k → k ≠ 0 ∧ k ≤ 4
  | 0, p, k, h => by rw [heads] at h; cases h
  | m + 1, p, k, h => by
    rw [heads] at h
    split at h
    · rename_i q hq; injection h with h; subst h; exact cen_err_ne hq
    split at h
    · rename_i q hq; injection h with h; subst h; exact heads_err_ne hq
    · cases h
theorem cens_err_ne {xs : List UInt8} {t : Tl} {k : Nat} (h : cens xs t = .error k) : k ≠ 0 ∧ k ≤ 17 := by
  unfold cens at h
  split at h
  · injection h with h; omega
  split at h
  · injection h with h; omega
  split at h
  · rename_i q hq; injection h with h; have := heads_err_ne hq; omega
  split at h
  · cases h
  · injection h with h; omega
/-- an entry's numbers are those of its head, within what it may be -/
theorem ent_ok {xs : List UInt8} {h : Hd} {en : Nat} {l : List (List UInt8)} {f : Fe} (he : ent xs h en l = .ok f) : f.nm ∉ l ∧ f.nm.length ≤ 40 ∧ f.me = h.me ∧ f.cr = h.cr ∧ f.cs = h.cs ∧ f.si = h.si ∧ f.dt = h.dt ∧ f.at_ ≤ xs.length := by
  unfold ent at he
  split at he
  · cases he
  rename_i t ht
  split at he
  · cases he
  rename_i hm
  split at he
  · cases he
  rename_i hn
  split at he
  · cases he
  split at he
  · cases he
  rename_i a ha
  split at he
  · cases he
  split at he
  · cases he
  injection he with he
  subst he
  refine ⟨hn, ?_, rfl, rfl, rfl, rfl, rfl, dat_ok ha⟩
  have : mayL t = true := by simpa using hm
  unfold mayL at this
  simp only [Bool.and_eq_true, decide_eq_true_eq] at this
  exact this.2.1
end Go.Proofs.YtmnegmebkmihhaaGreatDoor.unz
/-
  Archives as they are made of plain items: plain mathematics. My own text.
-/
namespace Go.Proofs.YtmnegmebkmihhaaGreatDoor.zipn
open Go.RowKit Go.Proofs.YtmnegmebkmihhaaGreatDoor.base Go.Proofs.YtmnegmebkmihhaaGreatDoor.num Go.Proofs.YtmnegmebkmihhaaGreatDoor.recn Go.Proofs.YtmnegmebkmihhaaGreatDoor.nam Go.Proofs.YtmnegmebkmihhaaGreatDoor.namp
set_option linter.unusedVariables false
/-- a plain item: its name's runes, its moment, its data -/
structure Pl where
  rs : List Nat
  dt : Nat
  bs : List UInt8
/-- may it be? -/
structure Pl.Ok (x : Pl) : Prop where
  rn : ∀ r ∈ x.rs, Rn r
  may : mayP x.rs [] = true
  mom : dosnum.Right (dosnum.parts (x.dt : Nat))
  len : x.bs.length ≤ 65536
def fl (x : Pl) : Nat := if encT x.rs [] then 2048 else 0
/-- its head, at a place -/
def hd (x : Pl) (a : Nat) : Hd := ⟨fl x, 0, x.dt, crcnum.sum x.bs, x.bs.length, x.bs.length, a, encB x.rs [], false⟩
/-- what is ahead of the central heads, and these -/
def step (st : List UInt8 × List UInt8) (x : Pl) : List UInt8 × List UInt8 := (st.1 ++ locB (hd x st.1.length) ++ x.bs, st.2 ++ cenB (hd x st.1.length))
def made (l : List Pl) : List UInt8 × List UInt8 := l.foldl step ([], [])
def arc (l : List Pl) : List UInt8 := (made l).1 ++ (made l).2 ++ endP ⟨l.length, (made l).2.length, (made l).1.length, false⟩
theorem made_snoc (l : List Pl) (x : Pl) : made (l ++ [x]) = step (made l) x := by unfold made; rw [List.foldl_append]; rfl
theorem fl_lt (x : Pl) : fl x < 65536 := by unfold fl; split <;> omega
theorem fl_des (x : Pl) (a : Nat) : des (hd x a) = false := by
  show (fl x / 8 % 2 == 1) = false
  unfold fl; split <;> rfl
theorem enc_le (x : Pl) (h : x.Ok) : (encB x.rs []).length ≤ 40 := by
  have hm := h.may
  unfold mayP at hm
  rw [List.append_nil] at hm
  simp only [Bool.and_eq_true, decide_eq_true_eq] at hm
  have := tx_le x.rs
  unfold encB
  split
  · rw [List.length_map]; omega
  · rw [List.append_nil]; omega
theorem dt_lt (x : Pl) (h : x.Ok) : x.dt < 4294967296 := by have := (dosnum.parts_bd h.mom).2; omega
theorem hd_rgt (x : Pl) (h : x.Ok) (a : Nat) (ha : a < 4294967295) : Rgt (hd x a) where
  fl := fl_lt x
  me := by show 0 < 65536; omega
  nm := by have := enc_le x h; show (encB x.rs []).length < 65536; omega
  dt := dt_lt x h
  cr := crcnum.sum_lt x.bs
  cs := by have := h.len; show x.bs.length < 4294967295; omega
  si := by have := h.len; show x.bs.length < 4294967295; omega
  at_ := ha
theorem step_len (st : List UInt8 × List UInt8) (x : Pl) : (step st x).1.length = st.1.length + (30 + (encB x.rs []).length) + x.bs.length ∧ (step st x).2.length = st.2.length + (46 + (encB x.rs []).length) := by
  unfold step
  have h1 := locB_len (h := hd x st.1.length) rfl
  have h2 := cenB_len (h := hd x st.1.length) rfl
  have h3 : (hd x st.1.length).nm = encB x.rs [] := rfl
  rw [h3] at h1 h2
  simp only [List.length_append, h1, h2]
  exact ⟨trivial, trivial⟩
theorem made_len (l : List Pl) : (made l).1.length = (l.map fun x => 30 + (encB x.rs []).length + x.bs.length).sum ∧ (made l).2.length = (l.map fun x => 46 + (encB x.rs []).length).sum := by
  suffices h : ∀ st : List UInt8 × List UInt8, (l.foldl step st).1.length = st.1.length + (l.map fun x => 30 + (encB x.rs []).length + x.bs.length).sum ∧ (l.foldl step st).2.length = st.2.length + (l.map fun x => 46 + (encB x.rs []).length).sum by
    have := h ([], [])
    simp only [List.length_nil, Nat.zero_add] at this
    exact this
  induction l with
  | nil => intro st; simp
  | cons x r ih =>
    intro st
    obtain ⟨a, b⟩ := step_len st x
    obtain ⟨c, d⟩ := ih (step st x)
    rw [List.foldl_cons, List.map_cons, List.map_cons, List.sum_cons, List.sum_cons, c, d, a, b]
    omega
theorem sum_le (l : List Nat) (k : Nat) (h : ∀ x ∈ l, x ≤ k) : l.sum ≤ l.length * k := by
  induction l with
  | nil => simp
  | cons a r ih =>
    have h1 := h a (by simp)
    have h2 := ih fun x hx => h x (by simp [hx])
    rw [List.sum_cons, List.length_cons, Nat.succ_mul]
    omega
theorem made_bd (l : List Pl) (h : ∀ x ∈ l, x.Ok) : (made l).1.length ≤ l.length * 65606 ∧ (made l).2.length ≤ l.length * 86 := by
  obtain ⟨a, b⟩ := made_len l
  rw [a, b]
  constructor
  · have := sum_le (l.map fun x => 30 + (encB x.rs []).length + x.bs.length) 65606 (by
      intro y hy
      obtain ⟨x, hx, rfl⟩ := List.mem_map.1 hy
      have := enc_le x (h x hx)
      have := (h x hx).len
      omega)
    rwa [List.length_map] at this
  · have := sum_le (l.map fun x => 46 + (encB x.rs []).length) 86 (by
      intro y hy
      obtain ⟨x, hx, rfl⟩ := List.mem_map.1 hy
      have := enc_le x (h x hx)
      omega)
    rwa [List.length_map] at this
theorem arc_len (l : List Pl) : (arc l).length = (l.map fun x => 76 + x.bs.length + 2 * (encB x.rs []).length).sum + 22 := by
  unfold arc
  obtain ⟨a, b⟩ := made_len l
  rw [List.length_append, List.length_append, endP_len, a, b]
  have : ∀ l : List Pl, (l.map fun x => 30 + (encB x.rs []).length + x.bs.length).sum + (l.map fun x => 46 + (encB x.rs []).length).sum = (l.map fun x => 76 + x.bs.length + 2 * (encB x.rs []).length).sum := by
    intro l
    induction l with
    | nil => rfl
    | cons x r ih => simp only [List.map_cons, List.sum_cons]; omega
  rw [this]
end Go.Proofs.YtmnegmebkmihhaaGreatDoor.zipn
