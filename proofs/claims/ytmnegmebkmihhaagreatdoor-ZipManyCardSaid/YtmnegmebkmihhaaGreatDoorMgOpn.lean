import Derived.Test.YtmnegmebkmihhaaGreatDoorMgMth
/- Several of my own texts, one behind the other. -/
/-
  What is made of plain items is read: just these entries: plain mathematics. My own text.
-/
namespace Go.Proofs.YtmnegmebkmihhaaGreatDoor.zipn
open Go.RowKit Go.Proofs.YtmnegmebkmihhaaGreatDoor.base Go.Proofs.YtmnegmebkmihhaaGreatDoor.num Go.Proofs.YtmnegmebkmihhaaGreatDoor.recn Go.Proofs.YtmnegmebkmihhaaGreatDoor.nam Go.Proofs.YtmnegmebkmihhaaGreatDoor.namp Go.Proofs.YtmnegmebkmihhaaGreatDoor.unz
set_option linter.unusedVariables false
theorem win (pre Y post : List UInt8) (j k : Nat) (h : j + k ≤ Y.length) : ((pre ++ Y ++ post).drop (pre.length + j)).take k = (Y.drop j).take k := by
  rw [List.append_assoc, ← List.drop_drop, List.drop_left, List.drop_append_of_le_length (by omega), List.take_append_of_le_length (by rw [List.length_drop]; omega)]
theorem nm_win (pre Y post : List UInt8) (j k u : Nat) (h : j + k ≤ Y.length) (hu : u < 256 ^ k) (hy : (Y.drop j).take k = low k u) : nm (pre ++ Y ++ post) (pre.length + j) k = u := by
  unfold nm
  rw [win pre Y post j k h, hy, num_low, Nat.mod_eq_of_lt hu]
theorem sg_win (pre Y post : List UInt8) (j : Nat) (c d : UInt8) (h : j + 4 ≤ Y.length) (hy : (Y.drop j).take 4 = [80, 75, c, d]) : sg (pre ++ Y ++ post) (pre.length + j) c d = true := by
  unfold sg
  rw [win pre Y post j 4 h, hy]
  simp
theorem wd_none : ∀ (l : List Nat) (t : List UInt8), (∀ n ∈ l, n < 4294967295) → wd l t = some l
  | [], t, _ => rfl
  | n :: r, t, h => by
    have h1 := h n (by simp)
    rw [wd, if_neg (by omega), wd_none r t fun m hm => h m (by simp [hm])]
    rfl
theorem widn_none (x : List UInt8) (hx : x = []) (l : List Nat) (h : ∀ n ∈ l, n < 4294967295) : widn x l = some l := by
  subst hx
  unfold widn
  rw [items_nil]
  exact wd_none l [] h
theorem not_ones {n : Nat} (h : n < 4294967295) : isOnes n = false := by
  unfold isOnes; rw [beq_eq_false_iff_ne]; omega
set_option maxHeartbeats 2000000 in
theorem cen_at (pre post : List UInt8) (x : Pl) (hx : x.Ok) (a : Nat) (ha : a < 4294967295) :
    cen (pre ++ cenB (hd x a) ++ post) (pre.length : Nat) = .ok (hd x a, pre.length + (cenB (hd x a)).length) := by
  have hR := hd_rgt x hx a ha
  have hl : (cenB (hd x a)).length = 46 + (encB x.rs []).length := cenB_len rfl
  have he := enc_le x hx
  have hbl := hx.len
  have hcr : crcnum.sum x.bs < 4294967296 := hR.cr
  have hfl := fl_lt x
  have hdt := dt_lt x hx
  have hxl : (pre ++ cenB (hd x a) ++ post).length = pre.length + (46 + (encB x.rs []).length) + post.length := by rw [List.length_append, List.length_append, hl]
  have e0 : sg (pre ++ cenB (hd x a) ++ post) pre.length 1 2 = true := sg_win pre _ post 0 1 2 (by omega) rfl
  have e8 : nm (pre ++ cenB (hd x a) ++ post) (pre.length + 8) 2 = fl x := nm_win pre _ post 8 2 _ (by omega) (by omega) rfl
  have e10 : nm (pre ++ cenB (hd x a) ++ post) (pre.length + 10) 2 = 0 := nm_win pre _ post 10 2 _ (by omega) (by omega) rfl
  have e12 : nm (pre ++ cenB (hd x a) ++ post) (pre.length + 12) 4 = x.dt := nm_win pre _ post 12 4 _ (by omega) (by omega) rfl
  have e16 : nm (pre ++ cenB (hd x a) ++ post) (pre.length + 16) 4 = crcnum.sum x.bs := nm_win pre _ post 16 4 _ (by omega) (by omega) rfl
  have e20 : nm (pre ++ cenB (hd x a) ++ post) (pre.length + 20) 4 = x.bs.length := nm_win pre _ post 20 4 _ (by omega) (by omega) rfl
  have e24 : nm (pre ++ cenB (hd x a) ++ post) (pre.length + 24) 4 = x.bs.length := nm_win pre _ post 24 4 _ (by omega) (by omega) rfl
  have e28 : nm (pre ++ cenB (hd x a) ++ post) (pre.length + 28) 2 = (encB x.rs []).length := nm_win pre _ post 28 2 _ (by omega) (by omega) rfl
  have e30 : nm (pre ++ cenB (hd x a) ++ post) (pre.length + 30) 2 = 0 := nm_win pre _ post 30 2 _ (by omega) (by omega) rfl
  have e32 : nm (pre ++ cenB (hd x a) ++ post) (pre.length + 32) 2 = 0 := nm_win pre _ post 32 2 _ (by omega) (by omega) rfl
  have e42 : nm (pre ++ cenB (hd x a) ++ post) (pre.length + 42) 4 = a := nm_win pre _ post 42 4 _ (by omega) (by omega) rfl
  have en : ((pre ++ cenB (hd x a) ++ post).drop (pre.length + 46)).take (encB x.rs []).length = encB x.rs [] := by
    rw [win pre _ post 46 _ (by omega)]
    have : (cenB (hd x a)).drop 46 = encB x.rs [] ++ [] := rfl
    rw [this, List.append_nil, List.take_length]
  unfold cen
  rw [if_neg (by omega)]
  simp only [Int.toNat_natCast]
  rw [if_neg (by omega), e0, if_neg (by simp), if_neg (by omega), e28, e30, e32, if_neg (by omega), e20, e24, e42, List.take_zero, widn_none [] rfl _ (by
    intro n hn
    simp only [List.mem_cons, List.not_mem_nil, or_false] at hn
    rcases hn with rfl | rfl | rfl <;> omega)]
  simp only
  rw [e8, e10, e12, e16, en, not_ones (by omega), not_ones ha, hl, Nat.add_zero, Nat.add_zero, Nat.add_assoc]
  rfl
set_option maxHeartbeats 2000000 in
theorem loc_at (pre post : List UInt8) (x : Pl) (hx : x.Ok) (a : Nat) (ha : a < 4294967295) (hp : pre.length = a) :
    loc (pre ++ locB (hd x a) ++ post) (a : Nat) = .ok (hd x a, a + (locB (hd x a)).length) := by
  have hR := hd_rgt x hx a ha
  have hl : (locB (hd x a)).length = 30 + (encB x.rs []).length := locB_len rfl
  have he := enc_le x hx
  have hbl := hx.len
  have hcr : crcnum.sum x.bs < 4294967296 := hR.cr
  have hfl := fl_lt x
  have hdt := dt_lt x hx
  have hxl : (pre ++ locB (hd x a) ++ post).length = pre.length + (30 + (encB x.rs []).length) + post.length := by rw [List.length_append, List.length_append, hl]
  have htold : told (hd x a) = hd x a := told_no (fl_des x a)
  have hbody : locB (hd x a) = [80, 75, 3, 4] ++ low 2 20 ++ shd (hd x a) 0 ++ encB x.rs [] ++ [] := by
    unfold locB
    rw [htold]
    rfl
  have e0 : sg (pre ++ locB (hd x a) ++ post) pre.length 3 4 = true := sg_win pre _ post 0 3 4 (by omega) (by rw [hbody]; rfl)
  have e6 : nm (pre ++ locB (hd x a) ++ post) (pre.length + 6) 2 = fl x := nm_win pre _ post 6 2 _ (by omega) (by omega) (by rw [hbody]; rfl)
  have e8 : nm (pre ++ locB (hd x a) ++ post) (pre.length + 8) 2 = 0 := nm_win pre _ post 8 2 _ (by omega) (by omega) (by rw [hbody]; rfl)
  have e10 : nm (pre ++ locB (hd x a) ++ post) (pre.length + 10) 4 = x.dt := nm_win pre _ post 10 4 _ (by omega) (by omega) (by rw [hbody]; rfl)
  have e14 : nm (pre ++ locB (hd x a) ++ post) (pre.length + 14) 4 = crcnum.sum x.bs := nm_win pre _ post 14 4 _ (by omega) (by omega) (by rw [hbody]; rfl)
  have e18 : nm (pre ++ locB (hd x a) ++ post) (pre.length + 18) 4 = x.bs.length := nm_win pre _ post 18 4 _ (by omega) (by omega) (by rw [hbody]; rfl)
  have e22 : nm (pre ++ locB (hd x a) ++ post) (pre.length + 22) 4 = x.bs.length := nm_win pre _ post 22 4 _ (by omega) (by omega) (by rw [hbody]; rfl)
  have e26 : nm (pre ++ locB (hd x a) ++ post) (pre.length + 26) 2 = (encB x.rs []).length := nm_win pre _ post 26 2 _ (by omega) (by omega) (by rw [hbody]; rfl)
  have e28 : nm (pre ++ locB (hd x a) ++ post) (pre.length + 28) 2 = 0 := nm_win pre _ post 28 2 _ (by omega) (by omega) (by rw [hbody]; rfl)
  have en : ((pre ++ locB (hd x a) ++ post).drop (pre.length + 30)).take (encB x.rs []).length = encB x.rs [] := by
    rw [win pre _ post 30 _ (by omega), hbody]
    have : ([80, 75, 3, 4] ++ low 2 20 ++ shd (hd x a) 0 ++ encB x.rs [] ++ []).drop 30 = encB x.rs [] ++ [] := rfl
    rw [this, List.append_nil, List.take_length]
  rw [hp] at e0 e6 e8 e10 e14 e18 e22 e26 e28 en hxl
  unfold loc
  rw [if_neg (by omega)]
  simp only [Int.toNat_natCast]
  rw [if_neg (by omega), e0, if_neg (by simp), if_neg (by omega), e26, e28, if_neg (by omega), e18, e22, List.take_zero, widn_none [] rfl _ (by
    intro n hn
    simp only [List.mem_cons, List.not_mem_nil, or_false] at hn
    rcases hn with rfl | rfl <;> omega)]
  simp only
  rw [e6, e8, e10, e14, en, not_ones (by omega), hl, Nat.add_zero, Nat.add_assoc]
  rfl
end Go.Proofs.YtmnegmebkmihhaaGreatDoor.zipn
/-
  What is made of plain items is read: all of it: plain mathematics. My own text.
-/
namespace Go.Proofs.YtmnegmebkmihhaaGreatDoor.zipn
open Go.RowKit Go.Proofs.YtmnegmebkmihhaaGreatDoor.base Go.Proofs.YtmnegmebkmihhaaGreatDoor.num Go.Proofs.YtmnegmebkmihhaaGreatDoor.recn Go.Proofs.YtmnegmebkmihhaaGreatDoor.nam Go.Proofs.YtmnegmebkmihhaaGreatDoor.namp Go.Proofs.YtmnegmebkmihhaaGreatDoor.unz
set_option linter.unusedVariables false
/-- where the next item begins -/
def nxt (a : Nat) (x : Pl) : Nat := a + (locB (hd x a)).length + x.bs.length
def bodyT : Nat → List Pl → List UInt8
  | _, [] => []
  | a, x :: r => locB (hd x a) ++ x.bs ++ bodyT (nxt a x) r
def headT : Nat → List Pl → List UInt8
  | _, [] => []
  | a, x :: r => cenB (hd x a) ++ headT (nxt a x) r
def hdsT : Nat → List Pl → List Hd
  | _, [] => []
  | a, x :: r => hd x a :: hdsT (nxt a x) r
def entT (a : Nat) (x : Pl) : Fe := ⟨tx x.rs, 0, x.dt, crcnum.sum x.bs, x.bs.length, x.bs.length, a + (locB (hd x a)).length⟩
def entsT : Nat → List Pl → List Fe
  | _, [] => []
  | a, x :: r => entT a x :: entsT (nxt a x) r
theorem entsT_len : ∀ (l : List Pl) (a : Nat), (entsT a l).length = l.length
  | [], _ => rfl
  | x :: r, a => by rw [entsT, List.length_cons, entsT_len r, List.length_cons]
theorem fold_made : ∀ (l : List Pl) (st : List UInt8 × List UInt8), l.foldl zipn.step st = (st.1 ++ bodyT st.1.length l, st.2 ++ headT st.1.length l)
  | [], st => by simp [bodyT, headT]
  | x :: r, st => by
    rw [List.foldl_cons, fold_made r]
    have h1 : (zipn.step st x).1 = st.1 ++ locB (hd x st.1.length) ++ x.bs := rfl
    have h2 : (zipn.step st x).2 = st.2 ++ cenB (hd x st.1.length) := rfl
    have h3 : (zipn.step st x).1.length = nxt st.1.length x := by rw [h1, List.length_append, List.length_append]; rfl
    rw [h3, h1, h2, bodyT, headT]
    simp only [List.append_assoc]
theorem made_is (l : List Pl) : made l = (bodyT 0 l, headT 0 l) := by
  unfold made
  rw [fold_made]
  rfl
theorem heads_T : ∀ (l : List Pl) (a : Nat) (pre post : List UInt8), (∀ x ∈ l, x.Ok) → a + (bodyT a l).length < 4294967295 → heads (pre ++ headT a l ++ post) l.length pre.length = .ok (hdsT a l, pre.length + (headT a l).length)
  | [], a, pre, post, _, _ => rfl
  | x :: r, a, pre, post, hok, hb => by
    rw [bodyT, List.length_append, List.length_append] at hb
    have hx := hok x (by simp)
    have h1 := cen_at pre (headT (nxt a x) r ++ post) x hx a (by omega)
    have h2 := heads_T r (nxt a x) (pre ++ cenB (hd x a)) post (fun y hy => hok y (by simp [hy])) (by unfold nxt at *; omega)
    have e1 : pre ++ headT a (x :: r) ++ post = pre ++ cenB (hd x a) ++ (headT (nxt a x) r ++ post) := by rw [headT]; simp only [List.append_assoc]
    have e2 : pre ++ cenB (hd x a) ++ headT (nxt a x) r ++ post = pre ++ cenB (hd x a) ++ (headT (nxt a x) r ++ post) := by rw [List.append_assoc (pre ++ cenB (hd x a))]
    rw [e2, List.length_append] at h2
    rw [e1, List.length_cons, heads_good h1]
    simp only
    rw [h2]
    simp only
    rw [hdsT, headT, List.length_append, Nat.add_assoc]
theorem dec_T (x : Pl) (hx : x.Ok) : decL (fl x / 2048 % 2 == 1) (encB x.rs []) = some (tx x.rs) := by
  unfold decL fl
  cases ht : encT x.rs [] with
  | true =>
    rw [if_pos rfl, if_pos (by decide)]
    have he : encB x.rs [] = tx x.rs := by
      unfold encT at ht
      unfold encB
      rw [if_neg (by intro h; rw [h.2] at ht; simp at ht), List.append_nil]
    rw [he, if_pos (valid_good x.rs hx.rn)]
  | false =>
    show some (tx (pgs (encB x.rs []))) = some (tx x.rs)
    unfold encT at ht
    simp only [decide_true, Bool.true_and, Bool.not_eq_false'] at ht
    have he : encB x.rs [] = x.rs.map bR9 := by unfold encB; rw [if_pos ⟨rfl, ht⟩]
    rw [he]
    congr 1
    unfold pgs
    rw [List.map_map]
    have : ∀ r ∈ x.rs, (fun b : UInt8 => pageR b.toNat) (bR9 r) = r := by
      intro r hr
      have h1 := List.all_eq_true.1 ht r hr
      unfold hasB at h1
      obtain ⟨b, hb⟩ := Option.isSome_iff_exists.1 h1
      have h2 := pageB_some hb
      unfold bR9
      rw [hb, Option.getD_some]
      simp only
      rw [nat_u8 b h2.1, h2.2]
    rw [show x.rs.map ((fun b : UInt8 => pageR b.toNat) ∘ bR9) = x.rs from by
      conv => rhs; rw [← List.map_id x.rs]
      exact List.map_congr_left this]
theorem may_T (x : Pl) (hx : x.Ok) : mayL (tx x.rs) = true := by
  have h := hx.may
  unfold mayP at h
  rw [List.append_nil] at h
  simp only [Bool.and_eq_true, decide_eq_true_eq] at h
  obtain ⟨h1, h2, _, h3⟩ := h
  unfold mayL
  simp only [Bool.and_eq_true, decide_eq_true_eq]
  refine ⟨h1, h2, valid_good x.rs hx.rn, ?_⟩
  rw [tx_ok x.rs hx.rn]
  exact h3
theorem dat_T (pre post : List UInt8) (x : Pl) (hx : x.Ok) (a : Nat) (ha : a < 4294967295) (hp : pre.length = a) : dat (pre ++ locB (hd x a) ++ post) (hd x a) = .ok (a + (locB (hd x a)).length) := by
  unfold dat
  have h1 := loc_at pre post x hx a ha hp
  rw [show (hd x a).at_ = a from rfl, h1]
  simp only [decide_true, Bool.not_true, Bool.or_self, Bool.false_eq_true, if_false, Bool.and_false]
theorem ent_T (pre post : List UInt8) (x : Pl) (hx : x.Ok) (a en : Nat) (ha : a < 4294967295) (hp : pre.length = a) (he : nxt a x ≤ en) (ahead : List (List UInt8)) (hn : tx x.rs ∉ ahead) :
    ent (pre ++ locB (hd x a) ++ post) (hd x a) en ahead = .ok (entT a x) := by
  unfold ent
  rw [show (hd x a).fl = fl x from rfl, show (hd x a).nm = encB x.rs [] from rfl, dec_T x hx]
  simp only
  rw [may_T x hx, if_neg (by simp), if_neg hn, show (hd x a).me = 0 from rfl]
  have hf : (fl x % 2 == 1) = false := by unfold fl; split <;> rfl
  rw [hf, dat_T pre post x hx a ha hp]
  unfold nxt at he
  simp only [beq_self_eq_true, Bool.not_true, Bool.true_and, Bool.false_and, Bool.or_self, Bool.false_eq_true, if_false]
  rw [show (hd x a).cs = x.bs.length from rfl, show (hd x a).si = x.bs.length from rfl, if_neg (by omega)]
  simp only [beq_self_eq_true, Bool.not_true, Bool.false_eq_true, if_false]
  rfl
theorem ents_T : ∀ (l : List Pl) (a en : Nat) (pre post : List UInt8) (acc : List Fe), (∀ x ∈ l, x.Ok) → a + (bodyT a l).length ≤ en → en < 4294967295 → pre.length = a → ((acc.map (·.nm)) ++ l.map fun x => tx x.rs).Nodup →
    ents (pre ++ bodyT a l ++ post) en (hdsT a l) acc = .ok (acc ++ entsT a l)
  | [], a, en, pre, post, acc, _, _, _, _, _ => by simp [hdsT, ents, entsT]
  | x :: r, a, en, pre, post, acc, hok, hb, hen, hp, hnd => by
    rw [bodyT, List.length_append, List.length_append] at hb
    have hx := hok x (by simp)
    have hnx : nxt a x = a + (locB (hd x a)).length + x.bs.length := rfl
    have hnot : tx x.rs ∉ acc.map (·.nm) := by
      intro hm
      rw [List.map_cons] at hnd
      exact (List.nodup_append.1 hnd).2.2 _ hm _ (by simp) rfl
    have h1 := ent_T pre (x.bs ++ (bodyT (nxt a x) r ++ post)) x hx a en (by omega) hp (by omega) (acc.map (·.nm)) hnot
    have h2 := ents_T r (nxt a x) en (pre ++ locB (hd x a) ++ x.bs) post (acc ++ [entT a x]) (fun y hy => hok y (by simp [hy])) (by omega) hen (by rw [List.length_append, List.length_append, hp]; rfl) (by
      rw [List.map_append, List.append_assoc]
      exact hnd)
    have e1 : pre ++ bodyT a (x :: r) ++ post = pre ++ locB (hd x a) ++ (x.bs ++ (bodyT (nxt a x) r ++ post)) := by rw [bodyT]; simp only [List.append_assoc]
    have e2 : pre ++ locB (hd x a) ++ x.bs ++ bodyT (nxt a x) r ++ post = pre ++ locB (hd x a) ++ (x.bs ++ (bodyT (nxt a x) r ++ post)) := by simp only [List.append_assoc]
    rw [e2] at h2
    rw [e1, hdsT, ents_good h1, h2, entsT, List.append_assoc]
    rfl
theorem find_T (pre : List UInt8) (t : Tl) (hw : t.wd = false) (h1 : t.many < 65535) (h2 : t.long < 4294967295) (h3 : t.at_ < 4294967295) : find (pre ++ endP t) = some t := by
  obtain ⟨many, long, T, wd⟩ := t
  simp only at hw h1 h2 h3
  subst hw
  have hl := endP_len ⟨many, long, T, false⟩
  have hX : pre ++ endP ⟨many, long, T, false⟩ = pre ++ endP ⟨many, long, T, false⟩ ++ [] := by rw [List.append_nil]
  have hxl : (pre ++ endP ⟨many, long, T, false⟩).length = pre.length + 22 := by rw [List.length_append, hl]
  have e0 : sg (pre ++ endP ⟨many, long, T, false⟩) pre.length 5 6 = true := by rw [hX]; exact sg_win pre _ [] 0 5 6 (by omega) rfl
  have e10 : nm (pre ++ endP ⟨many, long, T, false⟩) (pre.length + 10) 2 = many := by rw [hX]; exact nm_win pre _ [] 10 2 _ (by omega) (by omega) rfl
  have e12 : nm (pre ++ endP ⟨many, long, T, false⟩) (pre.length + 12) 4 = long := by rw [hX]; exact nm_win pre _ [] 12 4 _ (by omega) (by omega) rfl
  have e16 : nm (pre ++ endP ⟨many, long, T, false⟩) (pre.length + 16) 4 = T := by rw [hX]; exact nm_win pre _ [] 16 4 _ (by omega) (by omega) rfl
  have e20 : nm (pre ++ endP ⟨many, long, T, false⟩) (pre.length + 20) 2 = 0 := by rw [hX]; exact nm_win pre _ [] 20 2 _ (by omega) (by omega) rfl
  have hends : ends (pre ++ endP ⟨many, long, T, false⟩) pre.length = true := by
    unfold ends
    rw [e0, e20, hxl]
    simp
  have hlast : lastAt (pre ++ endP ⟨many, long, T, false⟩) ((pre ++ endP ⟨many, long, T, false⟩).length - 65557) ((pre ++ endP ⟨many, long, T, false⟩).length - 21) = some pre.length := by
    rw [hxl, show pre.length + 22 - 21 = pre.length + 1 from by omega, lastAt, if_neg (by omega), if_pos hends]
  unfold find
  rw [hlast]
  simp only
  rw [e10, e12, e16, if_neg (by omega)]
theorem opn_arc (l : List Pl) (hok : ∀ x ∈ l, x.Ok) (hn : l.length ≤ 1000) (hd : (l.map fun x => tx x.rs).Nodup) : opn (arc l) = .ok (entsT 0 l) := by
  obtain ⟨b1, b2⟩ := made_bd l hok
  have hm := made_is l
  have hm1 : (made l).1 = bodyT 0 l := by rw [hm]
  have hm2 : (made l).2 = headT 0 l := by rw [hm]
  rw [hm1] at b1
  rw [hm2] at b2
  have harc : arc l = bodyT 0 l ++ headT 0 l ++ endP ⟨l.length, (headT 0 l).length, (bodyT 0 l).length, false⟩ := by unfold arc; rw [hm1, hm2]
  have hbb := Nat.mul_le_mul_right 65606 hn
  have hhb := Nat.mul_le_mul_right 86 hn
  have hf := find_T (bodyT 0 l ++ headT 0 l) ⟨l.length, (headT 0 l).length, (bodyT 0 l).length, false⟩ rfl (by simp only; omega) (by simp only; omega) (by simp only; omega)
  have hlen : (arc l).length = (bodyT 0 l).length + (headT 0 l).length + 22 := by rw [harc, List.length_append, List.length_append, endP_len]
  have hh := heads_T l 0 (bodyT 0 l) (endP ⟨l.length, (headT 0 l).length, (bodyT 0 l).length, false⟩) hok (by omega)
  have he := ents_T l 0 (bodyT 0 l).length [] (headT 0 l ++ endP ⟨l.length, (headT 0 l).length, (bodyT 0 l).length, false⟩) [] hok (by omega) (by omega) rfl hd
  rw [← harc] at hf hh
  have e2 : [] ++ bodyT 0 l ++ (headT 0 l ++ endP ⟨l.length, (headT 0 l).length, (bodyT 0 l).length, false⟩) = arc l := by rw [harc]; simp only [List.nil_append, List.append_assoc]
  rw [e2, List.nil_append] at he
  unfold opn
  rw [hf]
  simp only
  have hc : cens (arc l) ⟨l.length, (headT 0 l).length, (bodyT 0 l).length, false⟩ = .ok (hdsT 0 l) := by
    unfold cens
    simp only
    rw [hlen, if_neg (by omega), if_neg (by omega), hh]
    simp only
    first | rfl | (rw [if_pos rfl]) | simp
  rw [hc]
  exact he
end Go.Proofs.YtmnegmebkmihhaaGreatDoor.zipn
