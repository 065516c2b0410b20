/-
  A store of files: what its calls do, as plain functions. My own text.
-/
import Derived.Test.YtelghdfikcodmaaVfsNum
namespace Go.Proofs.Ytelghdfikcodmaa.vfsnum
set_option linter.unusedVariables false

/-- a store: its files, in the order of their names -/
structure Fs where
  files : List (ByteArray × Fl)
  room : Nat
  stamp : Nat
  fuse : Int
  down : Bool
/-- may a byte stand in a name? -/
def okN (n : Nat) : Bool := decide ((97 ≤ n ∧ n ≤ 122) ∨ (48 ≤ n ∧ n ≤ 57) ∨ n = 46 ∨ n = 45 ∨ n = 47)
def okByte (c : UInt8) : Bool := okN c.toNat
def rightB (s : ByteArray) : Bool := decide (1 ≤ s.size) && decide (s.size ≤ 24) && s.data.toList.all okByte
/-- the order of names -/
def nlt (a b : ByteArray) : Bool := decide (a.data.toList < b.data.toList)
/-- a call is taken from the fuse; the store goes down -/
def Fs.burn (a : Fs) : Fs := { a with fuse := if 0 < a.fuse then a.fuse - 1 else a.fuse }
def Fs.fall (a : Fs) : Fs := { a with down := true }
def getF (l : List (ByteArray × Fl)) (n : ByteArray) : Option Fl := (l.find? fun p => decide (p.1 = n)).map (·.2)
def updF (l : List (ByteArray × Fl)) (n : ByteArray) (x : Fl) : List (ByteArray × Fl) := l.map fun p => if p.1 = n then (n, x) else p
def delF (l : List (ByteArray × Fl)) (n : ByteArray) : List (ByteArray × Fl) := l.filter fun p => decide (p.1 ≠ n)
def insF (l : List (ByteArray × Fl)) (n : ByteArray) (x : Fl) : List (ByteArray × Fl) := l.filter (fun p => nlt p.1 n) ++ (n, x) :: l.filter fun p => !nlt p.1 n
def noOld : Nat → Option Bs := fun _ => none
/-- the sectors of a file -/
def tk (x : Fl) : Nat := takes x.bs.length

def Fs.create (a : Fs) (n : ByteArray) : Int × Fs :=
  if a.down = true then (9, a) else if rightB n = false then (1, a) else if (getF a.files n).isSome = true then (7, a) else if a.fuse = 0 then (9, a.fall)
  else (0, { a.burn with files := insF a.files n ⟨[], a.stamp + 1, noOld⟩, stamp := a.stamp + 1 })
def Fs.write (a : Fs) (n : ByteArray) (at_ : Int) (b : Bs) : Int × Fs :=
  if a.down = true then (9, a) else
  match getF a.files n with
  | none => (6, a)
  | some x => if at_ < 0 ∨ (x.bs.length : Int) < at_ then (1, a) else if a.room < takes (at_.toNat + b.length) - tk x then (8, a) else if b.length = 0 then (0, a) else if a.fuse = 0 then (9, a.fall)
    else (0, { a.burn with files := updF a.files n { wrt x at_.toNat b with stamp := a.stamp + 1 }, room := a.room - (takes (at_.toNat + b.length) - tk x), stamp := a.stamp + 1 })
def Fs.cut (a : Fs) (n : ByteArray) (m : Int) : Int × Fs :=
  if a.down = true then (9, a) else
  match getF a.files n with
  | none => (6, a)
  | some x => if m < 0 ∨ (x.bs.length : Int) < m then (1, a) else if a.fuse = 0 then (9, a.fall)
    else (0, { a.burn with files := updF a.files n { ct x m.toNat with stamp := a.stamp + 1 }, room := a.room + (tk x - takes m.toNat), stamp := a.stamp + 1 })
/-- a file is gone, if it is there -/
def Fs.remove (a : Fs) (n : ByteArray) : Fs := { a with files := delF a.files n, room := a.room + match getF a.files n with | some x => tk x | none => 0 }
def Fs.rename (a : Fs) (n m : ByteArray) : Int × Fs :=
  if a.down = true then (9, a) else
  match getF a.files n with
  | none => (6, a)
  | some x => if rightB m = false ∨ m = n then (1, a) else if a.fuse = 0 then (9, a.fall)
    else (0, { a.burn.remove m with files := insF (delF (delF a.files m) n) m { x with stamp := a.stamp + 1 }, stamp := a.stamp + 1 })
def Fs.delete (a : Fs) (n : ByteArray) : Int × Fs :=
  if a.down = true then (9, a) else
  match getF a.files n with
  | none => (6, a)
  | some x => if a.fuse = 0 then (9, a.fall) else (0, a.burn.remove n)
def Fs.sync (a : Fs) (n : ByteArray) : Int × Fs :=
  if a.down = true then (9, a) else
  match getF a.files n with
  | none => (6, a)
  | some x => if a.fuse = 0 then (9, a.fall) else (0, { a.burn with files := updF a.files n { x with old := noOld } })
/-- what a crash leaves of files; i sectors that wait are ahead of them -/
def crF (keep : Nat) : List (ByteArray × Fl) → Nat → List (ByteArray × Fl)
  | [], _ => []
  | p :: r, i => (p.1, cr p.2 keep i) :: crF keep r (i + cnt p.2.old (tk p.2))
def Fs.crash (a : Fs) (keep : Nat) : Fs := { a with files := crF keep a.files 0, fuse := -1, down := false }
def Fs.waits (a : Fs) : Nat := (a.files.map fun p => cnt p.2.old (tk p.2)).sum

/-- what holds of every store -/
def FlOk (f : Fl) : Prop := f.bs.length ≤ 4194304 ∧ ∀ k o, f.old k = some o → k < takes f.bs.length ∧ o.length = 64
structure FsOk (a : Fs) : Prop where
  names : ∀ p ∈ a.files, rightB p.1 = true
  sorted : a.files.Pairwise fun p q => nlt p.1 q.1 = true
  fls : ∀ p ∈ a.files, FlOk p.2
  sum : a.room + (a.files.map fun p => tk p.2).sum ≤ 65536
  fuse1 : -1 ≤ a.fuse
  fuse2 : a.fuse ≤ 9223372036854775807

theorem nlt_irrefl (a : ByteArray) : nlt a a = false := by unfold nlt; simp
theorem nlt_trans {a b c : ByteArray} (h : nlt a b = true) (k : nlt b c = true) : nlt a c = true := by
  unfold nlt at *
  simp only [decide_eq_true_eq] at *
  exact List.lt_trans h k
theorem nlt_ne {a b : ByteArray} (h : nlt a b = true) : a ≠ b := fun e => by subst e; rw [nlt_irrefl] at h; cases h
theorem nlt_total {a b : ByteArray} (h : a ≠ b) : nlt a b = true ∨ nlt b a = true := by
  unfold nlt
  simp only [decide_eq_true_eq]
  have hne : a.data.toList ≠ b.data.toList := fun e => h (by cases a; cases b; simp at e; rw [e])
  by_cases h1 : a.data.toList < b.data.toList
  · exact .inl h1
  · by_cases h2 : b.data.toList < a.data.toList
    · exact .inr h2
    · exact absurd (List.le_antisymm (List.not_lt.1 h2) (List.not_lt.1 h1)) hne
theorem right_size {s : ByteArray} (h : rightB s = true) : 1 ≤ s.size ∧ s.size ≤ 24 := by
  unfold rightB at h
  simp only [Bool.and_eq_true, decide_eq_true_eq] at h
  exact h.1

def Apart (l : List (ByteArray × Fl)) : Prop := l.Pairwise fun p q => p.1 ≠ q.1
theorem apart_of_sorted {l : List (ByteArray × Fl)} (h : l.Pairwise fun p q => nlt p.1 q.1 = true) : Apart l := h.imp nlt_ne
theorem getF_some {l : List (ByteArray × Fl)} {n : ByteArray} {x : Fl} (h : getF l n = some x) : (n, x) ∈ l := by
  unfold getF at h
  rw [Option.map_eq_some_iff] at h
  obtain ⟨p, hp, rfl⟩ := h
  have h1 := List.find?_some hp
  simp only [decide_eq_true_eq] at h1
  have h2 := List.mem_of_find?_eq_some hp
  rw [← h1]
  exact h2
theorem getF_none {l : List (ByteArray × Fl)} {n : ByteArray} (h : getF l n = none) : ∀ p ∈ l, p.1 ≠ n := by
  unfold getF at h
  rw [Option.map_eq_none_iff, List.find?_eq_none] at h
  intro p hp e
  exact h p hp (by simp [e])
theorem getF_mem {l : List (ByteArray × Fl)} (ha : Apart l) {n : ByteArray} {x : Fl} (h : (n, x) ∈ l) : getF l n = some x := by
  cases hg : getF l n with
  | none => exact absurd rfl (getF_none hg (n, x) h)
  | some y =>
    have hy := getF_some hg
    congr 1
    by_cases e : y = x
    · exact e
    · exfalso
      have hne : ((n, y) : ByteArray × Fl) ≠ (n, x) := fun h => e (Prod.mk.inj h).2
      obtain ⟨s, t, hst⟩ := List.append_of_mem hy
      rw [hst] at h ha
      unfold Apart at ha
      rw [List.pairwise_append] at ha
      rcases List.mem_append.1 h with h1 | h1
      · exact ha.2.2 _ h1 (n, y) (by simp) rfl
      · rcases List.mem_cons.1 h1 with h2 | h2
        · exact hne h2.symm
        · exact (List.pairwise_cons.1 ha.2.1).1 _ h2 rfl
end Go.Proofs.Ytelghdfikcodmaa.vfsnum
