import Derived.Test.YtcdehklcdipcfaaGreatPgrNum
import Derived.Test.YtcdehklcdipcfaaGreatMgVd
/-
  The two files of a pager, as plain functions of the store: what note, write, save do. My own text.
-/
namespace Go.Proofs.YtcdehklcdipcfaaGreat.pgr
open Go.Proofs.YtcdehklcdipcfaaGreat.num Go.Proofs.YtcdehklcdipcfaaGreat.pagn Go.Proofs.YtcdehklcdipcfaaGreat.waln Go.Proofs.YtcdehklcdipcfaaGreat.vfsnum Go.Proofs.YtcdehklcdipcfaaGreat.vfs
set_option linter.unusedVariables false

def dbN : ByteArray := ⟨#[120, 46, 100, 98]⟩
def logN : ByteArray := ⟨#[120, 46, 108, 111, 103]⟩
def done4 : Bs := [100, 111, 110, 101]
theorem dbN_right : rightB dbN = true := by kernel_rfl
theorem logN_right : rightB logN = true := by kernel_rfl
theorem names_ne : dbN ≠ logN := by decide
theorem dbN_le : dbN.size ≤ maxLen := by unfold maxLen; show 4 ≤ _; omega
theorem logN_le : logN.size ≤ maxLen := by unfold maxLen; show 5 ≤ _; omega

def noteF (a : Fs) (t : Nat) (b : Bs) : Int × Fs := if (a.write logN t b).1 = 0 then (a.write logN t b).2.sync logN else a.write logN t b
def pagesF (a : Fs) : List Pg → Int × Fs
  | [] => (0, a)
  | p :: r => if (a.write dbN (p.1 * 512) p.2).1 = 0 then pagesF (a.write dbN (p.1 * 512) p.2).2 r else a.write dbN (p.1 * 512) p.2
def syncF (a : Fs) : Int × Fs := if (a.sync dbN).1 = 0 then (a.sync dbN).2.cut logN 0 else a.sync dbN
def writeF (a : Fs) (l : List Pg) : Int × Fs := if (pagesF a l).1 = 0 then syncF (pagesF a l).2 else pagesF a l
def saveF (a : Fs) (l : List Pg) : Int × Fs :=
  if (noteF a 0 (batch l)).1 = 0 then
    (if (noteF (noteF a 0 (batch l)).2 (batch l).length done4).1 = 0 then writeF (noteF (noteF a 0 (batch l)).2 (batch l).length done4).2 l else noteF (noteF a 0 (batch l)).2 (batch l).length done4)
  else noteF a 0 (batch l)

theorem write_stamp (a : Fs) (n : ByteArray) (t : Int) (b : Bs) : (a.write n t b).2.stamp ≤ a.stamp + 1 := by
  unfold Fs.write
  split
  · exact Nat.le_succ _
  · split
    · exact Nat.le_succ _
    · split
      · exact Nat.le_succ _
      · split
        · exact Nat.le_succ _
        · split
          · exact Nat.le_succ _
          · split
            · exact Nat.le_succ _
            · exact Nat.le_refl _
theorem sync_stamp (a : Fs) (n : ByteArray) : (a.sync n).2.stamp = a.stamp := by
  unfold Fs.sync
  split
  · rfl
  · split
    · rfl
    · split <;> rfl
theorem cut_stamp (a : Fs) (n : ByteArray) (t : Int) : (a.cut n t).2.stamp ≤ a.stamp + 1 := by
  unfold Fs.cut
  split
  · exact Nat.le_succ _
  · split
    · exact Nat.le_succ _
    · split
      · exact Nat.le_succ _
      · split
        · exact Nat.le_succ _
        · exact Nat.le_refl _
theorem noteF_stamp (a : Fs) (t : Nat) (b : Bs) : (noteF a t b).2.stamp ≤ a.stamp + 1 := by
  unfold noteF
  split
  · rw [sync_stamp]; exact write_stamp _ _ _ _
  · exact write_stamp _ _ _ _
theorem pagesF_stamp (l : List Pg) : ∀ a : Fs, (pagesF a l).2.stamp ≤ a.stamp + l.length := by
  induction l with
  | nil => intro a; exact Nat.le_refl _
  | cons p r ih =>
    intro a
    have h1 := write_stamp a dbN (p.1 * 512) p.2
    unfold pagesF
    split
    · have := ih (a.write dbN (p.1 * 512) p.2).2
      rw [List.length_cons]
      omega
    · rw [List.length_cons]; omega
theorem pagesF_ok (l : List Pg) : ∀ a : Fs, FsOk a → FsOk (pagesF a l).2 := by
  induction l with
  | nil => intro a h; exact h
  | cons p r ih =>
    intro a h
    unfold pagesF
    split
    · exact ih _ (write_ok h)
    · exact write_ok h
theorem noteF_ok {a : Fs} {t : Nat} {b : Bs} (h : FsOk a) : FsOk (noteF a t b).2 := by
  unfold noteF
  split
  · exact sync_ok (write_ok h)
  · exact write_ok h
end Go.Proofs.YtcdehklcdipcfaaGreat.pgr
