/- The plain functions of fold.Body on lists of numbers and lines, and what they come to. No program. -/
import Derived.Test.YtodnfdkcmhiljaaLnPure
import Derived.Test.YtodnfdkcmhiljaaFdPure
namespace Go.Proofs.Ytodnfdkcmhiljaa
open Go.RowKit

/-- A line without its break. -/
def cont (zs : List Int) (l : Ln) : List Int := (zs.drop l.f).take (l.t - l.f)
theorem cont_len (zs : List Int) (l : Ln) (h : l.t ≤ zs.length) : (cont zs l).length = l.t - l.f := by
  unfold cont; rw [List.length_take, List.length_drop]; omega
/-- Does a line begin or end a document? -/
def dmkL (t : List Int) : Bool := (decide (3 ≤ t.length) && (t.take 3 == [45, 45, 45] || t.take 3 == [46, 46, 46])) && (t.length == 3 || t.getD 3 0 == 32)
def dmk (zs : List Int) (l : Ln) : Bool := dmkL (cont zs l)
/-- Does a line belong to a scalar of that column? -/
def blg (zs : List Int) (col : Nat) (l : Ln) : Bool := blkF zs l || (decide (col ≤ indF zs l) && !dmk zs l)
def nfill (zs : List Int) : List Ln → Nat
  | [] => 0
  | l :: t => if blkF zs l = true then nfill zs t + 1 else 0
def nblg (zs : List Int) (col : Nat) : List Ln → Nat
  | [] => 0
  | l :: t => if blg zs col l = true then nblg zs col t + 1 else 0
def rowF (zs : List Int) (col : Nat) (l : Ln) : List Int := if blkF zs l = true then [] else (cont zs l).drop col
def badF (zs : List Int) (col : Nat) (l : Ln) : Bool := blkF zs l && decide (col < indF zs l)
/-- Blank lines alone, where no digit tells the column. -/
def onlyF (zs : List Int) (ls : List Ln) (k : Nat) (parent : Int) : Bool := k == ls.length || decide ((indF zs (lnAt ls k) : Int) ≤ parent) || dmk zs (lnAt ls k)
/-- The column, and the line behind the last one. -/
def extF (zs : List Int) (ls : List Ln) (first : Nat) (parent : Int) (dg : Nat) : Nat × Nat :=
  let k := first + nfill zs (ls.drop first)
  let base := min (max parent 0).toNat (zs.length + 1)
  if 0 < dg then (base + min dg (zs.length + 1), k + nblg zs (base + min dg (zs.length + 1)) (ls.drop k))
  else if onlyF zs ls k parent = true then (base + 1, k)
  else (indF zs (lnAt ls k), k + nblg zs (indF zs (lnAt ls k)) (ls.drop k))
def bodyF (zs : List Int) (ls : List Ln) (first : Nat) (col next : Nat) : Option (List (List Int) × Nat) :=
  if ((ls.drop first).take (next - first)).any (badF zs col) = true then none else some (((ls.drop first).take (next - first)).map (rowF zs col), next)

theorem nfill_le (zs : List Int) (l : List Ln) : nfill zs l ≤ l.length := by
  induction l with
  | nil => simp [nfill]
  | cons x t ih => simp only [nfill, List.length_cons]; split <;> omega
theorem nblg_le (zs : List Int) (col : Nat) (l : List Ln) : nblg zs col l ≤ l.length := by
  induction l with
  | nil => simp [nblg]
  | cons x t ih => simp only [nblg, List.length_cons]; split <;> omega
theorem drop_ln {ls : List Ln} {k : Nat} (h : k < ls.length) : ls.drop k = lnAt ls k :: ls.drop (k + 1) := by
  rw [List.drop_eq_getElem_cons h]
  congr 1
  simp [lnAt, List.getD, h]
theorem nfill_step (zs : List Int) (ls : List Ln) (k : Nat) (h : k < ls.length) : nfill zs (ls.drop k) = if blkF zs (lnAt ls k) = true then nfill zs (ls.drop (k + 1)) + 1 else 0 := by
  rw [drop_ln h]; rfl
theorem nblg_step (zs : List Int) (col : Nat) (ls : List Ln) (k : Nat) (h : k < ls.length) : nblg zs col (ls.drop k) = if blg zs col (lnAt ls k) = true then nblg zs col (ls.drop (k + 1)) + 1 else 0 := by
  rw [drop_ln h]; rfl
theorem ext_bd (zs : List Int) (ls : List Ln) (first : Nat) (parent : Int) (dg : Nat) (h : first ≤ ls.length) : first ≤ (extF zs ls first parent dg).2 ∧ (extF zs ls first parent dg).2 ≤ ls.length := by
  have h1 := nfill_le zs (ls.drop first)
  rw [List.length_drop] at h1
  have h2 := fun c => nblg_le zs c (ls.drop (first + nfill zs (ls.drop first)))
  simp only [List.length_drop] at h2
  unfold extF
  simp only []
  split
  · have := h2 (min (max parent 0).toNat (zs.length + 1) + min dg (zs.length + 1)); simp only []; omega
  · split
    · simp only []; omega
    · have := h2 (indF zs (lnAt ls (first + nfill zs (ls.drop first)))); simp only []; omega
theorem blk_len (zs : List Int) (l : Ln) (h : l.f ≤ l.t) (hb : blkF zs l = true) : indF zs l = l.t - l.f := by
  unfold blkF at hb; simp at hb; omega
/-- Up to the line next all lines belong. -/
theorem blg_upto (zs : List Int) (col : Nat) : ∀ (ls : List Ln) (j : Nat), j < nblg zs col ls → ∃ l, ls[j]? = some l ∧ blg zs col l = true := by
  intro ls
  induction ls with
  | nil => intro j h; simp [nblg] at h
  | cons x t ih =>
    intro j h
    simp only [nblg] at h
    split at h
    · rename_i hx
      cases j with
      | zero => exact ⟨x, by simp, hx⟩
      | succ j => obtain ⟨l, h1, h2⟩ := ih j (by omega); exact ⟨l, by simpa using h1, h2⟩
    · omega
theorem blk_upto (zs : List Int) : ∀ (ls : List Ln) (j : Nat), j < nfill zs ls → ∃ l, ls[j]? = some l ∧ blkF zs l = true := by
  intro ls
  induction ls with
  | nil => intro j h; simp [nfill] at h
  | cons x t ih =>
    intro j h
    simp only [nfill] at h
    split at h
    · rename_i hx
      cases j with
      | zero => exact ⟨x, by simp, hx⟩
      | succ j => obtain ⟨l, h1, h2⟩ := ih j (by omega); exact ⟨l, by simpa using h1, h2⟩
    · omega
/-- A line that is taken, and not blank, reaches the column. -/
theorem taken_col (zs : List Int) (ls : List Ln) (first : Nat) (parent : Int) (dg : Nat) (j : Nat) (h1 : first ≤ j) (h2 : j < (extF zs ls first parent dg).2) (hb : blkF zs (lnAt ls j) = false) : (extF zs ls first parent dg).1 ≤ indF zs (lnAt ls j) := by
  have key : ∀ k col, first + nfill zs (ls.drop first) = k → j < k + nblg zs col (ls.drop k) → col ≤ indF zs (lnAt ls j) := by
    intro k col hk hj
    by_cases hjk : j < k
    · obtain ⟨l, g1, g2⟩ := blk_upto zs (ls.drop first) (j - first) (by omega)
      rw [List.getElem?_drop, show first + (j - first) = j by omega] at g1
      have : lnAt ls j = l := by simp [lnAt, List.getD, g1]
      rw [this, g2] at hb; cases hb
    · obtain ⟨l, g1, g2⟩ := blg_upto zs col (ls.drop k) (j - k) (by omega)
      rw [List.getElem?_drop, show k + (j - k) = j by omega] at g1
      have : lnAt ls j = l := by simp [lnAt, List.getD, g1]
      rw [this] at hb ⊢
      unfold blg at g2
      rw [hb] at g2
      simp at g2
      exact g2.1
  unfold extF at h2 ⊢
  simp only [] at h2 ⊢
  split
  · rename_i hd; rw [if_pos hd] at h2; exact key _ _ rfl h2
  · rename_i hd
    rw [if_neg hd] at h2
    split
    · rename_i ho
      rw [if_pos ho] at h2
      obtain ⟨l, g1, g2⟩ := blk_upto zs (ls.drop first) (j - first) (by simp only [] at h2; omega)
      rw [List.getElem?_drop, show first + (j - first) = j by omega] at g1
      have : lnAt ls j = l := by simp [lnAt, List.getD, g1]
      rw [this, g2] at hb; cases hb
    · rename_i ho; rw [if_neg ho] at h2; exact key _ _ rfl h2
end Go.Proofs.Ytodnfdkcmhiljaa
