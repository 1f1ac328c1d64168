/- The blanks at a list's beginning, as a Lean function. No program. -/
import Derived.Test.YtjdmbldbbohdbaaBase
namespace Go.Proofs.Ytjdmbldbbohdbaa
open Go.RowKit
set_option linter.unusedVariables false

def blkF (l : List Int) : Nat := (l.takeWhile (· == 32)).length
theorem blk_len (l : List Int) : blkF l ≤ l.length := (List.takeWhile_sublist _).length_le
theorem blk_cons (x : Int) (t : List Int) : blkF (x :: t) = if x = 32 then blkF t + 1 else 0 := by
  unfold blkF
  rw [List.takeWhile_cons]
  by_cases hx : x = 32
  · subst hx; simp
  · rw [if_neg hx, beq_eq_false_iff_ne.2 hx]; simp
theorem drop_cons_at {l : List Int} {k : Nat} (h : k < l.length) : l.drop k = l.getD k 0 :: l.drop (k + 1) := by
  rw [List.drop_eq_getElem_cons h]
  congr 1
  simp [List.getD, h]
theorem blk_at {l : List Int} {k : Nat} (h : k < l.length) : blkF (l.drop k) = if l.getD k 0 = 32 then blkF (l.drop (k + 1)) + 1 else 0 := by rw [drop_cons_at h, blk_cons]
theorem blk_end {l : List Int} {k : Nat} (h : l.length ≤ k) : blkF (l.drop k) = 0 := by rw [List.drop_of_length_le h]; rfl
theorem blk_rep (n : Nat) (l : List Int) : blkF (List.replicate n 32 ++ l) = n + blkF l := by
  induction n with
  | zero => simp
  | succ n ih => rw [List.replicate_succ, List.cons_append, blk_cons, if_pos rfl, ih]; omega
theorem blk_none {x : Int} {t : List Int} (h : x ≠ 32) : blkF (x :: t) = 0 := by rw [blk_cons, if_neg h]
end Go.Proofs.Ytjdmbldbbohdbaa
