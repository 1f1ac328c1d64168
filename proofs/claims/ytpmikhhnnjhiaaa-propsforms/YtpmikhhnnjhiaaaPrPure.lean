/- Chapter 10 (tags, anchors, aliases) as Lean functions on lists of numbers, and what they come to. No program. -/
import Derived.Test.YtpmikhhnnjhiaaaNames
namespace Go.Proofs.Ytpmikhhnnjhiaaa
open Go.RowKit
set_option linter.unusedVariables false

def cutF (c : Int) : List Int → List Int × Bool
  | x :: t => if x = c then (t, true) else (x :: t, false)
  | [] => ([], false)
def validF (l : List Int) : Bool := (cutF 33 l).2 && ((cutF 33 l).1.isEmpty || nameF (cutF 33 (cutF 33 l).1).1)
def withF (t a l : List Int) : List Int × List Int × Bool :=
  if (cutF 38 l).2 then (if a.isEmpty && nameF (cutF 38 l).1 then (t, (cutF 38 l).1, true) else ([], [], false))
  else (if t.isEmpty && validF l then (l, a, true) else ([], [], false))
def begF : List Int → Bool
  | x :: _ => x == 33 || x == 38
  | [] => false
def wrdF (l : List Int) : List Int := l.takeWhile (· != 32)
def blkF (l : List Int) : Nat := (l.takeWhile (· == 32)).length
def goP : Nat → List Int → Nat → Nat → List Int → List Int → List Int × List Int × Nat × Bool
  | 0, _, _, n, t, a => (t, a, n, true)
  | f + 1, l, i, n, t, a => if begF l then
      (if (withF t a (wrdF l)).2.2 then goP f ((l.drop (wrdF l).length).drop (blkF (l.drop (wrdF l).length))) (i + (wrdF l).length + blkF (l.drop (wrdF l).length)) (i + (wrdF l).length) (withF t a (wrdF l)).1 (withF t a (wrdF l)).2.1
       else ([], [], 0, false))
    else (t, a, n, true)
def takeP (l : List Int) : List Int × List Int × Nat × Bool := goP (l.length + 1) l 0 0 [] []
/-- How many letters of a name stand at the beginning, at most m. -/
def ltrF : Nat → List Int → Nat
  | 0, _ => 0
  | m + 1, x :: t => if nmb x then ltrF m t + 1 else 0
  | _ + 1, [] => 0
def aliasF (l : List Int) : List Int × Nat × Bool :=
  if (cutF 42 l).2 && nameF ((cutF 42 l).1.take (ltrF 33 (cutF 42 l).1)) then ((cutF 42 l).1.take (ltrF 33 (cutF 42 l).1), 1 + ltrF 33 (cutF 42 l).1, true) else ([], 0, false)
def putF (t a : List Int) : List Int := if a.isEmpty then t else if t.isEmpty then 38 :: a else 38 :: a ++ 32 :: t

theorem cut_fst_len (c : Int) (l : List Int) : (cutF c l).1.length ≤ l.length := by
  cases l with
  | nil => simp [cutF]
  | cons x t => simp only [cutF]; split <;> simp
theorem cut_true (c : Int) (l : List Int) (h : (cutF c l).2 = true) : l = c :: (cutF c l).1 := by
  cases l with
  | nil => simp [cutF] at h
  | cons x t =>
    by_cases hx : x = c
    · subst hx; simp [cutF]
    · simp [cutF, hx] at h
theorem cut_false (c : Int) (l : List Int) (h : (cutF c l).2 = false) : (cutF c l).1 = l := by
  cases l with
  | nil => rfl
  | cons x t =>
    by_cases hx : x = c
    · subst hx; simp [cutF] at h
    · simp [cutF, hx]
theorem cut_drop (c : Int) (l : List Int) (h : (cutF c l).2 = true) : (cutF c l).1 = l.drop 1 := by
  have := cut_true c l h
  rw [this]; simp [cutF]
theorem cut_len (c : Int) (l : List Int) (h : (cutF c l).2 = true) : 1 ≤ l.length := by rw [cut_true c l h]; simp
theorem cut_at (c : Int) (l : List Int) : (cutF c l).2 = (decide (1 ≤ l.length) && l.take 1 == [c]) := by
  cases l with
  | nil => rfl
  | cons x t =>
    by_cases hx : x = c
    · subst hx; simp [cutF]
    · have : (x :: t).take 1 = [x] := rfl
      rw [this]
      simp [cutF, hx]
theorem wrd_len (l : List Int) : (wrdF l).length ≤ l.length := (List.takeWhile_sublist _).length_le
theorem wrd_take (l : List Int) : wrdF l = l.take (l.findIdx (· == 32)) := by
  unfold wrdF
  induction l with
  | nil => rfl
  | cons x t ih =>
    rw [List.takeWhile_cons, List.findIdx_cons]
    by_cases hx : x = 32
    · subst hx; simp
    · have h1 : (x != 32) = true := bne_iff_ne.2 hx
      have h2 : (x == 32) = false := beq_eq_false_iff_ne.2 hx
      rw [h1, h2]
      simp [ih]
theorem wrd_pos (l : List Int) (h : begF l = true) : 1 ≤ (wrdF l).length := by
  cases l with
  | nil => simp [begF] at h
  | cons x t =>
    simp only [begF] at h
    have : (x != 32) = true := by rw [bne_iff_ne]; rintro rfl; simp at h
    unfold wrdF
    rw [List.takeWhile_cons, this]
    simp
theorem blk_len (l : List Int) : blkF l ≤ l.length := (List.takeWhile_sublist _).length_le
theorem blk_cons (x : Int) (t : List Int) : blkF (x :: t) = if x = 32 then blkF t + 1 else 0 := by
  unfold blkF
  rw [List.takeWhile_cons]
  by_cases hx : x = 32
  · subst hx; simp
  · rw [if_neg hx, beq_eq_false_iff_ne.2 hx]; simp
theorem drop_cons_at {l : List Int} {k : Nat} (h : k < l.length) : l.drop k = l.getD k 0 :: l.drop (k + 1) := by
  rw [List.drop_eq_getElem_cons h]
  congr 1
  simp [List.getD, h]
theorem blk_at {l : List Int} {k : Nat} (h : k < l.length) : blkF (l.drop k) = if l.getD k 0 = 32 then blkF (l.drop (k + 1)) + 1 else 0 := by rw [drop_cons_at h, blk_cons]
theorem blk_end {l : List Int} {k : Nat} (h : l.length ≤ k) : blkF (l.drop k) = 0 := by rw [List.drop_of_length_le h]; rfl
theorem ltr_len : ∀ (m : Nat) (l : List Int), ltrF m l ≤ l.length ∧ ltrF m l ≤ m := by
  intro m
  induction m with
  | zero => intro l; simp [ltrF]
  | succ m ih =>
    intro l
    cases l with
    | nil => simp [ltrF]
    | cons x t => simp only [ltrF]; have := ih t; split <;> simp <;> omega
theorem ltr_at {l : List Int} {k m : Nat} (h : k < l.length) : ltrF (m + 1) (l.drop k) = if nmb (l.getD k 0) then ltrF m (l.drop (k + 1)) + 1 else 0 := by rw [drop_cons_at h]; simp only [ltrF]
theorem ltr_end {l : List Int} {k m : Nat} (h : l.length ≤ k) : ltrF m (l.drop k) = 0 := by
  rw [List.drop_of_length_le h]; cases m <;> rfl
theorem goP_stop (f : Nat) (l : List Int) (i n : Nat) (t a : List Int) (h : begF l = false) : goP (f + 1) l i n t a = (t, a, n, true) := by
  simp only [goP, h]; rfl
theorem goP_bad (f : Nat) (l : List Int) (i n : Nat) (t a : List Int) (h : begF l = true) (h2 : (withF t a (wrdF l)).2.2 = false) : goP (f + 1) l i n t a = ([], [], 0, false) := by
  simp only [goP, h, h2]; rfl
theorem goP_next (f : Nat) (l : List Int) (i n : Nat) (t a : List Int) (h : begF l = true) (h2 : (withF t a (wrdF l)).2.2 = true) : goP (f + 1) l i n t a =
    goP f ((l.drop (wrdF l).length).drop (blkF (l.drop (wrdF l).length))) (i + (wrdF l).length + blkF (l.drop (wrdF l).length)) (i + (wrdF l).length) (withF t a (wrdF l)).1 (withF t a (wrdF l)).2.1 := by
  simp only [goP, h, h2]; rfl
theorem name_one (x : Int) : nameF [x] = nmb x := by simp [nameF]
end Go.Proofs.Ytpmikhhnnjhiaaa
