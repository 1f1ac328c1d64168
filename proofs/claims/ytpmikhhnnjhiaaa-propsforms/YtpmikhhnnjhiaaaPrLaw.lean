/- What the laws of chapter 10 need beside: cuts, and aliases of a pattern. -/
import Derived.Test.YtpmikhhnnjhiaaaPrFacts
import Derived.Deep.DeepCutAuto
namespace Go.Proofs.Ytpmikhhnnjhiaaa
open Go.RowKit
set_option linter.unusedVariables false

theorem ltr_app (z : Int) (hz : nmb z = false) : ∀ (m : Nat) (l : List Int), l.all nmb = true → ltrF m (l ++ [z]) = min m l.length := by
  intro m
  induction m with
  | zero => intro l _; simp [ltrF]
  | succ m ih =>
    intro l hl
    cases l with
    | nil => simp [ltrF, hz]
    | cons x t =>
      simp only [List.all_cons, Bool.and_eq_true] at hl
      rw [List.cons_append]
      simp only [ltrF, hl.1, if_true, List.length_cons]
      rw [ih t hl.2]
      omega
/-- An alias of letters, and what is none behind it. -/
theorem alias_pat (l : List Int) (z : Int) (hz : nmb z = false) (hl : l.all nmb = true) :
    aliasF (42 :: (l ++ [z])) = if 1 ≤ l.length ∧ l.length ≤ 32 then (l, l.length + 1, true) else ([], 0, false) := by
  unfold aliasF
  rw [show cutF 42 (42 :: (l ++ [z])) = (l ++ [z], true) from by simp [cutF]]
  simp only [Bool.true_and]
  rw [ltr_app z hz 33 l hl]
  by_cases h : l.length ≤ 33
  · rw [Nat.min_eq_right h, List.take_left' rfl]
    have hn : nameF l = (decide (1 ≤ l.length) && decide (l.length ≤ 32)) := by unfold nameF; rw [hl, Bool.and_true]
    by_cases h2 : 1 ≤ l.length ∧ l.length ≤ 32
    · rw [if_pos h2, if_pos (by rw [hn]; simp [h2.1, h2.2])]
      rw [Nat.add_comm]
    · rw [if_neg h2, if_neg]
      rw [hn]; simp; omega
  · have hf : nameF (List.take (min 33 l.length) (l ++ [z])) = false := nameF_len _ (.inr (by rw [List.length_take]; simp; omega))
    rw [hf, if_neg (by simp), if_neg (by omega)]
theorem alias_none (l : List Int) (h : l.head? ≠ some 42) : aliasF l = ([], 0, false) := by
  cases l with
  | nil => rfl
  | cons x t =>
    have : x ≠ 42 := by intro e; exact h (by simp [e])
    simp [aliasF, cutF, this]
end Go.Proofs.Ytpmikhhnnjhiaaa
