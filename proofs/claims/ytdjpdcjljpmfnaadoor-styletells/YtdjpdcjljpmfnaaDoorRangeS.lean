/- A range over a text's runes: which bytes it passes over. -/
import Derived.Test.YtdjpdcjljpmfnaaDoorBase
import Derived.Laws.RangeAny
namespace Go.Proofs.YtdjpdcjljpmfnaaDoor
open Go.RowKit
set_option linter.unusedVariables false

theorem get_bang (s : ByteArray) (i : Nat) (h : i < s.size) : s.get! i = s[i] := get_at s i h
/-- What a rune takes: its first byte, and bytes of 128 to 191. -/
theorem decode_cont (s : ByteArray) (pos : Nat) (h : pos < s.size) : 1 ≤ (Utf8.decode s pos).2 ∧ pos + (Utf8.decode s pos).2 ≤ s.size ∧ ∀ j, 1 ≤ j → j < (Utf8.decode s pos).2 → (s.get! (pos + j)).toNat / 64 = 2 := by
  simp only [Utf8.decode]
  repeat' split
  all_goals (refine ⟨by simp, ?_, ?_⟩)
  all_goals first
    | (intro j h1 h2; simp at h2; omega)
    | (simp at *; omega)
    | (intro j h1 h2
       simp only [Bool.and_eq_true, decide_eq_true_eq, beq_iff_eq] at *
       try simp at h2
       have hj : j = 1 ∨ j = 2 ∨ j = 3 := by omega
       rcases hj with rfl | rfl | rfl <;> first | omega | simp_all)
/-- How often a byte below 128 stands ahead of the next rune. -/
theorem count_next (c : Int) (hc : c < 128) (s : ByteArray) (pos : Nat) (h : pos < s.size) :
    ((byt s).take (pos + (Utf8.decode s pos).2)).count c = ((byt s).take pos).count c + (if (s[pos].toNat : Int) = c then 1 else 0) := by
  obtain ⟨h1, h2, h3⟩ := decode_cont s pos h
  have hat : ∀ i, (hi : i < s.size) → (byt s).take (i + 1) = (byt s).take i ++ [(s[i].toNat : Int)] := by
    intro i hi
    rw [List.take_add_one, byt_at s i hi]; rfl
  have hstep : ∀ m, 1 ≤ m → m ≤ (Utf8.decode s pos).2 → ((byt s).take (pos + m)).count c = ((byt s).take (pos + 1)).count c := by
    intro m
    induction m with
    | zero => intro h; omega
    | succ m ih =>
      intro hm1 hm2
      rcases Nat.eq_zero_or_pos m with rfl | hm
      · rfl
      · have hlt : pos + m < s.size := by omega
        have hz := h3 m (by omega) (by omega)
        rw [get_bang s (pos + m) hlt] at hz
        rw [show pos + (m + 1) = pos + m + 1 by omega, hat (pos + m) hlt, List.count_append, ih (by omega) (by omega)]
        have hne : (s[pos + m].toNat : Int) ≠ c := by omega
        rw [List.count_cons_of_ne hne]
        simp
  rw [hstep _ h1 (Nat.le_refl _), hat pos h, List.count_append]
  congr 1
  split
  · rename_i he
    rw [he]; simp
  · rename_i he
    rw [List.count_cons_of_ne he]; rfl
end Go.Proofs.YtdjpdcjljpmfnaaDoor
