/- Chapter 11 (what stands behind a node on its line) as Lean functions on lists of numbers, and what they come to. No program. -/
import Derived.Test.YtjdmbldbbohdbaaBlk
namespace Go.Proofs.Ytjdmbldbbohdbaa
open Go.RowKit
set_option linter.unusedVariables false

/-- A comment begins behind the blanks. -/
def cmtF (l : List Int) : Bool := decide (0 < blkF l) && (decide (blkF l < l.length) && l.getD (blkF l) 0 == 35)
def clrF (l : List Int) : Bool := decide (blkF l = l.length) || cmtF l
def mkF (l : List Int) (k : Int) : Int := if clrF l then k else if l.getD 0 0 == 32 || l.getD 0 0 == 9 then 3 else 0
def pfxF (p l : List Int) : Bool := decide (p.length ≤ l.length) && l.take p.length == p
def mrkF (l : List Int) : Int := if pfxF [45, 45, 45] l then mkF (l.drop 3) 1 else if pfxF [46, 46, 46] l then mkF (l.drop 3) 2 else 0

theorem clr_nil : clrF [] = true := rfl
theorem clr_pos {l : List Int} (h : clrF l = false) : 0 < l.length := by
  cases l with
  | nil => simp [clr_nil] at h
  | cons x t => simp
theorem cmt_lt {l : List Int} (h : cmtF l = true) : blkF l < l.length := by
  unfold cmtF at h
  simp only [Bool.and_eq_true, decide_eq_true_eq] at h
  exact h.2.1
/-- Blanks alone are clear. -/
theorem clr_rep (n : Nat) : clrF (List.replicate n 32) = true := by
  have h := blk_rep n []
  simp only [List.append_nil] at h
  unfold clrF
  rw [h]
  simp [blkF]
theorem cmt_sign (n : Nat) (t : List Int) : cmtF (List.replicate n 32 ++ 35 :: t) = decide (0 < n) := by
  have h : blkF (List.replicate n 32 ++ 35 :: t) = n := by rw [blk_rep, blk_none (by decide)]; omega
  unfold cmtF
  rw [h]
  have h1 : decide (n < (List.replicate n (32 : Int) ++ 35 :: t).length) = true := by simp
  have h2 : ((List.replicate n (32 : Int) ++ 35 :: t).getD n 0 == 35) = true := by simp [List.getD]
  rw [h1, h2]
  simp
theorem clr_sign (n : Nat) (t : List Int) : clrF (List.replicate n 32 ++ 35 :: t) = decide (0 < n) := by
  have h : blkF (List.replicate n 32 ++ 35 :: t) = n := by rw [blk_rep, blk_none (by decide)]; omega
  unfold clrF
  rw [cmt_sign, h]
  simp
theorem blk_sign (n : Nat) (x : Int) (t : List Int) (hx : x ≠ 32) : blkF (List.replicate n 32 ++ x :: t) = n := by rw [blk_rep, blk_none hx]; omega
theorem clr_other (n : Nat) (x : Int) (t : List Int) (h1 : x ≠ 32) (h2 : x ≠ 35) : clrF (List.replicate n 32 ++ x :: t) = false := by
  have h := blk_sign n x t h1
  unfold clrF cmtF
  rw [h]
  have h4 : decide (n = (List.replicate n (32 : Int) ++ x :: t).length) = false := decide_eq_false (by simp)
  have h5 : ((List.replicate n (32 : Int) ++ x :: t).getD n 0 == 35) = false := by simp [List.getD, h2]
  rw [h4, h5]
  simp

/-! ### Markers of known heads -/
theorem mk_clear {l : List Int} {q : Int} (h : clrF l = true) : mkF l q = q := by unfold mkF; rw [if_pos h]
theorem mrk_begin (l : List Int) (h : clrF l = true) : mrkF ([45, 45, 45] ++ l) = 1 := by
  have : mrkF ([45, 45, 45] ++ l) = mkF l 1 := by simp [mrkF, pfxF]
  rw [this, mk_clear h]
theorem mrk_end (l : List Int) (h : clrF l = true) : mrkF ([46, 46, 46] ++ l) = 2 := by
  have : mrkF ([46, 46, 46] ++ l) = mkF l 2 := by simp [mrkF, pfxF]
  rw [this, mk_clear h]
/-- What may stand ahead of a marker's rest. -/
def isMk (m : List Int) : Prop := m = [45, 45, 45] ∨ m = [46, 46, 46]
theorem mrk_rest {m l : List Int} (hm : isMk m) (h : clrF l = false) : mrkF (m ++ l) = if l.getD 0 0 == 32 || l.getD 0 0 == 9 then 3 else 0 := by
  rcases hm with rfl | rfl
  · have : mrkF ([45, 45, 45] ++ l) = mkF l 1 := by simp [mrkF, pfxF]
    rw [this]; unfold mkF; rw [h, if_neg (by simp)]
  · have : mrkF ([46, 46, 46] ++ l) = mkF l 2 := by simp [mrkF, pfxF]
    rw [this]; unfold mkF; rw [h, if_neg (by simp)]
theorem mrk_bad (t : List Int) : mrkF ([45, 45, 45, 32, 120] ++ t) = 3 := by
  have := mrk_rest (m := [45, 45, 45]) (l := 32 :: 120 :: t) (.inl rfl) (clr_other 1 120 t (by decide) (by decide))
  exact this
theorem mrk_none (t : List Int) : mrkF ([45, 45, 45, 120] ++ t) = 0 := by
  have := mrk_rest (m := [45, 45, 45]) (l := 120 :: t) (.inl rfl) (clr_other 0 120 t (by decide) (by decide))
  exact this
theorem mrk_two (n : Nat) : mrkF ([45, 45] ++ List.replicate n 32) = 0 := by
  cases n with
  | zero => rfl
  | succ n => simp [mrkF, pfxF, List.replicate_succ]
theorem mrk_in (t : List Int) : mrkF ([32, 45, 45, 45] ++ t) = 0 := by simp [mrkF, pfxF]
end Go.Proofs.Ytjdmbldbbohdbaa
