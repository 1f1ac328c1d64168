/- The plain functions of chapter 7 (fold) as Lean functions on lists of numbers, and what they come to. No program. -/
import Derived.WalkKit
namespace Go.Proofs.Ytodnfdkcmhiljaa
open Go.RowKit

/-- A header. -/
structure Hd where
  fo : Bool
  st : Bool
  ke : Bool
  dg : Nat
deriving DecidableEq

/-- A header with what c adds to it. -/
def withF (h : Hd) (c : Int) : Option Hd :=
  if (c = 45 ∨ c = 43) ∧ h.st = false ∧ h.ke = false then some ⟨h.fo, decide (c = 45), decide (c = 43), h.dg⟩
  else if 49 ≤ c ∧ c ≤ 57 ∧ h.dg = 0 then some ⟨h.fo, h.st, h.ke, (c - 48).toNat⟩
  else none
def hdGo : Hd → List Int → Hd × Nat
  | h, [] => (h, 0)
  | h, c :: t => match withF h c with
    | none => (h, 0)
    | some g => ((hdGo g t).1, (hdGo g t).2 + 1)
/-- The header at the beginning. -/
def takeH (zs : List Int) : Option (Hd × Nat) :=
  if zs.getD 0 0 = 124 ∨ zs.getD 0 0 = 62 then
    some ((hdGo ⟨decide (zs.getD 0 0 = 62), false, false, 0⟩ (zs.drop 1)).1, (hdGo ⟨decide (zs.getD 0 0 = 62), false, false, 0⟩ (zs.drop 1)).2 + 1)
  else none

theorem hdGo_stop (h : Hd) (c : Int) (t : List Int) (hw : withF h c = none) : hdGo h (c :: t) = (h, 0) := by simp [hdGo, hw]
theorem hdGo_more (h g : Hd) (c : Int) (t : List Int) (hw : withF h c = some g) : hdGo h (c :: t) = ((hdGo g t).1, (hdGo g t).2 + 1) := by simp [hdGo, hw]
/-- How many signs a header may still have. -/
def room (h : Hd) : Nat := (if h.st = false ∧ h.ke = false then 1 else 0) + (if h.dg = 0 then 1 else 0)
theorem with_room (h g : Hd) (c : Int) (hw : withF h c = some g) : room g + 1 = room h := by
  unfold withF at hw
  split at hw
  · rename_i h1
    obtain ⟨h1, h2, h3⟩ := h1
    injection hw with hw
    subst hw
    unfold room
    rcases h1 with h1 | h1 <;> subst h1 <;> simp [h2, h3] <;> omega
  · split at hw
    · rename_i h1
      injection hw with hw
      subst hw
      unfold room
      have : (c - 48).toNat ≠ 0 := by omega
      simp [this, h1.2.2]
    · cases hw
theorem with_full (h : Hd) (c : Int) (h0 : room h = 0) : withF h c = none := by
  cases hw : withF h c with
  | none => rfl
  | some g => have := with_room h g c hw; omega

/-- How many rows there are up to the last one that is not empty. -/
def ahd : List (List Int) → Nat
  | [] => 0
  | r :: t => if ahd t = 0 then (if r = [] then 0 else 1) else ahd t + 1
theorem ahd_le (l : List (List Int)) : ahd l ≤ l.length := by
  induction l with
  | nil => simp [ahd]
  | cons r t ih => simp only [ahd, List.length_cons]; split <;> (try split) <;> omega
theorem ahd_behind (l : List (List Int)) : ∀ k, ahd l ≤ k → k < l.length → l.getD k [] = [] := by
  induction l with
  | nil => intro k _ h; simp at h
  | cons r t ih =>
    intro k h1 h2
    simp only [ahd] at h1
    simp only [List.length_cons] at h2
    cases k with
    | zero =>
      split at h1
      · split at h1
        · rename_i h; simpa using h
        · omega
      · omega
    | succ k =>
      simp only [List.getD_cons_succ]
      exact ih k (by split at h1 <;> (try split at h1) <;> omega) (by omega)
theorem ahd_last (l : List (List Int)) (h : 0 < ahd l) : l.getD (ahd l - 1) [] ≠ [] := by
  induction l with
  | nil => simp [ahd] at h
  | cons r t ih =>
    simp only [ahd] at h ⊢
    split
    · split
      · rename_i h1 h2; rw [if_pos h1, if_pos h2] at h; omega
      · simpa
    · rename_i h1
      rw [show ahd t + 1 - 1 = (ahd t - 1) + 1 by omega, List.getD_cons_succ]
      exact ih (by omega)
/-- Where it is known: nothing behind, and what is ahead of it is not empty. -/
theorem ahd_eq (l : List (List Int)) (n : Nat) (hn : n ≤ l.length) (h1 : ∀ k, n ≤ k → k < l.length → l.getD k [] = []) (h2 : 0 < n → l.getD (n - 1) [] ≠ []) : ahd l = n := by
  have a1 := ahd_le l
  rcases Nat.lt_trichotomy (ahd l) n with h | h | h
  · exact absurd (ahd_behind l (n - 1) (by omega) (by omega)) (h2 (by omega))
  · exact h
  · exact absurd (h1 (ahd l - 1) (by omega) (by omega)) (ahd_last l (by omega))

/-- Does a row begin with a blank? -/
def deep (r : List Int) : Bool := r.getD 0 0 == 9 || r.getD 0 0 == 32
/-- So many breaks. -/
def brs (n : Nat) : List Int := List.replicate n 10
/-- What parts a row from the one ahead of it, with so many empty ones between them. -/
def betw (last row : List Int) (k : Nat) : List Int :=
  if last = [] then brs k else if deep last || deep row then brs (k + 1) else if k = 0 then [32] else brs k
def foldF : List Int → Nat → List (List Int) → List Int
  | _, _, [] => []
  | last, k, r :: t => if r = [] then foldF last (k + 1) t else betw last r k ++ (r ++ foldF r 0 t)
def joinT : List (List Int) → List Int
  | [] => []
  | r :: t => 10 :: (r ++ joinT t)
def joinF : List (List Int) → List Int
  | [] => []
  | r :: t => r ++ joinT t
/-- What stands behind the last row that is not empty. -/
def endN (h : Hd) (a b : Nat) : Nat := if h.st = true then 0 else (if 0 < a then 1 else 0) + (if h.ke = true then b else 0)
def valueF (h : Hd) (l : List (List Int)) : List Int :=
  (if h.fo = true then foldF [] 0 (l.take (ahd l)) else joinF (l.take (ahd l))) ++ brs (endN h (ahd l) (l.length - ahd l))

theorem Byte_brs (n : Nat) : ∀ z ∈ brs n, 0 ≤ z ∧ z < 256 := by
  intro z hz
  simp [brs] at hz
  omega
end Go.Proofs.Ytodnfdkcmhiljaa
