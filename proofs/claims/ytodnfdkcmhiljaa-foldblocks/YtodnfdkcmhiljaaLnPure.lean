/- The plain functions of chapter 2 (lines) as Lean functions on lists of numbers, and what they come to. No program. -/
import Derived.WalkKit
namespace Go.Proofs.Ytodnfdkcmhiljaa
open Go.RowKit

structure Ln where
  f : Nat
  t : Nat
  n : Nat
def Ln.nil : Ln := ⟨0, 0, 0⟩

def mrk (zs : List Int) : Bool := decide (3 ≤ zs.length) && zs.getD 0 0 == 239 && zs.getD 1 0 == 187 && zs.getD 2 0 == 191
def bgn (zs : List Int) : Nat := if mrk zs = true then 3 else 0
theorem bgn_le (zs : List Int) : bgn zs ≤ zs.length := by
  unfold bgn; split
  · rename_i h; unfold mrk at h; simp at h; omega
  · omega
def nl (zs : List Int) (a : Nat) : Nat := (zs.drop a).findIdx (· == 10)
def lnF (zs : List Int) (a : Nat) : Ln :=
  if a + nl zs a < zs.length then ⟨a, if 0 < nl zs a ∧ zs.getD (a + nl zs a - 1) 0 = 13 then a + nl zs a - 1 else a + nl zs a, a + nl zs a + 1⟩ else ⟨a, zs.length, zs.length⟩

theorem nl_no (zs : List Int) (a k : Nat) (h1 : a ≤ k) (h2 : k < a + nl zs a) (h3 : k < zs.length) : zs.getD k 0 ≠ 10 := by
  have := List.not_of_lt_findIdx (p := (· == (10 : Int))) (xs := zs.drop a) (i := k - a) (by unfold nl at h2; omega)
  rw [List.getElem_drop] at this
  simp only [show a + (k - a) = k by omega] at this
  intro h
  simp [List.getD, h3] at h
  rw [h] at this
  simp at this
theorem nl_le (zs : List Int) (a : Nat) (h : a ≤ zs.length) : a + nl zs a ≤ zs.length := by
  have := List.findIdx_le_length (xs := zs.drop a) (p := (· == (10 : Int)))
  rw [List.length_drop] at this
  unfold nl; omega
theorem nl_at (zs : List Int) (a : Nat) (h : a + nl zs a < zs.length) : zs.getD (a + nl zs a) 0 = 10 := by
  have := List.findIdx_getElem (p := (· == (10 : Int))) (xs := zs.drop a) (w := by rw [List.length_drop]; unfold nl at h; omega)
  rw [List.getElem_drop] at this
  simp only [beq_iff_eq] at this
  unfold nl at h ⊢
  simp [List.getD, h, this]

theorem lnF_f (zs : List Int) (a : Nat) : (lnF zs a).f = a := by unfold lnF; split <;> rfl
theorem lnF_bd (zs : List Int) (a : Nat) (h : a ≤ zs.length) : a ≤ (lnF zs a).t ∧ (lnF zs a).t ≤ (lnF zs a).n ∧ (lnF zs a).n ≤ zs.length ∧ (a < zs.length → a < (lnF zs a).n) := by
  have := nl_le zs a h
  unfold lnF
  split
  · refine ⟨?_, ?_, ?_, ?_⟩ <;> simp only [] <;> (try split) <;> omega
  · refine ⟨?_, ?_, ?_, ?_⟩ <;> simp only [] <;> omega
theorem lnF_no (zs : List Int) (a k : Nat) (h1 : a ≤ k) (h2 : k < (lnF zs a).t) (h : a ≤ zs.length) : zs.getD k 0 ≠ 10 := by
  have hle := nl_le zs a h
  unfold lnF at h2
  split at h2
  · simp only [] at h2
    have : k < a + nl zs a := by split at h2 <;> omega
    exact nl_no zs a k h1 this (by omega)
  · simp only [] at h2
    exact nl_no zs a k h1 (by omega) h2
theorem lnF_br (zs : List Int) (a : Nat) (h : a ≤ zs.length) :
    ((lnF zs a).t + 1 = (lnF zs a).n ∧ zs.getD (lnF zs a).t 0 = 10) ∨ ((lnF zs a).t + 2 = (lnF zs a).n ∧ zs.getD (lnF zs a).t 0 = 13 ∧ zs.getD ((lnF zs a).t + 1) 0 = 10) ∨ ((lnF zs a).t = zs.length ∧ (lnF zs a).n = zs.length) := by
  have hle := nl_le zs a h
  have hat := nl_at zs a
  unfold lnF
  split
  · rename_i hlt
    simp only []
    split
    · rename_i hc
      refine .inr (.inl ⟨by omega, hc.2, ?_⟩)
      rw [show a + nl zs a - 1 + 1 = a + nl zs a by omega]
      exact hat hlt
    · exact .inl ⟨rfl, hat hlt⟩
  · exact .inr (.inr ⟨rfl, rfl⟩)

def spl (zs : List Int) : Nat → Nat → List Ln
  | 0, _ => []
  | f + 1, a => if a < zs.length then lnF zs a :: spl zs f (lnF zs a).n else []
def rest (zs : List Int) (a : Nat) : List Ln := spl zs (zs.length - a) a
def splitF (zs : List Int) : List Ln := rest zs (bgn zs)
theorem spl_fuel (zs : List Int) : ∀ f g a, zs.length ≤ f + a → zs.length ≤ g + a → spl zs f a = spl zs g a := by
  intro f
  induction f with
  | zero =>
    intro g a h1 h2
    cases g with
    | zero => rfl
    | succ g => simp only [spl]; rw [if_neg (by omega)]
  | succ f ih =>
    intro g a h1 h2
    cases g with
    | zero => simp only [spl]; rw [if_neg (by omega)]
    | succ g =>
      simp only [spl]
      split
      · rename_i h
        have := (lnF_bd zs a (by omega)).2.2.2 h
        rw [ih g _ (by omega) (by omega)]
      · rfl
theorem rest_cons (zs : List Int) (a : Nat) (h : a < zs.length) : rest zs a = lnF zs a :: rest zs (lnF zs a).n := by
  unfold rest
  have hb := (lnF_bd zs a (by omega)).2.2.2 h
  rw [show zs.length - a = (zs.length - a - 1) + 1 by omega]
  simp only [spl]
  rw [if_pos h]
  congr 1
  exact spl_fuel zs _ _ _ (by omega) (by omega)
theorem rest_nil (zs : List Int) (a : Nat) (h : zs.length ≤ a) : rest zs a = [] := by
  unfold rest; rw [show zs.length - a = 0 by omega]; rfl

/-- Lines, one behind the other. -/
def Chn (zs : List Int) : Nat → List Ln → Prop
  | a, [] => zs.length ≤ a
  | a, l :: t => a < zs.length ∧ l = lnF zs a ∧ Chn zs l.n t
theorem spl_chn (zs : List Int) : ∀ f a, zs.length ≤ f + a → Chn zs a (spl zs f a) := by
  intro f
  induction f with
  | zero => intro a h; simp only [spl, Chn]; omega
  | succ f ih =>
    intro a h
    simp only [spl]
    split
    · rename_i hlt
      have := (lnF_bd zs a (by omega)).2.2.2 hlt
      exact ⟨hlt, rfl, ih _ (by omega)⟩
    · simp only [Chn]; omega
theorem rest_chn (zs : List Int) (a : Nat) : Chn zs a (rest zs a) := spl_chn zs _ _ (by omega)

def lnAt (ls : List Ln) (i : Nat) : Ln := ls.getD i Ln.nil
theorem lnAt_some {ls : List Ln} {i : Nat} (h : i < ls.length) : ls[i]? = some (lnAt ls i) := by
  unfold lnAt; rw [List.getElem?_eq_getElem h]; simp [List.getD, h]
theorem lnAt_zero (l : Ln) (t : List Ln) : lnAt (l :: t) 0 = l := rfl
theorem lnAt_succ (l : Ln) (t : List Ln) (i : Nat) : lnAt (l :: t) (i + 1) = lnAt t i := by simp [lnAt]
theorem chn_at (zs : List Int) : ∀ (ls : List Ln) (a i : Nat), Chn zs a ls → i < ls.length →
    a ≤ (lnAt ls i).f ∧ (lnAt ls i).f < zs.length ∧ lnAt ls i = lnF zs (lnAt ls i).f ∧ (i + 1 < ls.length → (lnAt ls (i + 1)).f = (lnAt ls i).n) ∧ (i + 1 = ls.length → (lnAt ls i).n = zs.length) ∧ (i = 0 → (lnAt ls i).f = a) := by
  intro ls
  induction ls with
  | nil => intro a i _ h; simp at h
  | cons l t ih =>
    intro a i hc hi
    obtain ⟨h1, h2, h3⟩ := hc
    have hf : l.f = a := by rw [h2]; exact lnF_f zs a
    have hb := lnF_bd zs a (by omega)
    cases i with
    | zero =>
      rw [lnAt_zero]
      refine ⟨by omega, by omega, by rw [hf]; exact h2, ?_, ?_, fun _ => hf⟩
      · intro hlen
        rw [lnAt_succ]
        simp at hlen
        exact (ih l.n 0 h3 (by omega)).2.2.2.2.2 rfl
      · intro hlen
        simp at hlen
        have : t = [] := by simpa using hlen.symm
        subst this
        simp only [Chn] at h3
        rw [h2] at h3 ⊢; omega
    | succ i =>
      rw [lnAt_succ]
      simp at hi
      obtain ⟨k1, k2, k3, k4, k5, k6⟩ := ih l.n i h3 hi
      refine ⟨by rw [h2] at k1; omega, k2, k3, ?_, ?_, by omega⟩
      · intro hlen; rw [lnAt_succ]; simp at hlen; exact k4 (by omega)
      · intro hlen; simp at hlen; exact k5 (by omega)
theorem chn_mono (zs : List Int) (ls : List Ln) (a : Nat) (hc : Chn zs a ls) (i : Nat) : ∀ j, i < j → j < ls.length → (lnAt ls i).n ≤ (lnAt ls j).f := by
  intro j
  induction j with
  | zero => intro h; omega
  | succ j ih =>
    intro h1 h2
    have hj := chn_at zs ls a j hc (by omega)
    have := hj.2.2.2.1 h2
    by_cases he : i = j
    · subst he; omega
    · have h3 := ih (by omega) (by omega)
      have hb := lnF_bd zs (lnAt ls j).f (by omega)
      rw [← hj.2.2.1] at hb
      omega
theorem chn_len (zs : List Int) : ∀ (ls : List Ln) (a : Nat), Chn zs a ls → a ≤ zs.length → ls.length + a ≤ zs.length := by
  intro ls
  induction ls with
  | nil => intro a _ h; simpa using h
  | cons l t ih =>
    intro a hc h
    obtain ⟨h1, h2, h3⟩ := hc
    have hb := lnF_bd zs a h
    have := ih l.n h3 (by rw [h2]; omega)
    rw [h2] at this
    simp only [List.length_cons]
    omega

/-- The last index below n of which p holds. -/
def lastI (p : Nat → Bool) : Nat → Option Nat
  | 0 => none
  | n + 1 => if p n then some n else lastI p n
theorem lastI_some (p : Nat → Bool) : ∀ n k, lastI p n = some k → k < n ∧ p k = true ∧ ∀ j, k < j → j < n → p j = false := by
  intro n
  induction n with
  | zero => intro k h; cases h
  | succ n ih =>
    intro k h
    simp only [lastI] at h
    split at h
    · rename_i hp
      injection h with h
      subst h
      exact ⟨by omega, hp, fun j h1 h2 => by omega⟩
    · rename_i hp
      obtain ⟨h1, h2, h3⟩ := ih k h
      refine ⟨by omega, h2, fun j hj1 hj2 => ?_⟩
      by_cases he : j = n
      · subst he; simpa using hp
      · exact h3 j hj1 (by omega)
theorem lastI_none (p : Nat → Bool) : ∀ n, lastI p n = none → ∀ j, j < n → p j = false := by
  intro n
  induction n with
  | zero => intro _ j h; omega
  | succ n ih =>
    intro h j hj
    simp only [lastI] at h
    split at h
    · cases h
    · rename_i hp
      by_cases he : j = n
      · subst he; simpa using hp
      · exact ih h j (by omega)
theorem lastI_eq (p : Nat → Bool) (n k : Nat) (h1 : k < n) (h2 : p k = true) (h3 : ∀ j, k < j → j < n → p j = false) : lastI p n = some k := by
  cases h : lastI p n with
  | none => have := lastI_none p n h k h1; rw [h2] at this; cases this
  | some m =>
    obtain ⟨k1, k2, k3⟩ := lastI_some p n m h
    rcases Nat.lt_trichotomy k m with hlt | rfl | hgt
    · have := h3 m hlt k1; rw [k2] at this; cases this
    · rfl
    · have := k3 k hgt h1; rw [h2] at this; cases this
theorem lastI_no (p : Nat → Bool) (n : Nat) (h : ∀ j, j < n → p j = false) : lastI p n = none := by
  cases h' : lastI p n with
  | none => rfl
  | some m =>
    obtain ⟨k1, k2, k3⟩ := lastI_some p n m h'
    have := h m k1; rw [k2] at this; cases this

def atP (ls : List Ln) (o : Int) (i : Nat) : Bool := decide (((lnAt ls i).f : Int) ≤ o)
def atOut (ls : List Ln) (o : Int) : Option Nat → Int × Int
  | none => (-1, 0)
  | some k => ((k : Int), o - ((lnAt ls k).f : Int))
def atF (ls : List Ln) (o : Int) : Int × Int := atOut ls o (lastI (atP ls o) ls.length)

/-- How many blanks a row begins with. -/
def blanks : List Int → Nat
  | [] => 0
  | c :: t => if c = 32 then blanks t + 1 else 0
def indF (zs : List Int) (l : Ln) : Nat := blanks ((zs.drop l.f).take (l.t - l.f))
theorem blanks_le (l : List Int) : blanks l ≤ l.length := by
  induction l with
  | nil => simp [blanks]
  | cons c t ih => simp only [blanks, List.length_cons]; split <;> omega
theorem indF_le (zs : List Int) (l : Ln) (h : l.f ≤ l.t) : l.f + indF zs l ≤ l.t := by
  have := blanks_le ((zs.drop l.f).take (l.t - l.f))
  rw [List.length_take] at this
  unfold indF; omega
theorem blanks_more (l : List Int) : ∀ k, (∀ j, j < k → l[j]? = some 32) → blanks l = k + blanks (l.drop k) := by
  induction l with
  | nil => intro k h; cases k with
    | zero => simp
    | succ k => have := h 0 (by omega); simp at this
  | cons c t ih =>
    intro k h
    cases k with
    | zero => simp
    | succ k =>
      have h0 := h 0 (by omega)
      simp at h0
      subst h0
      have := ih k (fun j hj => by have := h (j + 1) (by omega); simpa using this)
      simp only [blanks, List.drop_succ_cons]
      rw [this]; simp; omega
/-- Blanks as far as k, and none behind them. -/
theorem indF_stop (zs : List Int) (l : Ln) (k : Nat) (h : l.f + k ≤ l.t) (ht : l.t ≤ zs.length) (hb : ∀ j, j < k → zs.getD (l.f + j) 0 = 32) (hs : l.f + k = l.t ∨ zs.getD (l.f + k) 0 ≠ 32) : indF zs l = k := by
  unfold indF
  rw [blanks_more _ k (fun j hj => by
    rw [List.getElem?_take, if_pos (by omega), List.getElem?_drop]
    have := hb j hj
    rw [List.getElem?_eq_getElem (by omega)]
    rw [List.getD, List.getElem?_eq_getElem (by omega)] at this
    simpa using this)]
  rw [List.drop_take, List.drop_drop]
  rcases hs with hs | hs
  · rw [show l.t - l.f - k = 0 by omega]; simp [blanks]
  · by_cases he : l.f + k = l.t
    · rw [show l.t - l.f - k = 0 by omega]; simp [blanks]
    · rw [List.drop_eq_getElem_cons (by omega), show l.t - l.f - k = (l.t - l.f - k - 1) + 1 by omega, List.take_succ_cons]
      simp only [blanks]
      rw [if_neg (by rw [List.getD, List.getElem?_eq_getElem (by omega)] at hs; simpa using hs)]; rfl
def blkF (zs : List Int) (l : Ln) : Bool := l.f + indF zs l == l.t
/-- The first line's break. -/
def brkF (zs : List Int) : List Int := let l := lnF zs (bgn zs); if l.t = l.n then [10] else (zs.drop l.t).take (l.n - l.t)
end Go.Proofs.Ytodnfdkcmhiljaa
