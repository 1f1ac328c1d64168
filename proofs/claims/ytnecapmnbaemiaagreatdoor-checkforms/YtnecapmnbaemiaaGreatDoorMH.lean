/- Chapter 12: a node's places lie in its parent's, one behind the other. No program. -/
import Derived.Test.YtnecapmnbaemiaaGreatDoorMG
set_option linter.unusedSimpArgs false
set_option linter.unusedVariables false
namespace Go.Proofs.YtnecapmnbaemiaaGreatDoor
open Go.RowKit
set_option linter.unusedVariables false
set_option maxRecDepth 100000
/-- Kids behind the node i, whose places lie one behind the other from last on, up to top. -/
def Chn (at_ : Nat → Option Nd) (i top : Nat) : Nat → List Nat → Prop
  | _, [] => True
  | last, k :: ks => ∃ y, i < k ∧ at_ k = some y ∧ last ≤ y.st ∧ y.en ≤ top ∧ Chn at_ i top y.en ks
theorem Chn.nil {f : Nat → Option Nd} {i top last : Nat} : Chn f i top last [] := trivial
theorem Chn.weak {f g : Nat → Option Nd} (hfg : ∀ k y, f k = some y → g k = some y) {i top top' : Nat} (ht : top ≤ top') : ∀ {ks : List Nat} {last last' : Nat}, last' ≤ last → Chn f i top last ks → Chn g i top' last' ks
  | [], _, _, _, _ => trivial
  | k :: ks, last, last', hl, h => by
    obtain ⟨y, h1, h2, h3, h4, h5⟩ := h
    exact ⟨y, h1, hfg _ _ h2, by omega, by omega, h5.weak hfg ht (Nat.le_refl _)⟩
theorem Chn.app {f : Nat → Option Nd} {i n s2 n2 : Nat} (hn : n ≤ s2) (hn2 : n ≤ n2) {k2 : List Nat} (h2 : Chn f i n2 s2 k2) : ∀ {ks : List Nat} {s : Nat}, s ≤ n → Chn f i n s ks → Chn f i n2 s (ks ++ k2)
  | [], s, hs, _ => h2.weak (fun _ _ h => h) (Nat.le_refl _) (by omega)
  | k :: ks, s, hs, h => by
    obtain ⟨y, h1, h2', h3, h4, h5⟩ := h
    exact ⟨y, h1, h2', h3, by omega, Chn.app hn hn2 h2 h4 h5⟩
def lkp (base : Nat) (l : List Nd) (k : Nat) : Option Nd := if base ≤ k then l[k - base]? else none
/-- Each node's Kids. -/
def Sps (base : Nat) (l : List Nd) (f : Nat → Option Nd) : Prop := ∀ (i : Nat) (x : Nd), l[i]? = some x → x.st ≤ x.en ∧ Chn f (base + i) x.en x.st x.kids
theorem Sps.weak {base : Nat} {l : List Nd} {f g : Nat → Option Nd} (hfg : ∀ k y, f k = some y → g k = some y) (h : Sps base l f) : Sps base l g := fun i x hi => ⟨(h i x hi).1, (h i x hi).2.weak hfg (Nat.le_refl _) (Nat.le_refl _)⟩
theorem Sps.nil (base : Nat) (f : Nat → Option Nd) : Sps base [] f := fun i x h => by simp at h
theorem Sps.cons {base : Nat} {l : List Nd} {f : Nat → Option Nd} {z : Nd} (h : Sps (base + 1) l f) (h1 : z.st ≤ z.en) (h2 : Chn f base z.en z.st z.kids) : Sps base (z :: l) f := by
  intro i x hi
  cases i with
  | zero => simp at hi; subst hi; exact ⟨h1, h2⟩
  | succ i =>
    rw [List.getElem?_cons_succ] at hi
    have := h i x hi
    rw [show base + 1 + i = base + (i + 1) by omega] at this
    exact this
theorem Sps.app {base : Nat} {l m : List Nd} {f : Nat → Option Nd} (h : Sps base l f) (h2 : Sps (base + l.length) m f) : Sps base (l ++ m) f := by
  intro i x hi
  rcases Nat.lt_or_ge i l.length with hl | hl
  · rw [List.getElem?_append_left hl] at hi; exact h i x hi
  · rw [List.getElem?_append_right hl] at hi
    have := h2 _ x hi
    rw [show base + l.length + (i - l.length) = base + i by omega] at this
    exact this
end Go.Proofs.YtnecapmnbaemiaaGreatDoor
