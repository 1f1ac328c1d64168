/- The order of splices: sorted by insertion, in place and beside. Plain facts. -/
import Derived.Test.YtegamojidckmcaaSpFacts
namespace Go.Proofs.Ytegamojidckmcaa
open Go.RowKit
set_option linter.unusedVariables false

def cmpI (x y : Int) : Int := if x < y then -1 else if y < x then 1 else 0
def cmpF (a b : Sp) : Int := if cmpI a.f b.f ≠ 0 then cmpI a.f b.f else cmpI a.t b.t
def ltS (a b : Sp) : Bool := decide (cmpF a b < 0)
theorem ltS_iff {a b : Sp} : ltS a b = true ↔ a.f < b.f ∨ (a.f = b.f ∧ a.t < b.t) := by
  unfold ltS cmpF cmpI
  rw [decide_eq_true_eq]
  split <;> split <;> (try split) <;> (try split) <;> omega
theorem ltS_not {a b : Sp} : ltS a b = false ↔ b.f < a.f ∨ (a.f = b.f ∧ b.t ≤ a.t) := by
  have := @ltS_iff a b
  cases h : ltS a b with
  | true => rw [h] at this; simp at this; constructor
            · intro h; cases h
            · intro h; omega
  | false => rw [h] at this; simp at this; constructor
             · intro _; omega
             · intro _; rfl
def swp (d : List Sp) (j : Nat) : List Sp := (d.set j (spAt d (j + 1))).set (j + 1) (spAt d j)
def insAt : List Sp → Nat → List Sp
  | d, 0 => d
  | d, j + 1 => if ltS (spAt d (j + 1)) (spAt d j) = true then insAt (swp d j) j else d
def sortUp (d : List Sp) : Nat → List Sp
  | 0 => d
  | k + 1 => insAt (sortUp d k) k
def insPos (P : List Sp) (x : Sp) : Nat → Nat
  | 0 => 0
  | k + 1 => if ltS x (spAt P k) = true then insPos P x k else k + 1
def refIns (P : List Sp) (x : Sp) : List Sp := P.take (insPos P x P.length) ++ x :: P.drop (insPos P x P.length)
def mergeUp (l : List Sp) : Nat → List Sp
  | 0 => []
  | k + 1 => refIns (mergeUp l k) (spAt l k)

theorem swp_len (d : List Sp) (j : Nat) : (swp d j).length = d.length := by simp [swp]
theorem insAt_len : ∀ (j : Nat) (d : List Sp), (insAt d j).length = d.length
  | 0, d => rfl
  | j + 1, d => by
    unfold insAt
    split
    · rw [insAt_len, swp_len]
    · rfl
theorem sortUp_len (d : List Sp) : ∀ k, (sortUp d k).length = d.length
  | 0 => rfl
  | k + 1 => by unfold sortUp; rw [insAt_len, sortUp_len]
theorem insPos_le (P : List Sp) (x : Sp) : ∀ k, insPos P x k ≤ k
  | 0 => Nat.le_refl _
  | k + 1 => by
    unfold insPos
    split
    · have := insPos_le P x k; omega
    · exact Nat.le_refl _
theorem refIns_len (P : List Sp) (x : Sp) : (refIns P x).length = P.length + 1 := by
  have := insPos_le P x P.length
  simp [refIns]; omega
theorem mergeUp_len (l : List Sp) : ∀ k, (mergeUp l k).length = k
  | 0 => rfl
  | k + 1 => by unfold mergeUp; rw [refIns_len, mergeUp_len]
theorem spAt_app_l {l m : List Sp} {k : Nat} (h : k < l.length) : spAt (l ++ m) k = spAt l k := by
  simp [spAt, List.getD, List.getElem?_append_left h]
theorem spAt_app_r {l m : List Sp} {k : Nat} (h : l.length ≤ k) : spAt (l ++ m) k = spAt m (k - l.length) := by
  simp [spAt, List.getD, List.getElem?_append_right h]
theorem swp_at (Q : List Sp) (y x : Sp) (S : List Sp) : swp (Q ++ y :: x :: S) Q.length = Q ++ x :: y :: S := by
  unfold swp
  have e1 : spAt (Q ++ y :: x :: S) (Q.length + 1) = x := by rw [spAt_app_r (by omega)]; simp [spAt]
  have e2 : spAt (Q ++ y :: x :: S) Q.length = y := by rw [spAt_app_r (by omega)]; simp [spAt]
  rw [e1, e2, List.set_append_right _ _ (by omega), List.set_append_right _ _ (by omega)]
  simp
theorem insAt_eq (P : List Sp) (x : Sp) (R : List Sp) : ∀ j, j ≤ P.length → insAt (P.take j ++ x :: (P.drop j ++ R)) j = P.take (insPos P x j) ++ x :: P.drop (insPos P x j) ++ R
  | 0, _ => by simp [insAt, insPos]
  | j + 1, h => by
    have hj : j < P.length := by omega
    have ht : P.take (j + 1) = P.take j ++ [spAt P j] := by rw [List.take_add_one, spAt_some hj]; rfl
    have hd : P.drop j = spAt P j :: P.drop (j + 1) := drop_cons hj
    have hl : (P.take j).length = j := by rw [List.length_take]; omega
    have e0 : P.take (j + 1) ++ x :: (P.drop (j + 1) ++ R) = P.take j ++ spAt P j :: x :: (P.drop (j + 1) ++ R) := by rw [ht]; simp
    rw [e0]
    have e1 : spAt (P.take j ++ spAt P j :: x :: (P.drop (j + 1) ++ R)) (j + 1) = x := by rw [spAt_app_r (by omega), hl, show j + 1 - j = 1 by omega]; simp [spAt]
    have e2 : spAt (P.take j ++ spAt P j :: x :: (P.drop (j + 1) ++ R)) j = spAt P j := by rw [spAt_app_r (by omega), hl, Nat.sub_self]; simp [spAt]
    unfold insAt insPos
    rw [e1, e2]
    by_cases hlt : ltS x (spAt P j) = true
    · rw [if_pos hlt, if_pos hlt]
      have hs := swp_at (P.take j) (spAt P j) x (P.drop (j + 1) ++ R)
      rw [hl] at hs
      have ih := insAt_eq P x R j (by omega)
      rw [hd] at ih
      rw [hs]
      exact ih
    · rw [if_neg hlt, if_neg hlt, ht]
      simp
theorem sort_merge (l : List Sp) : ∀ k, k ≤ l.length → sortUp l k = mergeUp l k ++ l.drop k
  | 0, _ => by simp [sortUp, mergeUp]
  | k + 1, h => by
    have hk : k < l.length := by omega
    unfold sortUp mergeUp
    rw [sort_merge l k (by omega), drop_cons hk]
    have hl := mergeUp_len l k
    have := insAt_eq (mergeUp l k) (spAt l k) (l.drop (k + 1)) k (by omega)
    rw [List.take_of_length_le (by omega), List.drop_of_length_le (by omega), List.nil_append] at this
    rw [this]
    unfold refIns
    rw [hl]
theorem sort_all (l : List Sp) : sortUp l l.length = mergeUp l l.length := by
  rw [sort_merge l _ (Nat.le_refl _), List.drop_length, List.append_nil]

/-! ### The same ones -/
theorem refIns_perm (P : List Sp) (x : Sp) : (refIns P x).Perm (P ++ [x]) := by
  unfold refIns
  generalize insPos P x P.length = k
  have h1 : (P.take k ++ x :: P.drop k).Perm (x :: (P.take k ++ P.drop k)) := List.perm_middle
  rw [List.take_append_drop] at h1
  exact h1.trans (List.perm_append_comm (l₁ := [x]) (l₂ := P))
theorem merge_perm (l : List Sp) : ∀ k, k ≤ l.length → (mergeUp l k).Perm (l.take k)
  | 0, _ => by simp [mergeUp]
  | k + 1, h => by
    have hk : k < l.length := by omega
    have ht : l.take (k + 1) = l.take k ++ [spAt l k] := by rw [List.take_add_one, spAt_some hk]; rfl
    unfold mergeUp
    rw [ht]
    exact (refIns_perm _ _).trans ((merge_perm l k (by omega)).append_right _)

/-! ### In order -/
/-- By From, then To, then a third number. -/
def lt3 (g : Sp → Int) (a b : Sp) : Prop := a.f < b.f ∨ (a.f = b.f ∧ (a.t < b.t ∨ (a.t = b.t ∧ g a < g b)))
theorem refIns_sorted (g : Sp → Int) (x : Sp) (P : List Sp) (hP : P.Pairwise (lt3 g)) (hx : ∀ y ∈ P, g y < g x) : (refIns P x).Pairwise (lt3 g) := by
  have key : ∀ j, j ≤ P.length → (∀ i, j ≤ i → i < P.length → ltS x (spAt P i) = true) → (P.take (insPos P x j) ++ x :: P.drop (insPos P x j)).Pairwise (lt3 g) := by
    intro j
    induction j with
    | zero =>
      intro _ hi
      simp only [insPos, List.take_zero, List.drop_zero, List.nil_append, List.pairwise_cons]
      refine ⟨fun y hy => ?_, hP⟩
      obtain ⟨i, hi', e⟩ := List.getElem_of_mem hy
      have h1 := hi i (by omega) hi'
      have e2 : spAt P i = y := by
        have := spAt_some hi'
        rw [List.getElem?_eq_getElem hi', e] at this
        injection this with this; exact this.symm
      rw [e2, ltS_iff] at h1
      unfold lt3; omega
    | succ j ih =>
      intro hj hi
      have hjl : j < P.length := by omega
      unfold insPos
      by_cases hlt : ltS x (spAt P j) = true
      · rw [if_pos hlt]
        refine ih (by omega) fun i h1 h2 => ?_
        rcases Nat.lt_or_ge j i with h3 | h3
        · exact hi i h3 h2
        · obtain rfl : i = j := by omega
          exact hlt
      · rw [if_neg hlt]
        have hnl : ltS x (spAt P j) = false := by simpa using hlt
        rw [ltS_not] at hnl
        have hspl : P = P.take (j + 1) ++ P.drop (j + 1) := (List.take_append_drop _ _).symm
        have ht : P.take (j + 1) = P.take j ++ [spAt P j] := by rw [List.take_add_one, spAt_some hjl]; rfl
        have hP' := hP
        rw [hspl, List.pairwise_append] at hP'
        obtain ⟨p1, p2, p3⟩ := hP'
        rw [List.pairwise_append, List.pairwise_cons]
        have hgy := hx _ (spAt_mem hjl)
        have hyx : lt3 g (spAt P j) x := by unfold lt3; omega
        refine ⟨p1, ⟨fun y hy => ?_, p2⟩, fun a ha b hb => ?_⟩
        · obtain ⟨i, hi', e⟩ := List.getElem_of_mem hy
          rw [List.length_drop] at hi'
          rw [List.getElem_drop] at e
          have h1 := hi (j + 1 + i) (by omega) (by omega)
          have e2 : spAt P (j + 1 + i) = y := by
            have := spAt_some (l := P) (k := j + 1 + i) (by omega)
            rw [List.getElem?_eq_getElem (by omega), e] at this
            injection this with this; exact this.symm
          rw [e2, ltS_iff] at h1
          unfold lt3; omega
        · rcases List.mem_cons.1 hb with rfl | hb
          · rw [ht] at ha
            rcases List.mem_append.1 ha with h | h
            · rw [ht, List.pairwise_append] at p1
              have h1 := p1.2.2 a h (spAt P j) (by simp)
              unfold lt3 at *; omega
            · simp at h; subst h; exact hyx
          · exact p3 a ha b hb
  exact key P.length (Nat.le_refl _) fun i h1 h2 => by omega
theorem merge_sorted (g : Sp → Int) (l : List Sp) (hg : ∀ i j, i < j → j < l.length → g (spAt l i) < g (spAt l j)) : ∀ k, k ≤ l.length → (mergeUp l k).Pairwise (lt3 g)
  | 0, _ => by simp [mergeUp]
  | k + 1, h => by
    unfold mergeUp
    refine refIns_sorted g _ _ (merge_sorted g l hg k (by omega)) fun y hy => ?_
    have hm := (merge_perm l k (by omega)).mem_iff.1 hy
    obtain ⟨i, hi, e⟩ := List.getElem_of_mem hm
    rw [List.length_take] at hi
    rw [List.getElem_take] at e
    have e2 : spAt l i = y := by
      have := spAt_some (l := l) (k := i) (by omega)
      rw [List.getElem?_eq_getElem (by omega), e] at this
      injection this with this; exact this.symm
    rw [← e2]
    exact hg i k (by omega) (by omega)
theorem pair_at {R : Sp → Sp → Prop} {l : List Sp} (h : l.Pairwise R) {i j : Nat} (hij : i < j) (hj : j < l.length) : R (spAt l i) (spAt l j) := by
  have := List.pairwise_iff_getElem.1 h i j (by omega) hj hij
  have e1 := spAt_some (l := l) (k := i) (by omega)
  have e2 := spAt_some (l := l) (k := j) hj
  rw [List.getElem?_eq_getElem (by omega)] at e1 e2
  injection e1 with e1
  injection e2 with e2
  rwa [e1, e2] at this
end Go.Proofs.Ytegamojidckmcaa
