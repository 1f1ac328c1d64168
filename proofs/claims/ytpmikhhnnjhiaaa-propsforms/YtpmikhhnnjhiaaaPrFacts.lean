/- Plain facts on chapter 10: words one behind the other; names made of a pattern. -/
import Derived.Test.YtpmikhhnnjhiaaaPrTake
namespace Go.Proofs.Ytpmikhhnnjhiaaa
open Go.RowKit
set_option linter.unusedVariables false

theorem wrd_app (wd tl : List Int) (h : ∀ z ∈ wd, z ≠ 32) (ht : tl = [] ∨ tl.head? = some 32) : wrdF (wd ++ tl) = wd := by
  induction wd with
  | nil =>
    rcases ht with rfl | ht
    · rfl
    · cases tl with
      | nil => rfl
      | cons x t => simp at ht; subst ht; rfl
  | cons x t ih =>
    have hx := h x (by simp)
    have := ih (fun z hz => h z (by simp [hz]))
    unfold wrdF at this ⊢
    rw [List.cons_append, List.takeWhile_cons, bne_iff_ne.2 hx]
    simp [this]
/-- One word: what comes of it. -/
theorem go_word (f : Nat) (wd tl : List Int) (i n : Nat) (t a : List Int) (hb : begF wd = true) (h : ∀ z ∈ wd, z ≠ 32) (ht : tl = [] ∨ tl.head? = some 32) (t' a' : List Int) (hw : withF t a wd = (t', a', true)) :
    goP (f + 1) (wd ++ tl) i n t a = goP f (tl.drop (blkF tl)) (i + wd.length + blkF tl) (i + wd.length) t' a' := by
  have hw1 := wrd_app wd tl h ht
  have hb1 : begF (wd ++ tl) = true := by cases wd with
    | nil => simp [begF] at hb
    | cons x t => exact hb
  rw [goP_next f _ _ _ _ _ hb1 (by rw [hw1, hw]), hw1, hw]
  simp
theorem go_wordBad (f : Nat) (wd tl : List Int) (i n : Nat) (t a : List Int) (hb : begF wd = true) (h : ∀ z ∈ wd, z ≠ 32) (ht : tl = [] ∨ tl.head? = some 32) (hw : (withF t a wd).2.2 = false) :
    goP (f + 1) (wd ++ tl) i n t a = ([], [], 0, false) := by
  have hw1 := wrd_app wd tl h ht
  have hb1 : begF (wd ++ tl) = true := by cases wd with
    | nil => simp [begF] at hb
    | cons x t => exact hb
  exact goP_bad f _ _ _ _ _ hb1 (by rw [hw1, hw])
theorem go_end (f i n : Nat) (t a tl : List Int) (h : begF tl = false) : goP (f + 1) tl i n t a = (t, a, n, true) := goP_stop f tl i n t a h
/-- What may stand behind a blank: nothing that goes on. -/
def tlOk (r : List Int) : Prop := begF r = false ∧ r.head? ≠ some 32
theorem blk_tl {r : List Int} (h : tlOk r) : blkF r = 0 := by
  cases r with
  | nil => rfl
  | cons x t => rw [blk_cons, if_neg]; intro hx; exact h.2 (by simp [hx])
/-- One word, and what may stand behind it. -/
theorem take_one (wd : List Int) (hb : begF wd = true) (h : ∀ z ∈ wd, z ≠ 32) (t' a' : List Int) (hw : withF [] [] wd = (t', a', true)) (r : List Int) (hr : tlOk r) :
    takeP (wd ++ 32 :: r) = (t', a', wd.length, true) ∧ takeP wd = (t', a', wd.length, true) := by
  have hn : 1 ≤ wd.length := by cases wd with
    | nil => simp [begF] at hb
    | cons x t => simp
  unfold takeP
  constructor
  · rw [go_word _ wd (32 :: r) 0 0 [] [] hb h (.inr rfl) t' a' hw, blk_cons, if_pos rfl, blk_tl hr]
    obtain ⟨m, hm⟩ : ∃ m, (wd ++ 32 :: r).length = m + 1 := ⟨(wd ++ 32 :: r).length - 1, by simp; omega⟩
    rw [hm, go_end _ _ _ _ _ _ (by simpa using hr.1)]
    simp
  · have := go_word wd.length wd [] 0 0 [] [] hb h (.inl rfl) t' a' hw
    rw [List.append_nil] at this
    rw [this]
    obtain ⟨m, hm⟩ : ∃ m, wd.length = m + 1 := ⟨wd.length - 1, by omega⟩
    rw [hm, go_end _ _ _ _ _ _ rfl]
    simp
theorem take_oneBad (wd : List Int) (hb : begF wd = true) (h : ∀ z ∈ wd, z ≠ 32) (hw : (withF [] [] wd).2.2 = false) (tl : List Int) (ht : tl = [] ∨ tl.head? = some 32) : takeP (wd ++ tl) = ([], [], 0, false) :=
  go_wordBad _ wd tl 0 0 [] [] hb h ht hw
/-- Two words, and what may stand behind them. -/
theorem take_two (w1 w2 : List Int) (b1 : begF w1 = true) (b2 : begF w2 = true) (h1 : ∀ z ∈ w1, z ≠ 32) (h2 : ∀ z ∈ w2, z ≠ 32) (t1 a1 t2 a2 : List Int) (e1 : withF [] [] w1 = (t1, a1, true)) (e2 : withF t1 a1 w2 = (t2, a2, true)) (k : Nat) (r : List Int) (hr : tlOk r) :
    takeP (w1 ++ List.replicate (k + 1) 32 ++ w2 ++ 32 :: r) = (t2, a2, w1.length + (k + 1) + w2.length, true) ∧ takeP (w1 ++ List.replicate (k + 1) 32 ++ w2) = (t2, a2, w1.length + (k + 1) + w2.length, true) := by
  have hblk : ∀ (m : Nat) (l : List Int), begF l = true → blkF (List.replicate m 32 ++ l) = m := by
    intro m
    induction m with
    | zero =>
      intro l hl
      cases l with
      | nil => rfl
      | cons x t => rw [List.replicate_zero, List.nil_append, blk_cons, if_neg]; rintro rfl; simp [begF] at hl
    | succ m ih => intro l hl; rw [List.replicate_succ, List.cons_append, blk_cons, if_pos rfl, ih l hl]
  have hdrop : ∀ (m : Nat) (l : List Int), (List.replicate m 32 ++ l).drop m = l := fun m l => List.drop_left' (by simp)
  have hw2 : ∀ l : List Int, begF (w2 ++ l) = true := fun l => by cases w2 with
    | nil => simp [begF] at b2
    | cons x t => exact b2
  have l1 : 1 ≤ w1.length := by cases w1 with
    | nil => simp [begF] at b1
    | cons x t => simp
  have l2 : 1 ≤ w2.length := by cases w2 with
    | nil => simp [begF] at b2
    | cons x t => simp
  unfold takeP
  constructor
  · rw [show w1 ++ List.replicate (k + 1) 32 ++ w2 ++ 32 :: r = w1 ++ (List.replicate (k + 1) 32 ++ (w2 ++ 32 :: r)) by simp]
    obtain ⟨m, hm⟩ : ∃ m, (w1 ++ (List.replicate (k + 1) 32 ++ (w2 ++ 32 :: r))).length = m + 2 := ⟨(w1 ++ (List.replicate (k + 1) 32 ++ (w2 ++ 32 :: r))).length - 2, by simp; omega⟩
    rw [hm, go_word _ w1 _ 0 0 [] [] b1 h1 (.inr (by rw [List.replicate_succ]; rfl)) t1 a1 e1, hblk (k + 1) _ (hw2 _), hdrop, go_word _ w2 (32 :: r) _ _ t1 a1 b2 h2 (.inr rfl) t2 a2 e2, blk_cons, if_pos rfl, blk_tl hr, go_end _ _ _ _ _ _ (by simpa using hr.1)]
    simp
  · rw [show w1 ++ List.replicate (k + 1) 32 ++ w2 = w1 ++ (List.replicate (k + 1) 32 ++ (w2 ++ [])) by simp]
    obtain ⟨m, hm⟩ : ∃ m, (w1 ++ (List.replicate (k + 1) 32 ++ (w2 ++ []))).length = m + 2 := ⟨(w1 ++ (List.replicate (k + 1) 32 ++ (w2 ++ []))).length - 2, by simp; omega⟩
    rw [hm, go_word _ w1 _ 0 0 [] [] b1 h1 (.inr (by rw [List.replicate_succ]; rfl)) t1 a1 e1, hblk (k + 1) _ (hw2 _), hdrop, go_word _ w2 [] _ _ t1 a1 b2 h2 (.inl rfl) t2 a2 e2, go_end _ _ _ _ _ _ rfl]
    simp

/-! ### Names of a pattern -/
def patL (p : List Int) (n : Nat) : List Int := (List.range n).map fun i => p.getD (i % 5) 0
theorem patL_len (p : List Int) (n : Nat) : (patL p n).length = n := by simp [patL]
theorem patL_succ (p : List Int) (n : Nat) : patL p (n + 1) = patL p n ++ [p.getD (n % 5) 0] := by simp [patL, List.range_succ]
theorem patL_mem {p : List Int} {n : Nat} {z : Int} (h : z ∈ patL p n) (hp : p.length = 5) : z ∈ p := by
  simp only [patL, List.mem_map, List.mem_range] at h
  obtain ⟨i, _, rfl⟩ := h
  have : i % 5 < p.length := by omega
  exact List.mem_of_getElem? (getD_at this)
theorem patL_name (p : List Int) (hp : p.length = 5) (ha : p.all nmb = true) (n : Nat) : nameF (patL p n) = (decide (1 ≤ n) && decide (n ≤ 32)) := by
  have : (patL p n).all nmb = true := by
    rw [List.all_eq_true] at ha ⊢
    exact fun z hz => ha z (patL_mem hz hp)
  unfold nameF
  rw [this, patL_len]; simp
theorem patL_head (p : List Int) (hp : 0 < p.length) (n : Nat) (hn : 1 ≤ n) : ∃ t, patL p n = p.getD 0 0 :: t := by
  obtain ⟨m, rfl⟩ : ∃ m, n = m + 1 := ⟨n - 1, by omega⟩
  simp [patL, List.range_succ_eq_map]
theorem name_no32 {l : List Int} (h : l.all nmb = true) : ∀ z ∈ l, z ≠ 32 := by
  rw [List.all_eq_true] at h
  intro z hz e
  subst e
  have := h 32 hz
  revert this; decide
theorem with_anchor (l : List Int) (T : List Int) (h : nameF l = true) : withF T [] (38 :: l) = (T, l, true) := by simp [withF, cutF, h]
theorem with_anchorBad (l : List Int) (T : List Int) (h : nameF l = false) : (withF T [] (38 :: l)).2.2 = false := by simp [withF, cutF, h]
theorem with_tag (l : List Int) (A : List Int) (h : validF (33 :: l) = true) : withF [] A (33 :: l) = (33 :: l, A, true) := by simp [withF, cutF, h]
theorem with_tagBad (l : List Int) (A : List Int) (h : validF (33 :: l) = false) : (withF [] A (33 :: l)).2.2 = false := by simp [withF, cutF, h]
theorem valid_one (x : Int) (t : List Int) (h : x ≠ 33) : validF (33 :: x :: t) = nameF (x :: t) := by simp [validF, cutF, h]
theorem valid_two (x : Int) (t : List Int) : validF (33 :: 33 :: x :: t) = nameF (x :: t) := by simp [validF, cutF]
end Go.Proofs.Ytpmikhhnnjhiaaa
