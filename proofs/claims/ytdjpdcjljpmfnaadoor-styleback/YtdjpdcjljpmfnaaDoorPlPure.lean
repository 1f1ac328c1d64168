/- Chapter 4 (scalars without quotes) as Lean functions on lists of numbers, and facts on them. No program. -/
import Derived.Test.YtdjpdcjljpmfnaaDoorClean
namespace Go.Proofs.YtdjpdcjljpmfnaaDoor
open Go.RowKit
set_option linter.unusedVariables false

def blk (c : Int) : Bool := c == 9 || c == 32
def flo (c : Int) : Bool := [44, 91, 93, 123, 125].contains c
def oth (c : Int) : Bool := [35, 38, 42, 33, 124, 62, 39, 34, 37, 64, 96].contains c
def ent (c : Int) : Bool := [45, 63, 58].contains c
def joinF (zs : List Int) (fl : Bool) : Bool := decide (0 < zs.length) && (!blk (zs.getD 0 0) && !(fl && flo (zs.getD 0 0)))
def docF (zs : List Int) : Bool := zs.take 3 == [45, 45, 45] || zs.take 3 == [46, 46, 46]
def noF (zs : List Int) : Bool := decide (zs.length = 0) || blk (zs.getD 0 0) || flo (zs.getD 0 0) || oth (zs.getD 0 0) || docF zs
def startF (zs : List Int) (fl : Bool) : Bool := !noF zs && (!ent (zs.getD 0 0) || joinF (zs.drop 1) fl)
def endC (zs : List Int) (fl : Bool) (k : Nat) (c : Int) : Bool :=
  c == 9 || (c == 58 && !joinF (zs.drop (k + 1)) fl) || (c == 35 && (decide (0 < k) && zs.getD (k - 1) 0 == 32)) || (fl && flo c)
def endF (zs : List Int) (fl : Bool) (k : Nat) : Bool := endC zs fl k (zs.getD k 0)

/-- The first place, of m places from k on, where p holds (else k + m). -/
def stopF (p : Nat → Bool) : Nat → Nat → Nat
  | 0, k => k
  | m + 1, k => if p k = true then k else stopF p m (k + 1)
theorem stopF_is (p : Nat → Bool) : ∀ m k, k ≤ stopF p m k ∧ stopF p m k ≤ k + m ∧ (∀ i, k ≤ i → i < stopF p m k → p i = false) ∧ (stopF p m k = k + m ∨ p (stopF p m k) = true) := by
  intro m
  induction m with
  | zero => intro k; exact ⟨Nat.le_refl _, Nat.le_refl _, fun i h1 h2 => by simp [stopF] at h2; omega, .inl rfl⟩
  | succ m ih =>
    intro k
    by_cases hp : p k = true
    · have e : stopF p (m + 1) k = k := by rw [stopF, if_pos hp]
      rw [e]
      exact ⟨Nat.le_refl _, by omega, fun i h1 h2 => by omega, .inr hp⟩
    · have e : stopF p (m + 1) k = stopF p m (k + 1) := by rw [stopF, if_neg hp]
      rw [e]
      obtain ⟨h1, h2, h3, h4⟩ := ih (k + 1)
      refine ⟨by omega, by omega, fun i g1 g2 => ?_, ?_⟩
      · by_cases hi : i = k
        · subst hi; simpa using hp
        · exact h3 i (by omega) g2
      · rcases h4 with h4 | h4
        · left; omega
        · right; exact h4
theorem stopF_at (p : Nat → Bool) (m j : Nat) (h2 : j ≤ m) (h3 : ∀ i, i < j → p i = false) (h4 : j = m ∨ p j = true) : stopF p m 0 = j := by
  obtain ⟨g1, g2, g3, g4⟩ := stopF_is p m 0
  generalize stopF p m 0 = s at *
  rcases Nat.lt_trichotomy s j with h | h | h
  · have := h3 s h
    rcases g4 with g4 | g4
    · omega
    · rw [this] at g4; cases g4
  · exact h
  · have := g3 j (by omega) h
    rcases h4 with h4 | h4
    · omega
    · rw [this] at h4; cases h4
/-- Without the blanks at the end of the first k bytes. -/
def trimF (zs : List Int) : Nat → Nat
  | 0 => 0
  | k + 1 => if zs.getD k 0 = 32 then trimF zs k else k + 1
theorem trimF_is (zs : List Int) : ∀ k, trimF zs k ≤ k ∧ (0 < trimF zs k → zs.getD (trimF zs k - 1) 0 ≠ 32) ∧ ∀ i, trimF zs k ≤ i → i < k → zs.getD i 0 = 32 := by
  intro k
  induction k with
  | zero => exact ⟨Nat.le_refl _, fun h => by simp [trimF] at h, fun i _ h => by omega⟩
  | succ k ih =>
    by_cases h : zs.getD k 0 = 32
    · have e : trimF zs (k + 1) = trimF zs k := by rw [trimF, if_pos h]
      rw [e]
      refine ⟨by omega, ih.2.1, fun i h1 h2 => ?_⟩
      by_cases hi : i = k
      · subst hi; exact h
      · exact ih.2.2 i h1 (by omega)
    · have e : trimF zs (k + 1) = k + 1 := by rw [trimF, if_neg h]
      rw [e]
      exact ⟨Nat.le_refl _, fun _ => h, fun i h1 h2 => by omega⟩
theorem trimF_at (zs : List Int) (k j : Nat) (h1 : j ≤ k) (h2 : 0 < j → zs.getD (j - 1) 0 ≠ 32) (h3 : ∀ i, j ≤ i → i < k → zs.getD i 0 = 32) : trimF zs k = j := by
  obtain ⟨g1, g2, g3⟩ := trimF_is zs k
  generalize trimF zs k = t at *
  rcases Nat.lt_trichotomy t j with h | h | h
  · exact absurd (g3 (j - 1) (by omega) (by omega)) (h2 (by omega))
  · exact h
  · exact absurd (h3 (t - 1) (by omega) (by omega)) (g2 (by omega))
theorem trimF_mono (zs : List Int) (a b : Nat) (h : a ≤ b) : trimF zs a ≤ trimF zs b := by
  obtain ⟨g1, g2, g3⟩ := trimF_is zs a
  obtain ⟨k1, k2, k3⟩ := trimF_is zs b
  generalize trimF zs a = s at *
  generalize trimF zs b = t at *
  rcases Nat.lt_or_ge t s with h' | h'
  · exact absurd (k3 (s - 1) (by omega) (by omega)) (g2 (by omega))
  · exact h'
theorem trimF_step (zs : List Int) (k : Nat) (h : zs.getD k 0 = 32) : trimF zs (k + 1) = trimF zs k := by rw [trimF, if_pos h]
theorem trimF_stay (zs : List Int) (k : Nat) (h : zs.getD k 0 ≠ 32) : trimF zs (k + 1) = k + 1 := by rw [trimF, if_neg h]

def lenF (zs : List Int) (fl : Bool) : Nat := if startF zs fl = true then trimF zs (stopF (endF zs fl) zs.length 0) else 0
theorem lenF_no {zs : List Int} {fl : Bool} (h : startF zs fl = false) : lenF zs fl = 0 := by unfold lenF; rw [if_neg (by simp [h])]
theorem lenF_at {zs : List Int} {fl : Bool} (hs : startF zs fl = true) (j : Nat) (h2 : j ≤ zs.length) (h3 : ∀ i, i < j → endF zs fl i = false) (h4 : j = zs.length ∨ endF zs fl j = true) : lenF zs fl = trimF zs j := by
  unfold lenF; rw [if_pos hs, stopF_at _ _ j h2 h3 h4]
def validF (zs : List Int) (fl : Bool) : Bool := decide (0 < zs.length) && (inF false zs.length zs && decide (lenF zs fl = zs.length))

theorem start_len {zs : List Int} {fl : Bool} (h : startF zs fl = true) : 0 < zs.length := by
  unfold startF noF at h
  rcases Nat.eq_zero_or_pos zs.length with h0 | h0
  · rw [decide_eq_true h0] at h; simp at h
  · exact h0
theorem start_first {zs : List Int} {fl : Bool} (h : startF zs fl = true) : noF zs = false ∧ (ent (zs.getD 0 0) = false ∨ joinF (zs.drop 1) fl = true) := by
  unfold startF at h
  simp only [Bool.and_eq_true, Bool.or_eq_true, Bool.not_eq_true'] at h
  exact h
theorem no_parts {zs : List Int} (h : noF zs = false) : 0 < zs.length ∧ blk (zs.getD 0 0) = false ∧ flo (zs.getD 0 0) = false ∧ oth (zs.getD 0 0) = false ∧ docF zs = false := by
  unfold noF at h
  simp only [Bool.or_eq_false_iff, decide_eq_false_iff_not] at h
  exact ⟨by omega, h.1.1.1.2, h.1.1.2, h.1.2, h.2⟩
theorem end_start {zs : List Int} {fl : Bool} (h : startF zs fl = true) : endF zs fl 0 = false := by
  obtain ⟨h1, h2⟩ := start_first h
  obtain ⟨h0, hb, hf, ho, hd⟩ := no_parts h1
  unfold endF endC
  rw [hf]
  unfold blk at hb
  simp only [Bool.or_eq_false_iff] at hb
  rw [hb.1]
  simp only [Nat.lt_irrefl, decide_false, Bool.false_and, Bool.and_false, Bool.or_false, Bool.false_or, Nat.zero_add]
  rcases h2 with h2 | h2
  · have : (zs.getD 0 0 == 58) = false := by
      unfold ent at h2
      simp [-List.getD_eq_getElem?_getD] at h2
      exact beq_eq_false_iff_ne.2 h2.2.2
    rw [this]; rfl
  · rw [h2]; simp
/-- The length: where it begins and ends. -/
theorem len_is (zs : List Int) (fl : Bool) (hs : startF zs fl = true) : ∃ s, 0 < s ∧ s ≤ zs.length ∧ (∀ i, i < s → endF zs fl i = false) ∧ (s = zs.length ∨ endF zs fl s = true) ∧ lenF zs fl = trimF zs s ∧ 0 < lenF zs fl := by
  obtain ⟨h1, h2, h3, h4⟩ := stopF_is (endF zs fl) zs.length 0
  have hl := start_len hs
  have h0 := end_start hs
  have hlen : lenF zs fl = trimF zs (stopF (endF zs fl) zs.length 0) := by unfold lenF; rw [if_pos hs]
  generalize stopF (endF zs fl) zs.length 0 = s at *
  have hs0 : 0 < s := by
    rcases Nat.eq_zero_or_pos s with h | h
    · subst h
      rcases h4 with h4 | h4
      · omega
      · rw [h0] at h4; cases h4
    · exact h
  refine ⟨s, hs0, by omega, fun i hi => h3 i (by omega) hi, by simpa using h4, hlen, ?_⟩
  rw [hlen]
  have hb := (no_parts (start_first hs).1).2.1
  obtain ⟨g1, g2, g3⟩ := trimF_is zs s
  rcases Nat.eq_zero_or_pos (trimF zs s) with h | h
  · have := g3 0 (by omega) hs0
    rw [this] at hb; simp [blk] at hb
  · exact h
theorem len_le (zs : List Int) (fl : Bool) : lenF zs fl ≤ zs.length := by
  cases hs : startF zs fl
  · rw [lenF_no hs]; omega
  · obtain ⟨s, _, h2, _, _, h5, _⟩ := len_is zs fl hs
    have := (trimF_is zs s).1
    omega
theorem len_pos (zs : List Int) (fl : Bool) : decide (0 < lenF zs fl) = startF zs fl := by
  cases hs : startF zs fl
  · rw [lenF_no hs]; rfl
  · obtain ⟨s, _, h2, _, _, h5, h6⟩ := len_is zs fl hs
    exact decide_eq_true h6
theorem join_flow {zs : List Int} (h : joinF zs true = true) : joinF zs false = true := by
  unfold joinF at h ⊢
  simp only [Bool.and_eq_true] at h
  simp [-List.getD_eq_getElem?_getD] at h ⊢
  exact ⟨h.1, h.2.1⟩
theorem start_flow {zs : List Int} (h : startF zs true = true) : startF zs false = true := by
  obtain ⟨h1, h2⟩ := start_first h
  unfold startF
  rw [h1]
  rcases h2 with h2 | h2
  · rw [h2]; rfl
  · rw [join_flow h2]; simp
theorem end_flow {zs : List Int} {k : Nat} (h : endF zs true k = false) : endF zs false k = false := by
  unfold endF endC at h ⊢
  simp only [Bool.or_eq_false_iff, Bool.and_eq_false_iff, Bool.not_eq_false'] at h ⊢
  obtain ⟨⟨⟨h1, h2⟩, h3⟩, h4⟩ := h
  refine ⟨⟨⟨h1, ?_⟩, h3⟩, .inl trivial⟩
  rcases h2 with h2 | h2
  · exact .inl h2
  · exact .inr (join_flow h2)
theorem len_flow (zs : List Int) : lenF zs true ≤ lenF zs false := by
  cases hs : startF zs true
  · rw [lenF_no hs]; omega
  · obtain ⟨s, _, h2, h3, h4, h5, _⟩ := len_is zs true hs
    obtain ⟨t, _, k2, k3, k4, k5, _⟩ := len_is zs false (start_flow hs)
    rw [h5, k5]
    apply trimF_mono
    rcases Nat.lt_or_ge t s with h | h
    · have := end_flow (h3 t h)
      rcases k4 with k4 | k4
      · omega
      · rw [this] at k4; cases k4
    · exact h
theorem len_last (zs : List Int) (fl : Bool) (h : 0 < lenF zs fl) : zs.getD (lenF zs fl - 1) 0 ≠ 32 := by
  cases hs : startF zs fl
  · rw [lenF_no hs] at h; omega
  · obtain ⟨s, _, _, _, _, h5, _⟩ := len_is zs fl hs
    rw [h5] at h ⊢
    exact (trimF_is zs s).2.1 h
theorem valid_flow (zs : List Int) (h : validF zs true = true) : validF zs false = true := by
  unfold validF at h ⊢
  simp only [Bool.and_eq_true, decide_eq_true_eq] at h ⊢
  refine ⟨h.1, h.2.1, ?_⟩
  have := len_flow zs
  have := len_le zs false
  omega
theorem getD_take {zs : List Int} {n i : Nat} (h : i < n) : (zs.take n).getD i 0 = zs.getD i 0 := by
  simp only [List.getD]
  rw [List.getElem?_take, if_pos h]
theorem getD_drop (zs : List Int) (m i : Nat) : (zs.drop m).getD i 0 = zs.getD (m + i) 0 := by
  simp only [List.getD, List.getElem?_drop]
theorem join_take {zs : List Int} {n k : Nat} {fl : Bool} (h : k < n) (hn : n ≤ zs.length) : joinF ((zs.take n).drop k) fl = joinF (zs.drop k) fl := by
  unfold joinF
  rw [getD_drop, getD_drop, Nat.add_zero, getD_take h, List.length_drop, List.length_drop, List.length_take, decide_eq_true (show 0 < min n zs.length - k by omega), decide_eq_true (show 0 < zs.length - k by omega)]
theorem doc_take {zs : List Int} {n : Nat} (h : docF zs = false) : docF (zs.take n) = false := by
  unfold docF at h ⊢
  simp only [Bool.or_eq_false_iff] at h ⊢
  rw [List.take_take]
  rcases Nat.lt_or_ge n 3 with hn | hn
  · rw [Nat.min_eq_right (by omega)]
    have : ∀ l : List Int, l.length = 3 → (zs.take n == l) = false := by
      intro l hl
      apply beq_eq_false_iff_ne.2
      intro e
      have := congrArg List.length e
      rw [List.length_take] at this
      omega
    exact ⟨this _ rfl, this _ rfl⟩
  · rw [Nat.min_eq_left (by omega)]
    exact h
theorem len_part (zs : List Int) (fl : Bool) (n : Nat) (hn : lenF zs fl = n) (h0 : 0 < n) (h1 : ¬ (n = 1 ∧ ent (zs.getD 0 0) = true)) (h2 : zs.getD (n - 1) 0 ≠ 58) : lenF (zs.take n) fl = n := by
  cases hs : startF zs fl
  · rw [lenF_no hs] at hn; omega
  · obtain ⟨s, k1, k2, k3, k4, k5, k6⟩ := len_is zs fl hs
    have hle := len_le zs fl
    have hlast := len_last zs fl k6
    have hsn : n ≤ s := by rw [← hn, k5]; exact (trimF_is zs s).1
    rw [hn] at hlast hle
    have hlen : (zs.take n).length = n := by rw [List.length_take]; omega
    obtain ⟨s1, s2⟩ := start_first hs
    obtain ⟨h0', hb, hf, ho, hd⟩ := no_parts s1
    have hst : startF (zs.take n) fl = true := by
      unfold startF noF
      rw [getD_take h0, hb, hf, ho, doc_take hd, hlen, decide_eq_false (show ¬ n = 0 by omega)]
      simp only [Bool.or_false, Bool.not_false, Bool.true_and]
      cases he : ent (zs.getD 0 0)
      · rfl
      · have hn1 : 1 < n := by
          rcases Nat.lt_or_ge 1 n with h | h
          · exact h
          · exact absurd ⟨by omega, he⟩ h1
        rw [join_take hn1 hle]
        rcases s2 with s2 | s2
        · rw [he] at s2; cases s2
        · rw [s2]; rfl
    have hend : ∀ i, i < n → endF (zs.take n) fl i = false := by
      intro i hi
      have hz := k3 i (by omega)
      unfold endF endC at hz ⊢
      rw [getD_take hi, getD_take (show i - 1 < n by omega)]
      rcases Nat.lt_or_ge (i + 1) n with h | h
      · rw [join_take h hle]; exact hz
      · obtain rfl : i = n - 1 := by omega
        have e : (zs.getD (n - 1) 0 == 58) = false := beq_eq_false_iff_ne.2 h2
        rw [e] at hz ⊢
        exact hz
    rw [lenF_at hst n (by omega) hend (.inl hlen.symm)]
    refine trimF_at _ _ _ (Nat.le_refl _) (fun _ => ?_) (fun i g1 g2 => by omega)
    rw [getD_take (by omega)]
    exact hlast
end Go.Proofs.YtdjpdcjljpmfnaaDoor
