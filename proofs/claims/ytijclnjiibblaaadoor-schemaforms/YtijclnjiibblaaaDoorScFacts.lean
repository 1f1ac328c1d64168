/- Plain facts: a text is of one kind alone; signs ahead of a number; a blank behind, or ahead. -/
import Derived.Test.YtijclnjiibblaaaDoorScPure
namespace Go.Proofs.YtijclnjiibblaaaDoor
set_option linter.unusedVariables false

theorem null_ways {l : List UInt8} (h : nullF l = true) : l = [] ∨ l = [126] ∨ l = [110, 117, 108, 108] ∨ l = [78, 117, 108, 108] ∨ l = [78, 85, 76, 76] := by
  simp only [nullF, Bool.or_eq_true, beq_iff_eq, List.isEmpty_iff] at h
  simpa [or_assoc] using h
theorem bool_ways {l : List UInt8} (h : boolF l = true) : l = [116, 114, 117, 101] ∨ l = [84, 114, 117, 101] ∨ l = [84, 82, 85, 69] ∨ l = [102, 97, 108, 115, 101] ∨ l = [70, 97, 108, 115, 101] ∨ l = [70, 65, 76, 83, 69] := by
  simp only [boolF, Bool.or_eq_true, beq_iff_eq] at h
  simpa [or_assoc] using h
theorem null_once {l : List UInt8} (h : nullF l = true) : boolF l = false ∧ intF l = false ∧ floF l = false := by
  rcases null_ways h with rfl | rfl | rfl | rfl | rfl <;> decide +kernel
theorem bool_once {l : List UInt8} (h : boolF l = true) : nullF l = false ∧ intF l = false ∧ floF l = false := by
  rcases bool_ways h with rfl | rfl | rfl | rfl | rfl | rfl <;> decide +kernel
theorem null_x {l : List UInt8} (h : nullF l = true) (h0 : l.isEmpty = false) : nullF (l ++ [120]) = false := by
  rcases null_ways h with rfl | rfl | rfl | rfl | rfl
  · cases h0
  all_goals decide +kernel

/-! ### A byte that no word has -/
/-- A byte that stands in none of the words of null and bool. -/
theorem null_has {l : List UInt8} (c : UInt8) (hc : c ∈ l) (h : c ∉ [126, 110, 117, 108, 78, 85, 76]) : nullF l = false := by
  cases hn : nullF l with
  | false => rfl
  | true =>
    exfalso
    rcases null_ways hn with rfl | rfl | rfl | rfl | rfl <;> simp_all
theorem bool_has {l : List UInt8} (c : UInt8) (hc : c ∈ l) (h : c ∉ [116, 114, 117, 101, 84, 82, 85, 69, 102, 97, 108, 115, 70, 65, 76, 83]) : boolF l = false := by
  cases hn : boolF l with
  | false => rfl
  | true =>
    exfalso
    rcases bool_ways hn with rfl | rfl | rfl | rfl | rfl | rfl <;> simp_all
theorem nan_has {l : List UInt8} (c : UInt8) (hc : c ∈ l) (h : c ∉ [46, 110, 97, 78, 65]) : nanF l = false := by
  cases hn : nanF l with
  | false => rfl
  | true =>
    exfalso
    simp only [nanF, Bool.or_eq_true, beq_iff_eq] at hn
    rcases hn with (rfl | rfl) | rfl <;> simp_all
theorem inf_has {l : List UInt8} (c : UInt8) (hc : c ∈ l) (h : c ∉ [46, 105, 110, 102, 73, 78, 70]) : infF l = false := by
  cases hn : infF l with
  | false => rfl
  | true =>
    exfalso
    simp only [infF, Bool.or_eq_true, beq_iff_eq] at hn
    rcases hn with (rfl | rfl) | rfl <;> simp_all
theorem allF_has {cs l : List UInt8} (c : UInt8) (hc : c ∈ l) (h : cs.contains c = false) : allF cs l = false := by
  rw [allF_all]
  have : l.all (cs.contains ·) = false := by
    cases ha : l.all (cs.contains ·) with
    | false => rfl
    | true => have := List.all_eq_true.1 ha c hc; rw [h] at this; cases this
  rw [this, Bool.and_false]
theorem uns_has {l : List UInt8} (c : UInt8) (hc : c ∈ l) (h1 : c ≠ 45) (h2 : c ≠ 43) : c ∈ unsF l := by
  cases l with
  | nil => cases hc
  | cons d t =>
    rw [unsF]
    split
    · rcases List.mem_cons.1 hc with rfl | h
      · rename_i h; rcases h with h | h
        · exact absurd h h1
        · exact absurd h h2
      · exact h
    · exact hc
theorem pre_has {l : List UInt8} (a b c : UInt8) (hc : c ∈ l) (h1 : c ≠ a) (h2 : c ≠ b) : c ∈ Lib.trimPrefix l [a, b] := by
  unfold Lib.trimPrefix
  split
  · rename_i hp
    rw [← Lib.hasPrefix_of_take, Bool.and_eq_true, beq_iff_eq] at hp
    have := List.take_append_drop 2 l
    rw [show l.take 2 = [a, b] from hp.2] at this
    rw [← this] at hc
    simp only [List.cons_append, List.nil_append, List.mem_cons] at hc
    rcases hc with h | h | h
    · exact absurd h h1
    · exact absurd h h2
    · exact h
  · exact hc
/-- With a byte that is no digit of sixteen, no sign and no letter of a base there is no whole number. -/
theorem int_has {l : List UInt8} (c : UInt8) (hc : c ∈ l) (h : hexU.contains c = false) (h1 : c ≠ 45) (h2 : c ≠ 43) (h3 : c ≠ 111) (h4 : c ≠ 120) : intF l = false := by
  have hd : c ≠ 48 := fun e => by subst e; revert h; decide
  have ho : octD.contains c = false := by
    cases ho : octD.contains c with
    | false => rfl
    | true =>
      have := List.all_eq_true.1 (show octD.all (hexU.contains ·) = true by decide) c (by simpa using ho)
      rw [h] at this; cases this
  have ht : tenD.contains c = false := by
    cases ho : tenD.contains c with
    | false => rfl
    | true =>
      have := List.all_eq_true.1 (show tenD.all (hexU.contains ·) = true by decide) c (by simpa using ho)
      rw [h] at this; cases this
  unfold intF
  split
  · exact allF_has c (pre_has _ _ c hc hd h3) ho
  · split
    · exact allF_has c (pre_has _ _ c hc hd h4) h
    · exact allF_has c (uns_has c hc h1 h2) ht

/-! ### Blanks -/
theorem blank_behind (l : List UInt8) : boolF (l ++ [32]) = false ∧ nullF (l ++ [32]) = false ∧ intF (l ++ [32]) = false := by
  have hm : (32 : UInt8) ∈ l ++ [32] := by simp
  exact ⟨bool_has 32 hm (by decide), null_has 32 hm (by decide), int_has 32 hm (by decide) (by decide) (by decide) (by decide) (by decide)⟩
/-- What begins with neither a digit, a sign nor a point is no other number, either. -/
theorem flo_head (c : UInt8) (t : List UInt8) (h1 : tenD.contains c = false) (h2 : c ≠ 45) (h3 : c ≠ 43) (h4 : c ≠ 46) : floF (c :: t) = false := by
  have hu : unsF (c :: t) = c :: t := by rw [unsF, if_neg (by intro h; rcases h with h | h; exact h2 h; exact h3 h)]
  have hn : nanF (c :: t) = false := by simp [nanF, h4]
  have hi : infF (c :: t) = false := by simp [infF, h4]
  have ht : trimF tenD (c :: t) = c :: t := by rw [trimF_cons, h1, if_neg (by simp)]
  have hp : ptF (c :: t) = c :: t := by
    rw [ptF, ht, Lib.trimPrefix, if_neg]
    simp only [Lib.hasPrefix, List.isPrefixOf, Bool.and_true, beq_iff_eq]
    exact fun h => h4 h.symm
  have hb : fracB (c :: t) = false := by rw [fracB, fracR, hp, ht]; simp
  rw [floF, hu, hn, hi, hb]; rfl

/-! ### Signs -/
theorem uns_sign (c : UInt8) (t : List UInt8) (h : c = 45 ∨ c = 43) : unsF (c :: t) = t := by rw [unsF, if_pos h]
theorem uns_same (c : UInt8) (t : List UInt8) (h1 : c ≠ 45) (h2 : c ≠ 43) : unsF (c :: t) = c :: t := by
  rw [unsF, if_neg (by intro h; rcases h with h | h; exact h1 h; exact h2 h)]
theorem pre_no (a b c : UInt8) (t : List UInt8) (h : c ≠ a) : Lib.hasPrefix (c :: t) [a, b] = false := by
  simp only [Lib.hasPrefix, List.isPrefixOf, beq_eq_false_iff_ne.2 (fun e : a = c => h e.symm), Bool.false_and]
theorem int_sign (c : UInt8) (t : List UInt8) (h : c = 45 ∨ c = 43) : intF (c :: t) = allF tenD t := by
  have h48 : c ≠ 48 := by rcases h with rfl | rfl <;> decide
  rw [intF, pre_no _ _ _ _ h48, pre_no _ _ _ _ h48, uns_sign c t h]; simp
/-- A number's first byte is a digit, its second one none of the letters of a base: whole if all are digits. -/
theorem int_plain (c : UInt8) (t : List UInt8) (hc : tenD.contains c = true) (h : ∀ x, t[0]? = some x → x ≠ 111 ∧ x ≠ 120) : intF (c :: t) = allF tenD (c :: t) := by
  have hs1 : c ≠ 45 := fun e => by subst e; revert hc; decide
  have hs2 : c ≠ 43 := fun e => by subst e; revert hc; decide
  have hp : ∀ b : UInt8, (b = 111 ∨ b = 120) → Lib.hasPrefix (c :: t) [48, b] = false := by
    intro b hb
    cases t with
    | nil => simp [Lib.hasPrefix, List.isPrefixOf]
    | cons d u =>
      have := h d rfl
      have hd : b ≠ d := by rintro rfl; rcases hb with hb | hb; exact this.1 hb; exact this.2 hb
      simp [Lib.hasPrefix, List.isPrefixOf, hd]
  rw [intF, hp 111 (.inl rfl), hp 120 (.inr rfl), uns_same c t hs1 hs2]; simp
/-- Float of a text without a sign that does not begin with a point. -/
def fltF (l : List UInt8) : Bool := fracB l && ((fracR l).isEmpty || expF (fracR l))
theorem flo_plain (c : UInt8) (t : List UInt8) (hc : tenD.contains c = true) : floF (c :: t) = fltF (c :: t) := by
  have hs1 : c ≠ 45 := fun e => by subst e; revert hc; decide
  have hs2 : c ≠ 43 := fun e => by subst e; revert hc; decide
  have hs3 : c ≠ 46 := fun e => by subst e; revert hc; decide
  have hn : nanF (c :: t) = false := by simp [nanF, hs3]
  have hi : infF (c :: t) = false := by simp [infF, hs3]
  rw [floF, uns_same c t hs1 hs2, hn, hi]; rfl
theorem flo_sign (s c : UInt8) (t : List UInt8) (h : s = 45 ∨ s = 43) (hc : c ≠ 46) : floF (s :: c :: t) = fltF (c :: t) := by
  have hs3 : s ≠ 46 := by rcases h with rfl | rfl <;> decide
  have hn : nanF (s :: c :: t) = false := by simp [nanF, hs3]
  have hi : infF (c :: t) = false := by simp [infF, hc]
  rw [floF, uns_sign s _ h, hn, hi]; rfl
theorem flt_sign (t : List UInt8) : fltF (45 :: t) = false := by
  have ht : trimF tenD (45 :: t) = 45 :: t := by rw [trimF_cons, show tenD.contains 45 = false by decide, if_neg (by simp)]
  have hp : ptF (45 :: t) = 45 :: t := by
    rw [ptF, ht, Lib.trimPrefix, if_neg]
    simp [Lib.hasPrefix, List.isPrefixOf]
  rw [fltF, fracB, fracR, hp, ht]; simp
theorem flt_all (l : List UInt8) (h : allF tenD l = true) : fltF l = true := by
  unfold allF at h
  rw [Bool.and_eq_true] at h
  have h0 : trimF tenD l = [] := List.isEmpty_iff.1 h.2
  have hp : ptF l = [] := by rw [ptF, h0]; rfl
  have hr : fracR l = [] := by rw [fracR, hp]; rfl
  have hl : 0 < l.length := by
    cases l with
    | nil => simp at h
    | cons _ _ => simp
  rw [fltF, fracB, hr, hp, h0]
  simp [hl]
/-- All that a law asks of a number and its signs. -/
theorem sign_facts (c : UInt8) (t : List UInt8) (hc : tenD.contains c = true) (h : ∀ x, t[0]? = some x → x ≠ 111 ∧ x ≠ 120) :
    intF (45 :: c :: t) = intF (c :: t) ∧ intF (43 :: c :: t) = intF (c :: t) ∧ floF (45 :: c :: t) = floF (c :: t) ∧ intF (45 :: 45 :: c :: t) = false ∧ floF (43 :: 45 :: c :: t) = false ∧ (intF (c :: t) = true → floF (c :: t) = true) := by
  have hc3 : c ≠ 46 := fun e => by subst e; revert hc; decide
  refine ⟨?_, ?_, ?_, ?_, ?_, ?_⟩
  · rw [int_sign 45 _ (.inl rfl), int_plain c t hc h]
  · rw [int_sign 43 _ (.inr rfl), int_plain c t hc h]
  · rw [flo_sign 45 c t (.inl rfl) hc3, flo_plain c t hc]
  · rw [int_sign 45 _ (.inl rfl)]; exact allF_has 45 (by simp) (by decide)
  · rw [flo_sign 43 45 _ (.inr rfl) (by decide)]; exact flt_sign _
  · intro hi
    rw [flo_plain c t hc]
    rw [int_plain c t hc h] at hi
    exact flt_all _ hi
end Go.Proofs.YtijclnjiibblaaaDoor
