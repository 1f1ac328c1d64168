/- Chapter 4 (scalars without quotes) as Lean functions on lists of numbers, and facts on them. No program. · The contracts of package plain's functions on bytes: blank, among, joined, documentMark, ends, Starts. · The contracts of ends and Starts. · The contracts of Length, inLine, Valid. · The contracts of the document's answers: PlainStarts, PlainLength, clean, PlainValid. · The contracts of PlainLength and PlainValid, the document's answers. · PlainValid, the document's answer; the document's examples. -/
import Derived.Test.YtcddlconcngjlaaQA
import Derived.Deep.DeepCutAuto
set_option linter.unusedSimpArgs false
set_option linter.unusedVariables false
namespace Go.Proofs.Ytcddlconcngjlaa
open Go.RowKit
set_option linter.unusedVariables false
set_option maxRecDepth 100000
def blk (c : Int) : Bool := c == 9 || c == 32
def flo (c : Int) : Bool := [44, 91, 93, 123, 125].contains c
def oth (c : Int) : Bool := [35, 38, 42, 33, 124, 62, 39, 34, 37, 64, 96].contains c
def ent (c : Int) : Bool := [45, 63, 58].contains c
def joinF (zs : List Int) (fl : Bool) : Bool := decide (0 < zs.length) && (!blk (zs.getD 0 0) && !(fl && flo (zs.getD 0 0)))
def docF (zs : List Int) : Bool := zs.take 3 == [45, 45, 45] || zs.take 3 == [46, 46, 46]
def noF (zs : List Int) : Bool := decide (zs.length = 0) || blk (zs.getD 0 0) || flo (zs.getD 0 0) || oth (zs.getD 0 0) || docF zs
def startF (zs : List Int) (fl : Bool) : Bool := !noF zs && (!ent (zs.getD 0 0) || joinF (zs.drop 1) fl)
def endC (zs : List Int) (fl : Bool) (k : Nat) (c : Int) : Bool :=
  c == 9 || (c == 58 && !joinF (zs.drop (k + 1)) fl) || (c == 35 && (decide (0 < k) && zs.getD (k - 1) 0 == 32)) || (fl && flo c)
def endF (zs : List Int) (fl : Bool) (k : Nat) : Bool := endC zs fl k (zs.getD k 0)
/-- The first place, of m places from k on, where p holds (else k + m). -/
def stopF (p : Nat → Bool) : Nat → Nat → Nat
  | 0, k => k
  | m + 1, k => if p k = true then k else stopF p m (k + 1)
theorem stopF_is (p : Nat → Bool) : ∀ m k, k ≤ stopF p m k ∧ stopF p m k ≤ k + m ∧ (∀ i, k ≤ i → i < stopF p m k → p i = false) ∧ (stopF p m k = k + m ∨ p (stopF p m k) = true) := by
  intro m
  induction m with
  | zero => intro k; exact ⟨Nat.le_refl _, Nat.le_refl _, fun i h1 h2 => by simp [stopF] at h2; omega, .inl rfl⟩
  | succ m ih =>
    intro k
    by_cases hp : p k = true
    · have e : stopF p (m + 1) k = k := by rw [stopF, if_pos hp]
      rw [e]
      exact ⟨Nat.le_refl _, by omega, fun i h1 h2 => by omega, .inr hp⟩
    · have e : stopF p (m + 1) k = stopF p m (k + 1) := by rw [stopF, if_neg hp]
      rw [e]
      obtain ⟨h1, h2, h3, h4⟩ := ih (k + 1)
      refine ⟨by omega, by omega, fun i g1 g2 => ?_, ?_⟩
      · by_cases hi : i = k
        · subst hi; simpa using hp
        · exact h3 i (by omega) g2
      · rcases h4 with h4 | h4
        · left; omega
        · right; exact h4
theorem stopF_at (p : Nat → Bool) (m j : Nat) (h2 : j ≤ m) (h3 : ∀ i, i < j → p i = false) (h4 : j = m ∨ p j = true) : stopF p m 0 = j := by
  obtain ⟨g1, g2, g3, g4⟩ := stopF_is p m 0
  generalize stopF p m 0 = s at *
  rcases Nat.lt_trichotomy s j with h | h | h
  · have := h3 s h
    rcases g4 with g4 | g4
    · omega
    · rw [this] at g4; cases g4
  · exact h
  · have := g3 j (by omega) h
    rcases h4 with h4 | h4
    · omega
    · rw [this] at h4; cases h4
/-- Without the blanks at the end of the first k bytes. -/
def trimF (zs : List Int) : Nat → Nat
  | 0 => 0
  | k + 1 => if zs.getD k 0 = 32 then trimF zs k else k + 1
theorem trimF_is (zs : List Int) : ∀ k, trimF zs k ≤ k ∧ (0 < trimF zs k → zs.getD (trimF zs k - 1) 0 ≠ 32) ∧ ∀ i, trimF zs k ≤ i → i < k → zs.getD i 0 = 32 := by
  intro k
  induction k with
  | zero => exact ⟨Nat.le_refl _, fun h => by simp [trimF] at h, fun i _ h => by omega⟩
  | succ k ih =>
    by_cases h : zs.getD k 0 = 32
    · have e : trimF zs (k + 1) = trimF zs k := by rw [trimF, if_pos h]
      rw [e]
      refine ⟨by omega, ih.2.1, fun i h1 h2 => ?_⟩
      by_cases hi : i = k
      · subst hi; exact h
      · exact ih.2.2 i h1 (by omega)
    · have e : trimF zs (k + 1) = k + 1 := by rw [trimF, if_neg h]
      rw [e]
      exact ⟨Nat.le_refl _, fun _ => h, fun i h1 h2 => by omega⟩
theorem trimF_step (zs : List Int) (k : Nat) (h : zs.getD k 0 = 32) : trimF zs (k + 1) = trimF zs k := by rw [trimF, if_pos h]
theorem trimF_stay (zs : List Int) (k : Nat) (h : zs.getD k 0 ≠ 32) : trimF zs (k + 1) = k + 1 := by rw [trimF, if_neg h]
def lenF (zs : List Int) (fl : Bool) : Nat := if startF zs fl = true then trimF zs (stopF (endF zs fl) zs.length 0) else 0
theorem lenF_no {zs : List Int} {fl : Bool} (h : startF zs fl = false) : lenF zs fl = 0 := by unfold lenF; rw [if_neg (by simp [h])]
theorem lenF_at {zs : List Int} {fl : Bool} (hs : startF zs fl = true) (j : Nat) (h2 : j ≤ zs.length) (h3 : ∀ i, i < j → endF zs fl i = false) (h4 : j = zs.length ∨ endF zs fl j = true) : lenF zs fl = trimF zs j := by
  unfold lenF; rw [if_pos hs, stopF_at _ _ j h2 h3 h4]
def validF (zs : List Int) (fl : Bool) : Bool := decide (0 < zs.length) && (inF false zs.length zs && decide (lenF zs fl = zs.length))
theorem start_len {zs : List Int} {fl : Bool} (h : startF zs fl = true) : 0 < zs.length := by
  unfold startF noF at h
  rcases Nat.eq_zero_or_pos zs.length with h0 | h0
  · rw [decide_eq_true h0] at h; simp at h
  · exact h0
theorem start_first {zs : List Int} {fl : Bool} (h : startF zs fl = true) : noF zs = false ∧ (ent (zs.getD 0 0) = false ∨ joinF (zs.drop 1) fl = true) := by
  unfold startF at h
  simp only [Bool.and_eq_true, Bool.or_eq_true, Bool.not_eq_true'] at h
  exact h
theorem no_parts {zs : List Int} (h : noF zs = false) : 0 < zs.length ∧ blk (zs.getD 0 0) = false ∧ flo (zs.getD 0 0) = false ∧ oth (zs.getD 0 0) = false ∧ docF zs = false := by
  unfold noF at h
  simp only [Bool.or_eq_false_iff, decide_eq_false_iff_not] at h
  exact ⟨by omega, h.1.1.1.2, h.1.1.2, h.1.2, h.2⟩
theorem end_start {zs : List Int} {fl : Bool} (h : startF zs fl = true) : endF zs fl 0 = false := by
  obtain ⟨h1, h2⟩ := start_first h
  obtain ⟨h0, hb, hf, ho, hd⟩ := no_parts h1
  unfold endF endC
  rw [hf]
  unfold blk at hb
  simp only [Bool.or_eq_false_iff] at hb
  rw [hb.1]
  simp only [Nat.lt_irrefl, decide_false, Bool.false_and, Bool.and_false, Bool.or_false, Bool.false_or, Nat.zero_add]
  rcases h2 with h2 | h2
  · have : (zs.getD 0 0 == 58) = false := by
      unfold ent at h2
      simp [-List.getD_eq_getElem?_getD] at h2
      exact beq_eq_false_iff_ne.2 h2.2.2
    rw [this]; rfl
  · rw [h2]; simp
/-- The length: where it begins and ends. -/
theorem len_is (zs : List Int) (fl : Bool) (hs : startF zs fl = true) : ∃ s, 0 < s ∧ s ≤ zs.length ∧ (∀ i, i < s → endF zs fl i = false) ∧ (s = zs.length ∨ endF zs fl s = true) ∧ lenF zs fl = trimF zs s ∧ 0 < lenF zs fl := by
  obtain ⟨h1, h2, h3, h4⟩ := stopF_is (endF zs fl) zs.length 0
  have hl := start_len hs
  have h0 := end_start hs
  have hlen : lenF zs fl = trimF zs (stopF (endF zs fl) zs.length 0) := by unfold lenF; rw [if_pos hs]
  generalize stopF (endF zs fl) zs.length 0 = s at *
  have hs0 : 0 < s := by
    rcases Nat.eq_zero_or_pos s with h | h
    · subst h
      rcases h4 with h4 | h4
      · omega
      · rw [h0] at h4; cases h4
    · exact h
  refine ⟨s, hs0, by omega, fun i hi => h3 i (by omega) hi, by simpa using h4, hlen, ?_⟩
  rw [hlen]
  have hb := (no_parts (start_first hs).1).2.1
  obtain ⟨g1, g2, g3⟩ := trimF_is zs s
  rcases Nat.eq_zero_or_pos (trimF zs s) with h | h
  · have := g3 0 (by omega) hs0
    rw [this] at hb; simp [blk] at hb
  · exact h
theorem len_le (zs : List Int) (fl : Bool) : lenF zs fl ≤ zs.length := by
  cases hs : startF zs fl
  · rw [lenF_no hs]; omega
  · obtain ⟨s, _, h2, _, _, h5, _⟩ := len_is zs fl hs
    have := (trimF_is zs s).1
    omega
theorem len_pos (zs : List Int) (fl : Bool) : decide (0 < lenF zs fl) = startF zs fl := by
  cases hs : startF zs fl
  · rw [lenF_no hs]; rfl
  · obtain ⟨s, _, h2, _, _, h5, h6⟩ := len_is zs fl hs
    exact decide_eq_true h6
theorem getD_drop (zs : List Int) (m i : Nat) : (zs.drop m).getD i 0 = zs.getD (m + i) 0 := by
  simp only [List.getD, List.getElem?_drop]
theorem doc_eq (zs : List Int) : docF zs = (decide (3 ≤ zs.length) && (zs.take 3 == [45, 45, 45] || zs.take 3 == [46, 46, 46])) := by
  unfold docF
  rcases Nat.lt_or_ge zs.length 3 with h | h
  · rw [decide_eq_false (by omega)]
    have : ∀ l : List Int, l.length = 3 → (zs.take 3 == l) = false := by
      intro l hl
      apply beq_eq_false_iff_ne.2
      intro e
      have := congrArg List.length e
      rw [List.length_take] at this
      omega
    rw [this _ rfl, this _ rfl]; rfl
  · rw [decide_eq_true h]; rfl
theorem start_no {zs : List Int} {fl : Bool} (h : noF zs = true) : startF zs fl = false := by unfold startF; rw [h]; rfl
theorem start_yes {zs : List Int} {fl : Bool} (h : noF zs = false) : startF zs fl = (!ent (zs.getD 0 0) || joinF (zs.drop 1) fl) := by unfold startF; rw [h]; rfl
theorem in_all (x : Int) : hasB ⟨#[44, 91, 93, 123, 125, 35, 38, 42, 33, 124, 62, 39, 34, 37, 64, 96]⟩ x = (flo x || oth x) := by
  unfold hasB
  have e : byt ⟨#[44, 91, 93, 123, 125, 35, 38, 42, 33, 124, 62, 39, 34, 37, 64, 96]⟩ = [44, 91, 93, 123, 125] ++ [35, 38, 42, 33, 124, 62, 39, 34, 37, 64, 96] := rfl
  rw [e, List.contains_append]
  rfl
set_option maxHeartbeats 2000000 in
theorem refStarts_any (A : Option Addr) (n c : Nat) (zs : List Int) (fl : Bool) (w : World) (hl : zs.length = n) (hnc : n ≤ c) (hm : c ≤ 9223372036854775807) (hb : Byte zs) (hr : RdB w A zs) (v : Bool) (hv : startF zs fl = v) :
    Calls Try.prog 92 #[.slice A n c, .bool fl] w fun e w' => e = .returned (.bool v) ∧ w = w' := by
  subst hv
  by_cases h0 : 0 < n
  · obtain ⟨b, off, rfl, hc⟩ := hr.addr (by omega)
    have c1 : w.cell? ⟨b, off, none⟩ = some (.int .u8 (zs.getD 0 0)) := hc 0 (by omega)
    have d : (0 : Int) < (n : Int) := by omega
    have d0 : ((n : Int) == 0) = false := beq_eq_false_iff_ne.2 (by omega)
    have en : noF zs = (blk (zs.getD 0 0) || flo (zs.getD 0 0) || oth (zs.getD 0 0) || docF zs) := by
      unfold noF; rw [decide_eq_false (by omega)]; simp only [Bool.false_or]
    have es1 := fun h => start_no (zs := zs) (fl := fl) h
    have es2 := fun h => start_yes (zs := zs) (fl := fl) h
    have ej : joinF (zs.drop 1) fl = (decide (1 < n) && (!blk (zs.getD 1 0) && !(fl && flo (zs.getD 1 0)))) := by
      unfold joinF; rw [getD_drop, List.length_drop, hl, decide_eq_decide.2 (show 0 < n - 1 ↔ 1 < n by omega)]
    rw [en] at es1 es2
    rw [ej] at es2
    have ia := in_all (zs.getD 0 0)
    have c2 := fun h : 1 < n => hc 1 (by omega)
    have hcv := fun h : 3 ≤ n => run_string_rd w (some ⟨b, off, none⟩) 3 c (zs.take 3) (by rw [List.length_take]; omega) (hr.take 3)
    have hdoc := doc_eq zs
    rw [hl] at hdoc
    have q1 := str_eq (zs.take 3) (hb.take 3) ⟨#[45, 45, 45]⟩
    have q2 := str_eq (zs.take 3) (hb.take 3) ⟨#[46, 46, 46]⟩
    have hs3 : 3 ≤ n → ∀ W, (Instr.slice 96 (.slice (some ⟨b, off, none⟩) n c) none (some (.int .i64 3)) none).run Try.prog W = .ok (.slice (some ⟨b, off, none⟩) 3 c) W := fun h => slice_h (some ⟨b, off, none⟩) n c 3 h hnc (fun h => by cases h)
    have b1 : byt ⟨#[45, 45, 45]⟩ = [45, 45, 45] := rfl
    have b2 : byt ⟨#[46, 46, 46]⟩ = [46, 46, 46] := rfl
    rw [b1] at q1
    rw [b2] at q2
    rw [← q1, ← q2] at hdoc
    unfold blk at es1 es2
    clear q1 q2 b1 b2 en ej hc hr hl hb
    generalize zs.getD 0 0 = x at *
    generalize zs.getD 1 0 = y at *
    generalize strOfNums (zs.take 3) = s3 at *
    have t1 : (⟨#[45, 45, 45]⟩ : ByteArray).toList = [45, 45, 45] := by decide +kernel
    have t2 : (⟨#[46, 46, 46]⟩ : ByteArray).toList = [46, 46, 46] := by decide +kernel
    rw [t1, t2] at hdoc
    have e3 : ent x = hasB ⟨#[45, 63, 58]⟩ x := rfl
    have e5 : flo y = hasB ⟨#[44, 91, 93, 123, 125]⟩ y := rfl
    rw [e3, e5] at es2
    rw [Bool.or_assoc (x == 9 || x == 32) (flo x) (oth x), ← ia] at es1 es2
    clear ia t1 t2 e3 e5
    by_cases h3 : 3 ≤ n
    · have hcv' := hcv h3
      have hs3' := hs3 h3
      have c2' := c2 (by omega)
      have d3 : (3 : Int) ≤ (n : Int) := by omega
      have d1 : (1 : Int) < (n : Int) := by omega
      rw [decide_eq_true h3, Bool.true_and] at hdoc
      rw [decide_eq_true (show 1 < n by omega), Bool.true_and] at es2
      rw [hdoc] at es1 es2
      have E1 := Lib.hid es1
      have E2 := Lib.hid es2
      clear es1 es2 hdoc hcv hs3 c2 h3
      go_enter Try.func92, Try.ntmps92
      go_wp2_with (go_at_call 107; refine (refIn_has _ _ _ (by decide)).mono ?_; rintro e w' ⟨rfl, rfl⟩)
      all_goals go_ret
      all_goals first
        | (refine ⟨ret_bool (E1.out ?_).symm, rfl⟩; simp_all; done)
        | (refine ⟨ret_bool ((E2.out ?_).trans ?_).symm, rfl⟩ <;> (simp_all; done))
        | (refine ⟨ret_bool ((E2.out ?_).trans ?_).symm, rfl⟩ <;> (simp_all [bne]; done))
    · rw [decide_eq_false h3] at hdoc
      rw [hdoc] at es1 es2
      have d3 : decide ((3 : Int) ≤ (n : Int)) = false := decide_eq_false (by omega)
      by_cases h1 : 1 < n
      · have c2' := c2 h1
        have d1 : (1 : Int) < (n : Int) := by omega
        rw [decide_eq_true h1, Bool.true_and] at es2
        have E1 := Lib.hid es1
        have E2 := Lib.hid es2
        clear es1 es2 hdoc hcv hs3 c2 h3
        go_enter Try.func92, Try.ntmps92
        go_wp2_with (go_at_call 107; refine (refIn_has _ _ _ (by decide)).mono ?_; rintro e w' ⟨rfl, rfl⟩)
        all_goals go_ret
        all_goals first
          | (refine ⟨ret_bool (E1.out ?_).symm, rfl⟩; simp_all; done)
          | (refine ⟨ret_bool ((E2.out ?_).trans ?_).symm, rfl⟩ <;> (simp_all; done))
          | (refine ⟨ret_bool ((E2.out ?_).trans ?_).symm, rfl⟩ <;> (simp_all [bne]; done))
      · have d1 : decide ((1 : Int) < (n : Int)) = false := decide_eq_false (by omega)
        rw [decide_eq_false h1, Bool.false_and] at es2
        have E1 := Lib.hid es1
        have E2 := Lib.hid es2
        clear es1 es2 hdoc hcv hs3 c2 h3
        go_enter Try.func92, Try.ntmps92
        go_wp2_with (go_at_call 107; refine (refIn_has _ _ _ (by decide)).mono ?_; rintro e w' ⟨rfl, rfl⟩)
        all_goals go_ret
        all_goals first
          | (refine ⟨ret_bool (E1.out ?_).symm, rfl⟩; simp_all; done)
          | (refine ⟨ret_bool ((E2.out ?_).trans ?_).symm, rfl⟩ <;> (simp_all; done))
          | (refine ⟨ret_bool ((E2.out ?_).trans ?_).symm, rfl⟩ <;> (simp_all [bne]; done))
  · have d0 : ((n : Int) == 0) = true := beq_iff_eq.2 (by omega)
    have e : startF zs fl = false := by unfold startF noF; rw [decide_eq_true (show zs.length = 0 by omega)]; simp
    rw [e]
    clear e hr hl hb
    go_enter Try.func92, Try.ntmps92
    go_wp2
    go_ret
    exact ⟨rfl, rfl⟩
def flS : ByteArray := ⟨#[44, 91, 93, 123, 125]⟩
theorem join_cases (zs : List Int) (n : Nat) (hl : zs.length = n) (fl : Bool) (k : Nat) : (joinF (zs.drop (k + 1)) fl = false ↔ (n ≤ k + 1 ∨ k + 1 < n ∧ zs.getD (k + 1) 0 = 9 ∨ k + 1 < n ∧ zs.getD (k + 1) 0 = 32 ∨ k + 1 < n ∧ zs.getD (k + 1) 0 ≠ 9 ∧ zs.getD (k + 1) 0 ≠ 32 ∧ fl = true ∧ flo (zs.getD (k + 1) 0) = true)) ∧
    (joinF (zs.drop (k + 1)) fl = true ↔ (k + 1 < n ∧ zs.getD (k + 1) 0 ≠ 9 ∧ zs.getD (k + 1) 0 ≠ 32 ∧ (fl = false ∨ flo (zs.getD (k + 1) 0) = false))) := by
  unfold joinF
  rw [getD_drop, List.length_drop, hl, Nat.add_zero]
  unfold blk
  generalize zs.getD (k + 1) 0 = y
  by_cases h : k + 1 < n
  · rw [decide_eq_true (show 0 < n - (k + 1) by omega)]
    by_cases h9 : y = 9
    · subst h9; simp; omega
    · by_cases h32 : y = 32
      · subst h32; simp; omega
      · cases fl <;> cases hf : flo y <;> simp [h9, h32, h] <;> omega
  · rw [decide_eq_false (show ¬ 0 < n - (k + 1) by omega)]
    simp; omega
/-- Where it ends: test by test. -/
theorem end_ways {zs : List Int} {n : Nat} (hl : zs.length = n) {fl : Bool} {k : Nat} (h : endF zs fl k = true) : zs.getD k 0 = 9 ∨ (zs.getD k 0 = 58 ∧ n ≤ k + 1) ∨ (zs.getD k 0 = 58 ∧ k + 1 < n ∧ zs.getD (k + 1) 0 = 9) ∨ (zs.getD k 0 = 58 ∧ k + 1 < n ∧ zs.getD (k + 1) 0 = 32) ∨
    (zs.getD k 0 = 58 ∧ k + 1 < n ∧ (zs.getD (k + 1) 0 == 9) = false ∧ (zs.getD (k + 1) 0 == 32) = false ∧ fl = true ∧ hasB flS (zs.getD (k + 1) 0) = true) ∨ (zs.getD k 0 = 35 ∧ 0 < k ∧ zs.getD (k - 1) 0 = 32) ∨
    ((zs.getD k 0 == 9) = false ∧ (zs.getD k 0 == 58) = false ∧ (zs.getD k 0 == 35) = false ∧ fl = true ∧ hasB flS (zs.getD k 0) = true) := by
  have hj := (join_cases zs n hl fl k).1
  unfold endF endC at h
  simp only [Bool.or_eq_true, Bool.and_eq_true, Bool.not_eq_true', beq_iff_eq, decide_eq_true_eq] at h
  by_cases h9 : zs.getD k 0 = 9
  · exact .inl h9
  · rcases h with ((h | h) | h) | h
    · exact .inl h
    · rcases hj.1 h.2 with g | g | g | g
      · exact .inr (.inl ⟨h.1, g⟩)
      · exact .inr (.inr (.inl ⟨h.1, g⟩))
      · exact .inr (.inr (.inr (.inl ⟨h.1, g⟩)))
      · exact .inr (.inr (.inr (.inr (.inl ⟨h.1, g.1, beq_eq_false_iff_ne.2 g.2.1, beq_eq_false_iff_ne.2 g.2.2.1, g.2.2.2.1, g.2.2.2.2⟩))))
    · exact .inr (.inr (.inr (.inr (.inr (.inl h)))))
    · refine .inr (.inr (.inr (.inr (.inr (.inr ⟨beq_eq_false_iff_ne.2 h9, beq_eq_false_iff_ne.2 ?_, beq_eq_false_iff_ne.2 ?_, h.1, h.2⟩)))))
      · intro e; rw [e] at h; exact absurd h.2 (by decide)
      · intro e; rw [e] at h; exact absurd h.2 (by decide)
/-- Where it goes on: test by test. -/
theorem on_ways {zs : List Int} {n : Nat} (hl : zs.length = n) {fl : Bool} {k : Nat} (h : endF zs fl k = false) :
    (zs.getD k 0 = 58 ∧ k + 1 < n ∧ (zs.getD (k + 1) 0 == 9) = false ∧ (zs.getD (k + 1) 0 == 32) = false ∧ fl = false) ∨
    (zs.getD k 0 = 58 ∧ k + 1 < n ∧ (zs.getD (k + 1) 0 == 9) = false ∧ (zs.getD (k + 1) 0 == 32) = false ∧ fl = true ∧ hasB flS (zs.getD (k + 1) 0) = false) ∨
    (zs.getD k 0 = 35 ∧ k = 0) ∨ (zs.getD k 0 = 35 ∧ 0 < k ∧ (zs.getD (k - 1) 0 == 32) = false) ∨
    ((zs.getD k 0 == 9) = false ∧ (zs.getD k 0 == 58) = false ∧ (zs.getD k 0 == 35) = false ∧ fl = false) ∨
    ((zs.getD k 0 == 9) = false ∧ (zs.getD k 0 == 58) = false ∧ (zs.getD k 0 == 35) = false ∧ fl = true ∧ hasB flS (zs.getD k 0) = false) := by
  have hj := (join_cases zs n hl fl k).2
  unfold endF endC at h
  simp only [Bool.or_eq_false_iff, Bool.and_eq_false_iff, Bool.not_eq_false', beq_eq_false_iff_ne, decide_eq_false_iff_not] at h
  obtain ⟨⟨⟨h9, h58⟩, h35⟩, hf⟩ := h
  by_cases e58 : zs.getD k 0 = 58
  · rcases h58 with h58 | h58
    · exact absurd e58 h58
    · obtain ⟨g1, g2, g3, g4⟩ := hj.1 h58
      cases fl
      · exact .inl ⟨e58, g1, beq_eq_false_iff_ne.2 g2, beq_eq_false_iff_ne.2 g3, rfl⟩
      · rcases g4 with g4 | g4
        · cases g4
        · exact .inr (.inl ⟨e58, g1, beq_eq_false_iff_ne.2 g2, beq_eq_false_iff_ne.2 g3, rfl, g4⟩)
  · by_cases e35 : zs.getD k 0 = 35
    · rcases h35 with h35 | h35 | h35
      · exact absurd e35 h35
      · exact .inr (.inr (.inl ⟨e35, by omega⟩))
      · rcases Nat.eq_zero_or_pos k with h0 | h0
        · exact .inr (.inr (.inl ⟨e35, h0⟩))
        · exact .inr (.inr (.inr (.inl ⟨e35, h0, beq_eq_false_iff_ne.2 h35⟩)))
    · cases fl
      · exact .inr (.inr (.inr (.inr (.inl ⟨beq_eq_false_iff_ne.2 h9, beq_eq_false_iff_ne.2 e58, beq_eq_false_iff_ne.2 e35, rfl⟩))))
      · rcases hf with hf | hf
        · cases hf
        · exact .inr (.inr (.inr (.inr (.inr ⟨beq_eq_false_iff_ne.2 h9, beq_eq_false_iff_ne.2 e58, beq_eq_false_iff_ne.2 e35, rfl, hf⟩))))
set_option maxHeartbeats 8000000 in
set_option maxRecDepth 100000 in
theorem refLength_any (A : Option Addr) (n c : Nat) (zs : List Int) (fl : Bool) (w : World) (hl : zs.length = n) (hnc : n ≤ c) (hm : c ≤ 9223372036854775807) (hb : Byte zs) (hr : RdB w A zs) (v : Nat) (hv : lenF zs fl = v) :
    Calls Try.prog 93 #[.slice A n c, .bool fl] w fun e w' => e = .returned (.int .i64 (v : Int)) ∧ w = w' := by
  have S := refStarts_any A n c zs fl w hl hnc hm hb hr _ rfl
  have HS := Lib.hid S
  have HV := Lib.hid hv
  clear S hv
  cases hs : startF zs fl
  · have hv : v = 0 := by rw [← HV.out, lenF_no hs]
    subst hv
    rw [hs] at HS
    clear hs hr hl hb
    go_enter Try.func93, Try.ntmps93
    go_wp2_with (go_at_call 92; refine HS.out.mono ?_; rintro e w' ⟨rfl, rfl⟩)
    go_ret
    exact ⟨rfl, rfl⟩
  · rw [hs] at HS
    have h0 := start_len hs
    rw [hl] at h0
    obtain ⟨b, off, rfl, hc⟩ := hr.addr (by omega)
    have HC : Hid (∀ k, k < n → w.cell? ⟨b, off + k, none⟩ = some (.int .u8 (zs.getD k 0))) := fun k hk => hc k (by omega)
    have HL := Lib.hid hl
    have HST := Lib.hid hs
    clear hs hr hl hb hc
    go_enter Try.func93, Try.ntmps93
    go_wp2_with (go_at_call 92; refine HS.out.mono ?_; rintro e w' ⟨rfl, rfl⟩)
    have HFS : Hid (hasB ⟨#[44, 91, 93, 123, 125]⟩ 58 = false ∧ hasB ⟨#[44, 91, 93, 123, 125]⟩ 35 = false) := ⟨by decide, by decide⟩
    go_loop [5] (fun i => ∃ k : Nat, k ≤ n ∧ i = .int .i64 (k : Int) ∧ Hid (∀ i, i < k → endF zs fl i = false)) (fun i => n - (intOf i).toNat)
    case atStart => exact ⟨0, by omega, rfl, fun i hi => by omega⟩
    case round =>
      obtain ⟨k, hk, rfl, HK⟩ := hrel
      have fin : k = n ∨ endF zs fl k = true → v = trimF zs k := by
        intro h
        rw [← HV.out]
        exact lenF_at HST.out k (by rw [HL.out]; exact hk) HK.out (by rw [HL.out]; exact h)
      have FIN := Lib.hid fin
      clear fin
      have hS : flS = ⟨#[44, 91, 93, 123, 125]⟩ := rfl
      by_cases hlt : k < n
      · have d : (k : Int) < (n : Int) := by omega
        have ck := HC.out k hlt
        cases hend : endF zs fl k
        · have hn : ∀ i, i < k + 1 → endF zs fl i = false := by
            intro i hi
            rcases Nat.lt_succ_iff_lt_or_eq.1 hi with h | h
            · exact HK.out i h
            · subst h; exact hend
          have HN := Lib.hid hn
          have ways := on_ways HL.out hend
          rw [hS] at ways
          clear hn hend FIN HK hS
          rcases ways with ⟨h1, h2, h3, h4, rfl⟩ | ⟨h1, h2, h3, h4, rfl, h5⟩ | ⟨h1, rfl⟩ | ⟨h1, h2, h3⟩ | ⟨h1, h2, h3, rfl⟩ | ⟨h1, h2, h3, rfl, h5⟩
          · have ck1 := HC.out (k + 1) h2
            rw [h1] at ck
            have d1 : (k : Int) + 1 < (n : Int) := by omega
            have d2 : ((k : Int) + 1 == (n : Int)) = false := beq_eq_false_iff_ne.2 (by omega)
            have f58 := HFS.out.1
            generalize zs.getD (k + 1) 0 = y at *
            clear h1
            go_wp2_with (go_at_call 107; refine (refIn_has _ _ _ (by decide)).mono ?_; rintro e w' ⟨rfl, rfl⟩)
            go_round
            case rel => exact ⟨k + 1, by omega, by go_num, HN⟩
            case measure => simp [intOf]; omega
          · have ck1 := HC.out (k + 1) h2
            rw [h1] at ck
            have d1 : (k : Int) + 1 < (n : Int) := by omega
            have d2 : ((k : Int) + 1 == (n : Int)) = false := beq_eq_false_iff_ne.2 (by omega)
            have f58 := HFS.out.1
            generalize zs.getD (k + 1) 0 = y at *
            clear h1
            go_wp2_with (go_at_call 107; refine (refIn_has _ _ _ (by decide)).mono ?_; rintro e w' ⟨rfl, rfl⟩)
            go_round
            case rel => exact ⟨k + 1, by omega, by go_num, HN⟩
            case measure => simp [intOf]; omega
          · rw [h1, Nat.add_zero] at ck
            rw [show ((0 : Nat) : Int) = 0 from rfl] at d ⊢
            have f35 := HFS.out.2
            clear h1
            cases fl
            all_goals
              go_wp2_with (go_at_call 107; refine (refIn_has _ _ _ (by decide)).mono ?_; rintro e w' ⟨rfl, rfl⟩)
              go_round
              case rel => exact ⟨1, by omega, by go_num, HN⟩
              case measure => simp [intOf]; omega
          · rw [h1] at ck
            obtain ⟨j, rfl⟩ : ∃ j, k = j + 1 := ⟨k - 1, by omega⟩
            rw [show j + 1 - 1 = j by omega] at h3
            have cj := HC.out j (by omega)
            rw [show ((j + 1 : Nat) : Int) = (j : Int) + 1 by omega] at d ⊢
            have d0 : (0 : Int) < (j : Int) + 1 := by omega
            have dj : (j : Int) < (n : Int) := by omega
            have f35 := HFS.out.2
            generalize zs.getD j 0 = y at *
            clear h1
            cases fl
            all_goals
              go_wp2_with (go_at_call 107; refine (refIn_has _ _ _ (by decide)).mono ?_; rintro e w' ⟨rfl, rfl⟩)
              go_round
              case rel => exact ⟨j + 1 + 1, by omega, by go_num, HN⟩
              case measure => simp [intOf]; omega
          · generalize zs.getD k 0 = x at *
            go_wp2_with (go_at_call 107; refine (refIn_has _ _ _ (by decide)).mono ?_; rintro e w' ⟨rfl, rfl⟩)
            go_round
            case rel => exact ⟨k + 1, by omega, by go_num, HN⟩
            case measure => simp [intOf]; omega
          · generalize zs.getD k 0 = x at *
            go_wp2_with (go_at_call 107; refine (refIn_has _ _ _ (by decide)).mono ?_; rintro e w' ⟨rfl, rfl⟩)
            go_round
            case rel => exact ⟨k + 1, by omega, by go_num, HN⟩
            case measure => simp [intOf]; omega
        · have hv := FIN.out (.inr hend)
          have HV2 := Lib.hid hv
          have ways := end_ways HL.out hend
          rw [hS] at ways
          clear hv hend FIN HK hS
          rcases ways with h1 | ⟨h1, h2⟩ | ⟨h1, h2, h3⟩ | ⟨h1, h2, h3⟩ | ⟨h1, h2, h3, h4, rfl, h5⟩ | ⟨h1, h2, h3⟩ | ⟨h1, h2, h3, rfl, h5⟩
          · rw [h1] at ck
            clear h1
            go_wp2_with (go_at_call 107; refine (refIn_has _ _ _ (by decide)).mono ?_; rintro e w' ⟨rfl, rfl⟩)
            clear ck d
            go_loop [5] (fun i => ∃ q : Nat, q ≤ n ∧ i = .int .i64 (q : Int) ∧ Hid (v = trimF zs q)) (fun i => (intOf i).toNat)
            case atStart => exact ⟨k, hk, rfl, HV2⟩
            case round =>
              obtain ⟨q, hq, rfl, HQ⟩ := hrel
              by_cases h0q : 0 < q
              · obtain ⟨j', rfl⟩ : ∃ j, q = j + 1 := ⟨q - 1, by omega⟩
                have c0 := HC.out j' (by omega)
                rw [show ((j' + 1 : Nat) : Int) = (j' : Int) + 1 by omega]
                have d0' : (0 : Int) < (j' : Int) + 1 := by omega
                have dj' : (j' : Int) < (n : Int) := by omega
                by_cases h32' : zs.getD j' 0 = 32
                · have hv : v = trimF zs j' := by rw [HQ.out, trimF_step zs j' h32']
                  have HV3 := Lib.hid hv
                  rw [h32'] at c0
                  clear hv h32'
                  go_wp2_with fail
                  go_round
                  case rel => exact ⟨j', by omega, by go_num, HV3⟩
                  case measure => simp [intOf]
                · have hv : v = j' + 1 := by rw [HQ.out, trimF_stay zs j' h32']
                  have hsp : (zs.getD j' 0 == 32) = false := beq_eq_false_iff_ne.2 h32'
                  have HV3 := Lib.hid hv
                  clear hv h32'
                  generalize zs.getD j' 0 = y' at *
                  go_wp2_with fail
                  go_ret
                  exact ⟨ret_int (by rw [HV3.out]; omega), rfl⟩
              · obtain rfl : q = 0 := by omega
                have hv : v = 0 := HQ.out
                subst hv
                go_wp2_with fail
                go_ret
                exact ⟨rfl, rfl⟩
          · rw [h1] at ck
            have d2 : ((k : Int) + 1 == (n : Int)) = true := beq_iff_eq.2 (by omega)
            clear h1
            go_wp2_with (go_at_call 107; refine (refIn_has _ _ _ (by decide)).mono ?_; rintro e w' ⟨rfl, rfl⟩)
            clear ck d d2
            go_loop [5] (fun i => ∃ q : Nat, q ≤ n ∧ i = .int .i64 (q : Int) ∧ Hid (v = trimF zs q)) (fun i => (intOf i).toNat)
            case atStart => exact ⟨k, hk, rfl, HV2⟩
            case round =>
              obtain ⟨q, hq, rfl, HQ⟩ := hrel
              by_cases h0q : 0 < q
              · obtain ⟨j', rfl⟩ : ∃ j, q = j + 1 := ⟨q - 1, by omega⟩
                have c0 := HC.out j' (by omega)
                rw [show ((j' + 1 : Nat) : Int) = (j' : Int) + 1 by omega]
                have d0' : (0 : Int) < (j' : Int) + 1 := by omega
                have dj' : (j' : Int) < (n : Int) := by omega
                by_cases h32' : zs.getD j' 0 = 32
                · have hv : v = trimF zs j' := by rw [HQ.out, trimF_step zs j' h32']
                  have HV3 := Lib.hid hv
                  rw [h32'] at c0
                  clear hv h32'
                  go_wp2_with fail
                  go_round
                  case rel => exact ⟨j', by omega, by go_num, HV3⟩
                  case measure => simp [intOf]
                · have hv : v = j' + 1 := by rw [HQ.out, trimF_stay zs j' h32']
                  have hsp : (zs.getD j' 0 == 32) = false := beq_eq_false_iff_ne.2 h32'
                  have HV3 := Lib.hid hv
                  clear hv h32'
                  generalize zs.getD j' 0 = y' at *
                  go_wp2_with fail
                  go_ret
                  exact ⟨ret_int (by rw [HV3.out]; omega), rfl⟩
              · obtain rfl : q = 0 := by omega
                have hv : v = 0 := HQ.out
                subst hv
                go_wp2_with fail
                go_ret
                exact ⟨rfl, rfl⟩
          · have ck1 := HC.out (k + 1) h2
            rw [h1] at ck
            rw [h3] at ck1
            have d1 : (k : Int) + 1 < (n : Int) := by omega
            have d2 : ((k : Int) + 1 == (n : Int)) = false := beq_eq_false_iff_ne.2 (by omega)
            clear h1 h3
            go_wp2_with (go_at_call 107; refine (refIn_has _ _ _ (by decide)).mono ?_; rintro e w' ⟨rfl, rfl⟩)
            clear ck d ck1 d1 d2
            go_loop [5] (fun i => ∃ q : Nat, q ≤ n ∧ i = .int .i64 (q : Int) ∧ Hid (v = trimF zs q)) (fun i => (intOf i).toNat)
            case atStart => exact ⟨k, hk, rfl, HV2⟩
            case round =>
              obtain ⟨q, hq, rfl, HQ⟩ := hrel
              by_cases h0q : 0 < q
              · obtain ⟨j', rfl⟩ : ∃ j, q = j + 1 := ⟨q - 1, by omega⟩
                have c0 := HC.out j' (by omega)
                rw [show ((j' + 1 : Nat) : Int) = (j' : Int) + 1 by omega]
                have d0' : (0 : Int) < (j' : Int) + 1 := by omega
                have dj' : (j' : Int) < (n : Int) := by omega
                by_cases h32' : zs.getD j' 0 = 32
                · have hv : v = trimF zs j' := by rw [HQ.out, trimF_step zs j' h32']
                  have HV3 := Lib.hid hv
                  rw [h32'] at c0
                  clear hv h32'
                  go_wp2_with fail
                  go_round
                  case rel => exact ⟨j', by omega, by go_num, HV3⟩
                  case measure => simp [intOf]
                · have hv : v = j' + 1 := by rw [HQ.out, trimF_stay zs j' h32']
                  have hsp : (zs.getD j' 0 == 32) = false := beq_eq_false_iff_ne.2 h32'
                  have HV3 := Lib.hid hv
                  clear hv h32'
                  generalize zs.getD j' 0 = y' at *
                  go_wp2_with fail
                  go_ret
                  exact ⟨ret_int (by rw [HV3.out]; omega), rfl⟩
              · obtain rfl : q = 0 := by omega
                have hv : v = 0 := HQ.out
                subst hv
                go_wp2_with fail
                go_ret
                exact ⟨rfl, rfl⟩
          · have ck1 := HC.out (k + 1) h2
            rw [h1] at ck
            rw [h3] at ck1
            have d1 : (k : Int) + 1 < (n : Int) := by omega
            have d2 : ((k : Int) + 1 == (n : Int)) = false := beq_eq_false_iff_ne.2 (by omega)
            clear h1 h3
            go_wp2_with (go_at_call 107; refine (refIn_has _ _ _ (by decide)).mono ?_; rintro e w' ⟨rfl, rfl⟩)
            clear ck d ck1 d1 d2
            go_loop [5] (fun i => ∃ q : Nat, q ≤ n ∧ i = .int .i64 (q : Int) ∧ Hid (v = trimF zs q)) (fun i => (intOf i).toNat)
            case atStart => exact ⟨k, hk, rfl, HV2⟩
            case round =>
              obtain ⟨q, hq, rfl, HQ⟩ := hrel
              by_cases h0q : 0 < q
              · obtain ⟨j', rfl⟩ : ∃ j, q = j + 1 := ⟨q - 1, by omega⟩
                have c0 := HC.out j' (by omega)
                rw [show ((j' + 1 : Nat) : Int) = (j' : Int) + 1 by omega]
                have d0' : (0 : Int) < (j' : Int) + 1 := by omega
                have dj' : (j' : Int) < (n : Int) := by omega
                by_cases h32' : zs.getD j' 0 = 32
                · have hv : v = trimF zs j' := by rw [HQ.out, trimF_step zs j' h32']
                  have HV3 := Lib.hid hv
                  rw [h32'] at c0
                  clear hv h32'
                  go_wp2_with fail
                  go_round
                  case rel => exact ⟨j', by omega, by go_num, HV3⟩
                  case measure => simp [intOf]
                · have hv : v = j' + 1 := by rw [HQ.out, trimF_stay zs j' h32']
                  have hsp : (zs.getD j' 0 == 32) = false := beq_eq_false_iff_ne.2 h32'
                  have HV3 := Lib.hid hv
                  clear hv h32'
                  generalize zs.getD j' 0 = y' at *
                  go_wp2_with fail
                  go_ret
                  exact ⟨ret_int (by rw [HV3.out]; omega), rfl⟩
              · obtain rfl : q = 0 := by omega
                have hv : v = 0 := HQ.out
                subst hv
                go_wp2_with fail
                go_ret
                exact ⟨rfl, rfl⟩
          · have ck1 := HC.out (k + 1) h2
            rw [h1] at ck
            have d1 : (k : Int) + 1 < (n : Int) := by omega
            have d2 : ((k : Int) + 1 == (n : Int)) = false := beq_eq_false_iff_ne.2 (by omega)
            generalize zs.getD (k + 1) 0 = y at *
            clear h1
            go_wp2_with (go_at_call 107; refine (refIn_has _ _ _ (by decide)).mono ?_; rintro e w' ⟨rfl, rfl⟩)
            clear ck d ck1 d1 d2 h3 h4 h5
            go_loop [5] (fun i => ∃ q : Nat, q ≤ n ∧ i = .int .i64 (q : Int) ∧ Hid (v = trimF zs q)) (fun i => (intOf i).toNat)
            case atStart => exact ⟨k, hk, rfl, HV2⟩
            case round =>
              obtain ⟨q, hq, rfl, HQ⟩ := hrel
              by_cases h0q : 0 < q
              · obtain ⟨j', rfl⟩ : ∃ j, q = j + 1 := ⟨q - 1, by omega⟩
                have c0 := HC.out j' (by omega)
                rw [show ((j' + 1 : Nat) : Int) = (j' : Int) + 1 by omega]
                have d0' : (0 : Int) < (j' : Int) + 1 := by omega
                have dj' : (j' : Int) < (n : Int) := by omega
                by_cases h32' : zs.getD j' 0 = 32
                · have hv : v = trimF zs j' := by rw [HQ.out, trimF_step zs j' h32']
                  have HV3 := Lib.hid hv
                  rw [h32'] at c0
                  clear hv h32'
                  go_wp2_with fail
                  go_round
                  case rel => exact ⟨j', by omega, by go_num, HV3⟩
                  case measure => simp [intOf]
                · have hv : v = j' + 1 := by rw [HQ.out, trimF_stay zs j' h32']
                  have hsp : (zs.getD j' 0 == 32) = false := beq_eq_false_iff_ne.2 h32'
                  have HV3 := Lib.hid hv
                  clear hv h32'
                  generalize zs.getD j' 0 = y' at *
                  go_wp2_with fail
                  go_ret
                  exact ⟨ret_int (by rw [HV3.out]; omega), rfl⟩
              · obtain rfl : q = 0 := by omega
                have hv : v = 0 := HQ.out
                subst hv
                go_wp2_with fail
                go_ret
                exact ⟨rfl, rfl⟩
          · rw [h1] at ck
            obtain ⟨j, rfl⟩ : ∃ j, k = j + 1 := ⟨k - 1, by omega⟩
            rw [show j + 1 - 1 = j by omega] at h3
            have cj := HC.out j (by omega)
            rw [h3] at cj
            rw [show ((j + 1 : Nat) : Int) = (j : Int) + 1 by omega] at d ⊢
            have d0 : (0 : Int) < (j : Int) + 1 := by omega
            have dj : (j : Int) < (n : Int) := by omega
            clear h1 h3
            go_wp2_with (go_at_call 107; refine (refIn_has _ _ _ (by decide)).mono ?_; rintro e w' ⟨rfl, rfl⟩)
            clear ck d cj d0 dj
            go_loop [5] (fun i => ∃ q : Nat, q ≤ n ∧ i = .int .i64 (q : Int) ∧ Hid (v = trimF zs q)) (fun i => (intOf i).toNat)
            case atStart => exact ⟨j + 1, hk, by go_num, HV2⟩
            case round =>
              obtain ⟨q, hq, rfl, HQ⟩ := hrel
              by_cases h0q : 0 < q
              · obtain ⟨j', rfl⟩ : ∃ j, q = j + 1 := ⟨q - 1, by omega⟩
                have c0 := HC.out j' (by omega)
                rw [show ((j' + 1 : Nat) : Int) = (j' : Int) + 1 by omega]
                have d0' : (0 : Int) < (j' : Int) + 1 := by omega
                have dj' : (j' : Int) < (n : Int) := by omega
                by_cases h32' : zs.getD j' 0 = 32
                · have hv : v = trimF zs j' := by rw [HQ.out, trimF_step zs j' h32']
                  have HV3 := Lib.hid hv
                  rw [h32'] at c0
                  clear hv h32'
                  go_wp2_with fail
                  go_round
                  case rel => exact ⟨j', by omega, by go_num, HV3⟩
                  case measure => simp [intOf]
                · have hv : v = j' + 1 := by rw [HQ.out, trimF_stay zs j' h32']
                  have hsp : (zs.getD j' 0 == 32) = false := beq_eq_false_iff_ne.2 h32'
                  have HV3 := Lib.hid hv
                  clear hv h32'
                  generalize zs.getD j' 0 = y' at *
                  go_wp2_with fail
                  go_ret
                  exact ⟨ret_int (by rw [HV3.out]; omega), rfl⟩
              · obtain rfl : q = 0 := by omega
                have hv : v = 0 := HQ.out
                subst hv
                go_wp2_with fail
                go_ret
                exact ⟨rfl, rfl⟩
          · generalize zs.getD k 0 = x at *
            go_wp2_with (go_at_call 107; refine (refIn_has _ _ _ (by decide)).mono ?_; rintro e w' ⟨rfl, rfl⟩)
            clear ck d h1 h2 h3 h5
            go_loop [5] (fun i => ∃ q : Nat, q ≤ n ∧ i = .int .i64 (q : Int) ∧ Hid (v = trimF zs q)) (fun i => (intOf i).toNat)
            case atStart => exact ⟨k, hk, rfl, HV2⟩
            case round =>
              obtain ⟨q, hq, rfl, HQ⟩ := hrel
              by_cases h0q : 0 < q
              · obtain ⟨j', rfl⟩ : ∃ j, q = j + 1 := ⟨q - 1, by omega⟩
                have c0 := HC.out j' (by omega)
                rw [show ((j' + 1 : Nat) : Int) = (j' : Int) + 1 by omega]
                have d0' : (0 : Int) < (j' : Int) + 1 := by omega
                have dj' : (j' : Int) < (n : Int) := by omega
                by_cases h32' : zs.getD j' 0 = 32
                · have hv : v = trimF zs j' := by rw [HQ.out, trimF_step zs j' h32']
                  have HV3 := Lib.hid hv
                  rw [h32'] at c0
                  clear hv h32'
                  go_wp2_with fail
                  go_round
                  case rel => exact ⟨j', by omega, by go_num, HV3⟩
                  case measure => simp [intOf]
                · have hv : v = j' + 1 := by rw [HQ.out, trimF_stay zs j' h32']
                  have hsp : (zs.getD j' 0 == 32) = false := beq_eq_false_iff_ne.2 h32'
                  have HV3 := Lib.hid hv
                  clear hv h32'
                  generalize zs.getD j' 0 = y' at *
                  go_wp2_with fail
                  go_ret
                  exact ⟨ret_int (by rw [HV3.out]; omega), rfl⟩
              · obtain rfl : q = 0 := by omega
                have hv : v = 0 := HQ.out
                subst hv
                go_wp2_with fail
                go_ret
                exact ⟨rfl, rfl⟩
      · have hv := FIN.out (.inl (by omega))
        have HV2 := Lib.hid hv
        have d : decide ((k : Int) < (n : Int)) = false := decide_eq_false (by omega)
        clear hv FIN HK hS
        go_wp2_with fail
        clear d
        go_loop [5] (fun i => ∃ q : Nat, q ≤ n ∧ i = .int .i64 (q : Int) ∧ Hid (v = trimF zs q)) (fun i => (intOf i).toNat)
        case atStart => exact ⟨k, hk, rfl, HV2⟩
        case round =>
          obtain ⟨q, hq, rfl, HQ⟩ := hrel
          by_cases h0q : 0 < q
          · obtain ⟨j', rfl⟩ : ∃ j, q = j + 1 := ⟨q - 1, by omega⟩
            have c0 := HC.out j' (by omega)
            rw [show ((j' + 1 : Nat) : Int) = (j' : Int) + 1 by omega]
            have d0' : (0 : Int) < (j' : Int) + 1 := by omega
            have dj' : (j' : Int) < (n : Int) := by omega
            by_cases h32' : zs.getD j' 0 = 32
            · have hv : v = trimF zs j' := by rw [HQ.out, trimF_step zs j' h32']
              have HV3 := Lib.hid hv
              rw [h32'] at c0
              clear hv h32'
              go_wp2_with fail
              go_round
              case rel => exact ⟨j', by omega, by go_num, HV3⟩
              case measure => simp [intOf]
            · have hv : v = j' + 1 := by rw [HQ.out, trimF_stay zs j' h32']
              have hsp : (zs.getD j' 0 == 32) = false := beq_eq_false_iff_ne.2 h32'
              have HV3 := Lib.hid hv
              clear hv h32'
              generalize zs.getD j' 0 = y' at *
              go_wp2_with fail
              go_ret
              exact ⟨ret_int (by rw [HV3.out]; omega), rfl⟩
          · obtain rfl : q = 0 := by omega
            have hv : v = 0 := HQ.out
            subst hv
            go_wp2_with fail
            go_ret
            exact ⟨rfl, rfl⟩
theorem str_none (s : ByteArray) (h : 0 < s.size) : s.toList.isEmpty = false ∧ ¬ s.toList = [] := by
  have hn : ¬ s.toList = [] := by
    rw [Lib.toList_data]
    intro e
    have h2 : s.data.toList.length = 0 := by rw [e]; rfl
    have h3 : s.data.toList.length = s.size := by simp
    omega
  exact ⟨by simpa using hn, hn⟩
theorem str_nil (s : ByteArray) (h : s.size = 0) : s.toList.isEmpty = true ∧ s.toList = [] := by
  have hn : s.toList = [] := by
    rw [Lib.toList_data]
    exact List.eq_nil_of_length_eq_zero (by simpa using h)
  exact ⟨by simpa using hn, hn⟩
set_option maxHeartbeats 2000000 in
theorem refValid_any (s : ByteArray) (fl : Bool) (w : World) (hs : s.size ≤ 1000000) (v : Bool) (hv : validF (byt s) fl = v) :
    Calls Try.prog 97 #[.string s, .bool fl] w fun e w' => e = .returned (.bool v) ∧ Below w.heap.size w w' := by
  have hn : (byt s).length = s.size := byt_len s
  unfold validF at hv
  rw [hn] at hv
  have C := Lib.hid (clean_any s false w hs _ rfl)
  have HV := Lib.hid hv
  have HN := Lib.hid hn
  clear hv hn
  generalize inF false s.size (byt s) = vi at *
  by_cases h0 : 0 < s.size
  · obtain ⟨he1, he2⟩ := str_none s h0
    cases vi
    · have hf : v = false := by rw [← HV.out]; simp
      subst hf
      go_enter Try.func97, Try.ntmps97
      go_wp2_with (go_at_call 109; refine C.out.mono ?_; rintro e w' ⟨rfl, hb⟩; have HB := Lib.hid hb; clear hb)
      go_ret
      exact ⟨rfl, HB.out⟩
    · have hf : ((lenF (byt s) fl : Int) == (s.size : Int)) = v := by
        rw [← HV.out, decide_eq_true h0]
        apply bool_iff
        simp
        omega
      have HF := Lib.hid hf
      clear hf
      go_enter Try.func97, Try.ntmps97
      go_wp2_with fail
      refine C.out.mono ?_
      rintro e w1 ⟨rfl, hb⟩
      have HB := Lib.hid hb
      clear hb
      obtain ⟨cap, W, hrun, hle, hmax, hrd, hbel⟩ := bytes_of s (by omega) w1
      have HL := Lib.hid (refLength_any (some ⟨w1.heap.size, 0, none⟩) s.size cap (byt s) fl W HN.out hle hmax (byt_byte s) hrd _ rfl)
      have HB2 := Lib.hid hbel
      clear hrd hbel
      generalize lenF (byt s) fl = vl at *
      go_wp2_with (go_at_call 93; refine HL.out.mono ?_; rintro e w' ⟨rfl, rfl⟩)
      go_ret
      exact ⟨ret_bool HF.out, below_step HB.out HB2.out⟩
  · obtain ⟨he1, he2⟩ := str_nil s (by omega)
    have hf : v = false := by rw [← HV.out, decide_eq_false h0]; rfl
    subst hf
    go_enter Try.func97, Try.ntmps97
    go_wp2
    go_ret
    exact ⟨rfl, Below.refl _ _⟩
end Go.Proofs.Ytcddlconcngjlaa
