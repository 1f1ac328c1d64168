/- Chapter 6 (scalars in double quotes) as Lean functions on lists of numbers, and what they come to. No program. · The contracts of double.digit, utf8.ValidRune, double.numbered. · The table 'shorts' in memory, and double.escaped. · double.Hex, and the document's Hex. · The document's own small answers of chapter 6: digit, escape, utf8. · utf8.AppendRune behind bytes of our own. · double.Take. · The document's TakeDouble. · double.written. · double.Put; the document's example. · Plain facts: what is put in double quotes is taken as it was; texts one behind the other; which runes it has. · The document's PutDouble. -/
import Derived.Test.YtcddlconcngjlaaQA
import Derived.Laws.Rows
set_option linter.unusedSimpArgs false
set_option linter.unusedVariables false
namespace Go.Proofs.Ytcddlconcngjlaa
open Go.RowKit
set_option linter.unusedVariables false
set_option maxRecDepth 100000
def utfF (r : Int) : List Int :=
  if r < 128 then [r] else if r < 2048 then [192 + r / 64, 128 + r % 64] else
  if r < 65536 then [224 + r / 4096, 128 + r / 64 % 64, 128 + r % 64] else
  [240 + r / 262144, 128 + r / 4096 % 64, 128 + r / 64 % 64, 128 + r % 64]
def okR (r : Int) : Bool := decide (0 ≤ r) && decide (r ≤ 1114111) && !surr r
theorem okR_parts {r : Int} (h : okR r = true) : 0 ≤ r ∧ r ≤ 1114111 ∧ surr r = false := by
  unfold okR at h; simp at h; exact ⟨h.1.1, h.1.2, h.2⟩
theorem okR_mk {r : Int} (h0 : 0 ≤ r) (h1 : r ≤ 1114111) (h2 : surr r = false) : okR r = true := by
  unfold okR; simp [h0, h1, h2]
theorem utfF_byte {r : Int} (h : okR r = true) : Byte (utfF r) := by
  obtain ⟨h0, h1, _⟩ := okR_parts h
  intro z hz
  unfold utfF at hz
  repeat' split at hz
  all_goals (simp at hz; omega)
theorem utfF_len (r : Int) : 1 ≤ (utfF r).length ∧ (utfF r).length ≤ 4 := by
  unfold utfF
  repeat' split
  all_goals simp
theorem cont_parts {z : Int} (h : cont z = true) : 128 ≤ z ∧ z < 192 := by unfold cont at h; simpa using h
/-- A rune that is read is written as it was. -/
theorem utf_runeF (zs : List Int) (hb : Byte zs) (r j : Int) (h : runeF zs = (r, j, true)) : okR r = true ∧ 1 ≤ j ∧ j.toNat ≤ zs.length ∧ utfF r = zs.take j.toNat := by
  cases zs with
  | nil => simp [runeF] at h
  | cons c t =>
    have hc := hb c (by simp)
    simp only [runeF] at h
    split at h
    · simp at h
    rename_i hs
    split at h
    · simp at h
    rename_i q ha
    split at h
    · simp at h
    rename_i hg
    simp only [Prod.mk.injEq, and_true] at h
    obtain ⟨rfl, rfl⟩ := h
    have hq := (accR_bd _ _ _ (ldR_bd c hc.1).1 ha).1
    have hsq : surr q = false := by
      cases h : surr q
      · rfl
      · exact absurd (Or.inr (Or.inr h)) hg
    have hok : okR q = true := okR_mk hq (by omega) hsq
    have hN1 : 1 ≤ ldN c := by rcases ldN_cases c with e | e | e | e | e <;> omega
    refine ⟨hok, hN1, by simp at hs ⊢; omega, ?_⟩
    have hlen : ldN c ≤ (t.length : Int) + 1 := by simp at hs; omega
    rcases ldN_cases c with e | e | e | e | e
    · omega
    · rw [e] at ha ⊢
      have hc128 : c < 128 := by
        unfold ldN at e; split at e
        · assumption
        · repeat' (split at e)
          all_goals omega
      have hr : ldR c = c := by unfold ldR; rw [if_pos hc128]
      simp only [show ((1 : Int) - 1).toNat = 0 from rfl, List.take_zero, accR, Option.some.injEq] at ha
      rw [hr] at ha; subst ha
      unfold utfF; rw [if_pos hc128]; rfl
    · have hcr : 192 ≤ c ∧ c < 224 ∧ ldR c = c - 192 ∧ ldL c = 128 := by
        revert e; unfold ldN ldR ldL
        repeat' split
        all_goals omega
      rw [e] at ha ⊢ hlen
      match t, hlen, ha with
      | [], hlen, _ => simp at hlen
      | a :: t, _, ha =>
        simp only [show ((2 : Int) - 1).toNat = 1 from rfl, List.take_succ_cons, List.take_zero, accR] at ha
        split at ha
        · rename_i hca
          have := cont_parts hca
          simp only [Option.some.injEq] at ha
          subst ha
          rw [hcr.2.2.1] at hg hq ⊢
          unfold utfF
          rw [if_neg (by omega), if_pos (by omega)]
          simp only [show (2 : Int).toNat = 2 from rfl, List.take_succ_cons, List.take_zero, List.cons.injEq, and_true]
          omega
        · cases ha
    · have hcr : 224 ≤ c ∧ c < 240 ∧ ldR c = c - 224 ∧ ldL c = 2048 := by
        revert e; unfold ldN ldR ldL
        repeat' split
        all_goals omega
      rw [e] at ha ⊢ hlen
      match t, hlen, ha with
      | [], hlen, _ => simp at hlen
      | [a], hlen, _ => simp at hlen
      | a :: b :: t, _, ha =>
        simp only [show ((3 : Int) - 1).toNat = 2 from rfl, List.take_succ_cons, List.take_zero, accR] at ha
        split at ha
        · rename_i hca
          split at ha
          · rename_i hcb
            have h1 := cont_parts hca
            have h2 := cont_parts hcb
            simp only [Option.some.injEq] at ha
            subst ha
            rw [hcr.2.2.1] at hg hq ⊢
            unfold utfF
            rw [if_neg (by omega), if_neg (by omega), if_pos (by omega)]
            simp only [show (3 : Int).toNat = 3 from rfl, List.take_succ_cons, List.take_zero, List.cons.injEq, and_true]
            omega
          · cases ha
        · cases ha
    · have hcr : 240 ≤ c ∧ c < 248 ∧ ldR c = c - 240 ∧ ldL c = 65536 := by
        revert e; unfold ldN ldR ldL
        repeat' split
        all_goals omega
      rw [e] at ha ⊢ hlen
      match t, hlen, ha with
      | [], hlen, _ => simp at hlen
      | [a], hlen, _ => simp at hlen
      | [a, b], hlen, _ => simp at hlen
      | a :: b :: d :: t, _, ha =>
        simp only [show ((4 : Int) - 1).toNat = 3 from rfl, List.take_succ_cons, List.take_zero, accR] at ha
        split at ha
        · rename_i hca
          split at ha
          · rename_i hcb
            split at ha
            · rename_i hcd
              have h1 := cont_parts hca
              have h2 := cont_parts hcb
              have h3 := cont_parts hcd
              simp only [Option.some.injEq] at ha
              subst ha
              rw [hcr.2.2.1] at hg hq ⊢
              unfold utfF
              rw [if_neg (by omega), if_neg (by omega), if_neg (by omega)]
              simp only [show (4 : Int).toNat = 4 from rfl, List.take_succ_cons, List.take_zero, List.cons.injEq, and_true]
              omega
            · cases ha
          · cases ha
        · cases ha
def hexD (c : Int) : Option Int := if 48 ≤ c ∧ c ≤ 57 then some (c - 48) else if 65 ≤ c ∧ c ≤ 70 then some (c - 55) else if 97 ≤ c ∧ c ≤ 102 then some (c - 87) else none
theorem hexD_bd {c d : Int} (h : hexD c = some d) : 0 ≤ d ∧ d < 16 := by
  unfold hexD at h
  repeat' split at h
  all_goals first | (cases h; done) | (injection h with h; omega)
def hexV : Int → List Int → Option Int
  | a, [] => some a
  | a, c :: t => match hexD c with
    | none => none
    | some d => hexV (a * 16 + d) t
theorem hexV_snoc (l : List Int) (c : Int) : ∀ a, hexV a (l ++ [c]) = match hexV a l with | none => none | some q => match hexD c with | none => none | some d => some (q * 16 + d) := by
  induction l with
  | nil => intro a; simp only [List.nil_append, hexV]
  | cons x l ih => intro a; simp only [List.cons_append, hexV]; split <;> simp [ih]
theorem hexV_none (l m : List Int) : ∀ a, hexV a l = none → hexV a (l ++ m) = none := by
  induction l with
  | nil => intro a h; simp [hexV] at h
  | cons x l ih =>
    intro a h
    simp only [List.cons_append, hexV] at h ⊢
    split
    · rfl
    · rename_i d hd
      rw [hd] at h
      exact ih _ h
theorem hexV_bd (l : List Int) : ∀ a q, 0 ≤ a → hexV a l = some q → 0 ≤ q ∧ q < (a + 1) * 16 ^ l.length := by
  induction l with
  | nil => intro a q h0 h; simp only [hexV, Option.some.injEq] at h; subst h; simp; omega
  | cons x l ih =>
    intro a q h0 h
    simp only [hexV] at h
    split at h
    · cases h
    · rename_i d hd
      have hd2 := hexD_bd hd
      obtain ⟨h1, h2⟩ := ih _ _ (by omega) h
      refine ⟨h1, ?_⟩
      have e : (a * 16 + d + 1) * 16 ^ l.length ≤ ((a + 1) * 16) * 16 ^ l.length := Int.mul_le_mul_of_nonneg_right (by omega) (Int.pow_nonneg (by omega))
      have e2 : (a + 1) * 16 ^ (x :: l).length = ((a + 1) * 16) * 16 ^ l.length := by rw [List.length_cons, Int.pow_succ']; rw [Int.mul_assoc]
      omega
/-- Up to eight digits: below 2 to the 32nd; while digits are still to come, below 2 to the 28th. -/
theorem hexV_lt (l : List Int) (q : Int) (h : hexV 0 l = some q) : (l.length ≤ 7 → 0 ≤ q ∧ q < 268435456) ∧ (l.length ≤ 8 → 0 ≤ q ∧ q < 4294967296) := by
  obtain ⟨h1, h2⟩ := hexV_bd l 0 q (by omega) h
  have hc : (16 : Int) ^ l.length = ((16 ^ l.length : Nat) : Int) := by rw [Int.natCast_pow]; rfl
  have h7 : l.length ≤ 7 → (16 : Int) ^ l.length ≤ 268435456 := fun hl => by
    have := Nat.pow_le_pow_right (show 0 < 16 by omega) hl
    rw [hc]; omega
  have h8 : l.length ≤ 8 → (16 : Int) ^ l.length ≤ 4294967296 := fun hl => by
    have := Nat.pow_le_pow_right (show 0 < 16 by omega) hl
    rw [hc]; omega
  exact ⟨fun hl => ⟨h1, by have := h7 hl; omega⟩, fun hl => ⟨h1, by have := h8 hl; omega⟩⟩
theorem hexV_stop (t : List Int) (k m : Nat) (hk : k ≤ m) (h : hexV 0 (t.take k) = none) : hexV 0 (t.take m) = none := by
  have e : t.take m = t.take k ++ (t.drop k).take (m - k) := by
    rw [show m = k + (m - k) by omega, List.take_add]; simp
  rw [e]; exact hexV_none _ _ _ h
theorem hexV_step (t : List Int) (k : Nat) (z q : Int) (hz : t[k]? = some z) (hq : hexV 0 (t.take k) = some q) :
    hexV 0 (t.take (k + 1)) = match hexD z with | none => none | some d => some (q * 16 + d) := by
  rw [List.take_add_one, hz]
  simp only [Option.toList_some, hexV_snoc, hq]
def hexC (d : Int) : Int := if d < 10 then 48 + d else 55 + d
/-- The last d digits. -/
def hexF (n : Int) : Nat → List Int
  | 0 => []
  | d + 1 => hexF (n / 16) d ++ [hexC (n % 16)]
theorem hexF_len (d : Nat) : ∀ n, (hexF n d).length = d := by
  induction d with
  | zero => intro n; rfl
  | succ d ih => intro n; simp [hexF, ih]
theorem hexC_byte (d : Int) (h0 : 0 ≤ d) (h1 : d < 16) : (48 ≤ hexC d ∧ hexC d ≤ 57) ∨ (65 ≤ hexC d ∧ hexC d ≤ 70) := by unfold hexC; split <;> omega
theorem hexF_byte (d : Nat) : ∀ n, ∀ z ∈ hexF n d, (48 ≤ z ∧ z ≤ 57) ∨ (65 ≤ z ∧ z ≤ 70) := by
  induction d with
  | zero => intro n z hz; cases hz
  | succ d ih =>
    intro n z hz
    simp only [hexF, List.mem_append, List.mem_singleton] at hz
    rcases hz with hz | rfl
    · exact ih _ z hz
    · exact hexC_byte _ (by omega) (by omega)
theorem hexD_C (d : Int) (h0 : 0 ≤ d) (h1 : d < 16) : hexD (hexC d) = some d := by
  unfold hexD hexC
  repeat' split
  all_goals first | (congr 1; omega) | omega
theorem hexV_F (d : Nat) : ∀ n, 0 ≤ n → hexV 0 (hexF n d) = some (n % 16 ^ d) := by
  induction d with
  | zero => intro n h; simp [hexF, hexV, Int.emod_one]
  | succ d ih =>
    intro n h
    rw [hexF, hexV_snoc, ih _ (by omega)]
    simp only [hexD_C (n % 16) (by omega) (by omega)]
    congr 1
    rw [Int.pow_succ']
    have h1 := Int.emod_add_mul_ediv n (16 * 16 ^ d)
    have hp : (0 : Int) < 16 ^ d := Int.pow_pos (by omega)
    have h2 : n / (16 * 16 ^ d) = n / 16 / 16 ^ d := (Int.ediv_ediv_of_nonneg (by omega)).symm
    have h3 := Int.emod_add_mul_ediv (n / 16) (16 ^ d)
    have h4 := Int.emod_add_mul_ediv n 16
    rw [h2] at h1
    generalize n / 16 / 16 ^ d = x at *
    have h5 : 16 * 16 ^ d * x = 16 * (16 ^ d * x) := Int.mul_assoc _ _ _
    rw [h5] at h1
    generalize 16 ^ d * x = y at *
    omega
def shL : List (Int × Int) := [(48, 0), (97, 7), (98, 8), (116, 9), (110, 10), (118, 11), (102, 12), (114, 13), (101, 27), (34, 34), (92, 92), (78, 133), (95, 160), (76, 8232), (80, 8233)]
def escL (c : Int) : Option Int := (shL.find? (fun x => x.1 == c)).map (·.2)
def letR (r : Int) : Option Int := (shL.find? (fun x => x.2 == r)).map (·.1)
def numO (d : Nat) : Option Int → Option (Int × Nat)
  | none => none
  | some r => if okR r = true then some (r, 1 + d) else none
def numF (d : Nat) (zs : List Int) : Option (Int × Nat) := if zs.length ≤ d then none else numO d (hexV 0 ((zs.drop 1).take d))
/-- Behind the sign of an escape: the rune, and how many bytes. -/
def escF : List Int → Option (Int × Nat)
  | [] => none
  | c :: t => if c = 47 ∨ c = 32 then some (c, 1) else if c = 120 then numF 2 (c :: t) else if c = 117 then numF 4 (c :: t) else if c = 85 then numF 8 (c :: t) else (escL c).map (fun r => (r, 1))
theorem numF_parts {d : Nat} {zs : List Int} {r : Int} {m : Nat} (h : numF d zs = some (r, m)) : okR r = true ∧ 1 ≤ m ∧ m ≤ zs.length := by
  unfold numF at h
  split at h
  · cases h
  unfold numO at h
  split at h
  · cases h
  split at h
  · simp only [Option.some.injEq, Prod.mk.injEq] at h
    obtain ⟨rfl, rfl⟩ := h
    exact ⟨by assumption, by omega, by omega⟩
  · cases h
theorem shL_ok : ∀ x ∈ shL, okR x.2 = true ∧ letR x.2 = some x.1 ∧ escL x.1 = some x.2 ∧ 0 ≤ x.1 ∧ x.1 < 128 ∧ x.1 ≠ 47 ∧ x.1 ≠ 32 ∧ x.1 ≠ 120 ∧ x.1 ≠ 117 ∧ x.1 ≠ 85 ∧ x.1 ≠ 10 ∧ x.1 ≠ 13 ∧ x.1 ≠ 9 ∧ 32 ≤ x.1 ∧ x.1 ≤ 126 := by decide +kernel
theorem escL_mem {c r : Int} (h : escL c = some r) : (c, r) ∈ shL := by
  unfold escL at h
  cases hf : shL.find? (fun x => x.1 == c) with
  | none => rw [hf] at h; cases h
  | some x =>
    rw [hf] at h
    simp only [Option.map_some, Option.some.injEq] at h
    have h1 := List.find?_some hf
    have h2 := List.mem_of_find?_eq_some hf
    simp only [beq_iff_eq] at h1
    subst h1 h
    exact h2
theorem letR_mem {c r : Int} (h : letR r = some c) : (c, r) ∈ shL := by
  unfold letR at h
  cases hf : shL.find? (fun x => x.2 == r) with
  | none => rw [hf] at h; cases h
  | some x =>
    rw [hf] at h
    simp only [Option.map_some, Option.some.injEq] at h
    have h1 := List.find?_some hf
    have h2 := List.mem_of_find?_eq_some hf
    simp only [beq_iff_eq] at h1
    subst h1 h
    exact h2
theorem escF_parts {zs : List Int} {r : Int} {m : Nat} (h : escF zs = some (r, m)) : okR r = true ∧ 1 ≤ m ∧ m ≤ zs.length := by
  cases zs with
  | nil => cases h
  | cons c t =>
    simp only [escF] at h
    split at h
    · rename_i hc
      simp only [Option.some.injEq, Prod.mk.injEq] at h
      obtain ⟨rfl, rfl⟩ := h
      refine ⟨?_, by omega, by simp⟩
      rcases hc with rfl | rfl <;> decide
    split at h
    · exact numF_parts h
    split at h
    · exact numF_parts h
    split at h
    · exact numF_parts h
    · cases he : escL c with
      | none => rw [he] at h; cases h
      | some x =>
        rw [he] at h
        simp only [Option.map_some, Option.some.injEq, Prod.mk.injEq] at h
        obtain ⟨rfl, rfl⟩ := h
        exact ⟨(shL_ok _ (escL_mem he)).1, by omega, by simp⟩
/-- Behind the first quote: the value, and how many bytes it takes with the last one. -/
def dT : Nat → List Int → Option (List Int × Nat)
  | 0, _ => none
  | _ + 1, [] => none
  | n + 1, c :: t => if c = 34 then some ([], 1) else if c = 10 ∨ c = 13 then none else
    if c = 92 then (match escF t with | none => none | some x => (dT n (t.drop x.2)).map (fun y => (utfF x.1 ++ y.1, y.2 + (1 + x.2)))) else (dT n t).map (fun y => (c :: y.1, y.2 + 1))
theorem dT_fuel : ∀ (n m : Nat) (zs : List Int), zs.length < n → zs.length < m → dT n zs = dT m zs := by
  intro n
  induction n with
  | zero => intro m zs h; omega
  | succ n ih =>
    intro m zs h1 h2
    cases m with
    | zero => omega
    | succ m =>
      cases zs with
      | nil => rfl
      | cons c t =>
        simp only [List.length_cons] at h1 h2
        simp only [dT]
        split
        · rfl
        split
        · rfl
        split
        · cases he : escF t with
          | none => rfl
          | some x =>
            have := escF_parts (r := x.1) (m := x.2) he
            simp only []
            rw [ih m (t.drop x.2) (by rw [List.length_drop]; omega) (by rw [List.length_drop]; omega)]
        · rw [ih m t (by omega) (by omega)]
def dq (zs : List Int) : Option (List Int × Nat) := dT (zs.length + 1) zs
theorem dT_cons (n : Nat) (c : Int) (t : List Int) : dT (n + 1) (c :: t) = if c = 34 then some ([], 1) else if c = 10 ∨ c = 13 then none else
    if c = 92 then (match escF t with | none => none | some x => (dT n (t.drop x.2)).map (fun y => (utfF x.1 ++ y.1, y.2 + (1 + x.2)))) else (dT n t).map (fun y => (c :: y.1, y.2 + 1)) := rfl
theorem dq_quote (t : List Int) : dq (34 :: t) = some ([], 1) := by unfold dq; rw [dT_cons, if_pos rfl]
theorem dq_brk (c : Int) (t : List Int) (h : c = 10 ∨ c = 13) : dq (c :: t) = none := by
  unfold dq; rw [dT_cons, if_neg (by omega), if_pos h]
theorem dq_ne (c : Int) (t : List Int) (h1 : c ≠ 34) (h2 : c ≠ 10) (h3 : c ≠ 13) (h4 : c ≠ 92) : dq (c :: t) = (dq t).map (fun y => (c :: y.1, y.2 + 1)) := by
  unfold dq; rw [dT_cons, if_neg h1, if_neg (by omega), if_neg h4]; rfl
theorem dq_bad (t : List Int) (h : escF t = none) : dq (92 :: t) = none := by
  unfold dq; rw [dT_cons, if_neg (by omega), if_neg (by omega), if_pos rfl, h]
theorem dq_esc (t : List Int) (r : Int) (m : Nat) (h : escF t = some (r, m)) : dq (92 :: t) = (dq (t.drop m)).map (fun y => (utfF r ++ y.1, y.2 + (1 + m))) := by
  have := escF_parts h
  unfold dq; rw [dT_cons, if_neg (by omega), if_neg (by omega), if_pos rfl, h]
  simp only []
  rw [List.length_cons, dT_fuel (t.length + 1) ((t.drop m).length + 1) (t.drop m) (by rw [List.length_drop]; omega) (by omega)]
theorem dq_len : ∀ (n : Nat) (zs v : List Int) (m : Nat), zs.length ≤ n → dq zs = some (v, m) → 1 ≤ m ∧ m ≤ zs.length ∧ v.length ≤ 4 * m ∧ (Byte zs → Byte v) := by
  intro n
  induction n with
  | zero =>
    intro zs v m hl h
    have : zs = [] := List.eq_nil_of_length_eq_zero (by omega)
    subst this; cases h
  | succ n ih =>
    intro zs v m hl h
    cases zs with
    | nil => cases h
    | cons c t =>
      simp only [List.length_cons] at hl
      by_cases h1 : c = 34
      · subst h1
        rw [dq_quote] at h
        simp only [Option.some.injEq, Prod.mk.injEq] at h
        obtain ⟨rfl, rfl⟩ := h
        exact ⟨by omega, by simp, by simp, fun _ z hz => by cases hz⟩
      by_cases h2 : c = 10 ∨ c = 13
      · rw [dq_brk c t h2] at h; cases h
      by_cases h3 : c = 92
      · subst h3
        cases he : escF t with
        | none => rw [dq_bad t he] at h; cases h
        | some x =>
          rw [dq_esc t x.1 x.2 he] at h
          have hp := escF_parts (r := x.1) (m := x.2) he
          cases hd : dq (t.drop x.2) with
          | none => rw [hd] at h; cases h
          | some y =>
            rw [hd] at h
            simp only [Option.map_some, Option.some.injEq, Prod.mk.injEq] at h
            obtain ⟨rfl, rfl⟩ := h
            have hi := ih (t.drop x.2) y.1 y.2 (by rw [List.length_drop]; omega) hd
            have hu := utfF_len x.1
            rw [List.length_drop] at hi
            refine ⟨by omega, by simp; omega, by simp; omega, fun hb => ?_⟩
            exact (utfF_byte hp.1).append (hi.2.2.2 (Byte.drop (fun z hz => hb z (by simp [hz])) _))
      · rw [dq_ne c t h1 (by omega) (by omega) h3] at h
        cases hd : dq t with
        | none => rw [hd] at h; cases h
        | some y =>
          rw [hd] at h
          simp only [Option.map_some, Option.some.injEq, Prod.mk.injEq] at h
          obtain ⟨rfl, rfl⟩ := h
          have hi := ih t y.1 y.2 (by omega) hd
          refine ⟨by omega, by simp; omega, by simp; omega, fun hb z hz => ?_⟩
          simp only [List.mem_cons] at hz
          rcases hz with rfl | hz
          · exact hb z (by simp)
          · exact hi.2.2.2 (fun z hz => hb z (by simp [hz])) z hz
def dqAt (zs acc : List Int) (k : Nat) : Option (List Int × Nat) := (dq (zs.drop k)).map fun x => (acc ++ x.1, x.2 + k)
theorem drop_at (zs : List Int) (k : Nat) (h : k < zs.length) : zs.drop k = zs.getD k 0 :: zs.drop (k + 1) := by
  rw [List.drop_eq_getElem_cons h]; simp [List.getD, h]
theorem dqAt_past (zs acc : List Int) (k : Nat) (h : zs.length ≤ k) : dqAt zs acc k = none := by
  unfold dqAt; rw [List.drop_eq_nil_of_le h]; rfl
theorem dqAt_end (zs acc : List Int) (k : Nat) (h : k < zs.length) (hc : zs.getD k 0 = 34) : dqAt zs acc k = some (acc, k + 1) := by
  unfold dqAt; rw [drop_at zs k h, hc, dq_quote]; simp [Nat.add_comm]
theorem dqAt_brk (zs acc : List Int) (k : Nat) (h : k < zs.length) (hc : zs.getD k 0 = 10 ∨ zs.getD k 0 = 13) : dqAt zs acc k = none := by
  unfold dqAt; rw [drop_at zs k h, dq_brk _ _ hc]; rfl
theorem dqAt_ne (zs acc : List Int) (k : Nat) (h : k < zs.length) (h1 : zs.getD k 0 ≠ 34) (h2 : zs.getD k 0 ≠ 10) (h3 : zs.getD k 0 ≠ 13) (h4 : zs.getD k 0 ≠ 92) : dqAt zs acc k = dqAt zs (acc ++ [zs.getD k 0]) (k + 1) := by
  unfold dqAt; rw [drop_at zs k h, dq_ne _ _ h1 h2 h3 h4]
  cases dq (zs.drop (k + 1)) with
  | none => rfl
  | some x => simp; omega
theorem dqAt_bad (zs acc : List Int) (k : Nat) (h : k < zs.length) (h1 : zs.getD k 0 = 92) (he : escF (zs.drop (k + 1)) = none) : dqAt zs acc k = none := by
  unfold dqAt; rw [drop_at zs k h, h1, dq_bad _ he]; rfl
theorem dqAt_esc (zs acc : List Int) (k : Nat) (h : k < zs.length) (h1 : zs.getD k 0 = 92) (r : Int) (m : Nat) (he : escF (zs.drop (k + 1)) = some (r, m)) : dqAt zs acc k = dqAt zs (acc ++ utfF r) (k + (1 + m)) := by
  unfold dqAt; rw [drop_at zs k h, h1, dq_esc _ r m he, List.drop_drop, show k + 1 + m = k + (1 + m) by omega]
  cases dq (zs.drop (k + (1 + m))) with
  | none => rfl
  | some x => simp; omega
def takeD (zs : List Int) : Option (List Int × Nat) := if zs.getD 0 0 = 34 then dqAt zs [] 1 else none
theorem takeD_cons (t : List Int) : takeD (34 :: t) = (dq t).map (fun x => (x.1, x.2 + 1)) := by
  unfold takeD dqAt; simp
def tkV (o : Option (List Int × Nat)) : List Int := match o with | some x => x.1 | none => []
def tkN (o : Option (List Int × Nat)) : Nat := match o with | some x => x.2 | none => 0
def wrF (r : Int) : List Int := match letR r with
  | some c => [92, c]
  | none => if prt r = true then utfF r else if r ≤ 255 then 92 :: 120 :: hexF r 2 else if r ≤ 65535 then 92 :: 117 :: hexF r 4 else 92 :: 85 :: hexF r 8
theorem wrF_len (r : Int) : 1 ≤ (wrF r).length ∧ (wrF r).length ≤ 10 := by
  unfold wrF
  split
  · simp
  split
  · have := utfF_len r; omega
  split
  · simp [hexF_len]
  split
  · simp [hexF_len]
  · simp [hexF_len]
def pD : Nat → List Int → Option (List Int)
  | _, [] => some []
  | 0, _ :: _ => none
  | n + 1, c :: t => match runeF (c :: t) with
    | (r, j, true) => (pD n ((c :: t).drop j.toNat)).map (fun y => wrF r ++ y)
    | (_, _, false) => none
theorem pD_fuel : ∀ (n m : Nat) (zs : List Int), zs.length ≤ n → zs.length ≤ m → pD n zs = pD m zs := by
  intro n
  induction n with
  | zero =>
    intro m zs h1 h2
    have : zs = [] := List.eq_nil_of_length_eq_zero (by omega)
    subst this; cases m <;> rfl
  | succ n ih =>
    intro m zs h1 h2
    cases zs with
    | nil => cases m <;> rfl
    | cons c t =>
      cases m with
      | zero => simp at h2
      | succ m =>
        simp only [List.length_cons] at h1 h2
        simp only [pD]
        have hn := runeF_n (c :: t) (by simp)
        rcases hf : runeF (c :: t) with ⟨r, j, ok⟩
        rw [hf] at hn
        cases ok
        · rfl
        · simp only []
          rw [ih m _ (by rw [List.length_drop]; simp only [List.length_cons]; simp only [] at hn; omega) (by rw [List.length_drop]; simp only [List.length_cons]; simp only [] at hn; omega)]
def pq (zs : List Int) : Option (List Int) := pD zs.length zs
theorem pq_nil : pq [] = some [] := rfl
theorem pq_bad (zs : List Int) (h : zs ≠ []) (r j : Int) (hf : runeF zs = (r, j, false)) : pq zs = none := by
  cases zs with
  | nil => exact absurd rfl h
  | cons c t => unfold pq; simp only [List.length_cons, pD, hf]
theorem pq_good (zs : List Int) (h : zs ≠ []) (r j : Int) (hf : runeF zs = (r, j, true)) : pq zs = (pq (zs.drop j.toNat)).map (fun y => wrF r ++ y) := by
  have hn := runeF_n zs h
  rw [hf] at hn
  simp only [] at hn
  cases zs with
  | nil => exact absurd rfl h
  | cons c t =>
    unfold pq; simp only [List.length_cons, pD, hf]
    rw [pD_fuel t.length ((c :: t).drop j.toNat).length _ (by rw [List.length_drop]; simp only [List.length_cons]; omega) (Nat.le_refl _)]
def putD (zs : List Int) : Option (List Int) := (pq zs).map (fun y => 34 :: (y ++ [34]))
def pqAt (zs acc : List Int) (k : Nat) : Option (List Int) := (pq (zs.drop k)).map (fun y => acc ++ (y ++ [34]))
theorem wraps_u32 (n : Int) (h₀ : 0 ≤ n) (h₁ : n < 2 ^ 32) : IntKind.u32.wrap n = n := by rw [IntKind.wrap_u32]; omega
theorem u32_and15 (x : Int) (h₀ : 0 ≤ x) (h₁ : x < 4294967296) : bits .and .u32 x 15 = x % 16 := bits_mask .u32 32 (by decide) wraps_u32 4 (by decide) x h₀ h₁
def hexS (n d : Int) : List Int := if d < 0 ∨ 8 < d then [] else hexF n d.toNat
def HexP (n d : Int) (w : World) (e : Ending) (w' : World) : Prop := ∃ s : ByteArray, byt s = hexS n d ∧ e = .returned (.string s) ∧ Below w.heap.size w w'
theorem six_at (j : Int) (h0 : 0 ≤ j) (h1 : j < 16) (W : World) :
    (Instr.index 9 (.string ⟨#[48, 49, 50, 51, 52, 53, 54, 55, 56, 57, 65, 66, 67, 68, 69, 70]⟩) (.int .u32 j)).run Try.prog W = .ok (.int .u8 (hexC j)) W := by
  have h : j = 0 ∨ j = 1 ∨ j = 2 ∨ j = 3 ∨ j = 4 ∨ j = 5 ∨ j = 6 ∨ j = 7 ∨ j = 8 ∨ j = 9 ∨ j = 10 ∨ j = 11 ∨ j = 12 ∨ j = 13 ∨ j = 14 ∨ j = 15 := by omega
  rcases h with rfl | rfl | rfl | rfl | rfl | rfl | rfl | rfl | rfl | rfl | rfl | rfl | rfl | rfl | rfl | rfl <;> (show _ = _; kernel_rfl)
theorem hexF_all (n : Int) (d : Nat) : Byte (hexF n d) := fun z hz => by have := hexF_byte d n z hz; omega
set_option maxHeartbeats 2000000 in
theorem refHex_any (n d : Int) (w : World) (h0 : 0 ≤ n) (h1 : n < 4294967296) (hd : -9223372036854775808 ≤ d ∧ d ≤ 9223372036854775807) :
    Calls Try.prog 108 #[.int .u32 n, .int .i64 d] w (HexP n d w) := by
  have B0 : Hid (Below w.heap.size w w) := Below.refl _ _
  by_cases hs : d < 0 ∨ 8 < d
  · have hv : hexS n d = [] := by unfold hexS; rw [if_pos hs]
    have HV := Lib.hid hv
    rcases hs with hs | hs
    · clear hv
      go_enter Try.func108, Try.ntmps108
      go_wp2_with fail
      go_ret
      exact ⟨⟨#[]⟩, by rw [HV.out]; rfl, rfl, B0.out⟩
    · have hs0 : decide (d < 0) = false := decide_eq_false (by omega)
      clear hv
      go_enter Try.func108, Try.ntmps108
      go_wp2_with fail
      go_ret
      exact ⟨⟨#[]⟩, by rw [HV.out]; rfl, rfl, B0.out⟩
  · obtain ⟨m, rfl⟩ : ∃ m : Nat, d = (m : Int) := ⟨d.toNat, by omega⟩
    have hm : m ≤ 8 := by omega
    have HV : Hid (hexS n (m : Int) = hexF n m) := by show _ = _; unfold hexS; rw [if_neg hs, Int.toNat_natCast]
    have hs1 : decide ((m : Int) < 0) = false := decide_eq_false (by omega)
    have hs2 : decide (8 < (m : Int)) = false := decide_eq_false (by omega)
    clear hs hd
    go_enter Try.func108, Try.ntmps108
    go_wp2_with fail
    go_loopw [5, 6] (fun v i W => ∃ (i0 : Int) (k p cap : Nat) (A : Option Addr), i0 + 1 = (k : Int) ∧ k + p = m ∧ i = .int .i64 i0 ∧ v = .slice A p cap ∧ p ≤ cap ∧ cap ≤ 9223372036854775807 ∧
      Hid (W.ownsRow w.heap.size 5 1 (.slice A p cap) p ((hexF (n / 2 ^ (4 * k)) p).map (Value.int .u8)) ∧ Below w.heap.size w W)) (fun _ i _ => (intOf i + 1).toNat)
    case atStart => exact ⟨(m : Int) - 1, m, 0, 0, none, by omega, by omega, rfl, rfl, by omega, by omega, own_nil _ _ _ _, B0.out⟩
    case round =>
      obtain ⟨i0, k, p, cap, A, hik, hkm, rfl, rfl, hpc, hcap, HK⟩ := hrel
      obtain ⟨W, hW⟩ : ∃ x, x = wr := ⟨_, rfl⟩
      subst hW
      by_cases hlt : 0 ≤ i0
      · obtain ⟨j, rfl⟩ : ∃ j : Nat, i0 = (j : Int) := ⟨i0.toNat, by omega⟩
        obtain rfl : k = j + 1 := by omega
        have hj8 : j < 8 := by omega
        have hown := HK.out.1
        have HB := Lib.hid HK.out.2
        clear HK
        have hpp : (0 : Int) < 2 ^ (4 * j) := Int.pow_pos (by omega)
        have hq0 : 0 ≤ n / 2 ^ (4 * j) := Int.ediv_nonneg h0 (by omega)
        have hq1 : n / 2 ^ (4 * j) ≤ n := Int.ediv_le_self _ h0
        have hqq : n / 2 ^ (4 * (j + 1)) = n / 2 ^ (4 * j) / 16 := by
          rw [show 4 * (j + 1) = 4 * j + 4 by omega, Int.pow_add, Int.ediv_ediv_of_nonneg (by omega)]; rfl
        rw [hqq] at hown
        have hsx : hexF (n / 2 ^ (4 * j)) (p + 1) = hexF (n / 2 ^ (4 * j) / 16) p ++ [hexC (n / 2 ^ (4 * j) % 16)] := rfl
        have hand : bits .and .u32 (n / 2 ^ (4 * j)) 15 = n / 2 ^ (4 * j) % 16 := u32_and15 _ hq0 (by omega)
        have hix := six_at (n / 2 ^ (4 * j) % 16) (by omega) (by omega) W
        obtain ⟨A2, cap2, W2, hrun, g1, g2, _, g4, g5⟩ := one_more w W A cap p _ (hexF_len p _) hown HB.out (hexC (n / 2 ^ (4 * j) % 16)) (by omega)
        rw [← hsx] at g4
        have HRUN := Lib.hid hrun
        have HG := Lib.hid (And.intro g4 g5)
        have hp1 : p + 1 ≤ 8 := by omega
        clear hown hrun g4 g5 hpp hqq hsx hik
        generalize hexC (n / 2 ^ (4 * j) % 16) = z at *
        go_wp2_with (at_builtin; refine wpList_append_known rfl _ (.tmp 27) 96 rfl (.slice A p cap) (.slice (some ⟨W.heap.size, 0, none⟩) 1 1) _ _ rfl rfl HRUN.out ?_)
        go_roundw
        case rel => exact ⟨(j : Int) - 1, j, p + 1, cap2, A2, by omega, by omega, rfl, rfl, g1, g2, HG.out.1, HG.out.2⟩
        case measure => simp [intOf]
      · obtain rfl : k = 0 := by omega
        obtain rfl : i0 = -1 := by omega
        have hpm : p = m := by omega
        have hown := HK.out.1
        rw [Nat.mul_zero, Int.pow_zero, Int.ediv_one] at hown
        have HB := Lib.hid HK.out.2
        have hcv := run_string_rd W A p cap _ (hexF_len p n) (RdC.own hown).toB
        have HX : Hid (byt (strOfNums (hexF n p)) = hexF n m) := by
          show _ = _
          rw [byt_strOfNums _ (hexF_all n p), hpm]
        generalize strOfNums (hexF n p) = y at *
        clear hown HK hpm hkm
        go_wp2_with fail
        go_ret
        exact ⟨y, by rw [HX.out, HV.out], rfl, HB.out⟩
set_option maxHeartbeats 1000000 in
theorem refDigit_any (c : Int) (h0 : 0 ≤ c) (h1 : c < 256) (w : World) (o : Option Int) (ho : hexD c = o) :
    Calls Try.prog 104 #[.int .u8 c] w fun e w' => e = .returned (.int .i64 (o.getD (-1))) ∧ w = w' := by
  have HO := Lib.hid ho
  clear ho
  by_cases hd : 48 ≤ c ∧ c ≤ 57
  · have hv : o = some (c - 48) := by rw [← HO.out, hexD, if_pos hd]
    subst hv
    have hd1 := hd.1
    have hd2 := hd.2
    clear HO hd
    go_enter Try.func104, Try.ntmps104
    go_wp2_with fail
    go_ret
    exact ⟨by simp, rfl⟩
  by_cases hA : 65 ≤ c ∧ c ≤ 70
  · have hv : o = some (c - 55) := by rw [← HO.out, hexD, if_neg hd, if_pos hA]
    subst hv
    have hd1 := hA.1
    have hd2 := hA.2
    have hd3 : decide (c ≤ 57) = false := decide_eq_false (by omega)
    clear HO hd hA
    go_enter Try.func104, Try.ntmps104
    go_wp2_with fail
    go_ret
    exact ⟨by simp; omega, rfl⟩
  by_cases ha : 97 ≤ c ∧ c ≤ 102
  · have hv : o = some (c - 87) := by rw [← HO.out, hexD, if_neg hd, if_neg hA, if_pos ha]
    subst hv
    have hd1 := ha.1
    have hd2 := ha.2
    have hd3 : decide (c ≤ 57) = false := decide_eq_false (by omega)
    have hd4 : decide (c ≤ 70) = false := decide_eq_false (by omega)
    clear HO hd hA ha
    go_enter Try.func104, Try.ntmps104
    go_wp2_with fail
    go_ret
    exact ⟨by simp; omega, rfl⟩
  · have hv : o = none := by rw [← HO.out, hexD, if_neg hd, if_neg hA, if_neg ha]
    subst hv
    have hN := Lib.hid (And.intro hd (And.intro hA ha))
    clear HO hd hA ha
    go_enter Try.func104, Try.ntmps104
    go_wp2_with fail
    all_goals first
      | (go_ret; exact ⟨rfl, rfl⟩)
      | (exfalso; have := hN.out; omega)
def esc1 (c : Int) : Int := if c = 47 ∨ c = 32 then c else (escL c).getD (-1)
def refL : List (Int × Int) := [(48, 0), (97, 7), (98, 8), (116, 9), (110, 10), (118, 11), (102, 12), (114, 13), (101, 27), (34, 34), (47, 47), (92, 92), (32, 32), (78, 133), (95, 160), (76, 8232), (80, 8233)]
theorem ref_all : ∀ c : Fin 256, ((refL.find? (fun x => x.1 == (c.val : Int))).map (·.2)).getD (-1) = esc1 (c.val : Int) := by decide +kernel
theorem ref_esc (c : Int) (h0 : 0 ≤ c) (h1 : c < 256) : ((refL.find? (fun x => x.1 == c)).map (·.2)).getD (-1) = esc1 c := by
  have h := ref_all ⟨c.toNat, by omega⟩
  have e : ((c.toNat : Nat) : Int) = c := by omega
  simpa only [e] using h
def refC : Array Value := (refL.map fun x => Value.int .i32 x.2).toArray
theorem ref_at (k : Nat) (hk : k < 17) : ∃ c r, refL[k]? = some (c, r) ∧ refC[k]? = some (.int .i32 r) ∧ ∀ W, (Instr.index 9 (.string ⟨#[48, 97, 98, 116, 110, 118, 102, 114, 101, 34, 47, 92, 32, 78, 95, 76, 80]⟩) (.int .i64 (k : Int))).run Try.prog W = .ok (.int .u8 c) W := by
  match k, hk with
  | 0, _ => exact ⟨48, 0, rfl, rfl, fun _ => by kernel_rfl⟩
  | 1, _ => exact ⟨97, 7, rfl, rfl, fun _ => by kernel_rfl⟩
  | 2, _ => exact ⟨98, 8, rfl, rfl, fun _ => by kernel_rfl⟩
  | 3, _ => exact ⟨116, 9, rfl, rfl, fun _ => by kernel_rfl⟩
  | 4, _ => exact ⟨110, 10, rfl, rfl, fun _ => by kernel_rfl⟩
  | 5, _ => exact ⟨118, 11, rfl, rfl, fun _ => by kernel_rfl⟩
  | 6, _ => exact ⟨102, 12, rfl, rfl, fun _ => by kernel_rfl⟩
  | 7, _ => exact ⟨114, 13, rfl, rfl, fun _ => by kernel_rfl⟩
  | 8, _ => exact ⟨101, 27, rfl, rfl, fun _ => by kernel_rfl⟩
  | 9, _ => exact ⟨34, 34, rfl, rfl, fun _ => by kernel_rfl⟩
  | 10, _ => exact ⟨47, 47, rfl, rfl, fun _ => by kernel_rfl⟩
  | 11, _ => exact ⟨92, 92, rfl, rfl, fun _ => by kernel_rfl⟩
  | 12, _ => exact ⟨32, 32, rfl, rfl, fun _ => by kernel_rfl⟩
  | 13, _ => exact ⟨78, 133, rfl, rfl, fun _ => by kernel_rfl⟩
  | 14, _ => exact ⟨95, 160, rfl, rfl, fun _ => by kernel_rfl⟩
  | 15, _ => exact ⟨76, 8232, rfl, rfl, fun _ => by kernel_rfl⟩
  | 16, _ => exact ⟨80, 8233, rfl, rfl, fun _ => by kernel_rfl⟩
  | k + 17, h => omega
theorem refFind_step (p : Int × Int → Bool) (k : Nat) (x : Int × Int) (hx : refL[k]? = some x) : (refL.drop k).find? p = if p x = true then some x else (refL.drop (k + 1)).find? p := by
  obtain ⟨hlt, he⟩ := List.getElem?_eq_some_iff.1 hx
  rw [List.drop_eq_getElem_cons hlt, he, List.find?_cons]
  cases p x <;> rfl
set_option maxHeartbeats 2000000 in
theorem refEscape_any (c : Int) (w : World) (h0 : 0 ≤ c) (h1 : c < 256) (v : Int) (hv : esc1 c = v) :
    Calls Try.prog 102 #[.int .u8 c] w fun e w' => e = .returned (.int .i32 v) ∧ Below w.heap.size w w' := by
  have HV : Hid ((((refL.drop 0).find? (fun x => x.1 == c)).map (·.2)).getD (-1) = v) := by
    show _ = _
    rw [List.drop_zero, ref_esc c h0 h1, hv]
  have HAT := Lib.hid ref_at
  obtain ⟨V, hV⟩ : ∃ V, w.alloc (.cells refC 21) = V := ⟨_, rfl⟩
  have HC : Hid (∀ k x, refC[k]? = some x → V.cell? ⟨w.heap.size, k, none⟩ = some x) := by
    intro k x hx
    rw [← hV, World.cell?_alloc_mark]; exact hx
  have HB : Hid (Below w.heap.size w V) := hV ▸ (Below.refl _ _).alloc (Nat.le_refl _) _
  have hV2 : w.alloc (.cells #[.int .i32 0, .int .i32 7, .int .i32 8, .int .i32 9, .int .i32 10, .int .i32 11, .int .i32 12, .int .i32 13, .int .i32 27, .int .i32 34, .int .i32 47, .int .i32 92, .int .i32 32, .int .i32 133, .int .i32 160, .int .i32 8232, .int .i32 8233] 21) = V := hV
  clear hv hV
  go_enter Try.func102, Try.ntmps102
  go_wp2_with fail
  clear hV2
  go_loop [2, 5] (fun r i => ∃ k : Nat, k ≤ 17 ∧ i = .int .i64 (k : Int) ∧ r = .int .i32 0 ∧ Hid ((((refL.drop k).find? (fun x => x.1 == c)).map (·.2)).getD (-1) = v)) (fun _ i => 17 - (intOf i).toNat)
  case atStart => exact ⟨0, by omega, rfl, rfl, HV.out⟩
  case round =>
    obtain ⟨k, hk, rfl, rfl, HK⟩ := hrel
    by_cases hlt : k < 17
    · have d : (k : Int) < 17 := by omega
      obtain ⟨x, r, hx, hcx, hrun⟩ := HAT.out k hlt
      have hst := refFind_step (fun x => x.1 == c) k (x, r) hx
      have hcell := HC.out k _ hcx
      have ix := hrun V
      clear hrun hx hcx
      by_cases hxc : x = c
      · have hv : v = r := by rw [← HK.out, hst]; simp [hxc]
        subst hv
        have ex : (x == c) = true := beq_iff_eq.2 hxc
        clear hst HK hxc
        go_wp2_with fail
        go_ret
        exact ⟨rfl, HB.out⟩
      · have HN : Hid ((((refL.drop (k + 1)).find? (fun x => x.1 == c)).map (·.2)).getD (-1) = v) := by
          show _ = v
          rw [← HK.out, hst]; simp [hxc]
        have ex : (x == c) = false := beq_eq_false_iff_ne.2 hxc
        clear hst HK hxc
        go_wp2_with fail
        go_round
        case rel => exact ⟨k + 1, by omega, by go_num, rfl, HN⟩
        case measure => simp [intOf]; omega
    · obtain rfl : k = 17 := by omega
      have hv : v = -1 := by rw [← HK.out]; rfl
      subst hv
      go_wp2_with fail
      go_ret
      exact ⟨rfl, HB.out⟩
/-- The bytes of a rune, in memory of its own. -/
theorem new_mk {w : World} (zs : List Int) (m : Nat) (hm : zs.length = m) (hm0 : m ≤ 100) : NewB w zs (.returned (.slice (some ⟨w.heap.size, 0, none⟩) m m)) (w.alloc (.cells (cellsB zs) 5)) :=
  ⟨_, m, m, rfl, hm, Nat.le_refl _, by omega, (fun h => by cases h), RdB.new rfl (fun k y hy => cellsB_at k y hy), (Below.refl _ _).alloc (Nat.le_refl _) _⟩
theorem i32_and63 (x : Int) (h₀ : 0 ≤ x) (h₁ : x < 2147483648) : bits .and .i32 x 63 = x % 64 := bits_mask .i32 31 (by decide) wraps_i32 6 (by decide) x h₀ h₁
set_option maxHeartbeats 2000000 in
theorem refUtf8_any (r : Int) (w : World) (hok : okR r = true) :
    Calls Try.prog 103 #[.int .i32 r] w (NewB w (utfF r)) := by
  obtain ⟨h0, hmax, _⟩ := okR_parts hok
  clear hok
  have a1 : bits .and .i32 r 63 = r % 64 := i32_and63 r h0 (by omega)
  have a2 : bits .and .i32 (r / 64) 63 = r / 64 % 64 := i32_and63 _ (by omega) (by omega)
  have a3 : bits .and .i32 (r / 4096) 63 = r / 4096 % 64 := i32_and63 _ (by omega) (by omega)
  by_cases h1 : r < 128
  · have hu : utfF r = [r] := by unfold utfF; rw [if_pos h1]
    rw [hu]
    clear hu
    have HG : Hid (∀ x, x = r → NewB w [r] (.returned (.slice (some ⟨w.heap.size, 0, none⟩) 1 1)) (w.alloc (.cells #[.int .u8 x] 5))) := by
      rintro x rfl; exact new_mk [x] 1 rfl (by omega)
    go_enter Try.func103, Try.ntmps103
    go_wp2_with fail
    go_ret
    exact HG.out _ (by omega)
  have d1 : decide (r < 128) = false := decide_eq_false (by omega)
  by_cases h2 : r < 2048
  · have hu : utfF r = [192 + r / 64, 128 + r % 64] := by unfold utfF; rw [if_neg h1, if_pos h2]
    rw [hu]
    clear hu
    have HG : Hid (∀ x y, x = 192 + r / 64 → y = 128 + r % 64 → NewB w [192 + r / 64, 128 + r % 64] (.returned (.slice (some ⟨w.heap.size, 0, none⟩) 2 2)) (w.alloc (.cells #[.int .u8 x, .int .u8 y] 5))) := by
      rintro x y rfl rfl; exact new_mk _ 2 rfl (by omega)
    go_enter Try.func103, Try.ntmps103
    go_wp2_with fail
    go_ret
    exact HG.out _ _ (by omega) (by omega)
  have d2 : decide (r < 2048) = false := decide_eq_false (by omega)
  by_cases h3 : r < 65536
  · have hu : utfF r = [224 + r / 4096, 128 + r / 64 % 64, 128 + r % 64] := by unfold utfF; rw [if_neg h1, if_neg h2, if_pos h3]
    rw [hu]
    clear hu
    have HG : Hid (∀ x y z, x = 224 + r / 4096 → y = 128 + r / 64 % 64 → z = 128 + r % 64 → NewB w [224 + r / 4096, 128 + r / 64 % 64, 128 + r % 64] (.returned (.slice (some ⟨w.heap.size, 0, none⟩) 3 3)) (w.alloc (.cells #[.int .u8 x, .int .u8 y, .int .u8 z] 5))) := by
      rintro x y z rfl rfl rfl; exact new_mk _ 3 rfl (by omega)
    go_enter Try.func103, Try.ntmps103
    go_wp2_with fail
    go_ret
    exact HG.out _ _ _ (by omega) (by omega) (by omega)
  · have hu : utfF r = [240 + r / 262144, 128 + r / 4096 % 64, 128 + r / 64 % 64, 128 + r % 64] := by unfold utfF; rw [if_neg h1, if_neg h2, if_neg h3]
    rw [hu]
    clear hu
    have d3 : decide (r < 65536) = false := decide_eq_false (by omega)
    have HG : Hid (∀ x y z u, x = 240 + r / 262144 → y = 128 + r / 4096 % 64 → z = 128 + r / 64 % 64 → u = 128 + r % 64 → NewB w [240 + r / 262144, 128 + r / 4096 % 64, 128 + r / 64 % 64, 128 + r % 64] (.returned (.slice (some ⟨w.heap.size, 0, none⟩) 4 4)) (w.alloc (.cells #[.int .u8 x, .int .u8 y, .int .u8 z, .int .u8 u] 5))) := by
      rintro x y z u rfl rfl rfl rfl; exact new_mk _ 4 rfl (by omega)
    go_enter Try.func103, Try.ntmps103
    go_wp2_with fail
    go_ret
    exact HG.out _ _ _ _ (by omega) (by omega) (by omega) (by omega)
def TakeP (o : Option (List Int × Nat)) (w : World) (e : Ending) (w' : World) : Prop :=
  ∃ v : ByteArray, byt v = tkV o ∧ e = .returned (.tuple #[.string v, .int .i64 (tkN o : Int), .bool o.isSome]) ∧ Below w.heap.size w w'
/-- Bytes that are read put behind bytes of our own. -/
theorem rd_more (w W : World) (A : Option Addr) (cap p : Nat) (out : List Int) (hown : W.ownsRow w.heap.size 5 1 (.slice A p cap) p (out.map (Value.int .u8))) (hb : Below w.heap.size w W)
    (B : Option Addr) (m c : Nat) (zs : List Int) (hm : zs.length = m) (hr : RdB W B zs) (hsz : p + m ≤ 1000000000) :
    ∃ A' cap' W', (Builtin.append_ #[96, 96] 96 #[.slice A p cap, .slice B m c]).run Try.prog W = .ok (.slice A' (p + m) cap') W' ∧
      p + m ≤ cap' ∧ cap' ≤ 9223372036854775807 ∧ (A' = none → cap' = 0) ∧ W'.ownsRow w.heap.size 5 1 (.slice A' (p + m) cap') (p + m) ((out ++ zs).map (Value.int .u8)) ∧ Below w.heap.size w W' := by
  obtain ⟨v', W', hrun, ho, hg, hv⟩ := run_append_bytes W w.heap.size _ p out hown hb.size B m c zs hm hr hsz
  obtain ⟨A', cap', rfl, h1, h2, h3⟩ := own_form ho
  exact ⟨A', cap', W', hrun, h1, h2, h3, ho, hb.grown hg hb.size (own_base hown)⟩
theorem numO_bad {q : Int} (d : Nat) (h : okR q = false) : numO d (some q) = none := by simp only [numO]; rw [h]; rfl
theorem numO_good {q : Int} (d : Nat) (h : okR q = true) : numO d (some q) = some (q, 1 + d) := by simp only [numO]; rw [h]; rfl
theorem esc1_none {c : Int} {t : List Int} (h : esc1 c < 0) (h0 : 0 ≤ c) (n3 : c ≠ 120) (n4 : c ≠ 117) (n5 : c ≠ 85) : escF (c :: t) = none := by
  unfold esc1 at h
  simp only [escF]
  split at h
  · omega
  · rename_i hn
    rw [if_neg hn, if_neg n3, if_neg n4, if_neg n5]
    cases he : escL c with
    | none => rfl
    | some r =>
      rw [he] at h
      have := okR_parts (shL_ok _ (escL_mem he)).1
      simp at h
      simp at this
      omega
theorem esc1_some {c : Int} {t : List Int} (h : 0 ≤ esc1 c) (n3 : c ≠ 120) (n4 : c ≠ 117) (n5 : c ≠ 85) : escF (c :: t) = some (esc1 c, 1) := by
  unfold esc1 at h ⊢
  simp only [escF]
  split
  · rfl
  · rename_i hn
    rw [if_neg hn] at h
    cases he : escL c with
    | none => rw [he] at h; simp at h
    | some r => simp
set_option maxHeartbeats 8000000 in
set_option maxRecDepth 100000 in
theorem refTake_any (A : Option Addr) (n c : Nat) (zs : List Int) (w : World) (hl : zs.length = n) (hnc : n ≤ c) (hm : c ≤ 9223372036854775807) (hn : n ≤ 1000000) (hb : Byte zs) (hr : RdB w A zs) (o : Option (List Int × Nat)) (ho : takeD zs = o) :
    Calls Try.prog 88 #[.slice A n c] w (TakeP o w) := by
  have HL := Lib.hid hl
  have HR := Lib.hid hr
  have HY := Lib.hid hb
  have HO := Lib.hid ho
  by_cases hn0 : 0 < n
  · obtain ⟨b, off, rfl, hc⟩ := hr.addr (by omega)
    have c0 := hc 0 (by omega)
    rw [Nat.add_zero] at c0
    have d0 : ((n : Int) == 0) = false := beq_eq_false_iff_ne.2 (by omega)
    have d0' : (0 : Int) < (n : Int) := by omega
    by_cases h0 : zs.getD 0 0 = 34
    · have HT : Hid (dqAt zs [] 1 = o) := by show _ = _; rw [← ho, takeD, if_pos h0]
      rw [h0] at c0
      have B0 : Hid (Below w.heap.size w w) := Below.refl _ _
      clear hl hr hb ho h0 HO hc
      go_enter Try.func88, Try.ntmps88
      go_wp2_with fail
      clear c0
      go_loopw [2, 3, 4, 5, 6] (fun r1 r2 r3 v i W => ∃ (k p cap : Nat) (A' : Option Addr), 1 ≤ k ∧ k ≤ n ∧ p ≤ 4 * k ∧ r1 = .string ⟨#[]⟩ ∧ r2 = .int .i64 0 ∧ r3 = .bool false ∧ v = .slice A' p cap ∧ i = .int .i64 (k : Int) ∧ p ≤ cap ∧ cap ≤ 9223372036854775807 ∧
        Hid (∃ out : List Int, out.length = p ∧ Byte out ∧ dqAt zs out k = o ∧ W.ownsRow w.heap.size 5 1 (.slice A' p cap) p (out.map (Value.int .u8)) ∧ Below w.heap.size w W)) (fun _ _ _ _ i _ => n - (intOf i).toNat)
      case atStart => exact ⟨1, 0, 0, none, by omega, by omega, by omega, rfl, rfl, rfl, rfl, rfl, by omega, by omega, [], rfl, (fun z hz => by cases hz), HT.out, own_nil _ _ _ _, B0.out⟩
      case round =>
        obtain ⟨k, p, cap, A', hk1, hk, hpk, rfl, rfl, rfl, rfl, rfl, hpc, hcap, HK⟩ := hrel
        obtain ⟨W, hW⟩ : ∃ x, x = wr := ⟨_, rfl⟩
        subst hW
        obtain ⟨out, hol, hoy, hot, hown, hbel⟩ := HK.out
        have HB := Lib.hid hbel
        have HOL := Lib.hid hol
        have HOY := Lib.hid hoy
        have HOT := Lib.hid hot
        have HOWN := Lib.hid hown
        clear hol hoy hot hown hbel HK
        by_cases hlt : k < n
        · have hkz : k < zs.length := by rw [HL.out]; exact hlt
          have hrw := HR.out.below HB.out
          obtain ⟨b', off', e', hc⟩ := hrw.addr (by rw [HL.out]; omega)
          injection e' with e'
          injection e' with e1 e2
          subst e1 e2
          have ck := hc k hkz
          have d : (k : Int) < (n : Int) := by omega
          by_cases hbr : zs.getD k 0 = 10 ∨ zs.getD k 0 = 13
          · have hv : o = none := by rw [← HOT.out, dqAt_brk zs out k hkz hbr]
            subst hv
            clear hrw hc
            rcases hbr with hz | hz
            · rw [hz] at ck
              clear hz hkz
              go_wp2_with fail
              go_ret3
              exact ⟨⟨#[]⟩, rfl, rfl, HB.out⟩
            · rw [hz] at ck
              clear hz hkz
              go_wp2_with fail
              go_ret3
              exact ⟨⟨#[]⟩, rfl, rfl, HB.out⟩
          have h10 : zs.getD k 0 ≠ 10 := fun h => hbr (.inl h)
          have h13 : zs.getD k 0 ≠ 13 := fun h => hbr (.inr h)
          have e10 : (zs.getD k 0 == 10) = false := beq_eq_false_iff_ne.2 h10
          have e13 : (zs.getD k 0 == 13) = false := beq_eq_false_iff_ne.2 h13
          by_cases hq : zs.getD k 0 = 34
          · have hv : o = some (out, k + 1) := by rw [← HOT.out, dqAt_end zs out k hkz hq]
            have HVV := Lib.hid hv
            have hcv := run_string_rd W A' p cap out HOL.out (RdC.own HOWN.out).toB
            have HX : Hid (byt (strOfNums out) = out) := byt_strOfNums out HOY.out
            generalize strOfNums out = ys at *
            rw [hq] at ck
            clear hrw hc hq hkz hv hbr h10 h13 e10 e13
            go_wp2_with fail
            go_ret3
            exact ⟨ys, by rw [HVV.out]; exact HX.out, by rw [HVV.out]; simp [tkN], HB.out⟩
          have e34 : (zs.getD k 0 == 34) = false := beq_eq_false_iff_ne.2 hq
          by_cases h92 : zs.getD k 0 = 92
          · rw [h92] at ck
            clear hbr h10 h13 e10 e13 hq e34
            by_cases hk2 : k + 1 < n
            · have hkz2 : k + 1 < zs.length := by rw [HL.out]; exact hk2
              have ck2 := hc (k + 1) hkz2
              have hcb := HY.out.at_ hkz2
              have hcb1 := hcb.1
              have hcb2 := hcb.2
              have d2 : decide ((n : Int) ≤ (k : Int) + 1) = false := decide_eq_false (by omega)
              have d2' : (k : Int) + 1 < (n : Int) := by omega
              have hdr := drop_at zs (k + 1) hkz2
              obtain ⟨x, hx⟩ : ∃ x, zs.getD (k + 1) 0 = x := ⟨_, rfl⟩
              rw [hx] at ck2 hcb1 hcb2 hdr
              clear hx hcb
              by_cases n3 : x = 120
              · subst n3
                have hes : escF (zs.drop (k + 1)) = numF 2 (zs.drop (k + 1)) := by rw [hdr]; rfl
                have HC2 : Hid (∀ j, k + 2 + j < n → ∃ z, (zs.drop (k + 2))[j]? = some z ∧ 0 ≤ z ∧ z < 256 ∧ W.cell? ⟨b, off + (k + 2 + j), none⟩ = some (.int .u8 z)) := by
                  intro j hj
                  have hjz : k + 2 + j < zs.length := by rw [HL.out]; exact hj
                  exact ⟨_, by rw [List.getElem?_drop]; exact getD_at hjz, (HY.out.at_ hjz).1, (HY.out.at_ hjz).2, hc _ hjz⟩
                have HNS : Hid (n ≤ k + 1 + 2 → o = none) := by
                  intro hsh
                  rw [← HOT.out, dqAt_bad zs out k hkz h92 (by rw [hes, numF, if_pos (by rw [List.length_drop, HL.out]; omega)])]
                have HNV : Hid (k + 1 + 2 < n → ∀ q, hexV 0 ((zs.drop (k + 2)).take 2) = q → numO 2 q = escF (zs.drop (k + 1))) := by
                  intro hsh q hq
                  rw [hes, numF, if_neg (by rw [List.length_drop, HL.out]; omega), List.drop_drop, hq]
                have HBAD : Hid (escF (zs.drop (k + 1)) = none → o = none) := fun he => by rw [← HOT.out, dqAt_bad zs out k hkz h92 he]
                have HGOOD : Hid (∀ r m, escF (zs.drop (k + 1)) = some (r, m) → dqAt zs (out ++ utfF r) (k + (1 + m)) = o) := fun r m he => by rw [← dqAt_esc zs out k hkz h92 r m he, HOT.out]
                clear hrw hc hdr hes hkz hkz2 h92
                generalize zs.drop (k + 2) = T at *
                generalize escF (zs.drop (k + 1)) = eo at *
                go_wp2_with fail
                go_loop [2, 3, 4, 10, 11] (fun r1 r2 r3 r i => ∃ (j : Nat) (q : Int), j ≤ 2 ∧ i = .int .i64 (j : Int) ∧ r = .int .i64 q ∧ r1 = .string ⟨#[]⟩ ∧ r2 = .int .i64 0 ∧ r3 = .bool false ∧ Hid (hexV 0 (T.take j) = some q ∧ k + 1 + j < n)) (fun _ _ _ _ i => 2 - (intOf i).toNat)
                case atStart => exact ⟨0, 0, by omega, rfl, rfl, rfl, rfl, rfl, rfl, by omega⟩
                case round =>
                  obtain ⟨j, q, hj, rfl, rfl, rfl, rfl, rfl, HQ⟩ := hrel
                  by_cases hjd : j < 2
                  · have dj : (j : Int) < 2 := by omega
                    by_cases hjn : k + 2 + j < n
                    · have dn : decide ((n : Int) ≤ (k : Int) + 2 + (j : Int)) = false := decide_eq_false (by omega)
                      have dn' : (k : Int) + 2 + (j : Int) < (n : Int) := by omega
                      obtain ⟨z, hz, hz0, hz1, cz⟩ := HC2.out j hjn
                      have hst := hexV_step T j z q hz HQ.out.1
                      have hq0 : 0 ≤ q ∧ q < 268435456 := (hexV_lt _ q HQ.out.1).1 (by rw [List.length_take]; omega)
                      have hq1 := hq0.1
                      have hq2 := hq0.2
                      clear hq0 hz
                      cases hd : hexD z with
                      | none =>
                        have hv : o = none := by
                          by_cases hsh : n ≤ k + 1 + 2
                          · exact HNS.out hsh
                          · refine HBAD.out ?_
                            rw [← HNV.out (by omega) _ (hexV_stop T (j + 1) 2 hjd (by rw [hst, hd]))]; rfl
                        subst hv
                        have HD := Lib.hid hd
                        clear hst hd HQ
                        go_wp2_with (go_at_call 104; refine (refDigit_any _ (by omega) (by omega) _ _ HD.out).mono ?_; rintro e w' ⟨rfl, rfl⟩)
                        go_ret3
                        exact ⟨⟨#[]⟩, rfl, rfl, HB.out⟩
                      | some y =>
                        have hy := hexD_bd hd
                        have hy1 := hy.1
                        have hy2 := hy.2
                        rw [hd] at hst
                        have HST : Hid (hexV 0 (T.take (j + 1)) = some (q * 16 + y)) := hst
                        have HD := Lib.hid hd
                        have dy : decide (y < 0) = false := decide_eq_false (by omega)
                        clear hst hd hy HQ
                        go_wp2_with (go_at_call 104; refine (refDigit_any _ (by omega) (by omega) _ _ HD.out).mono ?_; rintro e w' ⟨rfl, rfl⟩)
                        go_round
                        case rel => exact ⟨j + 1, q * 16 + y, by omega, by go_num, by go_num, rfl, rfl, rfl, HST.out, by omega⟩
                        case measure => simp [intOf]; omega
                    · have dn : (n : Int) ≤ (k : Int) + 2 + (j : Int) := by omega
                      have hv : o = none := HNS.out (by omega)
                      subst hv
                      go_wp2_with fail
                      go_ret3
                      exact ⟨⟨#[]⟩, rfl, rfl, HB.out⟩
                  · obtain rfl : j = 2 := by omega
                    have hkn := HQ.out.2
                    have hev := HNV.out hkn _ HQ.out.1
                    have hq0 : 0 ≤ q ∧ q < 4294967296 := (hexV_lt _ q HQ.out.1).2 (by rw [List.length_take]; omega)
                    have hq1 := hq0.1
                    have hq2 := hq0.2
                    clear hq0 HNS HNV HQ HC2
                    cases hok : okR q
                    · have hv : o = none := HBAD.out (by rw [← hev]; exact numO_bad _ hok)
                      subst hv
                      have hw : 1114111 < q ∨ (55296 ≤ q ∧ q ≤ 57343) := by
                        unfold okR surr at hok
                        simp at hok
                        omega
                      clear hev hok HBAD HGOOD
                      rcases hw with hw | ⟨hw1, hw2⟩
                      · go_wp2_with fail
                        go_ret3
                        exact ⟨⟨#[]⟩, rfl, rfl, HB.out⟩
                      · have hw3 : decide (1114111 < q) = false := decide_eq_false (by omega)
                        go_wp2_with fail
                        go_ret3
                        exact ⟨⟨#[]⟩, rfl, rfl, HB.out⟩
                    · have hT2 := HGOOD.out q (1 + 2) (by rw [← hev]; exact numO_good _ hok)
                      have HT2 := Lib.hid hT2
                      have HOK := Lib.hid hok
                      have hp := okR_parts hok
                      have hw1 : decide (1114111 < q) = false := decide_eq_false (by omega)
                      have hw5 : q ≤ 1114111 := hp.2.1
                      have hw2 : q < 55296 ∨ 57343 < q := by have := hp.2.2; unfold surr at this; simp at this; omega
                      have hul := utfF_len q
                      have hul2 := hul.2
                      have HUB : Hid (Byte (utfF q)) := utfF_byte hok
                      clear hT2 hev hok HBAD HGOOD hp hul
                      rcases hw2 with hw2 | hw2
                      · have hw3 : decide (55296 ≤ q) = false := decide_eq_false (by omega)
                        go_wp2_with fail
                        refine (refUtf8_any q W HOK.out).mono ?_
                        rintro e W2 ⟨Au, L, capu, rfl, hLu, _, _, _, hru, hb2⟩
                        obtain ⟨A3, cap3, W3, hrun3, g1, g2, _, g4, g5⟩ := rd_more w W2 A' cap p out (own_below HOWN.out hb2) (below_step HB.out hb2) Au L capu (utfF q) hLu hru (by omega)
                        have HRUN := Lib.hid hrun3
                        have HG := Lib.hid (And.intro g4 g5)
                        have HLL := Lib.hid hLu
                        have hL4 : L ≤ 4 := by omega
                        clear hrun3 g4 g5 hru hb2 hLu
                        go_wp2_with (at_builtin; refine wpList_append_known rfl (.tmp 125) (.tmp 128) 96 rfl (.slice A' p cap) (.slice Au L capu) _ _ rfl rfl HRUN.out ?_; clear HRUN)
                        exact ⟨⟨k + (1 + (1 + 2)), p + L, cap3, A3, by omega, by omega, by omega, rfl, rfl, rfl, rfl, congrArg (Value.int .i64) (by omega), g1, g2, out ++ utfF q, by rw [List.length_append, HOL.out, HLL.out], HOY.out.append HUB.out, HT2.out, HG.out.1, HG.out.2⟩, by simp only [intOf]; omega⟩
                      · have hw3 : decide (q ≤ 57343) = false := decide_eq_false (by omega)
                        have hw4 : 55296 ≤ q := by omega
                        go_wp2_with fail
                        refine (refUtf8_any q W HOK.out).mono ?_
                        rintro e W2 ⟨Au, L, capu, rfl, hLu, _, _, _, hru, hb2⟩
                        obtain ⟨A3, cap3, W3, hrun3, g1, g2, _, g4, g5⟩ := rd_more w W2 A' cap p out (own_below HOWN.out hb2) (below_step HB.out hb2) Au L capu (utfF q) hLu hru (by omega)
                        have HRUN := Lib.hid hrun3
                        have HG := Lib.hid (And.intro g4 g5)
                        have HLL := Lib.hid hLu
                        have hL4 : L ≤ 4 := by omega
                        clear hrun3 g4 g5 hru hb2 hLu
                        go_wp2_with (at_builtin; refine wpList_append_known rfl (.tmp 125) (.tmp 128) 96 rfl (.slice A' p cap) (.slice Au L capu) _ _ rfl rfl HRUN.out ?_; clear HRUN)
                        exact ⟨⟨k + (1 + (1 + 2)), p + L, cap3, A3, by omega, by omega, by omega, rfl, rfl, rfl, rfl, congrArg (Value.int .i64) (by omega), g1, g2, out ++ utfF q, by rw [List.length_append, HOL.out, HLL.out], HOY.out.append HUB.out, HT2.out, HG.out.1, HG.out.2⟩, by simp only [intOf]; omega⟩
              by_cases n4 : x = 117
              · subst n4
                have hes : escF (zs.drop (k + 1)) = numF 4 (zs.drop (k + 1)) := by rw [hdr]; rfl
                have HC2 : Hid (∀ j, k + 2 + j < n → ∃ z, (zs.drop (k + 2))[j]? = some z ∧ 0 ≤ z ∧ z < 256 ∧ W.cell? ⟨b, off + (k + 2 + j), none⟩ = some (.int .u8 z)) := by
                  intro j hj
                  have hjz : k + 2 + j < zs.length := by rw [HL.out]; exact hj
                  exact ⟨_, by rw [List.getElem?_drop]; exact getD_at hjz, (HY.out.at_ hjz).1, (HY.out.at_ hjz).2, hc _ hjz⟩
                have HNS : Hid (n ≤ k + 1 + 4 → o = none) := by
                  intro hsh
                  rw [← HOT.out, dqAt_bad zs out k hkz h92 (by rw [hes, numF, if_pos (by rw [List.length_drop, HL.out]; omega)])]
                have HNV : Hid (k + 1 + 4 < n → ∀ q, hexV 0 ((zs.drop (k + 2)).take 4) = q → numO 4 q = escF (zs.drop (k + 1))) := by
                  intro hsh q hq
                  rw [hes, numF, if_neg (by rw [List.length_drop, HL.out]; omega), List.drop_drop, hq]
                have HBAD : Hid (escF (zs.drop (k + 1)) = none → o = none) := fun he => by rw [← HOT.out, dqAt_bad zs out k hkz h92 he]
                have HGOOD : Hid (∀ r m, escF (zs.drop (k + 1)) = some (r, m) → dqAt zs (out ++ utfF r) (k + (1 + m)) = o) := fun r m he => by rw [← dqAt_esc zs out k hkz h92 r m he, HOT.out]
                clear hrw hc hdr hes hkz hkz2 h92
                generalize zs.drop (k + 2) = T at *
                generalize escF (zs.drop (k + 1)) = eo at *
                go_wp2_with fail
                go_loop [2, 3, 4, 10, 11] (fun r1 r2 r3 r i => ∃ (j : Nat) (q : Int), j ≤ 4 ∧ i = .int .i64 (j : Int) ∧ r = .int .i64 q ∧ r1 = .string ⟨#[]⟩ ∧ r2 = .int .i64 0 ∧ r3 = .bool false ∧ Hid (hexV 0 (T.take j) = some q ∧ k + 1 + j < n)) (fun _ _ _ _ i => 4 - (intOf i).toNat)
                case atStart => exact ⟨0, 0, by omega, rfl, rfl, rfl, rfl, rfl, rfl, by omega⟩
                case round =>
                  obtain ⟨j, q, hj, rfl, rfl, rfl, rfl, rfl, HQ⟩ := hrel
                  by_cases hjd : j < 4
                  · have dj : (j : Int) < 4 := by omega
                    by_cases hjn : k + 2 + j < n
                    · have dn : decide ((n : Int) ≤ (k : Int) + 2 + (j : Int)) = false := decide_eq_false (by omega)
                      have dn' : (k : Int) + 2 + (j : Int) < (n : Int) := by omega
                      obtain ⟨z, hz, hz0, hz1, cz⟩ := HC2.out j hjn
                      have hst := hexV_step T j z q hz HQ.out.1
                      have hq0 : 0 ≤ q ∧ q < 268435456 := (hexV_lt _ q HQ.out.1).1 (by rw [List.length_take]; omega)
                      have hq1 := hq0.1
                      have hq2 := hq0.2
                      clear hq0 hz
                      cases hd : hexD z with
                      | none =>
                        have hv : o = none := by
                          by_cases hsh : n ≤ k + 1 + 4
                          · exact HNS.out hsh
                          · refine HBAD.out ?_
                            rw [← HNV.out (by omega) _ (hexV_stop T (j + 1) 4 hjd (by rw [hst, hd]))]; rfl
                        subst hv
                        have HD := Lib.hid hd
                        clear hst hd HQ
                        go_wp2_with (go_at_call 104; refine (refDigit_any _ (by omega) (by omega) _ _ HD.out).mono ?_; rintro e w' ⟨rfl, rfl⟩)
                        go_ret3
                        exact ⟨⟨#[]⟩, rfl, rfl, HB.out⟩
                      | some y =>
                        have hy := hexD_bd hd
                        have hy1 := hy.1
                        have hy2 := hy.2
                        rw [hd] at hst
                        have HST : Hid (hexV 0 (T.take (j + 1)) = some (q * 16 + y)) := hst
                        have HD := Lib.hid hd
                        have dy : decide (y < 0) = false := decide_eq_false (by omega)
                        clear hst hd hy HQ
                        go_wp2_with (go_at_call 104; refine (refDigit_any _ (by omega) (by omega) _ _ HD.out).mono ?_; rintro e w' ⟨rfl, rfl⟩)
                        go_round
                        case rel => exact ⟨j + 1, q * 16 + y, by omega, by go_num, by go_num, rfl, rfl, rfl, HST.out, by omega⟩
                        case measure => simp [intOf]; omega
                    · have dn : (n : Int) ≤ (k : Int) + 2 + (j : Int) := by omega
                      have hv : o = none := HNS.out (by omega)
                      subst hv
                      go_wp2_with fail
                      go_ret3
                      exact ⟨⟨#[]⟩, rfl, rfl, HB.out⟩
                  · obtain rfl : j = 4 := by omega
                    have hkn := HQ.out.2
                    have hev := HNV.out hkn _ HQ.out.1
                    have hq0 : 0 ≤ q ∧ q < 4294967296 := (hexV_lt _ q HQ.out.1).2 (by rw [List.length_take]; omega)
                    have hq1 := hq0.1
                    have hq2 := hq0.2
                    clear hq0 HNS HNV HQ HC2
                    cases hok : okR q
                    · have hv : o = none := HBAD.out (by rw [← hev]; exact numO_bad _ hok)
                      subst hv
                      have hw : 1114111 < q ∨ (55296 ≤ q ∧ q ≤ 57343) := by
                        unfold okR surr at hok
                        simp at hok
                        omega
                      clear hev hok HBAD HGOOD
                      rcases hw with hw | ⟨hw1, hw2⟩
                      · go_wp2_with fail
                        go_ret3
                        exact ⟨⟨#[]⟩, rfl, rfl, HB.out⟩
                      · have hw3 : decide (1114111 < q) = false := decide_eq_false (by omega)
                        go_wp2_with fail
                        go_ret3
                        exact ⟨⟨#[]⟩, rfl, rfl, HB.out⟩
                    · have hT2 := HGOOD.out q (1 + 4) (by rw [← hev]; exact numO_good _ hok)
                      have HT2 := Lib.hid hT2
                      have HOK := Lib.hid hok
                      have hp := okR_parts hok
                      have hw1 : decide (1114111 < q) = false := decide_eq_false (by omega)
                      have hw5 : q ≤ 1114111 := hp.2.1
                      have hw2 : q < 55296 ∨ 57343 < q := by have := hp.2.2; unfold surr at this; simp at this; omega
                      have hul := utfF_len q
                      have hul2 := hul.2
                      have HUB : Hid (Byte (utfF q)) := utfF_byte hok
                      clear hT2 hev hok HBAD HGOOD hp hul
                      rcases hw2 with hw2 | hw2
                      · have hw3 : decide (55296 ≤ q) = false := decide_eq_false (by omega)
                        go_wp2_with fail
                        refine (refUtf8_any q W HOK.out).mono ?_
                        rintro e W2 ⟨Au, L, capu, rfl, hLu, _, _, _, hru, hb2⟩
                        obtain ⟨A3, cap3, W3, hrun3, g1, g2, _, g4, g5⟩ := rd_more w W2 A' cap p out (own_below HOWN.out hb2) (below_step HB.out hb2) Au L capu (utfF q) hLu hru (by omega)
                        have HRUN := Lib.hid hrun3
                        have HG := Lib.hid (And.intro g4 g5)
                        have HLL := Lib.hid hLu
                        have hL4 : L ≤ 4 := by omega
                        clear hrun3 g4 g5 hru hb2 hLu
                        go_wp2_with (at_builtin; refine wpList_append_known rfl (.tmp 125) (.tmp 128) 96 rfl (.slice A' p cap) (.slice Au L capu) _ _ rfl rfl HRUN.out ?_; clear HRUN)
                        exact ⟨⟨k + (1 + (1 + 4)), p + L, cap3, A3, by omega, by omega, by omega, rfl, rfl, rfl, rfl, congrArg (Value.int .i64) (by omega), g1, g2, out ++ utfF q, by rw [List.length_append, HOL.out, HLL.out], HOY.out.append HUB.out, HT2.out, HG.out.1, HG.out.2⟩, by simp only [intOf]; omega⟩
                      · have hw3 : decide (q ≤ 57343) = false := decide_eq_false (by omega)
                        have hw4 : 55296 ≤ q := by omega
                        go_wp2_with fail
                        refine (refUtf8_any q W HOK.out).mono ?_
                        rintro e W2 ⟨Au, L, capu, rfl, hLu, _, _, _, hru, hb2⟩
                        obtain ⟨A3, cap3, W3, hrun3, g1, g2, _, g4, g5⟩ := rd_more w W2 A' cap p out (own_below HOWN.out hb2) (below_step HB.out hb2) Au L capu (utfF q) hLu hru (by omega)
                        have HRUN := Lib.hid hrun3
                        have HG := Lib.hid (And.intro g4 g5)
                        have HLL := Lib.hid hLu
                        have hL4 : L ≤ 4 := by omega
                        clear hrun3 g4 g5 hru hb2 hLu
                        go_wp2_with (at_builtin; refine wpList_append_known rfl (.tmp 125) (.tmp 128) 96 rfl (.slice A' p cap) (.slice Au L capu) _ _ rfl rfl HRUN.out ?_; clear HRUN)
                        exact ⟨⟨k + (1 + (1 + 4)), p + L, cap3, A3, by omega, by omega, by omega, rfl, rfl, rfl, rfl, congrArg (Value.int .i64) (by omega), g1, g2, out ++ utfF q, by rw [List.length_append, HOL.out, HLL.out], HOY.out.append HUB.out, HT2.out, HG.out.1, HG.out.2⟩, by simp only [intOf]; omega⟩
              by_cases n5 : x = 85
              · subst n5
                have hes : escF (zs.drop (k + 1)) = numF 8 (zs.drop (k + 1)) := by rw [hdr]; rfl
                have HC2 : Hid (∀ j, k + 2 + j < n → ∃ z, (zs.drop (k + 2))[j]? = some z ∧ 0 ≤ z ∧ z < 256 ∧ W.cell? ⟨b, off + (k + 2 + j), none⟩ = some (.int .u8 z)) := by
                  intro j hj
                  have hjz : k + 2 + j < zs.length := by rw [HL.out]; exact hj
                  exact ⟨_, by rw [List.getElem?_drop]; exact getD_at hjz, (HY.out.at_ hjz).1, (HY.out.at_ hjz).2, hc _ hjz⟩
                have HNS : Hid (n ≤ k + 1 + 8 → o = none) := by
                  intro hsh
                  rw [← HOT.out, dqAt_bad zs out k hkz h92 (by rw [hes, numF, if_pos (by rw [List.length_drop, HL.out]; omega)])]
                have HNV : Hid (k + 1 + 8 < n → ∀ q, hexV 0 ((zs.drop (k + 2)).take 8) = q → numO 8 q = escF (zs.drop (k + 1))) := by
                  intro hsh q hq
                  rw [hes, numF, if_neg (by rw [List.length_drop, HL.out]; omega), List.drop_drop, hq]
                have HBAD : Hid (escF (zs.drop (k + 1)) = none → o = none) := fun he => by rw [← HOT.out, dqAt_bad zs out k hkz h92 he]
                have HGOOD : Hid (∀ r m, escF (zs.drop (k + 1)) = some (r, m) → dqAt zs (out ++ utfF r) (k + (1 + m)) = o) := fun r m he => by rw [← dqAt_esc zs out k hkz h92 r m he, HOT.out]
                clear hrw hc hdr hes hkz hkz2 h92
                generalize zs.drop (k + 2) = T at *
                generalize escF (zs.drop (k + 1)) = eo at *
                go_wp2_with fail
                go_loop [2, 3, 4, 10, 11] (fun r1 r2 r3 r i => ∃ (j : Nat) (q : Int), j ≤ 8 ∧ i = .int .i64 (j : Int) ∧ r = .int .i64 q ∧ r1 = .string ⟨#[]⟩ ∧ r2 = .int .i64 0 ∧ r3 = .bool false ∧ Hid (hexV 0 (T.take j) = some q ∧ k + 1 + j < n)) (fun _ _ _ _ i => 8 - (intOf i).toNat)
                case atStart => exact ⟨0, 0, by omega, rfl, rfl, rfl, rfl, rfl, rfl, by omega⟩
                case round =>
                  obtain ⟨j, q, hj, rfl, rfl, rfl, rfl, rfl, HQ⟩ := hrel
                  by_cases hjd : j < 8
                  · have dj : (j : Int) < 8 := by omega
                    by_cases hjn : k + 2 + j < n
                    · have dn : decide ((n : Int) ≤ (k : Int) + 2 + (j : Int)) = false := decide_eq_false (by omega)
                      have dn' : (k : Int) + 2 + (j : Int) < (n : Int) := by omega
                      obtain ⟨z, hz, hz0, hz1, cz⟩ := HC2.out j hjn
                      have hst := hexV_step T j z q hz HQ.out.1
                      have hq0 : 0 ≤ q ∧ q < 268435456 := (hexV_lt _ q HQ.out.1).1 (by rw [List.length_take]; omega)
                      have hq1 := hq0.1
                      have hq2 := hq0.2
                      clear hq0 hz
                      cases hd : hexD z with
                      | none =>
                        have hv : o = none := by
                          by_cases hsh : n ≤ k + 1 + 8
                          · exact HNS.out hsh
                          · refine HBAD.out ?_
                            rw [← HNV.out (by omega) _ (hexV_stop T (j + 1) 8 hjd (by rw [hst, hd]))]; rfl
                        subst hv
                        have HD := Lib.hid hd
                        clear hst hd HQ
                        go_wp2_with (go_at_call 104; refine (refDigit_any _ (by omega) (by omega) _ _ HD.out).mono ?_; rintro e w' ⟨rfl, rfl⟩)
                        go_ret3
                        exact ⟨⟨#[]⟩, rfl, rfl, HB.out⟩
                      | some y =>
                        have hy := hexD_bd hd
                        have hy1 := hy.1
                        have hy2 := hy.2
                        rw [hd] at hst
                        have HST : Hid (hexV 0 (T.take (j + 1)) = some (q * 16 + y)) := hst
                        have HD := Lib.hid hd
                        have dy : decide (y < 0) = false := decide_eq_false (by omega)
                        clear hst hd hy HQ
                        go_wp2_with (go_at_call 104; refine (refDigit_any _ (by omega) (by omega) _ _ HD.out).mono ?_; rintro e w' ⟨rfl, rfl⟩)
                        go_round
                        case rel => exact ⟨j + 1, q * 16 + y, by omega, by go_num, by go_num, rfl, rfl, rfl, HST.out, by omega⟩
                        case measure => simp [intOf]; omega
                    · have dn : (n : Int) ≤ (k : Int) + 2 + (j : Int) := by omega
                      have hv : o = none := HNS.out (by omega)
                      subst hv
                      go_wp2_with fail
                      go_ret3
                      exact ⟨⟨#[]⟩, rfl, rfl, HB.out⟩
                  · obtain rfl : j = 8 := by omega
                    have hkn := HQ.out.2
                    have hev := HNV.out hkn _ HQ.out.1
                    have hq0 : 0 ≤ q ∧ q < 4294967296 := (hexV_lt _ q HQ.out.1).2 (by rw [List.length_take]; omega)
                    have hq1 := hq0.1
                    have hq2 := hq0.2
                    clear hq0 HNS HNV HQ HC2
                    cases hok : okR q
                    · have hv : o = none := HBAD.out (by rw [← hev]; exact numO_bad _ hok)
                      subst hv
                      have hw : 1114111 < q ∨ (55296 ≤ q ∧ q ≤ 57343) := by
                        unfold okR surr at hok
                        simp at hok
                        omega
                      clear hev hok HBAD HGOOD
                      rcases hw with hw | ⟨hw1, hw2⟩
                      · go_wp2_with fail
                        go_ret3
                        exact ⟨⟨#[]⟩, rfl, rfl, HB.out⟩
                      · have hw3 : decide (1114111 < q) = false := decide_eq_false (by omega)
                        go_wp2_with fail
                        go_ret3
                        exact ⟨⟨#[]⟩, rfl, rfl, HB.out⟩
                    · have hT2 := HGOOD.out q (1 + 8) (by rw [← hev]; exact numO_good _ hok)
                      have HT2 := Lib.hid hT2
                      have HOK := Lib.hid hok
                      have hp := okR_parts hok
                      have hw1 : decide (1114111 < q) = false := decide_eq_false (by omega)
                      have hw5 : q ≤ 1114111 := hp.2.1
                      have hw2 : q < 55296 ∨ 57343 < q := by have := hp.2.2; unfold surr at this; simp at this; omega
                      have hul := utfF_len q
                      have hul2 := hul.2
                      have HUB : Hid (Byte (utfF q)) := utfF_byte hok
                      clear hT2 hev hok HBAD HGOOD hp hul
                      rcases hw2 with hw2 | hw2
                      · have hw3 : decide (55296 ≤ q) = false := decide_eq_false (by omega)
                        go_wp2_with fail
                        refine (refUtf8_any q W HOK.out).mono ?_
                        rintro e W2 ⟨Au, L, capu, rfl, hLu, _, _, _, hru, hb2⟩
                        obtain ⟨A3, cap3, W3, hrun3, g1, g2, _, g4, g5⟩ := rd_more w W2 A' cap p out (own_below HOWN.out hb2) (below_step HB.out hb2) Au L capu (utfF q) hLu hru (by omega)
                        have HRUN := Lib.hid hrun3
                        have HG := Lib.hid (And.intro g4 g5)
                        have HLL := Lib.hid hLu
                        have hL4 : L ≤ 4 := by omega
                        clear hrun3 g4 g5 hru hb2 hLu
                        go_wp2_with (at_builtin; refine wpList_append_known rfl (.tmp 125) (.tmp 128) 96 rfl (.slice A' p cap) (.slice Au L capu) _ _ rfl rfl HRUN.out ?_; clear HRUN)
                        exact ⟨⟨k + (1 + (1 + 8)), p + L, cap3, A3, by omega, by omega, by omega, rfl, rfl, rfl, rfl, congrArg (Value.int .i64) (by omega), g1, g2, out ++ utfF q, by rw [List.length_append, HOL.out, HLL.out], HOY.out.append HUB.out, HT2.out, HG.out.1, HG.out.2⟩, by simp only [intOf]; omega⟩
                      · have hw3 : decide (q ≤ 57343) = false := decide_eq_false (by omega)
                        have hw4 : 55296 ≤ q := by omega
                        go_wp2_with fail
                        refine (refUtf8_any q W HOK.out).mono ?_
                        rintro e W2 ⟨Au, L, capu, rfl, hLu, _, _, _, hru, hb2⟩
                        obtain ⟨A3, cap3, W3, hrun3, g1, g2, _, g4, g5⟩ := rd_more w W2 A' cap p out (own_below HOWN.out hb2) (below_step HB.out hb2) Au L capu (utfF q) hLu hru (by omega)
                        have HRUN := Lib.hid hrun3
                        have HG := Lib.hid (And.intro g4 g5)
                        have HLL := Lib.hid hLu
                        have hL4 : L ≤ 4 := by omega
                        clear hrun3 g4 g5 hru hb2 hLu
                        go_wp2_with (at_builtin; refine wpList_append_known rfl (.tmp 125) (.tmp 128) 96 rfl (.slice A' p cap) (.slice Au L capu) _ _ rfl rfl HRUN.out ?_; clear HRUN)
                        exact ⟨⟨k + (1 + (1 + 8)), p + L, cap3, A3, by omega, by omega, by omega, rfl, rfl, rfl, rfl, congrArg (Value.int .i64) (by omega), g1, g2, out ++ utfF q, by rw [List.length_append, HOL.out, HLL.out], HOY.out.append HUB.out, HT2.out, HG.out.1, HG.out.2⟩, by simp only [intOf]; omega⟩
              have n3' : (x == 120) = false := beq_eq_false_iff_ne.2 n3
              have n4' : (x == 117) = false := beq_eq_false_iff_ne.2 n4
              have n5' : (x == 85) = false := beq_eq_false_iff_ne.2 n5
              by_cases hneg : esc1 x < 0
              · have hv : o = none := by rw [← HOT.out, dqAt_bad zs out k hkz h92 (by rw [hdr]; exact esc1_none hneg hcb1 n3 n4 n5)]
                subst hv
                clear hrw hc hdr hkz hkz2 h92 n3 n4 n5
                obtain ⟨v, hv⟩ : ∃ v, esc1 x = v := ⟨_, rfl⟩
                have HE := Lib.hid (refEscape_any x W hcb1 hcb2 v hv)
                rw [hv] at hneg
                clear hv
                go_wp2_with fail
                refine HE.out.mono ?_
                rintro e W2 ⟨rfl, hb2⟩
                have HB2 := Lib.hid (below_step HB.out hb2)
                clear hb2 HE
                go_wp2_with fail
                go_ret3
                exact ⟨⟨#[]⟩, rfl, rfl, HB2.out⟩
              · obtain ⟨q, hv⟩ : ∃ q, esc1 x = q := ⟨_, rfl⟩
                have hsome : escF (zs.drop (k + 1)) = some (q, 1) := by rw [hdr, ← hv]; exact esc1_some (by omega) n3 n4 n5
                have hT2 := dqAt_esc zs out k hkz h92 q 1 hsome
                have HT2 : Hid (dqAt zs (out ++ utfF q) (k + (1 + 1)) = o) := by show _ = _; rw [← hT2, HOT.out]
                have hok := (escF_parts hsome).1
                have HOK := Lib.hid hok
                have HE := Lib.hid (refEscape_any x W hcb1 hcb2 q hv)
                rw [hv] at hneg
                have dneg : decide (q < 0) = false := decide_eq_false hneg
                have hul2 := (utfF_len q).2
                have HUB : Hid (Byte (utfF q)) := utfF_byte hok
                clear hv hrw hc hdr hkz hkz2 h92 n3 n4 n5 hsome hT2 hok
                go_wp2_with fail
                refine HE.out.mono ?_
                rintro e W2 ⟨rfl, hb2⟩
                have HB2 := Lib.hid (below_step HB.out hb2)
                have HOWN2 := Lib.hid (own_below HOWN.out hb2)
                clear hb2 HE
                go_wp2_with fail
                refine (refUtf8_any q W2 HOK.out).mono ?_
                rintro e W3 ⟨Au, L, capu, rfl, hLu, _, _, _, hru, hb3⟩
                obtain ⟨A3, cap3, W4, hrun3, g1, g2, _, g4, g5⟩ := rd_more w W3 A' cap p out (own_below HOWN2.out hb3) (below_step HB2.out hb3) Au L capu (utfF q) hLu hru (by omega)
                have HRUN := Lib.hid hrun3
                have HG := Lib.hid (And.intro g4 g5)
                have HLL := Lib.hid hLu
                have hL4 : L ≤ 4 := by omega
                clear hrun3 g4 g5 hru hb3 hLu
                go_wp2_with (at_builtin; refine wpList_append_known rfl _ (.tmp 77) 96 rfl (.slice A' p cap) (.slice Au L capu) _ _ rfl rfl HRUN.out ?_)
                go_roundw
                case rel => exact ⟨k + (1 + 1), p + L, cap3, A3, by omega, by omega, by omega, rfl, rfl, rfl, rfl, by go_num, g1, g2, out ++ utfF q, by rw [List.length_append, HOL.out, HLL.out], HOY.out.append HUB.out, HT2.out, HG.out.1, HG.out.2⟩
                case measure => simp [intOf]; omega
            · have d2 : (n : Int) ≤ (k : Int) + 1 := by omega
              have hv : o = none := by rw [← HOT.out, dqAt_bad zs out k hkz h92 (by rw [List.drop_eq_nil_of_le (by rw [HL.out]; omega)]; rfl)]
              subst hv
              clear hrw hc hkz h92
              go_wp2_with fail
              go_ret3
              exact ⟨⟨#[]⟩, rfl, rfl, HB.out⟩
          · have HT2 : Hid (dqAt zs (out ++ [zs.getD k 0]) (k + 1) = o) := by show _ = _; rw [← HOT.out, dqAt_ne zs out k hkz hq h10 h13 h92]
            have hzb := HY.out.at_ hkz
            have e92 : (zs.getD k 0 != 92) = true := bne_iff_ne.2 h92
            clear hrw hc hbr h10 h13 h92 hq hkz
            generalize zs.getD k 0 = z at *
            obtain ⟨A2, cap2, W2, hrun, g1, g2, _, g4, g5⟩ := one_more w W A' cap p out HOL.out HOWN.out HB.out z (by omega)
            have HRUN := Lib.hid hrun
            have HG := Lib.hid (And.intro g4 g5)
            clear hrun g4 g5
            go_wp2_with (at_builtin; refine wpList_append_known rfl _ (.tmp 45) 96 rfl (.slice A' p cap) (.slice (some ⟨W.heap.size, 0, none⟩) 1 1) _ _ rfl rfl HRUN.out ?_)
            go_roundw
            case rel => exact ⟨k + 1, p + 1, cap2, A2, by omega, by omega, by omega, rfl, rfl, rfl, rfl, by go_num, g1, g2, out ++ [z], by simp [HOL.out], HOY.out.append (by intro y hy; simp at hy; subst hy; exact hzb), HT2.out, HG.out.1, HG.out.2⟩
            case measure => simp [intOf]; omega
        · have hv : o = none := by rw [← HOT.out, dqAt_past zs out k (by rw [HL.out]; omega)]
          subst hv
          have d : decide ((k : Int) < (n : Int)) = false := decide_eq_false (by omega)
          go_wp2_with fail
          go_ret3
          exact ⟨⟨#[]⟩, rfl, rfl, HB.out⟩
    · have hv : o = none := by rw [← ho, takeD, if_neg h0]
      subst hv
      have e34 : (zs.getD 0 0 == 34) = false := beq_eq_false_iff_ne.2 h0
      have B0 : Hid (Below w.heap.size w w) := Below.refl _ _
      clear hl hr hb ho h0 HO hc HL HR HY
      generalize zs.getD 0 0 = z at *
      go_enter Try.func88, Try.ntmps88
      go_wp2_with fail
      go_ret3
      exact ⟨⟨#[]⟩, rfl, rfl, B0.out⟩
  · obtain rfl : n = 0 := by omega
    have hz : zs = [] := List.eq_nil_of_length_eq_zero hl
    subst hz
    have hv : o = none := by rw [← ho]; rfl
    subst hv
    have B0 : Hid (Below w.heap.size w w) := Below.refl _ _
    clear hl hr hb ho HO HL HR HY
    go_enter Try.func88, Try.ntmps88
    go_wp2_with fail
    go_ret3
    exact ⟨⟨#[]⟩, rfl, rfl, B0.out⟩
def PutP (o : Option (List Int)) (w : World) (e : Ending) (w' : World) : Prop :=
  ∃ p : ByteArray, byt p = o.getD [] ∧ e = .returned (.tuple #[.string p, .bool o.isSome]) ∧ Below w.heap.size w w'
theorem pqAt_end (zs acc : List Int) (k : Nat) (h : zs.length ≤ k) : pqAt zs acc k = some (acc ++ [34]) := by
  unfold pqAt; rw [List.drop_eq_nil_of_le h]; rfl
theorem pqAt_bad (zs acc : List Int) (k : Nat) (h : k < zs.length) (r j : Int) (hf : runeF (zs.drop k) = (r, j, false)) : pqAt zs acc k = none := by
  unfold pqAt
  rw [pq_bad (zs.drop k) (by intro h0; have := congrArg List.length h0; rw [List.length_drop] at this; simp at this; omega) r j hf]; rfl
theorem pqAt_good (zs acc : List Int) (k : Nat) (h : k < zs.length) (r : Int) (j : Nat) (hf : runeF (zs.drop k) = (r, (j : Int), true)) : pqAt zs acc k = pqAt zs (acc ++ wrF r) (k + j) := by
  unfold pqAt
  rw [pq_good (zs.drop k) (by intro h0; have := congrArg List.length h0; rw [List.length_drop] at this; simp at this; omega) r j hf, List.drop_drop, Int.toNat_natCast]
  cases pq (zs.drop (k + j)) with
  | none => rfl
  | some y => simp
theorem pqAt_start (zs : List Int) : pqAt zs [34] 0 = putD zs := by
  unfold pqAt putD; rw [List.drop_zero]; rfl
theorem rune_next (zs : List Int) (hb : Byte zs) (k : Nat) (h : k < zs.length) : ∃ (r : Int) (j : Nat) (ok : Bool), runeF (zs.drop k) = (r, (j : Int), ok) ∧ 1 ≤ j ∧ k + j ≤ zs.length ∧ j ≤ 4 ∧ (ok = true → okR r = true ∧ utfF r = (zs.drop k).take j) := by
  have hn := runeF_n (zs.drop k) (by intro h0; have := congrArg List.length h0; rw [List.length_drop] at this; simp at this; omega)
  rcases hf : runeF (zs.drop k) with ⟨r, j, ok⟩
  rw [hf] at hn
  simp only [List.length_drop] at hn
  refine ⟨r, j.toNat, ok, ?_, by omega, by omega, by omega, fun hok => ?_⟩
  · rw [show ((j.toNat : Nat) : Int) = j by omega]
  · subst hok
    have := utf_runeF _ (hb.drop k) r j hf
    exact ⟨this.1, this.2.2.2⟩
theorem dq_plain : ∀ (l rest : List Int), (∀ z ∈ l, z ≠ 34 ∧ z ≠ 10 ∧ z ≠ 13 ∧ z ≠ 92) → dq (l ++ rest) = (dq rest).map (fun x => (l ++ x.1, x.2 + l.length)) := by
  intro l rest
  induction l with
  | nil => intro _; simp only [List.nil_append, List.length_nil, Nat.add_zero]; cases dq rest <;> rfl
  | cons c t ih =>
    intro h
    have hc := h c (by simp)
    rw [List.cons_append, dq_ne c _ hc.1 hc.2.1 hc.2.2.1 hc.2.2.2, ih (fun z hz => h z (by simp [hz]))]
    cases dq rest with
    | none => rfl
    | some x => simp; omega
theorem utfF_hi {r : Int} (h : 128 ≤ r) (hm : r ≤ 1114111) : ∀ z ∈ utfF r, 128 ≤ z := by
  intro z hz
  unfold utfF at hz
  rw [if_neg (by omega)] at hz
  repeat' split at hz
  all_goals (simp at hz; omega)
theorem numF_hex (n : Int) (d : Nat) (c : Int) (l rest : List Int) (hl : l.length = d) (hv : hexV 0 l = some n) : numF d (c :: (l ++ rest)) = if okR n = true then some (n, 1 + d) else none := by
  unfold numF
  rw [if_neg (by simp; omega)]
  simp only [List.drop_succ_cons, List.drop_zero]
  rw [← hl, List.take_left, hv]
  rfl
theorem escF_x (l : List Int) : escF (120 :: l) = numF 2 (120 :: l) := rfl
theorem escF_u (l : List Int) : escF (117 :: l) = numF 4 (117 :: l) := rfl
theorem escF_U (l : List Int) : escF (85 :: l) = numF 8 (85 :: l) := rfl
/-- An escape by number. -/
theorem dq_num (n : Int) (d : Nat) (c : Int) (l rest : List Int) (hl : l.length = d) (hv : hexV 0 l = some n) (hc : ∀ t, escF (c :: t) = numF d (c :: t)) :
    dq (92 :: c :: (l ++ rest)) = if okR n = true then (dq rest).map (fun x => (utfF n ++ x.1, x.2 + (2 + d))) else none := by
  have he := numF_hex n d c l rest hl hv
  split
  · rename_i hok
    rw [if_pos hok] at he
    rw [dq_esc _ n (1 + d) (by rw [hc, he]), show 1 + d = d + 1 by omega, List.drop_succ_cons, ← hl, List.drop_left]
    cases dq rest with
    | none => rfl
    | some x => simp; omega
  · rename_i hok
    rw [if_neg hok] at he
    exact dq_bad _ (by rw [hc, he])
theorem esc_let {c r : Int} (h : (c, r) ∈ shL) (rest : List Int) : escF (c :: rest) = some (r, 1) := by
  have hs := shL_ok _ h
  simp only [escF]
  rw [if_neg (by omega), if_neg (by omega), if_neg (by omega), if_neg (by omega), hs.2.2.1]
  rfl
/-- One rune put, taken. -/
theorem dq_wr (r : Int) (hok : okR r = true) (rest : List Int) : dq (wrF r ++ rest) = (dq rest).map (fun x => (utfF r ++ x.1, x.2 + (wrF r).length)) := by
  obtain ⟨h0, hmax, _⟩ := okR_parts hok
  unfold wrF
  split
  · rename_i c hc
    have hm := letR_mem hc
    rw [List.cons_append, List.cons_append, List.nil_append, dq_esc _ r 1 (esc_let hm rest)]
    rfl
  rename_i hl
  split
  · refine dq_plain _ _ (fun z hz => ?_)
    by_cases h1 : r < 128
    · unfold utfF at hz
      rw [if_pos h1] at hz
      simp only [List.mem_singleton] at hz
      subst hz
      refine ⟨?_, ?_, ?_, ?_⟩ <;> (rintro rfl; revert hl; decide)
    · have := utfF_hi (by omega) hmax z hz
      omega
  split
  · have hv := hexV_F 2 r h0
    rw [Int.emod_eq_of_lt h0 (by omega)] at hv
    have := dq_num r 2 120 (hexF r 2) rest (hexF_len 2 r) hv escF_x
    rw [if_pos hok] at this
    rw [List.cons_append, List.cons_append, this]
    simp [hexF_len]
  split
  · have hv := hexV_F 4 r h0
    rw [Int.emod_eq_of_lt h0 (by omega)] at hv
    have := dq_num r 4 117 (hexF r 4) rest (hexF_len 4 r) hv escF_u
    rw [if_pos hok] at this
    rw [List.cons_append, List.cons_append, this]
    simp [hexF_len]
  · have hv := hexV_F 8 r h0
    rw [Int.emod_eq_of_lt h0 (by omega)] at hv
    have := dq_num r 8 85 (hexF r 8) rest (hexF_len 8 r) hv escF_U
    rw [if_pos hok] at this
    rw [List.cons_append, List.cons_append, this]
    simp [hexF_len]
/-- What was put is taken. -/
theorem dq_pq : ∀ (n : Nat) (zs y : List Int), zs.length ≤ n → Byte zs → pq zs = some y → ∀ rest, dq (y ++ rest) = (dq rest).map (fun x => (zs ++ x.1, x.2 + y.length)) := by
  intro n
  induction n with
  | zero =>
    intro zs y hl hb hp rest
    have : zs = [] := List.eq_nil_of_length_eq_zero (by omega)
    subst this
    rw [pq_nil] at hp
    injection hp with hp
    subst hp
    simp only [List.nil_append, List.length_nil, Nat.add_zero]; cases dq rest <;> rfl
  | succ n ih =>
    intro zs y hl hb hp rest
    by_cases hz : zs = []
    · subst hz
      rw [pq_nil] at hp
      injection hp with hp
      subst hp
      simp only [List.nil_append, List.length_nil, Nat.add_zero]; cases dq rest <;> rfl
    rcases hf : runeF zs with ⟨r, j, ok⟩
    cases ok
    · rw [pq_bad zs hz r j hf] at hp; cases hp
    · rw [pq_good zs hz r j hf] at hp
      obtain ⟨hok, hj1, hj2, hu⟩ := utf_runeF zs hb r j hf
      cases hq : pq (zs.drop j.toNat) with
      | none => rw [hq] at hp; cases hp
      | some y2 =>
        rw [hq] at hp
        simp only [Option.map_some, Option.some.injEq] at hp
        subst hp
        rw [List.append_assoc, dq_wr r hok, ih _ y2 (by rw [List.length_drop]; omega) (hb.drop _) hq rest, hu]
        cases dq rest with
        | none => rfl
        | some x =>
          simp only [Option.map_some, List.length_append, Option.some.injEq, Prod.mk.injEq]
          refine ⟨?_, by omega⟩
          rw [← List.append_assoc, List.take_append_drop]
theorem put_some {zs p : List Int} (h : putD zs = some p) : ∃ y, pq zs = some y ∧ p = 34 :: (y ++ [34]) := by
  unfold putD at h
  cases hq : pq zs with
  | none => rw [hq] at h; cases h
  | some y => rw [hq] at h; simp only [Option.map_some, Option.some.injEq] at h; exact ⟨y, rfl, h.symm⟩
theorem take_put {zs p : List Int} (hb : Byte zs) (h : putD zs = some p) (tail : List Int) : takeD (p ++ tail) = some (zs, p.length) := by
  obtain ⟨y, hy, rfl⟩ := put_some h
  rw [List.cons_append, takeD_cons, List.append_assoc, dq_pq _ zs y (Nat.le_refl _) hb hy, List.cons_append, dq_quote]
  simp; omega
theorem take_open {zs y : List Int} (hb : Byte zs) (h : pq zs = some y) : takeD (34 :: y) = none := by
  have := dq_pq _ zs y (Nat.le_refl _) hb h []
  rw [List.append_nil] at this
  rw [takeD_cons, this]; rfl
def Fine (l : List Int) : Prop := ∃ rs : List Int, l = rs.flatMap utfF ∧ ∀ r ∈ rs, okR r = true ∧ prt r = true ∧ r ≠ 9 ∧ r ≠ 10 ∧ r ≠ 13
theorem Fine.append {a b : List Int} (h : Fine a) (k : Fine b) : Fine (a ++ b) := by
  obtain ⟨ra, rfl, ha⟩ := h
  obtain ⟨rb, rfl, hb⟩ := k
  refine ⟨ra ++ rb, by simp, fun r hr => ?_⟩
  rcases List.mem_append.1 hr with h1 | h1
  · exact ha r h1
  · exact hb r h1
theorem pq_len : ∀ (n : Nat) (zs y : List Int), zs.length ≤ n → Byte zs → pq zs = some y → y.length ≤ 10 * zs.length := by
  intro n
  induction n with
  | zero =>
    intro zs y hl hb hp
    have : zs = [] := List.eq_nil_of_length_eq_zero (by omega)
    subst this
    rw [pq_nil] at hp
    injection hp with hp
    subst hp
    simp
  | succ n ih =>
    intro zs y hl hb hp
    by_cases hz : zs = []
    · subst hz
      rw [pq_nil] at hp
      injection hp with hp
      subst hp
      simp
    rcases hf : runeF zs with ⟨r, j, ok⟩
    cases ok
    · rw [pq_bad zs hz r j hf] at hp; cases hp
    · rw [pq_good zs hz r j hf] at hp
      obtain ⟨hok, hj1, hj2, hu⟩ := utf_runeF zs hb r j hf
      cases hq : pq (zs.drop j.toNat) with
      | none => rw [hq] at hp; cases hp
      | some y2 =>
        rw [hq] at hp
        simp only [Option.map_some, Option.some.injEq] at hp
        subst hp
        have h1 := ih _ y2 (by rw [List.length_drop]; omega) (hb.drop _) hq
        have h2 := (wrF_len r).2
        rw [List.length_drop] at h1
        rw [List.length_append]
        omega
theorem put_size {zs p : List Int} (hb : Byte zs) (h : putD zs = some p) : 2 ≤ p.length ∧ p.length ≤ 10 * zs.length + 2 := by
  obtain ⟨y, hy, rfl⟩ := put_some h
  have := pq_len _ zs y (Nat.le_refl _) hb hy
  simp; omega
def fl (r : Int) (k : Nat) : Int := (shL.take k).foldl (fun c x => if x.2 = r then x.1 else c) 0
theorem fl_step (r : Int) (k : Nat) (x : Int × Int) (hx : shL[k]? = some x) : fl r (k + 1) = if x.2 = r then x.1 else fl r k := by
  unfold fl
  rw [List.take_add_one, hx, Option.toList_some, List.foldl_append]
  rfl
theorem fl_none (r : Int) : ∀ (l : List (Int × Int)) (c : Int), (∀ x ∈ l, x.2 ≠ r) → l.foldl (fun c x => if x.2 = r then x.1 else c) c = c := by
  intro l
  induction l with
  | nil => intro c _; rfl
  | cons x l ih =>
    intro c h
    rw [List.foldl_cons, if_neg (h x (by simp))]
    exact ih c (fun y hy => h y (by simp [hy]))
theorem fl_hits : ∀ x ∈ shL, fl x.2 15 = x.1 := by decide +kernel
theorem fl_end (r : Int) : fl r 15 = (letR r).getD 0 := by
  cases h : letR r with
  | some c => exact fl_hits _ (letR_mem h)
  | none =>
    unfold fl
    refine fl_none r _ 0 (fun x hx he => ?_)
    have hm : x ∈ shL := List.mem_of_mem_take hx
    have := (shL_ok x hm).2.1
    rw [he, h] at this
    cases this
def litC : Array Value := #[.int .u8 48, .int .u8 97, .int .u8 98, .int .u8 116, .int .u8 110, .int .u8 118, .int .u8 102, .int .u8 114, .int .u8 101, .int .u8 34, .int .u8 92, .int .u8 78, .int .u8 95, .int .u8 76, .int .u8 80]
theorem lit_at (k : Nat) (hk : k < 15) : ∃ x q, shL[k]? = some (x, q) ∧ litC[k]? = some (.int .u8 x) := by
  match k, hk with
  | 0, _ => exact ⟨_, _, rfl, rfl⟩
  | 1, _ => exact ⟨_, _, rfl, rfl⟩
  | 2, _ => exact ⟨_, _, rfl, rfl⟩
  | 3, _ => exact ⟨_, _, rfl, rfl⟩
  | 4, _ => exact ⟨_, _, rfl, rfl⟩
  | 5, _ => exact ⟨_, _, rfl, rfl⟩
  | 6, _ => exact ⟨_, _, rfl, rfl⟩
  | 7, _ => exact ⟨_, _, rfl, rfl⟩
  | 8, _ => exact ⟨_, _, rfl, rfl⟩
  | 9, _ => exact ⟨_, _, rfl, rfl⟩
  | 10, _ => exact ⟨_, _, rfl, rfl⟩
  | 11, _ => exact ⟨_, _, rfl, rfl⟩
  | 12, _ => exact ⟨_, _, rfl, rfl⟩
  | 13, _ => exact ⟨_, _, rfl, rfl⟩
  | 14, _ => exact ⟨_, _, rfl, rfl⟩
  | k + 15, h => omega
theorem esc1_let (x : Int × Int) (h : x ∈ shL) : esc1 x.1 = x.2 := by
  have hs := shL_ok x h
  unfold esc1
  rw [if_neg (by omega), hs.2.2.1]; rfl
set_option maxHeartbeats 4000000 in
set_option maxRecDepth 100000 in
theorem refPut_any (s : ByteArray) (w : World) (hs : s.size ≤ 1000000) (o : Option (List Int)) (ho : putD (byt s) = o) :
    Calls Try.prog 94 #[.string s] w (PutP o w) := by
  have HO : Hid (pqAt (byt s) [34] 0 = o) := by show _ = _; rw [pqAt_start, ho]
  obtain ⟨c, V, B⟩ := bytes_of s (by omega) w
  have hrun := B.run
  have hle := B.le
  have hmax := B.max
  have HV : Hid (Below w.heap.size w V) := B.below
  have HRV : Hid (RdB V (some ⟨w.heap.size, 0, none⟩) (byt s)) := B.rd
  have HY : Hid (Byte (byt s)) := byt_byte s
  have HL : Hid ((byt s).length = s.size) := byt_len s
  have HLIT := Lib.hid lit_at
  clear B ho
  generalize byt s = zs at *
  generalize s.size = n at *
  go_enter Try.func94, Try.ntmps94
  go_wp2_with fail
  clear hrun
  go_loopw [2, 3, 4, 5] (fun r1 r2 b v W => ∃ (k m cc : Nat) (A' : Option Addr) (t : ByteArray), k + m = n ∧ k + cc = c ∧ t.size ≤ 1 + 10 * k ∧ r1 = .string ⟨#[]⟩ ∧ r2 = .bool false ∧ v = .string t ∧ b = .slice A' m cc ∧
    Hid (pqAt zs (byt t) k = o ∧ RdB V A' (zs.drop k) ∧ (A' = none → cc = 0) ∧ Below V.heap.size V W)) (fun _ _ b _ _ => lenV b)
  case atStart => exact ⟨0, n, c, _, ⟨#[34]⟩, by omega, by omega, by decide, rfl, rfl, rfl, rfl, HO.out, (by simpa using HRV.out), (fun h => by cases h), Below.refl _ _⟩
  case round =>
    obtain ⟨k, m, cc, A', t, hkm, hkc, htk, rfl, rfl, rfl, rfl, HK⟩ := hrel
    obtain ⟨W, hW⟩ : ∃ x, x = wr := ⟨_, rfl⟩
    subst hW
    have hmc : m ≤ cc := by omega
    have hcc : cc ≤ 9223372036854775807 := by omega
    have HKM := Lib.hid (And.intro hkm hkc)
    have hkn : k ≤ n := by omega
    clear hkm hkc
    obtain ⟨hao, hrA, hA', hbel⟩ := HK.out
    have HB := Lib.hid hbel
    have HAO := Lib.hid hao
    have HRA := Lib.hid hrA
    have HA' := Lib.hid hA'
    clear hao hrA hA' hbel HK
    by_cases h0 : 0 < m
    · have hd : (0 : Int) < (m : Int) := by omega
      have hkz : k < zs.length := by have := HKM.out; rw [HL.out]; omega
      obtain ⟨r, j, ok, hrf, hj1, hj2, hj4, hgood⟩ := rune_next zs HY.out k hkz
      have hly : (zs.drop k).length = m := by have := HKM.out; rw [List.length_drop, HL.out]; omega
      have hjm : j ≤ m := by rw [HL.out] at hj2; have := HKM.out; omega
      have CR := Lib.hid (refRune_at A' m cc (zs.drop k) W r (j : Int) ok hly hmc hcc (HY.out.drop k) (HRA.out.below HB.out) hrf)
      cases ok
      · have hv : o = none := by rw [← HAO.out, pqAt_bad zs (byt t) k hkz r j hrf]
        subst hv
        clear hgood hrf hly hkz
        go_wp2_with (go_at_call 83; refine CR.out.mono ?_; rintro e w' ⟨rfl, rfl⟩)
        go_ret2
        exact ⟨⟨#[]⟩, rfl, rfl, below_step HV.out HB.out⟩
      · have hok := (hgood rfl).1
        have HUT := Lib.hid (hgood rfl).2
        have HO2 : Hid (pqAt zs (byt t ++ wrF r) (k + j) = o) := by show _ = _; rw [← HAO.out, pqAt_good zs (byt t) k hkz r j hrf]
        obtain ⟨A2, hsl, hA2, hrd⟩ := slice_lI A' m cc j (j : Int) rfl (zs.drop k) hly hmc HA'.out hjm
        have HR2 : Hid (RdB V A2 (zs.drop (k + j))) := by
          have := hrd V HRA.out
          rwa [List.drop_drop] at this
        have hslh := slice_h A' m cc j hjm hmc HA'.out
        have HA2 := Lib.hid hA2
        have HOK := Lib.hid hok
        have hok1 := (okR_parts hok).1
        have hok2 := (okR_parts hok).2.1
        clear hgood hrf hly hkz hok hA2 hrd
        obtain ⟨V1, hV1⟩ : ∃ V1, W.alloc (.cells litC 5 (litC.size, litC.size + 1)) = V1 := ⟨_, rfl⟩
        have HC1 : Hid (∀ i x, litC[i]? = some x → V1.cell? ⟨W.heap.size, i, none⟩ = some x) := by
          intro i x hx
          rw [← hV1, World.cell?_alloc_mark]; exact hx
        have HB1 : Hid (Below V.heap.size V V1) := hV1 ▸ below_step HB.out ((Below.refl _ _).alloc (Nat.le_refl _) _)
        have hV2 : (convert 96 96 (.slice (some ⟨W.heap.size, 0, none⟩) 15 15)).run Try.prog (W.alloc (.cells #[.int .u8 48, .int .u8 97, .int .u8 98, .int .u8 116, .int .u8 110, .int .u8 118, .int .u8 102, .int .u8 114, .int .u8 101, .int .u8 34, .int .u8 92, .int .u8 78, .int .u8 95, .int .u8 76, .int .u8 80] 5)) = .ok (.slice (some ⟨W.heap.size, 0, none⟩) 15 15) V1 := by
          rw [← hV1]
          exact Lib.run_convert_bytes_const (P := Try.prog) W 96 5 litC 15 15 Try.underlying96 Try.underlying5
        clear hV1
        go_wp2_with (go_at_call 83; refine CR.out.mono ?_; rintro e w' ⟨rfl, rfl⟩)
        clear hV2
        generalize W.heap.size = g at *
        go_loopw [9, 28] (fun cv iv U => ∃ (i : Nat) (x : Int), i ≤ 15 ∧ iv = .int .i64 (i : Int) ∧ cv = .int .u8 x ∧ Hid (fl r i = x ∧ Below V1.heap.size V1 U)) (fun _ iv _ => 15 - (intOf iv).toNat)
        case atStart => exact ⟨0, 0, by omega, rfl, rfl, rfl, Below.refl _ _⟩
        case round =>
          obtain ⟨i, cx, hi, rfl, rfl, HI⟩ := hrel
          obtain ⟨U, hU⟩ : ∃ x, x = wr := ⟨_, rfl⟩
          subst hU
          have HBU := Lib.hid HI.out.2
          have HFL := Lib.hid HI.out.1
          clear HI
          by_cases hi15 : i < 15
          · have di : (i : Int) < 15 := by omega
            obtain ⟨x, q, hx, hcx⟩ := HLIT.out i hi15
            have hst := fl_step r i (x, q) hx
            have hmem : (x, q) ∈ shL := List.mem_of_getElem? hx
            have hsx := shL_ok _ hmem
            have hx0 := hsx.2.2.2.1
            have hx1 := hsx.2.2.2.2.1
            have cell : U.cell? ⟨g, i, none⟩ = some (.int .u8 x) := cell_keep HBU.out (HC1.out i _ hcx)
            have CE := Lib.hid (refEscape_any x U (by omega) (by omega) q (esc1_let _ hmem))
            clear hx hcx hsx hmem
            by_cases hqr : q = r
            · have HN : Hid (fl r (i + 1) = x) := by show _ = _; rw [hst, if_pos hqr]
              have eq : (q == r) = true := beq_iff_eq.2 hqr
              clear hst hqr HFL
              go_wp2_with fail
              refine CE.out.mono ?_
              rintro e U2 ⟨rfl, hb2⟩
              have HB2 := Lib.hid (below_step HBU.out hb2)
              clear hb2 CE
              go_wp2_with fail
              go_roundw
              case rel => exact ⟨i + 1, x, by omega, by go_num, rfl, HN.out, HB2.out⟩
              case measure => simp [intOf]; omega
            · have HN : Hid (fl r (i + 1) = cx) := by show _ = _; rw [hst, if_neg hqr, HFL.out]
              have eq : (q == r) = false := beq_eq_false_iff_ne.2 hqr
              clear hst hqr HFL
              go_wp2_with fail
              refine CE.out.mono ?_
              rintro e U2 ⟨rfl, hb2⟩
              have HB2 := Lib.hid (below_step HBU.out hb2)
              clear hb2 CE
              go_wp2_with fail
              go_roundw
              case rel => exact ⟨i + 1, cx, by omega, by go_num, rfl, HN.out, HB2.out⟩
              case measure => simp [intOf]; omega
          · obtain rfl : i = 15 := by omega
            have hcx : cx = (letR r).getD 0 := by rw [← HFL.out, fl_end]
            have HBV := Lib.hid (below_step HB1.out HBU.out)
            clear HFL HBU HC1 HLIT CR
            cases hlet : letR r with
            | some z =>
              have hzs := shL_ok _ (letR_mem hlet)
              have hw : wrF r = [92, z] := by unfold wrF; rw [hlet]
              rw [hlet] at hcx
              obtain rfl : cx = z := hcx
              have hz0 := hzs.2.2.2.2.2.2.2.2.2.2.2.2.2.1
              have hz1 := hzs.2.2.2.2.1
              have ez : (cx != 0) = true := bne_iff_ne.2 (by simp only [] at hz0; omega)
              have hcv := run_string_rd (U.alloc (.cells #[.int .u8 cx] 5)) (some ⟨U.heap.size, 0, none⟩) 1 1 [cx] rfl
                (RdB.new rfl (fun k y hy => by
                  match k with
                  | 0 => simp at hy; subst hy; rfl
                  | k + 1 => simp at hy))
              have hy1 : byt (strOfNums [cx]) = [cx] := byt_strOfNums _ (by intro y hy; simp at hy; subst hy; simp only [] at hz0 hz1; omega)
              generalize strOfNums [cx] = y1 at *
              obtain ⟨y2, hy2⟩ : ∃ y, (⟨#[92]⟩ : ByteArray) ++ y1 = y := ⟨_, rfl⟩
              obtain ⟨y3, hy3⟩ : ∃ y, t ++ y2 = y := ⟨_, rfl⟩
              have hs1 : y1.size = 1 := by rw [← byt_len, hy1]; rfl
              have hs2 : y2.size = 2 := by rw [← hy2, ByteArray.size_append, hs1]; rfl
              have hs3 : y3.size ≤ 1 + 10 * (k + j) := by rw [← hy3, ByteArray.size_append]; omega
              have HX : Hid (pqAt zs (byt y3) (k + j) = o) := by
                show _ = _
                rw [← HO2.out, ← hy3, byt_append, ← hy2, byt_append, hy1, hw]; rfl
              have HBW : Hid (Below V.heap.size V (U.alloc (.cells #[.int .u8 cx] 5))) := below_step HBV.out ((Below.refl _ _).alloc (Nat.le_refl _) _)
              clear hw hzs hy1 hlet hz0 hz1 HO2 HUT HBV hslh HOK
              have hs1' : y1.size ≤ 1 := by omega
              clear hs1
              have hs2' : y2.size ≤ 2 := by omega
              clear hs2
              go_wp2_with fail
              exact ⟨⟨k + j, m - j, cc - j, A2, y3, by have := HKM.out; omega, by have := HKM.out; omega, hs3, rfl, rfl, rfl, rfl, HX.out, HR2.out, HA2.out, HBW.out⟩, by simp only [lenV]; omega⟩
            | none =>
              rw [hlet] at hcx
              obtain rfl : cx = 0 := hcx
              have HW : Hid (wrF r = if prt r = true then utfF r else if r ≤ 255 then 92 :: 120 :: hexF r 2 else if r ≤ 65535 then 92 :: 117 :: hexF r 4 else 92 :: 85 :: hexF r 8) := by
                show _ = _
                unfold wrF; rw [hlet]
              clear hlet
              cases hp : prt r
              · by_cases q1 : r ≤ 255
                · have HR : Hid (wrF r = 92 :: 120 :: hexF r 2) := by show _ = _; rw [HW.out, hp, if_neg (by simp), if_pos q1]
                  have HP := Lib.hid hp
                  clear HW hp
                  go_wp2_with (go_at_call 84; refine (refPrt_any _ _).mono ?_; rintro e w' ⟨rfl, rfl⟩; rw [HP.out])
                  refine (refHex_any r 2 U hok1 (by omega) (by omega)).mono ?_
                  rintro e U2 ⟨y1, hy1, rfl, hb2⟩
                  have HBW := Lib.hid (below_step HBV.out hb2)
                  have hy1 : byt y1 = hexF r 2 := hy1
                  obtain ⟨y2, hy2⟩ : ∃ y, (⟨#[92, 120]⟩ : ByteArray) ++ y1 = y := ⟨_, rfl⟩
                  obtain ⟨y3, hy3⟩ : ∃ y, t ++ y2 = y := ⟨_, rfl⟩
                  have hs1 : y1.size = 2 := by rw [← byt_len, hy1, hexF_len]
                  have hs2 : y2.size = 2 + 2 := by rw [← hy2, ByteArray.size_append, hs1]; rfl
                  have hs3 : y3.size ≤ 1 + 10 * (k + j) := by rw [← hy3, ByteArray.size_append]; omega
                  have HX : Hid (pqAt zs (byt y3) (k + j) = o) := by
                    show _ = _
                    rw [← HO2.out, ← hy3, byt_append, ← hy2, byt_append, hy1, HR.out]; rfl
                  have hs1' : y1.size ≤ 8 := by omega
                  have hs2' : y2.size ≤ 10 := by omega
                  clear hy1 hb2 HR HO2 HUT HOK hslh hs1 hs2
                  go_wp2_with fail
                  exact ⟨⟨k + j, m - j, cc - j, A2, y3, by have := HKM.out; omega, by have := HKM.out; omega, hs3, rfl, rfl, rfl, rfl, HX.out, HR2.out, HA2.out, HBW.out⟩, by simp only [lenV]; omega⟩
                have q1' : decide (r ≤ 255) = false := decide_eq_false (by omega)
                by_cases q2 : r ≤ 65535
                · have HR : Hid (wrF r = 92 :: 117 :: hexF r 4) := by show _ = _; rw [HW.out, hp, if_neg (by simp), if_neg q1, if_pos q2]
                  have HP := Lib.hid hp
                  clear HW hp
                  go_wp2_with (go_at_call 84; refine (refPrt_any _ _).mono ?_; rintro e w' ⟨rfl, rfl⟩; rw [HP.out])
                  refine (refHex_any r 4 U hok1 (by omega) (by omega)).mono ?_
                  rintro e U2 ⟨y1, hy1, rfl, hb2⟩
                  have HBW := Lib.hid (below_step HBV.out hb2)
                  have hy1 : byt y1 = hexF r 4 := hy1
                  obtain ⟨y2, hy2⟩ : ∃ y, (⟨#[92, 117]⟩ : ByteArray) ++ y1 = y := ⟨_, rfl⟩
                  obtain ⟨y3, hy3⟩ : ∃ y, t ++ y2 = y := ⟨_, rfl⟩
                  have hs1 : y1.size = 4 := by rw [← byt_len, hy1, hexF_len]
                  have hs2 : y2.size = 4 + 2 := by rw [← hy2, ByteArray.size_append, hs1]; rfl
                  have hs3 : y3.size ≤ 1 + 10 * (k + j) := by rw [← hy3, ByteArray.size_append]; omega
                  have HX : Hid (pqAt zs (byt y3) (k + j) = o) := by
                    show _ = _
                    rw [← HO2.out, ← hy3, byt_append, ← hy2, byt_append, hy1, HR.out]; rfl
                  have hs1' : y1.size ≤ 8 := by omega
                  have hs2' : y2.size ≤ 10 := by omega
                  clear hy1 hb2 HR HO2 HUT HOK hslh hs1 hs2
                  go_wp2_with fail
                  exact ⟨⟨k + j, m - j, cc - j, A2, y3, by have := HKM.out; omega, by have := HKM.out; omega, hs3, rfl, rfl, rfl, rfl, HX.out, HR2.out, HA2.out, HBW.out⟩, by simp only [lenV]; omega⟩
                · have HR : Hid (wrF r = 92 :: 85 :: hexF r 8) := by show _ = _; rw [HW.out, hp, if_neg (by simp), if_neg q1, if_neg q2]
                  have q2' : decide (r ≤ 65535) = false := decide_eq_false (by omega)
                  have HP := Lib.hid hp
                  clear HW hp
                  go_wp2_with (go_at_call 84; refine (refPrt_any _ _).mono ?_; rintro e w' ⟨rfl, rfl⟩; rw [HP.out])
                  refine (refHex_any r 8 U hok1 (by omega) (by omega)).mono ?_
                  rintro e U2 ⟨y1, hy1, rfl, hb2⟩
                  have HBW := Lib.hid (below_step HBV.out hb2)
                  have hy1 : byt y1 = hexF r 8 := hy1
                  obtain ⟨y2, hy2⟩ : ∃ y, (⟨#[92, 85]⟩ : ByteArray) ++ y1 = y := ⟨_, rfl⟩
                  obtain ⟨y3, hy3⟩ : ∃ y, t ++ y2 = y := ⟨_, rfl⟩
                  have hs1 : y1.size = 8 := by rw [← byt_len, hy1, hexF_len]
                  have hs2 : y2.size = 8 + 2 := by rw [← hy2, ByteArray.size_append, hs1]; rfl
                  have hs3 : y3.size ≤ 1 + 10 * (k + j) := by rw [← hy3, ByteArray.size_append]; omega
                  have HX : Hid (pqAt zs (byt y3) (k + j) = o) := by
                    show _ = _
                    rw [← HO2.out, ← hy3, byt_append, ← hy2, byt_append, hy1, HR.out]; rfl
                  have hs1' : y1.size ≤ 8 := by omega
                  have hs2' : y2.size ≤ 10 := by omega
                  clear hy1 hb2 HR HO2 HUT HOK hslh hs1 hs2
                  go_wp2_with fail
                  exact ⟨⟨k + j, m - j, cc - j, A2, y3, by have := HKM.out; omega, by have := HKM.out; omega, hs3, rfl, rfl, rfl, rfl, HX.out, HR2.out, HA2.out, HBW.out⟩, by simp only [lenV]; omega⟩
              · have hw : wrF r = (zs.drop k).take j := by rw [HW.out, hp, if_pos rfl, HUT.out]
                have HP := Lib.hid hp
                have hrt : RdB U A' ((zs.drop k).take j) := (HRA.out.below HBV.out).take j
                have htl : ((zs.drop k).take j).length = j := by
                  have := HKM.out
                  rw [List.length_take, List.length_drop, HL.out]; omega
                have hcv := run_string_rd U A' j cc _ htl hrt
                have hy1 : byt (strOfNums ((zs.drop k).take j)) = wrF r := by rw [hw]; exact byt_strOfNums _ ((HY.out.drop k).take j)
                generalize strOfNums ((zs.drop k).take j) = y1 at *
                obtain ⟨y3, hy3⟩ : ∃ y, t ++ y1 = y := ⟨_, rfl⟩
                have hs1 : y1.size ≤ 10 := by rw [← byt_len, hy1]; exact (wrF_len r).2
                have hs3 : y3.size ≤ 1 + 10 * (k + j) := by rw [← hy3, ByteArray.size_append]; omega
                have HX : Hid (pqAt zs (byt y3) (k + j) = o) := by show _ = _; rw [← HO2.out, ← hy3, byt_append, hy1]
                clear hw hp hrt htl hy1 HW HO2 HUT HOK
                go_wp2_with (go_at_call 84; refine (refPrt_any _ _).mono ?_; rintro e w' ⟨rfl, rfl⟩; rw [HP.out])
                exact ⟨⟨k + j, m - j, cc - j, A2, y3, by have := HKM.out; omega, by have := HKM.out; omega, hs3, rfl, rfl, rfl, rfl, HX.out, HR2.out, HA2.out, HBV.out⟩, by simp only [lenV]; omega⟩
    · have hd : decide ((0 : Int) < (m : Int)) = false := decide_eq_false (by omega)
      have hv : o = some (byt t ++ [34]) := by rw [← HAO.out, pqAt_end zs (byt t) k (by have := HKM.out; rw [HL.out]; omega)]
      have HVV := Lib.hid hv
      obtain ⟨y3, hy3⟩ : ∃ y, t ++ (⟨#[34]⟩ : ByteArray) = y := ⟨_, rfl⟩
      have HX : Hid (byt y3 = byt t ++ [34]) := by show _ = _; rw [← hy3, byt_append]; rfl
      have htb : t.size ≤ 10000001 := by omega
      have HBW := Lib.hid (below_step HV.out HB.out)
      clear hv
      go_wp2_with fail
      go_ret2
      exact ⟨y3, by rw [HX.out, HVV.out]; rfl, by rw [HVV.out]; rfl, HBW.out⟩
end Go.Proofs.Ytcddlconcngjlaa
