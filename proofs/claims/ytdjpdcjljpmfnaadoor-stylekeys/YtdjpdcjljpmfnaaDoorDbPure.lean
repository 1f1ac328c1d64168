/- Chapter 6 (scalars in double quotes) as Lean functions on lists of numbers, and what they come to. No program. -/
import Derived.Test.YtdjpdcjljpmfnaaDoorChars
namespace Go.Proofs.YtdjpdcjljpmfnaaDoor
open Go.RowKit
set_option linter.unusedVariables false

/-! ### Runes as bytes -/
def utfF (r : Int) : List Int :=
  if r < 128 then [r] else if r < 2048 then [192 + r / 64, 128 + r % 64] else
  if r < 65536 then [224 + r / 4096, 128 + r / 64 % 64, 128 + r % 64] else
  [240 + r / 262144, 128 + r / 4096 % 64, 128 + r / 64 % 64, 128 + r % 64]
def okR (r : Int) : Bool := decide (0 ≤ r) && decide (r ≤ 1114111) && !surr r
theorem okR_parts {r : Int} (h : okR r = true) : 0 ≤ r ∧ r ≤ 1114111 ∧ surr r = false := by
  unfold okR at h; simp at h; exact ⟨h.1.1, h.1.2, h.2⟩
theorem okR_mk {r : Int} (h0 : 0 ≤ r) (h1 : r ≤ 1114111) (h2 : surr r = false) : okR r = true := by
  unfold okR; simp [h0, h1, h2]
theorem utfF_byte {r : Int} (h : okR r = true) : Byte (utfF r) := by
  obtain ⟨h0, h1, _⟩ := okR_parts h
  intro z hz
  unfold utfF at hz
  repeat' split at hz
  all_goals (simp at hz; omega)
theorem utfF_len (r : Int) : 1 ≤ (utfF r).length ∧ (utfF r).length ≤ 4 := by
  unfold utfF
  repeat' split
  all_goals simp
theorem cont_mk (x : Int) (h0 : 0 ≤ x) (h1 : x < 64) : cont (128 + x) = true := by unfold cont; simp; omega
theorem ld_2 (c : Int) (h1 : 194 ≤ c) (h2 : c ≤ 223) : ldN c = 2 ∧ ldR c = c - 192 ∧ ldL c = 128 := by
  unfold ldN ldR ldL
  repeat' split
  all_goals omega
theorem ld_3 (c : Int) (h1 : 224 ≤ c) (h2 : c ≤ 239) : ldN c = 3 ∧ ldR c = c - 224 ∧ ldL c = 2048 := by
  unfold ldN ldR ldL
  repeat' split
  all_goals omega
theorem ld_4 (c : Int) (h1 : 240 ≤ c) (h2 : c ≤ 244) : ldN c = 4 ∧ ldR c = c - 240 ∧ ldL c = 65536 := by
  unfold ldN ldR ldL
  repeat' split
  all_goals omega
/-- A rune as it is written is read again, whatever stands behind it. -/
theorem runeF_utf (r : Int) (h : okR r = true) (tail : List Int) : runeF (utfF r ++ tail) = (r, ((utfF r).length : Int), true) := by
  obtain ⟨h0, h1, hs⟩ := okR_parts h
  unfold utfF
  split
  · rw [List.cons_append, List.nil_append, runeF_ascii r tail h0 (by assumption)]; rfl
  split
  · obtain ⟨l1, l2, l3⟩ := ld_2 (192 + r / 64) (by omega) (by omega)
    simp only [List.cons_append, List.nil_append]
    rw [runeF_good _ _ (by omega) (by rw [l1]; simp; omega) r ?_ ?_, l1]
    · rfl
    · rw [l1, l2]
      simp only [show ((2 : Int) - 1).toNat = 1 from rfl, List.take, accR, cont_mk _ (show 0 ≤ r % 64 by omega) (by omega), if_true]
      congr 1; omega
    · rw [l3, hs]; simp; omega
  split
  · obtain ⟨l1, l2, l3⟩ := ld_3 (224 + r / 4096) (by omega) (by omega)
    simp only [List.cons_append, List.nil_append]
    rw [runeF_good _ _ (by omega) (by rw [l1]; simp; omega) r ?_ ?_, l1]
    · rfl
    · rw [l1, l2]
      simp only [show ((3 : Int) - 1).toNat = 2 from rfl, List.take, accR, cont_mk _ (show 0 ≤ r % 64 by omega) (by omega), cont_mk _ (show 0 ≤ r / 64 % 64 by omega) (by omega), if_true]
      congr 1; omega
    · rw [l3, hs]; simp; omega
  · obtain ⟨l1, l2, l3⟩ := ld_4 (240 + r / 262144) (by omega) (by omega)
    simp only [List.cons_append, List.nil_append]
    rw [runeF_good _ _ (by omega) (by rw [l1]; simp; omega) r ?_ ?_, l1]
    · rfl
    · rw [l1, l2]
      simp only [show ((4 : Int) - 1).toNat = 3 from rfl, List.take, accR, cont_mk _ (show 0 ≤ r % 64 by omega) (by omega), cont_mk _ (show 0 ≤ r / 64 % 64 by omega) (by omega), cont_mk _ (show 0 ≤ r / 4096 % 64 by omega) (by omega), if_true]
      congr 1; omega
    · rw [l3, hs]; simp; omega
theorem cont_parts {z : Int} (h : cont z = true) : 128 ≤ z ∧ z < 192 := by unfold cont at h; simpa using h
/-- A rune that is read is written as it was. -/
theorem utf_runeF (zs : List Int) (hb : Byte zs) (r j : Int) (h : runeF zs = (r, j, true)) : okR r = true ∧ 1 ≤ j ∧ j.toNat ≤ zs.length ∧ utfF r = zs.take j.toNat := by
  cases zs with
  | nil => simp [runeF] at h
  | cons c t =>
    have hc := hb c (by simp)
    simp only [runeF] at h
    split at h
    · simp at h
    rename_i hs
    split at h
    · simp at h
    rename_i q ha
    split at h
    · simp at h
    rename_i hg
    simp only [Prod.mk.injEq, and_true] at h
    obtain ⟨rfl, rfl⟩ := h
    have hq := (accR_bd _ _ _ (ldR_bd c hc.1).1 ha).1
    have hsq : surr q = false := by
      cases h : surr q
      · rfl
      · exact absurd (Or.inr (Or.inr h)) hg
    have hok : okR q = true := okR_mk hq (by omega) hsq
    have hN1 : 1 ≤ ldN c := by rcases ldN_cases c with e | e | e | e | e <;> omega
    refine ⟨hok, hN1, by simp at hs ⊢; omega, ?_⟩
    have hlen : ldN c ≤ (t.length : Int) + 1 := by simp at hs; omega
    rcases ldN_cases c with e | e | e | e | e
    · omega
    · rw [e] at ha ⊢
      have hc128 : c < 128 := by
        unfold ldN at e; split at e
        · assumption
        · repeat' (split at e)
          all_goals omega
      have hr : ldR c = c := by unfold ldR; rw [if_pos hc128]
      simp only [show ((1 : Int) - 1).toNat = 0 from rfl, List.take_zero, accR, Option.some.injEq] at ha
      rw [hr] at ha; subst ha
      unfold utfF; rw [if_pos hc128]; rfl
    · have hcr : 192 ≤ c ∧ c < 224 ∧ ldR c = c - 192 ∧ ldL c = 128 := by
        revert e; unfold ldN ldR ldL
        repeat' split
        all_goals omega
      rw [e] at ha ⊢ hlen
      match t, hlen, ha with
      | [], hlen, _ => simp at hlen
      | a :: t, _, ha =>
        simp only [show ((2 : Int) - 1).toNat = 1 from rfl, List.take_succ_cons, List.take_zero, accR] at ha
        split at ha
        · rename_i hca
          have := cont_parts hca
          simp only [Option.some.injEq] at ha
          subst ha
          rw [hcr.2.2.1] at hg hq ⊢
          unfold utfF
          rw [if_neg (by omega), if_pos (by omega)]
          simp only [show (2 : Int).toNat = 2 from rfl, List.take_succ_cons, List.take_zero, List.cons.injEq, and_true]
          omega
        · cases ha
    · have hcr : 224 ≤ c ∧ c < 240 ∧ ldR c = c - 224 ∧ ldL c = 2048 := by
        revert e; unfold ldN ldR ldL
        repeat' split
        all_goals omega
      rw [e] at ha ⊢ hlen
      match t, hlen, ha with
      | [], hlen, _ => simp at hlen
      | [a], hlen, _ => simp at hlen
      | a :: b :: t, _, ha =>
        simp only [show ((3 : Int) - 1).toNat = 2 from rfl, List.take_succ_cons, List.take_zero, accR] at ha
        split at ha
        · rename_i hca
          split at ha
          · rename_i hcb
            have h1 := cont_parts hca
            have h2 := cont_parts hcb
            simp only [Option.some.injEq] at ha
            subst ha
            rw [hcr.2.2.1] at hg hq ⊢
            unfold utfF
            rw [if_neg (by omega), if_neg (by omega), if_pos (by omega)]
            simp only [show (3 : Int).toNat = 3 from rfl, List.take_succ_cons, List.take_zero, List.cons.injEq, and_true]
            omega
          · cases ha
        · cases ha
    · have hcr : 240 ≤ c ∧ c < 248 ∧ ldR c = c - 240 ∧ ldL c = 65536 := by
        revert e; unfold ldN ldR ldL
        repeat' split
        all_goals omega
      rw [e] at ha ⊢ hlen
      match t, hlen, ha with
      | [], hlen, _ => simp at hlen
      | [a], hlen, _ => simp at hlen
      | [a, b], hlen, _ => simp at hlen
      | a :: b :: d :: t, _, ha =>
        simp only [show ((4 : Int) - 1).toNat = 3 from rfl, List.take_succ_cons, List.take_zero, accR] at ha
        split at ha
        · rename_i hca
          split at ha
          · rename_i hcb
            split at ha
            · rename_i hcd
              have h1 := cont_parts hca
              have h2 := cont_parts hcb
              have h3 := cont_parts hcd
              simp only [Option.some.injEq] at ha
              subst ha
              rw [hcr.2.2.1] at hg hq ⊢
              unfold utfF
              rw [if_neg (by omega), if_neg (by omega), if_neg (by omega)]
              simp only [show (4 : Int).toNat = 4 from rfl, List.take_succ_cons, List.take_zero, List.cons.injEq, and_true]
              omega
            · cases ha
          · cases ha
        · cases ha

/-! ### Digits of sixteen -/
def hexD (c : Int) : Option Int := if 48 ≤ c ∧ c ≤ 57 then some (c - 48) else if 65 ≤ c ∧ c ≤ 70 then some (c - 55) else if 97 ≤ c ∧ c ≤ 102 then some (c - 87) else none
theorem hexD_bd {c d : Int} (h : hexD c = some d) : 0 ≤ d ∧ d < 16 := by
  unfold hexD at h
  repeat' split at h
  all_goals first | (cases h; done) | (injection h with h; omega)
def hexV : Int → List Int → Option Int
  | a, [] => some a
  | a, c :: t => match hexD c with
    | none => none
    | some d => hexV (a * 16 + d) t
theorem hexV_snoc (l : List Int) (c : Int) : ∀ a, hexV a (l ++ [c]) = match hexV a l with | none => none | some q => match hexD c with | none => none | some d => some (q * 16 + d) := by
  induction l with
  | nil => intro a; simp only [List.nil_append, hexV]
  | cons x l ih => intro a; simp only [List.cons_append, hexV]; split <;> simp [ih]
theorem hexV_none (l m : List Int) : ∀ a, hexV a l = none → hexV a (l ++ m) = none := by
  induction l with
  | nil => intro a h; simp [hexV] at h
  | cons x l ih =>
    intro a h
    simp only [List.cons_append, hexV] at h ⊢
    split
    · rfl
    · rename_i d hd
      rw [hd] at h
      exact ih _ h
theorem hexV_bd (l : List Int) : ∀ a q, 0 ≤ a → hexV a l = some q → 0 ≤ q ∧ q < (a + 1) * 16 ^ l.length := by
  induction l with
  | nil => intro a q h0 h; simp only [hexV, Option.some.injEq] at h; subst h; simp; omega
  | cons x l ih =>
    intro a q h0 h
    simp only [hexV] at h
    split at h
    · cases h
    · rename_i d hd
      have hd2 := hexD_bd hd
      obtain ⟨h1, h2⟩ := ih _ _ (by omega) h
      refine ⟨h1, ?_⟩
      have e : (a * 16 + d + 1) * 16 ^ l.length ≤ ((a + 1) * 16) * 16 ^ l.length := Int.mul_le_mul_of_nonneg_right (by omega) (Int.pow_nonneg (by omega))
      have e2 : (a + 1) * 16 ^ (x :: l).length = ((a + 1) * 16) * 16 ^ l.length := by rw [List.length_cons, Int.pow_succ']; rw [Int.mul_assoc]
      omega
/-- Up to eight digits: below 2 to the 32nd; while digits are still to come, below 2 to the 28th. -/
theorem hexV_lt (l : List Int) (q : Int) (h : hexV 0 l = some q) : (l.length ≤ 7 → 0 ≤ q ∧ q < 268435456) ∧ (l.length ≤ 8 → 0 ≤ q ∧ q < 4294967296) := by
  obtain ⟨h1, h2⟩ := hexV_bd l 0 q (by omega) h
  have hc : (16 : Int) ^ l.length = ((16 ^ l.length : Nat) : Int) := by rw [Int.natCast_pow]; rfl
  have h7 : l.length ≤ 7 → (16 : Int) ^ l.length ≤ 268435456 := fun hl => by
    have := Nat.pow_le_pow_right (show 0 < 16 by omega) hl
    rw [hc]; omega
  have h8 : l.length ≤ 8 → (16 : Int) ^ l.length ≤ 4294967296 := fun hl => by
    have := Nat.pow_le_pow_right (show 0 < 16 by omega) hl
    rw [hc]; omega
  exact ⟨fun hl => ⟨h1, by have := h7 hl; omega⟩, fun hl => ⟨h1, by have := h8 hl; omega⟩⟩
theorem hexV_stop (t : List Int) (k m : Nat) (hk : k ≤ m) (h : hexV 0 (t.take k) = none) : hexV 0 (t.take m) = none := by
  have e : t.take m = t.take k ++ (t.drop k).take (m - k) := by
    rw [show m = k + (m - k) by omega, List.take_add]; simp
  rw [e]; exact hexV_none _ _ _ h
theorem hexV_step (t : List Int) (k : Nat) (z q : Int) (hz : t[k]? = some z) (hq : hexV 0 (t.take k) = some q) :
    hexV 0 (t.take (k + 1)) = match hexD z with | none => none | some d => some (q * 16 + d) := by
  rw [List.take_add_one, hz]
  simp only [Option.toList_some, hexV_snoc, hq]

def hexC (d : Int) : Int := if d < 10 then 48 + d else 55 + d
/-- The last d digits. -/
def hexF (n : Int) : Nat → List Int
  | 0 => []
  | d + 1 => hexF (n / 16) d ++ [hexC (n % 16)]
theorem hexF_len (d : Nat) : ∀ n, (hexF n d).length = d := by
  induction d with
  | zero => intro n; rfl
  | succ d ih => intro n; simp [hexF, ih]
theorem hexC_byte (d : Int) (h0 : 0 ≤ d) (h1 : d < 16) : (48 ≤ hexC d ∧ hexC d ≤ 57) ∨ (65 ≤ hexC d ∧ hexC d ≤ 70) := by unfold hexC; split <;> omega
theorem hexF_byte (d : Nat) : ∀ n, ∀ z ∈ hexF n d, (48 ≤ z ∧ z ≤ 57) ∨ (65 ≤ z ∧ z ≤ 70) := by
  induction d with
  | zero => intro n z hz; cases hz
  | succ d ih =>
    intro n z hz
    simp only [hexF, List.mem_append, List.mem_singleton] at hz
    rcases hz with hz | rfl
    · exact ih _ z hz
    · exact hexC_byte _ (by omega) (by omega)
theorem hexD_C (d : Int) (h0 : 0 ≤ d) (h1 : d < 16) : hexD (hexC d) = some d := by
  unfold hexD hexC
  repeat' split
  all_goals first | (congr 1; omega) | omega
theorem hexV_F (d : Nat) : ∀ n, 0 ≤ n → hexV 0 (hexF n d) = some (n % 16 ^ d) := by
  induction d with
  | zero => intro n h; simp [hexF, hexV, Int.emod_one]
  | succ d ih =>
    intro n h
    rw [hexF, hexV_snoc, ih _ (by omega)]
    simp only [hexD_C (n % 16) (by omega) (by omega)]
    congr 1
    rw [Int.pow_succ']
    have h1 := Int.emod_add_mul_ediv n (16 * 16 ^ d)
    have hp : (0 : Int) < 16 ^ d := Int.pow_pos (by omega)
    have h2 : n / (16 * 16 ^ d) = n / 16 / 16 ^ d := (Int.ediv_ediv_of_nonneg (by omega)).symm
    have h3 := Int.emod_add_mul_ediv (n / 16) (16 ^ d)
    have h4 := Int.emod_add_mul_ediv n 16
    rw [h2] at h1
    generalize n / 16 / 16 ^ d = x at *
    have h5 : 16 * 16 ^ d * x = 16 * (16 ^ d * x) := Int.mul_assoc _ _ _
    rw [h5] at h1
    generalize 16 ^ d * x = y at *
    omega

/-! ### Escapes -/
def shL : List (Int × Int) := [(48, 0), (97, 7), (98, 8), (116, 9), (110, 10), (118, 11), (102, 12), (114, 13), (101, 27), (34, 34), (92, 92), (78, 133), (95, 160), (76, 8232), (80, 8233)]
def escL (c : Int) : Option Int := (shL.find? (fun x => x.1 == c)).map (·.2)
def letR (r : Int) : Option Int := (shL.find? (fun x => x.2 == r)).map (·.1)
def numO (d : Nat) : Option Int → Option (Int × Nat)
  | none => none
  | some r => if okR r = true then some (r, 1 + d) else none
def numF (d : Nat) (zs : List Int) : Option (Int × Nat) := if zs.length ≤ d then none else numO d (hexV 0 ((zs.drop 1).take d))
/-- Behind the sign of an escape: the rune, and how many bytes. -/
def escF : List Int → Option (Int × Nat)
  | [] => none
  | c :: t => if c = 47 ∨ c = 32 then some (c, 1) else if c = 120 then numF 2 (c :: t) else if c = 117 then numF 4 (c :: t) else if c = 85 then numF 8 (c :: t) else (escL c).map (fun r => (r, 1))
theorem numF_parts {d : Nat} {zs : List Int} {r : Int} {m : Nat} (h : numF d zs = some (r, m)) : okR r = true ∧ 1 ≤ m ∧ m ≤ zs.length := by
  unfold numF at h
  split at h
  · cases h
  unfold numO at h
  split at h
  · cases h
  split at h
  · simp only [Option.some.injEq, Prod.mk.injEq] at h
    obtain ⟨rfl, rfl⟩ := h
    exact ⟨by assumption, by omega, by omega⟩
  · cases h
theorem shL_ok : ∀ x ∈ shL, okR x.2 = true ∧ letR x.2 = some x.1 ∧ escL x.1 = some x.2 ∧ 0 ≤ x.1 ∧ x.1 < 128 ∧ x.1 ≠ 47 ∧ x.1 ≠ 32 ∧ x.1 ≠ 120 ∧ x.1 ≠ 117 ∧ x.1 ≠ 85 ∧ x.1 ≠ 10 ∧ x.1 ≠ 13 ∧ x.1 ≠ 9 ∧ 32 ≤ x.1 ∧ x.1 ≤ 126 := by decide +kernel
theorem escL_mem {c r : Int} (h : escL c = some r) : (c, r) ∈ shL := by
  unfold escL at h
  cases hf : shL.find? (fun x => x.1 == c) with
  | none => rw [hf] at h; cases h
  | some x =>
    rw [hf] at h
    simp only [Option.map_some, Option.some.injEq] at h
    have h1 := List.find?_some hf
    have h2 := List.mem_of_find?_eq_some hf
    simp only [beq_iff_eq] at h1
    subst h1 h
    exact h2
theorem letR_mem {c r : Int} (h : letR r = some c) : (c, r) ∈ shL := by
  unfold letR at h
  cases hf : shL.find? (fun x => x.2 == r) with
  | none => rw [hf] at h; cases h
  | some x =>
    rw [hf] at h
    simp only [Option.map_some, Option.some.injEq] at h
    have h1 := List.find?_some hf
    have h2 := List.mem_of_find?_eq_some hf
    simp only [beq_iff_eq] at h1
    subst h1 h
    exact h2
theorem escF_parts {zs : List Int} {r : Int} {m : Nat} (h : escF zs = some (r, m)) : okR r = true ∧ 1 ≤ m ∧ m ≤ zs.length := by
  cases zs with
  | nil => cases h
  | cons c t =>
    simp only [escF] at h
    split at h
    · rename_i hc
      simp only [Option.some.injEq, Prod.mk.injEq] at h
      obtain ⟨rfl, rfl⟩ := h
      refine ⟨?_, by omega, by simp⟩
      rcases hc with rfl | rfl <;> decide
    split at h
    · exact numF_parts h
    split at h
    · exact numF_parts h
    split at h
    · exact numF_parts h
    · cases he : escL c with
      | none => rw [he] at h; cases h
      | some x =>
        rw [he] at h
        simp only [Option.map_some, Option.some.injEq, Prod.mk.injEq] at h
        obtain ⟨rfl, rfl⟩ := h
        exact ⟨(shL_ok _ (escL_mem he)).1, by omega, by simp⟩

/-! ### What stands in quotes -/
/-- Behind the first quote: the value, and how many bytes it takes with the last one. -/
def dT : Nat → List Int → Option (List Int × Nat)
  | 0, _ => none
  | _ + 1, [] => none
  | n + 1, c :: t => if c = 34 then some ([], 1) else if c = 10 ∨ c = 13 then none else
    if c = 92 then (match escF t with | none => none | some x => (dT n (t.drop x.2)).map (fun y => (utfF x.1 ++ y.1, y.2 + (1 + x.2)))) else (dT n t).map (fun y => (c :: y.1, y.2 + 1))
theorem dT_fuel : ∀ (n m : Nat) (zs : List Int), zs.length < n → zs.length < m → dT n zs = dT m zs := by
  intro n
  induction n with
  | zero => intro m zs h; omega
  | succ n ih =>
    intro m zs h1 h2
    cases m with
    | zero => omega
    | succ m =>
      cases zs with
      | nil => rfl
      | cons c t =>
        simp only [List.length_cons] at h1 h2
        simp only [dT]
        split
        · rfl
        split
        · rfl
        split
        · cases he : escF t with
          | none => rfl
          | some x =>
            have := escF_parts (r := x.1) (m := x.2) he
            simp only []
            rw [ih m (t.drop x.2) (by rw [List.length_drop]; omega) (by rw [List.length_drop]; omega)]
        · rw [ih m t (by omega) (by omega)]
def dq (zs : List Int) : Option (List Int × Nat) := dT (zs.length + 1) zs
theorem dq_nil : dq [] = none := rfl
theorem dT_cons (n : Nat) (c : Int) (t : List Int) : dT (n + 1) (c :: t) = if c = 34 then some ([], 1) else if c = 10 ∨ c = 13 then none else
    if c = 92 then (match escF t with | none => none | some x => (dT n (t.drop x.2)).map (fun y => (utfF x.1 ++ y.1, y.2 + (1 + x.2)))) else (dT n t).map (fun y => (c :: y.1, y.2 + 1)) := rfl
theorem dq_quote (t : List Int) : dq (34 :: t) = some ([], 1) := by unfold dq; rw [dT_cons, if_pos rfl]
theorem dq_brk (c : Int) (t : List Int) (h : c = 10 ∨ c = 13) : dq (c :: t) = none := by
  unfold dq; rw [dT_cons, if_neg (by omega), if_pos h]
theorem dq_ne (c : Int) (t : List Int) (h1 : c ≠ 34) (h2 : c ≠ 10) (h3 : c ≠ 13) (h4 : c ≠ 92) : dq (c :: t) = (dq t).map (fun y => (c :: y.1, y.2 + 1)) := by
  unfold dq; rw [dT_cons, if_neg h1, if_neg (by omega), if_neg h4]; rfl
theorem dq_bad (t : List Int) (h : escF t = none) : dq (92 :: t) = none := by
  unfold dq; rw [dT_cons, if_neg (by omega), if_neg (by omega), if_pos rfl, h]
theorem dq_esc (t : List Int) (r : Int) (m : Nat) (h : escF t = some (r, m)) : dq (92 :: t) = (dq (t.drop m)).map (fun y => (utfF r ++ y.1, y.2 + (1 + m))) := by
  have := escF_parts h
  unfold dq; rw [dT_cons, if_neg (by omega), if_neg (by omega), if_pos rfl, h]
  simp only []
  rw [List.length_cons, dT_fuel (t.length + 1) ((t.drop m).length + 1) (t.drop m) (by rw [List.length_drop]; omega) (by omega)]
theorem dq_len : ∀ (n : Nat) (zs v : List Int) (m : Nat), zs.length ≤ n → dq zs = some (v, m) → 1 ≤ m ∧ m ≤ zs.length ∧ v.length ≤ 4 * m ∧ (Byte zs → Byte v) := by
  intro n
  induction n with
  | zero =>
    intro zs v m hl h
    have : zs = [] := List.eq_nil_of_length_eq_zero (by omega)
    subst this; cases h
  | succ n ih =>
    intro zs v m hl h
    cases zs with
    | nil => cases h
    | cons c t =>
      simp only [List.length_cons] at hl
      by_cases h1 : c = 34
      · subst h1
        rw [dq_quote] at h
        simp only [Option.some.injEq, Prod.mk.injEq] at h
        obtain ⟨rfl, rfl⟩ := h
        exact ⟨by omega, by simp, by simp, fun _ z hz => by cases hz⟩
      by_cases h2 : c = 10 ∨ c = 13
      · rw [dq_brk c t h2] at h; cases h
      by_cases h3 : c = 92
      · subst h3
        cases he : escF t with
        | none => rw [dq_bad t he] at h; cases h
        | some x =>
          rw [dq_esc t x.1 x.2 he] at h
          have hp := escF_parts (r := x.1) (m := x.2) he
          cases hd : dq (t.drop x.2) with
          | none => rw [hd] at h; cases h
          | some y =>
            rw [hd] at h
            simp only [Option.map_some, Option.some.injEq, Prod.mk.injEq] at h
            obtain ⟨rfl, rfl⟩ := h
            have hi := ih (t.drop x.2) y.1 y.2 (by rw [List.length_drop]; omega) hd
            have hu := utfF_len x.1
            rw [List.length_drop] at hi
            refine ⟨by omega, by simp; omega, by simp; omega, fun hb => ?_⟩
            exact (utfF_byte hp.1).append (hi.2.2.2 (Byte.drop (fun z hz => hb z (by simp [hz])) _))
      · rw [dq_ne c t h1 (by omega) (by omega) h3] at h
        cases hd : dq t with
        | none => rw [hd] at h; cases h
        | some y =>
          rw [hd] at h
          simp only [Option.map_some, Option.some.injEq, Prod.mk.injEq] at h
          obtain ⟨rfl, rfl⟩ := h
          have hi := ih t y.1 y.2 (by omega) hd
          refine ⟨by omega, by simp; omega, by simp; omega, fun hb z hz => ?_⟩
          simp only [List.mem_cons] at hz
          rcases hz with rfl | hz
          · exact hb z (by simp)
          · exact hi.2.2.2 (fun z hz => hb z (by simp [hz])) z hz

def dqAt (zs acc : List Int) (k : Nat) : Option (List Int × Nat) := (dq (zs.drop k)).map fun x => (acc ++ x.1, x.2 + k)
theorem drop_at (zs : List Int) (k : Nat) (h : k < zs.length) : zs.drop k = zs.getD k 0 :: zs.drop (k + 1) := by
  rw [List.drop_eq_getElem_cons h]; simp [List.getD, h]
theorem dqAt_past (zs acc : List Int) (k : Nat) (h : zs.length ≤ k) : dqAt zs acc k = none := by
  unfold dqAt; rw [List.drop_eq_nil_of_le h]; rfl
theorem dqAt_end (zs acc : List Int) (k : Nat) (h : k < zs.length) (hc : zs.getD k 0 = 34) : dqAt zs acc k = some (acc, k + 1) := by
  unfold dqAt; rw [drop_at zs k h, hc, dq_quote]; simp [Nat.add_comm]
theorem dqAt_brk (zs acc : List Int) (k : Nat) (h : k < zs.length) (hc : zs.getD k 0 = 10 ∨ zs.getD k 0 = 13) : dqAt zs acc k = none := by
  unfold dqAt; rw [drop_at zs k h, dq_brk _ _ hc]; rfl
theorem dqAt_ne (zs acc : List Int) (k : Nat) (h : k < zs.length) (h1 : zs.getD k 0 ≠ 34) (h2 : zs.getD k 0 ≠ 10) (h3 : zs.getD k 0 ≠ 13) (h4 : zs.getD k 0 ≠ 92) : dqAt zs acc k = dqAt zs (acc ++ [zs.getD k 0]) (k + 1) := by
  unfold dqAt; rw [drop_at zs k h, dq_ne _ _ h1 h2 h3 h4]
  cases dq (zs.drop (k + 1)) with
  | none => rfl
  | some x => simp; omega
theorem dqAt_bad (zs acc : List Int) (k : Nat) (h : k < zs.length) (h1 : zs.getD k 0 = 92) (he : escF (zs.drop (k + 1)) = none) : dqAt zs acc k = none := by
  unfold dqAt; rw [drop_at zs k h, h1, dq_bad _ he]; rfl
theorem dqAt_esc (zs acc : List Int) (k : Nat) (h : k < zs.length) (h1 : zs.getD k 0 = 92) (r : Int) (m : Nat) (he : escF (zs.drop (k + 1)) = some (r, m)) : dqAt zs acc k = dqAt zs (acc ++ utfF r) (k + (1 + m)) := by
  unfold dqAt; rw [drop_at zs k h, h1, dq_esc _ r m he, List.drop_drop, show k + 1 + m = k + (1 + m) by omega]
  cases dq (zs.drop (k + (1 + m))) with
  | none => rfl
  | some x => simp; omega
def takeD (zs : List Int) : Option (List Int × Nat) := if zs.getD 0 0 = 34 then dqAt zs [] 1 else none
theorem takeD_cons (t : List Int) : takeD (34 :: t) = (dq t).map (fun x => (x.1, x.2 + 1)) := by
  unfold takeD dqAt; simp
def tkV (o : Option (List Int × Nat)) : List Int := match o with | some x => x.1 | none => []
def tkN (o : Option (List Int × Nat)) : Nat := match o with | some x => x.2 | none => 0

/-! ### A text in quotes -/
def wrF (r : Int) : List Int := match letR r with
  | some c => [92, c]
  | none => if prt r = true then utfF r else if r ≤ 255 then 92 :: 120 :: hexF r 2 else if r ≤ 65535 then 92 :: 117 :: hexF r 4 else 92 :: 85 :: hexF r 8
theorem wrF_len (r : Int) : 1 ≤ (wrF r).length ∧ (wrF r).length ≤ 10 := by
  unfold wrF
  split
  · simp
  split
  · have := utfF_len r; omega
  split
  · simp [hexF_len]
  split
  · simp [hexF_len]
  · simp [hexF_len]
def pD : Nat → List Int → Option (List Int)
  | _, [] => some []
  | 0, _ :: _ => none
  | n + 1, c :: t => match runeF (c :: t) with
    | (r, j, true) => (pD n ((c :: t).drop j.toNat)).map (fun y => wrF r ++ y)
    | (_, _, false) => none
theorem pD_fuel : ∀ (n m : Nat) (zs : List Int), zs.length ≤ n → zs.length ≤ m → pD n zs = pD m zs := by
  intro n
  induction n with
  | zero =>
    intro m zs h1 h2
    have : zs = [] := List.eq_nil_of_length_eq_zero (by omega)
    subst this; cases m <;> rfl
  | succ n ih =>
    intro m zs h1 h2
    cases zs with
    | nil => cases m <;> rfl
    | cons c t =>
      cases m with
      | zero => simp at h2
      | succ m =>
        simp only [List.length_cons] at h1 h2
        simp only [pD]
        have hn := runeF_n (c :: t) (by simp)
        rcases hf : runeF (c :: t) with ⟨r, j, ok⟩
        rw [hf] at hn
        cases ok
        · rfl
        · simp only []
          rw [ih m _ (by rw [List.length_drop]; simp only [List.length_cons]; simp only [] at hn; omega) (by rw [List.length_drop]; simp only [List.length_cons]; simp only [] at hn; omega)]
def pq (zs : List Int) : Option (List Int) := pD zs.length zs
theorem pq_nil : pq [] = some [] := rfl
theorem pq_bad (zs : List Int) (h : zs ≠ []) (r j : Int) (hf : runeF zs = (r, j, false)) : pq zs = none := by
  cases zs with
  | nil => exact absurd rfl h
  | cons c t => unfold pq; simp only [List.length_cons, pD, hf]
theorem pq_good (zs : List Int) (h : zs ≠ []) (r j : Int) (hf : runeF zs = (r, j, true)) : pq zs = (pq (zs.drop j.toNat)).map (fun y => wrF r ++ y) := by
  have hn := runeF_n zs h
  rw [hf] at hn
  simp only [] at hn
  cases zs with
  | nil => exact absurd rfl h
  | cons c t =>
    unfold pq; simp only [List.length_cons, pD, hf]
    rw [pD_fuel t.length ((c :: t).drop j.toNat).length _ (by rw [List.length_drop]; simp only [List.length_cons]; omega) (Nat.le_refl _)]
def putD (zs : List Int) : Option (List Int) := (pq zs).map (fun y => 34 :: (y ++ [34]))
def pqAt (zs acc : List Int) (k : Nat) : Option (List Int) := (pq (zs.drop k)).map (fun y => acc ++ (y ++ [34]))
end Go.Proofs.YtdjpdcjljpmfnaaDoor
