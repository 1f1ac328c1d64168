/- Chapter 6 (scalars in double quotes) as Lean functions on lists of numbers, and what they come to. No program. · The contracts of double.digit, utf8.ValidRune, double.numbered. · The table 'shorts' in memory, and double.escaped. · What the rows list of 'shorts' is the table in memory. · utf8.AppendRune behind bytes of our own. · double.Take. · double.Hex, and the document's Hex. · The document's own small answers of chapter 6: digit, escape, utf8. · The document's TakeDouble. -/
import Derived.Test.YtnecapmnbaemiaaGreatDoorMA
import Derived.Laws.Rows
import Derived.Test.YtnecapmnbaemiaaGreatDoorRows
import Derived.OpenShut
import Derived.ChangeSame
import Derived.MakeChecks
import Derived.Lib.LaidU8
set_option linter.unusedSimpArgs false
set_option linter.unusedVariables false
namespace Go.Proofs.YtnecapmnbaemiaaGreatDoor
open Go.RowKit
set_option linter.unusedVariables false
set_option maxRecDepth 100000
def utfF (r : Int) : List Int :=
  if r < 128 then [r] else if r < 2048 then [192 + r / 64, 128 + r % 64] else
  if r < 65536 then [224 + r / 4096, 128 + r / 64 % 64, 128 + r % 64] else
  [240 + r / 262144, 128 + r / 4096 % 64, 128 + r / 64 % 64, 128 + r % 64]
def okR (r : Int) : Bool := decide (0 ≤ r) && decide (r ≤ 1114111) && !surr r
theorem okR_parts {r : Int} (h : okR r = true) : 0 ≤ r ∧ r ≤ 1114111 ∧ surr r = false := by
  unfold okR at h; simp at h; exact ⟨h.1.1, h.1.2, h.2⟩
theorem utfF_byte {r : Int} (h : okR r = true) : Byte (utfF r) := by
  obtain ⟨h0, h1, _⟩ := okR_parts h
  intro z hz
  unfold utfF at hz
  repeat' split at hz
  all_goals (simp at hz; omega)
theorem utfF_len (r : Int) : 1 ≤ (utfF r).length ∧ (utfF r).length ≤ 4 := by
  unfold utfF
  repeat' split
  all_goals simp
def hexD (c : Int) : Option Int := if 48 ≤ c ∧ c ≤ 57 then some (c - 48) else if 65 ≤ c ∧ c ≤ 70 then some (c - 55) else if 97 ≤ c ∧ c ≤ 102 then some (c - 87) else none
theorem hexD_bd {c d : Int} (h : hexD c = some d) : 0 ≤ d ∧ d < 16 := by
  unfold hexD at h
  repeat' split at h
  all_goals first | (cases h; done) | (injection h with h; omega)
def hexV : Int → List Int → Option Int
  | a, [] => some a
  | a, c :: t => match hexD c with
    | none => none
    | some d => hexV (a * 16 + d) t
theorem hexV_snoc (l : List Int) (c : Int) : ∀ a, hexV a (l ++ [c]) = match hexV a l with | none => none | some q => match hexD c with | none => none | some d => some (q * 16 + d) := by
  induction l with
  | nil => intro a; simp only [List.nil_append, hexV]
  | cons x l ih => intro a; simp only [List.cons_append, hexV]; split <;> simp [ih]
theorem hexV_none (l m : List Int) : ∀ a, hexV a l = none → hexV a (l ++ m) = none := by
  induction l with
  | nil => intro a h; simp [hexV] at h
  | cons x l ih =>
    intro a h
    simp only [List.cons_append, hexV] at h ⊢
    split
    · rfl
    · rename_i d hd
      rw [hd] at h
      exact ih _ h
theorem hexV_bd (l : List Int) : ∀ a q, 0 ≤ a → hexV a l = some q → 0 ≤ q ∧ q < (a + 1) * 16 ^ l.length := by
  induction l with
  | nil => intro a q h0 h; simp only [hexV, Option.some.injEq] at h; subst h; simp; omega
  | cons x l ih =>
    intro a q h0 h
    simp only [hexV] at h
    split at h
    · cases h
    · rename_i d hd
      have hd2 := hexD_bd hd
      obtain ⟨h1, h2⟩ := ih _ _ (by omega) h
      refine ⟨h1, ?_⟩
      have e : (a * 16 + d + 1) * 16 ^ l.length ≤ ((a + 1) * 16) * 16 ^ l.length := Int.mul_le_mul_of_nonneg_right (by omega) (Int.pow_nonneg (by omega))
      have e2 : (a + 1) * 16 ^ (x :: l).length = ((a + 1) * 16) * 16 ^ l.length := by rw [List.length_cons, Int.pow_succ']; rw [Int.mul_assoc]
      omega
/-- Up to eight digits: below 2 to the 32nd; while digits are still to come, below 2 to the 28th. -/
theorem hexV_lt (l : List Int) (q : Int) (h : hexV 0 l = some q) : (l.length ≤ 7 → 0 ≤ q ∧ q < 268435456) ∧ (l.length ≤ 8 → 0 ≤ q ∧ q < 4294967296) := by
  obtain ⟨h1, h2⟩ := hexV_bd l 0 q (by omega) h
  have hc : (16 : Int) ^ l.length = ((16 ^ l.length : Nat) : Int) := by rw [Int.natCast_pow]; rfl
  have h7 : l.length ≤ 7 → (16 : Int) ^ l.length ≤ 268435456 := fun hl => by
    have := Nat.pow_le_pow_right (show 0 < 16 by omega) hl
    rw [hc]; omega
  have h8 : l.length ≤ 8 → (16 : Int) ^ l.length ≤ 4294967296 := fun hl => by
    have := Nat.pow_le_pow_right (show 0 < 16 by omega) hl
    rw [hc]; omega
  exact ⟨fun hl => ⟨h1, by have := h7 hl; omega⟩, fun hl => ⟨h1, by have := h8 hl; omega⟩⟩
theorem hexV_stop (t : List Int) (k m : Nat) (hk : k ≤ m) (h : hexV 0 (t.take k) = none) : hexV 0 (t.take m) = none := by
  have e : t.take m = t.take k ++ (t.drop k).take (m - k) := by
    rw [show m = k + (m - k) by omega, List.take_add]; simp
  rw [e]; exact hexV_none _ _ _ h
theorem hexV_step (t : List Int) (k : Nat) (z q : Int) (hz : t[k]? = some z) (hq : hexV 0 (t.take k) = some q) :
    hexV 0 (t.take (k + 1)) = match hexD z with | none => none | some d => some (q * 16 + d) := by
  rw [List.take_add_one, hz]
  simp only [Option.toList_some, hexV_snoc, hq]
def shL : List (Int × Int) := [(48, 0), (97, 7), (98, 8), (116, 9), (110, 10), (118, 11), (102, 12), (114, 13), (101, 27), (34, 34), (92, 92), (78, 133), (95, 160), (76, 8232), (80, 8233)]
def escL (c : Int) : Option Int := (shL.find? (fun x => x.1 == c)).map (·.2)
def letR (r : Int) : Option Int := (shL.find? (fun x => x.2 == r)).map (·.1)
def numO (d : Nat) : Option Int → Option (Int × Nat)
  | none => none
  | some r => if okR r = true then some (r, 1 + d) else none
def numF (d : Nat) (zs : List Int) : Option (Int × Nat) := if zs.length ≤ d then none else numO d (hexV 0 ((zs.drop 1).take d))
/-- Behind the sign of an escape: the rune, and how many bytes. -/
def escF : List Int → Option (Int × Nat)
  | [] => none
  | c :: t => if c = 47 ∨ c = 32 then some (c, 1) else if c = 120 then numF 2 (c :: t) else if c = 117 then numF 4 (c :: t) else if c = 85 then numF 8 (c :: t) else (escL c).map (fun r => (r, 1))
theorem numF_parts {d : Nat} {zs : List Int} {r : Int} {m : Nat} (h : numF d zs = some (r, m)) : okR r = true ∧ 1 ≤ m ∧ m ≤ zs.length := by
  unfold numF at h
  split at h
  · cases h
  unfold numO at h
  split at h
  · cases h
  split at h
  · simp only [Option.some.injEq, Prod.mk.injEq] at h
    obtain ⟨rfl, rfl⟩ := h
    exact ⟨by assumption, by omega, by omega⟩
  · cases h
theorem shL_ok : ∀ x ∈ shL, okR x.2 = true ∧ letR x.2 = some x.1 ∧ escL x.1 = some x.2 ∧ 0 ≤ x.1 ∧ x.1 < 128 ∧ x.1 ≠ 47 ∧ x.1 ≠ 32 ∧ x.1 ≠ 120 ∧ x.1 ≠ 117 ∧ x.1 ≠ 85 ∧ x.1 ≠ 10 ∧ x.1 ≠ 13 ∧ x.1 ≠ 9 ∧ 32 ≤ x.1 ∧ x.1 ≤ 126 := by decide +kernel
theorem escL_mem {c r : Int} (h : escL c = some r) : (c, r) ∈ shL := by
  unfold escL at h
  cases hf : shL.find? (fun x => x.1 == c) with
  | none => rw [hf] at h; cases h
  | some x =>
    rw [hf] at h
    simp only [Option.map_some, Option.some.injEq] at h
    have h1 := List.find?_some hf
    have h2 := List.mem_of_find?_eq_some hf
    simp only [beq_iff_eq] at h1
    subst h1 h
    exact h2
theorem escF_parts {zs : List Int} {r : Int} {m : Nat} (h : escF zs = some (r, m)) : okR r = true ∧ 1 ≤ m ∧ m ≤ zs.length := by
  cases zs with
  | nil => cases h
  | cons c t =>
    simp only [escF] at h
    split at h
    · rename_i hc
      simp only [Option.some.injEq, Prod.mk.injEq] at h
      obtain ⟨rfl, rfl⟩ := h
      refine ⟨?_, by omega, by simp⟩
      rcases hc with rfl | rfl <;> decide
    split at h
    · exact numF_parts h
    split at h
    · exact numF_parts h
    split at h
    · exact numF_parts h
    · cases he : escL c with
      | none => rw [he] at h; cases h
      | some x =>
        rw [he] at h
        simp only [Option.map_some, Option.some.injEq, Prod.mk.injEq] at h
        obtain ⟨rfl, rfl⟩ := h
        exact ⟨(shL_ok _ (escL_mem he)).1, by omega, by simp⟩
/-- Behind the first quote: the value, and how many bytes it takes with the last one. -/
def dT : Nat → List Int → Option (List Int × Nat)
  | 0, _ => none
  | _ + 1, [] => none
  | n + 1, c :: t => if c = 34 then some ([], 1) else if c = 10 ∨ c = 13 then none else
    if c = 92 then (match escF t with | none => none | some x => (dT n (t.drop x.2)).map (fun y => (utfF x.1 ++ y.1, y.2 + (1 + x.2)))) else (dT n t).map (fun y => (c :: y.1, y.2 + 1))
theorem dT_fuel : ∀ (n m : Nat) (zs : List Int), zs.length < n → zs.length < m → dT n zs = dT m zs := by
  intro n
  induction n with
  | zero => intro m zs h; omega
  | succ n ih =>
    intro m zs h1 h2
    cases m with
    | zero => omega
    | succ m =>
      cases zs with
      | nil => rfl
      | cons c t =>
        simp only [List.length_cons] at h1 h2
        simp only [dT]
        split
        · rfl
        split
        · rfl
        split
        · cases he : escF t with
          | none => rfl
          | some x =>
            have := escF_parts (r := x.1) (m := x.2) he
            simp only []
            rw [ih m (t.drop x.2) (by rw [List.length_drop]; omega) (by rw [List.length_drop]; omega)]
        · rw [ih m t (by omega) (by omega)]
def dq (zs : List Int) : Option (List Int × Nat) := dT (zs.length + 1) zs
theorem dT_cons (n : Nat) (c : Int) (t : List Int) : dT (n + 1) (c :: t) = if c = 34 then some ([], 1) else if c = 10 ∨ c = 13 then none else
    if c = 92 then (match escF t with | none => none | some x => (dT n (t.drop x.2)).map (fun y => (utfF x.1 ++ y.1, y.2 + (1 + x.2)))) else (dT n t).map (fun y => (c :: y.1, y.2 + 1)) := rfl
theorem dq_quote (t : List Int) : dq (34 :: t) = some ([], 1) := by unfold dq; rw [dT_cons, if_pos rfl]
theorem dq_brk (c : Int) (t : List Int) (h : c = 10 ∨ c = 13) : dq (c :: t) = none := by
  unfold dq; rw [dT_cons, if_neg (by omega), if_pos h]
theorem dq_ne (c : Int) (t : List Int) (h1 : c ≠ 34) (h2 : c ≠ 10) (h3 : c ≠ 13) (h4 : c ≠ 92) : dq (c :: t) = (dq t).map (fun y => (c :: y.1, y.2 + 1)) := by
  unfold dq; rw [dT_cons, if_neg h1, if_neg (by omega), if_neg h4]; rfl
theorem dq_bad (t : List Int) (h : escF t = none) : dq (92 :: t) = none := by
  unfold dq; rw [dT_cons, if_neg (by omega), if_neg (by omega), if_pos rfl, h]
theorem dq_esc (t : List Int) (r : Int) (m : Nat) (h : escF t = some (r, m)) : dq (92 :: t) = (dq (t.drop m)).map (fun y => (utfF r ++ y.1, y.2 + (1 + m))) := by
  have := escF_parts h
  unfold dq; rw [dT_cons, if_neg (by omega), if_neg (by omega), if_pos rfl, h]
  simp only []
  rw [List.length_cons, dT_fuel (t.length + 1) ((t.drop m).length + 1) (t.drop m) (by rw [List.length_drop]; omega) (by omega)]
theorem dq_len : ∀ (n : Nat) (zs v : List Int) (m : Nat), zs.length ≤ n → dq zs = some (v, m) → 1 ≤ m ∧ m ≤ zs.length ∧ v.length ≤ 4 * m ∧ (Byte zs → Byte v) := by
  intro n
  induction n with
  | zero =>
    intro zs v m hl h
    have : zs = [] := List.eq_nil_of_length_eq_zero (by omega)
    subst this; cases h
  | succ n ih =>
    intro zs v m hl h
    cases zs with
    | nil => cases h
    | cons c t =>
      simp only [List.length_cons] at hl
      by_cases h1 : c = 34
      · subst h1
        rw [dq_quote] at h
        simp only [Option.some.injEq, Prod.mk.injEq] at h
        obtain ⟨rfl, rfl⟩ := h
        exact ⟨by omega, by simp, by simp, fun _ z hz => by cases hz⟩
      by_cases h2 : c = 10 ∨ c = 13
      · rw [dq_brk c t h2] at h; cases h
      by_cases h3 : c = 92
      · subst h3
        cases he : escF t with
        | none => rw [dq_bad t he] at h; cases h
        | some x =>
          rw [dq_esc t x.1 x.2 he] at h
          have hp := escF_parts (r := x.1) (m := x.2) he
          cases hd : dq (t.drop x.2) with
          | none => rw [hd] at h; cases h
          | some y =>
            rw [hd] at h
            simp only [Option.map_some, Option.some.injEq, Prod.mk.injEq] at h
            obtain ⟨rfl, rfl⟩ := h
            have hi := ih (t.drop x.2) y.1 y.2 (by rw [List.length_drop]; omega) hd
            have hu := utfF_len x.1
            rw [List.length_drop] at hi
            refine ⟨by omega, by simp; omega, by simp; omega, fun hb => ?_⟩
            exact (utfF_byte hp.1).append (hi.2.2.2 (Byte.drop (fun z hz => hb z (by simp [hz])) _))
      · rw [dq_ne c t h1 (by omega) (by omega) h3] at h
        cases hd : dq t with
        | none => rw [hd] at h; cases h
        | some y =>
          rw [hd] at h
          simp only [Option.map_some, Option.some.injEq, Prod.mk.injEq] at h
          obtain ⟨rfl, rfl⟩ := h
          have hi := ih t y.1 y.2 (by omega) hd
          refine ⟨by omega, by simp; omega, by simp; omega, fun hb z hz => ?_⟩
          simp only [List.mem_cons] at hz
          rcases hz with rfl | hz
          · exact hb z (by simp)
          · exact hi.2.2.2 (fun z hz => hb z (by simp [hz])) z hz
def dqAt (zs acc : List Int) (k : Nat) : Option (List Int × Nat) := (dq (zs.drop k)).map fun x => (acc ++ x.1, x.2 + k)
theorem drop_at (zs : List Int) (k : Nat) (h : k < zs.length) : zs.drop k = zs.getD k 0 :: zs.drop (k + 1) := by
  rw [List.drop_eq_getElem_cons h]; simp [List.getD, h]
theorem dqAt_past (zs acc : List Int) (k : Nat) (h : zs.length ≤ k) : dqAt zs acc k = none := by
  unfold dqAt; rw [List.drop_eq_nil_of_le h]; rfl
theorem dqAt_end (zs acc : List Int) (k : Nat) (h : k < zs.length) (hc : zs.getD k 0 = 34) : dqAt zs acc k = some (acc, k + 1) := by
  unfold dqAt; rw [drop_at zs k h, hc, dq_quote]; simp [Nat.add_comm]
theorem dqAt_brk (zs acc : List Int) (k : Nat) (h : k < zs.length) (hc : zs.getD k 0 = 10 ∨ zs.getD k 0 = 13) : dqAt zs acc k = none := by
  unfold dqAt; rw [drop_at zs k h, dq_brk _ _ hc]; rfl
theorem dqAt_ne (zs acc : List Int) (k : Nat) (h : k < zs.length) (h1 : zs.getD k 0 ≠ 34) (h2 : zs.getD k 0 ≠ 10) (h3 : zs.getD k 0 ≠ 13) (h4 : zs.getD k 0 ≠ 92) : dqAt zs acc k = dqAt zs (acc ++ [zs.getD k 0]) (k + 1) := by
  unfold dqAt; rw [drop_at zs k h, dq_ne _ _ h1 h2 h3 h4]
  cases dq (zs.drop (k + 1)) with
  | none => rfl
  | some x => simp; omega
theorem dqAt_bad (zs acc : List Int) (k : Nat) (h : k < zs.length) (h1 : zs.getD k 0 = 92) (he : escF (zs.drop (k + 1)) = none) : dqAt zs acc k = none := by
  unfold dqAt; rw [drop_at zs k h, h1, dq_bad _ he]; rfl
theorem dqAt_esc (zs acc : List Int) (k : Nat) (h : k < zs.length) (h1 : zs.getD k 0 = 92) (r : Int) (m : Nat) (he : escF (zs.drop (k + 1)) = some (r, m)) : dqAt zs acc k = dqAt zs (acc ++ utfF r) (k + (1 + m)) := by
  unfold dqAt; rw [drop_at zs k h, h1, dq_esc _ r m he, List.drop_drop, show k + 1 + m = k + (1 + m) by omega]
  cases dq (zs.drop (k + (1 + m))) with
  | none => rfl
  | some x => simp; omega
def takeD (zs : List Int) : Option (List Int × Nat) := if zs.getD 0 0 = 34 then dqAt zs [] 1 else none
def tkV (o : Option (List Int × Nat)) : List Int := match o with | some x => x.1 | none => []
def tkN (o : Option (List Int × Nat)) : Nat := match o with | some x => x.2 | none => 0
set_option maxHeartbeats 1000000 in
theorem ddigit_any (c : Int) (h0 : 0 ≤ c) (h1 : c < 256) (w : World) (o : Option Int) (ho : hexD c = o) :
    Calls Tryz.prog 106 #[.int .u8 c] w fun e w' => e = .returned (.tuple #[.int .u32 (o.getD 0), .bool o.isSome]) ∧ w = w' := by
  have HO := Lib.hid ho
  clear ho
  have HD : Hid (dgt c = (decide (48 ≤ c) && decide (c ≤ 57))) := by show _ = _; rfl
  by_cases hd : 48 ≤ c ∧ c ≤ 57
  · have hv : o = some (c - 48) := by rw [← HO.out, hexD, if_pos hd]
    have hdg : dgt c = true := by unfold dgt; simp [hd]
    subst hv
    have hd1 := hd.1
    have hd2 := hd.2
    clear HO HD hd
    go_enter Tryz.func106, Tryz.ntmps106
    go_wp2_with (go_at_call 92; refine (digit_any _ _).mono ?_; rintro e w' ⟨rfl, rfl⟩)
    go_ret2
    exact ⟨by simp, rfl⟩
  · have hdg : dgt c = false := by
      unfold dgt
      rw [Bool.eq_false_iff]; intro h; simp at h; exact hd h
    by_cases hA : 65 ≤ c ∧ c ≤ 70
    · have hv : o = some (c - 55) := by rw [← HO.out, hexD, if_neg hd, if_pos hA]
      subst hv
      have hd1 := hA.1
      have hd2 := hA.2
      clear HO HD hd hA
      go_enter Tryz.func106, Tryz.ntmps106
      go_wp2_with (go_at_call 92; refine (digit_any _ _).mono ?_; rintro e w' ⟨rfl, rfl⟩)
      go_ret2
      exact ⟨by simp; omega, rfl⟩
    · have eA : (decide (65 ≤ c) && decide (c ≤ 70)) = false := by rw [Bool.eq_false_iff]; intro h; simp at h; exact hA h
      by_cases ha : 97 ≤ c ∧ c ≤ 102
      · have hv : o = some (c - 87) := by rw [← HO.out, hexD, if_neg hd, if_neg hA, if_pos ha]
        subst hv
        have hd1 := ha.1
        have hd2 := ha.2
        clear HO HD hd ha hA eA
        go_enter Tryz.func106, Tryz.ntmps106
        go_wp2_with (go_at_call 92; refine (digit_any _ _).mono ?_; rintro e w' ⟨rfl, rfl⟩)
        go_ret2
        exact ⟨by simp; omega, rfl⟩
      · have hv : o = none := by rw [← HO.out, hexD, if_neg hd, if_neg hA, if_neg ha]
        subst hv
        have hN := Lib.hid (And.intro hA ha)
        clear HO HD hd eA ha hA
        go_enter Tryz.func106, Tryz.ntmps106
        go_wp2_with (go_at_call 92; refine (digit_any _ _).mono ?_; rintro e w' ⟨rfl, rfl⟩)
        all_goals first
          | (go_ret2; exact ⟨rfl, rfl⟩)
          | (exfalso; have := hN.out; omega)
set_option maxHeartbeats 1000000 in
theorem vrune_any (r : Int) (w : World) (v : Bool) (hv : okR r = v) :
    Calls Tryz.prog 107 #[.int .i32 r] w fun e w' => e = .returned (.bool v) ∧ w = w' := by
  have HV := Lib.hid hv
  clear hv
  go_enter Tryz.func107, Tryz.ntmps107
  go_wp2
  all_goals
    go_ret
    refine ⟨ret_bool ?_, rfl⟩
    rw [← HV.out]
    unfold okR surr
    simp_all
    try omega
def retEsc (o : Option (Int × Nat)) : Ending := .returned (.tuple #[.int .i32 (match o with | some x => x.1 | none => 0), .int .i64 ((match o with | some x => (x.2 : Int) | none => 0)), .bool o.isSome])
theorem wraps_u32 (n : Int) (h₀ : 0 ≤ n) (h₁ : n < 2 ^ 32) : IntKind.u32.wrap n = n := by rw [IntKind.wrap_u32]; omega
theorem u32_or16 (x y : Int) (hx₀ : 0 ≤ x) (hx : x % 16 = 0) (hx₁ : x < 4294967296) (h₀ : 0 ≤ y) (h₁ : y < 16) : bits .or .u32 x y = x + y :=
  bits_join .u32 32 (by decide) wraps_u32 4 x y hx₀ hx hx₁ h₀ h₁ (by omega)
set_option maxHeartbeats 2000000 in
theorem numbered_any (A : Option Addr) (n cap d : Nat) (zs : List Int) (w : World) (hl : zs.length = n) (hnc : n ≤ cap) (hm : cap ≤ 9223372036854775807) (hb : Byte zs) (hr : RdB w A zs) (hd1 : 1 ≤ d) (hd8 : d ≤ 8) (o : Option (Int × Nat)) (ho : numF d zs = o) :
    Calls Tryz.prog 95 #[.slice A n cap, .int .i64 (d : Int)] w fun e w' => e = retEsc o ∧ w = w' := by
  by_cases hs : n ≤ d
  · have hv : o = none := by rw [← ho, numF, if_pos (by omega)]
    subst hv
    have d1 : (n : Int) ≤ (d : Int) := by omega
    clear hr hb ho hl
    go_enter Tryz.func95, Tryz.ntmps95
    go_wp2
    go_ret3
    exact ⟨rfl, rfl⟩
  · have hA : A = none → cap = 0 := fun h => by
      subst h
      have := hr.none_
      subst this
      simp at hl
      omega
    obtain ⟨A', hsl0, _, hrd⟩ := slice_lh A n cap 1 (1 + d) zs hl hnc hA (by omega) (by omega)
    have hrs := hrd w hr
    rw [show 1 + d - 1 = d by omega] at hsl0 hrs
    have hsl : ∀ W, (Instr.slice 35 (.slice A n cap) (some (.int .i64 1)) (some (.int .i64 (1 + (d : Int)))) none).run Tryz.prog W = .ok (.slice A' d (cap - 1)) W := hsl0
    have hlT : ((zs.drop 1).take d).length = d := by rw [List.length_take, List.length_drop]; omega
    obtain ⟨b, off, rfl, hc⟩ := hrs.addr (by omega)
    have d1 : decide ((n : Int) ≤ (d : Int)) = false := decide_eq_false (by omega)
    have d1' : decide (n ≤ d) = false := decide_eq_false (by omega)
    have HO : Hid (numO d (hexV 0 (((zs.drop 1).take d).take d)) = o) := by
      show _ = o
      rw [List.take_take, Nat.min_self, ← ho, numF, if_neg (by omega)]
    have HC : Hid (∀ k, k < d → ∃ z, ((zs.drop 1).take d)[k]? = some z ∧ 0 ≤ z ∧ z < 256 ∧ w.cell? ⟨b, off + k, none⟩ = some (.int .u8 z)) := by
      intro k hk
      have hk2 : k < ((zs.drop 1).take d).length := by omega
      have hbT : Byte ((zs.drop 1).take d) := (hb.drop 1).take d
      exact ⟨_, getD_at hk2, (hbT.at_ hk2).1, (hbT.at_ hk2).2, hc k hk2⟩
    have hdn : d < n := by omega
    clear hr hb ho hl hc hs hsl0 hrd hrs hlT hA
    generalize (zs.drop 1).take d = T at *
    go_enter Tryz.func95, Tryz.ntmps95
    go_wp2
    go_loop [4, 5, 6, 7, 21] (fun r1 r2 r3 s i => ∃ (k : Nat) (q : Int), k ≤ d ∧ i = .int .i64 k ∧ s = .int .u32 q ∧ r1 = .int .i32 0 ∧ r2 = .int .i64 0 ∧ r3 = .bool false ∧ Hid (hexV 0 (T.take k) = some q)) (fun _ _ _ _ i => d - (intOf i).toNat)
    case atStart => exact ⟨0, 0, by omega, rfl, rfl, rfl, rfl, rfl, rfl⟩
    case round =>
      obtain ⟨k, q, hk, rfl, rfl, rfl, rfl, rfl, HQ⟩ := hrel
      by_cases hlt : k < d
      · obtain ⟨z, hz, hz0, hz1, hcz⟩ := HC.out k hlt
        have hst := hexV_step T k z q hz HQ.out
        have hq0 : 0 ≤ q ∧ q < 268435456 := (hexV_lt _ q HQ.out).1 (by rw [List.length_take]; omega)
        have hq1 := hq0.1
        have hq2 := hq0.2
        clear hq0 hz
        cases hd : hexD z with
        | none =>
          have hv : o = none := by
            rw [← HO.out, hexV_stop T (k + 1) d hlt (by rw [hst, hd])]; rfl
          subst hv
          clear hst
          have HD := Lib.hid hd
          clear hd
          go_wp2_with (go_at_call 106; refine (ddigit_any _ (by omega) (by omega) _ _ HD.out).mono ?_; rintro e w' ⟨rfl, rfl⟩)
          go_ret3
          exact ⟨rfl, rfl⟩
        | some x =>
          have hx := hexD_bd hd
          have hx1 := hx.1
          have hx2 := hx.2
          rw [hd] at hst
          have HST : Hid (hexV 0 (T.take (k + 1)) = some (q * 16 + x)) := hst
          have HD := Lib.hid hd
          clear hst hd hx
          go_wp2_with (go_at_call 106; refine (ddigit_any _ (by omega) (by omega) _ _ HD.out).mono ?_; rintro e w' ⟨rfl, rfl⟩)
          go_round
          case rel => exact ⟨k + 1, q * 16 + x, by omega, by go_num, by rw [u32_or16 _ _ (by omega) (by omega) (by omega) (by omega) (by omega)], rfl, rfl, rfl, HST⟩
          case measure => simp [intOf]; omega
      · obtain rfl : k = d := by omega
        have hq0 : 0 ≤ q ∧ q < 4294967296 := (hexV_lt _ q HQ.out).2 (by rw [List.length_take]; omega)
        have HO2 : Hid ((if okR q = true then some (q, 1 + k) else none) = o) := by
          have := HO.out
          rw [HQ.out] at this
          exact this
        have hq1 := hq0.1
        have hq2 := hq0.2
        clear hq0 HO
        by_cases h31 : q < 2147483648
        · cases hok : okR q
          · have hv : o = none := by rw [← HO2.out, hok]; rfl
            subst hv
            have HOK := Lib.hid hok
            clear hok HO2
            go_wp2_with (go_at_call 107; refine (vrune_any _ _ _ HOK.out).mono ?_; rintro e w' ⟨rfl, rfl⟩)
            go_ret3
            exact ⟨rfl, rfl⟩
          · have hv : o = some (q, 1 + k) := by rw [← HO2.out, hok]; rfl
            subst hv
            have HOK := Lib.hid hok
            clear hok HO2
            go_wp2_with (go_at_call 107; refine (vrune_any _ _ _ HOK.out).mono ?_; rintro e w' ⟨rfl, rfl⟩)
            go_ret3
            exact ⟨by simp [retEsc], rfl⟩
        · have hok : okR q = false := by unfold okR; simp; omega
          have hv : o = none := by rw [← HO2.out, hok]; rfl
          subst hv
          have HOK : Hid (okR (wrap32 q) = false) := by
            show _ = _
            unfold okR wrap32; simp; omega
          clear hok HO2
          go_wp2_with fail
          refine (vrune_any (wrap32 q) _ _ HOK.out).mono ?_
          rintro e w' ⟨rfl, rfl⟩
          go_wp2_with fail
          go_ret3
          exact ⟨rfl, rfl⟩
def shC : Array Value := (shL.flatMap fun x => [Value.int .u8 x.1, .int .i32 x.2]).toArray
/-- The package variable holds its table. -/
def Shorts (w : World) : Prop := ∃ t fr, w.heap[1]? = some (.cells shC t fr)
theorem Shorts.below {w w' : World} (h : Shorts w) (hb : Below w.heap.size w w') : Shorts w' := by
  obtain ⟨t, fr, hh⟩ := h
  have hlt : 1 < w.heap.size := by
    rcases Nat.lt_or_ge 1 w.heap.size with hlt | hge
    · exact hlt
    · rw [Array.getElem?_eq_none hge] at hh; cases hh
  exact ⟨t, fr, (hb.block _ hlt).trans hh⟩
theorem shorts_at (k : Nat) (hk : k < 15) : ∃ c r, shL[k]? = some (c, r) ∧ ∀ W, (Instr.index 124 (.agg shC) (.int .i64 (k : Int))).run Tryz.prog W = .ok (.agg #[.int .u8 c, .int .i32 r]) W := by
  match k, hk with
  | 0, _ => exact ⟨48, 0, rfl, fun _ => by kernel_rfl⟩
  | 1, _ => exact ⟨97, 7, rfl, fun _ => by kernel_rfl⟩
  | 2, _ => exact ⟨98, 8, rfl, fun _ => by kernel_rfl⟩
  | 3, _ => exact ⟨116, 9, rfl, fun _ => by kernel_rfl⟩
  | 4, _ => exact ⟨110, 10, rfl, fun _ => by kernel_rfl⟩
  | 5, _ => exact ⟨118, 11, rfl, fun _ => by kernel_rfl⟩
  | 6, _ => exact ⟨102, 12, rfl, fun _ => by kernel_rfl⟩
  | 7, _ => exact ⟨114, 13, rfl, fun _ => by kernel_rfl⟩
  | 8, _ => exact ⟨101, 27, rfl, fun _ => by kernel_rfl⟩
  | 9, _ => exact ⟨34, 34, rfl, fun _ => by kernel_rfl⟩
  | 10, _ => exact ⟨92, 92, rfl, fun _ => by kernel_rfl⟩
  | 11, _ => exact ⟨78, 133, rfl, fun _ => by kernel_rfl⟩
  | 12, _ => exact ⟨95, 160, rfl, fun _ => by kernel_rfl⟩
  | 13, _ => exact ⟨76, 8232, rfl, fun _ => by kernel_rfl⟩
  | 14, _ => exact ⟨80, 8233, rfl, fun _ => by kernel_rfl⟩
  | k + 15, h => omega
/-- One look further along the table. -/
theorem find_step (p : Int × Int → Bool) (k : Nat) (x : Int × Int) (hx : shL[k]? = some x) : (shL.drop k).find? p = if p x = true then some x else (shL.drop (k + 1)).find? p := by
  obtain ⟨hlt, he⟩ := List.getElem?_eq_some_iff.1 hx
  rw [List.drop_eq_getElem_cons hlt, he, List.find?_cons]
  cases p x <;> rfl
set_option maxHeartbeats 2000000 in
theorem escaped_loop (b off : Nat) (n cap : Nat) (c : Int) (w : World) (h0 : 0 ≤ c) (h1 : c < 256) (hn : 1 ≤ n) (hS : Shorts w) (hc : w.cell? ⟨b, off, none⟩ = some (.int .u8 c))
    (n1 : c ≠ 47) (n2 : c ≠ 32) (n3 : c ≠ 120) (n4 : c ≠ 117) (n5 : c ≠ 85) (o : Option Int) (ho : escL c = o) :
    Calls Tryz.prog 78 #[.slice (some ⟨b, off, none⟩) n cap] w fun e w' => e = retEsc (o.map fun r => (r, 1)) ∧ Below w.heap.size w w' := by
  have d : (0 : Int) < (n : Int) := by omega
  have d0 : ((n : Int) == 0) = false := beq_eq_false_iff_ne.2 (by omega)
  have e1 : (c == 47) = false := beq_eq_false_iff_ne.2 n1
  have e2 : (c == 32) = false := beq_eq_false_iff_ne.2 n2
  have e3 : (c == 120) = false := beq_eq_false_iff_ne.2 n3
  have e4 : (c == 117) = false := beq_eq_false_iff_ne.2 n4
  have e5 : (c == 85) = false := beq_eq_false_iff_ne.2 n5
  obtain ⟨T, fr, hh⟩ := hS
  have HH := Lib.hid hh
  have HI : Hid ((Tryz.prog.info? 124).map (·.size) = some shC.size) := by show _ = _; kernel_rfl
  have HO : Hid (((shL.drop 0).find? (fun x => x.1 == c)).map (·.2) = o) := ho
  have HC := Lib.hid hc
  have B0 : Hid (Below w.heap.size w w) := Below.refl _ _
  have HAT := Lib.hid shorts_at
  clear ho hh n1 n2 n3 n4 n5
  generalize shC = C at *
  go_enter Tryz.func78, Tryz.ntmps78
  go_wp2_with (refine wpList_load_row rfl 124 (.global 1) rfl 1 rfl T C fr _ HH.out Tryz.underlying124 rfl HI.out ?_)
  clear hc HI
  go_loopw [2, 3, 4, 42] (fun r1 r2 r3 i W => ∃ k : Nat, k ≤ 15 ∧ i = .int .i64 (k : Int) ∧ r1 = .int .i32 0 ∧ r2 = .int .i64 0 ∧ r3 = .bool false ∧ Hid (((shL.drop k).find? (fun x => x.1 == c)).map (·.2) = o ∧ Below w.heap.size w W)) (fun _ _ _ i _ => 15 - (intOf i).toNat)
  case atStart => exact ⟨0, by omega, rfl, rfl, rfl, rfl, HO.out, B0.out⟩
  case round =>
    obtain ⟨k, hk, rfl, rfl, rfl, rfl, HK⟩ := hrel
    obtain ⟨W, hW⟩ : ∃ x, x = wr := ⟨_, rfl⟩
    subst hW
    by_cases hlt : k < 15
    · have d : (k : Int) < 15 := by omega
      obtain ⟨x, r, hx, hrun⟩ := HAT.out k hlt
      have hst := find_step (fun x => x.1 == c) k (x, r) hx
      have hcW : W.cell? ⟨b, off, none⟩ = some (.int .u8 c) := cell_keep HK.out.2 HC.out
      have HB := Lib.hid HK.out.2
      have HKO := Lib.hid HK.out.1
      clear hx HK HAT
      have ix := hrun W
      clear hrun
      have c0 : (W.alloc (.cells #[.int .u8 x, .int .i32 r] 123)).cell? ⟨W.heap.size, 0, none⟩ = some (.int .u8 x) := by rw [World.cell?_alloc_mark]; rfl
      have c1 : (W.alloc (.cells #[.int .u8 x, .int .i32 r] 123)).cell? ⟨W.heap.size, 1, none⟩ = some (.int .i32 r) := by rw [World.cell?_alloc_mark]; rfl
      have cb : (W.alloc (.cells #[.int .u8 x, .int .i32 r] 123)).cell? ⟨b, off, none⟩ = some (.int .u8 c) := cell_keep ((Below.refl _ _).alloc (Nat.le_refl _) _) hcW
      have HB2 : Hid (Below w.heap.size w (W.alloc (.cells #[.int .u8 x, .int .i32 r] 123))) := HB.out.alloc HB.out.size _
      clear hcW
      by_cases hxc : x = c
      · have hv : o = some r := by rw [← HKO.out, hst]; simp [hxc]
        subst hv
        have ex : (x == c) = true := beq_iff_eq.2 hxc
        clear hst HKO hxc
        go_wp2_with fail
        generalize W.alloc (.cells #[.int .u8 x, .int .i32 r] 123) = V at *
        generalize W.heap.size = g at *
        go_quiet (fail)
        go_wp2_with fail
        go_ret3
        exact ⟨by simp [retEsc], below_draws HB2.out _⟩
      · have HN : Hid (((shL.drop (k + 1)).find? (fun x => x.1 == c)).map (·.2) = o) := by
          show _ = o
          rw [← HKO.out, hst]; simp [hxc]
        have ex : (x == c) = false := beq_eq_false_iff_ne.2 hxc
        clear hst HKO hxc
        go_wp2_with fail
        generalize W.alloc (.cells #[.int .u8 x, .int .i32 r] 123) = V at *
        generalize W.heap.size = g at *
        go_quiet (fail)
        go_wp2_with fail
        go_roundw
        case rel => exact ⟨k + 1, by omega, by go_num, rfl, rfl, rfl, HN.out, below_draws HB2.out _⟩
        case measure => simp [intOf]; omega
    · obtain rfl : k = 15 := by omega
      have hv : o = none := by rw [← HK.out.1]; rfl
      subst hv
      go_wp2_with fail
      go_ret3
      exact ⟨rfl, HK.out.2⟩
set_option maxHeartbeats 2000000 in
theorem escaped_any (A : Option Addr) (n cap : Nat) (zs : List Int) (w : World) (hl : zs.length = n) (hnc : n ≤ cap) (hm : cap ≤ 9223372036854775807) (hb : Byte zs) (hr : RdB w A zs) (hS : Shorts w) (o : Option (Int × Nat)) (ho : escF zs = o) :
    Calls Tryz.prog 78 #[.slice A n cap] w fun e w' => e = retEsc o ∧ Below w.heap.size w w' := by
  have B0 : Hid (Below w.heap.size w w) := Below.refl _ _
  cases zs with
  | nil =>
    simp at hl
    subst hl
    have hv : o = none := by rw [← ho]; rfl
    subst hv
    clear hr hb ho hS
    go_enter Tryz.func78, Tryz.ntmps78
    go_wp2_with fail
    go_ret3
    exact ⟨rfl, B0.out⟩
  | cons c t =>
    obtain ⟨b, off, rfl, hc⟩ := hr.cons
    have h0 : w.cell? ⟨b, off, none⟩ = some (.int .u8 c) := hc 0 c rfl
    have hcb := hb c (by simp)
    have hn : 1 ≤ n := by simp at hl; omega
    have d : (0 : Int) < (n : Int) := by omega
    have d0 : ((n : Int) == 0) = false := beq_eq_false_iff_ne.2 (by omega)
    simp only [escF] at ho
    by_cases n1 : c = 47
    · subst n1
      rw [if_pos (.inl rfl)] at ho
      subst ho
      clear hr hb hS hc hl
      go_enter Tryz.func78, Tryz.ntmps78
      go_wp2_with fail
      go_ret3
      exact ⟨rfl, B0.out⟩
    by_cases n2 : c = 32
    · subst n2
      rw [if_pos (.inr rfl)] at ho
      subst ho
      clear hr hb hS hc hl
      go_enter Tryz.func78, Tryz.ntmps78
      go_wp2_with fail
      go_ret3
      exact ⟨rfl, B0.out⟩
    rw [if_neg (by omega)] at ho
    by_cases n3 : c = 120
    · subst n3
      rw [if_pos rfl] at ho
      have hN := numbered_any _ n cap 2 _ w hl hnc hm hb hr (by omega) (by omega) o ho
      obtain ⟨x, y, z, hxyz⟩ : ∃ x y z, retEsc o = .returned (.tuple #[.int .i32 x, .int .i64 y, .bool z]) := ⟨_, _, _, rfl⟩
      rw [hxyz] at hN ⊢
      have HN : Hid (Calls Tryz.prog 95 #[.slice (some ⟨b, off, none⟩) n cap, .int .i64 2] w fun e w' => e = .returned (.tuple #[.int .i32 x, .int .i64 y, .bool z]) ∧ w = w') := hN
      clear hN hxyz
      clear hr hb hS hc hl ho
      go_enter Tryz.func78, Tryz.ntmps78
      go_wp2_with (go_at_call 95; refine HN.out.mono ?_; rintro e w' ⟨rfl, rfl⟩)
      go_ret3
      exact ⟨rfl, B0.out⟩
    rw [if_neg n3] at ho
    by_cases n4 : c = 117
    · subst n4
      rw [if_pos rfl] at ho
      have hN := numbered_any _ n cap 4 _ w hl hnc hm hb hr (by omega) (by omega) o ho
      obtain ⟨x, y, z, hxyz⟩ : ∃ x y z, retEsc o = .returned (.tuple #[.int .i32 x, .int .i64 y, .bool z]) := ⟨_, _, _, rfl⟩
      rw [hxyz] at hN ⊢
      have HN : Hid (Calls Tryz.prog 95 #[.slice (some ⟨b, off, none⟩) n cap, .int .i64 4] w fun e w' => e = .returned (.tuple #[.int .i32 x, .int .i64 y, .bool z]) ∧ w = w') := hN
      clear hN hxyz
      clear hr hb hS hc hl ho
      go_enter Tryz.func78, Tryz.ntmps78
      go_wp2_with (go_at_call 95; refine HN.out.mono ?_; rintro e w' ⟨rfl, rfl⟩)
      go_ret3
      exact ⟨rfl, B0.out⟩
    rw [if_neg n4] at ho
    by_cases n5 : c = 85
    · subst n5
      rw [if_pos rfl] at ho
      have hN := numbered_any _ n cap 8 _ w hl hnc hm hb hr (by omega) (by omega) o ho
      obtain ⟨x, y, z, hxyz⟩ : ∃ x y z, retEsc o = .returned (.tuple #[.int .i32 x, .int .i64 y, .bool z]) := ⟨_, _, _, rfl⟩
      rw [hxyz] at hN ⊢
      have HN : Hid (Calls Tryz.prog 95 #[.slice (some ⟨b, off, none⟩) n cap, .int .i64 8] w fun e w' => e = .returned (.tuple #[.int .i32 x, .int .i64 y, .bool z]) ∧ w = w') := hN
      clear hN hxyz
      clear hr hb hS hc hl ho
      go_enter Tryz.func78, Tryz.ntmps78
      go_wp2_with (go_at_call 95; refine HN.out.mono ?_; rintro e w' ⟨rfl, rfl⟩)
      go_ret3
      exact ⟨rfl, B0.out⟩
    rw [if_neg n5] at ho
    have := escaped_loop b off n cap c w hcb.1 hcb.2 hn hS h0 n1 n2 n3 n4 n5 (escL c) rfl
    rw [ho] at this
    exact this
open Go Go.ChangeShapes
theorem pairs_all : ∀ (L : List (Int × Int)) (cs : List Value), cs.length = 2 * L.length → (∀ i x, L[i]? = some x → (cs.drop (i * 2)).take 2 = [.int .u8 x.1, .int .i32 x.2]) → cs = L.flatMap fun x => [Value.int .u8 x.1, .int .i32 x.2] := by
  intro L
  induction L with
  | nil => intro cs hl _; exact List.eq_nil_of_length_eq_zero (by simpa using hl)
  | cons x L ih =>
    intro cs hl h
    have h0 := h 0 x rfl
    simp only [Nat.zero_mul, List.drop_zero] at h0
    have hr := ih (cs.drop 2) (by rw [List.length_drop, hl]; simp; omega) (fun i y hy => by
      have := h (i + 1) y (by simpa using hy)
      rw [List.drop_drop]
      rw [show 2 + i * 2 = (i + 1) * 2 by omega]
      exact this)
    rw [List.flatMap_cons, ← hr, ← h0, List.take_append_drop]
section
variable {H : Type} {enc : TypeId × Value → H} {w : World} {base fuel : Nat} {sp : Nat → Bool} {held : Bool}
theorem pair_of_trod {cs : List Value} {a b : Int} {q : List MemPlace} (h : DataW.trod enc Tryz.prog w base sp held fuel 123 cs = some (.agg [.lit (.int .u8 a), .lit (.int .i32 b)], q)) : cs = [.int .u8 a, .int .i32 b] := by
  obtain ⟨y0, y1, n, hx, hl, h0, h1⟩ := trod_struct2 Tryz.underlying123 h
  have c5 : Tryz.prog.cellsOf 5 = 1 := by kernel_rfl
  have c21 : Tryz.prog.cellsOf 21 = 1 := by kernel_rfl
  have cs2 : Tryz.prog.cellsOf 123 = 2 := by kernel_rfl
  have hx0 := (Prod.mk.inj hx).1
  injection hx0 with hx0
  simp only [List.cons.injEq, and_true] at hx0
  simp only [c5, c21] at h0 h1
  obtain ⟨m0, e0, f0, _⟩ := DataW.trod_int Tryz.underlying5 h0
  obtain ⟨m1, e1, f1, _⟩ := DataW.trod_int Tryz.underlying21 h1
  rw [f0, f1] at hx0
  simp only [DataW.lit.injEq, Lit.int.injEq, true_and] at hx0
  obtain ⟨rfl, rfl⟩ := hx0
  rw [cs2] at hl
  match cs, hl with
  | [x, y], _ =>
    simp only [List.take, List.drop, List.cons.injEq, and_true] at e0 e1
    rw [e0, e1]
end
/-- One of the listed variables. -/
theorem laidVars_mem {P : Program} {w : World} {n : String} {d : DataW Unit} : ∀ (L : List (String × DataW Unit)) (ps : List MemPlace), DataW.LaidVars P w L ps → (n, d) ∈ L →
    ∃ g t cs fuel p, P.globalNamed n = some g ∧ (P.globals[g]?).map (·.type) = some t ∧ w.var? P n = some cs ∧ DataW.trod (fun _ => ()) P w 0 (fun _ => true) false fuel t cs.toList = some (d, p) := by
  intro L
  induction L with
  | nil => intro ps _ h; cases h
  | cons x L ih =>
    intro ps h hm
    obtain ⟨g, t, cs, fuel, p, q, h1, h2, h3, h4, h5, _⟩ := h
    rcases List.mem_cons.1 hm with h | h
    · subst h; exact ⟨g, t, cs, fuel, p, h1, h2, h3, h4⟩
    · exact ih q h5 h
theorem shorts_in {W : World} {L : List (String × DataW Unit)} (h : laidMetH Tryz.prog L W) (hL : (L.all fun x => x.2.handleName?.isNone) = true) (hm : ("scholium/double.shorts", Rows.laid_scholium_double_shorts) ∈ L) : Shorts W := by
  rw [MakeChecks.laidMetH_plain _ _ _ hL] at h
  obtain ⟨ps, hps, _⟩ := h
  obtain ⟨g, t, cs, fuel, p, hg, ht, hv, hd⟩ := laidVars_mem L ps hps hm
  obtain rfl := Option.some.inj ((show Tryz.prog.globalNamed "scholium/double.shorts" = some 1 by kernel_rfl).symm.trans hg)
  obtain rfl := Option.some.inj ((show (Tryz.prog.globals[1]?).map (·.type) = some 124 by kernel_rfl).symm.trans ht)
  have hlen : cs.toList.length = 2 * shL.length := by
    obtain ⟨xs, m, _, ex, hl, _, hel⟩ := DataW.trod_array Tryz.underlying124 hd
    have hc : Tryz.prog.cellsOf 124 = 30 := by kernel_rfl
    rw [hl, hc]; rfl
  have hcs : cs.toList = shL.flatMap fun x => [Value.int .u8 x.1, .int .i32 x.2] := by
    refine pairs_all shL _ hlen (fun i x hx => ?_)
    have hi : i < 15 := (List.getElem?_eq_some_iff.1 hx).1
    have hd2 : DataW.trod (fun _ => ()) Tryz.prog W 0 (fun _ => true) false fuel 124 cs.toList = some (.agg (shL.map fun x => .agg [.lit (.int .u8 x.1), .lit (.int .i32 x.2)]), p) := hd
    obtain ⟨fuel', d, q, hdi, he⟩ := Lib.array_elem Tryz.underlying124 hd2 i hi
    rw [List.getElem?_map, hx] at hdi
    simp only [Option.map_some, Option.some.injEq] at hdi
    subst hdi
    have hc : Tryz.prog.cellsOf 123 = 2 := by kernel_rfl
    rw [hc] at he
    exact pair_of_trod he
  have hcc : cs = shC := by
    apply Array.toList_inj.1
    rw [hcs]
    rfl
  unfold World.var? at hv
  rw [hg] at hv
  simp only [Option.bind_some] at hv
  split at hv
  · rename_i c t2 fr hh
    injection hv with hv
    rw [hv, hcc] at hh
    exact ⟨_, _, hh⟩
  · cases hv
theorem some_more (w W : World) (A : Option Addr) (cap p : Nat) (out : List Int) (hp : out.length = p) (hown : W.ownsRow w.heap.size 5 1 (.slice A p cap) p (out.map (Value.int .u8))) (hb : Below w.heap.size w W)
    (zs : List Int) (m : Nat) (hm : zs.length = m) (hsz : p + m ≤ 1000000000) :
    ∃ A' cap' W', (Builtin.append_ #[35, 35] 35 #[.slice A p cap, .slice (some ⟨W.heap.size, 0, none⟩) m m]).run Tryz.prog (W.alloc (.cells (cellsB zs) 5)) = .ok (.slice A' (p + m) cap') W' ∧
      p + m ≤ cap' ∧ cap' ≤ 9223372036854775807 ∧ (A' = none → cap' = 0) ∧ W'.ownsRow w.heap.size 5 1 (.slice A' (p + m) cap') (p + m) ((out ++ zs).map (Value.int .u8)) ∧ Below w.heap.size w W' := by
  have hs := hb.size
  have hbel : Below w.heap.size w (W.alloc (.cells (cellsB zs) 5)) := hb.alloc hs _
  obtain ⟨v', W', hrun, ho, hg, hv⟩ := run_append_bytes (W.alloc (.cells (cellsB zs) 5)) w.heap.size _ p out (own_alloc hown _) (by simp; omega) (some ⟨W.heap.size, 0, none⟩) m m zs hm
    (RdB.new rfl (fun k y hy => cellsB_at k y hy)) hsz
  obtain ⟨A', cap', rfl, h1, h2, h3⟩ := own_form ho
  exact ⟨A', cap', W', hrun, h1, h2, h3, ho, hbel.grown hg (by simp; omega) (own_base hown)⟩
/-- Bytes of a rune put behind bytes of our own. -/
def AppP (w : World) (p : Nat) (out : List Int) (r : Int) (e : Ending) (W' : World) : Prop :=
  ∃ A' cap', e = .returned (.slice A' (p + (utfF r).length) cap') ∧ p + (utfF r).length ≤ cap' ∧ cap' ≤ 9223372036854775807 ∧ (A' = none → cap' = 0) ∧
    W'.ownsRow w.heap.size 5 1 (.slice A' (p + (utfF r).length) cap') (p + (utfF r).length) ((out ++ utfF r).map (Value.int .u8)) ∧ Below w.heap.size w W'
theorem appP_mk {w : World} {p : Nat} {out : List Int} {r : Int} (zs : List Int) (hz : utfF r = zs) (m : Nat) (hm : zs.length = m) {A' : Option Addr} {cap' : Nat} {W' : World}
    (h : p + m ≤ cap' ∧ cap' ≤ 9223372036854775807 ∧ (A' = none → cap' = 0) ∧ W'.ownsRow w.heap.size 5 1 (.slice A' (p + m) cap') (p + m) ((out ++ zs).map (Value.int .u8)) ∧ Below w.heap.size w W') :
    AppP w p out r (.returned (.slice A' (p + m) cap')) W' := by
  subst hz hm
  exact ⟨A', cap', rfl, h⟩
set_option maxHeartbeats 2000000 in
theorem appendRune_1 (w W : World) (A : Option Addr) (cap p : Nat) (out : List Int) (hp : out.length = p) (hown : W.ownsRow w.heap.size 5 1 (.slice A p cap) p (out.map (Value.int .u8))) (hb : Below w.heap.size w W)
    (r : Int) (h1 : 0 ≤ r) (h2 : r < 128) (hsz : p + 4 ≤ 1000000000) :
    Calls Tryz.prog 79 #[.slice A p cap, .int .i32 r] W (AppP w p out r) := by
  have hu : utfF r = [r] := by unfold utfF; rw [if_pos h2]
  obtain ⟨A', cap', W', hrun, g⟩ := some_more w W A cap p out hp hown hb [r] 1 rfl (by omega)
  have HG := Lib.hid (appP_mk [r] hu 1 rfl g)
  have HRUN : Hid (∀ x, x = r → (Builtin.append_ #[35, 35] 35 #[.slice A p cap, .slice (some ⟨W.heap.size, 0, none⟩) 1 1]).run Tryz.prog (W.alloc (.cells #[.int .u8 x] 5)) = .ok (.slice A' (p + 1) cap') W') := by
    rintro x rfl; exact hrun
  have d : r ≤ 127 := by omega
  clear hown hb hp hrun g hu
  go_enter Tryz.func79, Tryz.ntmps79
  go_wp2_with (at_builtin; refine wpList_append_known rfl _ (.tmp 11) 35 rfl (.slice A p cap) (.slice (some ⟨W.heap.size, 0, none⟩) 1 1) _ _ rfl rfl (HRUN.out _ (by omega)) ?_)
  go_ret
  exact HG.out
set_option maxHeartbeats 2000000 in
theorem appendNon_any (w W : World) (A : Option Addr) (cap p : Nat) (out : List Int) (hp : out.length = p) (hown : W.ownsRow w.heap.size 5 1 (.slice A p cap) p (out.map (Value.int .u8))) (hb : Below w.heap.size w W)
    (r : Int) (h1 : 128 ≤ r) (hok : okR r = true) (hsz : p + 4 ≤ 1000000000) :
    Calls Tryz.prog 96 #[.slice A p cap, .int .i32 r] W (AppP w p out r) := by
  obtain ⟨_, hmax, hsu⟩ := okR_parts hok
  have hsu' : r < 55296 ∨ 57343 < r := by unfold surr at hsu; simp at hsu; omega
  by_cases h2 : r < 2048
  · have hu : utfF r = [192 + r / 64, 128 + r % 64] := by unfold utfF; rw [if_neg (by omega), if_pos h2]
    obtain ⟨A', cap', W', hrun, g⟩ := some_more w W A cap p out hp hown hb [192 + r / 64, 128 + r % 64] 2 rfl (by omega)
    have HG := Lib.hid (appP_mk _ hu 2 rfl g)
    have HRUN : Hid (∀ x y, x = 192 + r / 64 → y = 128 + r % 64 → (Builtin.append_ #[35, 35] 35 #[.slice A p cap, .slice (some ⟨W.heap.size, 0, none⟩) 2 2]).run Tryz.prog (W.alloc (.cells #[.int .u8 x, .int .u8 y] 5)) = .ok (.slice A' (p + 2) cap') W') := by
      rintro x y rfl rfl; exact hrun
    have d : r ≤ 2047 := by omega
    clear hown hb hp hrun g hu hok hsu hsu'
    go_enter Tryz.func96, Tryz.ntmps96
    go_wp2_with (at_builtin; refine wpList_append_known rfl _ (.tmp 23) 35 rfl (.slice A p cap) (.slice (some ⟨W.heap.size, 0, none⟩) 2 2) _ _ rfl rfl (HRUN.out _ _ (by omega) (by omega)) ?_)
    go_ret
    exact HG.out
  have d2 : decide (r ≤ 2047) = false := decide_eq_false (by omega)
  by_cases h3 : r < 65536
  · have hu : utfF r = [224 + r / 4096, 128 + r / 64 % 64, 128 + r % 64] := by unfold utfF; rw [if_neg (by omega), if_neg h2, if_pos h3]
    obtain ⟨A', cap', W', hrun, g⟩ := some_more w W A cap p out hp hown hb [224 + r / 4096, 128 + r / 64 % 64, 128 + r % 64] 3 rfl (by omega)
    have HG := Lib.hid (appP_mk _ hu 3 rfl g)
    have HRUN : Hid (∀ x y z, x = 224 + r / 4096 → y = 128 + r / 64 % 64 → z = 128 + r % 64 → (Builtin.append_ #[35, 35] 35 #[.slice A p cap, .slice (some ⟨W.heap.size, 0, none⟩) 3 3]).run Tryz.prog (W.alloc (.cells #[.int .u8 x, .int .u8 y, .int .u8 z] 5)) = .ok (.slice A' (p + 3) cap') W') := by
      rintro x y z rfl rfl rfl; exact hrun
    clear hown hb hp hrun g hu hok hsu
    rcases hsu' with hs | hs
    · go_enter Tryz.func96, Tryz.ntmps96
      go_wp2_with (at_builtin; refine wpList_append_known rfl _ (.tmp 48) 35 rfl (.slice A p cap) (.slice (some ⟨W.heap.size, 0, none⟩) 3 3) _ _ rfl rfl (HRUN.out _ _ _ (by omega) (by omega) (by omega)) ?_)
      go_ret
      exact HG.out
    · have d3 : decide (r < 55296) = false := decide_eq_false (by omega)
      have d4 : r ≤ 65535 := by omega
      go_enter Tryz.func96, Tryz.ntmps96
      go_wp2_with (at_builtin; refine wpList_append_known rfl _ (.tmp 48) 35 rfl (.slice A p cap) (.slice (some ⟨W.heap.size, 0, none⟩) 3 3) _ _ rfl rfl (HRUN.out _ _ _ (by omega) (by omega) (by omega)) ?_)
      go_ret
      exact HG.out
  · have hu : utfF r = [240 + r / 262144, 128 + r / 4096 % 64, 128 + r / 64 % 64, 128 + r % 64] := by unfold utfF; rw [if_neg (by omega), if_neg h2, if_neg h3]
    obtain ⟨A', cap', W', hrun, g⟩ := some_more w W A cap p out hp hown hb [240 + r / 262144, 128 + r / 4096 % 64, 128 + r / 64 % 64, 128 + r % 64] 4 rfl (by omega)
    have HG := Lib.hid (appP_mk _ hu 4 rfl g)
    have HRUN : Hid (∀ x y z u, x = 240 + r / 262144 → y = 128 + r / 4096 % 64 → z = 128 + r / 64 % 64 → u = 128 + r % 64 → (Builtin.append_ #[35, 35] 35 #[.slice A p cap, .slice (some ⟨W.heap.size, 0, none⟩) 4 4]).run Tryz.prog (W.alloc (.cells #[.int .u8 x, .int .u8 y, .int .u8 z, .int .u8 u] 5)) = .ok (.slice A' (p + 4) cap') W') := by
      rintro x y z u rfl rfl rfl rfl; exact hrun
    have d3 : decide (r < 55296) = false := decide_eq_false (by omega)
    have d4 : decide (r ≤ 65535) = false := decide_eq_false (by omega)
    have d5 : 65535 < r := by omega
    clear hown hb hp hrun g hu hok hsu hsu'
    go_enter Tryz.func96, Tryz.ntmps96
    go_wp2_with (at_builtin; refine wpList_append_known rfl _ (.tmp 76) 35 rfl (.slice A p cap) (.slice (some ⟨W.heap.size, 0, none⟩) 4 4) _ _ rfl rfl (HRUN.out _ _ _ _ (by omega) (by omega) (by omega) (by omega)) ?_)
    go_ret
    exact HG.out
set_option maxHeartbeats 2000000 in
theorem appendRune_any (w W : World) (A : Option Addr) (cap p : Nat) (out : List Int) (hp : out.length = p) (hown : W.ownsRow w.heap.size 5 1 (.slice A p cap) p (out.map (Value.int .u8))) (hb : Below w.heap.size w W)
    (r : Int) (hok : okR r = true) (hsz : p + 4 ≤ 1000000000) :
    Calls Tryz.prog 79 #[.slice A p cap, .int .i32 r] W (AppP w p out r) := by
  obtain ⟨h0, hmax, _⟩ := okR_parts hok
  by_cases h1 : r < 128
  · exact appendRune_1 w W A cap p out hp hown hb r h0 h1 hsz
  · have HN := Lib.hid (appendNon_any w W A cap p out hp hown hb r (by omega) hok hsz)
    have d : decide (r ≤ 127) = false := decide_eq_false (by omega)
    clear hp hown hb hok hsz
    go_enter Tryz.func79, Tryz.ntmps79
    go_wp2_with fail
    refine HN.out.mono ?_
    rintro e W' ⟨A', cap', rfl, hg⟩
    have HG := Lib.hid hg
    clear hg
    go_wp2_with fail
    go_ret
    exact ⟨A', cap', rfl, HG.out⟩
def TakeP (o : Option (List Int × Nat)) (w : World) (e : Ending) (w' : World) : Prop :=
  ∃ v : ByteArray, byt v = tkV o ∧ e = .returned (.tuple #[.string v, .int .i64 (tkN o : Int), .bool o.isSome]) ∧ Below w.heap.size w w'
set_option maxHeartbeats 4000000 in
theorem take_any (A : Option Addr) (n c : Nat) (zs : List Int) (w : World) (hl : zs.length = n) (hnc : n ≤ c) (hm : c ≤ 9223372036854775807) (hn : n ≤ 1000000) (hb : Byte zs) (hr : RdB w A zs) (hS : Shorts w) (o : Option (List Int × Nat)) (ho : takeD zs = o) :
    Calls Tryz.prog 66 #[.slice A n c] w (TakeP o w) := by
  have HL := Lib.hid hl
  have HR := Lib.hid hr
  have HY := Lib.hid hb
  have HO := Lib.hid ho
  have HS := Lib.hid hS
  by_cases hn0 : 0 < n
  · obtain ⟨b, off, rfl, hc⟩ := hr.addr (by omega)
    have c0 := hc 0 (by omega)
    rw [Nat.add_zero] at c0
    have d0 : ((n : Int) == 0) = false := beq_eq_false_iff_ne.2 (by omega)
    have d0' : (0 : Int) < (n : Int) := by omega
    by_cases h0 : zs.getD 0 0 = 34
    · have HT : Hid (dqAt zs [] 1 = o) := by show _ = _; rw [← ho, takeD, if_pos h0]
      rw [h0] at c0
      have B0 : Hid (Below w.heap.size w w) := Below.refl _ _
      clear hl hr hb ho h0 HO hc hS
      go_enter Tryz.func66, Tryz.ntmps66
      go_wp2_with fail
      clear c0
      go_loopw [2, 3, 4, 5, 6] (fun r1 r2 r3 v i W => ∃ (k p cap : Nat) (A' : Option Addr), 1 ≤ k ∧ k ≤ n ∧ p ≤ 4 * k ∧ r1 = .string ⟨#[]⟩ ∧ r2 = .int .i64 0 ∧ r3 = .bool false ∧ v = .slice A' p cap ∧ i = .int .i64 (k : Int) ∧ p ≤ cap ∧ cap ≤ 9223372036854775807 ∧
        Hid (∃ out : List Int, out.length = p ∧ Byte out ∧ dqAt zs out k = o ∧ W.ownsRow w.heap.size 5 1 (.slice A' p cap) p (out.map (Value.int .u8)) ∧ Below w.heap.size w W)) (fun _ _ _ _ i _ => n - (intOf i).toNat)
      case atStart => exact ⟨1, 0, 0, none, by omega, by omega, by omega, rfl, rfl, rfl, rfl, rfl, by omega, by omega, [], rfl, (fun z hz => by cases hz), HT.out, own_nil _ _ _ _, B0.out⟩
      case round =>
        obtain ⟨k, p, cap, A', hk1, hk, hpk, rfl, rfl, rfl, rfl, rfl, hpc, hcap, HK⟩ := hrel
        obtain ⟨W, hW⟩ : ∃ x, x = wr := ⟨_, rfl⟩
        subst hW
        obtain ⟨out, hol, hoy, hot, hown, hbel⟩ := HK.out
        have HB := Lib.hid hbel
        have HOL := Lib.hid hol
        have HOY := Lib.hid hoy
        have HOT := Lib.hid hot
        have HOWN := Lib.hid hown
        clear hol hoy hot hown hbel HK
        by_cases hlt : k < n
        · have hkz : k < zs.length := by rw [HL.out]; exact hlt
          have hrw := HR.out.below HB.out
          obtain ⟨b', off', e', hc⟩ := hrw.addr (by rw [HL.out]; omega)
          injection e' with e'
          injection e' with e1 e2
          subst e1 e2
          have ck := hc k hkz
          have d : (k : Int) < (n : Int) := by omega
          by_cases hq : zs.getD k 0 = 34
          · have hv : o = some (out, k + 1) := by rw [← HOT.out, dqAt_end zs out k hkz hq]
            have HVV := Lib.hid hv
            have hcv := run_string_rd W A' p cap out HOL.out (RdC.own HOWN.out).toB
            have HX : Hid (byt (strOfNums out) = out) := byt_strOfNums out HOY.out
            generalize strOfNums out = ys at *
            rw [hq] at ck
            clear hrw hc hq hkz hv
            go_wp2_with fail
            go_ret3
            exact ⟨ys, by rw [HVV.out]; exact HX.out, by rw [HVV.out]; simp [tkN], HB.out⟩
          have e34 : (zs.getD k 0 == 34) = false := beq_eq_false_iff_ne.2 hq
          by_cases hbr : zs.getD k 0 = 10 ∨ zs.getD k 0 = 13
          · have hv : o = none := by rw [← HOT.out, dqAt_brk zs out k hkz hbr]
            subst hv
            clear hrw hc e34 hq
            rcases hbr with hz | hz
            · rw [hz] at ck
              clear hz hkz
              go_wp2_with fail
              go_ret3
              exact ⟨⟨#[]⟩, rfl, rfl, HB.out⟩
            · rw [hz] at ck
              clear hz hkz
              go_wp2_with fail
              go_ret3
              exact ⟨⟨#[]⟩, rfl, rfl, HB.out⟩
          have h10 : zs.getD k 0 ≠ 10 := fun h => hbr (.inl h)
          have h13 : zs.getD k 0 ≠ 13 := fun h => hbr (.inr h)
          have e10 : (zs.getD k 0 == 10) = false := beq_eq_false_iff_ne.2 h10
          have e13 : (zs.getD k 0 == 13) = false := beq_eq_false_iff_ne.2 h13
          by_cases h92 : zs.getD k 0 = 92
          · rw [h92] at ck
            obtain ⟨A2, hsl, hA2, hrd⟩ := slice_lI (some ⟨b, off, none⟩) n c (k + 1) ((k : Int) + 1) (by omega) zs HL.out hnc (fun h => by cases h) (by omega)
            have hld : (zs.drop (k + 1)).length = n - (k + 1) := by rw [List.length_drop, HL.out]
            cases he : escF (zs.drop (k + 1)) with
            | none =>
              have hv : o = none := by rw [← HOT.out, dqAt_bad zs out k hkz h92 he]
              subst hv
              have HE : Hid (Calls Tryz.prog 78 #[.slice A2 (n - (k + 1)) (c - (k + 1))] W fun e w' => e = .returned (.tuple #[.int .i32 0, .int .i64 0, .bool false]) ∧ Below W.heap.size W w') :=
                escaped_any A2 (n - (k + 1)) (c - (k + 1)) (zs.drop (k + 1)) W hld (by omega) (by omega) (HY.out.drop _) (hrd W hrw) (HS.out.below HB.out) none he
              clear hrw hc e34 hq hbr h10 h13 e10 e13 h92 hrd hld he hkz
              go_wp2_with fail
              refine HE.out.mono ?_
              rintro e W2 ⟨rfl, hb2⟩
              have HB2 := Lib.hid (below_step HB.out hb2)
              clear hb2 HE
              go_wp2_with fail
              go_ret3
              exact ⟨⟨#[]⟩, rfl, rfl, HB2.out⟩
            | some x =>
              obtain ⟨r, m⟩ := x
              have hp := escF_parts he
              have hT2 := dqAt_esc zs out k hkz h92 r m he
              have HT2 : Hid (dqAt zs (out ++ utfF r) (k + (1 + m)) = o) := by show _ = _; rw [← hT2, HOT.out]
              have HE : Hid (Calls Tryz.prog 78 #[.slice A2 (n - (k + 1)) (c - (k + 1))] W fun e w' => e = .returned (.tuple #[.int .i32 r, .int .i64 (m : Int), .bool true]) ∧ Below W.heap.size W w') :=
                escaped_any A2 (n - (k + 1)) (c - (k + 1)) (zs.drop (k + 1)) W hld (by omega) (by omega) (HY.out.drop _) (hrd W hrw) (HS.out.below HB.out) (some (r, m)) he
              have HR2 := Lib.hid hp.1
              have hm1 := hp.2.1
              have hm2 : m ≤ n - (k + 1) := by rw [← hld]; exact hp.2.2
              have hul := utfF_len r
              have hul1 := hul.1
              have hul2 := hul.2
              have HUB : Hid (Byte (utfF r)) := utfF_byte hp.1
              clear hrw hc e34 hq hbr h10 h13 e10 e13 h92 hrd hld he hkz hT2 hp hul
              go_wp2_with fail
              refine HE.out.mono ?_
              rintro e W2 ⟨rfl, hb2⟩
              have HOWN2 := Lib.hid (own_below HOWN.out hb2)
              have HB2 := Lib.hid (below_step HB.out hb2)
              clear hb2 HE
              go_wp2_with fail
              refine (appendRune_any w W2 A' cap p out HOL.out HOWN2.out HB2.out r HR2.out (by omega)).mono ?_
              rintro e W3 ⟨A3, cap3, rfl, g1, g2, g3, g4, g5⟩
              have HG := Lib.hid (And.intro g4 g5)
              clear g3 g4 g5
              generalize hL : (utfF r).length = L at *
              have HLL := Lib.hid hL
              clear hL
              go_wp2_with fail
              go_roundw
              case rel => exact ⟨k + (1 + m), p + L, cap3, A3, by omega, by omega, by omega, rfl, rfl, rfl, rfl, by go_num, g1, g2, out ++ utfF r, by rw [List.length_append, HOL.out, HLL.out], HOY.out.append HUB.out, HT2.out, HG.out.1, HG.out.2⟩
              case measure => simp [intOf]; omega
          · have HT2 : Hid (dqAt zs (out ++ [zs.getD k 0]) (k + 1) = o) := by show _ = _; rw [← HOT.out, dqAt_ne zs out k hkz hq h10 h13 h92]
            have hzb := HY.out.at_ hkz
            have e92 : (zs.getD k 0 == 92) = false := beq_eq_false_iff_ne.2 h92
            clear hrw hc hbr h10 h13 h92 hq hkz
            generalize zs.getD k 0 = z at *
            obtain ⟨A2, cap2, W2, hrun, g1, g2, _, g4, g5⟩ := one_more w W A' cap p out HOL.out HOWN.out HB.out z (by omega)
            have HRUN := Lib.hid hrun
            have HG := Lib.hid (And.intro g4 g5)
            clear hrun g4 g5
            go_wp2_with (at_builtin; refine wpList_append_known rfl _ (.tmp 31) 35 rfl (.slice A' p cap) (.slice (some ⟨W.heap.size, 0, none⟩) 1 1) _ _ rfl rfl HRUN.out ?_)
            go_roundw
            case rel => exact ⟨k + 1, p + 1, cap2, A2, by omega, by omega, by omega, rfl, rfl, rfl, rfl, by go_num, g1, g2, out ++ [z], by simp [HOL.out], HOY.out.append (by intro y hy; simp at hy; subst hy; exact hzb), HT2.out, HG.out.1, HG.out.2⟩
            case measure => simp [intOf]; omega
        · have hv : o = none := by rw [← HOT.out, dqAt_past zs out k (by rw [HL.out]; omega)]
          subst hv
          have d : decide ((k : Int) < (n : Int)) = false := decide_eq_false (by omega)
          go_wp2_with fail
          go_ret3
          exact ⟨⟨#[]⟩, rfl, rfl, HB.out⟩
    · have hv : o = none := by rw [← ho, takeD, if_neg h0]
      subst hv
      have e34 : (zs.getD 0 0 == 34) = false := beq_eq_false_iff_ne.2 h0
      have B0 : Hid (Below w.heap.size w w) := Below.refl _ _
      clear hl hr hb ho h0 HO hc HL HR HY hS HS
      generalize zs.getD 0 0 = z at *
      go_enter Tryz.func66, Tryz.ntmps66
      go_wp2_with fail
      go_ret3
      exact ⟨⟨#[]⟩, rfl, rfl, B0.out⟩
  · obtain rfl : n = 0 := by omega
    have hz : zs = [] := List.eq_nil_of_length_eq_zero hl
    subst hz
    have hv : o = none := by rw [← ho]; rfl
    subst hv
    have B0 : Hid (Below w.heap.size w w) := Below.refl _ _
    clear hl hr hb ho HO HL HR HY hS HS
    go_enter Tryz.func66, Tryz.ntmps66
    go_wp2_with fail
    go_ret3
    exact ⟨⟨#[]⟩, rfl, rfl, B0.out⟩
end Go.Proofs.YtnecapmnbaemiaaGreatDoor
