/- The contracts of package chars' plain calls: lead, surrogate, Space, Digit, Printable, nameByte, Rune. -/
import Derived.Test.YtpmikhhnnjhiaaaBase
import Derived.Test.YtpmikhhnnjhiaaaCharsPure
namespace Go.Proofs.Ytpmikhhnnjhiaaa
open Go.RowKit
set_option linter.unusedVariables false

set_option maxHeartbeats 400000 in
theorem digit_any (c : Int) (w : World) :
    Calls Try.prog 42 #[.int .u8 c] w fun e w' => e = .returned (.bool (dgt c)) ∧ w = w' := by
  unfold dgt
  go_enter Try.func42, Try.ntmps42
  go_wp2
  all_goals (go_ret; refine ⟨ret_bool ?_, rfl⟩; simp_all; try omega)
set_option maxHeartbeats 400000 in
theorem space_any (c : Int) (w : World) :
    Calls Try.prog 34 #[.int .u8 c] w fun e w' => e = .returned (.bool (spc c)) ∧ w = w' := by
  unfold spc
  go_enter Try.func34, Try.ntmps34
  go_wp2
  all_goals (go_ret; exact ⟨rfl, rfl⟩)
set_option maxHeartbeats 400000 in
theorem nameByte_any (c : Int) (w : World) :
    Calls Try.prog 37 #[.int .u8 c] w fun e w' => e = .returned (.bool (nmb c)) ∧ w = w' := by
  go_enter Try.func37, Try.ntmps37
  go_wp2_with (go_at_call 42; refine (digit_any _ _).mono ?_; rintro e w' ⟨rfl, rfl⟩)
  all_goals
    go_ret
    refine ⟨ret_bool (bool_iff ?_), rfl⟩
    simp only [nmb]
    simp_all
    try omega
theorem RdB.cons {w : World} {A : Option Addr} {c : Int} {t : List Int} (h : RdB w A (c :: t)) :
    ∃ b off, A = some ⟨b, off, none⟩ ∧ ∀ k z, (c :: t)[k]? = some z → w.cell? ⟨b, off + k, none⟩ = some (.int .u8 z) := by
  obtain ⟨b, off, rfl, _⟩ := h 0 c rfl
  refine ⟨b, off, rfl, fun k z hz => ?_⟩
  obtain ⟨b', off', e, hc⟩ := h k z hz
  injection e with e
  injection e with e1 e2
  subst e1 e2
  exact hc

theorem runeF_short (c : Int) (t : List Int) (h : ldN c = 0 ∨ ((c :: t).length : Int) < ldN c) : runeF (c :: t) = (0, 1, false) := by
  simp only [runeF]; rw [if_pos h]
theorem runeF_none (c : Int) (t : List Int) (h1 : 1 ≤ ldN c) (h2 : ldN c ≤ ((c :: t).length : Int)) (h : accR (ldR c) (t.take (ldN c - 1).toNat) = none) : runeF (c :: t) = (0, 1, false) := by
  simp only [runeF]; rw [if_neg (by omega), h]
theorem runeF_bad (c : Int) (t : List Int) (h1 : 1 ≤ ldN c) (h2 : ldN c ≤ ((c :: t).length : Int)) (r : Int) (h : accR (ldR c) (t.take (ldN c - 1).toNat) = some r) (hb : r < ldL c ∨ 1114111 < r ∨ surr r = true) : runeF (c :: t) = (0, 1, false) := by
  simp only [runeF]; rw [if_neg (by omega), h]; simp only []; rw [if_pos hb]
theorem runeF_good (c : Int) (t : List Int) (h1 : 1 ≤ ldN c) (h2 : ldN c ≤ ((c :: t).length : Int)) (r : Int) (h : accR (ldR c) (t.take (ldN c - 1).toNat) = some r) (hb : ¬ (r < ldL c ∨ 1114111 < r ∨ surr r = true)) : runeF (c :: t) = (r, ldN c, true) := by
  simp only [runeF]; rw [if_neg (by omega), h]; simp only []; rw [if_neg hb]

def retRune (p : Int × Int × Bool) : Ending := .returned (.tuple #[.int .i32 p.1, .int .i64 p.2.1, .bool p.2.2])

theorem acc_step (c0 : Int) (h0 : 0 ≤ c0) (t : List Int) (k : Nat) (z R : Int) (hz : t[k]? = some z) (hR : accR (ldR c0) (t.take k) = some R) :
    accR (ldR c0) (t.take (k + 1)) = if cont z then some (R * 64 + z % 64) else none := by
  rw [List.take_add_one, hz]
  simp only [Option.toList_some, accR_snoc, hR]

theorem acc_stop (c0 : Int) (t : List Int) (k m : Nat) (hk : k ≤ m) (h : accR (ldR c0) (t.take k) = none) : accR (ldR c0) (t.take m) = none := by
  have e : t.take m = t.take k ++ (t.drop k).take (m - k) := by
    rw [show m = k + (m - k) by omega, List.take_add]; simp
  rw [e]; exact accR_none _ _ _ h

theorem runeF_n (zs : List Int) (h : zs ≠ []) : 1 ≤ (runeF zs).2.1 ∧ (runeF zs).2.1 ≤ zs.length ∧ (runeF zs).2.1 ≤ 4 := by
  cases zs with
  | nil => exact absurd rfl h
  | cons c t =>
    have h4 : ldN c ≤ 4 := by rcases ldN_cases c with e | e | e | e | e <;> omega
    have h0 : ldN c ≠ 0 → 1 ≤ ldN c := by rcases ldN_cases c with e | e | e | e | e <;> omega
    simp only [runeF]
    split
    · simp; omega
    · rename_i hs
      split
      · simp; omega
      · split
        · simp; omega
        · refine ⟨?_, ?_, ?_⟩ <;> simp only [] <;> omega

theorem runeF_ascii (c : Int) (t : List Int) (h0 : 0 ≤ c) (h : c < 128) : runeF (c :: t) = (c, 1, true) := by
  have hN : ldN c = 1 := by unfold ldN; rw [if_pos h]
  have := runeF_good c t (by omega) (by simp; omega) c (by rw [hN]; simp [accR, ldR, h]) (by
    have hL : ldL c = 0 := by unfold ldL; rw [if_pos h]
    have hs : surr c = false := by unfold surr; rw [decide_eq_false (by omega)]; rfl
    rw [hL, hs]; simp; omega)
  rw [this, hN]

end Go.Proofs.Ytpmikhhnnjhiaaa
