/- Names: the contracts of chars.Name and of the document's Letter and Name. -/
import Derived.Test.YtpmikhhnnjhiaaaChars
namespace Go.Proofs.Ytpmikhhnnjhiaaa
open Go.RowKit
set_option linter.unusedVariables false

def nameF (l : List Int) : Bool := decide (1 ≤ l.length) && decide (l.length ≤ 32) && l.all nmb
theorem nameF_len (l : List Int) (h : l.length = 0 ∨ 32 < l.length) : nameF l = false := by
  unfold nameF
  rcases h with h | h
  · rw [decide_eq_false (show ¬ 1 ≤ l.length by omega)]; rfl
  · rw [decide_eq_false (show ¬ l.length ≤ 32 by omega)]; simp
theorem byt_take (s : ByteArray) (k : Nat) (h : k < s.size) : (byt s).take (k + 1) = (byt s).take k ++ [(s[k].toNat : Int)] := by
  rw [List.take_add_one, byt_at s k h]; rfl
set_option maxHeartbeats 400000 in
theorem name_any (s : ByteArray) (w : World) (hs : s.size ≤ maxLen) :
    Calls Try.prog 28 #[.string s] w fun e w' => e = .returned (.bool (nameF (byt s))) ∧ w = w' := by
  unfold maxLen at hs
  have hl := byt_len s
  by_cases hz : s.size = 0
  · have d1 : ((s.size : Int) == 0) = true := beq_iff_eq.2 (by omega)
    have hf : nameF (byt s) = false := nameF_len _ (by omega)
    rw [hf]; clear hl hf hz
    go_enter Try.func28, Try.ntmps28
    go_wp2
    go_ret
    exact ⟨rfl, rfl⟩
  by_cases hm : 32 < s.size
  · have d1 : ((s.size : Int) == 0) = false := beq_eq_false_iff_ne.2 (by omega)
    have d2 : (32 : Int) < (s.size : Int) := by omega
    have hf : nameF (byt s) = false := nameF_len _ (by omega)
    rw [hf]; clear hl hf
    go_enter Try.func28, Try.ntmps28
    go_wp2
    go_ret
    exact ⟨rfl, rfl⟩
  have d1 : ((s.size : Int) == 0) = false := beq_eq_false_iff_ne.2 (by omega)
  have d2 : decide ((32 : Int) < (s.size : Int)) = false := decide_eq_false (by omega)
  have HF : Hid (nameF (byt s) = (byt s).all nmb) := by show nameF (byt s) = _; unfold nameF; rw [hl]; simp; intros; omega
  have hl' := Lib.hid hl
  clear hl
  go_enter Try.func28, Try.ntmps28
  go_wp2
  go_loop [14] (fun i => ∃ k : Nat, k ≤ s.size ∧ i = .int .i64 k ∧ Hid (((byt s).take k).all nmb = true)) (fun i => s.size - (intOf i).toNat)
  case atStart => exact ⟨0, Nat.zero_le _, rfl, by show (List.take 0 (byt s)).all nmb = true; simp⟩
  case round =>
    obtain ⟨k, hk, rfl, HA⟩ := hrel
    by_cases hlt : k < s.size
    · cases hn : nmb (s[k].toNat : Int)
      · have hf : nameF (byt s) = false := by
          rw [HF.out, List.all_eq_false]
          exact ⟨(s[k].toNat : Int), List.mem_of_getElem? (byt_at s k hlt), by simp [hn]⟩
        have hf' := Lib.hid hf
        clear hf
        go_wp2_with (go_at_call 37; refine (nameByte_any _ _).mono ?_; rintro e w' ⟨rfl, rfl⟩)
        go_ret
        exact ⟨ret_bool hf'.out.symm, rfl⟩
      · have ht : ((byt s).take (k + 1)).all nmb = true := by rw [byt_take s k hlt, List.all_append, HA.out]; simp [hn]
        have ht' := Lib.hid ht
        clear ht
        go_wp2_with (go_at_call 37; refine (nameByte_any _ _).mono ?_; rintro e w' ⟨rfl, rfl⟩)
        go_round
        case rel => exact ⟨k + 1, by omega, by go_num, ht'⟩
        case measure => simp [intOf]; omega
    · have hf : nameF (byt s) = true := by
        rw [HF.out, ← HA.out, List.take_of_length_le (by rw [hl'.out]; omega)]
      have hf' := Lib.hid hf
      clear hf
      go_wp2
      go_ret
      exact ⟨ret_bool hf'.out.symm, rfl⟩
set_option maxHeartbeats 1000000 in
theorem letter_any (c : Int) (w : World) :
    Calls Try.prog 31 #[.int .u8 c] w fun e w' => e = .returned (.bool (nmb c)) ∧ w = w' := by
  go_enter Try.func31, Try.ntmps31
  go_wp2
  all_goals
    go_ret
    refine ⟨ret_bool (bool_iff ?_), rfl⟩
    simp only [nmb, dgt]
    simp_all
    try omega
set_option maxHeartbeats 1000000 in
theorem refName_any (s : ByteArray) (w : World) (hs : s.size ≤ maxLen) :
    Calls Try.prog 30 #[.string s] w fun e w' => e = .returned (.bool (nameF (byt s))) ∧ w = w' := by
  unfold maxLen at hs
  have hl := byt_len s
  have hl' := Lib.hid hl
  clear hl
  go_enter Try.func30, Try.ntmps30
  go_wp2
  go_loop [3] (fun i => ∃ k : Nat, k ≤ s.size ∧ i = .int .i64 k ∧ Hid (((byt s).take k).all nmb = true)) (fun i => s.size - (intOf i).toNat)
  case atStart => exact ⟨0, Nat.zero_le _, rfl, by show (List.take 0 (byt s)).all nmb = true; simp⟩
  case round =>
    obtain ⟨k, hk, rfl, HA⟩ := hrel
    by_cases hlt : k < s.size
    · cases hn : nmb (s[k].toNat : Int)
      · have hf : nameF (byt s) = false := by
          have : (byt s).all nmb = false := by
            rw [List.all_eq_false]
            exact ⟨(s[k].toNat : Int), List.mem_of_getElem? (byt_at s k hlt), by simp [hn]⟩
          unfold nameF; rw [this]; simp
        have hf' := Lib.hid hf
        clear hf
        go_wp2_with (go_at_call 31; refine (letter_any _ _).mono ?_; rintro e w' ⟨rfl, rfl⟩)
        go_ret
        exact ⟨ret_bool hf'.out.symm, rfl⟩
      · have ht : ((byt s).take (k + 1)).all nmb = true := by rw [byt_take s k hlt, List.all_append, HA.out]; simp [hn]
        have ht' := Lib.hid ht
        clear ht
        go_wp2_with (go_at_call 31; refine (letter_any _ _).mono ?_; rintro e w' ⟨rfl, rfl⟩)
        go_round
        case rel => exact ⟨k + 1, by omega, by go_num, ht'⟩
        case measure => simp [intOf]; omega
    · have hf : nameF (byt s) = (decide (1 ≤ s.size) && decide (s.size ≤ 32)) := by
        have : (byt s).all nmb = true := by
          rw [← HA.out, List.take_of_length_le (by rw [hl'.out]; omega)]
        unfold nameF; rw [this, hl'.out]; simp
      have hf' := Lib.hid hf
      clear hf
      by_cases h1 : 1 ≤ s.size
      · have d1 : (1 : Int) ≤ (s.size : Int) := by omega
        go_wp2
        go_ret
        refine ⟨ret_bool (bool_iff ?_), rfl⟩
        rw [hf'.out]
        simp only [Bool.and_eq_true, decide_eq_true_eq]
        omega
      · have d1 : decide ((1 : Int) ≤ (s.size : Int)) = false := decide_eq_false (by omega)
        have hf2 : nameF (byt s) = false := by rw [hf'.out, decide_eq_false h1]; rfl
        have hf3 := Lib.hid hf2
        clear hf2
        go_wp2
        go_ret
        exact ⟨ret_bool hf3.out.symm, rfl⟩
end Go.Proofs.Ytpmikhhnnjhiaaa
