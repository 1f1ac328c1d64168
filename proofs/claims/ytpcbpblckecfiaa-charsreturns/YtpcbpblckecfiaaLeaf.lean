/- Contracts of the small functions (no memory is touched). -/
import Derived.Test.YtpcbpblckecfiaaRows
import Derived.Test.YtpcbpblckecfiaaPure
import Derived.WalkKit
import Derived.WalkSpells
import Derived.WalkLawsBesides
import Derived.Lib.Hide
namespace Go.Proofs.Ytpcbpblckecfiaa
open Go.RowKit
set_option linter.unusedVariables false

theorem ret_bool {a b : Bool} (h : a = b) : Ending.returned (.bool a) = .returned (.bool b) := by rw [h]
theorem ret_int {k : IntKind} {a b : Int} (h : a = b) : Ending.returned (.int k a) = .returned (.int k b) := by rw [h]

set_option maxHeartbeats 400000 in
theorem lead_any (c : Int) (h0 : 0 ≤ c) (h1 : c < 256) (w : World) :
    Calls Try.prog 28 #[.int .u8 c] w fun e w' => e = .returned (.tuple #[.int .i32 (ldR c), .int .i64 (ldN c), .int .i32 (ldL c)]) ∧ w = w' := by
  have H := Lib.hid (and_at c h0 h1)
  go_enter Try.func28, Try.ntmps28
  go_wp2
  all_goals
    go_ret3
    refine ⟨?_, rfl⟩
    obtain ⟨e1, e2, e3, e4, _⟩ := H.out
    simp only [e1, e2, e3, e4] at *
    unfold ldR ldN ldL
    simp at *
    repeat' split
    all_goals (first | omega | (simp; omega) | simp)

set_option maxHeartbeats 400000 in
theorem surr_any (r : Int) (w : World) :
    Calls Try.prog 27 #[.int .i32 r] w fun e w' => e = .returned (.bool (surr r)) ∧ w = w' := by
  unfold surr
  go_enter Try.func27, Try.ntmps27
  go_wp2
  all_goals (go_ret; refine ⟨ret_bool ?_, rfl⟩; simp_all; try omega)

set_option maxHeartbeats 400000 in
theorem digit_any (c : Int) (w : World) :
    Calls Try.prog 17 #[.int .u8 c] w fun e w' => e = .returned (.bool (dgt c)) ∧ w = w' := by
  unfold dgt
  go_enter Try.func17, Try.ntmps17
  go_wp2
  all_goals (go_ret; refine ⟨ret_bool ?_, rfl⟩; simp_all; try omega)

set_option maxHeartbeats 400000 in
theorem space_any (c : Int) (w : World) :
    Calls Try.prog 16 #[.int .u8 c] w fun e w' => e = .returned (.bool (spc c)) ∧ w = w' := by
  unfold spc
  go_enter Try.func16, Try.ntmps16
  go_wp2
  all_goals (go_ret; exact ⟨rfl, rfl⟩)

set_option maxHeartbeats 400000 in
theorem prt_any (r : Int) (w : World) :
    Calls Try.prog 12 #[.int .i32 r] w fun e w' => e = .returned (.bool (prt r)) ∧ w = w' := by
  go_enter Try.func12, Try.ntmps12
  go_wp2_with (go_at_call 27; refine (surr_any _ _).mono ?_; rintro e w' ⟨rfl, rfl⟩)
  all_goals
    go_ret
    refine ⟨ret_bool ?_, rfl⟩
    simp only [prt]
    simp at *
    repeat' split
    all_goals (first | rfl | omega | (simp_all; done) | (simp_all; omega))

theorem bool_iff {a b : Bool} (h : a = true ↔ b = true) : a = b := by rwa [Bool.eq_iff_iff]

set_option maxHeartbeats 400000 in
theorem nameByte_any (c : Int) (w : World) :
    Calls Try.prog 31 #[.int .u8 c] w fun e w' => e = .returned (.bool (nmb c)) ∧ w = w' := by
  go_enter Try.func31, Try.ntmps31
  go_wp2_with (go_at_call 17; refine (digit_any _ _).mono ?_; rintro e w' ⟨rfl, rfl⟩)
  all_goals
    go_ret
    refine ⟨ret_bool (bool_iff ?_), rfl⟩
    simp only [nmb]
    simp_all
    try omega

theorem tmod_pos (v n : Int) (hn : 1 ≤ n) : (v.tmod n < 0 → v.tmod n + n = v % n) ∧ (0 ≤ v.tmod n → v.tmod n = v % n) := by
  have h := Int.tmod_eq_emod (a := v) (b := n)
  have h1 := Int.emod_nonneg v (show n ≠ 0 by omega)
  have h2 := Int.emod_lt_of_pos v (show 0 < n by omega)
  rw [h]
  split <;> omega

set_option maxHeartbeats 400000 in
theorem within_any (v n : Int) (w : World) (h1 : 1 ≤ n) (h2 : n ≤ 2000000000) (hv : -9223372036854775808 ≤ v ∧ v ≤ 9223372036854775807) :
    Calls Try.prog 11 #[.int .i64 v, .int .i64 n] w fun e w' => e = .returned (.int .i64 (v % n)) ∧ w = w' := by
  have H := Lib.hid (tmod_pos v n h1)
  have hm1 := Int.emod_nonneg v (show n ≠ 0 by omega)
  have hm2 := Int.emod_lt_of_pos v (show 0 < n by omega)
  go_enter Try.func11, Try.ntmps11
  go_wp2
  · go_ret
    have h := H.out.1 (by assumption)
    refine ⟨ret_int ?_, rfl⟩
    rw [h, IntWalk.wrap64_in _ (by omega)]
  · go_ret
    exact ⟨ret_int (H.out.2 (by assumption)), rfl⟩

def nameF (l : List Int) : Bool := decide (1 ≤ l.length) && decide (l.length ≤ 32) && l.all nmb
theorem nameF_len (l : List Int) (h : l.length = 0 ∨ 32 < l.length) : nameF l = false := by
  unfold nameF
  rcases h with h | h
  · rw [decide_eq_false (show ¬ 1 ≤ l.length by omega)]; rfl
  · rw [decide_eq_false (show ¬ l.length ≤ 32 by omega)]; simp
def byt (s : ByteArray) : List Int := s.data.toList.map fun c => (c.toNat : Int)
theorem byt_len (s : ByteArray) : (byt s).length = s.size := by simp [byt]
theorem byt_at (s : ByteArray) (k : Nat) (h : k < s.size) : (byt s)[k]? = some (s[k].toNat : Int) := by
  simp [byt]; exact ⟨s[k], by rw [Array.getElem?_eq_getElem (by simpa using h)]; rfl, rfl⟩
theorem byt_take (s : ByteArray) (k : Nat) (h : k < s.size) : (byt s).take (k + 1) = (byt s).take k ++ [(s[k].toNat : Int)] := by
  rw [List.take_add_one, byt_at s k h]; rfl
theorem byt_byte (s : ByteArray) : ∀ z ∈ byt s, 0 ≤ z ∧ z < 256 := by
  intro z hz; simp [byt] at hz; obtain ⟨c, _, rfl⟩ := hz; have := c.toNat_lt; omega

set_option maxHeartbeats 400000 in
theorem name_any (s : ByteArray) (w : World) (hs : s.size ≤ maxLen) :
    Calls Try.prog 19 #[.string s] w fun e w' => e = .returned (.bool (nameF (byt s))) ∧ w = w' := by
  unfold maxLen at hs
  have hl := byt_len s
  by_cases hz : s.size = 0
  · have d1 : ((s.size : Int) == 0) = true := beq_iff_eq.2 (by omega)
    have hf : nameF (byt s) = false := nameF_len _ (by omega)
    rw [hf]; clear hl hf hz
    go_enter Try.func19, Try.ntmps19
    go_wp2
    go_ret
    exact ⟨rfl, rfl⟩
  by_cases hm : 32 < s.size
  · have d1 : ((s.size : Int) == 0) = false := beq_eq_false_iff_ne.2 (by omega)
    have d2 : (32 : Int) < (s.size : Int) := by omega
    have hf : nameF (byt s) = false := nameF_len _ (by omega)
    rw [hf]; clear hl hf
    go_enter Try.func19, Try.ntmps19
    go_wp2
    go_ret
    exact ⟨rfl, rfl⟩
  have d1 : ((s.size : Int) == 0) = false := beq_eq_false_iff_ne.2 (by omega)
  have d2 : decide ((32 : Int) < (s.size : Int)) = false := decide_eq_false (by omega)
  have HF : Hid (nameF (byt s) = (byt s).all nmb) := by show nameF (byt s) = _; unfold nameF; rw [hl]; simp; intros; omega
  have hl' := Lib.hid hl
  clear hl
  go_enter Try.func19, Try.ntmps19
  go_wp2
  go_loop [14] (fun i => ∃ k : Nat, k ≤ s.size ∧ i = .int .i64 k ∧ Hid (((byt s).take k).all nmb = true)) (fun i => s.size - (intOf i).toNat)
  case atStart => exact ⟨0, Nat.zero_le _, rfl, by show (List.take 0 (byt s)).all nmb = true; simp⟩
  case round =>
    obtain ⟨k, hk, rfl, HA⟩ := hrel
    by_cases hlt : k < s.size
    · cases hn : nmb (s[k].toNat : Int)
      · have hf : nameF (byt s) = false := by
          rw [HF.out, List.all_eq_false]
          exact ⟨(s[k].toNat : Int), List.mem_of_getElem? (byt_at s k hlt), by simp [hn]⟩
        have hf' := Lib.hid hf
        clear hf
        go_wp2_with (go_at_call 31; refine (nameByte_any _ _).mono ?_; rintro e w' ⟨rfl, rfl⟩)
        go_ret
        exact ⟨ret_bool hf'.out.symm, rfl⟩
      · have ht : ((byt s).take (k + 1)).all nmb = true := by rw [byt_take s k hlt, List.all_append, HA.out]; simp [hn]
        have ht' := Lib.hid ht
        clear ht
        go_wp2_with (go_at_call 31; refine (nameByte_any _ _).mono ?_; rintro e w' ⟨rfl, rfl⟩)
        go_round
        case rel => exact ⟨k + 1, by omega, by go_num, ht'⟩
        case measure => simp [intOf]; omega
    · have hf : nameF (byt s) = true := by
        rw [HF.out, ← HA.out, List.take_of_length_le (by rw [hl'.out]; omega)]
      have hf' := Lib.hid hf
      clear hf
      go_wp2
      go_ret
      exact ⟨ret_bool hf'.out.symm, rfl⟩

def TextP (n : Nat) (w : World) (e : Ending) (w' : World) : Prop := ∃ t : ByteArray, t.size ≤ n ∧ e = .returned (.string t) ∧ w = w'

set_option maxHeartbeats 400000 in
theorem text_any (s : ByteArray) (n : Nat) (w : World) (hn : n ≤ 1000000) (hs : s.size ≤ maxLen) :
    Calls Try.prog 15 #[.string s, .int .i64 n] w (TextP n w) := by
  unfold maxLen at hs
  go_enter Try.func15, Try.ntmps15
  go_wp2
  · go_ret
    exact ⟨s.extract 0 n, by simp [ByteArray.size_extract]; omega, rfl, rfl⟩
  · go_ret
    exact ⟨s, by omega, rfl, rfl⟩
end Go.Proofs.Ytpcbpblckecfiaa
