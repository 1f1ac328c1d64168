/- The contracts of package scholiumkeep's plain helps: Within, Text, Copy and Cut of bytes, Lend, Intact. -/
import Derived.Test.YtdjpdcjljpmfnaaDoorBase
namespace Go.Proofs.YtdjpdcjljpmfnaaDoor
open Go.RowKit
set_option linter.unusedVariables false

theorem tmod_pos (v n : Int) (hn : 1 ≤ n) : (v.tmod n < 0 → v.tmod n + n = v % n) ∧ (0 ≤ v.tmod n → v.tmod n = v % n) := by
  have h := Int.tmod_eq_emod (a := v) (b := n)
  have h1 := Int.emod_nonneg v (show n ≠ 0 by omega)
  have h2 := Int.emod_lt_of_pos v (show 0 < n by omega)
  rw [h]
  split <;> omega

set_option maxHeartbeats 400000 in
theorem within_any (v n : Int) (w : World) (h1 : 1 ≤ n) (h2 : n ≤ 2000000000) (hv : -9223372036854775808 ≤ v ∧ v ≤ 9223372036854775807) :
    Calls Tryd.prog 9 #[.int .i64 v, .int .i64 n] w fun e w' => e = .returned (.int .i64 (v % n)) ∧ w = w' := by
  have H := Lib.hid (tmod_pos v n h1)
  have hm1 := Int.emod_nonneg v (show n ≠ 0 by omega)
  have hm2 := Int.emod_lt_of_pos v (show 0 < n by omega)
  go_enter Tryd.func9, Tryd.ntmps9
  go_wp2
  · go_ret
    have h := H.out.1 (by assumption)
    refine ⟨ret_int ?_, rfl⟩
    rw [h, IntWalk.wrap64_in _ (by omega)]
  · go_ret
    exact ⟨ret_int (H.out.2 (by assumption)), rfl⟩
/-- Within, as a natural number. -/
def WithinP (n : Nat) (w : World) (e : Ending) (w' : World) : Prop := ∃ k : Nat, k < n ∧ e = .returned (.int .i64 (k : Int)) ∧ w = w'
theorem within_nat (v : Int) (n : Nat) (w : World) (h1 : 1 ≤ n) (h2 : n ≤ 2000000000) (hv : -9223372036854775808 ≤ v ∧ v ≤ 9223372036854775807) :
    Calls Tryd.prog 9 #[.int .i64 v, .int .i64 (n : Int)] w (WithinP n w) := by
  refine (within_any v n w (by omega) (by omega) hv).mono ?_
  rintro e w' ⟨rfl, rfl⟩
  have hm1 := Int.emod_nonneg v (show (n : Int) ≠ 0 by omega)
  have hm2 := Int.emod_lt_of_pos v (show (0 : Int) < n by omega)
  exact ⟨(v % n).toNat, by omega, ret_int (by omega), rfl⟩

/-- A text's beginning, at most n bytes. -/
def TextP (n : Nat) (s : ByteArray) (w : World) (e : Ending) (w' : World) : Prop := ∃ t : ByteArray, byt t = (byt s).take n ∧ t.size ≤ n ∧ e = .returned (.string t) ∧ w = w'
set_option maxHeartbeats 400000 in
theorem text_any (s : ByteArray) (n : Nat) (w : World) (hn : n ≤ 1000000) (hs : s.size ≤ maxLen) :
    Calls Tryd.prog 6 #[.string s, .int .i64 n] w (TextP n s w) := by
  unfold maxLen at hs
  go_enter Tryd.func6, Tryd.ntmps6
  go_wp2
  · go_ret
    exact ⟨s.extract 0 n, by rw [byt_extract]; simp, by simp [ByteArray.size_extract]; omega, rfl, rfl⟩
  · go_ret
    exact ⟨s, by rw [List.take_of_length_le (by rw [byt_len]; omega)], by omega, rfl, rfl⟩




end Go.Proofs.YtdjpdcjljpmfnaaDoor
