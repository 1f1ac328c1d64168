/- The document's Check of a text that was put in double quotes. -/
import Derived.Test.YtgiloooandiokaaDoorDbFacts
import Derived.Test.YtgiloooandiokaaDoorCharsRef
namespace Go.Proofs.YtgiloooandiokaaDoor
open Go.RowKit
set_option linter.unusedVariables false

set_option maxHeartbeats 1000000 in
theorem refMarked_34 (b off n cap : Nat) (w : World) (hn : 1 ≤ n) (hc : w.cell? ⟨b, off, none⟩ = some (.int .u8 34)) :
    Calls Tryd.prog 31 #[.slice (some ⟨b, off, none⟩) n cap] w fun e w' => e = .returned (.bool false) ∧ w = w' := by
  have d : (0 : Int) < (n : Int) := by omega
  by_cases h3 : 3 ≤ n
  · have d3 : (3 : Int) ≤ (n : Int) := by omega
    go_enter Tryd.func31, Tryd.ntmps31
    go_wp2
    go_ret
    exact ⟨rfl, rfl⟩
  · have d3 : decide ((3 : Int) ≤ (n : Int)) = false := decide_eq_false (by omega)
    go_enter Tryd.func31, Tryd.ntmps31
    go_wp2
    go_ret
    exact ⟨rfl, rfl⟩
set_option maxHeartbeats 2000000 in
theorem refCheck_fine (A : Option Addr) (n cap : Nat) (zs : List Int) (w : World) (hl : zs.length = n) (hn1 : 1 ≤ n) (hn : n ≤ 65536) (hnc : n ≤ cap) (hm : cap ≤ 9223372036854775807) (hb : Byte zs) (hr : RdB w A zs) (h34 : zs.getD 0 0 = 34) (hf : Fine zs) :
    Calls Tryd.prog 21 #[.slice A n cap] w fun e w' => e = .returned (.tuple #[.int .i64 0, .int .i64 0]) ∧ w = w' := by
  obtain ⟨b, off, rfl, hc⟩ := hr.addr (by omega)
  have c0 := hc 0 (by omega)
  rw [Nat.add_zero, h34] at c0
  have d : decide ((65536 : Int) < (n : Int)) = false := decide_eq_false (by omega)
  have HL := Lib.hid hl
  have HB := Lib.hid hb
  have HR := Lib.hid hr
  have HM := Lib.hid (refMarked_34 b off n cap w hn1 c0)
  obtain ⟨rs, hrs, hall⟩ := hf
  have HF : Hid (∃ rs : List Int, zs.drop 0 = rs.flatMap utfF ∧ ∀ r ∈ rs, okR r = true ∧ prt r = true ∧ r ≠ 9 ∧ r ≠ 10 ∧ r ≠ 13) := ⟨rs, by rw [List.drop_zero]; exact hrs, hall⟩
  clear hl hb hr hc c0 h34 hrs hall
  go_enter Tryd.func21, Tryd.ntmps21
  go_wp2_with (go_at_call 31; refine HM.out.mono ?_; rintro e w' ⟨rfl, rfl⟩)
  go_loop [2, 3, 4] (fun r1 e a => ∃ k : Nat, k ≤ n ∧ a = .int .i64 (k : Int) ∧ e = .int .i64 0 ∧ r1 = .int .i64 0 ∧ Hid (∃ rs : List Int, zs.drop k = rs.flatMap utfF ∧ ∀ r ∈ rs, okR r = true ∧ prt r = true ∧ r ≠ 9 ∧ r ≠ 10 ∧ r ≠ 13)) (fun _ _ a => n - (intOf a).toNat)
  case atStart => exact ⟨0, by omega, rfl, rfl, rfl, HF⟩
  case round =>
    obtain ⟨k, hk, rfl, rfl, rfl, HK⟩ := hrel
    by_cases hlt : k < n
    · have dk : (k : Int) < (n : Int) := by omega
      obtain ⟨rs, hd, hall⟩ := HK.out
      have hly : (zs.drop k).length = n - k := by rw [List.length_drop, HL.out]
      match rs, hd, hall with
      | [], hd, _ => rw [hd] at hly; simp at hly; omega
      | r :: rs, hd, hall =>
        obtain ⟨g1, g2, g3, g4, g5⟩ := hall r (by simp)
        rw [List.flatMap_cons] at hd
        have hrf := runeF_utf r g1 (rs.flatMap utfF)
        rw [← hd] at hrf
        have hul := utfF_len r
        have hle : (utfF r).length ≤ n - k := by rw [← hly, hd, List.length_append]; omega
        have HN : Hid (∃ rs : List Int, zs.drop (k + (utfF r).length) = rs.flatMap utfF ∧ ∀ r ∈ rs, okR r = true ∧ prt r = true ∧ r ≠ 9 ∧ r ≠ 10 ∧ r ≠ 13) :=
          ⟨rs, by rw [← List.drop_drop, hd, List.drop_left], fun q hq => hall q (by simp [hq])⟩
        have hul1 := hul.1
        generalize (utfF r).length = j at *
        have CR := Lib.hid (refRune_at (some ⟨b, off + k, none⟩) (n - k) (cap - k) (zs.drop k) w r (j : Int) true hly (by omega) (by omega) (HB.out.drop k) (HR.out.drop k) hrf)
        have HP := Lib.hid g2
        have e13 : (r == 13) = false := beq_eq_false_iff_ne.2 g5
        clear hd hall hrf hly hul HK g1 g2 g3 g4 g5
        go_wp2_with (first | (go_at_call 29; refine CR.out.mono ?_; rintro e w' ⟨rfl, rfl⟩) | (go_at_call 30; refine (refPrt_any _ _).mono ?_; rintro e w' ⟨rfl, rfl⟩; rw [HP.out]))
        go_round
        case rel => exact ⟨k + j, by omega, by go_num, rfl, rfl, HN⟩
        case measure => simp [intOf]; omega
    · have dk : decide ((k : Int) < (n : Int)) = false := decide_eq_false (by omega)
      go_wp2
      go_ret2
      exact ⟨rfl, rfl⟩
end Go.Proofs.YtgiloooandiokaaDoor
