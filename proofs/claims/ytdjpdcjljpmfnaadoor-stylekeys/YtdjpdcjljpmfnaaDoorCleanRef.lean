/- The document's answer 'clean': is a text runes that are all printable, without breaks (and tabs, or not)? -/
import Derived.Test.YtdjpdcjljpmfnaaDoorClean
import Derived.Test.YtdjpdcjljpmfnaaDoorBytes
namespace Go.Proofs.YtdjpdcjljpmfnaaDoor
open Go.RowKit
set_option linter.unusedVariables false

set_option maxHeartbeats 2000000 in
theorem clean_any (s : ByteArray) (tabs : Bool) (w : World) (hs : s.size ≤ 1000000) (v : Bool) (hv : inF tabs s.size (byt s) = v) :
    Calls Tryd.prog 37 #[.string s, .bool tabs] w fun e w' => e = .returned (.bool v) ∧ Below w.heap.size w w' := by
  obtain ⟨cap, W, hby⟩ := bytes_of s (by omega) w
  obtain ⟨hrun, hle, hmax, hrd, hbel⟩ := hby
  have HV := Lib.hid hv
  have HL : Hid ((byt s).length = s.size) := byt_len s
  have HY := Lib.hid (byt_byte s)
  have HR := Lib.hid hrd
  have HB := Lib.hid hbel
  clear hv hrd hbel
  generalize hzs : byt s = zs at *
  clear hzs
  generalize s.size = n at *
  go_enter Tryd.func37, Tryd.ntmps37
  go_wp2
  clear hrun
  go_loop [4, 5] (fun r s => ∃ (k m cc : Nat) (A' : Option Addr), k + m = n ∧ k + cc = cap ∧ s = .slice A' m cc ∧ r = .bool false ∧ Hid (inF tabs n (zs.drop k) = v ∧ RdB W A' (zs.drop k) ∧ (A' = none → cc = 0))) (fun _ s => lenV s)
  case atStart => exact ⟨0, n, cap, _, by omega, by omega, rfl, rfl, by simpa using HV.out, by simpa using HR.out, fun h => by cases h⟩
  case round =>
    obtain ⟨k, m, cc, A', hkm, hkc, rfl, rfl, HK⟩ := hrel
    have hmc : m ≤ cc := by omega
    have hcc : cc ≤ 9223372036854775807 := by omega
    have HKM := Lib.hid (And.intro hkm hkc)
    have hkn : k ≤ n := by omega
    clear hkm hkc
    by_cases h0 : 0 < m
    · have hd : (0 : Int) < (m : Int) := by omega
      obtain ⟨r, j, ok, hrf, hj1, hj2, hbad, hgood⟩ := in_round tabs n k zs HL.out (by have := HKM.out; omega)
      have hly : (zs.drop k).length = m := by have := HKM.out; rw [List.length_drop, HL.out]; omega
      have hjm : j ≤ m := by have := HKM.out; omega
      have CR := Lib.hid (refRune_at A' m cc (zs.drop k) W r (j : Int) ok hly hmc hcc (HY.out.drop k) HK.out.2.1 hrf)
      obtain ⟨A2, hsl, hA2, hrd⟩ := slice_lI A' m cc j (j : Int) rfl (zs.drop k) hly hmc HK.out.2.2 hjm
      have hr2 := hrd W HK.out.2.1
      rw [List.drop_drop] at hr2
      rw [HK.out.1] at hbad hgood
      have HBAD := Lib.hid hbad
      have HGOOD := Lib.hid hgood
      have H2 := Lib.hid (And.intro hr2 hA2)
      clear hbad hgood hr2 hA2 hrd hrf hly HK
      have ways : ok = false ∨ (ok = true ∧ prt r = false) ∨ (ok = true ∧ prt r = true ∧ r = 9 ∧ tabs = false) ∨ (ok = true ∧ prt r = true ∧ r = 10) ∨ (ok = true ∧ prt r = true ∧ r = 13) ∨
          (ok = true ∧ prt r = true ∧ r = 9 ∧ tabs = true) ∨ (ok = true ∧ prt r = true ∧ (r == 9) = false ∧ (r == 10) = false ∧ (r == 13) = false) := by
        rcases in_ways ok r with h | h | ⟨h1, h2, h3⟩ | h | h | h
        · exact .inl h
        · exact .inr (.inl h)
        · cases tabs
          · exact .inr (.inr (.inl ⟨h1, h2, h3, rfl⟩))
          · exact .inr (.inr (.inr (.inr (.inr (.inl ⟨h1, h2, h3, rfl⟩)))))
        · exact .inr (.inr (.inr (.inl h)))
        · exact .inr (.inr (.inr (.inr (.inl h))))
        · exact .inr (.inr (.inr (.inr (.inr (.inr h)))))
      rcases ways with rfl | ⟨rfl, hp⟩ | ⟨rfl, hp, rfl, rfl⟩ | ⟨rfl, hp, rfl⟩ | ⟨rfl, hp, rfl⟩ | ⟨rfl, hp, rfl, rfl⟩ | ⟨rfl, hp, h9, h10, h13⟩
      case inr.inr.inr.inr.inr.inr =>
        have hf := HGOOD.out (by simp [hp, h9, h10, h13])
        have HF := Lib.hid hf
        clear hf HGOOD HBAD
        go_wp2_with (first | (go_at_call 39; refine CR.out.mono ?_; rintro e w' ⟨rfl, rfl⟩) | (go_at_call 41; refine (refPrt_any _ _).mono ?_; rintro e w' ⟨rfl, rfl⟩))
        go_round
        case rel => exact ⟨k + j, m - j, cc - j, A2, by have := HKM.out; omega, by have := HKM.out; omega, rfl, rfl, HF.out.symm, H2.out.1, H2.out.2⟩
        case measure => simp [lenV]; omega
      case inr.inr.inr.inr.inr.inl =>
        have hf := HGOOD.out (by simp [hp])
        have HF := Lib.hid hf
        clear hf HGOOD HBAD
        go_wp2_with (first | (go_at_call 39; refine CR.out.mono ?_; rintro e w' ⟨rfl, rfl⟩) | (go_at_call 41; refine (refPrt_any _ _).mono ?_; rintro e w' ⟨rfl, rfl⟩))
        go_round
        case rel => exact ⟨k + j, m - j, cc - j, A2, by have := HKM.out; omega, by have := HKM.out; omega, rfl, rfl, HF.out.symm, H2.out.1, H2.out.2⟩
        case measure => simp [lenV]; omega
      all_goals
        have hf := HBAD.out (by simp [*])
        subst hf
        clear HGOOD HBAD hsl H2
        go_wp2_with (first | (go_at_call 39; refine CR.out.mono ?_; rintro e w' ⟨rfl, rfl⟩) | (go_at_call 41; refine (refPrt_any _ _).mono ?_; rintro e w' ⟨rfl, rfl⟩))
        go_ret
        exact ⟨rfl, HB.out⟩
    · obtain rfl : m = 0 := by omega
      have hf : v = true := by
        rw [← HK.out.1, List.drop_of_length_le (by have := HKM.out; rw [HL.out]; omega)]; exact inF_nil _ _
      subst hf
      go_wp2
      go_ret
      exact ⟨rfl, HB.out⟩
end Go.Proofs.YtdjpdcjljpmfnaaDoor
